/-
  What isKind, isNumber and checkPlace of package index answer.
-/
import Derived.Test.YtllioidjelgafabPlMem
namespace Go.Proofs.Ytllioidjelgafab
open Go.RowKit
set_option maxRecDepth 4000

def kB' (k : Int) : Bool := decide (k = 1 ∨ k = 2 ∨ k = 3)
def nB (n : Int) : Bool := decide (0 ≤ n ∧ n ≤ 1099511627776)

theorem ixKind_any (k : Int) (w : World) :
    Calls Try.prog 35 #[.int .i64 k] w fun e w' => e = .returned (.bool (kB' k)) ∧ w' = w := by
  by_cases h1 : k = 1
  · subst h1
    go_enter Try.func35, Try.ntmps35
    go_wp2_with fail
    go_ret
    exact ⟨rfl, rfl⟩
  · by_cases h2 : k = 2
    · subst h2
      go_enter Try.func35, Try.ntmps35
      go_wp2_with fail
      go_ret
      exact ⟨rfl, rfl⟩
    · by_cases h3 : k = 3
      · subst h3
        go_enter Try.func35, Try.ntmps35
        go_wp2_with fail
        go_ret
        exact ⟨rfl, rfl⟩
      · have hf : kB' k = false := by simp [kB', h1, h2, h3]
        rw [hf]
        have e1 : (k == 1) = false := by simpa using h1
        have e2 : (k == 2) = false := by simpa using h2
        have e3 : (k == 3) = false := by simpa using h3
        clear h1 h2 h3 hf
        go_enter Try.func35, Try.ntmps35
        go_wp2_with fail
        go_ret
        exact ⟨rfl, rfl⟩

theorem ixNum_any (n : Int) (w : World) :
    Calls Try.prog 24 #[.int .i64 n] w fun e w' => e = .returned (.bool (nB n)) ∧ w' = w := by
  by_cases h1 : 0 ≤ n
  · by_cases h2 : n ≤ 1099511627776
    · have hf : nB n = true := by simp [nB, h1, h2]
      rw [hf]
      go_enter Try.func24, Try.ntmps24
      go_wp2_with fail
      go_ret
      exact ⟨rfl, rfl⟩
    · have hf : nB n = false := by simp [nB, h2]
      rw [hf]
      go_enter Try.func24, Try.ntmps24
      go_wp2_with fail
      go_ret
      exact ⟨rfl, rfl⟩
  · have hf : nB n = false := by simp [nB, h1]
    rw [hf]
    go_enter Try.func24, Try.ntmps24
    go_wp2_with fail
    go_ret
    exact ⟨rfl, rfl⟩

theorem plErr_of (t : Plc) : Ix.plErr t.p = if kB' t.kind = true then (if nB t.pack = true then (if nB t.at_ = true then (if nB t.len = true then 0 else 1) else 1) else 1) else 5 := by
  obtain ⟨i, hi, k, p, a, l⟩ := t
  show (if ¬ (k = 1 ∨ k = 2 ∨ k = 3) then (5 : Int) else if p < 0 ∨ 1099511627776 < p ∨ a < 0 ∨ 1099511627776 < a ∨ l < 0 ∨ 1099511627776 < l then 1 else 0) = if kB' k = true then (if nB p = true then (if nB a = true then (if nB l = true then 0 else 1) else 1) else 1) else 5
  by_cases hk : k = 1 ∨ k = 2 ∨ k = 3
  · rw [if_neg (fun h => h hk), if_pos (show kB' k = true from decide_eq_true hk)]
    by_cases hp : 0 ≤ p ∧ p ≤ 1099511627776
    · rw [if_pos (show nB p = true from decide_eq_true hp)]
      by_cases ha : 0 ≤ a ∧ a ≤ 1099511627776
      · rw [if_pos (show nB a = true from decide_eq_true ha)]
        by_cases hl : 0 ≤ l ∧ l ≤ 1099511627776
        · rw [if_pos (show nB l = true from decide_eq_true hl), if_neg (by omega)]
        · rw [if_neg (show ¬ nB l = true from fun h => hl (of_decide_eq_true h)), if_pos (by omega)]
      · rw [if_neg (show ¬ nB a = true from fun h => ha (of_decide_eq_true h)), if_pos (by omega)]
    · rw [if_neg (show ¬ nB p = true from fun h => hp (of_decide_eq_true h)), if_pos (by omega)]
  · rw [if_pos hk, if_neg (show ¬ kB' k = true from fun h => hk (of_decide_eq_true h))]

set_option maxHeartbeats 1000000 in
theorem ckPlace_of (x0 x1 x2 x3 x4 x5 x6 x7 : Value) (kd pk a l er : Int) (w : World)
    (he : er = if kB' kd = true then (if nB pk = true then (if nB a = true then (if nB l = true then 0 else 1) else 1) else 1) else 5) :
    Calls Try.prog 25 #[.agg #[x0, x1, x2, x3, x4, x5, x6, x7, .int .i64 kd, .int .i64 pk, .int .i64 a, .int .i64 l]] w fun e w' => e = .returned (.int .i64 er) ∧ Below w.heap.size w w' := by
  have c0 := fun n W => ixKind_any n W
  have cN := fun n W => ixNum_any n W
  have hb : Hid (∀ o, Below w.heap.size w (w.alloc o)) := fun o => (Below.refl _ w).alloc (Nat.le_refl _) o
  cases hk : kB' kd with
  | false =>
    rw [hk] at he
    obtain rfl : er = 5 := he
    go_enter Try.func25, Try.ntmps25
    go_wp2_with (first | (go_at_call 35; refine (c0 _ _).mono ?_; rintro e u ⟨rfl, rfl⟩) | (go_at_call 24; refine (cN _ _).mono ?_; rintro e u ⟨rfl, rfl⟩))
    go_ret
    exact ⟨rfl, hb.out _⟩
  | true =>
  cases h1 : nB pk with
  | false =>
    rw [hk, h1] at he
    obtain rfl : er = 1 := he
    go_enter Try.func25, Try.ntmps25
    go_wp2_with (first | (go_at_call 35; refine (c0 _ _).mono ?_; rintro e u ⟨rfl, rfl⟩) | (go_at_call 24; refine (cN _ _).mono ?_; rintro e u ⟨rfl, rfl⟩))
    go_ret
    exact ⟨rfl, hb.out _⟩
  | true =>
  cases h2 : nB a with
  | false =>
    rw [hk, h1, h2] at he
    obtain rfl : er = 1 := he
    go_enter Try.func25, Try.ntmps25
    go_wp2_with (first | (go_at_call 35; refine (c0 _ _).mono ?_; rintro e u ⟨rfl, rfl⟩) | (go_at_call 24; refine (cN _ _).mono ?_; rintro e u ⟨rfl, rfl⟩))
    go_ret
    exact ⟨rfl, hb.out _⟩
  | true =>
  cases h3 : nB l with
  | false =>
    rw [hk, h1, h2, h3] at he
    obtain rfl : er = 1 := he
    go_enter Try.func25, Try.ntmps25
    go_wp2_with (first | (go_at_call 35; refine (c0 _ _).mono ?_; rintro e u ⟨rfl, rfl⟩) | (go_at_call 24; refine (cN _ _).mono ?_; rintro e u ⟨rfl, rfl⟩))
    go_ret
    exact ⟨rfl, hb.out _⟩
  | true =>
    rw [hk, h1, h2, h3] at he
    obtain rfl : er = 0 := he
    go_enter Try.func25, Try.ntmps25
    go_wp2_with (first | (go_at_call 35; refine (c0 _ _).mono ?_; rintro e u ⟨rfl, rfl⟩) | (go_at_call 24; refine (cN _ _).mono ?_; rintro e u ⟨rfl, rfl⟩))
    go_ret
    exact ⟨rfl, hb.out _⟩

theorem ckPlace_any (t : Plc) (w : World) :
    Calls Try.prog 25 #[plV t] w fun e w' => e = .returned (.int .i64 (Ix.plErr t.p)) ∧ Below w.heap.size w w' := by
  have he := plErr_of t
  obtain ⟨x, hx, k, p, a, l⟩ := t
  obtain ⟨b0, b1, b2, b3, b4, b5, b6, b7, rfl⟩ := oct x hx
  exact ckPlace_of _ _ _ _ _ _ _ _ k p a l _ w he
end Go.Proofs.Ytllioidjelgafab
