/-
  Pieces of one length, and how long the pieces by the rule are (no Go in it).
-/
import Derived.Test.YtdalpicpkandcabChunkMath
namespace Go.Proofs.Ytdalpicpkandcab
namespace Ck

/-- the first k pieces of n bytes -/
def fx (n : Nat) (s : Bs) (k : Nat) : List Bs := (List.range k).map fun j => (s.drop (j * n)).take n
theorem fx_succ (n : Nat) (s : Bs) (k : Nat) : fx n s (k + 1) = fx n s k ++ [(s.drop (k * n)).take n] := by
  rw [fx, List.range_succ, List.map_append]; rfl
theorem fx_length (n : Nat) (s : Bs) (k : Nat) : (fx n s k).length = k := by rw [fx, List.length_map, List.length_range]
theorem fx_join (n : Nat) (s : Bs) (k : Nat) : (fx n s k).flatten = s.take (k * n) := by
  induction k with
  | zero => simp [fx]
  | succ k ih =>
    rw [fx_succ, List.flatten_append, ih, Nat.succ_mul, List.take_add]
    simp
/-- how many pieces of n bytes there are -/
def many (n len : Nat) : Nat := (len + n - 1) / n
theorem many_ge {n len : Nat} (h : 0 < n) : len ≤ many n len * n := by
  have h1 := Nat.div_add_mod (len + n - 1) n
  have h2 := Nat.mod_lt (len + n - 1) h
  rw [many, Nat.mul_comm]
  omega
theorem many_lt {n len k : Nat} (h : 0 < n) : k < many n len ↔ k * n < len := by
  rw [many, Nat.lt_iff_add_one_le, Nat.le_div_iff_mul_le h, Nat.succ_mul]
  omega
def fixed (n : Nat) (s : Bs) : List Bs := fx n s (many n s.length)
theorem fixed_join {n : Nat} (h : 0 < n) (s : Bs) : (fixed n s).flatten = s := by
  rw [fixed, fx_join, List.take_of_length_le (many_ge h)]
theorem fixed_length (n : Nat) (s : Bs) : (fixed n s).length = many n s.length := fx_length _ _ _
theorem fixed_get {n : Nat} {s : Bs} {j : Nat} (hj : j < (fixed n s).length) : (fixed n s)[j] = (s.drop (j * n)).take n := by
  simp [fixed, fx]
/-- each piece is as long as it may be, and none is empty -/
theorem fixed_size {n : Nat} {s : Bs} {j : Nat} (h : 0 < n) (hj : j < (fixed n s).length) : 0 < (fixed n s)[j].length ∧ (fixed n s)[j].length ≤ n ∧ (j + 1 < (fixed n s).length → (fixed n s)[j].length = n) := by
  rw [fixed_get hj, List.length_take, List.length_drop]
  have h1 := (many_lt (len := s.length) (k := j) h).1 (by rw [← fixed_length]; exact hj)
  refine ⟨by omega, by omega, fun h2 => ?_⟩
  have h3 := (many_lt (len := s.length) (k := j + 1) h).1 (by rw [← fixed_length]; exact h2)
  rw [Nat.succ_mul] at h3
  omega

/-! ### the rule's pieces -/
variable {mn mx bits : Nat} {sum : Bs → Nat}
theorem run_max (hm : 0 < mx) (s : Bs) : ∀ (l : List Bs) (r : Bs), r.length < mx → (∀ p ∈ l, p.length ≤ mx) → ∀ p ∈ (run (ends mn mx bits sum) (l, r) s).1, p.length ≤ mx := by
  induction s with
  | nil => intro l r _ h; exact h
  | cons b s ih =>
    intro l r hr h
    rw [run_cons]
    unfold step
    by_cases e : ends mn mx bits sum (r ++ [b])
    · simp only [e, if_true]
      refine ih _ _ hm fun p hp => ?_
      rcases List.mem_append.1 hp with hp | hp
      · exact h p hp
      · rw [List.mem_singleton.1 hp, List.length_append, List.length_singleton]; omega
    · simp only [e, Bool.false_eq_true, if_false]
      refine ih _ _ ?_ h
      rcases Nat.lt_or_ge (r ++ [b]).length mx with h1 | h1
      · exact h1
      · exfalso
        apply e
        rw [List.length_append, List.length_singleton] at h1
        simp [ends, show r.length + 1 = mx from by omega]
theorem pieces_max (hm : 0 < mx) (s : Bs) : ∀ p ∈ (pieces (ends mn mx bits sum) s).1, p.length ≤ mx :=
  run_max hm s [] [] hm (fun _ h => by cases h)
theorem pieces_min (hm : mn ≤ mx) (s : Bs) : ∀ p ∈ (pieces (ends mn mx bits sum) s).1, mn ≤ p.length :=
  fun p hp => ends_min (pieces_ends s p hp) hm
/-- P12: no piece is empty or too long; all but the last are as long as they must be -/
theorem cut_size (h0 : 0 < mn) (hm : mn ≤ mx) (s : Bs) {j : Nat} (hj : j < (cut (ends mn mx bits sum) s).length) :
    0 < (cut (ends mn mx bits sum) s)[j].length ∧ (cut (ends mn mx bits sum) s)[j].length ≤ mx ∧ (j + 1 < (cut (ends mn mx bits sum) s).length → mn ≤ (cut (ends mn mx bits sum) s)[j].length) := by
  obtain ⟨l, q, hp⟩ : ∃ l q, pieces (ends mn mx bits sum) s = (l, q) := ⟨_, _, rfl⟩
  have a1 : ∀ p ∈ l, p.length ≤ mx := by have := pieces_max (mn := mn) (bits := bits) (sum := sum) (show 0 < mx by omega) s; rw [hp] at this; exact this
  have a2 : ∀ p ∈ l, mn ≤ p.length := by have := pieces_min (bits := bits) (sum := sum) hm s; rw [hp] at this; exact this
  have a3 : q.length < mx := by have := pieces_short mn mx bits sum s (by omega); rw [hp] at this; exact this
  have hc := cut_of hp
  by_cases e : q = []
  · rw [if_pos e] at hc
    simp only [hc] at hj ⊢
    have hm := List.getElem_mem hj
    have := a1 _ hm
    have := a2 _ hm
    exact ⟨by omega, by omega, fun _ => by omega⟩
  · rw [if_neg e] at hc
    simp only [hc] at hj ⊢
    rw [List.length_append, List.length_singleton] at hj ⊢
    rcases Nat.lt_or_ge j l.length with h1 | h1
    · rw [List.getElem_append_left h1]
      have hm := List.getElem_mem h1
      have := a1 _ hm
      have := a2 _ hm
      exact ⟨by omega, by omega, fun _ => by omega⟩
    · obtain rfl : j = l.length := by omega
      rw [List.getElem_append_right (Nat.le_refl _)]
      have hq : 0 < q.length := List.length_pos_iff.2 e
      simp
      exact ⟨hq, by omega⟩
end Ck
end Go.Proofs.Ytdalpicpkandcab
