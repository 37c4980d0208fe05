/-
  The walk of lumlaw.HuffCodes: it returns true.
-/
import Derived.Test.YtoohekdaihhflaaHfRefC
import Derived.Test.YtoohekdaihhflaaHfEq
namespace Go.Proofs.Ytoohekdaihhflaa
open Go.RowKit

theorem ints_nil (w : World) (a : Option Addr) (c : Nat) : Ints w (.slice a 0 c) [] := ⟨.inl ⟨⟨_, _, rfl⟩, rfl⟩⟩
set_option maxHeartbeats 1000000 in
theorem huffCodes_no (v : Value) (w : World) (K E F : Int)
    (k1 : Calls Try.prog 12 #[v] w fun e w' => e = .returned (.tuple #[.int .i64 K, .int .i64 E]) ∧ w' = w)
    (k2 : Calls Try.prog 13 #[v] w fun e w' => e = .returned (.tuple #[.int .i64 K, .int .i64 E]) ∧ w' = w)
    (c1 : Calls Try.prog 14 #[v] w fun e w' => e = .returned (.tuple #[.slice none 0 0, .int .i64 F]) ∧ w' = w)
    (c2 : Calls Try.prog 15 #[v] w fun e w' => e = .returned (.tuple #[.slice none 0 0, .int .i64 F]) ∧ w' = w) :
    Calls Try.prog 4 #[v] w fun e w' => e = .returned (.bool true) ∧ Below w.heap.size w w' := by
  have heq := equal_ints (.slice none 0 0) (.slice none 0 0) [] w (ints_nil _ _ _) (ints_nil _ _ _) (by simp)
  go_enter Try.func4, Try.ntmps4
  go_wp2_with fail
  refine k1.mono ?_
  rintro e w1 ⟨rfl, rfl⟩
  clear k1
  go_wp2_with fail
  refine k2.mono ?_
  rintro e w1 ⟨rfl, rfl⟩
  clear k2
  go_wp2_with fail
  refine c1.mono ?_
  rintro e w1 ⟨rfl, rfl⟩
  clear c1
  go_wp2_with fail
  refine c2.mono ?_
  rintro e w1 ⟨rfl, rfl⟩
  clear c2
  go_wp2_with fail
  refine heq.mono ?_
  rintro e w1 ⟨rfl, hb⟩
  clear heq
  go_wp2_with fail
  go_ret
  exact ⟨rfl, hb⟩

set_option maxHeartbeats 1000000 in
theorem huffCodes_yes (v : Value) (w : World) (K : Int) (C : List Int) (hC : C.length ≤ 256)
    (k1 : Calls Try.prog 12 #[v] w fun e w' => e = .returned (.tuple #[.int .i64 K, .int .i64 0]) ∧ w' = w)
    (k2 : Calls Try.prog 13 #[v] w fun e w' => e = .returned (.tuple #[.int .i64 K, .int .i64 0]) ∧ w' = w)
    (c1 : Calls Try.prog 14 #[v] w fun e w' => ∃ v', e = .returned (.tuple #[v', .int .i64 0]) ∧ w'.ownsRow w.heap.size 3 1 v' C.length (C.map Iv) ∧ Below w.heap.size w w')
    (c2 : ∀ W, Below w.heap.size w W → Calls Try.prog 15 #[v] W fun e w' => ∃ v', e = .returned (.tuple #[v', .int .i64 0]) ∧ w'.ownsRow W.heap.size 3 1 v' C.length (C.map Iv) ∧ Below W.heap.size W w') :
    Calls Try.prog 4 #[v] w fun e w' => e = .returned (.bool true) ∧ Below w.heap.size w w' := by
  go_enter Try.func4, Try.ntmps4
  go_wp2_with fail
  refine k1.mono ?_
  rintro e w1 ⟨rfl, rfl⟩
  clear k1
  go_wp2_with fail
  refine k2.mono ?_
  rintro e w1 ⟨rfl, rfl⟩
  clear k2
  go_wp2_with fail
  refine c1.mono ?_
  rintro e w2 ⟨v1, rfl, o1, hb1⟩
  clear c1
  go_wp2_with fail
  refine (c2 _ hb1).mono ?_
  rintro e w3 ⟨v2, rfl, o2, hb2⟩
  clear c2
  have heq := equal_ints v1 v2 C w3 (Ints.of_own (row_below o1 hb2)) (Ints.of_own o2) (by omega)
  have hB2 := hb1.trans (hb2.mono hb1.size)
  clear o1 o2 hb1 hb2
  go_wp2_with fail
  refine heq.mono ?_
  rintro e w4 ⟨rfl, hb3⟩
  clear heq
  go_wp2_with fail
  go_ret
  exact ⟨rfl, hB2.trans (hb3.mono hB2.size)⟩

theorem huffCodes_walk (v0 : Value) (l0 : List Int) (z0 : l0.length ≤ 140737488351232) (_ : ∀ n ∈ l0, (Lit.int .i64 n).wf = true) (w : World) (t0 : Ints w v0 l0) :
    Calls Try.prog 4 #[v0] w fun e w' => e = .returned (.bool true) ∧ Below w.heap.size w w' := by
  cases hs : Hf.sgn 48 l0 with
  | false => exact huffCodes_no v0 w 0 1 1 (kraft_bad v0 l0 w t0 z0 hs) (rkraft_bad v0 l0 w t0 z0 hs) (codes_bad v0 l0 w t0 z0 hs) (rcodes_bad v0 l0 w t0 z0 hs)
  | true =>
    obtain ⟨L, rfl, h1, h2, h3⟩ := Hf.sgn_up (most := 48) hs
    by_cases hk : 281474976710656 < Hf.ksum L
    · exact huffCodes_no v0 w _ 0 4 (kraft_any v0 L w t0 h1 h2 h3) (rkraft_any v0 L w t0 h1 h2 h3) (codes_form v0 L w t0 h1 h2 h3 hk) (rcodes_form v0 L w t0 h1 h2 h3 hk)
    · refine huffCodes_yes v0 w _ (Hf.codes L) (by rw [Hf.codes_length]; exact h2) (kraft_any v0 L w t0 h1 h2 h3) (rkraft_any v0 L w t0 h1 h2 h3) ?_ fun W hW => ?_
      · rw [Hf.codes_length]
        exact codes_any v0 L w t0 h1 h2 h3 (by omega)
      · rw [Hf.codes_length]
        exact rcodes_any v0 L W (t0.below (Nat.le_refl _) hW) h1 h2 h3 (by omega)
end Go.Proofs.Ytoohekdaihhflaa
