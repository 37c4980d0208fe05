/-
  The walk of lumlaw.HuffLengths: it returns true.
-/
import Derived.Test.YtoohekdaihhflaaHpLen
import Derived.Test.YtoohekdaihhflaaRfLenA
import Derived.Test.YtoohekdaihhflaaRfLenB
import Derived.Test.YtoohekdaihhflaaHfEq
namespace Go.Proofs.Ytoohekdaihhflaa
open Go.RowKit

theorem ints_none (w : World) (a : Option Addr) (c : Nat) : Ints w (.slice a 0 c) [] := ⟨.inl ⟨⟨_, _, rfl⟩, rfl⟩⟩
set_option maxHeartbeats 1000000 in
theorem huffLengths_no (v : Value) (w : World)
    (c1 : Calls Try.prog 9 #[v] w fun e w' => e = .returned (.tuple #[.slice none 0 0, .int .i64 1]) ∧ w' = w)
    (c2 : Calls Try.prog 10 #[v] w fun e w' => e = .returned (.tuple #[.slice none 0 0, .int .i64 1]) ∧ Below w.heap.size w w') :
    Calls Try.prog 3 #[v] w fun e w' => e = .returned (.bool true) ∧ Below w.heap.size w w' := by
  go_enter Try.func3, Try.ntmps3
  go_wp2_with fail
  refine c1.mono ?_
  rintro e w1 ⟨rfl, rfl⟩
  clear c1
  go_wp2_with fail
  refine c2.mono ?_
  rintro e w2 ⟨rfl, hb⟩
  clear c2
  have heq := equal_ints (.slice none 0 0) (.slice none 0 0) [] w2 (ints_none _ _ _) (ints_none _ _ _) (by simp)
  go_wp2_with fail
  refine heq.mono ?_
  rintro e w3 ⟨rfl, hb3⟩
  clear heq
  go_wp2_with fail
  go_ret
  exact ⟨rfl, hb.trans (hb3.mono hb.size)⟩
set_option maxHeartbeats 1000000 in
theorem huffLengths_yes (v : Value) (F : List Nat) (w : World) (h : Ints w v (Hf.up F)) (h1 : 1 ≤ F.length) (h2 : F.length ≤ 256) (h3 : ∀ n ∈ F, n ≤ 1048576) :
    Calls Try.prog 3 #[v] w fun e w' => e = .returned (.bool true) ∧ Below w.heap.size w w' := by
  have c1 := lengths_any v F w h h1 h2 h3
  have c2 : ∀ W, Below w.heap.size w W → _ := fun W hW => rlen_any v F W (h.below (Nat.le_refl _) hW) h1 h2 h3
  clear h h3
  go_enter Try.func3, Try.ntmps3
  go_wp2_with fail
  refine c1.mono ?_
  rintro e w1 ⟨v1, out, rfl, hl, o1, hb1⟩
  clear c1
  have c3 := c2 w1 hb1
  clear c2
  go_wp2_with fail
  refine c3.mono ?_
  rintro e w2 ⟨v2, out2, rfl, hl2, o2, hb2⟩
  clear c3
  obtain rfl := hl.once hl2
  have hlen := hl.len
  have i1 : Ints w2 v1 (Hf.up out) := Ints.of_own (by rw [Hf.up_length, hlen]; exact row_below o1 hb2)
  have i2 : Ints w2 v2 (Hf.up out) := Ints.of_own (by rw [Hf.up_length, hlen]; exact o2)
  have heq := equal_ints v1 v2 (Hf.up out) w2 i1 i2 (by rw [Hf.up_length]; omega)
  have hB2 := hb1.trans (hb2.mono hb1.size)
  clear o1 o2 hb1 hb2 i1 i2 hl hl2 hlen
  go_wp2_with fail
  refine heq.mono ?_
  rintro e w4 ⟨rfl, hb3⟩
  clear heq
  go_wp2_with fail
  go_ret
  exact ⟨rfl, hB2.trans (hb3.mono hB2.size)⟩
theorem huffLengths_walk (v0 : Value) (l0 : List Int) (z0 : l0.length ≤ 140737488351232) (_ : ∀ n ∈ l0, (Lit.int .i64 n).wf = true) (w : World) (t0 : Ints w v0 l0) :
    Calls Try.prog 3 #[v0] w fun e w' => e = .returned (.bool true) ∧ Below w.heap.size w w' := by
  cases hs : Hf.sgn 1048576 l0 with
  | false => exact huffLengths_no v0 w (lengths_bad v0 l0 w t0 z0 hs) (rlen_bad v0 l0 w t0 z0 hs)
  | true =>
    obtain ⟨L, rfl, h1, h2, h3⟩ := Hf.sgn_up (most := 1048576) hs
    exact huffLengths_yes v0 L w t0 h1 h2 h3
end Go.Proofs.Ytoohekdaihhflaa
