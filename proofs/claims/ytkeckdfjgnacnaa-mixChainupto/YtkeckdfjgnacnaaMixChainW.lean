/-
  The walk of lumkeep.MixChain: it returns true.
-/
import Derived.Test.YtkeckdfjgnacnaaMixChainOf
import Derived.Test.YtkeckdfjgnacnaaMixRead
import Derived.Test.YtkeckdfjgnacnaaWf
namespace Go.Proofs.Ytkeckdfjgnacnaa
open Go.RowKit

theorem step_1_2 : Mx.step 1 2 = 16911393301962544615 := by decide +kernel
theorem step_1_3 : Mx.step 1 3 = 7796372880487179078 := by decide +kernel

set_option maxHeartbeats 1000000 in
theorem mixChain_out (W : Int) (n1 n2 : Nat) (a b : ByteArray) (w : World) (hn : n1 ≠ n2)
    (e1 : ∀ V, Calls Try.prog 9 #[.int .u64 1, .int .u64 2] V fun e w' => e = .returned (.int .u64 n1) ∧ Below V.heap.size V w')
    (e2 : ∀ V, Calls Try.prog 9 #[.int .u64 1, .int .u64 3] V fun e w' => e = .returned (.int .u64 n2) ∧ Below V.heap.size V w')
    (e3 : ∀ V, Calls Try.prog 7 #[.int .i64 W, .string a] V fun e w' => e = .returned (.tuple #[.int .u64 0, .int .i64 1]) ∧ Below V.heap.size V w')
    (e4 : ∀ V, Calls Try.prog 7 #[.int .i64 W, .string b] V fun e w' => e = .returned (.tuple #[.int .u64 0, .int .i64 1]) ∧ Below V.heap.size V w') :
    Calls Try.prog 6 #[.int .i64 W, .string a, .string b] w fun e w' => e = .returned (.bool true) ∧ Below w.heap.size w w' := by
  have hn' : ((n1 : Int) == (n2 : Int)) = false := by rw [beq_eq_false_iff_ne]; omega
  go_enter Try.func6, Try.ntmps6
  go_wp2_with fail
  refine (e1 _).mono ?_
  rintro e w1 ⟨rfl, hB1⟩
  go_wp2_with fail
  refine (e2 _).mono ?_
  rintro e w2 ⟨rfl, hb2⟩
  have hB2 := hB1.trans (hb2.mono hB1.size)
  clear hb2 hB1
  go_wp2_with fail
  refine (e3 _).mono ?_
  rintro e w3 ⟨rfl, hb3⟩
  have hB3 := hB2.trans (hb3.mono hB2.size)
  clear hb3 hB2
  go_wp2_with fail
  refine (e4 _).mono ?_
  rintro e w4 ⟨rfl, hb4⟩
  have hB4 := hB3.trans (hb4.mono hB3.size)
  clear hb4 hB3
  go_wp2_with fail
  go_ret
  exact ⟨rfl, hB4⟩

theorem mixChain_walk (a0 : Int) (a1 : ByteArray) (a2 : ByteArray) (_w0 : (Lit.int .i64 a0).wf = true) (z1 : a1.size ≤ 1048576) (z2 : a2.size ≤ 1048576) (w : World) :
    Calls Try.prog 6 #[.int .i64 a0, .string a1, .string a2] w fun e w' => e = .returned (.bool true) ∧ Below w.heap.size w w' := by
  have e1 := fun V => step_any 1 2 V (by decide) (by decide)
  have e2 := fun V => step_any 1 3 V (by decide) (by decide)
  rw [step_1_2] at e1
  rw [step_1_3] at e2
  by_cases h : 1 ≤ a0 ∧ a0 ≤ 64
  · obtain ⟨W, rfl⟩ := Int.eq_ofNat_of_zero_le (show 0 ≤ a0 by omega)
    have h1 : 1 ≤ W := by omega
    have h2 : W ≤ 64 := by omega
    refine mixChain_in W _ _ _ _ ((a1.size + 7) / 8) ((a2.size + 7) / 8) a1 a2 (Mx.along W a1.data.toList) (Mx.blkAt a1.data.toList) (Mx.along W a2.data.toList) (Mx.blkAt a2.data.toList) w (by omega) (by omega) (by decide) e1 e2
      (fun V => narrow_in W a1 V h1 h2 (by omega)) (fun V => narrow_in W a2 V h1 h2 (by omega)) (fun V => steps_cells W a1 V h1 h2 z1) (fun V => steps_cells W a2 V h1 h2 z2) ?_ ?_ ?_
    · rw [Lib.size_eq, Mx.along_narrow]
    · rw [Lib.size_eq, Mx.along_narrow]
    · intro he hab
      rw [Lib.size_eq, Lib.size_eq]
      exact Mx.md W _ _ he fun h => hab (ByteArray.ext (Array.toList_inj.1 h))
  · exact mixChain_out a0 _ _ a1 a2 w (by decide) e1 e2 (fun V => narrow_out a0 a1 V (by omega)) (fun V => narrow_out a0 a2 V (by omega))
end Go.Proofs.Ytkeckdfjgnacnaa
