/-
  The walk of lumkeep.MixBack: it returns true.
-/
import Derived.Test.YtkeckdfjgnacnaaMix
import Derived.Test.YtkeckdfjgnacnaaWf
namespace Go.Proofs.Ytkeckdfjgnacnaa
open Go.RowKit

theorem step_12 : Mx.step 1 2 = 16911393301962544615 := by decide +kernel

set_option maxHeartbeats 400000 in
theorem mixBack_nat (x b : Nat) (hx : x < 18446744073709551616) (hb : b < 18446744073709551616) (w : World) :
    Calls Try.prog 4 #[.int .u64 x, .int .u64 b] w fun e w' => e = .returned (.bool true) ∧ Below w.heap.size w w' := by
  have e1 := fun W => step_any 1 2 W (by decide) (by decide)
  rw [step_12] at e1
  have e2 := fun W => step_any x b W hx hb
  have e3 := fun W => undo_any (Mx.step x b) b W (Mx.step_lt _ _) hb
  have e4 := fun W => undo_any x b W hx hb
  have e5 := fun W => step_any (Mx.undo x b) b W (Mx.undo_lt hb) hb
  rw [Mx.undo_step hx hb] at e3
  rw [Mx.step_undo hx] at e5
  generalize Mx.step x b = y at *
  generalize Mx.undo x b = z at *
  go_enter Try.func4, Try.ntmps4
  go_wp2_with fail
  refine (e1 _).mono ?_
  rintro e w1 ⟨rfl, hb1⟩
  go_wp2_with fail
  refine (e2 _).mono ?_
  rintro e w2 ⟨rfl, hb2⟩
  go_wp2_with fail
  refine (e3 _).mono ?_
  rintro e w3 ⟨rfl, hb3⟩
  go_wp2_with fail
  refine (e4 _).mono ?_
  rintro e w4 ⟨rfl, hb4⟩
  go_wp2_with fail
  refine (e5 _).mono ?_
  rintro e w5 ⟨rfl, hb5⟩
  go_wp2_with fail
  go_ret
  have hs1 := hb1.size
  have hs2 := hb2.size
  have hs3 := hb3.size
  have hs4 := hb4.size
  exact ⟨rfl, hb1.trans ((hb2.mono (by omega)).trans ((hb3.mono (by omega)).trans ((hb4.mono (by omega)).trans (hb5.mono (by omega)))))⟩

theorem mixBack_walk (a0 : Int) (a1 : Int) (w0 : (Lit.int .u64 a0).wf = true) (w1 : (Lit.int .u64 a1).wf = true) (w : World) :
    Calls Try.prog 4 #[.int .u64 a0, .int .u64 a1] w fun e w' => e = .returned (.bool true) ∧ Below w.heap.size w w' := by
  obtain ⟨x, rfl, hx⟩ := wf_nat w0
  obtain ⟨b, rfl, hb⟩ := wf_nat w1
  exact mixBack_nat x b hx hb w
end Go.Proofs.Ytkeckdfjgnacnaa
