/-
  The walk of lumlaw.MixSays: it returns true.
-/
import Derived.Test.YtkeckdfjgnacnaaMixSaysOf
import Derived.Test.YtkeckdfjgnacnaaMixID
import Derived.Test.YtkeckdfjgnacnaaWf
namespace Go.Proofs.Ytkeckdfjgnacnaa
open Go.RowKit

theorem mixSays_walk (a0 : Int) (a1 : Int) (a2 : Int) (a3 : ByteArray) (w0 : (Lit.int .u64 a0).wf = true) (w1 : (Lit.int .u64 a1).wf = true) (w2 : (Lit.int .i64 a2).wf = true) (z3 : a3.size ≤ 140737488351232) (w : World) :
    Calls Try.prog 3 #[.int .u64 a0, .int .u64 a1, .int .i64 a2, .string a3] w fun e w' => e = .returned (.bool true) ∧ Below w.heap.size w w' := by
  obtain ⟨x, rfl, hx⟩ := wf_nat w0
  obtain ⟨b, rfl, hb⟩ := wf_nat w1
  have hr := fun V => rstep_nat (Mx.undo x b) b V (Mx.undo_lt hb) hb
  rw [Mx.step_undo hx] at hr
  have hl := Nm.low_length 8 (Mx.narrow 64 a3.data.toList)
  have he := fun V => id_eq V _ _ hl hl
  rw [beq_self_eq_true] at he
  by_cases h : 1 ≤ a2 ∧ a2 ≤ 64
  · obtain ⟨W, rfl⟩ := Int.eq_ofNat_of_zero_le (show 0 ≤ a2 by omega)
    exact mixSays_in x b _ _ _ _ _ W a3 (by omega) (by omega) w (fun V => narrow_in W a3 V (by omega) (by omega) z3) (fun V => rnarrow_any W a3 V (by omega) z3) (fun V => step_any x b V hx hb) (fun V => rstep_nat x b V hx hb) (fun V => undo_any x b V hx hb) hr (fun V => sum_any a3 V z3) (fun V => rnarrow_any 64 a3 V (by omega) z3) (fun V => id_any a3 V z3) (fun V => rid_any a3 V z3) he
  · by_cases h1 : a2 < 1
    · exact mixSays_low x b _ _ _ _ a2 a3 h1 w (fun V => narrow_out a2 a3 V (by omega)) (fun V => step_any x b V hx hb) (fun V => rstep_nat x b V hx hb) (fun V => undo_any x b V hx hb) hr (fun V => sum_any a3 V z3) (fun V => rnarrow_any 64 a3 V (by omega) z3) (fun V => id_any a3 V z3) (fun V => rid_any a3 V z3) he
    · exact mixSays_high x b _ _ _ _ a2 a3 (by omega) w (fun V => narrow_out a2 a3 V (by omega)) (fun V => step_any x b V hx hb) (fun V => rstep_nat x b V hx hb) (fun V => undo_any x b V hx hb) hr (fun V => sum_any a3 V z3) (fun V => rnarrow_any 64 a3 V (by omega) z3) (fun V => id_any a3 V z3) (fun V => rid_any a3 V z3) he
end Go.Proofs.Ytkeckdfjgnacnaa
