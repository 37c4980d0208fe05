/-
  The walk of lumlaw.NumFloats: it returns true.
-/
import Derived.Test.YtmoejhjipffohaaFloat
import Derived.Test.YtmoejhjipffohaaGetFloat
import Derived.Test.YtmoejhjipffohaaRefFloat
import Derived.Test.YtmoejhjipffohaaRefGetFloat
namespace Go.Proofs.Ytmoejhjipffohaa
open Go.RowKit

theorem wf_f64 {n : Nat} (h : (Lit.float .f64 n).wf = true) : n < 18446744073709551616 := by
  simpa [Lit.wf] using h

set_option maxHeartbeats 400000 in
theorem numFloats_walk (a0 : Nat) (a1 : ByteArray) (w0 : (Lit.float .f64 a0).wf = true) (z1 : a1.size ≤ 140737488351232) (w : World) :
    Calls Try.prog 5 #[.float .f64 a0, .string a1] w fun e w' => e = .returned (.bool true) ∧ Below w.heap.size w w' := by
  have n1 := wf_f64 w0
  clear w0
  go_enter Try.func5, Try.ntmps5
  go_wp2_with fail
  refine (getF_any a1 _ (by omega)).mono ?_
  rintro e w1 ⟨rfl, rfl⟩
  go_wp2_with fail
  refine (rgetF_any a1 _ (by omega)).mono ?_
  rintro e w2 ⟨rfl, hb2⟩
  generalize Nm.getF a1.data.toList = g
  have hrb := run_bits g.1
  go_wp2_with fail
  refine (putF_any a0 _ n1).mono ?_
  rintro e w3 ⟨rfl, hb3⟩
  go_wp2_with fail
  refine (rputF_any a0 _ n1).mono ?_
  rintro e w4 ⟨rfl, hb4⟩
  go_wp2_with fail
  go_ret
  have s2 := hb2.size
  have s3 := hb3.size
  exact ⟨rfl, (hb2.trans (hb3.mono s2)).trans (hb4.mono (by omega))⟩
end Go.Proofs.Ytmoejhjipffohaa
