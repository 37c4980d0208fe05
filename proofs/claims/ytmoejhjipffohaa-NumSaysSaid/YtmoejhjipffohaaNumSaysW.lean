/-
  The walk of lumlaw.NumSays: it returns true.
-/
import Derived.Test.YtmoejhjipffohaaPut
import Derived.Test.YtmoejhjipffohaaGet
import Derived.Test.YtmoejhjipffohaaRefPut
namespace Go.Proofs.Ytmoejhjipffohaa
open Go.RowKit

theorem wf_u64 {n : Int} (h : (Lit.int .u64 n).wf = true) : 0 ≤ n ∧ n ≤ 18446744073709551615 := by
  simpa [Lit.wf, IntKind.min, IntKind.max, IntKind.signed, IntKind.bits] using h

set_option maxHeartbeats 400000 in
theorem numSays_walk (a0 : Int) (a1 : ByteArray) (w0 : (Lit.int .u64 a0).wf = true) (z1 : a1.size ≤ 140737488351232) (w : World) :
    Calls Try.prog 3 #[.int .u64 a0, .string a1] w fun e w' => e = .returned (.bool true) ∧ Below w.heap.size w w' := by
  obtain ⟨n0, n1⟩ := wf_u64 w0
  clear w0
  go_enter Try.func3, Try.ntmps3
  go_wp2_with fail
  refine (get_any a1 _ (by omega)).mono ?_
  rintro e w1 ⟨rfl, rfl⟩
  go_wp2_with fail
  refine (rget_any a1 _ (by omega)).mono ?_
  rintro e w2 ⟨rfl, m, rfl⟩
  generalize Nm.getN a1.data.toList = g
  go_wp2_with fail
  refine (put_any a0 _ n0 n1).mono ?_
  rintro e w3 ⟨rfl, hb3⟩
  go_wp2_with fail
  refine (rput_any a0 _ n0 n1).mono ?_
  rintro e w4 ⟨rfl, hb4⟩
  go_wp2_with fail
  go_ret
  exact ⟨rfl, ((below_drewN (Below.refl _ _) m).trans hb3).trans (hb4.mono hb3.size)⟩
end Go.Proofs.Ytmoejhjipffohaa
