/-
  The walk of lumlaw.NumInts: it returns true.
-/
import Derived.Test.YtmoejhjipffohaaPutInt
import Derived.Test.YtmoejhjipffohaaGetInt
import Derived.Test.YtmoejhjipffohaaRefPutInt
import Derived.Test.YtmoejhjipffohaaRefGetIntAny
namespace Go.Proofs.Ytmoejhjipffohaa
open Go.RowKit

theorem wf_i64 {n : Int} (h : (Lit.int .i64 n).wf = true) : -9223372036854775808 ≤ n ∧ n ≤ 9223372036854775807 := by
  simpa [Lit.wf, IntKind.min, IntKind.max, IntKind.signed, IntKind.bits] using h

set_option maxHeartbeats 400000 in
theorem numInts_walk (a0 : Int) (a1 : ByteArray) (w0 : (Lit.int .i64 a0).wf = true) (z1 : a1.size ≤ 140737488351232) (w : World) :
    Calls Try.prog 4 #[.int .i64 a0, .string a1] w fun e w' => e = .returned (.bool true) ∧ Below w.heap.size w w' := by
  obtain ⟨n0, n1⟩ := wf_i64 w0
  clear w0
  go_enter Try.func4, Try.ntmps4
  go_wp2_with fail
  refine (getI_any a1 _ (by omega)).mono ?_
  rintro e w1 ⟨rfl, rfl⟩
  go_wp2_with fail
  refine (rgetI_any a1 _ (by omega)).mono ?_
  rintro e w2 ⟨rfl, hb2⟩
  generalize Nm.getI a1.data.toList = g
  go_wp2_with fail
  refine (putI_any a0 _ n0 n1).mono ?_
  rintro e w3 ⟨rfl, hb3⟩
  go_wp2_with fail
  refine (rputI_any a0 _ n0 n1).mono ?_
  rintro e w4 ⟨rfl, hb4⟩
  go_wp2_with fail
  go_ret
  have s2 := hb2.size
  have s3 := hb3.size
  exact ⟨rfl, (hb2.trans (hb3.mono s2)).trans (hb4.mono (by omega))⟩
end Go.Proofs.Ytmoejhjipffohaa
