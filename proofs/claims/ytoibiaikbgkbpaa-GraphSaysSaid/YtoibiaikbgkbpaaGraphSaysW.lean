/-
  The walk of GraphSays.
-/
import Derived.Test.YtoibiaikbgkbpaaGrOrder
namespace Go.Proofs.Ytoibiaikbgkbpaa
open Go.RowKit

theorem graphSays_walk (v0 : Value) (l0 : List (List Int)) (v1 : Value) (l1 : List Int) (z0 : l0.length ≤ 9223372036854775807) (f0 : ∀ i, (Gr.kd l0 i).length ≤ 9223372036854775807) (z1 : l1.length ≤ 140737488351232) (_ : ∀ n ∈ l1, (Lit.int .i64 n).wf = true) (w : World) (t0 : Kz w v0 l0) (t1 : Ints w v1 l1) :
    Calls Try.prog 3 #[v0, v1] w fun e w' => e = .returned (.bool true) ∧ Below w.heap.size w w' := by
  exact graphSays_of v0 v1 l0 l1 w t0 t1 z0 f0 (by omega) (gReach_ok w) (gOrder_ok w) (gCheck_ok w)

end Go.Proofs.Ytoibiaikbgkbpaa
