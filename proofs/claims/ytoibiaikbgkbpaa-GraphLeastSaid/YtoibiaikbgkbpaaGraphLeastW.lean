/-
  The walk of GraphLeast.
-/
import Derived.Test.YtoibiaikbgkbpaaGraphLeastOf
import Derived.Test.YtoibiaikbgkbpaaGrOrder
namespace Go.Proofs.Ytoibiaikbgkbpaa
open Go.RowKit

theorem graphLeast_walk (v0 : Value) (l0 : List (List Int)) (v1 : Value) (l1 : List Int) (v2 : Value) (l2 : List Bool) (z0 : l0.length ≤ 9223372036854775807) (f0 : ∀ i, (Gr.kd l0 i).length ≤ 9223372036854775807) (z1 : l1.length ≤ 140737488351232) (_ : ∀ n ∈ l1, (Lit.int .i64 n).wf = true) (w : World) (t0 : Kz w v0 l0) (t1 : Ints w v1 l1) (t2 : Bls w v2 l2) :
    Calls Try.prog 4 #[v0, v1, v2] w fun e w' => e = .returned (.bool true) ∧ Below w.heap.size w w' := by
  exact graphLeast_of v0 v1 v2 l0 l1 l2 w t0 t1 t2 z0 f0 (by omega) (gReach_ok w) (gOrder_ok w)

end Go.Proofs.Ytoibiaikbgkbpaa
