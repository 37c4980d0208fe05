/-
  What the law KeepYears gives.
-/
import Derived.Test.YtemcakegbeaeaaaDoorKpPick
import Derived.Test.YtemcakegbeaeaaaDoorKeepYearsOf
namespace Go.Proofs.YtemcakegbeaeaaaDoor
open Go.RowKit

theorem keepYears_walk (a0 : Int) (v1 : Value) (l1 : List Int) (_w0 : (Lit.int .i64 a0).wf = true) (z1 : l1.length ≤ 140737488351232) (w : World) (t1 : Ints w v1 l1) (hL : Lens w) :
    Calls Tryd.prog 7 #[.int .i64 a0, v1] w fun e w' => e = .returned (.bool true) ∧ Below w.heap.size w w' :=
  keepYears_of a0 v1 l1 w t1 z1 hL (kpick_any w hL)

end Go.Proofs.YtemcakegbeaeaaaDoor
