/-
  What the law KeepAgain gives.
-/
import Derived.Test.YtemcakegbeaeaaaDoorKpPick
import Derived.Test.YtemcakegbeaeaaaDoorKeepAgainOf
namespace Go.Proofs.YtemcakegbeaeaaaDoor
open Go.RowKit

theorem keepAgain_walk (po0 : Kp.Pol) (v1 : Value) (l1 : List Int) (z1 : l1.length ≤ 140737488351232) (w : World) (t1 : Ints w v1 l1) (hL : Lens w) :
    Calls Tryd.prog 4 #[polV po0, v1] w fun e w' => e = .returned (.bool true) ∧ Below w.heap.size w w' :=
  keepAgain_of po0 v1 l1 w t1 z1 (kpick_any w hL)

end Go.Proofs.YtemcakegbeaeaaaDoor
