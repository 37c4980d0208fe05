/-
  What the law KeepMore gives.
-/
import Derived.Test.YtemcakegbeaeaaaDoorKpPick
import Derived.Test.YtemcakegbeaeaaaDoorKeepMoreOf
namespace Go.Proofs.YtemcakegbeaeaaaDoor
open Go.RowKit

theorem keepMore_walk (po0 : Kp.Pol) (po1 : Kp.Pol) (v2 : Value) (l2 : List Int) (z2 : l2.length ≤ 140737488351232) (w : World) (t2 : Ints w v2 l2) (hL : Lens w) :
    Calls Tryd.prog 5 #[polV po0, polV po1, v2] w fun e w' => e = .returned (.bool true) ∧ Below w.heap.size w w' :=
  keepMore_of po0 po1 v2 l2 w t2 z2 (kpick_any w hL)

end Go.Proofs.YtemcakegbeaeaaaDoor
