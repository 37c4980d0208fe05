/-
  A region that draws its order, whose operations only read and whose callees leave what was there: one walk, in the order of the text, over the class of worlds that are as the first one was below a block.
-/
import Derived.Below
import Derived.BigQuiet
namespace Go.Proofs.Ytmoejhjipffohaa
open Go.RowKit

theorem wp_region_below {P : Program} {id : Nat} {Q : Exit → Act → World → Prop} {a : Act} {w : World} {l : List Oper} {B : Nat} {W0 : World} (hm : P.follows .mixedOrders = true) (hB : Region.lexB .any l.toArray = true) (hw : Below B W0 w)
    (h : wpQuiet P l.toArray (fun w' => Below B W0 w') (fun a' => ∀ w', Below B W0 w' → Q .normal a' w') l a) : (Code.region id l.toArray true).wp P Q a w :=
  wp_region_quiet (C := fun w' => Below B W0 w') hm hB hw.drew (by simpa using h)
/-- the class is not empty -/
theorem below_any {B : Nat} {W0 w : World} (hw : Below B W0 w) (p : Prop) : (∀ w' : World, Below B W0 w' → p) = p :=
  propext ⟨fun h => h w hw, fun h _ _ => h⟩
/-- a callee that leaves what was there, met in a world of the class -/
theorem quiet_below {P : Program} {f : FuncId} {args : Array Value} {W0 w : World} {v : Value} (hw : Below W0.heap.size W0 w) (h : Calls P f args w fun e w' => e = .returned v ∧ Below w.heap.size w w') :
    Calls P f args w fun e w'' => e = .returned v ∧ Below W0.heap.size W0 w'' :=
  h.mono fun _ _ ⟨he, hb⟩ => ⟨he, hw.trans (hb.mono hw.size)⟩
end Go.Proofs.Ytmoejhjipffohaa
