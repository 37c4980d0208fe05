/-
  A region that draws its order, whose operations only read (what is read out of memory too) and whose callees leave what was there: one walk, in the order of the text, over the worlds that are as the first one was below a block.
-/
import Derived.Below
import Derived.BigQuiet
namespace Go.Proofs.Ytoibiaikbgkbpaa
open Go.RowKit

/-- the worlds that are as W0 was below block B -/
structure Since (B : Nat) (W0 : World) where
  val : World
  property : Below B W0 val
theorem wp_region_since {P : Program} {id : Nat} {Q : Exit → Act → World → Prop} {a : Act} {w : World} {l : List Oper} {B : Nat} {W0 : World} (hm : P.follows .mixedOrders = true) (hB : Region.lexB .any l.toArray = true) (hw : Below B W0 w)
    (h : wpQuiet P l.toArray (fun w' => ∃ X : Since B W0, w' = X.val) (fun a' => ∀ w', (∃ X : Since B W0, w' = X.val) → Q .normal a' w') l a) : (Code.region id l.toArray true).wp P Q a w :=
  wp_region_quiet (C := fun w' => ∃ X : Since B W0, w' = X.val) hm hB ⟨⟨_, hw.drew⟩, rfl⟩ h
/-- a callee that leaves what was there, met in such a world -/
theorem quiet_since {P : Program} {f : FuncId} {args : Array Value} {W0 : World} {v : Value} (X : Since W0.heap.size W0) (h : Calls P f args X.val fun e w' => e = .returned v ∧ Below X.val.heap.size X.val w') :
    Calls P f args X.val fun e w'' => e = .returned v ∧ ∃ Y : Since W0.heap.size W0, w'' = Y.val :=
  h.mono fun _ w' ⟨he, hb⟩ => ⟨he, ⟨w', X.property.trans (hb.mono X.property.size)⟩, rfl⟩
end Go.Proofs.Ytoibiaikbgkbpaa
