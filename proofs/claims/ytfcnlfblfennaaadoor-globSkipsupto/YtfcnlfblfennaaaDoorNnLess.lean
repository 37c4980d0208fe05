/-
  P39: what cmp.Compare and slices.Compare over texts, and Less of package names, answer.
-/
import Derived.Test.YtfcnlfblfennaaaDoorNnSplit
import Derived.Test.YtfcnlfblfennaaaDoorNnOrd
namespace Go.Proofs.YtfcnlfblfennaaaDoor
open Go.RowKit

/-- two texts held against each other by their bytes -/
def cmpB (s t : ByteArray) : Int := if Op.bytesLess s.data.toList t.data.toList then -1 else if Op.bytesLess t.data.toList s.data.toList then 1 else 0
/-- two lists -/
def cmpL : List ByteArray → List ByteArray → Int
  | [], [] => 0
  | [], _ :: _ => -1
  | _ :: _, [] => 1
  | s :: l, t :: m => if cmpB s t ≠ 0 then cmpB s t else cmpL l m
theorem cmpL_ahead : ∀ (l m : List ByteArray), decide (cmpL l m < 0) = Nn.ahead (dl l) (dl m)
  | [], [] => rfl
  | [], _ :: _ => rfl
  | _ :: _, [] => rfl
  | s :: l, t :: m => by
    have ih := cmpL_ahead l m
    show _ = Nn.ahead (s.data.toList :: dl l) (t.data.toList :: dl m)
    rw [Nn.ahead, cmpL]
    unfold cmpB
    by_cases e : s.data.toList = t.data.toList
    · rw [if_pos e, e, Nn.bl_irr]
      simpa using ih
    · rw [if_neg e]
      have ht := Nn.bl_tri _ _ e
      cases h1 : Op.bytesLess s.data.toList t.data.toList
      · rw [h1] at ht
        have h2 : Op.bytesLess t.data.toList s.data.toList = true := by
          cases h : Op.bytesLess t.data.toList s.data.toList
          · rw [h] at ht; cases ht
          · rfl
        simp [h2]
      · simp

theorem Nn.errsF_len' : ∀ (l : List Nn.Name) (i : Nat), Nn.errsF i l = 0 → i ≤ 8 → i + l.length ≤ 8
  | [], i, _, h => by simpa using h
  | s :: l, i, h, hi => by
    rw [Nn.errsF] at h
    split at h
    · simp at h
    split at h
    · rename_i q; exact absurd h q
    · have := Nn.errsF_len' l (i + 1) h (by omega)
      simp only [List.length_cons]
      omega
theorem Nn.errs_len' {l : List Nn.Name} (h : Nn.errs l = 0) : l.length ≤ 8 := by have := Nn.errsF_len' l 0 h (by omega); omega
/-- a list of names that is right is short -/
theorem split_len {p : List UInt8} (h : (Nn.split p).2 = 0) : (Nn.split p).1.length ≤ 8 := by
  have hj := Nn.split_join (p := p) (m := (Nn.split p).1) (Prod.ext rfl h)
  exact Nn.errs_len' (Nn.join_ok hj).1
end Go.Proofs.YtfcnlfblfennaaaDoor
