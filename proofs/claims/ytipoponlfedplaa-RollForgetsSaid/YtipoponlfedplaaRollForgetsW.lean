/-
  The walk of lumkeep.RollForgets: it returns true.
-/
import Derived.Test.YtipoponlfedplaaRollForgetsOf
import Derived.Test.YtipoponlfedplaaRollPushed
import Derived.Test.YtipoponlfedplaaRollLast
namespace Go.Proofs.Ytipoponlfedplaa
open Go.RowKit

theorem of_a : Rl.ofL [97] = 97 := by decide +kernel
theorem zero_cells : Rst.zero.cells.toArray = Z18 := rfl
theorem cat_data (s t : ByteArray) : (s ++ t).data.toList = s.data.toList ++ t.data.toList := by simp

theorem rollForgets_walk (a0 : ByteArray) (a1 : ByteArray) (z0 : a0.size ≤ 140737488351232) (z1 : a1.size ≤ 140737488351232) (w : World) :
    Calls Try.prog 6 #[.string a0, .string a1] w fun e w' => e = .returned (.bool true) ∧ Below w.heap.size w w' := by
  have h0 := Rst.Of.zero
  have h1 := h0.all a0.data.toList
  rw [List.nil_append] at h1
  have h2 := h1.all a1.data.toList
  have e1 := fun V => pushed_any Rst.zero h0.ok a0 V z0
  rw [zero_cells] at e1
  have e2 := fun V => pushed_any (Rst.zero.all a0.data.toList) h1.ok a1 V z1
  have eA := fun V => of_any ⟨#[97]⟩ V (by decide)
  rw [show (⟨#[97]⟩ : ByteArray).data.toList = [97] from rfl, of_a] at eA
  have eB := fun V => of_any (a0 ++ a1) V (by rw [ByteArray.size_append]; omega)
  rw [cat_data] at eB
  generalize (Rst.zero.all a0.data.toList).all a1.data.toList = r2 at *
  generalize Rst.zero.all a0.data.toList = r1 at *
  refine rollForgets_of r1.cells r2.cells (Rl.ofL a0.data.toList) (Rl.ofL (a0.data.toList ++ a1.data.toList)) (Rl.ofL a1.data.toList) a0 a1 w (rollCells_length h1.ok.len _ _) (rollCells_length h2.ok.len _ _) (rollCells_one _ _ _) (rollCells_one _ _ _) ?_ ?_ ?_ z0 z1 e1 e2 eA
    (fun V => of_any a0 V (by omega)) eB (fun V => of_any a1 V (by omega))
  · rw [← h1.sum]; exact rollCells_17 h1.ok.len _ _
  · rw [← h2.sum]; exact rollCells_17 h2.ok.len _ _
  · intro h
    exact (ofL_forgets _ _ (by rw [← Lib.size_eq]; exact h)).symm
end Go.Proofs.Ytipoponlfedplaa
