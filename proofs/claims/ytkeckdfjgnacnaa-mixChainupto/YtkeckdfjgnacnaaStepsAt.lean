/-
  The cells of the steps of a text, as lumkeep.MixChain reads them.
-/
import Derived.Test.YtkeckdfjgnacnaaSteps
namespace Go.Proofs.Ytkeckdfjgnacnaa
open Go.RowKit

namespace Mx
theorem tris_length (w : Nat) (l : List UInt8) (m : Nat) : (tris w l m).length = 3 * m := by
  induction m with
  | zero => rfl
  | succ m ih => rw [tris, List.length_append, ih, tri]; simp only [List.length_cons, List.length_nil]; omega
theorem tris_get (w : Nat) (l : List UInt8) (m i r : Nat) (h : i < m) (hr : r < 3) : (tris w l m)[3 * i + r]? = (tri w l i)[r]? := by
  induction m with
  | zero => omega
  | succ m ih =>
    have hl := tris_length w l m
    rw [tris]
    by_cases hi : i < m
    · rw [List.getElem?_append_left (by omega), ih hi]
    · obtain rfl : i = m := by omega
      rw [List.getElem?_append_right (by omega), show 3 * i + r - (tris w l i).length = r from by omega]
end Mx

/-- the cells of a row of steps -/
def stepsAt (w : World) (g k : Nat) (A P : Nat → Nat) : Prop :=
  ∀ i, i < k → w.cell? ⟨g, i * 3, none⟩ = some (.int .u64 (A i : Nat)) ∧ w.cell? ⟨g, i * 3 + 1, none⟩ = some (.int .u64 (P i : Nat)) ∧ w.cell? ⟨g, i * 3 + 2, none⟩ = some (.int .u64 (A (i + 1) : Nat))
theorem stepsAt.below {w w' : World} {g k : Nat} {A P : Nat → Nat} (h : stepsAt w g k A P) {B : Nat} (hg : g < B) (hb : Below B w w') : stepsAt w' g k A P := fun i hi =>
  ⟨(hb.cell (p := ⟨g, i * 3, none⟩) hg).trans (h i hi).1, (hb.cell (p := ⟨g, i * 3 + 1, none⟩) hg).trans (h i hi).2.1, (hb.cell (p := ⟨g, i * 3 + 2, none⟩) hg).trans (h i hi).2.2⟩

theorem steps_cells (W : Nat) (s : ByteArray) (w : World) (h1 : 1 ≤ W) (hW : W ≤ 64) (hs : s.size ≤ 1048576) :
    Calls Try.prog 16 #[.int .i64 W, .string s] w fun e w' => ∃ g cap, e = .returned (.slice (some ⟨g, 0, none⟩) ((s.size + 7) / 8 + 1) cap) ∧ w.heap.size ≤ g ∧ g < w'.heap.size ∧
      stepsAt w' g ((s.size + 7) / 8 + 1) (Mx.along W s.data.toList) (Mx.blkAt s.data.toList) ∧ Below w.heap.size w w' := by
  refine (steps_any W s w h1 hW hs).mono ?_
  rintro e w' ⟨v, rfl, hown, hb⟩
  rcases hown.2 with ⟨_, h0⟩ | ⟨g, cap, cur, rfl, hg, hh, _⟩
  · omega
  · refine ⟨g, cap, rfl, hg, (Array.getElem?_eq_some_iff.1 hh).1, ?_, hb⟩
    intro i hi
    have e := fun r (hr : r < 3) => (hown.cellAt (3 * i + r) (by omega)).trans (Mx.tris_get W s.data.toList _ i r hi hr)
    rw [show i * 3 = 3 * i from by omega]
    exact ⟨e 0 (by omega), e 1 (by omega), e 2 (by omega)⟩

/-- unlike steps that end alike -/
def hit (A P A' P' : Nat → Nat) (i j : Nat) : Prop := A (i + 1) = A' (j + 1) ∧ (A i ≠ A' j ∨ P i ≠ P' j)

end Go.Proofs.Ytkeckdfjgnacnaa
