/-
  The walk of lumkeep.ChunkLocal: it returns true.
-/
import Derived.Test.YtdalpicpkandcabCkCut
import Derived.Test.YtdalpicpkandcabCkJoin
import Derived.Test.YtdalpicpkandcabShelfRep
import Derived.Test.YtdalpicpkandcabRest
import Derived.Deep.Cut
namespace Go.Proofs.Ytdalpicpkandcab
open Go.RowKit

theorem own_slice {base : Nat} {V : World} {l : List Ck.Bs} {v : Value} (h : V.ownsRow base 9 1 v l.length (l.map Sv)) : ∃ a c, v = .slice a l.length c := by
  rcases h.2 with ⟨rfl, h0⟩ | ⟨g, cap, _, rfl, _⟩
  · exact ⟨none, 0, by rw [h0]⟩
  · exact ⟨_, _, rfl⟩
theorem fifty : (cutL 16 20 12 ⟨(Lib.repeatL [97] 50).toArray⟩).length = 3 ∧ sizeN 16 20 12 ((ByteArray.mk (Lib.repeatL [97] 50).toArray).size : Nat) = 0 := by decide +kernel
theorem equal_cells {V : World} {l : List Ck.Bs} {g1 o1 c1 g2 o2 c2 : Nat} (h1 : ∀ j (hj : j < l.length), V.cell? ⟨g1, o1 + j, none⟩ = some (Sv l[j])) (h2 : ∀ j (hj : j < l.length), V.cell? ⟨g2, o2 + j, none⟩ = some (Sv l[j])) (hl : l.length ≤ 4096) :
    Calls Try.prog 8 #[.slice (some ⟨g1, o1, none⟩) l.length c1, .slice (some ⟨g2, o2, none⟩) l.length c2] V fun e w' => e = .returned (.bool true) ∧ Below V.heap.size V w' := by
  have hc : ∀ {g o : Nat}, (∀ j (hj : j < l.length), V.cell? ⟨g, o + j, none⟩ = some (Sv l[j])) → ∀ j, j < (l.map fun p => (⟨p.toArray⟩ : ByteArray)).length → V.cell? ⟨g, o + j, none⟩ = some (.string ((l.map fun p => (⟨p.toArray⟩ : ByteArray)).getD j ByteArray.empty)) := by
    intro g o h j hj
    rw [List.length_map] at hj
    rw [h j hj, List.getD_eq_getElem?_getD, List.getElem?_map, List.getElem?_eq_getElem hj]
    rfl
  refine (Try.slices_Equal_string g1 o1 l.length c1 g2 o2 l.length c2 (l.map fun p => ⟨p.toArray⟩) (l.map fun p => ⟨p.toArray⟩) V (by simp) (by simp) (by omega) (by omega) (hc h1) (hc h2)).mono ?_
  rintro e w' ⟨rfl, q, rfl⟩
  exact ⟨by simp, below_drewN _ _⟩
end Go.Proofs.Ytdalpicpkandcab
