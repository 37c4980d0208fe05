/-
  slices.Equal over two rows of one content.
-/
import Derived.Test.YtdalpicpkandcabCkRef
import Derived.Test.YtdalpicpkandcabShelfEq
namespace Go.Proofs.Ytdalpicpkandcab
open Go.RowKit

theorem below_drewN (w : World) (q : Nat) : Below w.heap.size w (w.drewN q) := ⟨rfl, rfl, rfl, Nat.le_refl _, fun _ _ => rfl⟩
theorem own_cell {base : Nat} {V : World} {l : List Ck.Bs} {g cap : Nat} (h : V.ownsRow base 9 1 (.slice (some ⟨g, 0, none⟩) l.length cap) l.length (l.map Sv)) (j : Nat) (hj : j < l.length) : V.cell? ⟨g, j, none⟩ = some (Sv l[j]) := by
  have := World.ownsRow.cells (w := V) (base := base) (e := 9) (size := 1) (v := .slice (some ⟨g, 0, none⟩) l.length cap) (n := l.length) (xs := l.map Sv) h (g := g) rfl j (Sv l[j]) (by simp [hj])
  rw [show (⟨g, j, none⟩ : Addr) = (⟨g, 0, none⟩ : Addr).add j from by simp only [Addr.add]; split <;> simp_all]
  exact this
theorem own_split {base : Nat} {V : World} {l : List Ck.Bs} {v : Value} (h : V.ownsRow base 9 1 v l.length (l.map Sv)) (hl : 0 < l.length) : ∃ g cap, v = .slice (some ⟨g, 0, none⟩) l.length cap := by
  rcases h.2 with ⟨_, h0⟩ | ⟨g, cap, _, rfl, _⟩
  · omega
  · exact ⟨g, cap, rfl⟩
theorem equal_same {b1 b2 : Nat} {V : World} {l : List Ck.Bs} {v1 v2 : Value} (h1 : V.ownsRow b1 9 1 v1 l.length (l.map Sv)) (h2 : V.ownsRow b2 9 1 v2 l.length (l.map Sv)) (hl : l.length ≤ 4096) :
    Calls Try.prog 8 #[v1, v2] V fun e w' => e = .returned (.bool true) ∧ Below V.heap.size V w' := by
  rcases Nat.eq_zero_or_pos l.length with h0 | h0
  · obtain ⟨a1, c1, rfl⟩ : ∃ a c, v1 = .slice a 0 c := by
      rcases h1.2 with ⟨rfl, _⟩ | ⟨g, cap, _, rfl, _⟩
      · exact ⟨_, _, rfl⟩
      · rw [h0]; exact ⟨_, _, rfl⟩
    obtain ⟨a2, c2, rfl⟩ : ∃ a c, v2 = .slice a 0 c := by
      rcases h2.2 with ⟨rfl, _⟩ | ⟨g, cap, _, rfl, _⟩
      · exact ⟨_, _, rfl⟩
      · rw [h0]; exact ⟨_, _, rfl⟩
    refine (Try.slices_Equal_string_empty a1 a2 c1 0 c2 V (by omega)).mono ?_
    rintro e w' ⟨rfl, rfl⟩
    exact ⟨rfl, Below.refl _ _⟩
  · obtain ⟨g1, c1, rfl⟩ := own_split h1 h0
    obtain ⟨g2, c2, rfl⟩ := own_split h2 h0
    have hc : ∀ {b g c : Nat}, V.ownsRow b 9 1 (.slice (some ⟨g, 0, none⟩) l.length c) l.length (l.map Sv) → ∀ j, j < (l.map fun p => (⟨p.toArray⟩ : ByteArray)).length → V.cell? ⟨g, 0 + j, none⟩ = some (.string ((l.map fun p => (⟨p.toArray⟩ : ByteArray)).getD j ByteArray.empty)) := by
      intro b g c h j hj
      rw [List.length_map] at hj
      rw [Nat.zero_add, own_cell h j hj, List.getD_eq_getElem?_getD, List.getElem?_map, List.getElem?_eq_getElem hj]
      rfl
    refine (Try.slices_Equal_string g1 0 l.length c1 g2 0 l.length c2 (l.map fun p => ⟨p.toArray⟩) (l.map fun p => ⟨p.toArray⟩) V (by simp) (by simp) (by omega) (by omega) (hc h1) (hc h2)).mono ?_
    rintro e w' ⟨rfl, q, rfl⟩
    exact ⟨by simp, below_drewN _ _⟩
end Go.Proofs.Ytdalpicpkandcab
