/-
  Places in a block of one's own, which may be written: what is stored, sorted, cleared there.
-/
import Derived.Test.YtllioidjelgafabPl12
import Derived.Test.YtllioidjelgafabKept
import Derived.Deep.MidRow
namespace Go.Proofs.Ytllioidjelgafab
open Go.RowKit

theorem size_cells (g : Nat) : ∀ (vs : List Value) (o : Nat) (W : World), (W.setCells g o vs).heap.size = W.heap.size
  | [], _, _ => rfl
  | v :: r, o, W => by rw [World.setCells, size_cells g r]; simp
structure Rw (W : World) (g : Nat) (L : List Plc) : Prop where
  lt : g < W.heap.size
  at_ : ∀ j t, L[j]? = some t → ∀ r u, (plC t)[r]? = some u → W.cell? ⟨g, j * 12 + r, none⟩ = some u
  free : ∀ i, i < L.length * 12 → W.frozen? ⟨g, i, none⟩ = false
theorem Rw.kept {p : Nat → Prop} {W W' : World} {g : Nat} {L : List Plc} (h : Rw W g L) (hk : Kept p W W') (hp : p g) : Rw W' g L := by
  have e := hk.block g h.lt hp
  have e2 : ∀ q, W'.cell? ⟨g, q, none⟩ = W.cell? ⟨g, q, none⟩ := fun q => by simp only [World.cell?, e]
  have e3 : ∀ q, W'.frozen? ⟨g, q, none⟩ = W.frozen? ⟨g, q, none⟩ := fun q => by simp only [World.frozen?, e]
  exact ⟨Nat.lt_of_lt_of_le h.lt hk.size, fun j t hj r u hu => (e2 _).trans (h.at_ j t hj r u hu), fun i hi => (e3 i).trans (h.free i hi)⟩
theorem Rw.below {W W' : World} {g : Nat} {L : List Plc} (h : Rw W g L) (hb : Below W.heap.size W W') : Rw W' g L := h.kept (Kept.of_below (p := fun _ => True) hb) trivial
theorem Rw.range {W : World} {g j : Nat} {L : List Plc} {t : Plc} (h : Rw W g L) (hj : L[j]? = some t) : W.rangeAt g (j * 12) (plC t) := fun r u hu => h.at_ j t hj r u hu
theorem Rw.there {W : World} {g j : Nat} {L : List Plc} (h : Rw W g L) (hj : j < L.length) : W.there g (j * 12) 12 := fun r hr => by
  have hl : r < (plC L[j]).length := by rw [plC_length]; exact hr
  refine ⟨?_, h.free _ ?_⟩
  · rw [h.at_ j L[j] (List.getElem?_eq_getElem hj) r _ (List.getElem?_eq_getElem hl)]; rfl
  · have := Nat.mul_le_mul_right 12 (show j + 1 ≤ L.length from hj)
    omega
theorem Rw.set {W : World} {g j : Nat} {L : List Plc} (h : Rw W g L) (hj : j < L.length) (t : Plc) : Rw (W.setCells g (j * 12) (plC t)) g (L.set j t) := by
  have hth := h.there hj
  refine ⟨?_, fun i s hi r u hu => ?_, fun i hi => ?_⟩
  · have := h.lt
    rw [size_cells]
    exact this
  · by_cases e : i = j
    · subst e
      rw [List.getElem?_set_self hj] at hi
      obtain rfl : t = s := by simpa using hi
      exact World.rangeAt_setCells_same W g (i * 12) (plC t) (by rw [plC_length]; exact hth) r u hu
    · rw [List.getElem?_set_ne (Ne.symm e)] at hi
      have hr : r < 12 := by have := (List.getElem?_eq_some_iff.1 hu).1; rwa [plC_length] at this
      rw [World.cell?_setCells_out g (plC t) (j * 12) W ⟨g, i * 12 + r, none⟩ (fun _ _ => by
        rw [plC_length]
        show i * 12 + r < j * 12 ∨ j * 12 + 12 ≤ i * 12 + r
        omega)]
      exact h.at_ i s hi r u hu
  · rw [World.frozen?_setCells]
    exact h.free i (by rw [List.length_set] at hi; exact hi)
theorem Rw.front {W : World} {g : Nat} {L : List Plc} (h : Rw W g L) (m : Nat) : Rw W g (L.take m) := by
  refine ⟨h.lt, fun j t hj r u hu => ?_, fun i hi => h.free i ?_⟩
  · rw [List.getElem?_take] at hj
    split at hj
    · exact h.at_ j t hj r u hu
    · cases hj
  · rw [List.length_take] at hi
    have := Nat.mul_le_mul_right 12 (Nat.min_le_right m L.length)
    omega
theorem Rw.wipe {W : World} {g m : Nat} {L : List Plc} (h : Rw W g L) (hm : m ≤ L.length) (vs : List Value) : Rw (W.setCells g (m * 12) vs) g (L.take m) := by
  have hf := h.front m
  refine ⟨by rw [size_cells]; exact h.lt, fun j t hj r u hu => ?_, fun i hi => by rw [World.frozen?_setCells]; exact hf.free i hi⟩
  have hr : r < 12 := by have := (List.getElem?_eq_some_iff.1 hu).1; rwa [plC_length] at this
  have hjm : j < m := by have := (List.getElem?_eq_some_iff.1 hj).1; rw [List.length_take] at this; omega
  rw [World.cell?_setCells_out g vs (m * 12) W ⟨g, j * 12 + r, none⟩ (fun _ _ => .inl (by show j * 12 + r < m * 12; omega))]
  exact hf.at_ j t hj r u hu
theorem Kept.setCells {p : Nat → Prop} {A B : World} (h : Kept p A B) {g : Nat} (hg : ¬ p g) (o : Nat) (vs : List Value) : Kept p A (B.setCells g o vs) := by
  induction vs generalizing B o with
  | nil => exact h
  | cons v vs ih => exact ih (h.setCell (a := ⟨g, o, none⟩) hg v) (o + 1)
theorem Rw.px {W : World} {g cap : Nat} {L : List Plc} (h : Rw W g L) (h1 : L.length ≤ cap) (h2 : cap ≤ 9223372036854775807) : Px W (.slice (some ⟨g, 0, none⟩) L.length cap) L :=
  ⟨.inr ⟨g, 0, cap, rfl, h.lt, fun j t hj r u hu => by rw [Nat.zero_add]; exact h.at_ j t hj r u hu⟩, _, _, _, rfl, h1, h2⟩
theorem Rw.of_own {base g cap : Nat} {T : TypeId} {w : World} {L : List Plc} (h : w.ownsRow base T 12 (.slice (some ⟨g, 0, none⟩) L.length cap) L.length (rowR plC L)) : Rw w g L ∧ L.length ≤ cap ∧ cap ≤ 9223372036854775807 ∧ base ≤ g := by
  rcases h.2 with ⟨e, _⟩ | ⟨g', cap', cur, e, hg, hh, h1, h2, h3, _⟩
  · simp at e
  · simp only [Value.slice.injEq, Option.some.injEq, Addr.mk.injEq, true_and, and_true] at e
    obtain ⟨rfl, rfl⟩ := e
    refine ⟨⟨(Array.getElem?_eq_some_iff.1 hh).1, fun j t hj r u hu => ?_, fun i hi => ?_⟩, h1, by unfold maxLen at h2; omega, hg⟩
    · have hr : r < 12 := by have := (List.getElem?_eq_some_iff.1 hu).1; rwa [plC_length] at this
      have := World.ownsRow.cells h (g := g) rfl (j * 12 + r) u (by rw [rowR_get plC_length L j r t hj hr]; exact hu)
      rwa [show ((⟨g, 0, none⟩ : Addr).add (j * 12 + r)) = ⟨g, j * 12 + r, none⟩ from by unfold Addr.add; split <;> simp_all] at this
    · simp [World.frozen?, hh]
end Go.Proofs.Ytllioidjelgafab
