/-
  What slices.Reverse makes of a row of one's own of packs' lists.
-/
import Derived.Test.YtllioidjelgafaaPlClone
import Derived.Test.YtllioidjelgafaaShelfRev
namespace Go.Proofs.Ytllioidjelgafaa
open Go.RowKit Go.Sort Go.Lib

theorem holds_own {α : Type} [Inhabited α] {k : Nat} {C : α → List Value} (hC : ∀ t, (C t).length = k) (hk : 0 < k) {base g cap : Nat} {T : TypeId} {w : World} {l : List α} (h : w.ownsRow base T k (.slice (some ⟨g, 0, none⟩) l.length cap) l.length (rowR C l)) : HoldsK C k w g 0 l.toArray := by
  intro t ht
  have hs : t < l.length * k := by simpa using ht
  have hj : t / k < l.length := (Nat.div_lt_iff_lt_mul hk).2 hs
  have hm : t % k < k := Nat.mod_lt _ hk
  have et : t / k * k + t % k = t := by have := Nat.div_add_mod t k; rw [Nat.mul_comm] at this; exact this
  rw [get_flatK C k l.toArray t (by simpa using hs)]
  have e : l.toArray[t / k]! = l[t / k] := by simp [hj]
  rw [e, Nat.zero_add]
  have hr : t % k < (C l[t / k]).length := by rw [hC]; exact hm
  have hq : (rowR C l)[t / k * k + t % k]? = some ((C l[t / k])[t % k]) := by rw [rowR_get hC l (t / k) (t % k) l[t / k] (List.getElem?_eq_getElem hj) hm]; exact List.getElem?_eq_getElem hr
  have hc := World.ownsRow.cells h (g := g) rfl (t / k * k + t % k) _ hq
  rw [et] at hc
  rw [show ((⟨g, 0, none⟩ : Addr).add t) = ⟨g, t, none⟩ from by unfold Addr.add; split <;> simp_all] at hc
  refine ⟨?_, ?_⟩
  · rw [hc]; simp [hr]
  · rcases h.2 with ⟨e', _⟩ | ⟨g', cap', cur, e', _, hh, _⟩
    · simp at e'
    · simp only [Value.slice.injEq, Option.some.injEq, Addr.mk.injEq, true_and, and_true] at e'
      obtain ⟨rfl, rfl⟩ := e'
      exact frozen_of_row w g t cur T hh
theorem rx_holds {α : Type} [Inhabited α] {k : Nat} {C : α → List Value} (hC : ∀ t, (C t).length = k) {g cap : Nat} {w : World} {l : List α} (hg : g < w.heap.size) (h1 : l.length ≤ cap) (h2 : cap ≤ 9223372036854775807) (h : HoldsK C k w g 0 l.toArray) : Rx k C w (.slice (some ⟨g, 0, none⟩) l.length cap) l := by
  refine ⟨.inr ⟨g, 0, cap, rfl, hg, fun j t hj r u hu => ?_⟩, _, _, _, rfl, h1, h2⟩
  obtain ⟨hjl, rfl⟩ := List.getElem?_eq_some_iff.1 hj
  have hr : r < k := by have := (List.getElem?_eq_some_iff.1 hu).1; rwa [hC] at this
  have := (HoldsK.cell h (i := j) (c := r) (by simpa using hjl) hr).1
  rw [this]
  have e : l.toArray[j]! = l[j] := by simp [hjl]
  rw [e]
  obtain ⟨hr', rfl⟩ := List.getElem?_eq_some_iff.1 hu
  simp [hr']
theorem kept_put {α : Type} [Inhabited α] {k n g : Nat} {C : α → List Value} {W : World} {d : Array α} : Kept (fun b => b ≠ g) W (putRowK C k (Sort.ahead W n) g 0 d) := by
  unfold putRowK putRow mapBlock Sort.ahead
  refine ⟨rfl, rfl, rfl, by simp, fun j hj hp => ?_⟩
  show (W.heap.modify g _)[j]? = _
  rw [Array.getElem?_modify, if_neg (fun e => hp e.symm)]
/-- a row turned round -/
def RevOut (base : Nat) (w w' : World) (v : Value) (l : List Ent) : Prop := Ex w' v l ∧ Below base w w'

theorem reverse_any (v : Value) (l : List Ent) (w : World) (base : Nat) (h : w.ownsRow base 51 11 v l.length (rowR enC l)) (hl : l.length ≤ 1000) :
    Calls Try.prog 27 #[v] w fun e w' => e = .returned (.tuple #[]) ∧ RevOut base w w' v l.reverse := by
  haveI : Inhabited Ent := ⟨en0⟩
  by_cases h0 : l.length = 0
  · have hn : l = [] := List.length_eq_zero_iff.1 h0
    subst hn
    have hp : Ex w v [] := Rx.of_own (l := ([] : List Ent)) enC_length h
    obtain ⟨a, c, rfl, _, _⟩ := hp.slice
    exact (AnyQ.slices_Reverse_empty Try.revEn a c w).mono fun e w' ⟨he, hw⟩ => ⟨he, by rw [hw]; exact hp, by rw [hw]; exact Below.refl _ _⟩
  · obtain ⟨g, cap, hv⟩ : ∃ g cap, v = .slice (some ⟨g, 0, none⟩) l.length cap := by
      rcases h.2 with ⟨_, h0'⟩ | ⟨g, cap, cur, rfl, _⟩
      · exact absurd h0' h0
      · exact ⟨_, _, rfl⟩
    subst hv
    obtain ⟨hbg, hg⟩ := h.lt g rfl
    obtain ⟨_, _, _, hc1, hc2⟩ := (Rx.of_own (l := l) enC_length h).slice
    obtain ⟨a', n', c', e', hc1, hc2⟩ := (Rx.of_own (l := l) enC_length h).room
    rw [Value.slice.injEq] at e'
    obtain ⟨rfl, rfl, rfl⟩ := e'
    have hcon := AnyQ.slices_Reverse Try.revEn 11 Try.isAgg51 Try.sizeOf51 enC enC_length enC_one g 0 cap l.toArray w (holds_own enC_length (by omega) h) (by simp; omega)
    rw [List.size_toArray] at hcon
    change Calls Try.prog 27 _ _ _ at hcon
    refine hcon.mono fun e w' ⟨he, n, hw⟩ => ⟨he, ?_, ?_⟩
    · have hh : HoldsK enC 11 (putRowK enC 11 (Sort.ahead w n) g 0 l.toArray.reverse) g 0 l.toArray.reverse := holdsK_putRowK enC 11 _ g 0 l.toArray l.toArray.reverse (holdsK_ahead enC 11 w n g 0 _ (holds_own enC_length (by omega) h)) (by simp)
      rw [List.reverse_toArray] at hh
      have hk := kept_put (C := enC) (k := 11) (n := n) (g := g) (W := w) (d := l.toArray.reverse)
      have hx := rx_holds (l := l.reverse) (cap := cap) enC_length (Nat.lt_of_lt_of_le hg hk.size) (by rw [List.length_reverse]; exact hc1) hc2 (by rw [← List.reverse_toArray] at hh ⊢; exact hh)
      rw [List.length_reverse] at hx
      rw [hw]
      exact hx
    · rw [hw]
      exact (kept_put (C := enC) (k := 11) (n := n) (g := g) (W := w) (d := l.toArray.reverse)).below (by omega) fun j hj => by show j ≠ g; omega
end Go.Proofs.Ytllioidjelgafaa
