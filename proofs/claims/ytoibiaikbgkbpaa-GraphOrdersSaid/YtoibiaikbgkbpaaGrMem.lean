/-
  Lists of lists of numbers as they lie in memory; opened.
-/
import Derived.Test.YtoibiaikbgkbpaaGrLaws
import Derived.Test.YtoibiaikbgkbpaaHfEq
import Derived.Test.YtoibiaikbgkbpaaHfCodes
import Derived.Test.YtoibiaikbgkbpaaKpMem
import Derived.Test.YtoibiaikbgkbpaaHfOpen
import Derived.Deep.Matrix
namespace Go.Proofs.Ytoibiaikbgkbpaa
open Go.RowKit Go.ChangeShapes Go.WideShapes Go.Deep Go.Joins

/-- lists of numbers that lie in memory -/
structure Kz (w : World) (v : Value) (K : List (List Int)) : Prop where
  at_ : ((∃ a c, v = .slice a 0 c) ∧ K = []) ∨ ∃ bk o cap, v = .slice (some ⟨bk, o, none⟩) K.length cap ∧ bk < w.heap.size ∧
    ∀ j (hj : j < K.length), ∃ a c, w.cell? ⟨bk, o + j, none⟩ = some (.slice a K[j].length c) ∧ Ints w (.slice a K[j].length c) K[j]

theorem Kz.slice {w : World} {v : Value} {K : List (List Int)} (h : Kz w v K) : ∃ a c, v = .slice a K.length c := by
  rcases h.at_ with ⟨⟨a, c, rfl⟩, rfl⟩ | ⟨bk, o, cap, rfl, _⟩
  · exact ⟨_, _, rfl⟩
  · exact ⟨_, _, rfl⟩

theorem Kz.below {w w' : World} {v : Value} {K : List (List Int)} (h : Kz w v K) {B : Nat} (hB : w.heap.size ≤ B) (hb : Below B w w') : Kz w' v K := by
  rcases h.at_ with h | ⟨bk, o, cap, h1, h3, h4⟩
  · exact ⟨.inl h⟩
  · refine ⟨.inr ⟨bk, o, cap, h1, Nat.lt_of_lt_of_le h3 hb.size, fun j hj => ?_⟩⟩
    obtain ⟨a, c, e1, e2⟩ := h4 j hj
    exact ⟨a, c, (hb.cell (p := ⟨bk, o + j, none⟩) (Nat.lt_of_lt_of_le h3 hB)).trans e1, e2.below hB hb⟩

theorem Kz.past {w w' : World} {v : Value} {K : List (List Int)} (h : Kz w v K) (hb : Below w.heap.size w w') : Kz w' v K := h.below (Nat.le_refl _) hb

/-- one of them -/
theorem Kz.get {w : World} {a : Option Addr} {n c : Nat} {K : List (List Int)} (h : Kz w (.slice a n c) K) (j : Nat) (hj : j < K.length) : ∃ bk o a' c', a = some ⟨bk, o, none⟩ ∧ n = K.length ∧ bk < w.heap.size ∧
    w.cell? ⟨bk, o + j, none⟩ = some (.slice a' (Gr.kd K j).length c') ∧ Ints w (.slice a' (Gr.kd K j).length c') (Gr.kd K j) := by
  have hk : Gr.kd K j = K[j] := by unfold Gr.kd; rw [List.getD_eq_getElem?_getD, List.getElem?_eq_getElem hj]; rfl
  rcases h.at_ with ⟨_, rfl⟩ | ⟨bk, o, cap, h1, h3, h4⟩
  · simp at hj
  · simp at h1
    obtain ⟨rfl, rfl, rfl⟩ := h1
    obtain ⟨a', c', e1, e2⟩ := h4 j hj
    rw [hk]
    exact ⟨bk, o, a', c', rfl, rfl, h3, e1, e2⟩

section
variable {H : Type} {enc : TypeId × Value → H} {w : World} {base : Nat} {held : Bool}

theorem open_kz {fuel : Nat} {sa : Option Addr} {len cap : Nat} {x : DataW H × List MemPlace} (h : DataW.trod enc Try.prog w base (fun _ => true) held fuel 22 [.slice sa len cap] = some x) (hlt : ∀ y ∈ x.2, y.block < w.heap.size) :
    ∃ K : List (List Int), Kz w (.slice sa len cap) K ∧ K.length ≤ maxLen ∧ ∀ l ∈ K, l.length ≤ maxLen := by
  rcases open_int_rows Try.underlying22 Try.underlying23 Try.underlying3 (by kernel_rfl) (by kernel_rfl) h with ⟨hcs, _⟩ | ⟨a, len', cap', A, L, C, Z, hcs, _, hle, hcap, hx, hall⟩
  · simp at hcs
    obtain ⟨rfl, rfl, rfl⟩ := hcs
    exact ⟨[], ⟨.inl ⟨⟨_, _, rfl⟩, rfl⟩⟩, Nat.zero_le _, fun l hl => absurd hl (by simp)⟩
  · simp at hcs
    obtain ⟨rfl, rfl, rfl⟩ := hcs
    have hlen : ∀ r, r < len → ((Z r).take (L r)).length = L r := fun r hr => by
      obtain ⟨_, h1, _, h3, _⟩ := hall r (by omega)
      rw [List.length_take]
      omega
    refine ⟨(List.range len).map fun r => (Z r).take (L r), ?_, by simp; omega, fun l hl => ?_⟩
    · by_cases hc0 : len = 0
      · subst hc0
        exact ⟨.inl ⟨⟨_, _, rfl⟩, by simp⟩⟩
      · obtain ⟨b, off, spot⟩ := a
        have h0 := (hall 0 (by omega)).1
        have hspot : spot = none := by simpa [Addr.add] using World.cell?_spot h0
        subst hspot
        have hbW : b < w.heap.size := by
          refine hlt (.cell b off) ?_
          rw [hx]
          exact List.mem_append_left _ (MemPlace.mem_row.2 ⟨0, by omega, by simp⟩)
        refine ⟨.inr ⟨b, off, cap, by simp, hbW, fun j hj => ?_⟩⟩
        have hj' : j < len := by simpa using hj
        obtain ⟨e1, e2, e3, e4, e5, e6, e7⟩ := hall j (by omega)
        rw [show (⟨b, off, none⟩ : Addr).add j = ⟨b, off + j, none⟩ from add_plain _ _ _] at e1
        simp only [List.getElem_map, List.getElem_range, hlen j hj']
        refine ⟨A j, C j, e1, ?_⟩
        by_cases hL : L j = 0
        · rw [hL]
          exact ⟨.inl ⟨⟨_, _, rfl⟩, by simp⟩⟩
        · cases hA : A j with
          | none => have := e6 hA; omega
          | some a' =>
            obtain ⟨_, hcell⟩ := e7 a' hA
            obtain ⟨b', off', spot'⟩ := a'
            have hs' : spot' = none := by simpa [Addr.add] using World.cell?_spot (hcell 0 (by omega))
            subst hs'
            have hbW' : b' < w.heap.size := by
              refine hlt (.cell b' off') ?_
              rw [hx]
              refine List.mem_append_right _ (List.mem_flatMap.2 ⟨j, List.mem_range.2 (by omega), ?_⟩)
              rw [hA]
              exact MemPlace.mem_row.2 ⟨0, by omega, by simp⟩
            refine ⟨.inr ⟨b', off', C j, by rw [hlen j hj'], hbW', fun i hi => ?_⟩⟩
            have hi' : i < L j := by rw [hlen j hj'] at hi; exact hi
            have := hcell i (by omega)
            rw [show (⟨b', off', none⟩ : Addr).add i = ⟨b', off' + i, none⟩ from add_plain _ _ _] at this
            rw [this, List.getElem_take, List.getD_eq_getElem?_getD, List.getElem?_eq_getElem (by omega)]
            rfl
    · obtain ⟨r, hr, rfl⟩ := List.mem_map.1 hl
      have hr' := List.mem_range.1 hr
      obtain ⟨_, h1, h2, _⟩ := hall r (by omega)
      rw [hlen r hr']
      omega

end

end Go.Proofs.Ytoibiaikbgkbpaa
