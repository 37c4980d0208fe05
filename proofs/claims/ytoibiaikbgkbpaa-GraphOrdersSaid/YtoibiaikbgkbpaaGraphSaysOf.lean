/-
  What the law GraphSays gives, where package graph answers as it is asked to; what chained of package lumkeep answers.
-/
import Derived.Test.YtoibiaikbgkbpaaGrROrd
namespace Go.Proofs.Ytoibiaikbgkbpaa
open Go.RowKit
set_option maxRecDepth 4000

/-- what Reach, Order and Check of package graph are to answer -/
def GReachOk (w : World) : Prop := ∀ (W : World), Below w.heap.size w W → ∀ (v u : Value) (K : List (List Int)) (R : List Int), Kz W v K → Ints W u R → K.length ≤ 9223372036854775807 → (∀ i, (Gr.kd K i).length ≤ 9223372036854775807) → R.length ≤ 9223372036854775807 →
  Calls Try.prog 7 #[v, u] W fun e w' => ∃ x, e = .returned (.tuple #[x, .int .i64 (Gr.rErr K R)]) ∧ w'.ownsRow W.heap.size 4 1 x (Gr.reach K R).length ((Gr.reach K R).map Tb) ∧ Below W.heap.size W w'

def GOrderOk (w : World) : Prop := ∀ (W : World), Below w.heap.size w W → ∀ (v : Value) (K : List (List Int)), Kz W v K → K.length ≤ 9223372036854775807 → (∀ i, (Gr.kd K i).length ≤ 9223372036854775807) →
  Calls Try.prog 9 #[v] W fun e w' => ∃ x, e = .returned (.tuple #[x, .int .i64 (Gr.oErr K)]) ∧ w'.ownsRow W.heap.size 3 1 x (Gr.order K).length ((Gr.order K).map Iv) ∧ Below W.heap.size W w'

def GCheckOk (w : World) : Prop := ∀ (W : World), Below w.heap.size w W → ∀ (v : Value) (K : List (List Int)), Kz W v K → K.length ≤ 9223372036854775807 → (∀ i, (Gr.kd K i).length ≤ 9223372036854775807) →
  Calls Try.prog 11 #[v] W fun e w' => e = .returned (.int .i64 (Gr.gErr K)) ∧ Below W.heap.size W w'

theorem gr_reach_len (K : List (List Int)) (R : List Int) : (Gr.reach K R).length ≤ 1000 := by
  unfold Gr.reach
  split
  · rename_i h; rw [Gr.rch_length]; have := (Gr.rErr_ok h).1.few; omega
  · simp

theorem gr_order_len (K : List (List Int)) : (Gr.order K).length ≤ 1000 := by
  by_cases h : Gr.oErr K = 0
  · obtain ⟨h1, h2⟩ := Gr.order_told h
    have := h1.few
    have := h2.len
    omega
  · by_cases hg : Gr.gErr K = 0
    · rcases Gr.order_or hg with ⟨q, _⟩ | ⟨_, q, _⟩
      · exact absurd q h
      · rw [q]; simp
    · have : Gr.order K = [] := by unfold Gr.order; rw [if_pos hg]
      rw [this]; simp

theorem gr_order_no {K : List (List Int)} (h : Gr.oErr K ≠ 0) : Gr.order K = [] := by
  by_cases hg : Gr.gErr K = 0
  · rcases Gr.order_or hg with ⟨q, _⟩ | ⟨_, q, _⟩
    · exact absurd q h
    · exact q
  · unfold Gr.order; rw [if_pos hg]

set_option maxHeartbeats 4000000 in
theorem graphSays_of (v u : Value) (K : List (List Int)) (R : List Int) (w : World) (h : Kz w v K) (hr : Ints w u R) (hl : K.length ≤ 9223372036854775807) (hll : ∀ i, (Gr.kd K i).length ≤ 9223372036854775807) (hRl : R.length ≤ 9223372036854775807) (hGR : GReachOk w) (hGO : GOrderOk w) (hGC : GCheckOk w) :
    Calls Try.prog 3 #[v, u] w fun e w' => e = .returned (.bool true) ∧ Below w.heap.size w w' := by
  have k1 := hGR w (Below.refl _ _) v u K R h hr hl hll hRl
  have k2 := fun V (hb : Below w.heap.size w V) => rReach_any v u K R V (h.below (Nat.le_refl _) hb) (hr.below (Nat.le_refl _) hb) hl hll hRl
  have k3 := fun V (hb : Below w.heap.size w V) => hGO V hb v K (h.below (Nat.le_refl _) hb) hl hll
  have k4 := fun V (hb : Below w.heap.size w V) => rOrder_any v K V (h.below (Nat.le_refl _) hb) hl hll
  have k5 := fun V (hb : Below w.heap.size w V) => hGC V hb v K (h.below (Nat.le_refl _) hb) hl hll
  have k6 := fun V (hb : Below w.heap.size w V) => rgraph_any v K V (h.below (Nat.le_refl _) hb) hl hll
  have hn1 := gr_reach_len K R
  have hn2 := gr_order_len K
  have HN : Hid (Gr.oErr K ≠ 0 → Gr.order K = []) := gr_order_no
  generalize Gr.rErr K R = z1 at *
  generalize Gr.reach K R = L1 at *
  generalize Gr.oErr K = z2 at *
  generalize Gr.order K = L2 at *
  generalize Gr.gErr K = z3 at *
  clear hGR hGO hGC h hr hll
  go_enter Try.func3, Try.ntmps3
  go_wp2_with fail
  refine k1.mono ?_
  rintro e w2 ⟨x2, rfl, o2, b2⟩
  have HO2 : Hid (Bls w2 x2 L1) := Bls.of_own o2
  clear k1 o2
  go_wp2_with fail
  refine (k2 _ b2).mono ?_
  rintro e w3 ⟨x3, rfl, o3, b3⟩
  have HB3 : Hid (Below w.heap.size w w3) := b2.trans (b3.mono b2.size)
  have HO2' : Hid (Bls w3 x2 L1) := HO2.out.past b3
  have HO3 : Hid (Bls w3 x3 L1) := Bls.of_own o3
  clear k2 b2 o3 b3 HO2
  go_wp2_with fail
  refine (k3 _ HB3.out).mono ?_
  rintro e w4 ⟨x4, rfl, o4, b4⟩
  have HB4 : Hid (Below w.heap.size w w4) := HB3.out.trans (b4.mono HB3.out.size)
  have HO2 : Hid (Bls w4 x2 L1) := HO2'.out.past b4
  have HO3' : Hid (Bls w4 x3 L1) := HO3.out.past b4
  have HO4 : Hid (Ints w4 x4 L2) := Ints.of_own o4
  clear k3 HB3 o4 b4 HO2' HO3
  go_wp2_with fail
  refine (k4 _ HB4.out).mono ?_
  rintro e w5 ⟨x5, rfl, o5, b5⟩
  have HB5 : Hid (Below w.heap.size w w5) := HB4.out.trans (b5.mono HB4.out.size)
  have HO2' : Hid (Bls w5 x2 L1) := HO2.out.past b5
  have HO3 : Hid (Bls w5 x3 L1) := HO3'.out.past b5
  have HO4' : Hid (Ints w5 x4 L2) := HO4.out.past b5
  have HO5 : Hid (Ints w5 x5 L2) := Ints.of_own o5
  clear k4 HB4 o5 b5 HO2 HO3' HO4
  have e1 := fun V (hb : Below w5.heap.size w5 V) => equal_bools x2 x3 L1 V (HO2'.out.past hb) (HO3.out.past hb) (by omega)
  have e2 := fun V y (hb : Below w5.heap.size w5 V) (hy : Ints w5 y L2) => equal_ints x4 y L2 V (HO4'.out.past hb) (hy.past hb) (by omega)
  have k7 := k5 _ HB5.out
  have hS : ∀ V, Below w5.heap.size w5 V → Below w.heap.size w V := fun V hb => HB5.out.trans (hb.mono HB5.out.size)
  clear k5
  by_cases hz : z2 = 0
  · subst hz
    have e3 := fun V (hb : Below w5.heap.size w5 V) => e2 V x5 hb HO5.out
    clear e2 HN
    go_wp2_with fail
    refine k7.mono ?_
    rintro e w6 ⟨rfl, b6⟩
    go_wp2_with fail
    refine (k6 _ (hS _ b6)).mono ?_
    rintro e w7 ⟨rfl, rfl⟩
    go_wp2_with fail
    refine (e1 _ b6).mono ?_
    rintro e w8 ⟨rfl, b8⟩
    have B8 := b6.trans (b8.mono b6.size)
    go_wp2_with fail
    refine (e3 _ B8).mono ?_
    rintro e w9 ⟨rfl, b9⟩
    have hB := hS _ (B8.trans (b9.mono B8.size))
    clear k6 k7 e1 e3 hS
    go_wp2_with fail
    go_ret
    exact ⟨rfl, hB⟩
  · have hL := HN.out hz
    subst hL
    have e3 := fun V (hb : Below w5.heap.size w5 V) => e2 V (.slice none 0 0) hb ⟨.inl ⟨⟨_, _, rfl⟩, rfl⟩⟩
    have hzq : (z2 != 0) = true := by simpa using hz
    clear e2 HN hz
    go_wp2_with fail
    refine k7.mono ?_
    rintro e w6 ⟨rfl, b6⟩
    go_wp2_with fail
    refine (k6 _ (hS _ b6)).mono ?_
    rintro e w7 ⟨rfl, rfl⟩
    go_wp2_with fail
    refine (e1 _ b6).mono ?_
    rintro e w8 ⟨rfl, b8⟩
    have B8 := b6.trans (b8.mono b6.size)
    go_wp2_with fail
    refine (e3 _ B8).mono ?_
    rintro e w9 ⟨rfl, b9⟩
    have hB := hS _ (B8.trans (b9.mono B8.size))
    clear k6 k7 e1 e3 hS
    go_wp2_with fail
    go_ret
    exact ⟨rfl, hB⟩

end Go.Proofs.Ytoibiaikbgkbpaa
