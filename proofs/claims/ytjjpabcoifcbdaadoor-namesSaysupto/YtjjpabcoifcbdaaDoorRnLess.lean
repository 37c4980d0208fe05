/-
  lumref: what ahead and Less answer.
-/
import Derived.Test.YtjjpabcoifcbdaaDoorRnJoin
namespace Go.Proofs.YtjjpabcoifcbdaaDoor
open Go.RowKit
set_option maxRecDepth 4000

/-- all but the first text -/
theorem tx_tail {w : World} {bk o n c : Nat} {t : ByteArray} {l : List ByteArray} (h : Tx w (.slice (some ⟨bk, o, none⟩) (n + 1) c) (t :: l)) (hc : n + 1 ≤ c) :
    Tx w (.slice (if c = 1 then some ⟨bk, o, none⟩ else some ⟨bk, o + 1, none⟩) n (c - 1)) l ∧ Cp (.slice (if c = 1 then some (⟨bk, o, none⟩ : Addr) else some ⟨bk, o + 1, none⟩) n (c - 1)) := by
  refine ⟨?_, fun a m d he => by cases he; omega⟩
  rcases h.at_ with ⟨_, hx⟩ | ⟨bk', o', cap, hv, hb, hcell⟩
  · cases hx
  · simp at hv
    obtain ⟨⟨rfl, rfl⟩, rfl, rfl⟩ := hv
    cases l with
    | nil => exact ⟨.inl ⟨⟨_, _, rfl⟩, rfl⟩⟩
    | cons u l =>
      simp only [List.length_cons] at hc
      refine ⟨.inr ⟨bk, o + 1, c - 1, by rw [if_neg (by omega)], hb, fun j hj => ?_⟩⟩
      have := hcell (j + 1) (by simp only [List.length_cons] at hj ⊢; omega)
      rw [show o + 1 + j = o + (j + 1) from by omega, this]
      simp

set_option maxHeartbeats 2000000 in
theorem rahead_any : ∀ (l m : List ByteArray) (v1 v2 : Value) (w : World), Tx w v1 l → Tx w v2 m → Cp v1 → Cp v2 → l.length ≤ 4194305 → m.length ≤ 4194305 →
    Calls Tryd.prog 29 #[v1, v2] w fun e w' => e = .returned (.bool (Nn.ahead (dl l) (dl m))) ∧ Below w.heap.size w w' := by
  intro l
  induction l with
  | nil =>
    intro m v1 v2 w h1 h2 _ _ _ hm
    obtain ⟨a1, c1, rfl⟩ := h1.slice
    obtain ⟨a2, c2, rfl⟩ := h2.slice
    cases m with
    | nil =>
      clear h1 h2
      go_enter Tryd.func29, Tryd.ntmps29
      go_wp2_with fail
      go_ret
      exact ⟨rfl, Below.refl _ _⟩
    | cons t m =>
      have hz : (((t :: m).length : Int) == 0) = false := by rw [beq_eq_false_iff_ne]; simp; omega
      have HA : Hid (Nn.ahead (dl []) (dl (t :: m)) = true) := rfl
      generalize (t :: m).length = n at *
      clear h1 h2
      go_enter Tryd.func29, Tryd.ntmps29
      go_wp2_with fail
      go_ret
      exact ⟨by rw [HA.out]; rfl, Below.refl _ _⟩
  | cons s l ih =>
    intro m v1 v2 w h1 h2 hc1 hc2 hl hm
    obtain ⟨a1, c1, rfl⟩ := h1.slice
    obtain ⟨a2, c2, rfl⟩ := h2.slice
    cases m with
    | nil =>
      have HA : Hid (Nn.ahead (dl (s :: l)) (dl []) = false) := rfl
      generalize (s :: l).length = n at *
      clear h1 h2 ih
      go_enter Tryd.func29, Tryd.ntmps29
      go_wp2_with fail
      go_ret
      exact ⟨by rw [HA.out]; rfl, Below.refl _ _⟩
    | cons t m =>
      have k1 := hc1 _ _ _ rfl
      have k2 := hc2 _ _ _ rfl
      obtain ⟨bk, o, rfl, hbk, d1⟩ := h1.get 0 (by simp)
      obtain ⟨bk', o', rfl, hbk', d2⟩ := h2.get 0 (by simp)
      simp only [List.length_cons] at h1 h2 k1 k2 hl hm ⊢
      rw [Nat.add_zero] at d1 d2
      have d1 : w.cell? ⟨bk, o, none⟩ = some (.string s) := d1
      have d2 : w.cell? ⟨bk', o', none⟩ = some (.string t) := d2
      have x1 := tx_tail h1 k1
      have x2 := tx_tail h2 k2
      have HA : Hid (Nn.ahead (dl (s :: l)) (dl (t :: m)) = if s.data.toList = t.data.toList then Nn.ahead (dl l) (dl m) else Op.bytesLess s.data.toList t.data.toList) := rfl
      have hi := fun u (hu : Below w.heap.size w u) => ih m _ _ u (x1.1.below hu) (x2.1.below hu) x1.2 x2.2 (by omega) (by omega)
      generalize l.length = n1 at *
      generalize m.length = n2 at *
      have z1 : (((n1 + 1 : Nat) : Int) == 0) = false := by rw [beq_eq_false_iff_ne]; omega
      have z2 : (((n2 + 1 : Nat) : Int) == 0) = false := by rw [beq_eq_false_iff_ne]; omega
      clear ih h1 h2 x1 x2 hc1 hc2
      obtain ⟨A1, hA1⟩ : ∃ A1, (if c1 = 1 then some (⟨bk, o, none⟩ : Addr) else some ⟨bk, o + 1, none⟩) = A1 := ⟨_, rfl⟩
      obtain ⟨A2, hA2⟩ : ∃ A2, (if c2 = 1 then some (⟨bk', o', none⟩ : Addr) else some ⟨bk', o' + 1, none⟩) = A2 := ⟨_, rfl⟩
      rw [hA1, hA2] at hi
      by_cases he : s.data.toList = t.data.toList
      · have HE : Hid (Nn.ahead (dl (s :: l)) (dl (t :: m)) = Nn.ahead (dl l) (dl m)) := by
          have := HA.out
          rwa [if_pos he] at this
        have e1 : (s.toList == t.toList) = true := by rw [Lib.toList_data, Lib.toList_data, he, beq_self_eq_true]
        generalize Nn.ahead (dl l) (dl m) = R at *
        clear HA he
        go_enter Tryd.func29, Tryd.ntmps29
        go_wp2_with fail
        go_region
        go_wp2_with fail
        have hsz : w.heap.size ≤ w.drew.heap.size := Nat.le_refl _
        refine wp_region_rel (G := Gw) (W0 := w.drew) Gw.refl Gw.trans (by kernel_rfl) (by kernel_rfl) (by kernel_rfl) (Below.refl _ w.drew).drew ?_
        refine .inl ⟨.slice (some ⟨bk, o, none⟩) (n1 + 1) c1, fun v W hW hd => step_run rfl _ W (by clear hd; go_simp) rfl (Gw.refl _), ?_⟩
        simp only [Act.put, List.setIfInBounds_toArray, List.set_cons_zero, List.set_cons_succ]
        refine .inl ⟨.slice A1 n1 (c1 - 1), fun v W hW hd => step_run rfl _ W (by clear hd hi; go_simp; intro hq; omega) rfl (Gw.refl _), ?_⟩
        simp only [Act.put, List.setIfInBounds_toArray, List.set_cons_zero, List.set_cons_succ]
        refine .inl ⟨.slice (some ⟨bk', o', none⟩) (n2 + 1) c2, fun v W hW hd => step_run rfl _ W (by clear hd; go_simp) rfl (Gw.refl _), ?_⟩
        simp only [Act.put, List.setIfInBounds_toArray, List.set_cons_zero, List.set_cons_succ]
        refine .inl ⟨.slice A2 n2 (c2 - 1), fun v W hW hd => step_run rfl _ W (by clear hd hi; go_simp; intro hq; omega) rfl (Gw.refl _), ?_⟩
        simp only [Act.put, List.setIfInBounds_toArray, List.set_cons_zero, List.set_cons_succ]
        refine .inl ⟨.bool R, fun v W hW hd => step_call rfl 29 #[.slice A1 n1 (c1 - 1), .slice A2 n2 (c2 - 1)] (by clear hd; go_simp) ((hi W ((Below.refl _ w).drew.trans (Below.mono hW hsz))).mono fun e w' h => ⟨_, h.1, rfl, h.2⟩), ?_⟩
        simp only [Act.put, List.setIfInBounds_toArray, List.set_cons_zero, List.set_cons_succ]
        refine .inl ⟨.bool R, fun v W hW hd => step_run rfl _ W (by clear hd; go_simp) rfl (Gw.refl _), ?_⟩
        simp only [Act.put, List.setIfInBounds_toArray, List.set_cons_zero, List.set_cons_succ]
        intro v W hW _
        have HB : Hid (Below w.heap.size w W) := (Below.refl _ w).drew.trans (Below.mono hW hsz)
        clear hi hW hA1 hA2
        go_wp2_with fail
        go_ret
        exact ⟨by rw [HE.out]; rfl, HB.out⟩
      · have HE : Hid (Nn.ahead (dl (s :: l)) (dl (t :: m)) = Op.bytesLess s.toList t.toList) := by
          have := HA.out
          rw [if_neg he] at this
          rw [Lib.toList_data, Lib.toList_data]
          exact this
        have e1 : (s.toList == t.toList) = false := by rw [Lib.toList_data, Lib.toList_data, beq_eq_false_iff_ne]; exact he
        clear HA he hi hA1 hA2
        go_enter Tryd.func29, Tryd.ntmps29
        go_wp2_with fail
        go_region
        go_wp2_with fail
        go_region
        go_wp2_with fail
        go_ret
        exact ⟨by rw [HE.out]; rfl, by first | exact Below.refl _ _ | exact (Below.refl _ _).drew | exact (Below.refl _ _).drew.drew⟩

set_option maxHeartbeats 1000000 in
theorem rless_any (a b : ByteArray) (w : World) (ha : a.size ≤ 4194304) (hb : b.size ≤ 4194304) :
    Calls Tryd.prog 14 #[.string a, .string b] w fun e w' => e = .returned (.tuple #[.bool (Nn.less a.data.toList b.data.toList).1, .int .i64 (Nn.less a.data.toList b.data.toList).2]) ∧ Below w.heap.size w w' := by
  have h1 := rsplit_any a w ha
  by_cases e1 : (Nn.split a.data.toList).2 = 0
  · by_cases e2 : (Nn.split b.data.toList).2 = 0
    · have HL : Hid (Nn.less a.data.toList b.data.toList = (Nn.ahead (Nn.split a.data.toList).1 (Nn.split b.data.toList).1, 0)) := by
        show _ = _
        unfold Nn.less
        rw [if_neg (by simpa using e1), if_neg (by simpa using e2)]
      have k1 := split_len e1
      have k2 := split_len e2
      go_enter Tryd.func14, Tryd.ntmps14
      go_wp2_with fail
      refine h1.mono ?_
      rintro e w1 ⟨v1, l1, rfl, hd1, x1, p1, b1⟩
      have h2 := rsplit_any b w1 hb
      rw [← hd1] at HL k1
      rw [e1]
      clear h1 hd1 e1
      go_wp2_with fail
      refine h2.mono ?_
      rintro e w2 ⟨v2, l2, rfl, hd2, x2, p2, b2⟩
      rw [← hd2] at HL k2
      rw [e2]
      rw [dl_length] at k1 k2
      have hq := rahead_any l1 l2 v1 v2 w2 (x1.below b2) x2 p1 p2 (by omega) (by omega)
      have HB : Hid (Below w.heap.size w w2) := b1.trans (b2.mono b1.size)
      obtain ⟨a1, c1, rfl⟩ := x1.slice
      obtain ⟨a2, c2, rfl⟩ := x2.slice
      generalize Nn.ahead (dl l1) (dl l2) = Z at *
      clear h2 hd2 e2 x1 x2 b1 b2
      go_wp2_with fail
      refine hq.mono ?_
      rintro e u ⟨rfl, hu⟩
      have HB2 : Hid (Below w.heap.size w u) := HB.out.trans (hu.mono HB.out.size)
      clear hu
      go_wp2_with fail
      go_ret2
      exact ⟨by rw [HL.out]; rfl, HB2.out⟩
    · have HL : Hid (Nn.less a.data.toList b.data.toList = (false, (Nn.split b.data.toList).2)) := by
        show _ = _
        unfold Nn.less
        rw [if_neg (by simpa using e1), if_pos e2]
      go_enter Tryd.func14, Tryd.ntmps14
      go_wp2_with fail
      refine h1.mono ?_
      rintro e w1 ⟨v1, l1, rfl, _, x1, _, b1⟩
      have h2 := rsplit_any b w1 hb
      have HB : Hid (Below w.heap.size w w1) := b1
      rw [e1]
      obtain ⟨a1, c1, rfl⟩ := x1.slice
      clear h1 e1 x1 b1
      go_wp2_with fail
      refine h2.mono ?_
      rintro e w2 ⟨v2, l2, rfl, _, x2, _, b2⟩
      have HB2 : Hid (Below w.heap.size w w2) := HB.out.trans (b2.mono HB.out.size)
      obtain ⟨a2, c2, rfl⟩ := x2.slice
      generalize (Nn.split b.data.toList).2 = E at *
      have hqn : (E != 0) = true := by rw [bne_iff_ne]; exact e2
      clear h2 e2 x2 b2
      go_wp2_with fail
      go_ret2
      exact ⟨by rw [HL.out]; rfl, HB2.out⟩
  · have HL : Hid (Nn.less a.data.toList b.data.toList = (false, (Nn.split a.data.toList).2)) := by
      show _ = _
      unfold Nn.less
      rw [if_pos e1]
    go_enter Tryd.func14, Tryd.ntmps14
    go_wp2_with fail
    refine h1.mono ?_
    rintro e w1 ⟨v1, l1, rfl, _, x1, _, b1⟩
    have HB : Hid (Below w.heap.size w w1) := b1
    obtain ⟨a1, c1, rfl⟩ := x1.slice
    generalize (Nn.split a.data.toList).2 = E at *
    have hqn : (E != 0) = true := by rw [bne_iff_ne]; exact e1
    clear h1 e1 x1 b1
    go_wp2_with fail
    go_ret2
    exact ⟨by rw [HL.out]; rfl, HB.out⟩
end Go.Proofs.YtjjpabcoifcbdaaDoor
