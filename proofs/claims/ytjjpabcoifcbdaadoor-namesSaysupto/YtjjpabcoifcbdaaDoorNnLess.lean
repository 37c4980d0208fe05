/-
  P39: what cmp.Compare and slices.Compare over texts, and Less of package names, answer.
-/
import Derived.Test.YtjjpabcoifcbdaaDoorNnSplit
import Derived.Test.YtjjpabcoifcbdaaDoorNnOrd
namespace Go.Proofs.YtjjpabcoifcbdaaDoor
open Go.RowKit
set_option maxRecDepth 4000

/-- two texts held against each other by their bytes -/
def cmpB (s t : ByteArray) : Int := if Op.bytesLess s.data.toList t.data.toList then -1 else if Op.bytesLess t.data.toList s.data.toList then 1 else 0
/-- two lists -/
def cmpL : List ByteArray → List ByteArray → Int
  | [], [] => 0
  | [], _ :: _ => -1
  | _ :: _, [] => 1
  | s :: l, t :: m => if cmpB s t ≠ 0 then cmpB s t else cmpL l m
theorem cmpL_ahead : ∀ (l m : List ByteArray), decide (cmpL l m < 0) = Nn.ahead (dl l) (dl m)
  | [], [] => rfl
  | [], _ :: _ => rfl
  | _ :: _, [] => rfl
  | s :: l, t :: m => by
    have ih := cmpL_ahead l m
    show _ = Nn.ahead (s.data.toList :: dl l) (t.data.toList :: dl m)
    rw [Nn.ahead, cmpL]
    unfold cmpB
    by_cases e : s.data.toList = t.data.toList
    · rw [if_pos e, e, Nn.bl_irr]
      simpa using ih
    · rw [if_neg e]
      have ht := Nn.bl_tri _ _ e
      cases h1 : Op.bytesLess s.data.toList t.data.toList
      · rw [h1] at ht
        have h2 : Op.bytesLess t.data.toList s.data.toList = true := by
          cases h : Op.bytesLess t.data.toList s.data.toList
          · rw [h] at ht; cases ht
          · rfl
        simp [h2]
      · simp

theorem isNaN_any (s : ByteArray) (w : World) :
    Calls Tryd.prog 51 #[.string s] w fun e w' => e = .returned (.bool false) ∧ w' = w := by
  go_enter Tryd.func51, Tryd.ntmps51
  go_wp2_with fail
  go_ret
  exact ⟨rfl, rfl⟩

theorem cmpS_any (s t : ByteArray) (w : World) :
    Calls Tryd.prog 41 #[.string s, .string t] w fun e w' => e = .returned (.int .i64 (cmpB s t)) ∧ w' = w := by
  have hx := fun u => isNaN_any s u
  have hy := fun u => isNaN_any t u
  by_cases he : s.data.toList = t.data.toList
  · have HE : Hid (cmpB s t = 0) := by
      show _ = _
      unfold cmpB; rw [he, Nn.bl_irr]; rfl
    have hl : Op.bytesLess s.toList t.toList = false := by rw [Lib.toList_data, Lib.toList_data, he, Nn.bl_irr]
    have hq : (s.toList == t.toList) = true := by rw [Lib.toList_data, Lib.toList_data, he, beq_self_eq_true]
    clear he
    go_enter Tryd.func41, Tryd.ntmps41
    go_wp2_with fail
    refine (hx _).mono ?_
    rintro e u ⟨rfl, hu⟩
    obtain rfl := hu.symm
    go_wp2_with fail
    refine (hy _).mono ?_
    rintro e u ⟨rfl, hu⟩
    obtain rfl := hu.symm
    go_wp2_with fail
    go_ret
    exact ⟨by rw [HE.out]; rfl, rfl⟩
  have ht := Nn.bl_tri _ _ he
  have hq : (s.toList == t.toList) = false := by rw [Lib.toList_data, Lib.toList_data, beq_eq_false_iff_ne]; exact he
  cases h1 : Op.bytesLess s.data.toList t.data.toList
  · have HE : Hid (cmpB s t = 1) := by
      show _ = _
      unfold cmpB
      rw [h1] at ht ⊢
      cases h : Op.bytesLess t.data.toList s.data.toList
      · rw [h] at ht; cases ht
      · rfl
    have hl : Op.bytesLess s.toList t.toList = false := by rw [Lib.toList_data, Lib.toList_data]; exact h1
    clear he ht h1
    go_enter Tryd.func41, Tryd.ntmps41
    go_wp2_with fail
    refine (hx _).mono ?_
    rintro e u ⟨rfl, hu⟩
    obtain rfl := hu.symm
    go_wp2_with fail
    refine (hy _).mono ?_
    rintro e u ⟨rfl, hu⟩
    obtain rfl := hu.symm
    go_wp2_with fail
    go_ret
    exact ⟨by rw [HE.out]; rfl, rfl⟩
  · have HE : Hid (cmpB s t = -1) := by
      show _ = _
      unfold cmpB
      rw [h1]
      rfl
    have hl : Op.bytesLess s.toList t.toList = true := by rw [Lib.toList_data, Lib.toList_data]; exact h1
    clear he ht h1
    go_enter Tryd.func41, Tryd.ntmps41
    go_wp2_with fail
    refine (hx _).mono ?_
    rintro e u ⟨rfl, hu⟩
    obtain rfl := hu.symm
    go_wp2_with fail
    refine (hy _).mono ?_
    rintro e u ⟨rfl, hu⟩
    obtain rfl := hu.symm
    go_wp2_with fail
    go_ret
    exact ⟨by rw [HE.out]; rfl, rfl⟩
theorem cmpL_drop (l m : List ByteArray) (k : Nat) (hk : k < l.length) (hm : k < m.length) : cmpL (l.drop k) (m.drop k) = if cmpB (l.getD k ByteArray.empty) (m.getD k ByteArray.empty) ≠ 0 then cmpB (l.getD k ByteArray.empty) (m.getD k ByteArray.empty) else cmpL (l.drop (k + 1)) (m.drop (k + 1)) := by
  rw [List.drop_eq_getElem_cons hk, List.drop_eq_getElem_cons hm, cmpL, List.getD_eq_getElem?_getD, List.getElem?_eq_getElem hk, List.getD_eq_getElem?_getD, List.getElem?_eq_getElem hm]
  rfl

set_option maxHeartbeats 1000000 in
theorem cmpL_any (v1 v2 : Value) (l m : List ByteArray) (w : World) (h1 : Tx w v1 l) (h2 : Tx w v2 m) (hl : l.length ≤ 140737488351232) (hm : m.length ≤ 140737488351232) :
    Calls Tryd.prog 28 #[v1, v2] w fun e w' => e = .returned (.int .i64 (cmpL l m)) ∧ w' = w := by
  obtain ⟨a1, c1, rfl⟩ := h1.slice
  obtain ⟨a2, c2, rfl⟩ := h2.slice
  have HS : Hid (cmpL (l.drop 0) (m.drop 0) = cmpL l m) := rfl
  have H1 : Hid (Tx w (.slice a1 l.length c1) l) := h1
  have H2 : Hid (Tx w (.slice a2 m.length c2) m) := h2
  obtain ⟨N, hN⟩ : ∃ N, N = l.length := ⟨_, rfl⟩
  obtain ⟨M, hM⟩ : ∃ M, M = m.length := ⟨_, rfl⟩
  have HN : Hid (N = l.length) := hN
  have HM : Hid (M = m.length) := hM
  rw [← hN] at H1 hl ⊢
  rw [← hM] at H2 hm ⊢
  clear h1 h2 hN hM
  generalize cmpL l m = Z at *
  go_enter Tryd.func28, Tryd.ntmps28
  go_wp2_with fail
  go_loop [11] (fun i => ∃ k : Nat, k ≤ N ∧ k ≤ M ∧ i = .int .i64 k ∧ Hid (cmpL (l.drop k) (m.drop k) = Z)) (fun i => N - (intOf i).toNat)
  case atStart => exact ⟨0, by omega, by omega, rfl, HS⟩
  case round =>
    clear HS
    obtain ⟨k, hk, hkm, rfl, HS⟩ := hrel
    by_cases hlt : k < N
    · obtain ⟨bk, o, rfl, hbk, c0⟩ := H1.out.get k (by rw [← HN.out]; omega)
      by_cases hlm : k < M
      · obtain ⟨bk', o', rfl, hbk', d0⟩ := H2.out.get k (by rw [← HM.out]; omega)
        have HD : Hid (Z = if cmpB (l.getD k ByteArray.empty) (m.getD k ByteArray.empty) ≠ 0 then cmpB (l.getD k ByteArray.empty) (m.getD k ByteArray.empty) else cmpL (l.drop (k + 1)) (m.drop (k + 1))) := by
          show _ = _
          rw [← cmpL_drop _ _ _ (by rw [← HN.out]; omega) (by rw [← HM.out]; omega)]; exact HS.out.symm
        generalize l.getD k ByteArray.empty = s at *
        generalize m.getD k ByteArray.empty = t at *
        have hq := cmpS_any s t w
        generalize cmpB s t = E at *
        clear HS
        by_cases h0 : E = 0
        · have HZ : Hid (cmpL (l.drop (k + 1)) (m.drop (k + 1)) = Z) := by have := HD.out; rw [if_neg (by simpa using h0)] at this; exact this.symm
          subst h0
          clear HD
          go_wp2_with fail
          refine hq.mono ?_
          rintro e u ⟨rfl, hu⟩
          obtain rfl := hu.symm
          go_wp2_with fail
          go_round
          case rel => exact ⟨k + 1, by omega, by omega, by go_num, HZ⟩
          case measure => simp only [intOf]; omega
        · have HZ : Hid (Z = E) := by have := HD.out; rwa [if_pos h0] at this
          have hqn : (E != 0) = true := by rw [bne_iff_ne]; exact h0
          clear HD h0
          go_wp2_with fail
          refine hq.mono ?_
          rintro e u ⟨rfl, hu⟩
          obtain rfl := hu.symm
          go_wp2_with fail
          go_ret
          exact ⟨by rw [HZ.out]; rfl, rfl⟩
      · obtain rfl : k = M := by omega
        have HZ : Hid (Z = 1) := by
          have := HS.out
          rw [(List.drop_eq_nil_of_le (by rw [← HM.out]; omega) : m.drop k = []), List.drop_eq_getElem_cons (by rw [← HN.out]; omega), cmpL] at this
          exact this.symm
        clear HS
        go_wp2_with fail
        go_ret
        exact ⟨by rw [HZ.out]; rfl, rfl⟩
    · obtain rfl : k = N := by omega
      by_cases hlm : k < M
      · have HZ : Hid (Z = -1) := by
          have := HS.out
          rw [(List.drop_eq_nil_of_le (by rw [← HN.out]; omega) : l.drop k = []), List.drop_eq_getElem_cons (by rw [← HM.out]; omega), cmpL] at this
          exact this.symm
        clear HS
        go_wp2_with fail
        go_ret
        exact ⟨by rw [HZ.out]; rfl, rfl⟩
      · have HZ : Hid (Z = 0) := by
          have := HS.out
          rw [(List.drop_eq_nil_of_le (by rw [← HN.out]; omega) : l.drop k = []), (List.drop_eq_nil_of_le (by rw [← HM.out]; omega) : m.drop k = []), cmpL] at this
          exact this.symm
        clear HS
        go_wp2_with fail
        go_ret
        exact ⟨by rw [HZ.out]; rfl, rfl⟩

theorem Nn.errsF_len' : ∀ (l : List Nn.Name) (i : Nat), Nn.errsF i l = 0 → i ≤ 8 → i + l.length ≤ 8
  | [], i, _, h => by simpa using h
  | s :: l, i, h, hi => by
    rw [Nn.errsF] at h
    split at h
    · simp at h
    split at h
    · rename_i q; exact absurd h q
    · have := Nn.errsF_len' l (i + 1) h (by omega)
      simp only [List.length_cons]
      omega
theorem Nn.errs_len' {l : List Nn.Name} (h : Nn.errs l = 0) : l.length ≤ 8 := by have := Nn.errsF_len' l 0 h (by omega); omega
/-- a list of names that is right is short -/
theorem split_len {p : List UInt8} (h : (Nn.split p).2 = 0) : (Nn.split p).1.length ≤ 8 := by
  have hj := Nn.split_join (p := p) (m := (Nn.split p).1) (Prod.ext rfl h)
  exact Nn.errs_len' (Nn.join_ok hj).1

set_option maxHeartbeats 1000000 in
theorem less_any (a b : ByteArray) (w : World) (ha : a.size ≤ 140737488351232) (hb : b.size ≤ 140737488351232) (hT : Tabs w) :
    Calls Tryd.prog 13 #[.string a, .string b] w fun e w' => e = .returned (.tuple #[.bool (Nn.less a.data.toList b.data.toList).1, .int .i64 (Nn.less a.data.toList b.data.toList).2]) ∧ Below w.heap.size w w' := by
  have h1 := split_any a w ha hT
  have HT : Hid (Tabs w) := hT
  by_cases e1 : (Nn.split a.data.toList).2 = 0
  · by_cases e2 : (Nn.split b.data.toList).2 = 0
    · have HL : Hid (Nn.less a.data.toList b.data.toList = (Nn.ahead (Nn.split a.data.toList).1 (Nn.split b.data.toList).1, 0)) := by
        show _ = _
        unfold Nn.less
        rw [if_neg (by simpa using e1), if_neg (by simpa using e2)]
      have k1 := split_len e1
      have k2 := split_len e2
      go_enter Tryd.func13, Tryd.ntmps13
      go_wp2_with fail
      refine h1.mono ?_
      rintro e w1 ⟨v1, l1, rfl, hd1, x1, _, b1⟩
      have h2 := split_any b w1 hb (HT.out.below b1)
      rw [← hd1] at HL k1
      rw [e1]
      clear h1 hd1 e1
      go_wp2_with fail
      refine h2.mono ?_
      rintro e w2 ⟨v2, l2, rfl, hd2, x2, _, b2⟩
      rw [← hd2] at HL k2
      rw [e2]
      rw [dl_length] at k1 k2
      have hq := cmpL_any v1 v2 l1 l2 w2 (x1.below b2) x2 (by omega) (by omega)
      have HB : Hid (Below w.heap.size w w2) := b1.trans (b2.mono b1.size)
      have HC : Hid (decide (cmpL l1 l2 < 0) = Nn.ahead (dl l1) (dl l2)) := cmpL_ahead l1 l2
      obtain ⟨a1, c1, rfl⟩ := x1.slice
      obtain ⟨a2, c2, rfl⟩ := x2.slice
      generalize cmpL l1 l2 = Z at *
      clear h2 hd2 e2 x1 x2 b1 b2
      go_wp2_with fail
      refine hq.mono ?_
      rintro e u ⟨rfl, hu⟩
      obtain rfl := hu.symm
      go_wp2_with fail
      go_ret2
      exact ⟨by rw [HL.out, ← HC.out]; rfl, HB.out⟩
    · have HL : Hid (Nn.less a.data.toList b.data.toList = (false, (Nn.split b.data.toList).2)) := by
        show _ = _
        unfold Nn.less
        rw [if_neg (by simpa using e1), if_pos e2]
      go_enter Tryd.func13, Tryd.ntmps13
      go_wp2_with fail
      refine h1.mono ?_
      rintro e w1 ⟨v1, l1, rfl, _, x1, _, b1⟩
      have h2 := split_any b w1 hb (HT.out.below b1)
      have HB : Hid (Below w.heap.size w w1) := b1
      rw [e1]
      obtain ⟨a1, c1, rfl⟩ := x1.slice
      clear h1 e1 x1 b1
      go_wp2_with fail
      refine h2.mono ?_
      rintro e w2 ⟨v2, l2, rfl, _, x2, _, b2⟩
      have HB2 : Hid (Below w.heap.size w w2) := HB.out.trans (b2.mono HB.out.size)
      obtain ⟨a2, c2, rfl⟩ := x2.slice
      generalize (Nn.split b.data.toList).2 = E at *
      have hqn : (E != 0) = true := by rw [bne_iff_ne]; exact e2
      clear h2 e2 x2 b2
      go_wp2_with fail
      go_ret2
      exact ⟨by rw [HL.out]; rfl, HB2.out⟩
  · have HL : Hid (Nn.less a.data.toList b.data.toList = (false, (Nn.split a.data.toList).2)) := by
      show _ = _
      unfold Nn.less
      rw [if_pos e1]
    go_enter Tryd.func13, Tryd.ntmps13
    go_wp2_with fail
    refine h1.mono ?_
    rintro e w1 ⟨v1, l1, rfl, _, x1, _, b1⟩
    have HB : Hid (Below w.heap.size w w1) := b1
    obtain ⟨a1, c1, rfl⟩ := x1.slice
    generalize (Nn.split a.data.toList).2 = E at *
    have hqn : (E != 0) = true := by rw [bne_iff_ne]; exact e1
    clear h1 e1 x1 b1
    go_wp2_with fail
    go_ret2
    exact ⟨by rw [HL.out]; rfl, HB.out⟩
end Go.Proofs.YtjjpabcoifcbdaaDoor
