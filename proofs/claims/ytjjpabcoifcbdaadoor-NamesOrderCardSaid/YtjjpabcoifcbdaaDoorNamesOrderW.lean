/-
  The walk of lumkeep.NamesOrder: it returns true.
-/
import Derived.Test.YtjjpabcoifcbdaaDoorNnBen
namespace Go.Proofs.YtjjpabcoifcbdaaDoor
open Go.RowKit
set_option maxRecDepth 4000

/-- what the order promises of three paths -/
structure Ord3 (E ab ba bc ac n1 n2 : Bool) : Prop where
  same : E = true → ab = false ∧ ba = false
  tri : E = false → ba = !ab
  trans : ab = true → bc = true → ac = true
  front : n1 = true → E = false → ab = true
  mid : n2 = true → ab = true → bc = true → n1 = true
theorem ord3 {a b c : List UInt8} (ha : (Nn.split a).2 = 0) (hb : (Nn.split b).2 = 0) (hc : (Nn.split c).2 = 0) :
    Ord3 (decide (a = b)) (Nn.less a b).1 (Nn.less b a).1 (Nn.less b c).1 (Nn.less a c).1 (Nn.ben b a) (Nn.ben c a) := by
  have lf : ∀ {x y : List UInt8}, (Nn.split x).2 = 0 → (Nn.split y).2 = 0 → (Nn.less x y).1 = Nn.ahead (Nn.split x).1 (Nn.split y).1 := fun h1 h2 => by
    unfold Nn.less
    rw [if_neg (by simpa using h1), if_neg (by simpa using h2)]
  have pa : Nn.split a = ((Nn.split a).1, 0) := Prod.ext rfl ha
  have pb : Nn.split b = ((Nn.split b).1, 0) := Prod.ext rfl hb
  have pc : Nn.split c = ((Nn.split c).1, 0) := Prod.ext rfl hc
  have b1 := Nn.ben_iff b a
  rw [Nn.beneath_iff pb pa] at b1
  have b2 := Nn.ben_iff c a
  rw [Nn.beneath_iff pc pa] at b2
  have hne : a ≠ b → (Nn.split a).1 ≠ (Nn.split b).1 := fun h e => h (Nn.split_inj pa (by rw [e]; exact pb))
  rw [lf ha hb, lf hb ha, lf hb hc, lf ha hc]
  refine ⟨fun h => ?_, fun h => ?_, Nn.ahead_trans _ _ _, fun h1 h2 => ?_, fun h1 h2 h3 => ?_⟩
  · obtain rfl := of_decide_eq_true h
    exact ⟨Nn.ahead_irr _, Nn.ahead_irr _⟩
  · exact Nn.ahead_tri _ _ fun e => hne (of_decide_eq_false h) e.symm
  · obtain ⟨r, hr⟩ := b1.1 h1
    have : r ≠ [] := fun e => hne (of_decide_eq_false h2) (by rw [hr, e, List.append_nil])
    rw [hr]
    exact Nn.ahead_front _ _ this
  · obtain ⟨r, hr⟩ := b2.1 h1
    rw [hr] at h3
    exact b1.2 (Nn.ahead_mid _ _ _ h2 h3)
/-- the two that are asked first -/
theorem lt_two (w : World) (hT : Tabs w) : Calls Tryd.prog 19 #[.string ⟨#[47, 97]⟩, .string ⟨#[47, 97, 47, 98]⟩] w fun e w' => e = .returned (.bool true) ∧ Below w.heap.size w w' := by
  have h : (Nn.less [47, 97] [47, 97, 47, 98]).1 = true := by decide +kernel
  have := lt_any ⟨#[47, 97]⟩ ⟨#[47, 97, 47, 98]⟩ w (by decide) (by decide) hT
  rw [show (Nn.less (⟨#[47, 97]⟩ : ByteArray).data.toList (⟨#[47, 97, 47, 98]⟩ : ByteArray).data.toList).1 = true from h] at this
  exact this
theorem lt_three (w : World) (hT : Tabs w) : Calls Tryd.prog 19 #[.string ⟨#[47, 97, 47, 98]⟩, .string ⟨#[47, 97, 33]⟩] w fun e w' => e = .returned (.bool true) ∧ Below w.heap.size w w' := by
  have h : (Nn.less [47, 97, 47, 98] [47, 97, 33]).1 = true := by decide +kernel
  have := lt_any ⟨#[47, 97, 47, 98]⟩ ⟨#[47, 97, 33]⟩ w (by decide) (by decide) hT
  rw [show (Nn.less (⟨#[47, 97, 47, 98]⟩ : ByteArray).data.toList (⟨#[47, 97, 33]⟩ : ByteArray).data.toList).1 = true from h] at this
  exact this
theorem data_eq (a b : ByteArray) : (a.toList == b.toList) = decide (a.data.toList = b.data.toList) := by
  rw [Lib.toList_data, Lib.toList_data]
  by_cases h : a.data.toList = b.data.toList
  · rw [decide_eq_true h, h, beq_self_eq_true]
  · rw [decide_eq_false h, beq_eq_false_iff_ne]; exact h

set_option maxRecDepth 8000 in
set_option maxHeartbeats 8000000 in
theorem namesOrder_walk (a0 : ByteArray) (a1 : ByteArray) (a2 : ByteArray) (z0 : a0.size ≤ 140737488351232) (z1 : a1.size ≤ 140737488351232) (z2 : a2.size ≤ 140737488351232) (w : World) (hT : Tabs w) :
    Calls Tryd.prog 6 #[.string a0, .string a1, .string a2] w fun e w' => e = .returned (.bool true) ∧ Below w.heap.size w w' := by
  have HT : Hid (Tabs w) := hT
  clear hT
  have h1 := lt_two w HT.out
  go_enter Tryd.func6, Tryd.ntmps6
  go_wp2_with fail
  refine h1.mono ?_
  rintro e w1 ⟨rfl, b1⟩
  have HB1 : Hid (Below w.heap.size w w1) := b1
  clear b1 h1
  have h2 := lt_three w1 (HT.out.below HB1.out)
  go_wp2_with fail
  refine h2.mono ?_
  rintro e w2 ⟨rfl, b2⟩
  have HB2 : Hid (Below w.heap.size w w2) := HB1.out.trans (b2.mono HB1.out.size)
  clear b2 h2 HB1
  go_wp2_with fail
  obtain ⟨L, hL⟩ : ∃ L, L = [a0, a1, a2] := ⟨_, rfl⟩
  have HL : Hid (L = [a0, a1, a2]) := hL
  have HX : Hid (Tx (w2.alloc (.cells #[.string a0, .string a1, .string a2] 9)) (.slice (some ⟨w2.heap.size, 0, none⟩) 3 3) L) := by
    refine ⟨.inr ⟨w2.heap.size, 0, 3, by rw [hL]; rfl, by simp, fun j hj => ?_⟩⟩
    rw [hL] at hj ⊢
    rw [Nat.zero_add, World.cell?_alloc_new]
    match j, hj with
    | 0, _ => rfl
    | 1, _ => rfl
    | 2, _ => rfl
  have HB3 : Hid (Below w.heap.size w (w2.alloc (.cells #[.string a0, .string a1, .string a2] 9))) := HB2.out.alloc HB2.out.size _
  have HZ : Hid (∀ s ∈ L, s.size ≤ 140737488351232) := fun s hs => by
    rw [hL] at hs
    simp only [List.mem_cons, List.not_mem_nil, or_false] at hs
    rcases hs with rfl | rfl | rfl <;> assumption
  have HLn : Hid (L.length = 3) := by show _ = _; rw [hL]; rfl
  obtain ⟨B, hB⟩ : ∃ B, B = w2.heap.size := ⟨_, rfl⟩
  rw [← hB] at HX ⊢
  generalize w2.alloc (.cells #[.string a0, .string a1, .string a2] 9) = W0 at *
  clear hL hB HB2
  go_loopw [22] (fun i wr => ∃ k : Nat, k ≤ 3 ∧ i = .int .i64 k ∧ Hid (Below w.heap.size w wr) ∧ Hid (Tx wr (.slice (some ⟨B, 0, none⟩) 3 3) L) ∧ Hid (∀ j, j < k → (Nn.split (L.getD j ByteArray.empty).data.toList).2 = 0)) (fun i _ => 3 - (intOf i).toNat)
  case atStart => exact ⟨0, by omega, rfl, HB3, HX, fun j hj => by omega⟩
  case round =>
    clear HX HB3
    obtain ⟨k, hk, rfl, HB, HX, HK⟩ := hrel
    by_cases hlt : k < 3
    · obtain ⟨bk, o, hab, hbk, c0⟩ := HX.out.get k (by rw [HLn.out]; exact hlt)
      cases hab
      rw [Nat.zero_add] at c0
      have hz : (L.getD k ByteArray.empty).size ≤ 140737488351232 := by
        have hk' : k < L.length := by rw [HLn.out]; exact hlt
        rw [List.getD_eq_getElem?_getD, List.getElem?_eq_getElem hk']
        exact HZ.out _ (List.getElem_mem hk')
      have hq := split_any (L.getD k ByteArray.empty) wr hz (HT.out.below HB.out)
      obtain ⟨t, ht⟩ : ∃ t, t = L.getD k ByteArray.empty := ⟨_, rfl⟩
      have HTt : Hid (t = L.getD k ByteArray.empty) := ht
      rw [← ht] at hq c0 hz
      clear ht
      go_wp2_with fail
      refine hq.mono ?_
      rintro e w3 ⟨v3, l3, rfl, _, x3, _, b3⟩
      have HB4 : Hid (Below w.heap.size w w3) := HB.out.trans (b3.mono HB.out.size)
      have HX4 : Hid (Tx w3 (.slice (some ⟨B, 0, none⟩) 3 3) L) := HX.out.below b3
      obtain ⟨a3, c3, rfl⟩ := x3.slice
      by_cases h0 : (Nn.split t.data.toList).2 = 0
      · have HK2 : Hid (∀ j, j < k + 1 → (Nn.split (L.getD j ByteArray.empty).data.toList).2 = 0) := fun j hj => by
          by_cases e : j = k
          · rw [e, ← HTt.out]; exact h0
          · exact HK.out j (by omega)
        rw [h0]
        clear x3 b3 hq HX HB HK h0 hbk c0
        go_wp2_with fail
        go_roundw
        case rel => exact ⟨k + 1, by omega, by go_num, HB4, HX4, HK2⟩
        case measure => simp only [intOf]; omega
      · generalize (Nn.split t.data.toList).2 = E at *
        have hqn : (E != 0) = true := by rw [bne_iff_ne]; exact h0
        clear x3 b3 hq HX HB HK h0 hbk c0
        go_wp2_with fail
        go_ret
        exact ⟨rfl, HB4.out⟩
    · obtain rfl : k = 3 := by omega
      have HO : Hid (Ord3 (decide (a0.data.toList = a1.data.toList)) (Nn.less a0.data.toList a1.data.toList).1 (Nn.less a1.data.toList a0.data.toList).1 (Nn.less a1.data.toList a2.data.toList).1 (Nn.less a0.data.toList a2.data.toList).1 (Nn.ben a1.data.toList a0.data.toList) (Nn.ben a2.data.toList a0.data.toList)) := by
        have k0 := HK.out 0 (by omega)
        have k1 := HK.out 1 (by omega)
        have k2 := HK.out 2 (by omega)
        rw [HL.out] at k0 k1 k2
        exact ord3 k0 k1 k2
      have Haa : Hid ((Nn.less a0.data.toList a0.data.toList).1 = false) := by
        have k0 := HK.out 0 (by omega)
        rw [HL.out] at k0
        exact ((ord3 k0 k0 k0).same (decide_eq_true rfl)).1
      have hab := fun u (hu : Below w.heap.size w u) => lt_any a0 a1 u z0 z1 (HT.out.below hu)
      have hba := fun u (hu : Below w.heap.size w u) => lt_any a1 a0 u z1 z0 (HT.out.below hu)
      have haa := fun u (hu : Below w.heap.size w u) => lt_any a0 a0 u z0 z0 (HT.out.below hu)
      have hbc := fun u (hu : Below w.heap.size w u) => lt_any a1 a2 u z1 z2 (HT.out.below hu)
      have hac := fun u (hu : Below w.heap.size w u) => lt_any a0 a2 u z0 z2 (HT.out.below hu)
      have hn1 : ∀ u, Below w.heap.size w u → Calls Tryd.prog 20 #[.string a1, .string a0] u fun e w' => e = .returned (.bool (Nn.ben a1.data.toList a0.data.toList)) ∧ Below u.heap.size u w' := fun u _ => (ben_any a1 a0 u z0).mono fun e w' ⟨h, k⟩ => ⟨h, by rw [k]; exact Below.refl _ _⟩
      have hn2 : ∀ u, Below w.heap.size w u → Calls Tryd.prog 20 #[.string a2, .string a0] u fun e w' => e = .returned (.bool (Nn.ben a2.data.toList a0.data.toList)) ∧ Below u.heap.size u w' := fun u _ => (ben_any a2 a0 u z0).mono fun e w' ⟨h, k⟩ => ⟨h, by rw [k]; exact Below.refl _ _⟩
      rw [Haa.out] at haa
      have heq := data_eq a0 a1
      generalize decide (a0.data.toList = a1.data.toList) = E at *
      generalize (Nn.less a0.data.toList a1.data.toList).1 = AB at *
      generalize (Nn.less a1.data.toList a0.data.toList).1 = BA at *
      generalize (Nn.less a1.data.toList a2.data.toList).1 = BC at *
      generalize (Nn.less a0.data.toList a2.data.toList).1 = AC at *
      generalize Nn.ben a1.data.toList a0.data.toList = N1 at *
      generalize Nn.ben a2.data.toList a0.data.toList = N2 at *
      have HB0 : Hid (Below w.heap.size w wr) := HB
      clear HB HX HK HL HZ HLn HT Haa hk hlt
      cases E
      · obtain rfl := HO.out.tri rfl
        cases AB
        · obtain rfl : N1 = false := by cases N1; rfl; exact absurd (HO.out.front rfl rfl) (by simp)
          cases N2
          · clear HO
            go_wp2_with fail
            refine (hab _ HB0.out).mono ?_
            rintro e u1 ⟨rfl, b1⟩
            have HB1 : Hid (Below w.heap.size w u1) := HB0.out.trans (b1.mono HB0.out.size)
            clear b1
            go_wp2_with fail
            refine (hba _ HB1.out).mono ?_
            rintro e u2 ⟨rfl, b2⟩
            have HB2 : Hid (Below w.heap.size w u2) := HB1.out.trans (b2.mono HB1.out.size)
            clear b2
            go_wp2_with fail
            refine (haa _ HB2.out).mono ?_
            rintro e u3 ⟨rfl, b3⟩
            have HB3 : Hid (Below w.heap.size w u3) := HB2.out.trans (b3.mono HB2.out.size)
            clear b3
            go_wp2_with fail
            refine (hab _ HB3.out).mono ?_
            rintro e u4 ⟨rfl, b4⟩
            have HB4 : Hid (Below w.heap.size w u4) := HB3.out.trans (b4.mono HB3.out.size)
            clear b4
            go_wp2_with fail
            refine (hn1 _ HB4.out).mono ?_
            rintro e u5 ⟨rfl, b5⟩
            have HB5 : Hid (Below w.heap.size w u5) := HB4.out.trans (b5.mono HB4.out.size)
            clear b5
            go_wp2_with fail
            refine (hn2 _ HB5.out).mono ?_
            rintro e u6 ⟨rfl, b6⟩
            have HB6 : Hid (Below w.heap.size w u6) := HB5.out.trans (b6.mono HB5.out.size)
            clear b6
            go_wp2_with fail
            go_ret
            exact ⟨rfl, HB6.out⟩
          · clear HO
            go_wp2_with fail
            refine (hab _ HB0.out).mono ?_
            rintro e u1 ⟨rfl, b1⟩
            have HB1 : Hid (Below w.heap.size w u1) := HB0.out.trans (b1.mono HB0.out.size)
            clear b1
            go_wp2_with fail
            refine (hba _ HB1.out).mono ?_
            rintro e u2 ⟨rfl, b2⟩
            have HB2 : Hid (Below w.heap.size w u2) := HB1.out.trans (b2.mono HB1.out.size)
            clear b2
            go_wp2_with fail
            refine (haa _ HB2.out).mono ?_
            rintro e u3 ⟨rfl, b3⟩
            have HB3 : Hid (Below w.heap.size w u3) := HB2.out.trans (b3.mono HB2.out.size)
            clear b3
            go_wp2_with fail
            refine (hab _ HB3.out).mono ?_
            rintro e u4 ⟨rfl, b4⟩
            have HB4 : Hid (Below w.heap.size w u4) := HB3.out.trans (b4.mono HB3.out.size)
            clear b4
            go_wp2_with fail
            refine (hn1 _ HB4.out).mono ?_
            rintro e u5 ⟨rfl, b5⟩
            have HB5 : Hid (Below w.heap.size w u5) := HB4.out.trans (b5.mono HB4.out.size)
            clear b5
            go_wp2_with fail
            refine (hn2 _ HB5.out).mono ?_
            rintro e u6 ⟨rfl, b6⟩
            have HB6 : Hid (Below w.heap.size w u6) := HB5.out.trans (b6.mono HB5.out.size)
            clear b6
            go_wp2_with fail
            refine (hab _ HB6.out).mono ?_
            rintro e u7 ⟨rfl, b7⟩
            have HB7 : Hid (Below w.heap.size w u7) := HB6.out.trans (b7.mono HB6.out.size)
            clear b7
            go_wp2_with fail
            go_ret
            exact ⟨rfl, HB7.out⟩
        · cases BC
          · cases N1
            · cases N2
              · clear HO
                go_wp2_with fail
                refine (hab _ HB0.out).mono ?_
                rintro e u1 ⟨rfl, b1⟩
                have HB1 : Hid (Below w.heap.size w u1) := HB0.out.trans (b1.mono HB0.out.size)
                clear b1
                go_wp2_with fail
                refine (hba _ HB1.out).mono ?_
                rintro e u2 ⟨rfl, b2⟩
                have HB2 : Hid (Below w.heap.size w u2) := HB1.out.trans (b2.mono HB1.out.size)
                clear b2
                go_wp2_with fail
                refine (haa _ HB2.out).mono ?_
                rintro e u3 ⟨rfl, b3⟩
                have HB3 : Hid (Below w.heap.size w u3) := HB2.out.trans (b3.mono HB2.out.size)
                clear b3
                go_wp2_with fail
                refine (hab _ HB3.out).mono ?_
                rintro e u4 ⟨rfl, b4⟩
                have HB4 : Hid (Below w.heap.size w u4) := HB3.out.trans (b4.mono HB3.out.size)
                clear b4
                go_wp2_with fail
                refine (hbc _ HB4.out).mono ?_
                rintro e u5 ⟨rfl, b5⟩
                have HB5 : Hid (Below w.heap.size w u5) := HB4.out.trans (b5.mono HB4.out.size)
                clear b5
                go_wp2_with fail
                refine (hn1 _ HB5.out).mono ?_
                rintro e u6 ⟨rfl, b6⟩
                have HB6 : Hid (Below w.heap.size w u6) := HB5.out.trans (b6.mono HB5.out.size)
                clear b6
                go_wp2_with fail
                refine (hn2 _ HB6.out).mono ?_
                rintro e u7 ⟨rfl, b7⟩
                have HB7 : Hid (Below w.heap.size w u7) := HB6.out.trans (b7.mono HB6.out.size)
                clear b7
                go_wp2_with fail
                go_ret
                exact ⟨rfl, HB7.out⟩
              · clear HO
                go_wp2_with fail
                refine (hab _ HB0.out).mono ?_
                rintro e u1 ⟨rfl, b1⟩
                have HB1 : Hid (Below w.heap.size w u1) := HB0.out.trans (b1.mono HB0.out.size)
                clear b1
                go_wp2_with fail
                refine (hba _ HB1.out).mono ?_
                rintro e u2 ⟨rfl, b2⟩
                have HB2 : Hid (Below w.heap.size w u2) := HB1.out.trans (b2.mono HB1.out.size)
                clear b2
                go_wp2_with fail
                refine (haa _ HB2.out).mono ?_
                rintro e u3 ⟨rfl, b3⟩
                have HB3 : Hid (Below w.heap.size w u3) := HB2.out.trans (b3.mono HB2.out.size)
                clear b3
                go_wp2_with fail
                refine (hab _ HB3.out).mono ?_
                rintro e u4 ⟨rfl, b4⟩
                have HB4 : Hid (Below w.heap.size w u4) := HB3.out.trans (b4.mono HB3.out.size)
                clear b4
                go_wp2_with fail
                refine (hbc _ HB4.out).mono ?_
                rintro e u5 ⟨rfl, b5⟩
                have HB5 : Hid (Below w.heap.size w u5) := HB4.out.trans (b5.mono HB4.out.size)
                clear b5
                go_wp2_with fail
                refine (hn1 _ HB5.out).mono ?_
                rintro e u6 ⟨rfl, b6⟩
                have HB6 : Hid (Below w.heap.size w u6) := HB5.out.trans (b6.mono HB5.out.size)
                clear b6
                go_wp2_with fail
                refine (hn2 _ HB6.out).mono ?_
                rintro e u7 ⟨rfl, b7⟩
                have HB7 : Hid (Below w.heap.size w u7) := HB6.out.trans (b7.mono HB6.out.size)
                clear b7
                go_wp2_with fail
                refine (hab _ HB7.out).mono ?_
                rintro e u8 ⟨rfl, b8⟩
                have HB8 : Hid (Below w.heap.size w u8) := HB7.out.trans (b8.mono HB7.out.size)
                clear b8
                go_wp2_with fail
                refine (hbc _ HB8.out).mono ?_
                rintro e u9 ⟨rfl, b9⟩
                have HB9 : Hid (Below w.heap.size w u9) := HB8.out.trans (b9.mono HB8.out.size)
                clear b9
                go_wp2_with fail
                go_ret
                exact ⟨rfl, HB9.out⟩
            · cases N2
              · clear HO
                go_wp2_with fail
                refine (hab _ HB0.out).mono ?_
                rintro e u1 ⟨rfl, b1⟩
                have HB1 : Hid (Below w.heap.size w u1) := HB0.out.trans (b1.mono HB0.out.size)
                clear b1
                go_wp2_with fail
                refine (hba _ HB1.out).mono ?_
                rintro e u2 ⟨rfl, b2⟩
                have HB2 : Hid (Below w.heap.size w u2) := HB1.out.trans (b2.mono HB1.out.size)
                clear b2
                go_wp2_with fail
                refine (haa _ HB2.out).mono ?_
                rintro e u3 ⟨rfl, b3⟩
                have HB3 : Hid (Below w.heap.size w u3) := HB2.out.trans (b3.mono HB2.out.size)
                clear b3
                go_wp2_with fail
                refine (hab _ HB3.out).mono ?_
                rintro e u4 ⟨rfl, b4⟩
                have HB4 : Hid (Below w.heap.size w u4) := HB3.out.trans (b4.mono HB3.out.size)
                clear b4
                go_wp2_with fail
                refine (hbc _ HB4.out).mono ?_
                rintro e u5 ⟨rfl, b5⟩
                have HB5 : Hid (Below w.heap.size w u5) := HB4.out.trans (b5.mono HB4.out.size)
                clear b5
                go_wp2_with fail
                refine (hn1 _ HB5.out).mono ?_
                rintro e u6 ⟨rfl, b6⟩
                have HB6 : Hid (Below w.heap.size w u6) := HB5.out.trans (b6.mono HB5.out.size)
                clear b6
                go_wp2_with fail
                refine (hab _ HB6.out).mono ?_
                rintro e u7 ⟨rfl, b7⟩
                have HB7 : Hid (Below w.heap.size w u7) := HB6.out.trans (b7.mono HB6.out.size)
                clear b7
                go_wp2_with fail
                refine (hn2 _ HB7.out).mono ?_
                rintro e u8 ⟨rfl, b8⟩
                have HB8 : Hid (Below w.heap.size w u8) := HB7.out.trans (b8.mono HB7.out.size)
                clear b8
                go_wp2_with fail
                go_ret
                exact ⟨rfl, HB8.out⟩
              · clear HO
                go_wp2_with fail
                refine (hab _ HB0.out).mono ?_
                rintro e u1 ⟨rfl, b1⟩
                have HB1 : Hid (Below w.heap.size w u1) := HB0.out.trans (b1.mono HB0.out.size)
                clear b1
                go_wp2_with fail
                refine (hba _ HB1.out).mono ?_
                rintro e u2 ⟨rfl, b2⟩
                have HB2 : Hid (Below w.heap.size w u2) := HB1.out.trans (b2.mono HB1.out.size)
                clear b2
                go_wp2_with fail
                refine (haa _ HB2.out).mono ?_
                rintro e u3 ⟨rfl, b3⟩
                have HB3 : Hid (Below w.heap.size w u3) := HB2.out.trans (b3.mono HB2.out.size)
                clear b3
                go_wp2_with fail
                refine (hab _ HB3.out).mono ?_
                rintro e u4 ⟨rfl, b4⟩
                have HB4 : Hid (Below w.heap.size w u4) := HB3.out.trans (b4.mono HB3.out.size)
                clear b4
                go_wp2_with fail
                refine (hbc _ HB4.out).mono ?_
                rintro e u5 ⟨rfl, b5⟩
                have HB5 : Hid (Below w.heap.size w u5) := HB4.out.trans (b5.mono HB4.out.size)
                clear b5
                go_wp2_with fail
                refine (hn1 _ HB5.out).mono ?_
                rintro e u6 ⟨rfl, b6⟩
                have HB6 : Hid (Below w.heap.size w u6) := HB5.out.trans (b6.mono HB5.out.size)
                clear b6
                go_wp2_with fail
                refine (hab _ HB6.out).mono ?_
                rintro e u7 ⟨rfl, b7⟩
                have HB7 : Hid (Below w.heap.size w u7) := HB6.out.trans (b7.mono HB6.out.size)
                clear b7
                go_wp2_with fail
                refine (hn2 _ HB7.out).mono ?_
                rintro e u8 ⟨rfl, b8⟩
                have HB8 : Hid (Below w.heap.size w u8) := HB7.out.trans (b8.mono HB7.out.size)
                clear b8
                go_wp2_with fail
                refine (hab _ HB8.out).mono ?_
                rintro e u9 ⟨rfl, b9⟩
                have HB9 : Hid (Below w.heap.size w u9) := HB8.out.trans (b9.mono HB8.out.size)
                clear b9
                go_wp2_with fail
                refine (hbc _ HB9.out).mono ?_
                rintro e u10 ⟨rfl, b10⟩
                have HB10 : Hid (Below w.heap.size w u10) := HB9.out.trans (b10.mono HB9.out.size)
                clear b10
                go_wp2_with fail
                go_ret
                exact ⟨rfl, HB10.out⟩
          · obtain rfl := HO.out.trans rfl rfl
            cases N1
            · obtain rfl : N2 = false := by cases N2; rfl; exact absurd (HO.out.mid rfl rfl rfl) (by simp)
              clear HO
              go_wp2_with fail
              refine (hab _ HB0.out).mono ?_
              rintro e u1 ⟨rfl, b1⟩
              have HB1 : Hid (Below w.heap.size w u1) := HB0.out.trans (b1.mono HB0.out.size)
              clear b1
              go_wp2_with fail
              refine (hba _ HB1.out).mono ?_
              rintro e u2 ⟨rfl, b2⟩
              have HB2 : Hid (Below w.heap.size w u2) := HB1.out.trans (b2.mono HB1.out.size)
              clear b2
              go_wp2_with fail
              refine (haa _ HB2.out).mono ?_
              rintro e u3 ⟨rfl, b3⟩
              have HB3 : Hid (Below w.heap.size w u3) := HB2.out.trans (b3.mono HB2.out.size)
              clear b3
              go_wp2_with fail
              refine (hab _ HB3.out).mono ?_
              rintro e u4 ⟨rfl, b4⟩
              have HB4 : Hid (Below w.heap.size w u4) := HB3.out.trans (b4.mono HB3.out.size)
              clear b4
              go_wp2_with fail
              refine (hbc _ HB4.out).mono ?_
              rintro e u5 ⟨rfl, b5⟩
              have HB5 : Hid (Below w.heap.size w u5) := HB4.out.trans (b5.mono HB4.out.size)
              clear b5
              go_wp2_with fail
              refine (hac _ HB5.out).mono ?_
              rintro e u6 ⟨rfl, b6⟩
              have HB6 : Hid (Below w.heap.size w u6) := HB5.out.trans (b6.mono HB5.out.size)
              clear b6
              go_wp2_with fail
              refine (hn1 _ HB6.out).mono ?_
              rintro e u7 ⟨rfl, b7⟩
              have HB7 : Hid (Below w.heap.size w u7) := HB6.out.trans (b7.mono HB6.out.size)
              clear b7
              go_wp2_with fail
              refine (hn2 _ HB7.out).mono ?_
              rintro e u8 ⟨rfl, b8⟩
              have HB8 : Hid (Below w.heap.size w u8) := HB7.out.trans (b8.mono HB7.out.size)
              clear b8
              go_wp2_with fail
              go_ret
              exact ⟨rfl, HB8.out⟩
            · cases N2
              · clear HO
                go_wp2_with fail
                refine (hab _ HB0.out).mono ?_
                rintro e u1 ⟨rfl, b1⟩
                have HB1 : Hid (Below w.heap.size w u1) := HB0.out.trans (b1.mono HB0.out.size)
                clear b1
                go_wp2_with fail
                refine (hba _ HB1.out).mono ?_
                rintro e u2 ⟨rfl, b2⟩
                have HB2 : Hid (Below w.heap.size w u2) := HB1.out.trans (b2.mono HB1.out.size)
                clear b2
                go_wp2_with fail
                refine (haa _ HB2.out).mono ?_
                rintro e u3 ⟨rfl, b3⟩
                have HB3 : Hid (Below w.heap.size w u3) := HB2.out.trans (b3.mono HB2.out.size)
                clear b3
                go_wp2_with fail
                refine (hab _ HB3.out).mono ?_
                rintro e u4 ⟨rfl, b4⟩
                have HB4 : Hid (Below w.heap.size w u4) := HB3.out.trans (b4.mono HB3.out.size)
                clear b4
                go_wp2_with fail
                refine (hbc _ HB4.out).mono ?_
                rintro e u5 ⟨rfl, b5⟩
                have HB5 : Hid (Below w.heap.size w u5) := HB4.out.trans (b5.mono HB4.out.size)
                clear b5
                go_wp2_with fail
                refine (hac _ HB5.out).mono ?_
                rintro e u6 ⟨rfl, b6⟩
                have HB6 : Hid (Below w.heap.size w u6) := HB5.out.trans (b6.mono HB5.out.size)
                clear b6
                go_wp2_with fail
                refine (hn1 _ HB6.out).mono ?_
                rintro e u7 ⟨rfl, b7⟩
                have HB7 : Hid (Below w.heap.size w u7) := HB6.out.trans (b7.mono HB6.out.size)
                clear b7
                go_wp2_with fail
                refine (hab _ HB7.out).mono ?_
                rintro e u8 ⟨rfl, b8⟩
                have HB8 : Hid (Below w.heap.size w u8) := HB7.out.trans (b8.mono HB7.out.size)
                clear b8
                go_wp2_with fail
                refine (hn2 _ HB8.out).mono ?_
                rintro e u9 ⟨rfl, b9⟩
                have HB9 : Hid (Below w.heap.size w u9) := HB8.out.trans (b9.mono HB8.out.size)
                clear b9
                go_wp2_with fail
                go_ret
                exact ⟨rfl, HB9.out⟩
              · clear HO
                go_wp2_with fail
                refine (hab _ HB0.out).mono ?_
                rintro e u1 ⟨rfl, b1⟩
                have HB1 : Hid (Below w.heap.size w u1) := HB0.out.trans (b1.mono HB0.out.size)
                clear b1
                go_wp2_with fail
                refine (hba _ HB1.out).mono ?_
                rintro e u2 ⟨rfl, b2⟩
                have HB2 : Hid (Below w.heap.size w u2) := HB1.out.trans (b2.mono HB1.out.size)
                clear b2
                go_wp2_with fail
                refine (haa _ HB2.out).mono ?_
                rintro e u3 ⟨rfl, b3⟩
                have HB3 : Hid (Below w.heap.size w u3) := HB2.out.trans (b3.mono HB2.out.size)
                clear b3
                go_wp2_with fail
                refine (hab _ HB3.out).mono ?_
                rintro e u4 ⟨rfl, b4⟩
                have HB4 : Hid (Below w.heap.size w u4) := HB3.out.trans (b4.mono HB3.out.size)
                clear b4
                go_wp2_with fail
                refine (hbc _ HB4.out).mono ?_
                rintro e u5 ⟨rfl, b5⟩
                have HB5 : Hid (Below w.heap.size w u5) := HB4.out.trans (b5.mono HB4.out.size)
                clear b5
                go_wp2_with fail
                refine (hac _ HB5.out).mono ?_
                rintro e u6 ⟨rfl, b6⟩
                have HB6 : Hid (Below w.heap.size w u6) := HB5.out.trans (b6.mono HB5.out.size)
                clear b6
                go_wp2_with fail
                refine (hn1 _ HB6.out).mono ?_
                rintro e u7 ⟨rfl, b7⟩
                have HB7 : Hid (Below w.heap.size w u7) := HB6.out.trans (b7.mono HB6.out.size)
                clear b7
                go_wp2_with fail
                refine (hab _ HB7.out).mono ?_
                rintro e u8 ⟨rfl, b8⟩
                have HB8 : Hid (Below w.heap.size w u8) := HB7.out.trans (b8.mono HB7.out.size)
                clear b8
                go_wp2_with fail
                refine (hn2 _ HB8.out).mono ?_
                rintro e u9 ⟨rfl, b9⟩
                have HB9 : Hid (Below w.heap.size w u9) := HB8.out.trans (b9.mono HB8.out.size)
                clear b9
                go_wp2_with fail
                refine (hab _ HB9.out).mono ?_
                rintro e u10 ⟨rfl, b10⟩
                have HB10 : Hid (Below w.heap.size w u10) := HB9.out.trans (b10.mono HB9.out.size)
                clear b10
                go_wp2_with fail
                refine (hbc _ HB10.out).mono ?_
                rintro e u11 ⟨rfl, b11⟩
                have HB11 : Hid (Below w.heap.size w u11) := HB10.out.trans (b11.mono HB10.out.size)
                clear b11
                go_wp2_with fail
                refine (hn1 _ HB11.out).mono ?_
                rintro e u12 ⟨rfl, b12⟩
                have HB12 : Hid (Below w.heap.size w u12) := HB11.out.trans (b12.mono HB11.out.size)
                clear b12
                go_wp2_with fail
                go_ret
                exact ⟨rfl, HB12.out⟩
      · obtain ⟨rfl, rfl⟩ := HO.out.same rfl
        cases N1
        · cases N2
          · clear HO
            go_wp2_with fail
            refine (hab _ HB0.out).mono ?_
            rintro e u1 ⟨rfl, b1⟩
            have HB1 : Hid (Below w.heap.size w u1) := HB0.out.trans (b1.mono HB0.out.size)
            clear b1
            go_wp2_with fail
            refine (hba _ HB1.out).mono ?_
            rintro e u2 ⟨rfl, b2⟩
            have HB2 : Hid (Below w.heap.size w u2) := HB1.out.trans (b2.mono HB1.out.size)
            clear b2
            go_wp2_with fail
            refine (haa _ HB2.out).mono ?_
            rintro e u3 ⟨rfl, b3⟩
            have HB3 : Hid (Below w.heap.size w u3) := HB2.out.trans (b3.mono HB2.out.size)
            clear b3
            go_wp2_with fail
            refine (hab _ HB3.out).mono ?_
            rintro e u4 ⟨rfl, b4⟩
            have HB4 : Hid (Below w.heap.size w u4) := HB3.out.trans (b4.mono HB3.out.size)
            clear b4
            go_wp2_with fail
            refine (hn1 _ HB4.out).mono ?_
            rintro e u5 ⟨rfl, b5⟩
            have HB5 : Hid (Below w.heap.size w u5) := HB4.out.trans (b5.mono HB4.out.size)
            clear b5
            go_wp2_with fail
            refine (hn2 _ HB5.out).mono ?_
            rintro e u6 ⟨rfl, b6⟩
            have HB6 : Hid (Below w.heap.size w u6) := HB5.out.trans (b6.mono HB5.out.size)
            clear b6
            go_wp2_with fail
            go_ret
            exact ⟨rfl, HB6.out⟩
          · clear HO
            go_wp2_with fail
            refine (hab _ HB0.out).mono ?_
            rintro e u1 ⟨rfl, b1⟩
            have HB1 : Hid (Below w.heap.size w u1) := HB0.out.trans (b1.mono HB0.out.size)
            clear b1
            go_wp2_with fail
            refine (hba _ HB1.out).mono ?_
            rintro e u2 ⟨rfl, b2⟩
            have HB2 : Hid (Below w.heap.size w u2) := HB1.out.trans (b2.mono HB1.out.size)
            clear b2
            go_wp2_with fail
            refine (haa _ HB2.out).mono ?_
            rintro e u3 ⟨rfl, b3⟩
            have HB3 : Hid (Below w.heap.size w u3) := HB2.out.trans (b3.mono HB2.out.size)
            clear b3
            go_wp2_with fail
            refine (hab _ HB3.out).mono ?_
            rintro e u4 ⟨rfl, b4⟩
            have HB4 : Hid (Below w.heap.size w u4) := HB3.out.trans (b4.mono HB3.out.size)
            clear b4
            go_wp2_with fail
            refine (hn1 _ HB4.out).mono ?_
            rintro e u5 ⟨rfl, b5⟩
            have HB5 : Hid (Below w.heap.size w u5) := HB4.out.trans (b5.mono HB4.out.size)
            clear b5
            go_wp2_with fail
            refine (hn2 _ HB5.out).mono ?_
            rintro e u6 ⟨rfl, b6⟩
            have HB6 : Hid (Below w.heap.size w u6) := HB5.out.trans (b6.mono HB5.out.size)
            clear b6
            go_wp2_with fail
            refine (hab _ HB6.out).mono ?_
            rintro e u7 ⟨rfl, b7⟩
            have HB7 : Hid (Below w.heap.size w u7) := HB6.out.trans (b7.mono HB6.out.size)
            clear b7
            go_wp2_with fail
            go_ret
            exact ⟨rfl, HB7.out⟩
        · cases N2
          · clear HO
            go_wp2_with fail
            refine (hab _ HB0.out).mono ?_
            rintro e u1 ⟨rfl, b1⟩
            have HB1 : Hid (Below w.heap.size w u1) := HB0.out.trans (b1.mono HB0.out.size)
            clear b1
            go_wp2_with fail
            refine (hba _ HB1.out).mono ?_
            rintro e u2 ⟨rfl, b2⟩
            have HB2 : Hid (Below w.heap.size w u2) := HB1.out.trans (b2.mono HB1.out.size)
            clear b2
            go_wp2_with fail
            refine (haa _ HB2.out).mono ?_
            rintro e u3 ⟨rfl, b3⟩
            have HB3 : Hid (Below w.heap.size w u3) := HB2.out.trans (b3.mono HB2.out.size)
            clear b3
            go_wp2_with fail
            refine (hab _ HB3.out).mono ?_
            rintro e u4 ⟨rfl, b4⟩
            have HB4 : Hid (Below w.heap.size w u4) := HB3.out.trans (b4.mono HB3.out.size)
            clear b4
            go_wp2_with fail
            refine (hn1 _ HB4.out).mono ?_
            rintro e u5 ⟨rfl, b5⟩
            have HB5 : Hid (Below w.heap.size w u5) := HB4.out.trans (b5.mono HB4.out.size)
            clear b5
            go_wp2_with fail
            refine (hn2 _ HB5.out).mono ?_
            rintro e u6 ⟨rfl, b6⟩
            have HB6 : Hid (Below w.heap.size w u6) := HB5.out.trans (b6.mono HB5.out.size)
            clear b6
            go_wp2_with fail
            go_ret
            exact ⟨rfl, HB6.out⟩
          · clear HO
            go_wp2_with fail
            refine (hab _ HB0.out).mono ?_
            rintro e u1 ⟨rfl, b1⟩
            have HB1 : Hid (Below w.heap.size w u1) := HB0.out.trans (b1.mono HB0.out.size)
            clear b1
            go_wp2_with fail
            refine (hba _ HB1.out).mono ?_
            rintro e u2 ⟨rfl, b2⟩
            have HB2 : Hid (Below w.heap.size w u2) := HB1.out.trans (b2.mono HB1.out.size)
            clear b2
            go_wp2_with fail
            refine (haa _ HB2.out).mono ?_
            rintro e u3 ⟨rfl, b3⟩
            have HB3 : Hid (Below w.heap.size w u3) := HB2.out.trans (b3.mono HB2.out.size)
            clear b3
            go_wp2_with fail
            refine (hab _ HB3.out).mono ?_
            rintro e u4 ⟨rfl, b4⟩
            have HB4 : Hid (Below w.heap.size w u4) := HB3.out.trans (b4.mono HB3.out.size)
            clear b4
            go_wp2_with fail
            refine (hn1 _ HB4.out).mono ?_
            rintro e u5 ⟨rfl, b5⟩
            have HB5 : Hid (Below w.heap.size w u5) := HB4.out.trans (b5.mono HB4.out.size)
            clear b5
            go_wp2_with fail
            refine (hn2 _ HB5.out).mono ?_
            rintro e u6 ⟨rfl, b6⟩
            have HB6 : Hid (Below w.heap.size w u6) := HB5.out.trans (b6.mono HB5.out.size)
            clear b6
            go_wp2_with fail
            refine (hab _ HB6.out).mono ?_
            rintro e u7 ⟨rfl, b7⟩
            have HB7 : Hid (Below w.heap.size w u7) := HB6.out.trans (b7.mono HB6.out.size)
            clear b7
            go_wp2_with fail
            go_ret
            exact ⟨rfl, HB7.out⟩
end Go.Proofs.YtjjpabcoifcbdaaDoor
