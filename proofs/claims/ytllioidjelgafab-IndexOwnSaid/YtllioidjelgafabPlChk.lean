/-
  What Check of package index answers.
-/
import Derived.Test.YtllioidjelgafabIxIds
import Derived.Test.YtllioidjelgafabPl12
import Derived.Deep.Cut
namespace Go.Proofs.Ytllioidjelgafab
open Go.RowKit Go.Sort

/-- what is wrong from place number k on -/
def ckAt (l : List Plc) (k : Nat) : Int := Ix.ckB (if k = 0 then none else (l[k - 1]?).map Plc.id) (ps (l.drop k))
theorem ckAt_zero (l : List Plc) : ckAt l 0 = Ix.ckB none (ps l) := rfl
theorem ckAt_end {l : List Plc} {k : Nat} (h : l.length ≤ k) : ckAt l k = 0 := by
  rw [ckAt, List.drop_eq_nil_of_le h]
  generalize (if k = 0 then none else (l[k - 1]?).map Plc.id) = o
  cases o <;> rfl
theorem ckAt_bad {l : List Plc} {k : Nat} {t : Plc} (h : l[k]? = some t) (he : Ix.plErr t.p ≠ 0) : ckAt l k = Ix.plErr t.p := by
  obtain ⟨hk, rfl⟩ := List.getElem?_eq_some_iff.1 h
  rw [ckAt, List.drop_eq_getElem_cons hk, ps, List.map_cons]
  generalize (if k = 0 then none else (l[k - 1]?).map Plc.id) = o
  cases o <;> (rw [Ix.ckB, if_pos he])
theorem ckAt_first {l : List Plc} {t : Plc} (h : l[0]? = some t) (he : Ix.plErr t.p = 0) : ckAt l 0 = ckAt l 1 := by
  obtain ⟨hk, rfl⟩ := List.getElem?_eq_some_iff.1 h
  rw [ckAt, List.drop_eq_getElem_cons hk, ps, List.map_cons, if_pos rfl, Ix.ckB, if_neg (fun k => k he), ckAt, if_neg (by omega), Nat.sub_self, h]
  rfl
theorem ckAt_form {l : List Plc} {m : Nat} {s t : Plc} (h0 : l[m]? = some s) (h : l[m + 1]? = some t) (he : Ix.plErr t.p = 0) (hc : cId s.id t.id < 0) : ckAt l (m + 1) = ckAt l (m + 2) := by
  obtain ⟨hk, rfl⟩ := List.getElem?_eq_some_iff.1 h
  have hlt := cId_neg.1 hc
  rw [ckAt, List.drop_eq_getElem_cons hk, ps, List.map_cons, if_neg (by omega), Nat.add_sub_cancel, h0, Option.map_some, Ix.ckB, if_neg (fun k => k he), if_neg (by show ¬ Nm.val l[m + 1].id ≤ Nm.val s.id; omega), ckAt, if_neg (by omega), show m + 2 - 1 = m + 1 from rfl, h]
  rfl
theorem ckAt_not {l : List Plc} {m : Nat} {s t : Plc} (h0 : l[m]? = some s) (h : l[m + 1]? = some t) (he : Ix.plErr t.p = 0) (hc : ¬ cId s.id t.id < 0) : ckAt l (m + 1) = 4 := by
  obtain ⟨hk, rfl⟩ := List.getElem?_eq_some_iff.1 h
  have hlt : ¬ Nm.val s.id < Nm.val l[m + 1].id := fun k => hc (cId_neg.2 k)
  rw [ckAt, List.drop_eq_getElem_cons hk, ps, List.map_cons, if_neg (by omega), Nat.add_sub_cancel, h0, Option.map_some, Ix.ckB, if_neg (fun k => k he), if_pos (by show Nm.val l[m + 1].id ≤ Nm.val s.id; omega)]
theorem cmpIds_below (x y : List UInt8) (w : World) (hl : x.length = 8) (hl2 : y.length = 8) :
    Calls Try.prog 27 #[idV x, idV y] w fun e w' => e = .returned (.int .i64 (cId x y)) ∧ Below w.heap.size w w' :=
  (cmpIds_any x y w hl hl2).mono fun _ _ ⟨he, q, os, h⟩ => ⟨he, by rw [h]; exact ⟨rfl, rfl, rfl, by simp [grow], fun k hk => by simp [grow, Array.getElem?_append, hk]⟩⟩

set_option maxHeartbeats 4000000 in
theorem check_any (v : Value) (l : List Plc) (w : World) (h : Px w v l) (hl : l.length ≤ 140737488351232) :
    Calls Try.prog 18 #[v] w fun e w' => e = .returned (.int .i64 (Ix.check (ps l))) ∧ Below w.heap.size w w' := by
  obtain ⟨a, c, rfl, hc1, hc2⟩ := h.slice
  by_cases h4 : 400 < l.length
  · have HE : Hid (Ix.check (ps l) = 2) := by show _ = _; unfold Ix.check; rw [if_pos (by rw [List.length_map]; exact h4)]
    clear h
    go_enter Try.func18, Try.ntmps18
    go_wp2_with fail
    go_ret
    exact ⟨by rw [HE.out]; rfl, Below.refl _ _⟩
  have h4' : l.length ≤ 400 := by omega
  obtain ⟨E, hE⟩ : ∃ E, Ix.check (ps l) = E := ⟨_, rfl⟩
  have HE0 : Hid (ckAt l 0 = E) := by
    show _ = _
    rw [← hE]; unfold Ix.check; rw [if_neg (by rw [List.length_map]; exact h4)]; rfl
  rw [hE]
  have HH : Hid (Px w (.slice a l.length c) l) := h
  have hck := fun t W => ckPlace_any t W
  have hci := fun x y W h1 h2 => cmpIds_below x y W h1 h2
  clear h hE h4
  go_enter Try.func18, Try.ntmps18
  go_wp2_with fail
  go_loopw [11] (fun i wr => ∃ k : Nat, k ≤ l.length ∧ i = .int .i64 k ∧ Hid (ckAt l k = E) ∧ Hid (Below w.heap.size w wr)) (fun i _ => l.length - (intOf i).toNat)
  case atStart => exact ⟨0, by omega, rfl, HE0, Below.refl _ _⟩
  case round =>
    obtain ⟨k, hk, rfl, he, hbel⟩ := hrel
    clear HE0
    by_cases hlt : k < l.length
    · obtain ⟨t, ht⟩ : ∃ t, l[k]? = some t := ⟨_, List.getElem?_eq_getElem hlt⟩
      obtain ⟨b0, b1, b2, b3, b4, b5, b6, b7, k1, p1, a1, l1, ht12⟩ := t.as12
      rw [ht12] at ht
      have HT : Hid (l[k]? = some ⟨[b0, b1, b2, b3, b4, b5, b6, b7], rfl, k1, p1, a1, l1⟩) := ht
      obtain ⟨bk, o, hao, hbk, hat⟩ := (HH.out.below hbel.out).twelve k ht
      subst hao
      have hck1 : ∀ W, Calls Try.prog 25 #[.agg (pl12 b0 b1 b2 b3 b4 b5 b6 b7 k1 p1 a1 l1)] W fun e w' => e = .returned (.int .i64 (Ix.plErr (Plc.p ⟨[b0, b1, b2, b3, b4, b5, b6, b7], rfl, k1, p1, a1, l1⟩))) ∧ Below W.heap.size W w' := fun W => hck _ W
      obtain ⟨er, her⟩ : ∃ er, Ix.plErr (Plc.p ⟨[b0, b1, b2, b3, b4, b5, b6, b7], rfl, k1, p1, a1, l1⟩) = er := ⟨_, rfl⟩
      have HER : Hid (Ix.plErr (Plc.p ⟨[b0, b1, b2, b3, b4, b5, b6, b7], rfl, k1, p1, a1, l1⟩) = er) := her
      rw [her] at hck1
      clear her ht ht12 hck
      have x0 : wr.cell? ⟨bk, o + k * 12, none⟩ = some (.int .u8 (b0.toNat : Int)) := hat.c0
      have x1 : wr.cell? ⟨bk, o + k * 12 + 1, none⟩ = some (.int .u8 (b1.toNat : Int)) := hat.c1
      have x2 : wr.cell? ⟨bk, o + k * 12 + 2, none⟩ = some (.int .u8 (b2.toNat : Int)) := hat.c2
      have x3 : wr.cell? ⟨bk, o + k * 12 + 3, none⟩ = some (.int .u8 (b3.toNat : Int)) := hat.c3
      have x4 : wr.cell? ⟨bk, o + k * 12 + 4, none⟩ = some (.int .u8 (b4.toNat : Int)) := hat.c4
      have x5 : wr.cell? ⟨bk, o + k * 12 + 5, none⟩ = some (.int .u8 (b5.toNat : Int)) := hat.c5
      have x6 : wr.cell? ⟨bk, o + k * 12 + 6, none⟩ = some (.int .u8 (b6.toNat : Int)) := hat.c6
      have x7 : wr.cell? ⟨bk, o + k * 12 + 7, none⟩ = some (.int .u8 (b7.toNat : Int)) := hat.c7
      have x8 : wr.cell? ⟨bk, o + k * 12 + 8, none⟩ = some (.int .i64 k1) := hat.c8
      have x9 : wr.cell? ⟨bk, o + k * 12 + 9, none⟩ = some (.int .i64 p1) := hat.c9
      have x10 : wr.cell? ⟨bk, o + k * 12 + 10, none⟩ = some (.int .i64 a1) := hat.c10
      have x11 : wr.cell? ⟨bk, o + k * 12 + 11, none⟩ = some (.int .i64 l1) := hat.c11
      clear hat
      have HN : Hid (At12 (wr.alloc (.cells (pl12 b0 b1 b2 b3 b4 b5 b6 b7 k1 p1 a1 l1) 29)) wr.heap.size 0 b0 b1 b2 b3 b4 b5 b6 b7 k1 p1 a1 l1) := At12.new _ _ _ _ _ _ _ _ _ _ _ _ _ _
      have HB1 : Hid (Below w.heap.size w (wr.alloc (.cells (pl12 b0 b1 b2 b3 b4 b5 b6 b7 k1 p1 a1 l1) 29))) := hbel.out.alloc hbel.out.size _
      have HS : Hid ((wr.alloc (.cells (pl12 b0 b1 b2 b3 b4 b5 b6 b7 k1 p1 a1 l1) 29)).heap.size = wr.heap.size + 1) := by show (wr.heap.push _).size = _; simp
      by_cases hE : er = 0
      · subst hE
        by_cases hk0 : 0 < k
        · obtain ⟨m, hkm⟩ : ∃ m, k = m + 1 := ⟨k - 1, by omega⟩
          have HKM : Hid (k = m + 1) := hkm
          obtain ⟨s, hs⟩ : ∃ s, l[m]? = some s := ⟨_, List.getElem?_eq_getElem (by omega)⟩
          obtain ⟨d0, d1, d2, d3, d4, d5, d6, d7, k0, p0, a0, l0, hs12⟩ := s.as12
          rw [hs12] at hs
          have HSS : Hid (l[m]? = some ⟨[d0, d1, d2, d3, d4, d5, d6, d7], rfl, k0, p0, a0, l0⟩) := hs
          obtain ⟨bk', o', hao, hbk', hat⟩ := (HH.out.below hbel.out).twelve m hs
          rw [Option.some.injEq, Addr.mk.injEq] at hao
          obtain ⟨rfl, rfl, _⟩ := hao
          have HAT : Hid (At12 wr bk (o + m * 12) d0 d1 d2 d3 d4 d5 d6 d7 k0 p0 a0 l0) := hat
          have hm1 : (k : Int) - 1 = (m : Int) := by omega
          have hml : m < l.length := by omega
          have hci1 : ∀ W, Calls Try.prog 27 #[.agg #[.int .u8 (d0.toNat : Int), .int .u8 (d1.toNat : Int), .int .u8 (d2.toNat : Int), .int .u8 (d3.toNat : Int), .int .u8 (d4.toNat : Int), .int .u8 (d5.toNat : Int), .int .u8 (d6.toNat : Int), .int .u8 (d7.toNat : Int)], .agg #[.int .u8 (b0.toNat : Int), .int .u8 (b1.toNat : Int), .int .u8 (b2.toNat : Int), .int .u8 (b3.toNat : Int), .int .u8 (b4.toNat : Int), .int .u8 (b5.toNat : Int), .int .u8 (b6.toNat : Int), .int .u8 (b7.toNat : Int)]] W fun e w' => e = .returned (.int .i64 (cId [d0, d1, d2, d3, d4, d5, d6, d7] [b0, b1, b2, b3, b4, b5, b6, b7])) ∧ Below W.heap.size W w' := fun W => hci [d0, d1, d2, d3, d4, d5, d6, d7] [b0, b1, b2, b3, b4, b5, b6, b7] W rfl rfl
          obtain ⟨cc, hcc⟩ : ∃ cc, cId [d0, d1, d2, d3, d4, d5, d6, d7] [b0, b1, b2, b3, b4, b5, b6, b7] = cc := ⟨_, rfl⟩
          have HCC : Hid (cId [d0, d1, d2, d3, d4, d5, d6, d7] [b0, b1, b2, b3, b4, b5, b6, b7] = cc) := hcc
          rw [hcc] at hci1
          have hk1 : decide (0 < k) = true := decide_eq_true (by omega)
          clear hcc hs hs12 hat hci hkm hk0
          go_wp2_with (go_at_call 25; refine (hck1 _).mono ?_; rintro e w2 ⟨rfl, hb2⟩)
          have HB2 : Hid (Below w.heap.size w w2) := HB1.out.trans (hb2.mono (by rw [HS.out]; have := hbel.out.size; omega))
          have HA2 := (HAT.out.below ((Below.refl wr.heap.size wr).alloc (Nat.le_refl _) (.cells (pl12 b0 b1 b2 b3 b4 b5 b6 b7 k1 p1 a1 l1) 29)) hbk).below hb2 (by rw [HS.out]; omega)
          have HN2 := HN.out.below hb2 (by rw [HS.out]; omega)
          have hz2 : wr.heap.size + 1 ≤ w2.heap.size := by rw [← HS.out]; exact hb2.size
          have hbk2 : bk < w2.heap.size := by omega
          have hbr2 : wr.heap.size < w2.heap.size := by omega
          clear hb2 hck1 HN HB1 HS HAT x0 x1 x2 x3 x4 x5 x6 x7 x8 x9 x10 x11
          have y0 : ∀ X : Since w2.heap.size w2, X.val.cell? ⟨bk, o + m * 12, none⟩ = some (.int .u8 (d0.toNat : Int)) := fun X => (X.property.cell (p := ⟨bk, o + m * 12, none⟩) hbk2).trans HA2.c0
          have y1 : ∀ X : Since w2.heap.size w2, X.val.cell? ⟨bk, o + m * 12 + 1, none⟩ = some (.int .u8 (d1.toNat : Int)) := fun X => (X.property.cell (p := ⟨bk, o + m * 12 + 1, none⟩) hbk2).trans HA2.c1
          have y2 : ∀ X : Since w2.heap.size w2, X.val.cell? ⟨bk, o + m * 12 + 2, none⟩ = some (.int .u8 (d2.toNat : Int)) := fun X => (X.property.cell (p := ⟨bk, o + m * 12 + 2, none⟩) hbk2).trans HA2.c2
          have y3 : ∀ X : Since w2.heap.size w2, X.val.cell? ⟨bk, o + m * 12 + 3, none⟩ = some (.int .u8 (d3.toNat : Int)) := fun X => (X.property.cell (p := ⟨bk, o + m * 12 + 3, none⟩) hbk2).trans HA2.c3
          have y4 : ∀ X : Since w2.heap.size w2, X.val.cell? ⟨bk, o + m * 12 + 4, none⟩ = some (.int .u8 (d4.toNat : Int)) := fun X => (X.property.cell (p := ⟨bk, o + m * 12 + 4, none⟩) hbk2).trans HA2.c4
          have y5 : ∀ X : Since w2.heap.size w2, X.val.cell? ⟨bk, o + m * 12 + 5, none⟩ = some (.int .u8 (d5.toNat : Int)) := fun X => (X.property.cell (p := ⟨bk, o + m * 12 + 5, none⟩) hbk2).trans HA2.c5
          have y6 : ∀ X : Since w2.heap.size w2, X.val.cell? ⟨bk, o + m * 12 + 6, none⟩ = some (.int .u8 (d6.toNat : Int)) := fun X => (X.property.cell (p := ⟨bk, o + m * 12 + 6, none⟩) hbk2).trans HA2.c6
          have y7 : ∀ X : Since w2.heap.size w2, X.val.cell? ⟨bk, o + m * 12 + 7, none⟩ = some (.int .u8 (d7.toNat : Int)) := fun X => (X.property.cell (p := ⟨bk, o + m * 12 + 7, none⟩) hbk2).trans HA2.c7
          have z0 : ∀ X : Since w2.heap.size w2, X.val.cell? ⟨wr.heap.size, 0, none⟩ = some (.int .u8 (b0.toNat : Int)) := fun X => (X.property.cell (p := ⟨wr.heap.size, 0, none⟩) hbr2).trans HN2.c0
          have z1 : ∀ X : Since w2.heap.size w2, X.val.cell? ⟨wr.heap.size, 1, none⟩ = some (.int .u8 (b1.toNat : Int)) := fun X => (X.property.cell (p := ⟨wr.heap.size, 1, none⟩) hbr2).trans HN2.c1
          have z2 : ∀ X : Since w2.heap.size w2, X.val.cell? ⟨wr.heap.size, 2, none⟩ = some (.int .u8 (b2.toNat : Int)) := fun X => (X.property.cell (p := ⟨wr.heap.size, 2, none⟩) hbr2).trans HN2.c2
          have z3 : ∀ X : Since w2.heap.size w2, X.val.cell? ⟨wr.heap.size, 3, none⟩ = some (.int .u8 (b3.toNat : Int)) := fun X => (X.property.cell (p := ⟨wr.heap.size, 3, none⟩) hbr2).trans HN2.c3
          have z4 : ∀ X : Since w2.heap.size w2, X.val.cell? ⟨wr.heap.size, 4, none⟩ = some (.int .u8 (b4.toNat : Int)) := fun X => (X.property.cell (p := ⟨wr.heap.size, 4, none⟩) hbr2).trans HN2.c4
          have z5 : ∀ X : Since w2.heap.size w2, X.val.cell? ⟨wr.heap.size, 5, none⟩ = some (.int .u8 (b5.toNat : Int)) := fun X => (X.property.cell (p := ⟨wr.heap.size, 5, none⟩) hbr2).trans HN2.c5
          have z6 : ∀ X : Since w2.heap.size w2, X.val.cell? ⟨wr.heap.size, 6, none⟩ = some (.int .u8 (b6.toNat : Int)) := fun X => (X.property.cell (p := ⟨wr.heap.size, 6, none⟩) hbr2).trans HN2.c6
          have z7 : ∀ X : Since w2.heap.size w2, X.val.cell? ⟨wr.heap.size, 7, none⟩ = some (.int .u8 (b7.toNat : Int)) := fun X => (X.property.cell (p := ⟨wr.heap.size, 7, none⟩) hbr2).trans HN2.c7
          clear HA2 HN2 hbk2 hbr2 hz2 hbk
          by_cases hneg : cc < 0
          · have HE2 : Hid (ckAt l (k + 1) = E) := by
              show _ = _
              rw [HKM.out, ← ckAt_form HSS.out (by rw [← HKM.out]; exact HT.out) HER.out (by rw [HCC.out]; exact hneg), ← HKM.out]
              exact he.out
            have hng : decide ((0 : Int) ≤ cc) = false := decide_eq_false (by omega)
            clear HER he hneg HCC
            have hne : Nonempty (Since w2.heap.size w2) := ⟨⟨w2, Below.refl _ _⟩⟩
            refine wp_region_since (B := w2.heap.size) (W0 := w2) (by kernel_rfl) (by kernel_rfl) (Below.refl _ _) ?_
            repeat (go_big_quiet_step (exact quiet_since _ (hci1 _)))
            refine wpQuiet_nil ?_
            rintro w7 ⟨U, rfl⟩
            have HB3 : Hid (Below w.heap.size w U.val) := HB2.out.trans (U.property.mono HB2.out.size)
            generalize U.val = w7 at *
            clear hne hci1 y0 y1 y2 y3 y4 y5 y6 y7 z0 z1 z2 z3 z4 z5 z6 z7
            go_wp2_with fail
            go_roundw
            case rel => exact ⟨k + 1, by omega, by go_num, HE2, HB3.out⟩
            case measure => simp only [intOf]; omega
          · have HE2 : Hid (E = 4) := by
              show _ = _
              rw [← he.out, HKM.out, ckAt_not HSS.out (by rw [← HKM.out]; exact HT.out) HER.out (by rw [HCC.out]; exact hneg)]
            have hng : decide ((0 : Int) ≤ cc) = true := decide_eq_true (by omega)
            clear HER he hneg HCC
            have hne : Nonempty (Since w2.heap.size w2) := ⟨⟨w2, Below.refl _ _⟩⟩
            refine wp_region_since (B := w2.heap.size) (W0 := w2) (by kernel_rfl) (by kernel_rfl) (Below.refl _ _) ?_
            repeat (go_big_quiet_step (exact quiet_since _ (hci1 _)))
            refine wpQuiet_nil ?_
            rintro w7 ⟨U, rfl⟩
            have HB3 : Hid (Below w.heap.size w U.val) := HB2.out.trans (U.property.mono HB2.out.size)
            generalize U.val = w7 at *
            clear hne hci1 y0 y1 y2 y3 y4 y5 y6 y7 z0 z1 z2 z3 z4 z5 z6 z7
            go_wp2_with fail
            go_ret
            exact ⟨by rw [HE2.out]; rfl, HB3.out⟩
        · have HE2 : Hid (ckAt l (k + 1) = E) := by
            have hk00 : k = 0 := by omega
            subst hk00
            exact (ckAt_first HT.out HER.out).symm.trans he.out
          have hk1 : decide (0 < k) = false := decide_eq_false (by omega)
          clear HER he hci hk0
          go_wp2_with (go_at_call 25; refine (hck1 _).mono ?_; rintro e w2 ⟨rfl, hb2⟩)
          have HB2 : Hid (Below w.heap.size w w2) := HB1.out.trans (hb2.mono (by rw [HS.out]; have := hbel.out.size; omega))
          clear hb2 hck1 HN HB1 HS x0 x1 x2 x3 x4 x5 x6 x7 x8 x9 x10 x11
          have hne : Nonempty (Since w2.heap.size w2) := ⟨⟨w2, Below.refl _ _⟩⟩
          refine wp_region_since (B := w2.heap.size) (W0 := w2) (by kernel_rfl) (by kernel_rfl) (Below.refl _ _) ?_
          repeat (go_big_quiet_step (fail))
          refine wpQuiet_nil ?_
          rintro w7 ⟨U, rfl⟩
          have HB3 : Hid (Below w.heap.size w U.val) := HB2.out.trans (U.property.mono HB2.out.size)
          generalize U.val = w7 at *
          clear hne
          go_wp2_with fail
          go_roundw
          case rel => exact ⟨k + 1, by omega, by go_num, HE2, HB3.out⟩
          case measure => simp only [intOf]; omega
      · have HR : Hid (E = er) := he.out.symm.trans ((ckAt_bad HT.out (by rw [HER.out]; exact hE)).trans HER.out)
        have hE2 : (er == 0) = false := by simpa using hE
        clear HER he hci hE
        go_wp2_with (go_at_call 25; refine (hck1 _).mono ?_; rintro e w2 ⟨rfl, hb2⟩)
        go_ret
        exact ⟨by rw [HR.out]; rfl, HB1.out.trans (hb2.mono (by rw [HS.out]; have := hbel.out.size; omega))⟩
    · have HR : Hid (E = 0) := he.out.symm.trans (ckAt_end (by omega))
      clear he hck hci
      go_wp2_with fail
      go_ret
      exact ⟨by rw [HR.out]; rfl, hbel.out⟩
end Go.Proofs.Ytllioidjelgafab
