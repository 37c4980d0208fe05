/-
  What put of the library's reference answers: one more place among places.
-/
import Derived.Test.YtllioidjelgafaaRPutM
import Derived.Test.YtllioidjelgafaaPlRChk
import Derived.Test.YtllioidjelgafaaPlText
import Derived.Test.YtllioidjelgafaaPlMerge
namespace Go.Proofs.Ytllioidjelgafaa
open Go.RowKit
set_option maxRecDepth 4000

theorem rp12_info : (Try.prog.info? 28).map (·.size) = some 12 := by kernel_rfl
theorem rp12_all (t : Plc) : (plC t).toArray.all (·.oneCell') = true := by rw [Array.all_eq_true']; intro v hv; exact plC_one t v (by simpa using hv)
theorem rp12_sz (t : Plc) : (plC t).toArray.size = 12 := by rw [List.size_toArray, plC_length]

theorem at12_range {W : World} {g o : Nat} {b0 b1 b2 b3 b4 b5 b6 b7 : UInt8} {k p a l : Int} (h : At12 W g o b0 b1 b2 b3 b4 b5 b6 b7 k p a l) : W.rangeAt g o (plC ⟨[b0, b1, b2, b3, b4, b5, b6, b7], rfl, k, p, a, l⟩) := fun r u hu => by
  match r, hu with
  | 0, hu => exact h.c0.trans hu
  | 1, hu => exact h.c1.trans hu
  | 2, hu => exact h.c2.trans hu
  | 3, hu => exact h.c3.trans hu
  | 4, hu => exact h.c4.trans hu
  | 5, hu => exact h.c5.trans hu
  | 6, hu => exact h.c6.trans hu
  | 7, hu => exact h.c7.trans hu
  | 8, hu => exact h.c8.trans hu
  | 9, hu => exact h.c9.trans hu
  | 10, hu => exact h.c10.trans hu
  | 11, hu => exact h.c11.trans hu
  | n + 12, hu => exact absurd (List.getElem?_eq_some_iff.1 hu).1 (by rw [plC_length]; omega)

set_option maxHeartbeats 8000000 in
theorem rput_of (a : Option Addr) (c : Nat) (x : List Plc) (d0 d1 d2 d3 d4 d5 d6 d7 : UInt8) (kp pp ap lp : Int) (R : List Plc) (w : World) (h : Px w (.slice a x.length c) x) (hl : x.length ≤ 1000) (hR : pput x ⟨[d0, d1, d2, d3, d4, d5, d6, d7], rfl, kp, pp, ap, lp⟩ = R) :
    Calls Try.prog 36 #[.slice a x.length c, .agg (pl12 d0 d1 d2 d3 d4 d5 d6 d7 kp pp ap lp)] w fun e w' => ∃ v', e = .returned v' ∧ w'.ownsRow w.heap.size 28 12 v' R.length (rowR plC R) ∧ Below w.heap.size w w' := by
  obtain ⟨i0, hi, hz0, hz1, hz2⟩ := info_three info_plz
  obtain ⟨c1, c2, e0, hc1, hc2⟩ := h.slice
  have HH : Hid (Px w (.slice a x.length c) x) := h
  have HRL : Hid (R.length ≤ 1001) := by show R.length ≤ _; rw [← hR]; have := pput_len x ⟨[d0, d1, d2, d3, d4, d5, d6, d7], rfl, kp, pp, ap, lp⟩; omega
  have HR : Hid ([] ++ pend false (x.drop 0) ⟨[d0, d1, d2, d3, d4, d5, d6, d7], rfl, kp, pp, ap, lp⟩ = R) := hR
  have HRW : Hid (Rw (w.alloc (.cells (pl12 d0 d1 d2 d3 d4 d5 d6 d7 kp pp ap lp) 28)) w.heap.size [⟨[d0, d1, d2, d3, d4, d5, d6, d7], rfl, kp, pp, ap, lp⟩]) := Rw.one w ⟨[d0, d1, d2, d3, d4, d5, d6, d7], rfl, kp, pp, ap, lp⟩ 28
  have HBW : Hid (Below w.heap.size w (w.alloc (.cells (pl12 d0 d1 d2 d3 d4 d5 d6 d7 kp pp ap lp) 28))) := (Below.refl _ w).alloc (Nat.le_refl _) _
  have hsm := fun s t W b hb => smaller_any s t W b hb
  simp only [Value.slice.injEq] at e0
  obtain ⟨rfl, _, rfl⟩ := e0
  clear h hR
  go_enter Try.func36, Try.ntmps36
  go_wp2_with fail
  go_loopw [5, 6, 11] (fun vo vd i wr => ∃ (k m : Nat) (D : Bool) (O : List Plc) (so : Option Addr) (co : Nat), vo = .slice so m co ∧ k ≤ x.length ∧ m ≤ 1001 ∧ i = .int .i64 k ∧ vd = .bool D ∧ Hid (O.length = m) ∧ Hid (O ++ pend D (x.drop k) ⟨[d0, d1, d2, d3, d4, d5, d6, d7], rfl, kp, pp, ap, lp⟩ = R) ∧ Hid (wr.ownsRow (w.heap.size + 1) 28 12 (.slice so m co) m (rowR plC O)) ∧ Hid (Below w.heap.size w wr ∧ w.heap.size + 1 ≤ wr.heap.size) ∧ Hid (D = false → Rw wr w.heap.size [⟨[d0, d1, d2, d3, d4, d5, d6, d7], rfl, kp, pp, ap, lp⟩])) (fun _ _ i _ => x.length - (intOf i).toNat)
  case atStart => exact ⟨0, 0, false, [], none, 0, rfl, by omega, by omega, rfl, rfl, rfl, HR, World.ownsRow_nil _ _ _ _, ⟨HBW.out, by show _ ≤ (w.heap.push _).size; simp⟩, fun _ => HRW.out⟩
  case round =>
    obtain ⟨k, m, D, O, so, co, rfl, hk, hm, rfl, rfl, hO, hinv, hown, hbel, hrw⟩ := hrel
    clear HR HRW HBW
    by_cases hlt : k < x.length
    · obtain ⟨t, ht⟩ : ∃ t, x[k]? = some t := ⟨_, List.getElem?_eq_getElem hlt⟩
      obtain ⟨b0, b1, b2, b3, b4, b5, b6, b7, k1, p1, a1, l1, ht12⟩ := t.as12
      rw [ht12] at ht
      have HT : Hid (x[k]? = some ⟨[b0, b1, b2, b3, b4, b5, b6, b7], rfl, k1, p1, a1, l1⟩) := ht
      obtain ⟨bk, o, hao, hbk, hat⟩ := (HH.out.below hbel.out.1).twelve k ht
      subst hao
      have x0 : wr.cell? ⟨bk, o + k * 12, none⟩ = some (.int .u8 (b0.toNat : Int)) := hat.c0
      have x1 : wr.cell? ⟨bk, o + k * 12 + 1, none⟩ = some (.int .u8 (b1.toNat : Int)) := hat.c1
      have x2 : wr.cell? ⟨bk, o + k * 12 + 2, none⟩ = some (.int .u8 (b2.toNat : Int)) := hat.c2
      have x3 : wr.cell? ⟨bk, o + k * 12 + 3, none⟩ = some (.int .u8 (b3.toNat : Int)) := hat.c3
      have x4 : wr.cell? ⟨bk, o + k * 12 + 4, none⟩ = some (.int .u8 (b4.toNat : Int)) := hat.c4
      have x5 : wr.cell? ⟨bk, o + k * 12 + 5, none⟩ = some (.int .u8 (b5.toNat : Int)) := hat.c5
      have x6 : wr.cell? ⟨bk, o + k * 12 + 6, none⟩ = some (.int .u8 (b6.toNat : Int)) := hat.c6
      have x7 : wr.cell? ⟨bk, o + k * 12 + 7, none⟩ = some (.int .u8 (b7.toNat : Int)) := hat.c7
      have x8 : wr.cell? ⟨bk, o + k * 12 + 8, none⟩ = some (.int .i64 k1) := hat.c8
      have x9 : wr.cell? ⟨bk, o + k * 12 + 9, none⟩ = some (.int .i64 p1) := hat.c9
      have x10 : wr.cell? ⟨bk, o + k * 12 + 10, none⟩ = some (.int .i64 a1) := hat.c10
      have x11 : wr.cell? ⟨bk, o + k * 12 + 11, none⟩ = some (.int .i64 l1) := hat.c11
      clear hat ht ht12
      have HN0 : Hid (At12 (wr.alloc (.cells (pl12 b0 b1 b2 b3 b4 b5 b6 b7 k1 p1 a1 l1) 28)) wr.heap.size 0 b0 b1 b2 b3 b4 b5 b6 b7 k1 p1 a1 l1) := At12.new _ _ _ _ _ _ _ _ _ _ _ _ _ _
      have HKQ0 : Hid (Kept (fun g => g < w.heap.size + 1) wr (wr.alloc (.cells (pl12 b0 b1 b2 b3 b4 b5 b6 b7 k1 p1 a1 l1) 28))) := (Kept.refl _ _).alloc _
      have HOQ0 : Hid ((wr.alloc (.cells (pl12 b0 b1 b2 b3 b4 b5 b6 b7 k1 p1 a1 l1) 28)).ownsRow (w.heap.size + 1) 28 12 (.slice so m co) m (rowR plC O)) := hown.out.alloc _
      have HWQ0 : Hid (wr.heap.size < (wr.alloc (.cells (pl12 b0 b1 b2 b3 b4 b5 b6 b7 k1 p1 a1 l1) 28)).heap.size) := by show _ < (wr.heap.push _).size; simp
      have hsw : Hid (w.heap.size + 1 ≤ wr.heap.size) := hbel.out.2
      have HNB0 : Hid (∀ j, (Value.slice so m co).ownBlock = some j → j < wr.heap.size) := fun j hj => (hown.out.lt j hj).2
      have HLEN : Hid (O.length + (pend D (x.drop k) ⟨[d0, d1, d2, d3, d4, d5, d6, d7], rfl, kp, pp, ap, lp⟩).length ≤ 1001) := by
        show _ ≤ _
        have := congrArg List.length hinv.out
        rw [List.length_append] at this
        have := HRL.out
        omega
      go_upto_region 6 with fail
      obtain ⟨wq, hwq⟩ : ∃ W, W = wr.alloc (.cells (pl12 b0 b1 b2 b3 b4 b5 b6 b7 k1 p1 a1 l1) 28) := ⟨_, rfl⟩
      rw [← hwq] at HN0 HKQ0 HOQ0 HWQ0
      simp only [← hwq]
      have HN : Hid (At12 wq wr.heap.size 0 b0 b1 b2 b3 b4 b5 b6 b7 k1 p1 a1 l1) := HN0
      have HKQ : Hid (Kept (fun g => g < w.heap.size + 1) wr wq) := HKQ0
      have HOQ : Hid (wq.ownsRow (w.heap.size + 1) 28 12 (.slice so m co) m (rowR plC O)) := HOQ0
      have HWQ : Hid (wr.heap.size < wq.heap.size) := HWQ0
      clear HN0 HKQ0 HOQ0 HWQ0 hwq hown x0 x1 x2 x3 x4 x5 x6 x7 x8 x9 x10 x11
      cases D with
      | true =>
        have hm1 : m + 1 ≤ 1001 := by
          have h1 := HLEN.out
          rw [pend_done HT.out, List.length_cons] at h1
          have := hO.out
          omega
        have HI : Hid ((O ++ [⟨[b0, b1, b2, b3, b4, b5, b6, b7], rfl, k1, p1, a1, l1⟩]) ++ pend true (x.drop (k + 1)) ⟨[d0, d1, d2, d3, d4, d5, d6, d7], rfl, kp, pp, ap, lp⟩ = R) := by
          show _ = _
          rw [← hinv.out, pend_done HT.out, List.append_assoc]
          rfl
        have HL : Hid ((O ++ [(⟨[b0, b1, b2, b3, b4, b5, b6, b7], rfl, k1, p1, a1, l1⟩ : Plc)]).length = m + 1) := by show (O ++ [_]).length = _; rw [List.length_append, hO.out]; rfl
        have hne : Nonempty (Since wq.heap.size wq) := ⟨⟨wq, Below.refl _ _⟩⟩
        refine wp_region_since (B := wq.heap.size) (W0 := wq) (by kernel_rfl) (by kernel_rfl) (Below.refl _ _) ?_
        repeat (go_big_quiet_step (fail))
        refine wpQuiet_nil ?_
        rintro w7 ⟨U, rfl⟩
        have HK7 : Hid (Kept (fun g => g < w.heap.size + 1) wr U.val) := HKQ.out.trans (Kept.of_below U.property)
        have HO7 : Hid (U.val.ownsRow (w.heap.size + 1) 28 12 (.slice so m co) m (rowR plC O)) := ixown_below HOQ.out U.property
        have atq := HN.out.below U.property HWQ.out
        have HW7 : Hid (wr.heap.size < U.val.heap.size) := Nat.lt_of_lt_of_le HWQ.out U.property.size
        generalize U.val = w7 at *
        clear hne HN HOQ HKQ HWQ
        have y0 : w7.cell? ⟨wr.heap.size, 0, none⟩ = some (.int .u8 (b0.toNat : Int)) := atq.c0
        have y1 : w7.cell? ⟨wr.heap.size, 1, none⟩ = some (.int .u8 (b1.toNat : Int)) := atq.c1
        have y2 : w7.cell? ⟨wr.heap.size, 2, none⟩ = some (.int .u8 (b2.toNat : Int)) := atq.c2
        have y3 : w7.cell? ⟨wr.heap.size, 3, none⟩ = some (.int .u8 (b3.toNat : Int)) := atq.c3
        have y4 : w7.cell? ⟨wr.heap.size, 4, none⟩ = some (.int .u8 (b4.toNat : Int)) := atq.c4
        have y5 : w7.cell? ⟨wr.heap.size, 5, none⟩ = some (.int .u8 (b5.toNat : Int)) := atq.c5
        have y6 : w7.cell? ⟨wr.heap.size, 6, none⟩ = some (.int .u8 (b6.toNat : Int)) := atq.c6
        have y7 : w7.cell? ⟨wr.heap.size, 7, none⟩ = some (.int .u8 (b7.toNat : Int)) := atq.c7
        have y8 : w7.cell? ⟨wr.heap.size, 8, none⟩ = some (.int .i64 k1) := atq.c8
        have y9 : w7.cell? ⟨wr.heap.size, 9, none⟩ = some (.int .i64 p1) := atq.c9
        have y10 : w7.cell? ⟨wr.heap.size, 10, none⟩ = some (.int .i64 a1) := atq.c10
        have y11 : w7.cell? ⟨wr.heap.size, 11, none⟩ = some (.int .i64 l1) := atq.c11
        clear atq
        have hone8 := one_cells w7 (pl12 b0 b1 b2 b3 b4 b5 b6 b7 k1 p1 a1 l1).toList 28
        have hown8 := HO7.out.alloc (.cells (pl12 b0 b1 b2 b3 b4 b5 b6 b7 k1 p1 a1 l1) 28)
        have hsz8 : w.heap.size + 1 ≤ w7.heap.size := Nat.le_trans hsw.out HK7.out.size
        have hsa8 : w.heap.size + 1 ≤ (w7.alloc (.cells (pl12 b0 b1 b2 b3 b4 b5 b6 b7 k1 p1 a1 l1) 28)).heap.size := by show _ ≤ (w7.heap.push _).size; rw [Array.size_push]; omega
        have hsb8 : w.heap.size + 1 ≤ w7.heap.size + 1 := by omega
        go_wp2_with (at_builtin; refine wpList_append_own _ rfl (.tmp 43) (.tmp 45) 22 rfl (w.heap.size + 1) 28 i0 (plV pl0) 12 40 Try.underlying22 hi hz0 hz1 hz2 (by kernel_rfl) (by decide) _ _ _ rfl hown8 ⟨w7.heap.size, 0, none⟩ 1 1 (pl12 b0 b1 b2 b3 b4 b5 b6 b7 k1 p1 a1 l1).toList rfl rfl hone8 ?e1b ?e1c ?e1d ?e1e ?_)
        case e1b => exact ⟨rfl, rfl, rfl, rfl, rfl, rfl, rfl, rfl, rfl, rfl, rfl, rfl⟩
        case e1c => unfold maxLen; omega
        case e1d => omega
        intro v8 w8 o8 g8 _
        have HO8 : Hid (w8.ownsRow (w.heap.size + 1) 28 12 v8 (m + 1) (rowR plC (O ++ [⟨[b0, b1, b2, b3, b4, b5, b6, b7], rfl, k1, p1, a1, l1⟩]))) := by
          rw [rowR_more]
          exact o8
        have HK8 : Hid (Kept (fun g => g < w.heap.size + 1) wr w8) := (HK7.out.alloc (.cells (pl12 b0 b1 b2 b3 b4 b5 b6 b7 k1 p1 a1 l1) 28)).trans (Kept.of_below_at (((Below.refl _ _).grown g8 hsa8 fun j hj => (hown8.lt j hj).1)) fun k hk => hk)
        clear o8 g8 hown8 hone8 hsa8 hsb8 hsz8
        have HB8 : Hid (Below w.heap.size w w8 ∧ w.heap.size + 1 ≤ w8.heap.size) := ⟨hbel.out.1.trans (HK8.out.below (by have := hsw.out; omega) fun j hj => by show j < _; omega), Nat.le_trans hbel.out.2 HK8.out.size⟩
        obtain ⟨s8, c8, hv8⟩ := ixown_form HO8.out
        subst hv8
        clear y0 y1 y2 y3 y4 y5 y6 y7 y8 y9 y10 y11
        go_wp2_with fail
        go_roundw
        case rel => exact ⟨k + 1, m + 1, true, O ++ [⟨[b0, b1, b2, b3, b4, b5, b6, b7], rfl, k1, p1, a1, l1⟩], s8, c8, rfl, by omega, by omega, by go_num, rfl, HL, HI, HO8, HB8, fun e => Bool.noConfusion e⟩
        case measure => simp only [intOf]; omega
      | false =>
        have HRR : Hid (Rw wr w.heap.size [⟨[d0, d1, d2, d3, d4, d5, d6, d7], rfl, kp, pp, ap, lp⟩]) := hrw.out rfl
        have HRQ : Hid (Rw wq w.heap.size [⟨[d0, d1, d2, d3, d4, d5, d6, d7], rfl, kp, pp, ap, lp⟩]) := HRR.out.kept HKQ.out (by omega)
        have hwlt : w.heap.size < wq.heap.size := HRQ.out.lt
        have HNB : Hid (∀ j, (Value.slice so m co).ownBlock = some j → j < wr.heap.size) := HNB0
        have sy : ∀ X : Since wq.heap.size wq, (convert 56 9 (.slice (some ⟨w.heap.size, 0, none⟩) 8 8)).run Try.prog X.val = .ok (.string ⟨#[d0, d1, d2, d3, d4, d5, d6, d7]⟩) X.val := fun X => (HRQ.out.twelve.below X.property HRQ.out.lt).str
        have sz : ∀ X : Since wq.heap.size wq, (convert 56 9 (.slice (some ⟨wr.heap.size, 0, none⟩) 8 8)).run Try.prog X.val = .ok (.string ⟨#[b0, b1, b2, b3, b4, b5, b6, b7]⟩) X.val := fun X => (HN.out.below X.property HWQ.out).str
        obtain ⟨cc, hcc⟩ : ∃ cc, cId [d0, d1, d2, d3, d4, d5, d6, d7] [b0, b1, b2, b3, b4, b5, b6, b7] = cc := ⟨_, rfl⟩
        have hls1 : Op.bytesLess [d0, d1, d2, d3, d4, d5, d6, d7] [b0, b1, b2, b3, b4, b5, b6, b7] = decide (cc < 0) := by
          rw [less_val [d0, d1, d2, d3, d4, d5, d6, d7] [b0, b1, b2, b3, b4, b5, b6, b7] rfl, ← hcc]
          exact decide_eq_decide.2 cId_neg.symm
        have hls2 : Op.bytesLess [b0, b1, b2, b3, b4, b5, b6, b7] [d0, d1, d2, d3, d4, d5, d6, d7] = decide (0 < cc) := by
          rw [less_val [b0, b1, b2, b3, b4, b5, b6, b7] [d0, d1, d2, d3, d4, d5, d6, d7] rfl, ← hcc]
          have := cId_flip [b0, b1, b2, b3, b4, b5, b6, b7] [d0, d1, d2, d3, d4, d5, d6, d7]
          exact decide_eq_decide.2 ⟨fun h => by have := cId_neg.2 h; omega, fun h => cId_neg.1 (by omega)⟩
        have HCC : Hid (cId [d0, d1, d2, d3, d4, d5, d6, d7] [b0, b1, b2, b3, b4, b5, b6, b7] = cc) := hcc
        have hQ : ∀ (h : Hid (Rw wq w.heap.size [⟨[d0, d1, d2, d3, d4, d5, d6, d7], rfl, kp, pp, ap, lp⟩])), True := fun _ => trivial
        clear hcc hwlt hQ
        by_cases hneg : cc < 0
        · have hm1 : m + 2 ≤ 1001 := by
            have h1 := HLEN.out
            rw [pend_ahead HT.out (by rw [HCC.out]; exact hneg), List.length_cons, List.length_cons] at h1
            have := hO.out
            omega
          have HI : Hid (((O ++ [⟨[d0, d1, d2, d3, d4, d5, d6, d7], rfl, kp, pp, ap, lp⟩]) ++ [⟨[b0, b1, b2, b3, b4, b5, b6, b7], rfl, k1, p1, a1, l1⟩]) ++ pend true (x.drop (k + 1)) ⟨[d0, d1, d2, d3, d4, d5, d6, d7], rfl, kp, pp, ap, lp⟩ = R) := by
            show _ = _
            rw [← hinv.out, pend_ahead HT.out (by rw [HCC.out]; exact hneg), List.append_assoc, List.append_assoc]
            rfl
          obtain ⟨m1, hme⟩ : ∃ m1, m1 = m + 1 := ⟨_, rfl⟩
          have HME : Hid (m1 = m + 1) := hme
          have hm2 : m1 + 1 ≤ 1001 := by omega
          have HL : Hid (((O ++ [(⟨[d0, d1, d2, d3, d4, d5, d6, d7], rfl, kp, pp, ap, lp⟩ : Plc)]) ++ [(⟨[b0, b1, b2, b3, b4, b5, b6, b7], rfl, k1, p1, a1, l1⟩ : Plc)]).length = m1 + 1) := by show ((O ++ [_]) ++ [_]).length = _; rw [List.length_append, List.length_append, hO.out, HME.out]; rfl
          have heq := fun W => id_eq_at W 9998 [d0, d1, d2, d3, d4, d5, d6, d7] [b0, b1, b2, b3, b4, b5, b6, b7] rfl rfl
          have hqf : ([d0, d1, d2, d3, d4, d5, d6, d7] == [b0, b1, b2, b3, b4, b5, b6, b7]) = false := by
            refine Bool.eq_false_iff.2 fun hh => ?_
            have h0 := (cId_zero (a := [d0, d1, d2, d3, d4, d5, d6, d7]) (b := [b0, b1, b2, b3, b4, b5, b6, b7]) rfl).2 (eq_of_beq hh)
            rw [HCC.out] at h0
            omega
          rw [hqf] at heq
          have heq' : ∀ W, (Op.equalIn 10000 24 (.agg #[.int .u8 (d0.toNat : Int), .int .u8 (d1.toNat : Int), .int .u8 (d2.toNat : Int), .int .u8 (d3.toNat : Int), .int .u8 (d4.toNat : Int), .int .u8 (d5.toNat : Int), .int .u8 (d6.toNat : Int), .int .u8 (d7.toNat : Int)]) (.agg #[.int .u8 (b0.toNat : Int), .int .u8 (b1.toNat : Int), .int .u8 (b2.toNat : Int), .int .u8 (b3.toNat : Int), .int .u8 (b4.toNat : Int), .int .u8 (b5.toNat : Int), .int .u8 (b6.toNat : Int), .int .u8 (b7.toNat : Int)])).run Try.prog W = .ok false W := heq
          rw [decide_eq_true hneg] at hls1
          rw [decide_eq_false (show ¬ 0 < cc by omega)] at hls2
          clear hneg hme heq hqf
          have hne : Nonempty (Since wq.heap.size wq) := ⟨⟨wq, Below.refl _ _⟩⟩
          refine wp_region_since (B := wq.heap.size) (W0 := wq) (by kernel_rfl) (by kernel_rfl) (Below.refl _ _) ?_
          repeat (go_big_quiet_step (fail))
          refine wpQuiet_nil ?_
          rintro w7 ⟨U, rfl⟩
          have HK7 : Hid (Kept (fun g => g < w.heap.size + 1) wr U.val) := HKQ.out.trans (Kept.of_below U.property)
          have HO7 : Hid (U.val.ownsRow (w.heap.size + 1) 28 12 (.slice so m co) m (rowR plC O)) := ixown_below HOQ.out U.property
          have atq := HN.out.below U.property HWQ.out
          have HW7 : Hid (wr.heap.size < U.val.heap.size) := Nat.lt_of_lt_of_le HWQ.out U.property.size
          have HR7 : Hid (Rw U.val w.heap.size [⟨[d0, d1, d2, d3, d4, d5, d6, d7], rfl, kp, pp, ap, lp⟩]) := HRQ.out.below U.property

          generalize U.val = w7 at *
          clear hne HN HOQ HKQ HWQ
          have atp := HR7.out.twelve
          have HAQ : Hid (At12 w7 wr.heap.size 0 b0 b1 b2 b3 b4 b5 b6 b7 k1 p1 a1 l1) := atq
          have y0 : w7.cell? ⟨wr.heap.size, 0, none⟩ = some (.int .u8 (b0.toNat : Int)) := atq.c0
          have y1 : w7.cell? ⟨wr.heap.size, 1, none⟩ = some (.int .u8 (b1.toNat : Int)) := atq.c1
          have y2 : w7.cell? ⟨wr.heap.size, 2, none⟩ = some (.int .u8 (b2.toNat : Int)) := atq.c2
          have y3 : w7.cell? ⟨wr.heap.size, 3, none⟩ = some (.int .u8 (b3.toNat : Int)) := atq.c3
          have y4 : w7.cell? ⟨wr.heap.size, 4, none⟩ = some (.int .u8 (b4.toNat : Int)) := atq.c4
          have y5 : w7.cell? ⟨wr.heap.size, 5, none⟩ = some (.int .u8 (b5.toNat : Int)) := atq.c5
          have y6 : w7.cell? ⟨wr.heap.size, 6, none⟩ = some (.int .u8 (b6.toNat : Int)) := atq.c6
          have y7 : w7.cell? ⟨wr.heap.size, 7, none⟩ = some (.int .u8 (b7.toNat : Int)) := atq.c7
          have y8 : w7.cell? ⟨wr.heap.size, 8, none⟩ = some (.int .i64 k1) := atq.c8
          have y9 : w7.cell? ⟨wr.heap.size, 9, none⟩ = some (.int .i64 p1) := atq.c9
          have y10 : w7.cell? ⟨wr.heap.size, 10, none⟩ = some (.int .i64 a1) := atq.c10
          have y11 : w7.cell? ⟨wr.heap.size, 11, none⟩ = some (.int .i64 l1) := atq.c11
          have z0 : w7.cell? ⟨w.heap.size, 0, none⟩ = some (.int .u8 (d0.toNat : Int)) := atp.c0
          have z1 : w7.cell? ⟨w.heap.size, 1, none⟩ = some (.int .u8 (d1.toNat : Int)) := atp.c1
          have z2 : w7.cell? ⟨w.heap.size, 2, none⟩ = some (.int .u8 (d2.toNat : Int)) := atp.c2
          have z3 : w7.cell? ⟨w.heap.size, 3, none⟩ = some (.int .u8 (d3.toNat : Int)) := atp.c3
          have z4 : w7.cell? ⟨w.heap.size, 4, none⟩ = some (.int .u8 (d4.toNat : Int)) := atp.c4
          have z5 : w7.cell? ⟨w.heap.size, 5, none⟩ = some (.int .u8 (d5.toNat : Int)) := atp.c5
          have z6 : w7.cell? ⟨w.heap.size, 6, none⟩ = some (.int .u8 (d6.toNat : Int)) := atp.c6
          have z7 : w7.cell? ⟨w.heap.size, 7, none⟩ = some (.int .u8 (d7.toNat : Int)) := atp.c7
          have z8 : w7.cell? ⟨w.heap.size, 8, none⟩ = some (.int .i64 kp) := atp.c8
          have z9 : w7.cell? ⟨w.heap.size, 9, none⟩ = some (.int .i64 pp) := atp.c9
          have z10 : w7.cell? ⟨w.heap.size, 10, none⟩ = some (.int .i64 ap) := atp.c10
          have z11 : w7.cell? ⟨w.heap.size, 11, none⟩ = some (.int .i64 lp) := atp.c11
          clear atq atp sy sz hls1 hls2

          have hone8 := one_cells w7 (pl12 d0 d1 d2 d3 d4 d5 d6 d7 kp pp ap lp).toList 28
          have hown8 := HO7.out.alloc (.cells (pl12 d0 d1 d2 d3 d4 d5 d6 d7 kp pp ap lp) 28)
          have hsz8 : w.heap.size + 1 ≤ w7.heap.size := Nat.le_trans hsw.out HK7.out.size
          have hsa8 : w.heap.size + 1 ≤ (w7.alloc (.cells (pl12 d0 d1 d2 d3 d4 d5 d6 d7 kp pp ap lp) 28)).heap.size := by show _ ≤ (w7.heap.push _).size; rw [Array.size_push]; omega
          have hsb8 : w.heap.size + 1 ≤ w7.heap.size + 1 := by omega
          go_wp2_with (at_builtin; refine wpList_append_own _ rfl (.tmp 39) (.tmp 41) 22 rfl (w.heap.size + 1) 28 i0 (plV pl0) 12 40 Try.underlying22 hi hz0 hz1 hz2 (by kernel_rfl) (by decide) _ _ _ rfl hown8 ⟨w7.heap.size, 0, none⟩ 1 1 (pl12 d0 d1 d2 d3 d4 d5 d6 d7 kp pp ap lp).toList rfl rfl hone8 ?e2b ?e2c ?e2d ?e2e ?_)
          case e2b => exact ⟨rfl, rfl, rfl, rfl, rfl, rfl, rfl, rfl, rfl, rfl, rfl, rfl⟩
          case e2c => unfold maxLen; omega
          case e2d => omega
          intro v8 w8 o8 g8 _
          have HO8 : Hid (w8.ownsRow (w.heap.size + 1) 28 12 v8 (m + 1) (rowR plC (O ++ [⟨[d0, d1, d2, d3, d4, d5, d6, d7], rfl, kp, pp, ap, lp⟩]))) := by
            rw [rowR_more]
            exact o8
          have HK8 : Hid (Kept (fun g => g < w.heap.size + 1) wr w8) := (HK7.out.alloc (.cells (pl12 d0 d1 d2 d3 d4 d5 d6 d7 kp pp ap lp) 28)).trans (Kept.of_below_at (((Below.refl _ _).grown g8 hsa8 fun j hj => (hown8.lt j hj).1)) fun k hk => hk)
          have HA8 : Hid (At12 w8 wr.heap.size 0 b0 b1 b2 b3 b4 b5 b6 b7 k1 p1 a1 l1) := by
            have hs7 : wr.heap.size < w7.heap.size := HW7.out
            have hka := (Kept.refl (fun j => j = wr.heap.size) w7).alloc (.cells (pl12 d0 d1 d2 d3 d4 d5 d6 d7 kp pp ap lp) 28)
            have hkb := hka.grown g8 (fun j hj e => by have := HNB.out j hj; omega)
            exact HAQ.out.kept (hkb.block wr.heap.size hs7 rfl)
          clear o8 g8 hown8 hone8 hsa8 hsb8 hsz8
          rw [← HME.out] at HO8

          obtain ⟨s8, c8, hv8⟩ := ixown_form HO8.out
          subst hv8
          clear y0 y1 y2 y3 y4 y5 y6 y7 y8 y9 y10 y11 z0 z1 z2 z3 z4 z5 z6 z7 z8 z9 z10 z11
          have at8 := HA8.out
          have y0 : w8.cell? ⟨wr.heap.size, 0, none⟩ = some (.int .u8 (b0.toNat : Int)) := at8.c0
          have y1 : w8.cell? ⟨wr.heap.size, 1, none⟩ = some (.int .u8 (b1.toNat : Int)) := at8.c1
          have y2 : w8.cell? ⟨wr.heap.size, 2, none⟩ = some (.int .u8 (b2.toNat : Int)) := at8.c2
          have y3 : w8.cell? ⟨wr.heap.size, 3, none⟩ = some (.int .u8 (b3.toNat : Int)) := at8.c3
          have y4 : w8.cell? ⟨wr.heap.size, 4, none⟩ = some (.int .u8 (b4.toNat : Int)) := at8.c4
          have y5 : w8.cell? ⟨wr.heap.size, 5, none⟩ = some (.int .u8 (b5.toNat : Int)) := at8.c5
          have y6 : w8.cell? ⟨wr.heap.size, 6, none⟩ = some (.int .u8 (b6.toNat : Int)) := at8.c6
          have y7 : w8.cell? ⟨wr.heap.size, 7, none⟩ = some (.int .u8 (b7.toNat : Int)) := at8.c7
          have y8 : w8.cell? ⟨wr.heap.size, 8, none⟩ = some (.int .i64 k1) := at8.c8
          have y9 : w8.cell? ⟨wr.heap.size, 9, none⟩ = some (.int .i64 p1) := at8.c9
          have y10 : w8.cell? ⟨wr.heap.size, 10, none⟩ = some (.int .i64 a1) := at8.c10
          have y11 : w8.cell? ⟨wr.heap.size, 11, none⟩ = some (.int .i64 l1) := at8.c11
          clear at8

          have hone9 := one_cells w8 (pl12 b0 b1 b2 b3 b4 b5 b6 b7 k1 p1 a1 l1).toList 28
          have hown9 := HO8.out.alloc (.cells (pl12 b0 b1 b2 b3 b4 b5 b6 b7 k1 p1 a1 l1) 28)
          have hsz9 : w.heap.size + 1 ≤ w8.heap.size := Nat.le_trans hsw.out HK8.out.size
          have hsa9 : w.heap.size + 1 ≤ (w8.alloc (.cells (pl12 b0 b1 b2 b3 b4 b5 b6 b7 k1 p1 a1 l1) 28)).heap.size := by show _ ≤ (w8.heap.push _).size; rw [Array.size_push]; omega
          have hsb9 : w.heap.size + 1 ≤ w8.heap.size + 1 := by omega
          go_wp2_with (at_builtin; refine wpList_append_own _ rfl (.tmp 43) (.tmp 45) 22 rfl (w.heap.size + 1) 28 i0 (plV pl0) 12 40 Try.underlying22 hi hz0 hz1 hz2 (by kernel_rfl) (by decide) _ _ _ rfl hown9 ⟨w8.heap.size, 0, none⟩ 1 1 (pl12 b0 b1 b2 b3 b4 b5 b6 b7 k1 p1 a1 l1).toList rfl rfl hone9 ?e3b ?e3c ?e3d ?e3e ?_)
          case e3b => exact ⟨rfl, rfl, rfl, rfl, rfl, rfl, rfl, rfl, rfl, rfl, rfl, rfl⟩
          case e3c => unfold maxLen; omega
          case e3d => omega
          intro v9 w9 o9 g9 _
          have HO9 : Hid (w9.ownsRow (w.heap.size + 1) 28 12 v9 (m1 + 1) (rowR plC ((O ++ [⟨[d0, d1, d2, d3, d4, d5, d6, d7], rfl, kp, pp, ap, lp⟩]) ++ [⟨[b0, b1, b2, b3, b4, b5, b6, b7], rfl, k1, p1, a1, l1⟩]))) := by
            rw [rowR_more]
            exact o9
          have HK9 : Hid (Kept (fun g => g < w.heap.size + 1) wr w9) := (HK8.out.alloc (.cells (pl12 b0 b1 b2 b3 b4 b5 b6 b7 k1 p1 a1 l1) 28)).trans (Kept.of_below_at (((Below.refl _ _).grown g9 hsa9 fun j hj => (hown9.lt j hj).1)) fun k hk => hk)
          clear o9 g9 hown9 hone9 hsa9 hsb9 hsz9

          have HB9 : Hid (Below w.heap.size w w9 ∧ w.heap.size + 1 ≤ w9.heap.size) := ⟨hbel.out.1.trans (HK9.out.below (by have := hsw.out; omega) fun j hj => by first | exact hj | (show j < _; omega)), Nat.le_trans hbel.out.2 HK9.out.size⟩

          obtain ⟨s9, c9, hv9⟩ := ixown_form HO9.out
          subst hv9
          clear y0 y1 y2 y3 y4 y5 y6 y7 y8 y9 y10 y11

          go_wp2_with fail
          go_roundw
          case rel => exact ⟨k + 1, m1 + 1, true, (O ++ [⟨[d0, d1, d2, d3, d4, d5, d6, d7], rfl, kp, pp, ap, lp⟩]) ++ [⟨[b0, b1, b2, b3, b4, b5, b6, b7], rfl, k1, p1, a1, l1⟩], s9, c9, rfl, by omega, by omega, by go_num, rfl, HL, HI, HO9, HB9, fun e => Bool.noConfusion e⟩
          case measure => simp only [intOf]; omega
        · by_cases hpos : 0 < cc
          · have hm1 : m + 1 ≤ 1001 := by
              have h1 := HLEN.out
              rw [pend_behind HT.out (by rw [HCC.out]; exact hpos), List.length_cons] at h1
              have := hO.out
              omega
            have HI : Hid ((O ++ [⟨[b0, b1, b2, b3, b4, b5, b6, b7], rfl, k1, p1, a1, l1⟩]) ++ pend false (x.drop (k + 1)) ⟨[d0, d1, d2, d3, d4, d5, d6, d7], rfl, kp, pp, ap, lp⟩ = R) := by
              show _ = _
              rw [← hinv.out, pend_behind HT.out (by rw [HCC.out]; exact hpos), List.append_assoc]
              rfl
            have HL : Hid ((O ++ [(⟨[b0, b1, b2, b3, b4, b5, b6, b7], rfl, k1, p1, a1, l1⟩ : Plc)]).length = m + 1) := by show (O ++ [_]).length = _; rw [List.length_append, hO.out]; rfl
            have hbe : (d0 == b0 && (d1 == b1 && (d2 == b2 && (d3 == b3 && (d4 == b4 && (d5 == b5 && (d6 == b6 && d7 == b7))))))) = false := Bool.eq_false_iff.2 fun hh => by
              simp only [Bool.and_eq_true, beq_iff_eq] at hh
              obtain ⟨rfl, rfl, rfl, rfl, rfl, rfl, rfl, rfl⟩ := hh
              have h0 := (cId_zero (a := [d0, d1, d2, d3, d4, d5, d6, d7]) (b := [d0, d1, d2, d3, d4, d5, d6, d7]) rfl).2 rfl
              rw [HCC.out] at h0
              omega
            rw [decide_eq_true hpos] at hls2
            rw [decide_eq_false hneg] at hls1
            clear hpos hneg
            have hne : Nonempty (Since wq.heap.size wq) := ⟨⟨wq, Below.refl _ _⟩⟩
            refine wp_region_since (B := wq.heap.size) (W0 := wq) (by kernel_rfl) (by kernel_rfl) (Below.refl _ _) ?_
            repeat (go_big_quiet_step (fail))
            refine wpQuiet_nil ?_
            rintro w7 ⟨U, rfl⟩
            have HK7 : Hid (Kept (fun g => g < w.heap.size + 1) wr U.val) := HKQ.out.trans (Kept.of_below U.property)
            have HO7 : Hid (U.val.ownsRow (w.heap.size + 1) 28 12 (.slice so m co) m (rowR plC O)) := ixown_below HOQ.out U.property
            have atq := HN.out.below U.property HWQ.out
            have HW7 : Hid (wr.heap.size < U.val.heap.size) := Nat.lt_of_lt_of_le HWQ.out U.property.size

            generalize U.val = w7 at *
            clear hne HN HOQ HKQ HWQ
            have y0 : w7.cell? ⟨wr.heap.size, 0, none⟩ = some (.int .u8 (b0.toNat : Int)) := atq.c0
            have y1 : w7.cell? ⟨wr.heap.size, 1, none⟩ = some (.int .u8 (b1.toNat : Int)) := atq.c1
            have y2 : w7.cell? ⟨wr.heap.size, 2, none⟩ = some (.int .u8 (b2.toNat : Int)) := atq.c2
            have y3 : w7.cell? ⟨wr.heap.size, 3, none⟩ = some (.int .u8 (b3.toNat : Int)) := atq.c3
            have y4 : w7.cell? ⟨wr.heap.size, 4, none⟩ = some (.int .u8 (b4.toNat : Int)) := atq.c4
            have y5 : w7.cell? ⟨wr.heap.size, 5, none⟩ = some (.int .u8 (b5.toNat : Int)) := atq.c5
            have y6 : w7.cell? ⟨wr.heap.size, 6, none⟩ = some (.int .u8 (b6.toNat : Int)) := atq.c6
            have y7 : w7.cell? ⟨wr.heap.size, 7, none⟩ = some (.int .u8 (b7.toNat : Int)) := atq.c7
            have y8 : w7.cell? ⟨wr.heap.size, 8, none⟩ = some (.int .i64 k1) := atq.c8
            have y9 : w7.cell? ⟨wr.heap.size, 9, none⟩ = some (.int .i64 p1) := atq.c9
            have y10 : w7.cell? ⟨wr.heap.size, 10, none⟩ = some (.int .i64 a1) := atq.c10
            have y11 : w7.cell? ⟨wr.heap.size, 11, none⟩ = some (.int .i64 l1) := atq.c11
            clear atq sy sz hls1 hls2 hbe

            have hone8 := one_cells w7 (pl12 b0 b1 b2 b3 b4 b5 b6 b7 k1 p1 a1 l1).toList 28
            have hown8 := HO7.out.alloc (.cells (pl12 b0 b1 b2 b3 b4 b5 b6 b7 k1 p1 a1 l1) 28)
            have hsz8 : w.heap.size + 1 ≤ w7.heap.size := Nat.le_trans hsw.out HK7.out.size
            have hsa8 : w.heap.size + 1 ≤ (w7.alloc (.cells (pl12 b0 b1 b2 b3 b4 b5 b6 b7 k1 p1 a1 l1) 28)).heap.size := by show _ ≤ (w7.heap.push _).size; rw [Array.size_push]; omega
            have hsb8 : w.heap.size + 1 ≤ w7.heap.size + 1 := by omega
            go_wp2_with (at_builtin; refine wpList_append_own _ rfl (.tmp 43) (.tmp 45) 22 rfl (w.heap.size + 1) 28 i0 (plV pl0) 12 40 Try.underlying22 hi hz0 hz1 hz2 (by kernel_rfl) (by decide) _ _ _ rfl hown8 ⟨w7.heap.size, 0, none⟩ 1 1 (pl12 b0 b1 b2 b3 b4 b5 b6 b7 k1 p1 a1 l1).toList rfl rfl hone8 ?e4b ?e4c ?e4d ?e4e ?_)
            case e4b => exact ⟨rfl, rfl, rfl, rfl, rfl, rfl, rfl, rfl, rfl, rfl, rfl, rfl⟩
            case e4c => unfold maxLen; omega
            case e4d => omega
            intro v8 w8 o8 g8 _
            have HO8 : Hid (w8.ownsRow (w.heap.size + 1) 28 12 v8 (m + 1) (rowR plC (O ++ [⟨[b0, b1, b2, b3, b4, b5, b6, b7], rfl, k1, p1, a1, l1⟩]))) := by
              rw [rowR_more]
              exact o8
            have HK8 : Hid (Kept (fun g => g < w.heap.size + 1) wr w8) := (HK7.out.alloc (.cells (pl12 b0 b1 b2 b3 b4 b5 b6 b7 k1 p1 a1 l1) 28)).trans (Kept.of_below_at (((Below.refl _ _).grown g8 hsa8 fun j hj => (hown8.lt j hj).1)) fun k hk => hk)
            clear o8 g8 hown8 hone8 hsa8 hsb8 hsz8

            have HB8 : Hid (Below w.heap.size w w8 ∧ w.heap.size + 1 ≤ w8.heap.size) := ⟨hbel.out.1.trans (HK8.out.below (by have := hsw.out; omega) fun j hj => by first | exact hj | (show j < _; omega)), Nat.le_trans hbel.out.2 HK8.out.size⟩

            obtain ⟨s8, c8, hv8⟩ := ixown_form HO8.out
            subst hv8
            have HRW8 : Hid (Rw w8 w.heap.size [⟨[d0, d1, d2, d3, d4, d5, d6, d7], rfl, kp, pp, ap, lp⟩]) := HRR.out.kept HK8.out (by omega)
            clear y0 y1 y2 y3 y4 y5 y6 y7 y8 y9 y10 y11

            go_wp2_with fail
            go_roundw
            case rel => exact ⟨k + 1, m + 1, false, O ++ [⟨[b0, b1, b2, b3, b4, b5, b6, b7], rfl, k1, p1, a1, l1⟩], s8, c8, rfl, by omega, by omega, by go_num, rfl, HL, HI, HO8, HB8, fun _ => HRW8.out⟩
            case measure => simp only [intOf]; omega
          · have hc0 : cc = 0 := by omega
            subst hc0
            have heq := fun W => id_eq_at W 9998 [d0, d1, d2, d3, d4, d5, d6, d7] [b0, b1, b2, b3, b4, b5, b6, b7] rfl rfl
            have hids : [d0, d1, d2, d3, d4, d5, d6, d7] = [b0, b1, b2, b3, b4, b5, b6, b7] := (cId_zero (a := [d0, d1, d2, d3, d4, d5, d6, d7]) (b := [b0, b1, b2, b3, b4, b5, b6, b7]) rfl).1 HCC.out
            have hqf : ([d0, d1, d2, d3, d4, d5, d6, d7] == [b0, b1, b2, b3, b4, b5, b6, b7]) = true := by rw [hids]; exact beq_self_eq_true _
            rw [hqf] at heq
            have heq' : ∀ W, (Op.equalIn 10000 24 (.agg #[.int .u8 (d0.toNat : Int), .int .u8 (d1.toNat : Int), .int .u8 (d2.toNat : Int), .int .u8 (d3.toNat : Int), .int .u8 (d4.toNat : Int), .int .u8 (d5.toNat : Int), .int .u8 (d6.toNat : Int), .int .u8 (d7.toNat : Int)]) (.agg #[.int .u8 (b0.toNat : Int), .int .u8 (b1.toNat : Int), .int .u8 (b2.toNat : Int), .int .u8 (b3.toNat : Int), .int .u8 (b4.toNat : Int), .int .u8 (b5.toNat : Int), .int .u8 (b6.toNat : Int), .int .u8 (b7.toNat : Int)])).run Try.prog W = .ok true W := heq
            have hbe : (d0 == b0 && (d1 == b1 && (d2 == b2 && (d3 == b3 && (d4 == b4 && (d5 == b5 && (d6 == b6 && d7 == b7))))))) = true := by
              simp only [List.cons.injEq, and_true] at hids
              obtain ⟨rfl, rfl, rfl, rfl, rfl, rfl, rfl, rfl⟩ := hids
              simp
            have hm1 : m + 1 ≤ 1001 := by
              have h1 := HLEN.out
              rw [pend_same HT.out HCC.out, List.length_cons] at h1
              have := hO.out
              omega
            have HIX : Hid (O ++ (if Ix.sm (Plc.p ⟨[b0, b1, b2, b3, b4, b5, b6, b7], rfl, k1, p1, a1, l1⟩) (Plc.p ⟨[d0, d1, d2, d3, d4, d5, d6, d7], rfl, kp, pp, ap, lp⟩) then (⟨[b0, b1, b2, b3, b4, b5, b6, b7], rfl, k1, p1, a1, l1⟩ : Plc) else ⟨[d0, d1, d2, d3, d4, d5, d6, d7], rfl, kp, pp, ap, lp⟩) :: pend true (x.drop (k + 1)) ⟨[d0, d1, d2, d3, d4, d5, d6, d7], rfl, kp, pp, ap, lp⟩ = R) := by
              show _ = _
              rw [← hinv.out, pend_same HT.out HCC.out]
            rw [decide_eq_false (by omega)] at hls1 hls2
            clear hneg hpos heq hqf hids
            by_cases hsq : Ix.sm (Plc.p ⟨[b0, b1, b2, b3, b4, b5, b6, b7], rfl, k1, p1, a1, l1⟩) (Plc.p ⟨[d0, d1, d2, d3, d4, d5, d6, d7], rfl, kp, pp, ap, lp⟩)
            · have HI : Hid ((O ++ [⟨[b0, b1, b2, b3, b4, b5, b6, b7], rfl, k1, p1, a1, l1⟩]) ++ pend true (x.drop (k + 1)) ⟨[d0, d1, d2, d3, d4, d5, d6, d7], rfl, kp, pp, ap, lp⟩ = R) := by
                show _ = _
                rw [← HIX.out, if_pos hsq, List.append_assoc]
                rfl
              have HL : Hid ((O ++ [(⟨[b0, b1, b2, b3, b4, b5, b6, b7], rfl, k1, p1, a1, l1⟩ : Plc)]).length = m + 1) := by show (O ++ [_]).length = _; rw [List.length_append, hO.out]; rfl
              have HSM : Hid (Ix.sm (Plc.p ⟨[b0, b1, b2, b3, b4, b5, b6, b7], rfl, k1, p1, a1, l1⟩) (Plc.p ⟨[d0, d1, d2, d3, d4, d5, d6, d7], rfl, kp, pp, ap, lp⟩) = True) := eq_true hsq
              clear hsq HIX
              have hs1 : ∀ W, Calls Try.prog 52 #[.agg (pl12 b0 b1 b2 b3 b4 b5 b6 b7 k1 p1 a1 l1), .agg (pl12 d0 d1 d2 d3 d4 d5 d6 d7 kp pp ap lp)] W fun e w' => e = .returned (.bool true) ∧ Below W.heap.size W w' := fun W => hsm ⟨[b0, b1, b2, b3, b4, b5, b6, b7], rfl, k1, p1, a1, l1⟩ ⟨[d0, d1, d2, d3, d4, d5, d6, d7], rfl, kp, pp, ap, lp⟩ W true (by simp [HSM.out])
              clear hsm

              have hne : Nonempty (Since wq.heap.size wq) := ⟨⟨wq, Below.refl _ _⟩⟩
              refine wp_region_since (B := wq.heap.size) (W0 := wq) (by kernel_rfl) (by kernel_rfl) (Below.refl _ _) ?_
              repeat (go_big_quiet_step (fail))
              refine wpQuiet_nil ?_
              rintro w7 ⟨U, rfl⟩
              have HK7 : Hid (Kept (fun g => g < w.heap.size + 1) wr U.val) := HKQ.out.trans (Kept.of_below U.property)
              have HO7 : Hid (U.val.ownsRow (w.heap.size + 1) 28 12 (.slice so m co) m (rowR plC O)) := ixown_below HOQ.out U.property
              have atq := HN.out.below U.property HWQ.out
              have HW7 : Hid (wr.heap.size < U.val.heap.size) := Nat.lt_of_lt_of_le HWQ.out U.property.size
              have HR7 : Hid (Rw U.val w.heap.size [⟨[d0, d1, d2, d3, d4, d5, d6, d7], rfl, kp, pp, ap, lp⟩]) := HRQ.out.below U.property

              generalize U.val = w7 at *
              clear hne HN HOQ HKQ HWQ
              have atp := HR7.out.twelve
              have HAQ : Hid (At12 w7 wr.heap.size 0 b0 b1 b2 b3 b4 b5 b6 b7 k1 p1 a1 l1) := atq
              have y0 : w7.cell? ⟨wr.heap.size, 0, none⟩ = some (.int .u8 (b0.toNat : Int)) := atq.c0
              have y1 : w7.cell? ⟨wr.heap.size, 1, none⟩ = some (.int .u8 (b1.toNat : Int)) := atq.c1
              have y2 : w7.cell? ⟨wr.heap.size, 2, none⟩ = some (.int .u8 (b2.toNat : Int)) := atq.c2
              have y3 : w7.cell? ⟨wr.heap.size, 3, none⟩ = some (.int .u8 (b3.toNat : Int)) := atq.c3
              have y4 : w7.cell? ⟨wr.heap.size, 4, none⟩ = some (.int .u8 (b4.toNat : Int)) := atq.c4
              have y5 : w7.cell? ⟨wr.heap.size, 5, none⟩ = some (.int .u8 (b5.toNat : Int)) := atq.c5
              have y6 : w7.cell? ⟨wr.heap.size, 6, none⟩ = some (.int .u8 (b6.toNat : Int)) := atq.c6
              have y7 : w7.cell? ⟨wr.heap.size, 7, none⟩ = some (.int .u8 (b7.toNat : Int)) := atq.c7
              have y8 : w7.cell? ⟨wr.heap.size, 8, none⟩ = some (.int .i64 k1) := atq.c8
              have y9 : w7.cell? ⟨wr.heap.size, 9, none⟩ = some (.int .i64 p1) := atq.c9
              have y10 : w7.cell? ⟨wr.heap.size, 10, none⟩ = some (.int .i64 a1) := atq.c10
              have y11 : w7.cell? ⟨wr.heap.size, 11, none⟩ = some (.int .i64 l1) := atq.c11
              have z0 : w7.cell? ⟨w.heap.size, 0, none⟩ = some (.int .u8 (d0.toNat : Int)) := atp.c0
              have z1 : w7.cell? ⟨w.heap.size, 1, none⟩ = some (.int .u8 (d1.toNat : Int)) := atp.c1
              have z2 : w7.cell? ⟨w.heap.size, 2, none⟩ = some (.int .u8 (d2.toNat : Int)) := atp.c2
              have z3 : w7.cell? ⟨w.heap.size, 3, none⟩ = some (.int .u8 (d3.toNat : Int)) := atp.c3
              have z4 : w7.cell? ⟨w.heap.size, 4, none⟩ = some (.int .u8 (d4.toNat : Int)) := atp.c4
              have z5 : w7.cell? ⟨w.heap.size, 5, none⟩ = some (.int .u8 (d5.toNat : Int)) := atp.c5
              have z6 : w7.cell? ⟨w.heap.size, 6, none⟩ = some (.int .u8 (d6.toNat : Int)) := atp.c6
              have z7 : w7.cell? ⟨w.heap.size, 7, none⟩ = some (.int .u8 (d7.toNat : Int)) := atp.c7
              have z8 : w7.cell? ⟨w.heap.size, 8, none⟩ = some (.int .i64 kp) := atp.c8
              have z9 : w7.cell? ⟨w.heap.size, 9, none⟩ = some (.int .i64 pp) := atp.c9
              have z10 : w7.cell? ⟨w.heap.size, 10, none⟩ = some (.int .i64 ap) := atp.c10
              have z11 : w7.cell? ⟨w.heap.size, 11, none⟩ = some (.int .i64 lp) := atp.c11
              clear atq atp sy sz hls1 hls2 hbe

              go_upto_region 10 with (go_at_call 52; refine (hs1 _).mono ?_; rintro e w6 ⟨rfl, bw6⟩)
              have HO6 : Hid (w6.ownsRow (w.heap.size + 1) 28 12 (.slice so m co) m (rowR plC O)) := ixown_below HO7.out bw6
              have HK6 : Hid (Kept (fun g => g < w.heap.size + 1) wr w6) := HK7.out.trans (Kept.of_below bw6)
              have HR6 : Hid (Rw w6 w.heap.size [⟨[d0, d1, d2, d3, d4, d5, d6, d7], rfl, kp, pp, ap, lp⟩]) := HR7.out.below bw6
              have HA6 : Hid (At12 w6 wr.heap.size 0 b0 b1 b2 b3 b4 b5 b6 b7 k1 p1 a1 l1) := HAQ.out.below bw6 HW7.out
              clear y0 y1 y2 y3 y4 y5 y6 y7 y8 y9 y10 y11 z0 z1 z2 z3 z4 z5 z6 z7 z8 z9 z10 z11 heq' hs1

              have hrng : w6.rangeAt wr.heap.size 0 (plC ⟨[b0, b1, b2, b3, b4, b5, b6, b7], rfl, k1, p1, a1, l1⟩) := at12_range HA6.out
              have hth : w6.there w.heap.size 0 12 := HR6.out.there (j := 0) (by simp)
              have HO5 : Hid ((w6.setCells w.heap.size 0 (plC ⟨[b0, b1, b2, b3, b4, b5, b6, b7], rfl, k1, p1, a1, l1⟩)).ownsRow (w.heap.size + 1) 28 12 (.slice so m co) m (rowR plC O)) := rown_kept HO6.out ((Kept.refl (fun g => w.heap.size + 1 ≤ g) w6).setCells (by omega) 0 _) (fun g hg => hg)
              have HK5 : Hid (Kept (fun g => g < w.heap.size) wr (w6.setCells w.heap.size 0 (plC ⟨[b0, b1, b2, b3, b4, b5, b6, b7], rfl, k1, p1, a1, l1⟩))) := (HK6.out.mono (fun g hg => Nat.lt_succ_of_lt hg)).setCells (by omega) 0 _
              have HR5 : Hid (Rw (w6.setCells w.heap.size 0 (plC ⟨[b0, b1, b2, b3, b4, b5, b6, b7], rfl, k1, p1, a1, l1⟩)) w.heap.size [⟨[b0, b1, b2, b3, b4, b5, b6, b7], rfl, k1, p1, a1, l1⟩]) := HR6.out.set (j := 0) (by simp) ⟨[b0, b1, b2, b3, b4, b5, b6, b7], rfl, k1, p1, a1, l1⟩
              refine wp_region_lit ?_
              refine wpList_load_mid rfl 28 (.tmp 8) rfl wr.heap.size 0 rfl (plC ⟨[b0, b1, b2, b3, b4, b5, b6, b7], rfl, k1, p1, a1, l1⟩) _ hrng Try.underlying28 rfl (by rw [rp12_info, plC_length]) ?_
              refine wpList_store_mid rfl 28 (.tmp 3) (.tmp 34) rfl w.heap.size 0 (plC ⟨[b0, b1, b2, b3, b4, b5, b6, b7], rfl, k1, p1, a1, l1⟩).toArray rfl rfl (by rw [rp12_sz]; exact hth) (by rw [rp12_info, rp12_sz]) (rp12_all ⟨[b0, b1, b2, b3, b4, b5, b6, b7], rfl, k1, p1, a1, l1⟩) ?_
              rw [show (plC ⟨[b0, b1, b2, b3, b4, b5, b6, b7], rfl, k1, p1, a1, l1⟩).toArray.toList = plC ⟨[b0, b1, b2, b3, b4, b5, b6, b7], rfl, k1, p1, a1, l1⟩ from rfl]
              generalize w6.setCells w.heap.size 0 (plC ⟨[b0, b1, b2, b3, b4, b5, b6, b7], rfl, k1, p1, a1, l1⟩) = w5 at *
              clear hrng hth
              have atq := HR5.out.twelve
              have y0 : w5.cell? ⟨w.heap.size, 0, none⟩ = some (.int .u8 (b0.toNat : Int)) := atq.c0
              have y1 : w5.cell? ⟨w.heap.size, 1, none⟩ = some (.int .u8 (b1.toNat : Int)) := atq.c1
              have y2 : w5.cell? ⟨w.heap.size, 2, none⟩ = some (.int .u8 (b2.toNat : Int)) := atq.c2
              have y3 : w5.cell? ⟨w.heap.size, 3, none⟩ = some (.int .u8 (b3.toNat : Int)) := atq.c3
              have y4 : w5.cell? ⟨w.heap.size, 4, none⟩ = some (.int .u8 (b4.toNat : Int)) := atq.c4
              have y5 : w5.cell? ⟨w.heap.size, 5, none⟩ = some (.int .u8 (b5.toNat : Int)) := atq.c5
              have y6 : w5.cell? ⟨w.heap.size, 6, none⟩ = some (.int .u8 (b6.toNat : Int)) := atq.c6
              have y7 : w5.cell? ⟨w.heap.size, 7, none⟩ = some (.int .u8 (b7.toNat : Int)) := atq.c7
              have y8 : w5.cell? ⟨w.heap.size, 8, none⟩ = some (.int .i64 k1) := atq.c8
              have y9 : w5.cell? ⟨w.heap.size, 9, none⟩ = some (.int .i64 p1) := atq.c9
              have y10 : w5.cell? ⟨w.heap.size, 10, none⟩ = some (.int .i64 a1) := atq.c10
              have y11 : w5.cell? ⟨w.heap.size, 11, none⟩ = some (.int .i64 l1) := atq.c11
              clear atq

              have hone8 := one_cells w5 (pl12 b0 b1 b2 b3 b4 b5 b6 b7 k1 p1 a1 l1).toList 28
              have hown8 := HO5.out.alloc (.cells (pl12 b0 b1 b2 b3 b4 b5 b6 b7 k1 p1 a1 l1) 28)
              have hsz8 : w.heap.size + 1 ≤ w5.heap.size := Nat.le_trans hsw.out HK5.out.size
              have hsa8 : w.heap.size + 1 ≤ (w5.alloc (.cells (pl12 b0 b1 b2 b3 b4 b5 b6 b7 k1 p1 a1 l1) 28)).heap.size := by show _ ≤ (w5.heap.push _).size; rw [Array.size_push]; omega
              have hsb8 : w.heap.size + 1 ≤ w5.heap.size + 1 := by omega
              go_wp2_with (at_builtin; refine wpList_append_own _ rfl (.tmp 35) (.tmp 37) 22 rfl (w.heap.size + 1) 28 i0 (plV pl0) 12 40 Try.underlying22 hi hz0 hz1 hz2 (by kernel_rfl) (by decide) _ _ _ rfl hown8 ⟨w5.heap.size, 0, none⟩ 1 1 (pl12 b0 b1 b2 b3 b4 b5 b6 b7 k1 p1 a1 l1).toList rfl rfl hone8 ?e5b ?e5c ?e5d ?e5e ?_)
              case e5b => exact ⟨rfl, rfl, rfl, rfl, rfl, rfl, rfl, rfl, rfl, rfl, rfl, rfl⟩
              case e5c => unfold maxLen; omega
              case e5d => omega
              intro v8 w8 o8 g8 _
              have HO8 : Hid (w8.ownsRow (w.heap.size + 1) 28 12 v8 (m + 1) (rowR plC (O ++ [⟨[b0, b1, b2, b3, b4, b5, b6, b7], rfl, k1, p1, a1, l1⟩]))) := by
                rw [rowR_more]
                exact o8
              have HK8 : Hid (Kept (fun g => g < w.heap.size) wr w8) := (HK5.out.alloc (.cells (pl12 b0 b1 b2 b3 b4 b5 b6 b7 k1 p1 a1 l1) 28)).trans (Kept.of_below_at (((Below.refl _ _).grown g8 hsa8 fun j hj => (hown8.lt j hj).1)) fun k hk => Nat.lt_succ_of_lt hk)
              clear o8 g8 hown8 hone8 hsa8 hsb8 hsz8

              have HB8 : Hid (Below w.heap.size w w8 ∧ w.heap.size + 1 ≤ w8.heap.size) := ⟨hbel.out.1.trans (HK8.out.below (by have := hsw.out; omega) fun j hj => by first | exact hj | (show j < _; omega)), Nat.le_trans hbel.out.2 HK8.out.size⟩

              obtain ⟨s8, c8, hv8⟩ := ixown_form HO8.out
              subst hv8
              clear y0 y1 y2 y3 y4 y5 y6 y7 y8 y9 y10 y11

              go_wp2_with fail
              go_roundw
              case rel => exact ⟨k + 1, m + 1, true, O ++ [⟨[b0, b1, b2, b3, b4, b5, b6, b7], rfl, k1, p1, a1, l1⟩], s8, c8, rfl, by omega, by omega, by go_num, rfl, HL, HI, HO8, HB8, fun e => Bool.noConfusion e⟩
              case measure => simp only [intOf]; omega
            · have HI : Hid ((O ++ [⟨[d0, d1, d2, d3, d4, d5, d6, d7], rfl, kp, pp, ap, lp⟩]) ++ pend true (x.drop (k + 1)) ⟨[d0, d1, d2, d3, d4, d5, d6, d7], rfl, kp, pp, ap, lp⟩ = R) := by
                show _ = _
                rw [← HIX.out, if_neg hsq, List.append_assoc]
                rfl
              have HL : Hid ((O ++ [(⟨[d0, d1, d2, d3, d4, d5, d6, d7], rfl, kp, pp, ap, lp⟩ : Plc)]).length = m + 1) := by show (O ++ [_]).length = _; rw [List.length_append, hO.out]; rfl
              have HSM : Hid (Ix.sm (Plc.p ⟨[b0, b1, b2, b3, b4, b5, b6, b7], rfl, k1, p1, a1, l1⟩) (Plc.p ⟨[d0, d1, d2, d3, d4, d5, d6, d7], rfl, kp, pp, ap, lp⟩) = False) := eq_false hsq
              clear hsq HIX
              have hs1 : ∀ W, Calls Try.prog 52 #[.agg (pl12 b0 b1 b2 b3 b4 b5 b6 b7 k1 p1 a1 l1), .agg (pl12 d0 d1 d2 d3 d4 d5 d6 d7 kp pp ap lp)] W fun e w' => e = .returned (.bool false) ∧ Below W.heap.size W w' := fun W => hsm ⟨[b0, b1, b2, b3, b4, b5, b6, b7], rfl, k1, p1, a1, l1⟩ ⟨[d0, d1, d2, d3, d4, d5, d6, d7], rfl, kp, pp, ap, lp⟩ W false (by simp [HSM.out])
              clear hsm

              have hne : Nonempty (Since wq.heap.size wq) := ⟨⟨wq, Below.refl _ _⟩⟩
              refine wp_region_since (B := wq.heap.size) (W0 := wq) (by kernel_rfl) (by kernel_rfl) (Below.refl _ _) ?_
              repeat (go_big_quiet_step (fail))
              refine wpQuiet_nil ?_
              rintro w7 ⟨U, rfl⟩
              have HK7 : Hid (Kept (fun g => g < w.heap.size + 1) wr U.val) := HKQ.out.trans (Kept.of_below U.property)
              have HO7 : Hid (U.val.ownsRow (w.heap.size + 1) 28 12 (.slice so m co) m (rowR plC O)) := ixown_below HOQ.out U.property
              have atq := HN.out.below U.property HWQ.out
              have HW7 : Hid (wr.heap.size < U.val.heap.size) := Nat.lt_of_lt_of_le HWQ.out U.property.size
              have HR7 : Hid (Rw U.val w.heap.size [⟨[d0, d1, d2, d3, d4, d5, d6, d7], rfl, kp, pp, ap, lp⟩]) := HRQ.out.below U.property

              generalize U.val = w7 at *
              clear hne HN HOQ HKQ HWQ
              have atp := HR7.out.twelve
              have HAQ : Hid (At12 w7 wr.heap.size 0 b0 b1 b2 b3 b4 b5 b6 b7 k1 p1 a1 l1) := atq
              have y0 : w7.cell? ⟨wr.heap.size, 0, none⟩ = some (.int .u8 (b0.toNat : Int)) := atq.c0
              have y1 : w7.cell? ⟨wr.heap.size, 1, none⟩ = some (.int .u8 (b1.toNat : Int)) := atq.c1
              have y2 : w7.cell? ⟨wr.heap.size, 2, none⟩ = some (.int .u8 (b2.toNat : Int)) := atq.c2
              have y3 : w7.cell? ⟨wr.heap.size, 3, none⟩ = some (.int .u8 (b3.toNat : Int)) := atq.c3
              have y4 : w7.cell? ⟨wr.heap.size, 4, none⟩ = some (.int .u8 (b4.toNat : Int)) := atq.c4
              have y5 : w7.cell? ⟨wr.heap.size, 5, none⟩ = some (.int .u8 (b5.toNat : Int)) := atq.c5
              have y6 : w7.cell? ⟨wr.heap.size, 6, none⟩ = some (.int .u8 (b6.toNat : Int)) := atq.c6
              have y7 : w7.cell? ⟨wr.heap.size, 7, none⟩ = some (.int .u8 (b7.toNat : Int)) := atq.c7
              have y8 : w7.cell? ⟨wr.heap.size, 8, none⟩ = some (.int .i64 k1) := atq.c8
              have y9 : w7.cell? ⟨wr.heap.size, 9, none⟩ = some (.int .i64 p1) := atq.c9
              have y10 : w7.cell? ⟨wr.heap.size, 10, none⟩ = some (.int .i64 a1) := atq.c10
              have y11 : w7.cell? ⟨wr.heap.size, 11, none⟩ = some (.int .i64 l1) := atq.c11
              have z0 : w7.cell? ⟨w.heap.size, 0, none⟩ = some (.int .u8 (d0.toNat : Int)) := atp.c0
              have z1 : w7.cell? ⟨w.heap.size, 1, none⟩ = some (.int .u8 (d1.toNat : Int)) := atp.c1
              have z2 : w7.cell? ⟨w.heap.size, 2, none⟩ = some (.int .u8 (d2.toNat : Int)) := atp.c2
              have z3 : w7.cell? ⟨w.heap.size, 3, none⟩ = some (.int .u8 (d3.toNat : Int)) := atp.c3
              have z4 : w7.cell? ⟨w.heap.size, 4, none⟩ = some (.int .u8 (d4.toNat : Int)) := atp.c4
              have z5 : w7.cell? ⟨w.heap.size, 5, none⟩ = some (.int .u8 (d5.toNat : Int)) := atp.c5
              have z6 : w7.cell? ⟨w.heap.size, 6, none⟩ = some (.int .u8 (d6.toNat : Int)) := atp.c6
              have z7 : w7.cell? ⟨w.heap.size, 7, none⟩ = some (.int .u8 (d7.toNat : Int)) := atp.c7
              have z8 : w7.cell? ⟨w.heap.size, 8, none⟩ = some (.int .i64 kp) := atp.c8
              have z9 : w7.cell? ⟨w.heap.size, 9, none⟩ = some (.int .i64 pp) := atp.c9
              have z10 : w7.cell? ⟨w.heap.size, 10, none⟩ = some (.int .i64 ap) := atp.c10
              have z11 : w7.cell? ⟨w.heap.size, 11, none⟩ = some (.int .i64 lp) := atp.c11
              clear atq atp sy sz hls1 hls2 hbe

              go_upto_region 11 with (go_at_call 52; refine (hs1 _).mono ?_; rintro e w6 ⟨rfl, bw6⟩)
              have HO6 : Hid (w6.ownsRow (w.heap.size + 1) 28 12 (.slice so m co) m (rowR plC O)) := ixown_below HO7.out bw6
              have HK6 : Hid (Kept (fun g => g < w.heap.size + 1) wr w6) := HK7.out.trans (Kept.of_below bw6)
              have HR6 : Hid (Rw w6 w.heap.size [⟨[d0, d1, d2, d3, d4, d5, d6, d7], rfl, kp, pp, ap, lp⟩]) := HR7.out.below bw6
              have HA6 : Hid (At12 w6 wr.heap.size 0 b0 b1 b2 b3 b4 b5 b6 b7 k1 p1 a1 l1) := HAQ.out.below bw6 HW7.out
              clear y0 y1 y2 y3 y4 y5 y6 y7 y8 y9 y10 y11 z0 z1 z2 z3 z4 z5 z6 z7 z8 z9 z10 z11 heq' hs1
              have atp := HR6.out.twelve
              have z0 : w6.cell? ⟨w.heap.size, 0, none⟩ = some (.int .u8 (d0.toNat : Int)) := atp.c0
              have z1 : w6.cell? ⟨w.heap.size, 1, none⟩ = some (.int .u8 (d1.toNat : Int)) := atp.c1
              have z2 : w6.cell? ⟨w.heap.size, 2, none⟩ = some (.int .u8 (d2.toNat : Int)) := atp.c2
              have z3 : w6.cell? ⟨w.heap.size, 3, none⟩ = some (.int .u8 (d3.toNat : Int)) := atp.c3
              have z4 : w6.cell? ⟨w.heap.size, 4, none⟩ = some (.int .u8 (d4.toNat : Int)) := atp.c4
              have z5 : w6.cell? ⟨w.heap.size, 5, none⟩ = some (.int .u8 (d5.toNat : Int)) := atp.c5
              have z6 : w6.cell? ⟨w.heap.size, 6, none⟩ = some (.int .u8 (d6.toNat : Int)) := atp.c6
              have z7 : w6.cell? ⟨w.heap.size, 7, none⟩ = some (.int .u8 (d7.toNat : Int)) := atp.c7
              have z8 : w6.cell? ⟨w.heap.size, 8, none⟩ = some (.int .i64 kp) := atp.c8
              have z9 : w6.cell? ⟨w.heap.size, 9, none⟩ = some (.int .i64 pp) := atp.c9
              have z10 : w6.cell? ⟨w.heap.size, 10, none⟩ = some (.int .i64 ap) := atp.c10
              have z11 : w6.cell? ⟨w.heap.size, 11, none⟩ = some (.int .i64 lp) := atp.c11
              clear atp

              have hone8 := one_cells w6 (pl12 d0 d1 d2 d3 d4 d5 d6 d7 kp pp ap lp).toList 28
              have hown8 := HO6.out.alloc (.cells (pl12 d0 d1 d2 d3 d4 d5 d6 d7 kp pp ap lp) 28)
              have hsz8 : w.heap.size + 1 ≤ w6.heap.size := Nat.le_trans hsw.out HK6.out.size
              have hsa8 : w.heap.size + 1 ≤ (w6.alloc (.cells (pl12 d0 d1 d2 d3 d4 d5 d6 d7 kp pp ap lp) 28)).heap.size := by show _ ≤ (w6.heap.push _).size; rw [Array.size_push]; omega
              have hsb8 : w.heap.size + 1 ≤ w6.heap.size + 1 := by omega
              go_wp2_with (at_builtin; refine wpList_append_own _ rfl (.tmp 35) (.tmp 37) 22 rfl (w.heap.size + 1) 28 i0 (plV pl0) 12 40 Try.underlying22 hi hz0 hz1 hz2 (by kernel_rfl) (by decide) _ _ _ rfl hown8 ⟨w6.heap.size, 0, none⟩ 1 1 (pl12 d0 d1 d2 d3 d4 d5 d6 d7 kp pp ap lp).toList rfl rfl hone8 ?e6b ?e6c ?e6d ?e6e ?_)
              case e6b => exact ⟨rfl, rfl, rfl, rfl, rfl, rfl, rfl, rfl, rfl, rfl, rfl, rfl⟩
              case e6c => unfold maxLen; omega
              case e6d => omega
              intro v8 w8 o8 g8 _
              have HO8 : Hid (w8.ownsRow (w.heap.size + 1) 28 12 v8 (m + 1) (rowR plC (O ++ [⟨[d0, d1, d2, d3, d4, d5, d6, d7], rfl, kp, pp, ap, lp⟩]))) := by
                rw [rowR_more]
                exact o8
              have HK8 : Hid (Kept (fun g => g < w.heap.size + 1) wr w8) := (HK6.out.alloc (.cells (pl12 d0 d1 d2 d3 d4 d5 d6 d7 kp pp ap lp) 28)).trans (Kept.of_below_at (((Below.refl _ _).grown g8 hsa8 fun j hj => (hown8.lt j hj).1)) fun k hk => hk)
              clear o8 g8 hown8 hone8 hsa8 hsb8 hsz8

              have HB8 : Hid (Below w.heap.size w w8 ∧ w.heap.size + 1 ≤ w8.heap.size) := ⟨hbel.out.1.trans (HK8.out.below (by have := hsw.out; omega) fun j hj => by first | exact hj | (show j < _; omega)), Nat.le_trans hbel.out.2 HK8.out.size⟩

              obtain ⟨s8, c8, hv8⟩ := ixown_form HO8.out
              subst hv8
              clear z0 z1 z2 z3 z4 z5 z6 z7 z8 z9 z10 z11

              go_wp2_with fail
              go_roundw
              case rel => exact ⟨k + 1, m + 1, true, O ++ [⟨[d0, d1, d2, d3, d4, d5, d6, d7], rfl, kp, pp, ap, lp⟩], s8, c8, rfl, by omega, by omega, by go_num, rfl, HL, HI, HO8, HB8, fun e => Bool.noConfusion e⟩
              case measure => simp only [intOf]; omega
    · have hke : x.drop k = [] := List.drop_eq_nil_of_le (by omega)
      have hsw : Hid (w.heap.size + 1 ≤ wr.heap.size) := hbel.out.2
      have HBL : Hid (Below w.heap.size w wr) := hbel.out.1
      have HOW : Hid (wr.ownsRow (w.heap.size + 1) 28 12 (.slice so m co) m (rowR plC O)) := hown.out
      have HIV : Hid (O ++ pend D (x.drop k) ⟨[d0, d1, d2, d3, d4, d5, d6, d7], rfl, kp, pp, ap, lp⟩ = R) := hinv.out
      have HKE : Hid (x.drop k = []) := hke
      clear hke hown hbel hinv hsm
      cases D with
      | true =>
        have HOR : Hid (O = R) := by
          have := HIV.out
          rw [HKE.out] at this
          rw [show pend true [] ⟨[d0, d1, d2, d3, d4, d5, d6, d7], rfl, kp, pp, ap, lp⟩ = [] from rfl, List.append_nil] at this
          exact this
        clear hrw
        go_wp2_with fail
        go_ret
        refine ⟨.slice so m co, rfl, ?_, HBL.out⟩
        have h1 := rown_lower HOW.out (Nat.le_succ w.heap.size)
        have h2 : m = R.length := by rw [← HOR.out]; exact hO.out.symm
        rw [HOR.out] at h1
        rw [← h2]
        exact h1
      | false =>
        have HRR : Hid (Rw wr w.heap.size [⟨[d0, d1, d2, d3, d4, d5, d6, d7], rfl, kp, pp, ap, lp⟩]) := hrw.out rfl
        have HOR : Hid (O ++ [⟨[d0, d1, d2, d3, d4, d5, d6, d7], rfl, kp, pp, ap, lp⟩] = R) := by
          have := HIV.out
          rw [HKE.out] at this
          exact this
        have HKR : Hid (Kept (fun g => g < w.heap.size + 1) wr wr) := Kept.refl _ _
        have hm1 : m + 1 ≤ 1002 := by omega
        have atp := HRR.out.twelve
        have z0 : wr.cell? ⟨w.heap.size, 0, none⟩ = some (.int .u8 (d0.toNat : Int)) := atp.c0
        have z1 : wr.cell? ⟨w.heap.size, 1, none⟩ = some (.int .u8 (d1.toNat : Int)) := atp.c1
        have z2 : wr.cell? ⟨w.heap.size, 2, none⟩ = some (.int .u8 (d2.toNat : Int)) := atp.c2
        have z3 : wr.cell? ⟨w.heap.size, 3, none⟩ = some (.int .u8 (d3.toNat : Int)) := atp.c3
        have z4 : wr.cell? ⟨w.heap.size, 4, none⟩ = some (.int .u8 (d4.toNat : Int)) := atp.c4
        have z5 : wr.cell? ⟨w.heap.size, 5, none⟩ = some (.int .u8 (d5.toNat : Int)) := atp.c5
        have z6 : wr.cell? ⟨w.heap.size, 6, none⟩ = some (.int .u8 (d6.toNat : Int)) := atp.c6
        have z7 : wr.cell? ⟨w.heap.size, 7, none⟩ = some (.int .u8 (d7.toNat : Int)) := atp.c7
        have z8 : wr.cell? ⟨w.heap.size, 8, none⟩ = some (.int .i64 kp) := atp.c8
        have z9 : wr.cell? ⟨w.heap.size, 9, none⟩ = some (.int .i64 pp) := atp.c9
        have z10 : wr.cell? ⟨w.heap.size, 10, none⟩ = some (.int .i64 ap) := atp.c10
        have z11 : wr.cell? ⟨w.heap.size, 11, none⟩ = some (.int .i64 lp) := atp.c11
        clear atp hrw

        have hone8 := one_cells wr (pl12 d0 d1 d2 d3 d4 d5 d6 d7 kp pp ap lp).toList 28
        have hown8 := HOW.out.alloc (.cells (pl12 d0 d1 d2 d3 d4 d5 d6 d7 kp pp ap lp) 28)
        have hsz8 : w.heap.size + 1 ≤ wr.heap.size := Nat.le_trans hsw.out HKR.out.size
        have hsa8 : w.heap.size + 1 ≤ (wr.alloc (.cells (pl12 d0 d1 d2 d3 d4 d5 d6 d7 kp pp ap lp) 28)).heap.size := by show _ ≤ (wr.heap.push _).size; rw [Array.size_push]; omega
        have hsb8 : w.heap.size + 1 ≤ wr.heap.size + 1 := by omega
        go_wp2_with (at_builtin; refine wpList_append_own _ rfl (.tmp 50) (.tmp 52) 22 rfl (w.heap.size + 1) 28 i0 (plV pl0) 12 40 Try.underlying22 hi hz0 hz1 hz2 (by kernel_rfl) (by decide) _ _ _ rfl hown8 ⟨wr.heap.size, 0, none⟩ 1 1 (pl12 d0 d1 d2 d3 d4 d5 d6 d7 kp pp ap lp).toList rfl rfl hone8 ?e7b ?e7c ?e7d ?e7e ?_)
        case e7b => exact ⟨rfl, rfl, rfl, rfl, rfl, rfl, rfl, rfl, rfl, rfl, rfl, rfl⟩
        case e7c => unfold maxLen; omega
        case e7d => omega
        intro v8 w8 o8 g8 _
        have HO8 : Hid (w8.ownsRow (w.heap.size + 1) 28 12 v8 (m + 1) (rowR plC (O ++ [⟨[d0, d1, d2, d3, d4, d5, d6, d7], rfl, kp, pp, ap, lp⟩]))) := by
          rw [rowR_more]
          exact o8
        have HK8 : Hid (Kept (fun g => g < w.heap.size + 1) wr w8) := (HKR.out.alloc (.cells (pl12 d0 d1 d2 d3 d4 d5 d6 d7 kp pp ap lp) 28)).trans (Kept.of_below_at (((Below.refl _ _).grown g8 hsa8 fun j hj => (hown8.lt j hj).1)) fun k hk => hk)
        clear o8 g8 hown8 hone8 hsa8 hsb8 hsz8

        clear z0 z1 z2 z3 z4 z5 z6 z7 z8 z9 z10 z11
        go_wp2_with fail
        go_ret
        refine ⟨v8, rfl, ?_, HBL.out.trans (HK8.out.below (by have := hsw.out; omega) fun j hj => by show j < _; omega)⟩
        have h1 := rown_lower HO8.out (Nat.le_succ w.heap.size)
        have h2 : m + 1 = R.length := by rw [← HOR.out, List.length_append, hO.out]; rfl
        rw [HOR.out] at h1
        rw [← h2]
        exact h1
end Go.Proofs.Ytllioidjelgafaa
