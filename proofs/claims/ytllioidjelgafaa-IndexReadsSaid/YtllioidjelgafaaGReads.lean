/-
  What IndexText of the library's reference answers, of a right index.
  What IndexRead of the library's reference answers.
  The walk of the statement IndexReads: it answers true.
  IndexReads: whatever is handed in, Text and Read of package index answer what the document says; no condition.
-/
import Derived.Test.YtllioidjelgafaaRefPut
import Derived.Test.YtllioidjelgafaaPlText
import Derived.Test.YtllioidjelgafaaPlRChk
import Derived.Deep.RegionHeld
import Derived.Deep.CutRange
import Derived.Test.YtllioidjelgafaaGRp
import Derived.Test.YtllioidjelgafaaPlOpen
import Derived.Test.YtllioidjelgafaaRows
import Derived.WalkKit
import Derived.ProofKit
import Derived.OpenShut
import Derived.ShutString
import Derived.ChangeOld
import Derived.Below
import Derived.SizedLaws
import Derived.Laws.Cover2
import Derived.Carry

namespace Go.Proofs.Ytllioidjelgafaa
open Go.RowKit
set_option maxRecDepth 4000

/-- a byte in a block of its own -/
structure Bk1 (W : World) (g : Nat) (b : Int) : Prop where
  c : W.cell? ⟨g, 0, none⟩ = some (.int .u8 b)
  lt : g < W.heap.size
theorem Bk1.alloc (X : World) (b : Int) (t : TypeId) : Bk1 (X.alloc (.cells #[.int .u8 b] t)) X.heap.size b := ⟨by simp, by show _ < (X.heap.push _).size; simp⟩
theorem Bk1.past {W W' : World} {g : Nat} {b : Int} (h : Bk1 W g b) (hb : Below W.heap.size W W') : Bk1 W' g b := ⟨(hb.cell (p := ⟨g, 0, none⟩) h.lt).trans h.c, Nat.lt_of_lt_of_le h.lt hb.size⟩
theorem Bk1.new {X W : World} {b : Int} {t : TypeId} (h : Below (X.alloc (.cells #[.int .u8 b] t)).heap.size (X.alloc (.cells #[.int .u8 b] t)) W) : Bk1 W X.heap.size b := (Bk1.alloc X b t).past h
theorem Bk1.new' {X W : World} {b : Int} {t : TypeId} (h : Below (X.alloc (.cells #[.int .u8 b] t)).drew.heap.size (X.alloc (.cells #[.int .u8 b] t)).drew W) : Bk1 W X.heap.size b := (show Bk1 (X.alloc (.cells #[.int .u8 b] t)).drew X.heap.size b from ⟨(Bk1.alloc X b t).c, (Bk1.alloc X b t).lt⟩).past h

theorem Bk1.str {W : World} {g : Nat} {b : Int} (h : Bk1 W g b) (h0 : 0 ≤ b) (h1 : b ≤ 255) : (convert 56 9 (.slice (some ⟨g, 0, none⟩) 1 1)).run Try.prog W = .ok (.string ⟨#[UInt8.ofNat b.toNat]⟩) W := run_str1 W _ b h.c h0 h1 rfl

theorem rowT_eq (b0 b1 b2 b3 b4 b5 b6 b7 : UInt8) (kd pk aa ln : Nat) : [b0, b1, b2, b3, b4, b5, b6, b7] ++ [UInt8.ofNat kd] ++ Nm.put pk ++ Nm.put aa ++ Nm.put ln = Ix.rowT (Plc.p ⟨[b0, b1, b2, b3, b4, b5, b6, b7], rfl, (kd : Int), (pk : Int), (aa : Int), (ln : Int)⟩) := by
  unfold Ix.rowT Plc.p
  simp

set_option maxHeartbeats 8000000 in
theorem rtext_any (v : Value) (l : List Plc) (w : World) (h : Px w v l) (hc : Ix.check (ps l) = 0) :
    Calls Try.prog 20 #[v] w fun e w' => e = .returned (.string ⟨(Ix.textB (ps l)).toArray⟩) ∧ Below w.heap.size w w' := by
  obtain ⟨a, c, rfl, hc1, hc2⟩ := h.slice
  obtain ⟨k1, k2, _⟩ := Ix.check_ok.1 hc
  have hl : l.length ≤ 400 := by rwa [List.length_map] at k1
  have HE : Hid (∀ t ∈ l, Ix.plErr t.p = 0) := fun t ht => k2 _ (List.mem_map_of_mem ht)
  have HH : Hid (Px w (.slice a l.length c) l) := h
  obtain ⟨TX, hTX⟩ : ∃ TX, Ix.textB (ps l) = TX := ⟨_, rfl⟩
  have HTX : Hid (Ix.textB (ps l) = TX) := hTX
  rw [hTX]
  clear hTX k1 k2 hc h
  have hpn := rput_any (l.length : Int) w (by omega) (by omega)
  simp only [Int.toNat_natCast] at hpn
  obtain ⟨P0, hP0⟩ : ∃ P0, Nm.put l.length = P0 := ⟨_, rfl⟩
  have HP0 : Hid (P0 ++ Ix.rowsT (ps (l.take 0)) = P0 ∧ P0.length ≤ 9) := ⟨List.append_nil _, by rw [← hP0]; exact put9 _⟩
  have HTX2 : Hid (P0 ++ Ix.rowsT (ps l) = TX) := by show _ = _; rw [← hP0, ← HTX.out, Ix.textB, List.length_map]
  rw [hP0] at hpn
  clear hP0 HTX
  go_enter Try.func20, Try.ntmps20
  go_wp2_with (go_at_call 39; refine hpn.mono ?_; rintro e w1 ⟨rfl, hb1⟩)
  have HB1 : Hid (Below w.heap.size w w1) := hb1
  clear hb1 hpn
  go_loopw [3, 12] (fun x i wr => ∃ (k : Nat) (L : List UInt8), k ≤ l.length ∧ i = .int .i64 k ∧ x = .string ⟨L.toArray⟩ ∧ L.length ≤ 9 + 36 * k ∧ Hid (P0 ++ Ix.rowsT (ps (l.take k)) = L) ∧ Hid (Below w.heap.size w wr)) (fun _ i _ => l.length - (intOf i).toNat)
  case atStart => exact ⟨0, P0, by omega, rfl, rfl, by have := HP0.out.2; omega, HP0.out.1, HB1⟩
  case round =>
    obtain ⟨k, L, hk, rfl, rfl, hLl, hL, hbel⟩ := hrel
    clear HB1 HP0
    by_cases hlt : k < l.length
    · obtain ⟨t, ht⟩ : ∃ t, l[k]? = some t := ⟨_, List.getElem?_eq_getElem hlt⟩
      have hmem : t ∈ l := List.mem_of_getElem? ht
      obtain ⟨b0, b1, b2, b3, b4, b5, b6, b7, i1, p1, a1, l1, ht12⟩ := t.as12
      obtain ⟨q0, q1, q2, q3, q4, q5, q6⟩ := Ix.plErr_ok (HE.out t hmem)
      rw [ht12] at q0 q1 q2 q3 q4 q5 q6
      simp only [Plc.p] at q0 q1 q2 q3 q4 q5 q6
      obtain ⟨kd, rfl⟩ := Int.eq_ofNat_of_zero_le (a := i1) (by omega)
      obtain ⟨pk, rfl⟩ := Int.eq_ofNat_of_zero_le q1
      obtain ⟨aa, rfl⟩ := Int.eq_ofNat_of_zero_le q3
      obtain ⟨ln, rfl⟩ := Int.eq_ofNat_of_zero_le q5
      have hkd : kd ≤ 255 := by omega
      have hpk : pk ≤ 1099511627776 := by omega
      have haa : aa ≤ 1099511627776 := by omega
      have hln : ln ≤ 1099511627776 := by omega
      clear q0 q1 q2 q3 q4 q5 q6 hmem
      have HT : Hid (l[k]? = some t) := ht
      rw [ht12] at ht
      obtain ⟨bk, o, hao, hbk, hat⟩ := (HH.out.below hbel.out).twelve k ht
      subst hao
      have x0 : wr.cell? ⟨bk, o + k * 12, none⟩ = some (.int .u8 (b0.toNat : Int)) := hat.c0
      have x1 : wr.cell? ⟨bk, o + k * 12 + 1, none⟩ = some (.int .u8 (b1.toNat : Int)) := hat.c1
      have x2 : wr.cell? ⟨bk, o + k * 12 + 2, none⟩ = some (.int .u8 (b2.toNat : Int)) := hat.c2
      have x3 : wr.cell? ⟨bk, o + k * 12 + 3, none⟩ = some (.int .u8 (b3.toNat : Int)) := hat.c3
      have x4 : wr.cell? ⟨bk, o + k * 12 + 4, none⟩ = some (.int .u8 (b4.toNat : Int)) := hat.c4
      have x5 : wr.cell? ⟨bk, o + k * 12 + 5, none⟩ = some (.int .u8 (b5.toNat : Int)) := hat.c5
      have x6 : wr.cell? ⟨bk, o + k * 12 + 6, none⟩ = some (.int .u8 (b6.toNat : Int)) := hat.c6
      have x7 : wr.cell? ⟨bk, o + k * 12 + 7, none⟩ = some (.int .u8 (b7.toNat : Int)) := hat.c7
      have x8 : wr.cell? ⟨bk, o + k * 12 + 8, none⟩ = some (.int .i64 (kd : Int)) := hat.c8
      have x9 : wr.cell? ⟨bk, o + k * 12 + 9, none⟩ = some (.int .i64 (pk : Int)) := hat.c9
      have x10 : wr.cell? ⟨bk, o + k * 12 + 10, none⟩ = some (.int .i64 (aa : Int)) := hat.c10
      have x11 : wr.cell? ⟨bk, o + k * 12 + 11, none⟩ = some (.int .i64 (ln : Int)) := hat.c11
      clear hat ht
      have HRow : Hid ([b0, b1, b2, b3, b4, b5, b6, b7] ++ [UInt8.ofNat kd] ++ Nm.put pk ++ Nm.put aa ++ Nm.put ln = Ix.rowT t.p) := by show _ = _; rw [ht12]; exact rowT_eq b0 b1 b2 b3 b4 b5 b6 b7 kd pk aa ln
      clear ht12
      have HN0 : Hid (At12 (wr.alloc (.cells (pl12 b0 b1 b2 b3 b4 b5 b6 b7 kd pk aa ln) 28)) wr.heap.size 0 b0 b1 b2 b3 b4 b5 b6 b7 kd pk aa ln) := At12.new _ _ _ _ _ _ _ _ _ _ _ _ _ _
      have HB0 : Hid (Below w.heap.size w (wr.alloc (.cells (pl12 b0 b1 b2 b3 b4 b5 b6 b7 kd pk aa ln) 28))) := hbel.out.alloc hbel.out.size _
      have HZ0 : Hid (wr.heap.size < (wr.alloc (.cells (pl12 b0 b1 b2 b3 b4 b5 b6 b7 kd pk aa ln) 28)).heap.size) := by show _ < (wr.heap.push _).size; simp
      go_upto_region 5 with fail
      obtain ⟨wq, hwq⟩ : ∃ W, W = wr.alloc (.cells (pl12 b0 b1 b2 b3 b4 b5 b6 b7 kd pk aa ln) 28) := ⟨_, rfl⟩
      rw [← hwq] at HN0 HB0 HZ0
      simp only [← hwq]
      obtain ⟨G, hG⟩ : ∃ G, G = wr.heap.size := ⟨_, rfl⟩
      rw [← hG] at HN0 HZ0
      simp only [← hG]
      have HN : Hid (At12 wq G 0 b0 b1 b2 b3 b4 b5 b6 b7 kd pk aa ln) := HN0
      have HBQ : Hid (Below w.heap.size w wq) := HB0
      have HZ : Hid (G < wq.heap.size) := HZ0
      clear HN0 HB0 HZ0 hwq hG x0 x1 x2 x3 x4 x5 x6 x7 x8 x9 x10 x11 hbk
      have h9a := put9 pk
      have h9b := put9 aa
      have h9c := put9 ln
      have hput1 := fun W => rput_any (pk : Int) W (by omega) (by omega)
      have hput2 := fun W => rput_any (aa : Int) W (by omega) (by omega)
      have hput3 := fun W => rput_any (ln : Int) W (by omega) (by omega)
      simp only [Int.toNat_natCast] at hput1 hput2 hput3
      obtain ⟨T1, hT1⟩ : ∃ T, Nm.put pk = T := ⟨_, rfl⟩
      obtain ⟨T2, hT2⟩ : ∃ T, Nm.put aa = T := ⟨_, rfl⟩
      obtain ⟨T3, hT3⟩ : ∃ T, Nm.put ln = T := ⟨_, rfl⟩
      rw [hT1] at hput1 h9a HRow
      rw [hT2] at hput2 h9b HRow
      rw [hT3] at hput3 h9c HRow
      clear hT1 hT2 hT3
      have hcat1 : ∀ W : World, (Op.stringOp .add ⟨#[b0, b1, b2, b3, b4, b5, b6, b7]⟩ ⟨#[UInt8.ofNat kd]⟩).run Try.prog W = .ok (.string ⟨([b0, b1, b2, b3, b4, b5, b6, b7] ++ [UInt8.ofNat kd]).toArray⟩) W := fun W => run_string_add_lists W [b0, b1, b2, b3, b4, b5, b6, b7] [UInt8.ofNat kd] (by simp) (by simp)
      have hl9 : ([b0, b1, b2, b3, b4, b5, b6, b7] ++ [UInt8.ofNat kd]).length = 9 := rfl
      generalize [b0, b1, b2, b3, b4, b5, b6, b7] ++ [UInt8.ofNat kd] = K9 at *
      have hcat2 : ∀ W : World, (Op.stringOp .add ⟨K9.toArray⟩ ⟨T1.toArray⟩).run Try.prog W = .ok (.string ⟨(K9 ++ T1).toArray⟩) W := fun W => run_string_add_lists W _ _ (by omega) (by omega)
      have hl10 : (K9 ++ T1).length ≤ 18 := by rw [List.length_append]; omega
      generalize K9 ++ T1 = K10 at *
      have hcat3 : ∀ W : World, (Op.stringOp .add ⟨K10.toArray⟩ ⟨T2.toArray⟩).run Try.prog W = .ok (.string ⟨(K10 ++ T2).toArray⟩) W := fun W => run_string_add_lists W _ _ (by omega) (by omega)
      have hl11 : (K10 ++ T2).length ≤ 27 := by rw [List.length_append]; omega
      generalize K10 ++ T2 = K11 at *
      have hcat4 : ∀ W : World, (Op.stringOp .add ⟨K11.toArray⟩ ⟨T3.toArray⟩).run Try.prog W = .ok (.string ⟨(K11 ++ T3).toArray⟩) W := fun W => run_string_add_lists W _ _ (by omega) (by omega)
      have hl12 : (K11 ++ T3).length ≤ 36 := by rw [List.length_append]; omega
      generalize K11 ++ T3 = RW at *
      have hcat5 : ∀ W : World, (Op.stringOp .add ⟨L.toArray⟩ ⟨RW.toArray⟩).run Try.prog W = .ok (.string ⟨(L ++ RW).toArray⟩) W := fun W => run_string_add_lists W _ _ (by omega) (by omega)
      have HLL : Hid ((L ++ RW).length ≤ 9 + 36 * (k + 1)) := by show _ ≤ _; rw [List.length_append]; omega
      have HLR : Hid (P0 ++ Ix.rowsT (ps (l.take (k + 1))) = L ++ RW) := by show _ = _; rw [rowT_more HT.out, ← List.append_assoc, hL.out, HRow.out]
      have m0 : (0 : Int) ≤ (kd : Int) := by omega
      have m1 : (kd : Int) ≤ 255 := by omega
      have hr1 := str_new (kd : Int) m0 m1
      have hr2 := str_new_drew (kd : Int) m0 m1
      simp only [Int.toNat_natCast] at hr1 hr2
      have hwk : IntKind.u8.wrap (kd : Int) = (kd : Int) := by simp only [IntKind.wrap, IntKind.bits, IntKind.signed]; simp; omega
      have hw1 : IntKind.u64.wrap (pk : Int) = (pk : Int) := wrap_u64 _ (by omega) (by omega)
      have hw2 : IntKind.u64.wrap (aa : Int) = (aa : Int) := wrap_u64 _ (by omega) (by omega)
      have hw3 : IntKind.u64.wrap (ln : Int) = (ln : Int) := wrap_u64 _ (by omega) (by omega)
      generalize L ++ RW = LR at *
      have HS : Hid (∀ W, Below wq.heap.size wq W → (convert 56 9 (.slice (some ⟨G, 0, none⟩) 8 8)).run Try.prog W = .ok (.string ⟨#[b0, b1, b2, b3, b4, b5, b6, b7]⟩) W ∧ W.cell? ⟨G, 8, none⟩ = some (.int .i64 (kd : Int)) ∧ W.cell? ⟨G, 9, none⟩ = some (.int .i64 (pk : Int)) ∧ W.cell? ⟨G, 10, none⟩ = some (.int .i64 (aa : Int)) ∧ W.cell? ⟨G, 11, none⟩ = some (.int .i64 (ln : Int))) := fun W hW => by
        have h := HN.out.below hW HZ.out
        exact ⟨h.str, h.c8, h.c9, h.c10, h.c11⟩
      have B0 : Hid (Below wq.heap.size wq wq.drew) := (Below.refl _ wq).drew
      have B1 : Hid (∀ o, Below wq.heap.size wq (wq.alloc o).drew) := fun o => ((Below.refl _ wq).alloc (Nat.le_refl _) o).drew
      clear hL hl9 hl10 hl11 hl12 h9a h9b h9c HRow
      go_region_held (fun W => (convert 56 9 (.slice (some ⟨G, 0, none⟩) 8 8)).run Try.prog W = .ok (.string ⟨#[b0, b1, b2, b3, b4, b5, b6, b7]⟩) W ∧ W.cell? ⟨G, 8, none⟩ = some (.int .i64 (kd : Int)) ∧ W.cell? ⟨G, 9, none⟩ = some (.int .i64 (pk : Int)) ∧ W.cell? ⟨G, 10, none⟩ = some (.int .i64 (aa : Int)) ∧ W.cell? ⟨G, 11, none⟩ = some (.int .i64 (ln : Int)))
        (first | with_reducible exact HS.out _ (d3.alloc d3.size _) | with_reducible exact HS.out _ d3 | with_reducible exact HS.out _ (d2.alloc d2.size _) | with_reducible exact HS.out _ d2 | with_reducible exact HS.out _ (d1.alloc d1.size _) | with_reducible exact HS.out _ d1 | with_reducible exact HS.out _ (B1.out _) | with_reducible exact HS.out _ B0.out)
        (first
          | (with_reducible refine (hput1 _).mono ?_; rintro e w1 ⟨rfl, hb1⟩; have d1 : Below wq.heap.size wq w1 := (by first | with_reducible exact B0.out.trans (hb1.mono B0.out.size) | with_reducible exact (B1.out _).trans (hb1.mono (B1.out _).size)); try (have y1 := (by with_reducible exact Bk1.new' hb1); have hr3 := y1.str m0 m1; rw [Int.toNat_natCast] at hr3))
          | (with_reducible refine (hput2 _).mono ?_; rintro e w2 ⟨rfl, hb2⟩; have d2 : Below wq.heap.size wq w2 := (by first | with_reducible exact d1.trans (hb2.mono d1.size) | with_reducible exact (d1.alloc d1.size _).trans (hb2.mono (d1.alloc d1.size _).size)); try (first | (have y2 := Bk1.new hb2; have hr4 := y2.str m0 m1; rw [Int.toNat_natCast] at hr4) | (have y2 := y1.past hb2; have hr4 := y2.str m0 m1; rw [Int.toNat_natCast] at hr4)))
          | (with_reducible refine (hput3 _).mono ?_; rintro e w3 ⟨rfl, hb3⟩; have d3 : Below wq.heap.size wq w3 := (by first | with_reducible exact d2.trans (hb3.mono d2.size) | with_reducible exact (d2.alloc d2.size _).trans (hb3.mono (d2.alloc d2.size _).size)); try (first | (have y3 := Bk1.new hb3; have hr5 := y3.str m0 m1; rw [Int.toNat_natCast] at hr5) | (have y3 := y2.past hb3; have hr5 := y3.str m0 m1; rw [Int.toNat_natCast] at hr5))))
      all_goals
        have HD : Hid (Below wq.heap.size wq w3) := d3
        have HB9 : Hid (Below w.heap.size w w3) := HBQ.out.trans (HD.out.mono HBQ.out.size)
        have hs9 := HB9.out.size
        clear hcat1 hcat2 hcat3 hcat4 hcat5 hr1 hr2 hput1 hput2 hput3 HS B0 B1 HBQ HD d3 hb3
        go_wp2_with fail
        go_roundw
        case rel => exact ⟨k + 1, LR, by omega, by go_num, rfl, HLL.out, HLR, by first | exact HB9.out.alloc hs9 _ | exact HB9.out⟩
        case measure => simp only [intOf]; omega
    · have hke : l.take k = l := List.take_of_length_le (by omega)
      have HL2 : Hid (L = TX) := by show _ = _; rw [← hL.out, hke]; exact HTX2.out
      clear hL hke
      go_wp2_with fail
      go_ret
      exact ⟨by rw [HL2.out]; rfl, hbel.out⟩
end Go.Proofs.Ytllioidjelgafaa

namespace Go.Proofs.Ytllioidjelgafaa
open Go.RowKit
set_option maxRecDepth 4000

theorem num_bad {u : List UInt8} {n d : Nat} {q : Int} (h : Nm.getN u = (n, d, q)) (hq : q ≠ 0) : (Ix.num u).2.2 = q := by
  unfold Ix.num
  rw [h]
  simp only
  rw [if_pos hq]
theorem num_big {u : List UInt8} {n d : Nat} (h : Nm.getN u = (n, d, 0)) (hn : 1099511627776 < n) : (Ix.num u).2.2 = 2 := by
  unfold Ix.num
  rw [h]
  simp only
  rw [if_neg (fun k => k rfl), if_pos hn]
theorem num_fit {u : List UInt8} {n d : Nat} (h : Nm.getN u = (n, d, 0)) (hn : n ≤ 1099511627776) : Ix.num u = (n, u.drop d, 0) := by
  unfold Ix.num
  rw [h]
  simp only
  rw [if_neg (fun k => k rfl), if_neg (by omega)]
/-- a place is read by three numbers -/
theorem rd_first {s : List UInt8} {q : Int} (h9 : 9 ≤ s.length) (h : (Ix.num (s.drop 9)).2.2 = q) (hq : q ≠ 0) : (Ix.rdOne s).2.2 = q := by
  rw [(rd_steps h9).1, h, if_pos hq]
theorem rd_second {s u : List UInt8} {n : Nat} {q : Int} (h9 : 9 ≤ s.length) (h : Ix.num (s.drop 9) = (n, u, 0)) (h2 : (Ix.num u).2.2 = q) (hq : q ≠ 0) : (Ix.rdOne s).2.2 = q := by
  rw [(rd_steps h9).1, h]
  simp only
  rw [if_neg (fun k => k rfl), h2, if_pos hq]
theorem rd_third {s u v : List UInt8} {n m : Nat} {q : Int} (h9 : 9 ≤ s.length) (h : Ix.num (s.drop 9) = (n, u, 0)) (h2 : Ix.num u = (m, v, 0)) (h3 : (Ix.num v).2.2 = q) (hq : q ≠ 0) : (Ix.rdOne s).2.2 = q := by
  rw [(rd_steps h9).1, h]
  simp only
  rw [if_neg (fun k => k rfl), h2]
  simp only
  rw [if_neg (fun k => k rfl), h3, if_pos hq]
theorem rd_whole {s u v x : List UInt8} {n m k : Nat} (h9 : 9 ≤ s.length) (h : Ix.num (s.drop 9) = (n, u, 0)) (h2 : Ix.num u = (m, v, 0)) (h3 : Ix.num v = (k, x, 0)) : Ix.rdOne s = (⟨s.take 8, (s.getD 8 0).toNat, n, m, k⟩, x, 0) := by
  have := (rd_steps h9).2
  rw [h] at this
  simp only at this
  rw [h2] at this
  simp only at this
  rw [h3] at this
  exact this (by trivial) (by trivial) (by trivial)
theorem rd_stop {j : Nat} {s : List UInt8} {o : List Ix.Pl} {R : List Ix.Pl × Int} {q : Int} (hR : Ix.rdAll (j + 1) s o = R) (h : (Ix.rdOne s).2.2 = q) (hq : q ≠ 0) : R = ([], q) := by
  rw [← hR, rdAll_turn, h, if_pos hq]
theorem rd_go {j : Nat} {s x : List UInt8} {p : Ix.Pl} {o : List Ix.Pl} {R : List Ix.Pl × Int} (hR : Ix.rdAll (j + 1) s o = R) (h : Ix.rdOne s = (p, x, 0)) : Ix.rdAll j x (o ++ [p]) = R := by
  rw [← hR, rdAll_turn, h]
  simp only
  rw [if_neg (fun k => k rfl)]

theorem rget_fix (s : ByteArray) (n d : Nat) (q : Int) (hN : Nm.getN s.data.toList = (n, d, q)) (hs : s.size ≤ 140737488351232) (W : World) :
    Calls Try.prog 42 #[.string s] W fun e w' => e = .returned (.tuple #[.int .u64 (n : Int), .int .i64 (d : Int), .int .i64 q]) ∧ Below W.heap.size W w' := by
  refine (rget_any s W (by omega)).mono fun e w' ⟨h, m, hm⟩ => ?_
  rw [hN] at h
  subst hm
  exact ⟨h, ⟨rfl, rfl, rfl, Nat.le_refl _, fun _ _ => rfl⟩⟩

/-- a place that is being read, and its three numbers, each in a block of its own -/
structure Rp (W : World) (G : Nat) (b0 b1 b2 b3 b4 b5 b6 b7 : UInt8) (kd p a l : Int) (n0 n1 n2 : Nat) : Prop where
  pl : W.heap[G]? = some (.cells (pl12 b0 b1 b2 b3 b4 b5 b6 b7 kd p a l) 28 (0, 0))
  num : W.heap[G + 1]? = some (.cells #[.int .u64 (n0 : Int), .int .u64 (n1 : Int), .int .u64 (n2 : Int)] 74 (0, 0))

theorem Rp.past {W W' : World} {G : Nat} {b0 b1 b2 b3 b4 b5 b6 b7 : UInt8} {kd p a l : Int} {n0 n1 n2 : Nat} (h : Rp W G b0 b1 b2 b3 b4 b5 b6 b7 kd p a l n0 n1 n2) (hb : Below W.heap.size W W') : Rp W' G b0 b1 b2 b3 b4 b5 b6 b7 kd p a l n0 n1 n2 :=
  ⟨(hb.block _ (Array.getElem?_eq_some_iff.1 h.pl).1).trans h.pl, (hb.block _ (Array.getElem?_eq_some_iff.1 h.num).1).trans h.num⟩

theorem Rp.cell {W : World} {G : Nat} {b0 b1 b2 b3 b4 b5 b6 b7 : UInt8} {kd p a l : Int} {n0 n1 n2 : Nat} (h : Rp W G b0 b1 b2 b3 b4 b5 b6 b7 kd p a l n0 n1 n2) (j : Nat) : W.cell? ⟨G + 1, j, none⟩ = (#[.int .u64 (n0 : Int), .int .u64 (n1 : Int), .int .u64 (n2 : Int)] : Array Value)[j]? ∧ W.frozen? ⟨G + 1, j, none⟩ = false :=
  ⟨cell_of_row _ _ j _ _ _ h.num, frozen_of_row _ _ j _ _ h.num⟩

theorem Rp.frz {W : World} {G : Nat} {b0 b1 b2 b3 b4 b5 b6 b7 : UInt8} {kd p a l : Int} {n0 n1 n2 : Nat} (h : Rp W G b0 b1 b2 b3 b4 b5 b6 b7 kd p a l n0 n1 n2) (j : Nat) : W.frozen? ⟨G, j, none⟩ = false := frozen_of_row _ _ j _ _ h.pl

theorem Rp.set {W : World} {G : Nat} {b0 b1 b2 b3 b4 b5 b6 b7 : UInt8} {kd p a l : Int} {n0 n1 n2 : Nat} (h : Rp W G b0 b1 b2 b3 b4 b5 b6 b7 kd p a l n0 n1 n2) (j m0 m1 m2 x : Nat) (he : (#[.int .u64 (n0 : Int), .int .u64 (n1 : Int), .int .u64 (n2 : Int)] : Array Value).setIfInBounds j (.int .u64 (x : Int)) = #[.int .u64 (m0 : Int), .int .u64 (m1 : Int), .int .u64 (m2 : Int)]) : Rp (W.setCell ⟨G + 1, j, none⟩ (.int .u64 (x : Int))) G b0 b1 b2 b3 b4 b5 b6 b7 kd p a l m0 m1 m2 := by
  have hk : Kept (fun b => b ≠ G + 1) W (W.setCell ⟨G + 1, j, none⟩ (.int .u64 (x : Int))) := (Kept.refl _ W).setCell (a := ⟨G + 1, j, none⟩) (fun e => e rfl) _
  exact ⟨hk.obj (by show G ≠ G + 1; omega) h.pl, by rw [heap_setCell_same W (G + 1) j _ _ _ h.num, he]⟩

theorem set_eight (v0 v1 v2 v3 v4 v5 v6 v7 a0 a1 a2 a3 a4 a5 a6 a7 a8 a9 a10 a11 : Value) : ((((((((#[a0, a1, a2, a3, a4, a5, a6, a7, a8, a9, a10, a11] : Array Value).setIfInBounds 0 v0).setIfInBounds 1 v1).setIfInBounds 2 v2).setIfInBounds 3 v3).setIfInBounds 4 v4).setIfInBounds 5 v5).setIfInBounds 6 v6).setIfInBounds 7 v7 = #[v0, v1, v2, v3, v4, v5, v6, v7, a8, a9, a10, a11] := by simp
theorem set_three (a0 a1 a2 a3 a4 a5 a6 a7 a8 a9 a10 a11 x y z : Value) : (((#[a0, a1, a2, a3, a4, a5, a6, a7, a8, a9, a10, a11] : Array Value).setIfInBounds 9 x).setIfInBounds 10 y).setIfInBounds 11 z = #[a0, a1, a2, a3, a4, a5, a6, a7, a8, x, y, z] := by simp
theorem ids_set {W : World} {G : Nat} {T : TypeId} (b0 b1 b2 b3 b4 b5 b6 b7 : UInt8) (h : W.heap[G]? = some (.cells (pl12 0 0 0 0 0 0 0 0 0 0 0 0) T (0, 0))) : (W.setCells G 0 ([b0, b1, b2, b3, b4, b5, b6, b7].map B)).heap[G]? = some (.cells (pl12 b0 b1 b2 b3 b4 b5 b6 b7 0 0 0 0) T (0, 0)) := by
  simp only [List.map_cons, List.map_nil, World.setCells, Nat.zero_add, Nat.reduceAdd]
  rw [heap_setCell_same _ G 7 _ T _ (heap_setCell_same _ G 6 _ T _ (heap_setCell_same _ G 5 _ T _ (heap_setCell_same _ G 4 _ T _ (heap_setCell_same _ G 3 _ T _ (heap_setCell_same _ G 2 _ T _ (heap_setCell_same _ G 1 _ T _ (heap_setCell_same _ G 0 _ T _ h)))))))]
  unfold pl12
  rw [set_eight]
  rfl

set_option maxHeartbeats 16000000 in
theorem rread_any (s : ByteArray) (w : World) (hs : s.size ≤ 140737488351232) :
    Calls Try.prog 22 #[.string s] w fun e w' => ∃ x, e = .returned (.tuple #[x, .int .i64 (Ix.read s.data.toList).2]) ∧ PlOut w w' x (Ix.read s.data.toList).1 := by
  obtain ⟨R, hR⟩ : ∃ R, Ix.read s.data.toList = R := ⟨_, rfl⟩
  rw [hR]
  obtain ⟨i0, hi, hz0, hz1, hz2⟩ := info_three info_plz
  obtain ⟨n, d, q, hN⟩ : ∃ n d q, Nm.getN s.data.toList = (n, d, q) := ⟨_, _, _, rfl⟩
  have hg := rget_fix s n d q hN hs w
  unfold Ix.read at hR
  rw [hN] at hR
  dsimp only at hR
  by_cases hq : q = 0
  case neg =>
    rw [if_pos hq] at hR
    have HR : Hid (R = ([], q)) := hR.symm
    have hq1 : (q == 0) = false := by simpa using hq
    have hq2 : (q != 0) = true := by simpa using hq
    clear hN hR hq
    go_enter Try.func22, Try.ntmps22
    go_wp2_with (go_at_call 42; refine hg.mono ?_; rintro e w1 ⟨rfl, b1⟩)
    go_ret2
    exact ⟨.slice none 0 0, by rw [HR.out]; rfl, by rw [HR.out]; exact PlOut.nil b1⟩
  subst hq
  rw [if_neg (fun k => k rfl)] at hR
  obtain ⟨hd, hn, _⟩ := Nm.get_one hN
  have hd2 : d ≤ s.size := by rw [Lib.size_eq]; exact hd
  have hn2 : n < 18446744073709551616 := hn
  clear hd hn hN
  by_cases h4 : 400 < n
  · rw [if_pos h4] at hR
    have HR : Hid (R = ([], 2)) := hR.symm
    clear hR
    go_enter Try.func22, Try.ntmps22
    go_wp2_with (go_at_call 42; refine hg.mono ?_; rintro e w1 ⟨rfl, b1⟩)
    go_ret2
    exact ⟨.slice none 0 0, by rw [HR.out]; rfl, by rw [HR.out]; exact PlOut.nil b1⟩
  rw [if_neg h4] at hR
  have h4' : n ≤ 400 := by omega
  have HX : Hid ((s.extract d s.size).data.toList = s.data.toList.drop d) := ixext_toList s d
  have HXZ : Hid ((s.extract d s.size).size ≤ s.size) := by show _ ≤ _; rw [ByteArray.size_extract]; omega
  have HR0 : Hid (Ix.rdAll (n - 0) (s.extract d s.size).data.toList (ps []) = R) := by show _ = _; rw [HX.out]; exact hR
  have h4d : decide ((400 : Int) < (n : Int)) = false := decide_eq_false (by omega)
  clear hR h4
  go_enter Try.func22, Try.ntmps22
  go_wp2_with (go_at_call 42; refine hg.mono ?_; rintro e w1 ⟨rfl, b1⟩)
  have HB1 : Hid (Below w.heap.size w w1) := b1
  clear b1 hg h4d
  go_loopw [0, 7, 30] (fun sv vo i wr => ∃ (k : Nat) (t : ByteArray) (O : List Plc) (so : Option Addr) (co : Nat), sv = .string t ∧ vo = .slice so k co ∧ k ≤ n ∧ i = .int .u64 k ∧ t.size ≤ s.size ∧ Hid (O.length = k) ∧ Hid (Ix.rdAll (n - k) t.data.toList (ps O) = R) ∧ Hid (wr.ownsRow w.heap.size 28 12 (.slice so k co) k (rowR plC O)) ∧ Hid (Below w.heap.size w wr)) (fun _ _ i _ => n - (intOf i).toNat)
  case atStart => exact ⟨0, s.extract d s.size, [], none, 0, rfl, rfl, by omega, rfl, HXZ.out, rfl, HR0, World.ownsRow_nil _ _ _ _, HB1⟩
  case round =>
    obtain ⟨k, t, O, so, co, rfl, rfl, hk, rfl, hts, hO, hRD, hown, hbel⟩ := hrel
    clear HB1 HR0 HX HXZ
    by_cases hlt : k < n
    · have HRD : Hid (Ix.rdAll ((n - (k + 1)) + 1) t.data.toList (ps O) = R) := by show _ = _; rw [show n - (k + 1) + 1 = n - k from by omega]; exact hRD.out
      clear hRD
      by_cases h9 : t.size < 9
      · have HE : Hid (R = ([], 3)) := rd_stop HRD.out (rd_short (by rw [← Lib.size_eq]; exact h9)) (by omega)
        have hd9 : decide ((t.size : Int) < 9) = true := decide_eq_true (by omega)
        clear HRD
        go_wp2_with fail
        go_ret2
        exact ⟨.slice none 0 0, by rw [HE.out]; rfl, by rw [HE.out]; exact PlOut.nil hbel.out⟩
      have h9' : 9 ≤ t.size := by omega
      have hd9 : decide ((t.size : Int) < 9) = false := decide_eq_false (by omega)
      have HL9 : Hid (9 ≤ t.data.toList.length) := by show _ ≤ _; rw [← Lib.size_eq]; exact h9'
      obtain ⟨b0, b1, b2, b3, b4, b5, b6, b7, hL⟩ := oct (t.data.toList.take 8) (by rw [List.length_take, ← Lib.size_eq]; omega)
      obtain ⟨kd, hkd⟩ : ∃ kd, t[8].toNat = kd := ⟨_, rfl⟩
      have hs8 := t[8].toNat_lt
      rw [hkd] at hs8
      have HK8 : Hid ((t.data.toList.getD 8 0).toNat = kd) := by
        show _ = _
        rw [← hkd, List.getD_eq_getElem?_getD, List.getElem?_eq_getElem (by rw [← Lib.size_eq]; omega)]
        rfl
      have HL8 : Hid (t.data.toList.take 8 = [b0, b1, b2, b3, b4, b5, b6, b7]) := hL
      have hix : ∀ W : World, (Instr.index 9 (.string t) (.int .i64 8)).run Try.prog W = .ok (.int .u8 (kd : Int)) W := fun W => by
        rw [run_index_string W 9 t .i64 8 Try.underlying9, dif_pos ⟨by omega, by omega⟩, ← hkd]
        rfl
      obtain ⟨W1, hW1⟩ : ∃ W1, W1 = wr.alloc (.cells (pl12 0 0 0 0 0 0 0 0 0 0 0 0) 28) := ⟨_, rfl⟩
      have b1w : Below wr.heap.size wr W1 := by rw [hW1]; exact (Below.refl _ wr).alloc (Nat.le_refl _) _
      have p1 : W1.heap[wr.heap.size]? = some (.cells (pl12 0 0 0 0 0 0 0 0 0 0 0 0) 28 (0, 0)) := by rw [hW1]; exact heap_alloc_new wr _
      have z1 : W1.heap.size = wr.heap.size + 1 := by rw [hW1]; show (wr.heap.push _).size = _; simp
      have t1 : W1.there wr.heap.size 0 8 := by
        intro j hj
        rw [Nat.zero_add, cell_of_row _ _ j _ _ _ p1]
        exact ⟨by simp; omega, frozen_of_row _ _ j _ _ p1⟩
      have hcp := fun ty => rp_copy (P := Try.prog) W1 56 9 ty 5 wr.heap.size 8 8 t Try.underlying56 rp_u8 (by omega) t1
      rw [hL] at hcp
      have p2 := ids_set b0 b1 b2 b3 b4 b5 b6 b7 p1
      have b2w : Below wr.heap.size wr (W1.setCells wr.heap.size 0 ([b0, b1, b2, b3, b4, b5, b6, b7].map B)) := rp_below (Nat.le_refl _) _ _ b1w (Nat.le_refl _)
      have z2 : (W1.setCells wr.heap.size 0 ([b0, b1, b2, b3, b4, b5, b6, b7].map B)).heap.size = wr.heap.size + 1 := by rw [size_cells, z1]
      obtain ⟨W2, hW2⟩ : ∃ W2, W1.setCells wr.heap.size 0 ([b0, b1, b2, b3, b4, b5, b6, b7].map B) = W2 := ⟨_, rfl⟩
      rw [hW2] at hcp p2 b2w z2
      have c8 : W2.cell? ⟨wr.heap.size, 8, none⟩ = some (.int .i64 0) := by rw [cell_of_row _ _ 8 _ _ _ p2]; rfl
      have f8 : W2.frozen? ⟨wr.heap.size, 8, none⟩ = false := frozen_of_row _ _ 8 _ _ p2
      have p3 : (W2.setCell ⟨wr.heap.size, 8, none⟩ (.int .i64 (kd : Int))).heap[wr.heap.size]? = some (.cells (pl12 b0 b1 b2 b3 b4 b5 b6 b7 kd 0 0 0) 28 (0, 0)) := heap_setCell_same W2 wr.heap.size 8 _ _ _ p2
      have b3w : Below wr.heap.size wr (W2.setCell ⟨wr.heap.size, 8, none⟩ (.int .i64 (kd : Int))) := b2w.setCell (Nat.le_refl _) _
      have z3 : (W2.setCell ⟨wr.heap.size, 8, none⟩ (.int .i64 (kd : Int))).heap.size = wr.heap.size + 1 := by rw [show (W2.setCell ⟨wr.heap.size, 8, none⟩ (.int .i64 (kd : Int))).heap.size = W2.heap.size from by simp, z2]
      have P3 : Hid _ := p3
      have B3 : Hid _ := b3w
      have Z3 : Hid _ := z3
      clear hL hW2 t1 z1 p1 b1w p2 b2w p3 b3w z3 hkd
      go_upto_region 13 with fail
      have ea : wr.alloc (.cells #[.int .u8 0, .int .u8 0, .int .u8 0, .int .u8 0, .int .u8 0, .int .u8 0, .int .u8 0, .int .u8 0, .int .i64 0, .int .i64 0, .int .i64 0, .int .i64 0] 28) = W1 := hW1.symm
      rw [ea]
      clear ea hW1 hd9
      go_upto_region 14 with fail
      clear hcp
      go_upto_region 15 with fail
      generalize W2.setCell ⟨wr.heap.size, 8, none⟩ (.int .i64 (kd : Int)) = W3 at *
      have z3 := Z3.out
      have HX9 : Hid ((t.extract 9 t.size).data.toList = t.data.toList.drop 9) := ixext_toList t 9
      have hx9 : (t.extract 9 t.size).size ≤ s.size := by rw [ByteArray.size_extract]; omega
      clear hix c8 f8 z2
      go_wp2_with fail
      generalize t.extract 9 t.size = u0 at *
      have P4 : (W3.alloc (.cells #[.int .u64 0, .int .u64 0, .int .u64 0] 74)).heap[wr.heap.size + 1]? = some (.cells #[.int .u64 0, .int .u64 0, .int .u64 0] 74 (0, 0)) := by rw [← z3]; exact heap_alloc_new W3 _
      have B4 : Below wr.heap.size wr (W3.alloc (.cells #[.int .u64 0, .int .u64 0, .int .u64 0] 74)) := B3.out.alloc (by rw [z3]; omega) _
      have Q4 : (W3.alloc (.cells #[.int .u64 0, .int .u64 0, .int .u64 0] 74)).heap[wr.heap.size]? = some (.cells (pl12 b0 b1 b2 b3 b4 b5 b6 b7 kd 0 0 0) 28 (0, 0)) := (((Below.refl W3.heap.size W3).alloc (Nat.le_refl _) _).block _ (by rw [z3]; omega)).trans P3.out
      generalize W3.alloc (.cells #[.int .u64 0, .int .u64 0, .int .u64 0] 74) = W4 at *
      have RP0 : Hid (Rp W4 wr.heap.size b0 b1 b2 b3 b4 b5 b6 b7 kd 0 0 0 0 0 0) := ⟨Q4, P4⟩
      have BW0 : Hid (Below wr.heap.size wr W4) := B4
      clear P4 B4 Q4 P3 B3 Z3 z3
      refine wp_loop_rounds 4 ?_
      rw [rounds_succ]
      obtain ⟨n0, d0, q0, hN0⟩ : ∃ n d q, Nm.getN u0.data.toList = (n, d, q) := ⟨_, _, _, rfl⟩
      have hg0 := fun W => rget_fix u0 n0 d0 q0 hN0 (by omega) W
      have HN0 : Hid (Nm.getN u0.data.toList = (n0, d0, q0)) := hN0
      clear hN0
      by_cases hq0 : q0 = 0
      case neg =>
        have HE : Hid (R = ([], q0)) := rd_stop HRD.out (rd_first HL9.out (by rw [← HX9.out]; exact num_bad HN0.out hq0) hq0) hq0
        have e1 : (q0 == 0) = false := by simpa using hq0
        have e2 : (q0 != 0) = true := by simpa using hq0
        clear hq0 HN0 HRD
        go_wp2_with (go_at_call 42; refine (hg0 _).mono ?_; rintro e wx ⟨rfl, bx⟩)
        go_ret2
        exact ⟨.slice none 0 0, by rw [HE.out]; rfl, by rw [HE.out]; exact PlOut.nil (below_t (hbel.out.trans (BW0.out.mono hbel.out.size)) bx)⟩
      subst hq0
      obtain ⟨hd0a, hn0a, _⟩ := Nm.get_one HN0.out
      have hd0 : d0 ≤ u0.size := by rw [Lib.size_eq]; exact hd0a
      have hn0 : n0 < 18446744073709551616 := hn0a
      clear hd0a hn0a
      by_cases hm0 : 1099511627776 < n0
      · have HE : Hid (R = ([], 2)) := rd_stop HRD.out (rd_first HL9.out (by rw [← HX9.out]; exact num_big HN0.out hm0) (by omega)) (by omega)
        clear HN0 HRD
        go_wp2_with (go_at_call 42; refine (hg0 _).mono ?_; rintro e wx ⟨rfl, bx⟩)
        go_ret2
        exact ⟨.slice none 0 0, by rw [HE.out]; rfl, by rw [HE.out]; exact PlOut.nil (below_t (hbel.out.trans (BW0.out.mono hbel.out.size)) bx)⟩
      have hf0 : n0 ≤ 1099511627776 := by omega
      have HF0 : Hid (Ix.num (t.data.toList.drop 9) = (n0, u0.data.toList.drop d0, 0)) := by show _ = _; rw [← HX9.out]; exact num_fit HN0.out hf0
      have HX0 : Hid ((u0.extract d0 u0.size).data.toList = u0.data.toList.drop d0) := ixext_toList u0 d0
      have hx0 : (u0.extract d0 u0.size).size ≤ s.size := by rw [ByteArray.size_extract]; omega
      clear hm0 HN0
      go_upto_region 25 with (go_at_call 42; refine (hg0 _).mono ?_; rintro e wk0 ⟨rfl, bk0⟩)
      have rp0 := RP0.out.past bk0
      have bw0 : Below wr.heap.size wr wk0 := below_t BW0.out bk0
      have cc0 : wk0.cell? ⟨wr.heap.size + 1, 0, none⟩ = some (.int .u64 0) := (rp0.cell 0).1
      have cf0 := (rp0.cell 0).2
      have RP1 : Hid (Rp (wk0.setCell ⟨wr.heap.size + 1, 0, none⟩ (.int .u64 (n0 : Int))) wr.heap.size b0 b1 b2 b3 b4 b5 b6 b7 kd 0 0 0 n0 0 0) := rp0.set 0 _ _ _ _ rfl
      have BW1 : Hid (Below wr.heap.size wr (wk0.setCell ⟨wr.heap.size + 1, 0, none⟩ (.int .u64 (n0 : Int)))) := bw0.setCell (by show _ ≤ wr.heap.size + 1; omega) _
      clear rp0 bw0 bk0 RP0 BW0 hg0
      go_wp2_with fail
      generalize wk0.setCell ⟨wr.heap.size + 1, 0, none⟩ (.int .u64 (n0 : Int)) = wm0 at *
      clear cc0 cf0 hd0
      generalize u0.extract d0 u0.size = u1 at *
      rw [rounds_succ]
      obtain ⟨n1, d1, q1, hN1⟩ : ∃ n d q, Nm.getN u1.data.toList = (n, d, q) := ⟨_, _, _, rfl⟩
      have hg1 := fun W => rget_fix u1 n1 d1 q1 hN1 (by omega) W
      have HN1 : Hid (Nm.getN u1.data.toList = (n1, d1, q1)) := hN1
      clear hN1
      by_cases hq1 : q1 = 0
      case neg =>
        have HE : Hid (R = ([], q1)) := rd_stop HRD.out (rd_second HL9.out HF0.out (by rw [← HX0.out]; exact num_bad HN1.out hq1) hq1) hq1
        have e1 : (q1 == 0) = false := by simpa using hq1
        have e2 : (q1 != 0) = true := by simpa using hq1
        clear hq1 HN1 HRD
        go_wp2_with (go_at_call 42; refine (hg1 _).mono ?_; rintro e wx ⟨rfl, bx⟩)
        go_ret2
        exact ⟨.slice none 0 0, by rw [HE.out]; rfl, by rw [HE.out]; exact PlOut.nil (below_t (hbel.out.trans (BW1.out.mono hbel.out.size)) bx)⟩
      subst hq1
      obtain ⟨hd1a, hn1a, _⟩ := Nm.get_one HN1.out
      have hd1 : d1 ≤ u1.size := by rw [Lib.size_eq]; exact hd1a
      have hn1 : n1 < 18446744073709551616 := hn1a
      clear hd1a hn1a
      by_cases hm1 : 1099511627776 < n1
      · have HE : Hid (R = ([], 2)) := rd_stop HRD.out (rd_second HL9.out HF0.out (by rw [← HX0.out]; exact num_big HN1.out hm1) (by omega)) (by omega)
        clear HN1 HRD
        go_wp2_with (go_at_call 42; refine (hg1 _).mono ?_; rintro e wx ⟨rfl, bx⟩)
        go_ret2
        exact ⟨.slice none 0 0, by rw [HE.out]; rfl, by rw [HE.out]; exact PlOut.nil (below_t (hbel.out.trans (BW1.out.mono hbel.out.size)) bx)⟩
      have hf1 : n1 ≤ 1099511627776 := by omega
      have HF1 : Hid (Ix.num (u0.data.toList.drop d0) = (n1, u1.data.toList.drop d1, 0)) := by show _ = _; rw [← HX0.out]; exact num_fit HN1.out hf1
      have HX1 : Hid ((u1.extract d1 u1.size).data.toList = u1.data.toList.drop d1) := ixext_toList u1 d1
      have hx1 : (u1.extract d1 u1.size).size ≤ s.size := by rw [ByteArray.size_extract]; omega
      clear hm1 HN1
      go_upto_region 25 with (go_at_call 42; refine (hg1 _).mono ?_; rintro e wk1 ⟨rfl, bk1⟩)
      have rp1 := RP1.out.past bk1
      have bw1 : Below wr.heap.size wr wk1 := below_t BW1.out bk1
      have cc1 : wk1.cell? ⟨wr.heap.size + 1, 1, none⟩ = some (.int .u64 0) := (rp1.cell 1).1
      have cf1 := (rp1.cell 1).2
      have RP2 : Hid (Rp (wk1.setCell ⟨wr.heap.size + 1, 1, none⟩ (.int .u64 (n1 : Int))) wr.heap.size b0 b1 b2 b3 b4 b5 b6 b7 kd 0 0 0 n0 n1 0) := rp1.set 1 _ _ _ _ rfl
      have BW2 : Hid (Below wr.heap.size wr (wk1.setCell ⟨wr.heap.size + 1, 1, none⟩ (.int .u64 (n1 : Int)))) := bw1.setCell (by show _ ≤ wr.heap.size + 1; omega) _
      clear rp1 bw1 bk1 RP1 BW1 hg1
      go_wp2_with fail
      generalize wk1.setCell ⟨wr.heap.size + 1, 1, none⟩ (.int .u64 (n1 : Int)) = wm1 at *
      clear cc1 cf1 hd1
      generalize u1.extract d1 u1.size = u2 at *
      rw [rounds_succ]
      obtain ⟨n2, d2, q2, hN2⟩ : ∃ n d q, Nm.getN u2.data.toList = (n, d, q) := ⟨_, _, _, rfl⟩
      have hg2 := fun W => rget_fix u2 n2 d2 q2 hN2 (by omega) W
      have HN2 : Hid (Nm.getN u2.data.toList = (n2, d2, q2)) := hN2
      clear hN2
      by_cases hq2 : q2 = 0
      case neg =>
        have HE : Hid (R = ([], q2)) := rd_stop HRD.out (rd_third HL9.out HF0.out HF1.out (by rw [← HX1.out]; exact num_bad HN2.out hq2) hq2) hq2
        have e1 : (q2 == 0) = false := by simpa using hq2
        have e2 : (q2 != 0) = true := by simpa using hq2
        clear hq2 HN2 HRD
        go_wp2_with (go_at_call 42; refine (hg2 _).mono ?_; rintro e wx ⟨rfl, bx⟩)
        go_ret2
        exact ⟨.slice none 0 0, by rw [HE.out]; rfl, by rw [HE.out]; exact PlOut.nil (below_t (hbel.out.trans (BW2.out.mono hbel.out.size)) bx)⟩
      subst hq2
      obtain ⟨hd2a, hn2a, _⟩ := Nm.get_one HN2.out
      have hd2 : d2 ≤ u2.size := by rw [Lib.size_eq]; exact hd2a
      have hn2 : n2 < 18446744073709551616 := hn2a
      clear hd2a hn2a
      by_cases hm2 : 1099511627776 < n2
      · have HE : Hid (R = ([], 2)) := rd_stop HRD.out (rd_third HL9.out HF0.out HF1.out (by rw [← HX1.out]; exact num_big HN2.out hm2) (by omega)) (by omega)
        clear HN2 HRD
        go_wp2_with (go_at_call 42; refine (hg2 _).mono ?_; rintro e wx ⟨rfl, bx⟩)
        go_ret2
        exact ⟨.slice none 0 0, by rw [HE.out]; rfl, by rw [HE.out]; exact PlOut.nil (below_t (hbel.out.trans (BW2.out.mono hbel.out.size)) bx)⟩
      have hf2 : n2 ≤ 1099511627776 := by omega
      have HF2 : Hid (Ix.num (u1.data.toList.drop d1) = (n2, u2.data.toList.drop d2, 0)) := by show _ = _; rw [← HX1.out]; exact num_fit HN2.out hf2
      have HX2 : Hid ((u2.extract d2 u2.size).data.toList = u2.data.toList.drop d2) := ixext_toList u2 d2
      have hx2 : (u2.extract d2 u2.size).size ≤ s.size := by rw [ByteArray.size_extract]; omega
      clear hm2 HN2
      go_upto_region 25 with (go_at_call 42; refine (hg2 _).mono ?_; rintro e wk2 ⟨rfl, bk2⟩)
      have rp2 := RP2.out.past bk2
      have bw2 : Below wr.heap.size wr wk2 := below_t BW2.out bk2
      have cc2 : wk2.cell? ⟨wr.heap.size + 1, 2, none⟩ = some (.int .u64 0) := (rp2.cell 2).1
      have cf2 := (rp2.cell 2).2
      have RP3 : Hid (Rp (wk2.setCell ⟨wr.heap.size + 1, 2, none⟩ (.int .u64 (n2 : Int))) wr.heap.size b0 b1 b2 b3 b4 b5 b6 b7 kd 0 0 0 n0 n1 n2) := rp2.set 2 _ _ _ _ rfl
      have BW3 : Hid (Below wr.heap.size wr (wk2.setCell ⟨wr.heap.size + 1, 2, none⟩ (.int .u64 (n2 : Int)))) := bw2.setCell (by show _ ≤ wr.heap.size + 1; omega) _
      clear rp2 bw2 bk2 RP2 BW2 hg2
      go_wp2_with fail
      generalize wk2.setCell ⟨wr.heap.size + 1, 2, none⟩ (.int .u64 (n2 : Int)) = wm2 at *
      clear cc2 cf2 hd2
      generalize u2.extract d2 u2.size = u3 at *
      rw [rounds_succ]
      have HW : Hid (Ix.rdOne t.data.toList = (⟨[b0, b1, b2, b3, b4, b5, b6, b7], (kd : Int), (n0 : Int), (n1 : Int), (n2 : Int)⟩, u3.data.toList, 0)) := by
        show _ = _
        rw [rd_whole HL9.out HF0.out (by rw [← HX0.out]; exact (by rw [HX0.out]; exact HF1.out)) (by rw [← HX1.out]; exact (by rw [HX1.out]; exact HF2.out)), HL8.out, HK8.out, HX2.out]
      have HRE : Hid (Ix.rdAll (n - (k + 1)) u3.data.toList (ps (O ++ [(⟨[b0, b1, b2, b3, b4, b5, b6, b7], rfl, (kd : Int), (n0 : Int), (n1 : Int), (n2 : Int)⟩ : Plc)])) = R) := by
        show _ = _
        rw [ps_more]
        exact rd_go HRD.out HW.out
      clear HRD HW HF0 HF1 HF2 HX0 HX1 HX2 HX9 HL8 HL9 HK8
      go_upto_region 28 with fail
      have m0 : wm2.cell? ⟨wr.heap.size + 1, 0, none⟩ = some (.int .u64 (n0 : Int)) := (RP3.out.cell 0).1
      have m1 : wm2.cell? ⟨wr.heap.size + 1, 1, none⟩ = some (.int .u64 (n1 : Int)) := (RP3.out.cell 1).1
      have m2 : wm2.cell? ⟨wr.heap.size + 1, 2, none⟩ = some (.int .u64 (n2 : Int)) := (RP3.out.cell 2).1
      have g9 : wm2.cell? ⟨wr.heap.size, 9, none⟩ = some (.int .i64 0) := cell_of_row _ _ 9 _ _ _ RP3.out.pl
      have g10 : wm2.cell? ⟨wr.heap.size, 10, none⟩ = some (.int .i64 0) := cell_of_row _ _ 10 _ _ _ RP3.out.pl
      have g11 : wm2.cell? ⟨wr.heap.size, 11, none⟩ = some (.int .i64 0) := cell_of_row _ _ 11 _ _ _ RP3.out.pl
      have f9 := RP3.out.frz 9
      have f10 := RP3.out.frz 10
      have f11 := RP3.out.frz 11
      have PL5 : ((((wm2.setCell ⟨wr.heap.size, 9, none⟩ (.int .i64 (n0 : Int))).setCell ⟨wr.heap.size, 10, none⟩ (.int .i64 (n1 : Int))).setCell ⟨wr.heap.size, 11, none⟩ (.int .i64 (n2 : Int))).drew).heap[wr.heap.size]? = some (.cells (pl12 b0 b1 b2 b3 b4 b5 b6 b7 kd n0 n1 n2) 28 (0, 0)) := by
        show (((wm2.setCell ⟨wr.heap.size, 9, none⟩ (.int .i64 (n0 : Int))).setCell ⟨wr.heap.size, 10, none⟩ (.int .i64 (n1 : Int))).setCell ⟨wr.heap.size, 11, none⟩ (.int .i64 (n2 : Int))).heap[wr.heap.size]? = _
        rw [heap_setCell_same _ wr.heap.size 11 _ _ _ (heap_setCell_same _ wr.heap.size 10 _ _ _ (heap_setCell_same _ wr.heap.size 9 _ _ _ RP3.out.pl))]
        unfold pl12
        rw [set_three]
      have AT5 : Hid (At12 ((((wm2.setCell ⟨wr.heap.size, 9, none⟩ (.int .i64 (n0 : Int))).setCell ⟨wr.heap.size, 10, none⟩ (.int .i64 (n1 : Int))).setCell ⟨wr.heap.size, 11, none⟩ (.int .i64 (n2 : Int))).drew) wr.heap.size 0 b0 b1 b2 b3 b4 b5 b6 b7 kd n0 n1 n2) := at12_of_block PL5
      have BW5 : Hid (Below wr.heap.size wr ((((wm2.setCell ⟨wr.heap.size, 9, none⟩ (.int .i64 (n0 : Int))).setCell ⟨wr.heap.size, 10, none⟩ (.int .i64 (n1 : Int))).setCell ⟨wr.heap.size, 11, none⟩ (.int .i64 (n2 : Int))).drew)) := (((BW3.out.setCell (Nat.le_refl _) _).setCell (Nat.le_refl _) _).setCell (Nat.le_refl _) _).drew
      clear PL5 RP3 BW3
      go_region
      generalize (((wm2.setCell ⟨wr.heap.size, 9, none⟩ (.int .i64 (n0 : Int))).setCell ⟨wr.heap.size, 10, none⟩ (.int .i64 (n1 : Int))).setCell ⟨wr.heap.size, 11, none⟩ (.int .i64 (n2 : Int))).drew = w5 at *
      clear m0 m1 m2 g9 g10 g11 f9 f10 f11
      have z0 : w5.cell? ⟨wr.heap.size, 0, none⟩ = some (.int .u8 (b0.toNat : Int)) := AT5.out.c0
      have z1 : w5.cell? ⟨wr.heap.size, 1, none⟩ = some (.int .u8 (b1.toNat : Int)) := AT5.out.c1
      have z2 : w5.cell? ⟨wr.heap.size, 2, none⟩ = some (.int .u8 (b2.toNat : Int)) := AT5.out.c2
      have z3 : w5.cell? ⟨wr.heap.size, 3, none⟩ = some (.int .u8 (b3.toNat : Int)) := AT5.out.c3
      have z4 : w5.cell? ⟨wr.heap.size, 4, none⟩ = some (.int .u8 (b4.toNat : Int)) := AT5.out.c4
      have z5 : w5.cell? ⟨wr.heap.size, 5, none⟩ = some (.int .u8 (b5.toNat : Int)) := AT5.out.c5
      have z6 : w5.cell? ⟨wr.heap.size, 6, none⟩ = some (.int .u8 (b6.toNat : Int)) := AT5.out.c6
      have z7 : w5.cell? ⟨wr.heap.size, 7, none⟩ = some (.int .u8 (b7.toNat : Int)) := AT5.out.c7
      have z8 : w5.cell? ⟨wr.heap.size, 8, none⟩ = some (.int .i64 (kd : Int)) := AT5.out.c8
      have z9 : w5.cell? ⟨wr.heap.size, 9, none⟩ = some (.int .i64 (n0 : Int)) := AT5.out.c9
      have z10 : w5.cell? ⟨wr.heap.size, 10, none⟩ = some (.int .i64 (n1 : Int)) := AT5.out.c10
      have z11 : w5.cell? ⟨wr.heap.size, 11, none⟩ = some (.int .i64 (n2 : Int)) := AT5.out.c11
      have hone8 := one_cells w5 (pl12 b0 b1 b2 b3 b4 b5 b6 b7 kd n0 n1 n2).toList 28
      have hown8 := (ixown_below hown.out BW5.out).alloc (.cells (pl12 b0 b1 b2 b3 b4 b5 b6 b7 kd n0 n1 n2) 28)
      have HBA : Hid (Below w.heap.size w (w5.alloc (.cells (pl12 b0 b1 b2 b3 b4 b5 b6 b7 kd n0 n1 n2) 28))) := (hbel.out.trans (BW5.out.mono hbel.out.size)).alloc (hbel.out.trans (BW5.out.mono hbel.out.size)).size _
      have hsa8 : w.heap.size ≤ (w5.alloc (.cells (pl12 b0 b1 b2 b3 b4 b5 b6 b7 kd n0 n1 n2) 28)).heap.size := HBA.out.size
      have hsz8 : w.heap.size ≤ w5.heap.size := (hbel.out.trans (BW5.out.mono hbel.out.size)).size
      have HOL : Hid ((O ++ [(⟨[b0, b1, b2, b3, b4, b5, b6, b7], rfl, (kd : Int), (n0 : Int), (n1 : Int), (n2 : Int)⟩ : Plc)]).length = k + 1) := by show _ = _; rw [List.length_append, hO.out]; rfl
      clear hown hbel hO AT5 BW5
      go_wp2_with (at_builtin; refine wpList_append_own _ rfl (.tmp 78) (.tmp 80) 22 rfl w.heap.size 28 i0 (plV pl0) 12 40 Try.underlying22 hi hz0 hz1 hz2 (by kernel_rfl) (by decide) _ _ _ rfl hown8 ⟨w5.heap.size, 0, none⟩ 1 1 (pl12 b0 b1 b2 b3 b4 b5 b6 b7 kd n0 n1 n2).toList rfl rfl hone8 ?c2 ?c3 ?c4 ?c5 ?_)
      case c2 => exact ⟨rfl, rfl, rfl, rfl, rfl, rfl, rfl, rfl, rfl, rfl, rfl, rfl⟩
      case c3 => unfold maxLen; omega
      case c4 => omega
      case c5 => omega
      intro v8 w8 o8 g8 _
      have HO8 : Hid (w8.ownsRow w.heap.size 28 12 v8 (k + 1) (rowR plC (O ++ [(⟨[b0, b1, b2, b3, b4, b5, b6, b7], rfl, (kd : Int), (n0 : Int), (n1 : Int), (n2 : Int)⟩ : Plc)]))) := by
        show World.ownsRow _ _ _ _ _ _ _
        rw [rowR_more]
        exact o8
      have HB8 : Hid (Below w.heap.size w w8) := HBA.out.grown g8 hsa8 fun j hj => (hown8.lt j hj).1
      obtain ⟨s8, c8, hv8⟩ := ixown_form HO8.out
      subst hv8
      clear o8 g8 hown8 hone8 hsa8 HBA z0 z1 z2 z3 z4 z5 z6 z7 z8 z9 z10 z11
      generalize O ++ [(⟨[b0, b1, b2, b3, b4, b5, b6, b7], rfl, (kd : Int), (n0 : Int), (n1 : Int), (n2 : Int)⟩ : Plc)] = O5 at *
      go_wp2_with fail
      go_roundw
      case rel => exact ⟨k + 1, u3, O5, s8, c8, rfl, rfl, by omega, by go_num, hx2, HOL, HRE, HO8, HB8⟩
      case measure => simp only [intOf]; omega
    · have HEN : Hid (Ix.rdAll 0 t.data.toList (ps O) = R) := by show _ = _; rw [← show n - k = 0 from by omega]; exact hRD.out
      have HPX : Hid (Px wr (.slice so k co) O) := by show Px _ _ _; have := hO.out; subst this; exact Rx.of_own plC_length hown.out
      have HNW : Hid (∀ a n c, (Value.slice so k co) = .slice (some a) n c → w.heap.size ≤ a.block) := fun a n c e => by
        rcases hown.out.2 with ⟨h4, _⟩ | ⟨g, cap, cur, h4, h5, _⟩
        · rw [h4] at e; simp at e
        · rw [h4, Value.slice.injEq] at e
          obtain ⟨rfl, _⟩ := Option.some.inj e.1
          exact h5
      clear hRD hown
      by_cases ht0 : t.size = 0
      · have HT0 : Hid (t.data.toList = []) := List.length_eq_zero_iff.1 (by rw [← Lib.size_eq]; exact ht0)
        have hch := rcheck_any (.slice so k co) O wr HPX.out (by rw [hO.out]; omega)
        obtain ⟨er, her⟩ : ∃ er, Ix.check (ps O) = er := ⟨_, rfl⟩
        rw [her] at hch
        have HF : Hid ((if er ≠ 0 then ([], er) else (ps O, 0)) = R) := by
          show _ = _
          rw [← HEN.out, rdAll_end, if_neg (show ¬ (t.data.toList ≠ []) from fun k => k HT0.out), her]
        clear her HEN
        have hd0 : decide ((0 : Int) < (t.size : Int)) = false := decide_eq_false (by omega)
        have hd0' : decide (0 < t.size) = false := decide_eq_false (by omega)
        by_cases hE : er = 0
        · subst hE
          rw [if_neg (fun k => k rfl)] at HF
          go_wp2_with (go_at_call 9; refine hch.mono ?_; rintro e wx ⟨rfl, bx⟩)
          go_ret2
          exact ⟨.slice so k co, by rw [← HF.out]; rfl, by rw [← HF.out]; exact ⟨O, rfl, HPX.out.below bx, HNW.out, below_t hbel.out bx⟩⟩
        · rw [if_pos hE] at HF
          have e1 : (er == 0) = false := by simpa using hE
          have e2 : (er != 0) = true := by simpa using hE
          clear hE
          go_wp2_with (go_at_call 9; refine hch.mono ?_; rintro e wx ⟨rfl, bx⟩)
          go_ret2
          exact ⟨.slice none 0 0, by rw [← HF.out]; rfl, by rw [← HF.out]; exact PlOut.nil (below_t hbel.out bx)⟩
      · have HF : Hid (([], 4) = R) := by
          show _ = _
          rw [← HEN.out, rdAll_end, if_pos (fun e => ht0 (by rw [Lib.size_eq, e]; rfl))]
        have hd0 : decide ((0 : Int) < (t.size : Int)) = true := decide_eq_true (by omega)
        have hd0' : decide (0 < t.size) = true := decide_eq_true (by omega)
        clear HEN
        go_wp2_with fail
        go_ret2
        exact ⟨.slice none 0 0, by rw [← HF.out]; rfl, by rw [← HF.out]; exact PlOut.nil hbel.out⟩
end Go.Proofs.Ytllioidjelgafaa

namespace Go.Proofs.Ytllioidjelgafaa
open Go.RowKit
set_option maxRecDepth 4000

theorem check_rtell {v : Value} {l : List Plc} {w : World} {er : Int} (he : Ix.check (ps l) = er) (hl : l.length ≤ 140737488351232) (h : Px w v l) :
    Calls Try.prog 9 #[v] w fun e w' => e = .returned (.int .i64 er) ∧ Below w.heap.size w w' := by
  rw [← he]
  exact rcheck_any v l w h hl
theorem text_rtell {v : Value} {l : List Plc} {w : World} {c : Int} (hc : Ix.check (ps l) = c) (hl : l.length ≤ 140737488351232) (h : Px w v l) :
    Calls Try.prog 19 #[v] w fun e w' => ∃ s : ByteArray, e = .returned (.tuple #[.string s, .int .i64 c]) ∧ s.data.toList = (if c = 0 then Ix.textB (ps l) else []) ∧ Below w.heap.size w w' := by
  subst hc
  exact text_any v l w h hl
theorem rread_tell {s : ByteArray} {w : World} {out : List Ix.Pl} {er : Int} (he : Ix.read s.data.toList = (out, er)) (hs : s.size ≤ 140737488351232) :
    Calls Try.prog 22 #[.string s] w fun e w' => ∃ s c l, e = .returned (.tuple #[.slice s l.length c, .int .i64 er]) ∧ MgOut w w' s c l out := by
  refine (rread_any s w hs).mono fun e w' ⟨x, hx, ho⟩ => ?_
  rw [he] at hx ho
  obtain ⟨s, c, l, rfl, h2⟩ := MgOut.of ho
  exact ⟨s, c, l, hx, h2⟩
theorem read_len {s : List UInt8} {o : List Ix.Pl} {e : Int} (h : Ix.read s = (o, e)) : o.length ≤ 400 := by
  by_cases he : e = 0
  · subst he
    exact (Ix.check_ok.1 (Ix.text_read h).2.1).1
  · have := Ix.read_bad (s := s) (by rw [h]; exact he)
    rw [h] at this
    rw [show o = [] from this]
    simp
theorem ba_of {s : ByteArray} {l : List UInt8} (h : s.data.toList = l) : s = ⟨l.toArray⟩ := by
  apply ByteArray.ext
  exact Array.toList_inj.1 h

set_option maxHeartbeats 4000000 in
theorem indexReads_walk (v0 : Value) (l0 : List Plc) (a1 : ByteArray) (z0 : l0.length ≤ 140737488351232) (_ : PsOk l0) (z1 : a1.size ≤ 140737488351232) (w : World) (t0 : Px w v0 l0) :
    Calls Try.prog 5 #[v0, .string a1] w fun e w' => e = .returned (.bool true) ∧ Below w.heap.size w w' := by
  obtain ⟨s0, c0, rfl, _, _⟩ := t0.slice
  have T0 : Hid (Px w (.slice s0 l0.length c0) l0) := t0
  obtain ⟨ec, hec⟩ : ∃ ec, Ix.check (ps l0) = ec := ⟨_, rfl⟩
  obtain ⟨oz, g, hz⟩ : ∃ o g, Ix.read a1.data.toList = (o, g) := ⟨_, _, rfl⟩
  have EC : Hid (Ix.check (ps l0) = ec) := hec
  have HZ : Hid (Ix.read a1.data.toList = (oz, g)) := hz
  have HOL : Hid (oz.length ≤ 400) := read_len hz
  clear t0 hec hz
  go_enter Try.func5, Try.ntmps5
  go_upto_region 2 with (go_at_call 19; refine (text_rtell EC.out z0 T0.out).mono ?_; rintro e w1 ⟨s1, rfl, hs1, b1⟩)
  obtain ⟨TX, hTX⟩ : ∃ TX : List UInt8, (if ec = 0 then Ix.textB (ps l0) else []) = TX := ⟨_, rfl⟩
  rw [hTX] at hs1
  obtain rfl := ba_of hs1
  have HTX : Hid ((if ec = 0 then Ix.textB (ps l0) else []) = TX) := hTX
  have B1 : Hid (Below w.heap.size w w1) := b1
  clear hs1 hTX b1
  go_upto_region 3 with (go_at_call 9; refine (check_rtell EC.out z0 (T0.out.below B1.out)).mono ?_; rintro e w2 ⟨rfl, b2⟩)
  have B2 : Hid (Below w.heap.size w w2) := below_t B1.out b2
  clear b2 B1
  by_cases e0 : ec = 0
  · subst e0
    have HT2 : Hid (Ix.textB (ps l0) = TX) := by have := HTX.out; rw [if_pos rfl] at this; exact this
    have htx := rtext_any _ l0 w2 (T0.out.below B2.out) EC.out
    rw [HT2.out] at htx
    go_upto_region 5 with (go_at_call 20; refine htx.mono ?_; rintro e w3 ⟨rfl, b3⟩)
    have B3 : Hid (Below w.heap.size w w3) := below_t B2.out b3
    clear b3 B2 htx
    go_upto_region 6 with (go_at_call 21; refine (read_tell HZ.out z1).mono ?_; rintro e w4 ⟨x4, y4, m4, rfl, g4⟩)
    have B4 : Hid (Below w.heap.size w w4) := below_t B3.out g4.bel
    have P4 : Hid (Px w4 (.slice x4 m4.length y4) m4) := g4.px
    have I4 : Hid (ps m4 = oz) := g4.is
    clear g4 B3
    go_upto_region 7 with (go_at_call 22; refine (rread_tell HZ.out z1).mono ?_; rintro e w5 ⟨x5, y5, m5, rfl, g5⟩)
    have B5 : Hid (Below w.heap.size w w5) := below_t B4.out g5.bel
    have P45 : Hid (Px w5 (.slice x4 m4.length y4) m4) := P4.out.below g5.bel
    have P5 : Hid (Px w5 (.slice x5 m5.length y5) m5) := g5.px
    have E45 : Hid (m4 = m5) := pls_once (I4.out.trans g5.is.symm)
    have L4 : Hid (m4.length ≤ 140737488351232) := by show _ ≤ _; have h := congrArg List.length I4.out; rw [List.length_map] at h; have := HOL.out; omega
    clear g5 P4 B4
    have heq := equal_tell E45.out L4.out P45.out P5.out
    go_wp2_with (go_at_call 18; refine heq.mono ?_; rintro e w6 ⟨rfl, b6⟩)
    go_ret
    exact ⟨rfl, below_t B5.out b6⟩
  · have HT2 : Hid (TX = []) := by have := HTX.out; rw [if_neg e0] at this; exact this.symm
    have hT2 := HT2.out
    subst hT2
    have hqe : (ec == 0) = false := by simpa using e0
    clear HTX HT2 e0
    go_upto_region 5 with fail
    clear hqe
    go_upto_region 6 with (go_at_call 21; refine (read_tell HZ.out z1).mono ?_; rintro e w4 ⟨x4, y4, m4, rfl, g4⟩)
    have B4 : Hid (Below w.heap.size w w4) := below_t B2.out g4.bel
    have P4 : Hid (Px w4 (.slice x4 m4.length y4) m4) := g4.px
    have I4 : Hid (ps m4 = oz) := g4.is
    clear g4 B2
    go_upto_region 7 with (go_at_call 22; refine (rread_tell HZ.out z1).mono ?_; rintro e w5 ⟨x5, y5, m5, rfl, g5⟩)
    have B5 : Hid (Below w.heap.size w w5) := below_t B4.out g5.bel
    have P45 : Hid (Px w5 (.slice x4 m4.length y4) m4) := P4.out.below g5.bel
    have P5 : Hid (Px w5 (.slice x5 m5.length y5) m5) := g5.px
    have E45 : Hid (m4 = m5) := pls_once (I4.out.trans g5.is.symm)
    have L4 : Hid (m4.length ≤ 140737488351232) := by show _ ≤ _; have h := congrArg List.length I4.out; rw [List.length_map] at h; have := HOL.out; omega
    clear g5 P4 B4
    have heq := equal_tell E45.out L4.out P45.out P5.out
    go_wp2_with (go_at_call 18; refine heq.mono ?_; rintro e w6 ⟨rfl, b6⟩)
    go_ret
    exact ⟨rfl, below_t B5.out b6⟩
end Go.Proofs.Ytllioidjelgafaa

namespace Go.Proofs.Ytllioidjelgafaa.indexReads
open Go.ChangeShapes Go.WideShapes Go.ChangeAt Go.RowKit
open Go.ChangeMaps (open_string shut_string)
set_option linter.unusedVariables false

theorem own : ownKnob Try.prog.godebug = none := by kernel_rfl

set_option maxRecDepth 100000 in
theorem lifted (os : Os) (started : os.Started) (H : Type) (enc : TypeId × Value → H) :
    ReturnsInHanded {} Try.checked os 5 .any (Rows.indexReadsSpec.pre6 enc Try.prog Try.f5 Rows.indexReadsRow.domain false) (Rows.indexReadsSpec.post enc Try.prog Try.f5 false true false false) := by
  refine returnsInHanded_of_change_sized (C := Try.checked) own started (by kernel_rfl) Try.func5
    (ChangeSpec.witness6 (enc := enc) (C := Try.checked) false ⟨#[], #[.slice none 0 0, .string ByteArray.empty], []⟩ 8 (by kernel_rfl) (by kernel_rfl) (by kernel_rfl) (by kernel_rfl)) ?_
  intro W base args ds gs before hval0 hW hcnd hsz0 _
  have hval : ∀ (j : Nat) t v, Try.f5.params[j]? = some t → args[j]? = some v → Value.okWide Try.prog W .any base t v := hval0
  have hW' := hW
  obtain ⟨p, q, hA0, hV, rfl, hfz, hnd⟩ := hW
  have hA : DataW.TrodAll enc Try.prog W 0 (fun _ => true) true Try.f5.params.toList args.toList ds p := hA0
  have hsz : (DataW.weightsEach Try.prog (Try.f5.params.toList ++ Rows.indexReadsSpec.plain.varTypes Try.prog) (ds ++ gs)).all (· ≤ reachBytes) = true := hsz0
  rw [Try.params5] at hA hval hsz
  obtain ⟨v0, vs0, d0, ds0, p0, q0, hargs, rfl, rfl, h0, r0⟩ := trodAll_cons hA
  obtain ⟨v1, vs1, d1, ds1, p1, q1, rfl, rfl, rfl, h1, r1⟩ := trodAll_cons r0
  obtain ⟨rfl, rfl, rfl⟩ := trodAll_nil r1
  obtain rfl : args = #[v0, v1] := by cases args; simp_all
  obtain ⟨rfl, rfl⟩ := trodVars_none hV
  obtain ⟨sa0, len0, cap0, rfl⟩ := okWide_slice Try.underlying22 (hval 0 22 v0 rfl rfl)
  have h0k := h0
  obtain ⟨fuel0, hf0⟩ := h0
  obtain ⟨a1, rfl, rfl, rfl, w1⟩ := open_string Try.underlying9 (hval 1 9 v1 rfl rfl) h1
  have hlts : ∀ x ∈ p0, x.block < W.heap.size := fun x hx => Nat.lt_of_lt_of_eq (hW'.lt x (by simpa using hx)) (by simp)
  have hlt0 : ∀ x ∈ p0, x.block < W.heap.size := fun x hx => hlts x (hx)
  have hargs0 : ∀ (W' : World), Below W.heap.size W W' → DataW.Trod enc Try.prog W' 0 (fun b => decide (b < W.heap.size)) true 22 (.slice sa0 len0 cap0) d0 p0 :=
    fun W' hn => Below.trod (by kernel_rfl) (by kernel_rfl) (of_decide_eq_true (by kernel_rfl)) h0k hn hlt0
  obtain ⟨l0, hl0, hwf0, hsize0⟩ := open_pls hf0 hlt0
  have z0 : l0.length ≤ 140737488351232 := by
    rcases hsize0 with h | ⟨elems, sp, h, h2⟩
    · omega
    · have h : d0 = .slice elems sp := h
      subst h
      have := sized_slice hsz (j := 0) (t := 22) rfl rfl Try.underlying22
      have hb : Try.prog.bytesOf 28 = 40 := by kernel_rfl
      rw [hb] at this
      simp only [reachBytes] at this
      omega
  have z1 : a1.size ≤ 140737488351232 := by
    have := sized_string hsz (j := 1) (t := 9) rfl rfl
    simp only [reachBytes] at this
    rw [Lib.size_eq]; exact this
  clear hA0 hval0 hsz hsz0
  refine (indexReads_walk _ l0 a1 z0 hwf0 z1 W hl0).mono fun e W' ⟨he, bel⟩ => ?_
  subst he
  exact ⟨_, rfl, _, _, _, [], _, [], hW', trodAll_mk1 (shut_bool Try.underlying4 _), (trodAll_cons_mk (hargs0 _ bel) (trodAll_cons_mk (shut_string Try.underlying9 w1) trodAll_mk0)), rfl, bel.frame _, fun h => by cases h⟩

theorem over : Rows.indexReadsRow.holds Try.pinned (OpenSpec.ofChange Rows.indexReadsSpec) :=
  OpenClaim.holds_of_wide 5 Try.f5 rfl rfl rfl rfl rfl rfl rfl ⟨rfl, rfl, rfl, rfl, rfl⟩ rfl rfl rfl rfl rfl (by kernel_rfl) Try.func5 (by kernel_rfl)
    (of_decide_eq_true (by kernel_rfl)) (by unfold Func.isWrapper; first | (rw [if_pos (by decide +kernel)]; kernel_rfl) | (rw [if_neg (by decide +kernel)]; exact ⟨rfl, rfl⟩))
    (fun os started H enc _ => lifted os started H enc)
end Go.Proofs.Ytllioidjelgafaa.indexReads

namespace Go.Proofs.Ytllioidjelgafaa
theorem indexReads_holds : Rows.IndexReadsSaid := indexReads.over
end Go.Proofs.Ytllioidjelgafaa
