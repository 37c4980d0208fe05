/-
  The walk of the statement IndexSays: it answers true.
-/
import Derived.Test.YtllioidjelgafaaPlIdxF
import Derived.Test.YtllioidjelgafaaPlRChk
import Derived.Test.YtllioidjelgafaaPlOpen
import Derived.Deep.Upon
namespace Go.Proofs.Ytllioidjelgafaa
open Go.RowKit
set_option maxRecDepth 4000

theorem cmp12 (s t : Plc) (W : World) : (Op.equalIn 10000 28 (plV s) (plV t)).run Try.prog W = .ok (plSame s t) W := pl_cmp W s t

set_option maxHeartbeats 8000000 in
theorem indexSays_of (v0 : Value) (l0 : List Plc) (x0 x1 x2 x3 x4 x5 x6 x7 : UInt8) (z0 : l0.length ≤ 140737488351232) (w : World) (t0 : Px w v0 l0) :
    Calls Try.prog 3 #[v0, .agg #[.int .u8 (x0.toNat : Int), .int .u8 (x1.toNat : Int), .int .u8 (x2.toNat : Int), .int .u8 (x3.toNat : Int), .int .u8 (x4.toNat : Int), .int .u8 (x5.toNat : Int), .int .u8 (x6.toNat : Int), .int .u8 (x7.toNat : Int)]] w fun e w' => e = .returned (.bool true) ∧ Below w.heap.size w w' := by
  obtain ⟨s0, c0, rfl, _, _⟩ := t0.slice
  obtain ⟨W1, hW1⟩ : ∃ W1, W1 = w.alloc (.cells #[.int .u8 (x0.toNat : Int), .int .u8 (x1.toNat : Int), .int .u8 (x2.toNat : Int), .int .u8 (x3.toNat : Int), .int .u8 (x4.toNat : Int), .int .u8 (x5.toNat : Int), .int .u8 (x6.toNat : Int), .int .u8 (x7.toNat : Int)] 24) := ⟨_, rfl⟩
  have s1 : W1.heap.size = w.heap.size + 1 := by rw [hW1]; show (w.heap.push _).size = _; simp
  have hb1 : Below w.heap.size w W1 := by rw [hW1]; exact (Below.refl _ w).alloc (Nat.le_refl _) _
  have HB1 : Hid (Below w.heap.size w W1) := hb1
  have HS1 : Hid (W1.heap.size = w.heap.size + 1) := s1
  have T1 : Hid (Px W1 (.slice s0 l0.length c0) l0) := t0.below hb1
  have HX : Hid (∀ r u, (#[.int .u8 (x0.toNat : Int), .int .u8 (x1.toNat : Int), .int .u8 (x2.toNat : Int), .int .u8 (x3.toNat : Int), .int .u8 (x4.toNat : Int), .int .u8 (x5.toNat : Int), .int .u8 (x6.toNat : Int), .int .u8 (x7.toNat : Int)] : Array Value)[r]? = some u → W1.cell? ⟨w.heap.size, r, none⟩ = some u) := fun j u hu => by
    rw [hW1, cell_of_row _ w.heap.size j _ _ _ (heap_alloc_new w _)]; exact hu
  obtain ⟨E, hE⟩ : ∃ E, Ix.check (ps l0) = E := ⟨_, rfl⟩
  have HE : Hid (Ix.check (ps l0) = E) := hE
  obtain ⟨b0, b1, b2, b3, b4, b5, b6, b7, k1, p1, a1, l1, hfp⟩ := (fndP l0 [x0, x1, x2, x3, x4, x5, x6, x7]).as12
  have HFP : Hid (fndP l0 [x0, x1, x2, x3, x4, x5, x6, x7] = ⟨[b0, b1, b2, b3, b4, b5, b6, b7], rfl, k1, p1, a1, l1⟩) := hfp
  obtain ⟨fe, hfe⟩ : ∃ fe, fndE l0 [x0, x1, x2, x3, x4, x5, x6, x7] = fe := ⟨_, rfl⟩
  have HFE : Hid (fndE l0 [x0, x1, x2, x3, x4, x5, x6, x7] = fe) := hfe
  have hchk : ∀ W, Px W (.slice s0 l0.length c0) l0 → Calls Try.prog 13 #[.slice s0 l0.length c0] W fun e w' => e = .returned (.int .i64 E) ∧ Below W.heap.size W w' := fun W hW => by have := check_any _ l0 W hW z0; rwa [hE] at this
  have hrck : ∀ W, Px W (.slice s0 l0.length c0) l0 → Calls Try.prog 9 #[.slice s0 l0.length c0] W fun e w' => e = .returned (.int .i64 E) ∧ Below W.heap.size W w' := fun W hW => by have := rcheck_any _ l0 W hW z0; rwa [hE] at this
  have hfnd : ∀ W, Px W (.slice s0 l0.length c0) l0 → Calls Try.prog 10 #[.slice s0 l0.length c0, .agg #[.int .u8 (x0.toNat : Int), .int .u8 (x1.toNat : Int), .int .u8 (x2.toNat : Int), .int .u8 (x3.toNat : Int), .int .u8 (x4.toNat : Int), .int .u8 (x5.toNat : Int), .int .u8 (x6.toNat : Int), .int .u8 (x7.toNat : Int)]] W fun e w' => e = .returned (.tuple #[.agg (pl12 b0 b1 b2 b3 b4 b5 b6 b7 k1 p1 a1 l1), .int .i64 fe]) ∧ Below W.heap.size W w' := fun W hW => by
    have := find_of _ l0 x0 x1 x2 x3 x4 x5 x6 x7 W hW z0
    rw [hfp, hfe] at this
    exact this
  clear t0 hb1 s1 hfp hfe
  go_enter Try.func3, Try.ntmps3
  go_upto_region 1 with fail
  rw [← hW1]
  clear hW1
  go_upto_region 2 with (go_at_call 9; refine (hrck _ T1.out).mono ?_; rintro e w2 ⟨rfl, b2'⟩)
  have HB2 : Hid (Below W1.heap.size W1 w2) := b2'
  have xx0 : w2.cell? ⟨w.heap.size, 0, none⟩ = some (.int .u8 (x0.toNat : Int)) := (b2'.cell (p := ⟨w.heap.size, 0, none⟩) (by rw [HS1.out]; show w.heap.size < _; omega)).trans (HX.out 0 _ rfl)
  have xx1 : w2.cell? ⟨w.heap.size, 1, none⟩ = some (.int .u8 (x1.toNat : Int)) := (b2'.cell (p := ⟨w.heap.size, 1, none⟩) (by rw [HS1.out]; show w.heap.size < _; omega)).trans (HX.out 1 _ rfl)
  have xx2 : w2.cell? ⟨w.heap.size, 2, none⟩ = some (.int .u8 (x2.toNat : Int)) := (b2'.cell (p := ⟨w.heap.size, 2, none⟩) (by rw [HS1.out]; show w.heap.size < _; omega)).trans (HX.out 2 _ rfl)
  have xx3 : w2.cell? ⟨w.heap.size, 3, none⟩ = some (.int .u8 (x3.toNat : Int)) := (b2'.cell (p := ⟨w.heap.size, 3, none⟩) (by rw [HS1.out]; show w.heap.size < _; omega)).trans (HX.out 3 _ rfl)
  have xx4 : w2.cell? ⟨w.heap.size, 4, none⟩ = some (.int .u8 (x4.toNat : Int)) := (b2'.cell (p := ⟨w.heap.size, 4, none⟩) (by rw [HS1.out]; show w.heap.size < _; omega)).trans (HX.out 4 _ rfl)
  have xx5 : w2.cell? ⟨w.heap.size, 5, none⟩ = some (.int .u8 (x5.toNat : Int)) := (b2'.cell (p := ⟨w.heap.size, 5, none⟩) (by rw [HS1.out]; show w.heap.size < _; omega)).trans (HX.out 5 _ rfl)
  have xx6 : w2.cell? ⟨w.heap.size, 6, none⟩ = some (.int .u8 (x6.toNat : Int)) := (b2'.cell (p := ⟨w.heap.size, 6, none⟩) (by rw [HS1.out]; show w.heap.size < _; omega)).trans (HX.out 6 _ rfl)
  have xx7 : w2.cell? ⟨w.heap.size, 7, none⟩ = some (.int .u8 (x7.toNat : Int)) := (b2'.cell (p := ⟨w.heap.size, 7, none⟩) (by rw [HS1.out]; show w.heap.size < _; omega)).trans (HX.out 7 _ rfl)
  go_upto_region 3 with (go_at_call 10; refine (hfnd _ (T1.out.below b2')).mono ?_; rintro e w3 ⟨rfl, b3'⟩)
  have HB3 : Hid (Below W1.heap.size W1 w3) := b2'.trans (b3'.mono b2'.size)
  have HN3 : Hid (At12 (w3.alloc (.cells (pl12 b0 b1 b2 b3 b4 b5 b6 b7 k1 p1 a1 l1) 28)) w3.heap.size 0 b0 b1 b2 b3 b4 b5 b6 b7 k1 p1 a1 l1) := At12.new _ _ _ _ _ _ _ _ _ _ _ _ _ _
  have HZ1 : Hid (W1.heap.size ≤ w3.heap.size) := HB3.out.size
  clear hrck hfnd b2' b3' xx0 xx1 xx2 xx3 xx4 xx5 xx6 xx7
  generalize hW4 : w3.alloc (.cells (pl12 b0 b1 b2 b3 b4 b5 b6 b7 k1 p1 a1 l1) 28) = w4 at *
  have s4 : w4.heap.size = w3.heap.size + 1 := by rw [← hW4]; show (w3.heap.push _).size = _; simp
  have HB4 : Hid (Below W1.heap.size W1 w4) := by rw [← hW4]; exact HB3.out.alloc HB3.out.size _
  have HN5 : Hid (At12 (w4.alloc (.cells (pl12 0 0 0 0 0 0 0 0 0 0 0 0) 28)) w4.heap.size 0 0 0 0 0 0 0 0 0 0 0 0 0) := At12.new _ _ _ _ _ _ _ _ _ _ _ _ _ _
  have HT5 : Hid ((w4.alloc (.cells (pl12 0 0 0 0 0 0 0 0 0 0 0 0) 28)).there w4.heap.size 0 12) := there_new w4 _ _ rfl
  have HB5 : Hid (Below W1.heap.size W1 (w4.alloc (.cells (pl12 0 0 0 0 0 0 0 0 0 0 0 0) 28))) := HB4.out.alloc HB4.out.size _
  have HN5' : Hid (At12 (w4.alloc (.cells (pl12 0 0 0 0 0 0 0 0 0 0 0 0) 28)) w3.heap.size 0 b0 b1 b2 b3 b4 b5 b6 b7 k1 p1 a1 l1) := HN3.out.below ((Below.refl w4.heap.size w4).alloc (Nat.le_refl _) _) (by rw [s4]; omega)
  have s5 : (w4.alloc (.cells (pl12 0 0 0 0 0 0 0 0 0 0 0 0) 28)).heap.size = w3.heap.size + 2 := by show (w4.heap.push _).size = _; rw [Array.size_push, s4]
  have HZ4 : Hid (w4.heap.size = w3.heap.size + 1) := s4
  clear hW4 HN3 HB3 HB4 HB2
  go_upto_region 4 with fail
  rw [s4] at HN5 HT5
  have e5 : w4.alloc (.cells #[.int .u8 0, .int .u8 0, .int .u8 0, .int .u8 0, .int .u8 0, .int .u8 0, .int .u8 0, .int .u8 0, .int .i64 0, .int .i64 0, .int .i64 0, .int .i64 0] 28) = w4.alloc (.cells (pl12 0 0 0 0 0 0 0 0 0 0 0 0) 28) := rfl
  rw [e5]
  clear e5
  generalize w4.alloc (.cells (pl12 0 0 0 0 0 0 0 0 0 0 0 0) 28) = w5 at *
  have HS5 : Hid (w5.heap.size = w3.heap.size + 2) := s5
  clear s4 s5
  have T5 : Hid (Px w5 (.slice s0 l0.length c0) l0) := T1.out.below HB5.out
  have BW5 : Hid (Below w.heap.size w w5) := HB1.out.trans (HB5.out.mono HB1.out.size)
  by_cases hE0 : E = 0
  · subst hE0
    have hif := indexFunc_any _ l0 w.heap.size x0 x1 x2 x3 x4 x5 x6 x7 w5 T5.out z0 (by have h1 := HS5.out; have h2 := HS1.out; have h3 := HZ1.out; omega) (fun r u hu => (HB5.out.cell (p := ⟨w.heap.size, r, none⟩) (by rw [HS1.out]; show w.heap.size < _; omega)).trans (HX.out r u hu))
    go_upto_region 6 with (go_at_call 11; refine hif.mono ?_; rintro e w6 ⟨r, rfl, hr, b6'⟩)
    have T6 : Hid (Px w6 (.slice s0 l0.length c0) l0) := T5.out.below b6'
    have HB6 : Hid (Below W1.heap.size W1 w6) := HB5.out.trans (b6'.mono HB5.out.size)
    have HW6 : w3.heap.size < w6.heap.size := by have h1 := HS5.out; have h2 := b6'.size; omega
    have BW6 : Hid (Below w.heap.size w w6) := BW5.out.trans (b6'.mono BW5.out.size)
    have hN6 := HN5'.out.below b6' (by rw [HS5.out]; omega)
    have hZ6 := HN5.out.below b6' (by rw [HS5.out]; omega)
    have hT6 := there_below HT5.out b6' (by rw [HS5.out]; omega)
    clear hif b6' HN5 HN5' HT5
    rcases hr with ⟨i, t, rfl, hti, hft⟩ | ⟨rfl, hno⟩
    · have HFT : Hid (fndP l0 [x0, x1, x2, x3, x4, x5, x6, x7] = t ∧ fe = 0) := by
        refine ⟨?_, ?_⟩
        · unfold fndP; rw [if_pos HE.out, hft]; rfl
        · rw [← HFE.out]; unfold fndE; rw [if_pos HE.out, hft]; rfl
      have hil : i < l0.length := (List.getElem?_eq_some_iff.1 hti).1
      obtain ⟨bk, o, hao, hbk, hat⟩ := T6.out.get i t hti
      subst hao
      have hrng : w6.rangeAt bk (o + i * 12) (plC t) := fun r u hu => hat r u hu
      have hpt : t = ⟨[b0, b1, b2, b3, b4, b5, b6, b7], rfl, k1, p1, a1, l1⟩ := HFT.out.1.symm.trans HFP.out
      have hrs := World.rangeAt_setCells_same w6 (w3.heap.size + 1) 0 (plC t) (by rw [plC_length]; exact hT6)
      have hG8 : At12 (w6.setCells (w3.heap.size + 1) 0 (plC t)) (w3.heap.size + 1) 0 b0 b1 b2 b3 b4 b5 b6 b7 k1 p1 a1 l1 := At12.of fun r u hu => hrs r u (by rw [hpt]; exact hu)
      have hG6 : At12 (w6.setCells (w3.heap.size + 1) 0 (plC t)) w3.heap.size 0 b0 b1 b2 b3 b4 b5 b6 b7 k1 p1 a1 l1 := hN6.kept (World.heap_setCells_other w6 _ _ _ HW6 (by omega))
      have BW7 : Hid (Below w.heap.size w (w6.setCells (w3.heap.size + 1) 0 (plC t))) := below_cells (by have h1 := HZ1.out; have h2 := HS1.out; omega) _ _ BW6.out (Nat.le_refl _)
      have T7 : Hid (Px (w6.setCells (w3.heap.size + 1) 0 (plC t)) (.slice (some ⟨bk, o, none⟩) l0.length c0) l0) := T1.out.below (below_cells (by have h1 := HZ1.out; omega) _ _ (HB6.out) (Nat.le_refl _))
      have hfe0 := HFT.out.2
      subst hfe0
      have heq : ∀ W, (Op.equalIn 10000 28 (.agg (pl12 b0 b1 b2 b3 b4 b5 b6 b7 k1 p1 a1 l1)) (.agg (pl12 b0 b1 b2 b3 b4 b5 b6 b7 k1 p1 a1 l1))).run Try.prog W = .ok true W := fun W => by
        have := cmp12 ⟨[b0, b1, b2, b3, b4, b5, b6, b7], rfl, k1, p1, a1, l1⟩ ⟨[b0, b1, b2, b3, b4, b5, b6, b7], rfl, k1, p1, a1, l1⟩ W
        rw [plSame_self] at this
        exact this
      clear hti hft hat hpt hrs hN6 hZ6
      go_upto_region 8 with fail
      refine wp_region_lit ?_
      refine wpList_plain rfl fun C hC => ?_
      go_simp
      refine hC _ _ ?_
      clear hC C
      refine wpList_plain rfl fun C hC => ?_
      go_simp
      refine hC _ _ ?_
      clear hC C
      refine wpList_plain rfl fun C hC => ?_
      go_simp
      refine hC _ _ ?_
      clear hC C
      refine wpList_load_mid rfl 28 (.tmp 40) rfl bk (o + i * 12) rfl (plC t) _ hrng Try.underlying28 rfl (by rw [info_pl12, plC_length]) ?_
      refine wpList_store_mid rfl 28 (.tmp 8) (.tmp 41) rfl (w3.heap.size + 1) 0 (plC t).toArray rfl rfl (by rw [sz12]; exact hT6) (by rw [info_pl12, sz12]) (plC_all t) ?_
      rw [show (plC t).toArray.toList = plC t from rfl]
      generalize w6.setCells (w3.heap.size + 1) 0 (plC t) = w7 at *
      have y0 : w7.cell? ⟨w3.heap.size, 0, none⟩ = some (.int .u8 (b0.toNat : Int)) := hG6.c0
      have y1 : w7.cell? ⟨w3.heap.size, 1, none⟩ = some (.int .u8 (b1.toNat : Int)) := hG6.c1
      have y2 : w7.cell? ⟨w3.heap.size, 2, none⟩ = some (.int .u8 (b2.toNat : Int)) := hG6.c2
      have y3 : w7.cell? ⟨w3.heap.size, 3, none⟩ = some (.int .u8 (b3.toNat : Int)) := hG6.c3
      have y4 : w7.cell? ⟨w3.heap.size, 4, none⟩ = some (.int .u8 (b4.toNat : Int)) := hG6.c4
      have y5 : w7.cell? ⟨w3.heap.size, 5, none⟩ = some (.int .u8 (b5.toNat : Int)) := hG6.c5
      have y6 : w7.cell? ⟨w3.heap.size, 6, none⟩ = some (.int .u8 (b6.toNat : Int)) := hG6.c6
      have y7 : w7.cell? ⟨w3.heap.size, 7, none⟩ = some (.int .u8 (b7.toNat : Int)) := hG6.c7
      have y8 : w7.cell? ⟨w3.heap.size, 8, none⟩ = some (.int .i64 k1) := hG6.c8
      have y9 : w7.cell? ⟨w3.heap.size, 9, none⟩ = some (.int .i64 p1) := hG6.c9
      have y10 : w7.cell? ⟨w3.heap.size, 10, none⟩ = some (.int .i64 a1) := hG6.c10
      have y11 : w7.cell? ⟨w3.heap.size, 11, none⟩ = some (.int .i64 l1) := hG6.c11
      have u0 : w7.cell? ⟨w3.heap.size + 1, 0, none⟩ = some (.int .u8 (b0.toNat : Int)) := hG8.c0
      have u1 : w7.cell? ⟨w3.heap.size + 1, 1, none⟩ = some (.int .u8 (b1.toNat : Int)) := hG8.c1
      have u2 : w7.cell? ⟨w3.heap.size + 1, 2, none⟩ = some (.int .u8 (b2.toNat : Int)) := hG8.c2
      have u3 : w7.cell? ⟨w3.heap.size + 1, 3, none⟩ = some (.int .u8 (b3.toNat : Int)) := hG8.c3
      have u4 : w7.cell? ⟨w3.heap.size + 1, 4, none⟩ = some (.int .u8 (b4.toNat : Int)) := hG8.c4
      have u5 : w7.cell? ⟨w3.heap.size + 1, 5, none⟩ = some (.int .u8 (b5.toNat : Int)) := hG8.c5
      have u6 : w7.cell? ⟨w3.heap.size + 1, 6, none⟩ = some (.int .u8 (b6.toNat : Int)) := hG8.c6
      have u7 : w7.cell? ⟨w3.heap.size + 1, 7, none⟩ = some (.int .u8 (b7.toNat : Int)) := hG8.c7
      have u8 : w7.cell? ⟨w3.heap.size + 1, 8, none⟩ = some (.int .i64 k1) := hG8.c8
      have u9 : w7.cell? ⟨w3.heap.size + 1, 9, none⟩ = some (.int .i64 p1) := hG8.c9
      have u10 : w7.cell? ⟨w3.heap.size + 1, 10, none⟩ = some (.int .i64 a1) := hG8.c10
      have u11 : w7.cell? ⟨w3.heap.size + 1, 11, none⟩ = some (.int .i64 l1) := hG8.c11
      clear hG6 hG8 hrng hT6
      go_wp2_with (go_at_call 13; refine (hchk _ T7.out).mono ?_; rintro e w8 ⟨rfl, b8⟩)
      go_ret
      exact ⟨rfl, BW7.out.trans (b8.mono BW7.out.size)⟩
    · have HFT : Hid (fndP l0 [x0, x1, x2, x3, x4, x5, x6, x7] = pl0 ∧ fe = 9) := by
        refine ⟨?_, ?_⟩
        · unfold fndP; rw [if_pos HE.out, hno]; rfl
        · rw [← HFE.out]; unfold fndE; rw [if_pos HE.out, hno]; rfl
      have heq : ∀ W, (Op.equalIn 10000 28 (.agg (pl12 b0 b1 b2 b3 b4 b5 b6 b7 k1 p1 a1 l1)) (.agg #[.int .u8 0, .int .u8 0, .int .u8 0, .int .u8 0, .int .u8 0, .int .u8 0, .int .u8 0, .int .u8 0, .int .i64 0, .int .i64 0, .int .i64 0, .int .i64 0])).run Try.prog W = .ok true W := fun W => by
        have := cmp12 ⟨[b0, b1, b2, b3, b4, b5, b6, b7], rfl, k1, p1, a1, l1⟩ pl0 W
        rw [← HFP.out, HFT.out.1, plSame_self] at this
        rw [← plV_12, ← HFP.out, HFT.out.1]
        exact this
      have hfe0 := HFT.out.2
      subst hfe0
      have y0 : w6.cell? ⟨w3.heap.size, 0, none⟩ = some (.int .u8 (b0.toNat : Int)) := hN6.c0
      have y1 : w6.cell? ⟨w3.heap.size, 1, none⟩ = some (.int .u8 (b1.toNat : Int)) := hN6.c1
      have y2 : w6.cell? ⟨w3.heap.size, 2, none⟩ = some (.int .u8 (b2.toNat : Int)) := hN6.c2
      have y3 : w6.cell? ⟨w3.heap.size, 3, none⟩ = some (.int .u8 (b3.toNat : Int)) := hN6.c3
      have y4 : w6.cell? ⟨w3.heap.size, 4, none⟩ = some (.int .u8 (b4.toNat : Int)) := hN6.c4
      have y5 : w6.cell? ⟨w3.heap.size, 5, none⟩ = some (.int .u8 (b5.toNat : Int)) := hN6.c5
      have y6 : w6.cell? ⟨w3.heap.size, 6, none⟩ = some (.int .u8 (b6.toNat : Int)) := hN6.c6
      have y7 : w6.cell? ⟨w3.heap.size, 7, none⟩ = some (.int .u8 (b7.toNat : Int)) := hN6.c7
      have y8 : w6.cell? ⟨w3.heap.size, 8, none⟩ = some (.int .i64 k1) := hN6.c8
      have y9 : w6.cell? ⟨w3.heap.size, 9, none⟩ = some (.int .i64 p1) := hN6.c9
      have y10 : w6.cell? ⟨w3.heap.size, 10, none⟩ = some (.int .i64 a1) := hN6.c10
      have y11 : w6.cell? ⟨w3.heap.size, 11, none⟩ = some (.int .i64 l1) := hN6.c11
      have u0 : w6.cell? ⟨w3.heap.size + 1, 0, none⟩ = some (.int .u8 0) := hZ6.c0
      have u1 : w6.cell? ⟨w3.heap.size + 1, 1, none⟩ = some (.int .u8 0) := hZ6.c1
      have u2 : w6.cell? ⟨w3.heap.size + 1, 2, none⟩ = some (.int .u8 0) := hZ6.c2
      have u3 : w6.cell? ⟨w3.heap.size + 1, 3, none⟩ = some (.int .u8 0) := hZ6.c3
      have u4 : w6.cell? ⟨w3.heap.size + 1, 4, none⟩ = some (.int .u8 0) := hZ6.c4
      have u5 : w6.cell? ⟨w3.heap.size + 1, 5, none⟩ = some (.int .u8 0) := hZ6.c5
      have u6 : w6.cell? ⟨w3.heap.size + 1, 6, none⟩ = some (.int .u8 0) := hZ6.c6
      have u7 : w6.cell? ⟨w3.heap.size + 1, 7, none⟩ = some (.int .u8 0) := hZ6.c7
      have u8 : w6.cell? ⟨w3.heap.size + 1, 8, none⟩ = some (.int .i64 0) := hZ6.c8
      have u9 : w6.cell? ⟨w3.heap.size + 1, 9, none⟩ = some (.int .i64 0) := hZ6.c9
      have u10 : w6.cell? ⟨w3.heap.size + 1, 10, none⟩ = some (.int .i64 0) := hZ6.c10
      have u11 : w6.cell? ⟨w3.heap.size + 1, 11, none⟩ = some (.int .i64 0) := hZ6.c11
      clear hN6 hZ6 hT6 hno
      go_wp2_with (go_at_call 13; refine (hchk _ T6.out).mono ?_; rintro e w8 ⟨rfl, b8⟩)
      go_ret
      exact ⟨rfl, BW6.out.trans (b8.mono BW6.out.size)⟩
  · have HFT : Hid (fndP l0 [x0, x1, x2, x3, x4, x5, x6, x7] = pl0 ∧ fe = E) := by
      refine ⟨?_, ?_⟩
      · unfold fndP; rw [if_neg (by rw [HE.out]; exact hE0)]
      · rw [← HFE.out]; unfold fndE; rw [if_neg (by rw [HE.out]; exact hE0), HE.out]
    have heq : ∀ W, (Op.equalIn 10000 28 (.agg (pl12 b0 b1 b2 b3 b4 b5 b6 b7 k1 p1 a1 l1)) (.agg #[.int .u8 0, .int .u8 0, .int .u8 0, .int .u8 0, .int .u8 0, .int .u8 0, .int .u8 0, .int .u8 0, .int .i64 0, .int .i64 0, .int .i64 0, .int .i64 0])).run Try.prog W = .ok true W := fun W => by
      have := cmp12 ⟨[b0, b1, b2, b3, b4, b5, b6, b7], rfl, k1, p1, a1, l1⟩ pl0 W
      rw [← HFP.out, HFT.out.1, plSame_self] at this
      rw [← plV_12, ← HFP.out, HFT.out.1]
      exact this
    have hfe0 := HFT.out.2
    subst hfe0
    have he2 : (fe == 0) = false := by simpa using hE0
    have hN6 := HN5'.out
    have hZ6 := HN5.out
    have y0 : w5.cell? ⟨w3.heap.size, 0, none⟩ = some (.int .u8 (b0.toNat : Int)) := hN6.c0
    have y1 : w5.cell? ⟨w3.heap.size, 1, none⟩ = some (.int .u8 (b1.toNat : Int)) := hN6.c1
    have y2 : w5.cell? ⟨w3.heap.size, 2, none⟩ = some (.int .u8 (b2.toNat : Int)) := hN6.c2
    have y3 : w5.cell? ⟨w3.heap.size, 3, none⟩ = some (.int .u8 (b3.toNat : Int)) := hN6.c3
    have y4 : w5.cell? ⟨w3.heap.size, 4, none⟩ = some (.int .u8 (b4.toNat : Int)) := hN6.c4
    have y5 : w5.cell? ⟨w3.heap.size, 5, none⟩ = some (.int .u8 (b5.toNat : Int)) := hN6.c5
    have y6 : w5.cell? ⟨w3.heap.size, 6, none⟩ = some (.int .u8 (b6.toNat : Int)) := hN6.c6
    have y7 : w5.cell? ⟨w3.heap.size, 7, none⟩ = some (.int .u8 (b7.toNat : Int)) := hN6.c7
    have y8 : w5.cell? ⟨w3.heap.size, 8, none⟩ = some (.int .i64 k1) := hN6.c8
    have y9 : w5.cell? ⟨w3.heap.size, 9, none⟩ = some (.int .i64 p1) := hN6.c9
    have y10 : w5.cell? ⟨w3.heap.size, 10, none⟩ = some (.int .i64 a1) := hN6.c10
    have y11 : w5.cell? ⟨w3.heap.size, 11, none⟩ = some (.int .i64 l1) := hN6.c11
    have u0 : w5.cell? ⟨w3.heap.size + 1, 0, none⟩ = some (.int .u8 0) := hZ6.c0
    have u1 : w5.cell? ⟨w3.heap.size + 1, 1, none⟩ = some (.int .u8 0) := hZ6.c1
    have u2 : w5.cell? ⟨w3.heap.size + 1, 2, none⟩ = some (.int .u8 0) := hZ6.c2
    have u3 : w5.cell? ⟨w3.heap.size + 1, 3, none⟩ = some (.int .u8 0) := hZ6.c3
    have u4 : w5.cell? ⟨w3.heap.size + 1, 4, none⟩ = some (.int .u8 0) := hZ6.c4
    have u5 : w5.cell? ⟨w3.heap.size + 1, 5, none⟩ = some (.int .u8 0) := hZ6.c5
    have u6 : w5.cell? ⟨w3.heap.size + 1, 6, none⟩ = some (.int .u8 0) := hZ6.c6
    have u7 : w5.cell? ⟨w3.heap.size + 1, 7, none⟩ = some (.int .u8 0) := hZ6.c7
    have u8 : w5.cell? ⟨w3.heap.size + 1, 8, none⟩ = some (.int .i64 0) := hZ6.c8
    have u9 : w5.cell? ⟨w3.heap.size + 1, 9, none⟩ = some (.int .i64 0) := hZ6.c9
    have u10 : w5.cell? ⟨w3.heap.size + 1, 10, none⟩ = some (.int .i64 0) := hZ6.c10
    have u11 : w5.cell? ⟨w3.heap.size + 1, 11, none⟩ = some (.int .i64 0) := hZ6.c11
    clear hN6 hZ6 hE0 HN5 HN5' HT5
    go_wp2_with (go_at_call 13; refine (hchk _ T5.out).mono ?_; rintro e w8 ⟨rfl, b8⟩)
    go_ret
    exact ⟨rfl, BW5.out.trans (b8.mono BW5.out.size)⟩

theorem indexSays_walk (v0 : Value) (l0 : List Plc) (x1 : List UInt8) (z0 : l0.length ≤ 140737488351232) (_ : PsOk l0) (wx1 : x1.length = 8) (w : World) (t0 : Px w v0 l0) :
    Calls Try.prog 3 #[v0, idV x1] w fun e w' => e = .returned (.bool true) ∧ Below w.heap.size w w' := by
  obtain ⟨x0, x1, x2, x3, x4, x5, x6, x7, rfl⟩ := oct x1 wx1
  exact indexSays_of v0 l0 x0 x1 x2 x3 x4 x5 x6 x7 z0 w t0
end Go.Proofs.Ytllioidjelgafaa
