/-
  What Find of package index answers.
-/
import Derived.Test.YtllioidjelgafaaPlFind
import Derived.Test.YtllioidjelgafaaPlRw
import Derived.Deep.MidRow
namespace Go.Proofs.Ytllioidjelgafaa
open Go.RowKit
set_option maxRecDepth 4000

theorem info_pl12 : (Try.prog.info? 28).map (·.size) = some 12 := by kernel_rfl
theorem plC_all (t : Plc) : (plC t).toArray.all (·.oneCell') = true := by rw [Array.all_eq_true']; intro v hv; exact plC_one t v (by simpa using hv)
theorem sz12 (t : Plc) : (plC t).toArray.size = 12 := by rw [List.size_toArray, plC_length]
theorem below_cells {A G : Nat} (h : A ≤ G) {w : World} (o : Nat) (vs : List Value) {W : World} (hb : Below A w W) (hA : A ≤ w.heap.size) : Below A w (W.setCells G o vs) :=
  Kept.below (Kept.setCells (p := fun b => b < A) (Kept.of_below_at hb fun _ hk => hk) (g := G) (by show ¬ G < A; omega) o vs) hA fun _ hk => hk
theorem res_place {W : World} {G : Nat} (h : W.there G 0 12) (t : Plc) : (loadVar 28 ⟨G, 0, none⟩).run Try.prog (W.setCells G 0 (plC t)) = .ok (plV t) (W.setCells G 0 (plC t)) :=
  run_loadVar_mid _ G 0 28 (plC t) _ (World.rangeAt_setCells_same W G 0 _ (by rw [plC_length]; exact h)) Try.underlying28 rfl (by rw [info_pl12, plC_length])
theorem there_new (W : World) (t : TypeId) (cs : Array Value) (h : cs.size = 12) : (W.alloc (.cells cs t)).there W.heap.size 0 12 := fun j hj => by
  rw [Nat.zero_add, cell_of_row _ W.heap.size j _ _ _ (heap_alloc_new W _)]
  refine ⟨by simp [h, hj], frozen_of_row _ W.heap.size j cs t (heap_alloc_new W _)⟩
theorem there_below {W W' : World} {B G n : Nat} (h : W.there G 0 n) (hb : Below B W W') (hg : G < B) : W'.there G 0 n := fun j hj => by
  have e := hb.block G hg
  have e1 : W'.cell? ⟨G, 0 + j, none⟩ = W.cell? ⟨G, 0 + j, none⟩ := by simp only [World.cell?, e]
  have e2 : W'.frozen? ⟨G, 0 + j, none⟩ = W.frozen? ⟨G, 0 + j, none⟩ := by simp only [World.frozen?, e]
  rw [e1, e2]
  exact h j hj

set_option maxHeartbeats 4000000 in
theorem find_of (v : Value) (l : List Plc) (x0 x1 x2 x3 x4 x5 x6 x7 : UInt8) (w : World) (h : Px w v l) (hl : l.length ≤ 140737488351232) :
    Calls Try.prog 10 #[v, .agg #[.int .u8 (x0.toNat : Int), .int .u8 (x1.toNat : Int), .int .u8 (x2.toNat : Int), .int .u8 (x3.toNat : Int), .int .u8 (x4.toNat : Int), .int .u8 (x5.toNat : Int), .int .u8 (x6.toNat : Int), .int .u8 (x7.toNat : Int)]] w fun e w' => e = .returned (.tuple #[plV (fndP l [x0, x1, x2, x3, x4, x5, x6, x7]), .int .i64 (fndE l [x0, x1, x2, x3, x4, x5, x6, x7])]) ∧ Below w.heap.size w w' := by
  obtain ⟨a, c, rfl, hc1, hc2⟩ := h.slice
  obtain ⟨W1, hW1⟩ : ∃ W1, W1 = w.alloc (.cells #[.int .u8 (x0.toNat : Int), .int .u8 (x1.toNat : Int), .int .u8 (x2.toNat : Int), .int .u8 (x3.toNat : Int), .int .u8 (x4.toNat : Int), .int .u8 (x5.toNat : Int), .int .u8 (x6.toNat : Int), .int .u8 (x7.toNat : Int)] 24) := ⟨_, rfl⟩
  obtain ⟨W2, hW2⟩ : ∃ W2, W2 = W1.alloc (.cells (pl12 0 0 0 0 0 0 0 0 0 0 0 0) 28) := ⟨_, rfl⟩
  have s1 : W1.heap.size = w.heap.size + 1 := by rw [hW1]; show (w.heap.push _).size = _; simp
  have s2 : W2.heap.size = w.heap.size + 2 := by rw [hW2]; show (W1.heap.push _).size = _; rw [Array.size_push, s1]
  have hb1 : Below w.heap.size w W1 := by rw [hW1]; exact (Below.refl _ w).alloc (Nat.le_refl _) _
  have HB2 : Hid (Below w.heap.size w W2) := by rw [hW2]; exact hb1.alloc (by rw [s1]; omega) _
  have HP2 : Hid (Px W2 (.slice a l.length c) l) := h.below HB2.out
  have HTH : Hid (W2.there (w.heap.size + 1) 0 12) := by rw [hW2, ← s1]; exact there_new W1 _ _ rfl
  have HXX : Hid (∀ j u, (#[.int .u8 (x0.toNat : Int), .int .u8 (x1.toNat : Int), .int .u8 (x2.toNat : Int), .int .u8 (x3.toNat : Int), .int .u8 (x4.toNat : Int), .int .u8 (x5.toNat : Int), .int .u8 (x6.toNat : Int), .int .u8 (x7.toNat : Int)] : Array Value)[j]? = some u → W2.cell? ⟨w.heap.size, j, none⟩ = some u) := fun j u hu => by
    have hb : Below W1.heap.size W1 W2 := by rw [hW2]; exact (Below.refl _ W1).alloc (Nat.le_refl _) _
    rw [hb.cell (by rw [s1]; show w.heap.size < _; omega), hW1, cell_of_row _ w.heap.size j _ _ _ (heap_alloc_new w _)]
    exact hu
  have HS2 : Hid (W2.heap.size = w.heap.size + 2) := s2
  clear h s1 s2 hb1
  by_cases ec : Ix.check (ps l) = 0
  · have hck := check_any _ l W2 HP2.out hl
    rw [ec] at hck
    have LA : l.length ≤ 400 := by have := (Ix.check_ok.1 ec).1; rwa [List.length_map] at this
    have HU : Hid (Ix.Up (ps l)) := (Ix.check_ok.1 ec).2.2
    have HE : Hid (fndE l [x0, x1, x2, x3, x4, x5, x6, x7] = if (l.find? fun p => p.id == [x0, x1, x2, x3, x4, x5, x6, x7]).isSome then 0 else 9) := if_pos ec
    have HF : Hid (fndP l [x0, x1, x2, x3, x4, x5, x6, x7] = (l.find? fun p => p.id == [x0, x1, x2, x3, x4, x5, x6, x7]).getD pl0) := if_pos ec
    have hbs := fun W hW => bsearch_any (.slice a l.length c) l x0 x1 x2 x3 x4 x5 x6 x7 W hW HU.out LA
    clear ec
    go_enter Try.func10, Try.ntmps10
    go_upto_region 1 with fail
    rw [← hW1]
    have e2 : W1.alloc (.cells #[.int .u8 0, .int .u8 0, .int .u8 0, .int .u8 0, .int .u8 0, .int .u8 0, .int .u8 0, .int .u8 0, .int .i64 0, .int .i64 0, .int .i64 0, .int .i64 0] 28) = W2 := hW2.symm
    rw [e2]
    clear hW1 hW2 e2
    go_upto_region 4 with (go_at_call 13; refine hck.mono ?_; rintro e w3 ⟨rfl, b3⟩)
    have HP3 : Hid (Px w3 (.slice a l.length c) l) := HP2.out.below b3
    have HB3 : Hid (Below w.heap.size w w3) := HB2.out.trans (b3.mono HB2.out.size)
    have HT3 : Hid (w3.there (w.heap.size + 1) 0 12) := there_below HTH.out b3 (by rw [HS2.out]; omega)
    have hxx := fun r u (hu : (#[.int .u8 (x0.toNat : Int), .int .u8 (x1.toNat : Int), .int .u8 (x2.toNat : Int), .int .u8 (x3.toNat : Int), .int .u8 (x4.toNat : Int), .int .u8 (x5.toNat : Int), .int .u8 (x6.toNat : Int), .int .u8 (x7.toNat : Int)] : Array Value)[r]? = some u) => (b3.cell (p := ⟨w.heap.size, r, none⟩) (by rw [HS2.out]; show w.heap.size < _; omega)).trans (HXX.out r u hu)
    have hz3 : w.heap.size + 2 ≤ w3.heap.size := by rw [← HS2.out]; exact b3.size
    have xx0 : w3.cell? ⟨w.heap.size, 0, none⟩ = some (.int .u8 (x0.toNat : Int)) := hxx 0 _ rfl
    have xx1 : w3.cell? ⟨w.heap.size, 1, none⟩ = some (.int .u8 (x1.toNat : Int)) := hxx 1 _ rfl
    have xx2 : w3.cell? ⟨w.heap.size, 2, none⟩ = some (.int .u8 (x2.toNat : Int)) := hxx 2 _ rfl
    have xx3 : w3.cell? ⟨w.heap.size, 3, none⟩ = some (.int .u8 (x3.toNat : Int)) := hxx 3 _ rfl
    have xx4 : w3.cell? ⟨w.heap.size, 4, none⟩ = some (.int .u8 (x4.toNat : Int)) := hxx 4 _ rfl
    have xx5 : w3.cell? ⟨w.heap.size, 5, none⟩ = some (.int .u8 (x5.toNat : Int)) := hxx 5 _ rfl
    have xx6 : w3.cell? ⟨w.heap.size, 6, none⟩ = some (.int .u8 (x6.toNat : Int)) := hxx 6 _ rfl
    have xx7 : w3.cell? ⟨w.heap.size, 7, none⟩ = some (.int .u8 (x7.toNat : Int)) := hxx 7 _ rfl
    clear hxx b3 hck HTH HP2 HB2
    go_upto_region 5 with (go_at_call 29; refine (hbs _ HP3.out).mono ?_; rintro e w4 ⟨i, b, rfl, hbo, b4⟩)
    have HP4 : Hid (Px w4 (.slice a l.length c) l) := HP3.out.below b4
    have HB4 : Hid (Below w.heap.size w w4) := HB3.out.trans (b4.mono HB3.out.size)
    have hth : w4.there (w.heap.size + 1) 0 12 := there_below HT3.out b4 (by omega)
    clear b4 hbs HP3 HB3 HT3 xx0 xx1 xx2 xx3 xx4 xx5 xx6 xx7
    cases b with
    | false =>
      have HN : Hid (l.find? (fun p => p.id == [x0, x1, x2, x3, x4, x5, x6, x7]) = none) := hbo.no HU.out
      have HB5 : Hid (Below w.heap.size w (w4.setCells (w.heap.size + 1) 0 (plC pl0))) := below_cells (by omega) _ _ HB4.out (Nat.le_refl _)
      have hres := res_place hth pl0
      clear hbo
      go_upto_region 6 with fail
      refine wp_region_lit ?_
      refine wpList_plain rfl fun C hC => ?_
      go_simp
      refine hC _ _ ?_
      clear hC C
      refine wpList_store_mid rfl 28 (.tmp 4) (.tmp 23) rfl (w.heap.size + 1) 0 (plC pl0).toArray rfl rfl (by rw [sz12]; exact hth) (by rw [info_pl12, sz12]) (plC_all pl0) ?_
      rw [show (plC pl0).toArray.toList = plC pl0 from rfl]
      generalize w4.setCells (w.heap.size + 1) 0 (plC pl0) = w5 at *
      go_wp2_with fail
      refine bodyPost_ret (v := .tuple #[plV pl0, .int .i64 9]) ?_ rfl ⟨?_, HB5.out⟩
      · simp [results, asAddr, hres]
      · rw [HE.out, HF.out, HN.out]; rfl
    | true =>
      obtain ⟨t, ht, hft⟩ := hbo.yes HU.out
      have hil : i < l.length := (List.getElem?_eq_some_iff.1 ht).1
      have HFT : Hid (l.find? (fun p => p.id == [x0, x1, x2, x3, x4, x5, x6, x7]) = some t) := hft
      obtain ⟨bk, o, hao, hbk, hat⟩ := HP4.out.get i t ht
      subst hao
      have hrng : w4.rangeAt bk (o + i * 12) (plC t) := fun r u hu => hat r u hu
      have HB5 : Hid (Below w.heap.size w (w4.setCells (w.heap.size + 1) 0 (plC t))) := below_cells (by omega) _ _ HB4.out (Nat.le_refl _)
      have hres := res_place hth t
      clear hbo ht hft hat
      go_upto_region 7 with fail
      refine wp_region_lit ?_
      refine wpList_plain rfl fun C hC => ?_
      go_simp
      refine hC _ _ ?_
      clear hC C
      refine wpList_plain rfl fun C hC => ?_
      go_simp
      refine hC _ _ ?_
      clear hC C
      refine wpList_plain rfl fun C hC => ?_
      go_simp
      refine hC _ _ ?_
      clear hC C
      refine wpList_load_mid rfl 28 (.tmp 26) rfl bk (o + i * 12) rfl (plC t) _ hrng Try.underlying28 rfl (by rw [info_pl12, plC_length]) ?_
      refine wpList_store_mid rfl 28 (.tmp 4) (.tmp 27) rfl (w.heap.size + 1) 0 (plC t).toArray rfl rfl (by rw [sz12]; exact hth) (by rw [info_pl12, sz12]) (plC_all t) ?_
      rw [show (plC t).toArray.toList = plC t from rfl]
      generalize w4.setCells (w.heap.size + 1) 0 (plC t) = w5 at *
      go_wp2_with fail
      refine bodyPost_ret (v := .tuple #[plV t, .int .i64 0]) ?_ rfl ⟨?_, HB5.out⟩
      · simp [results, asAddr, hres]
      · rw [HE.out, HF.out, HFT.out]; rfl
  · have HE : Hid (fndE l [x0, x1, x2, x3, x4, x5, x6, x7] = Ix.check (ps l)) := if_neg ec
    have HF : Hid (fndP l [x0, x1, x2, x3, x4, x5, x6, x7] = pl0) := if_neg ec
    have hck := check_any _ l W2 HP2.out hl
    obtain ⟨er, her⟩ : ∃ er, Ix.check (ps l) = er := ⟨_, rfl⟩
    rw [her] at hck ec HE
    have he2 : (er == 0) = false := by simpa using ec
    clear ec her
    go_enter Try.func10, Try.ntmps10
    go_upto_region 1 with fail
    rw [← hW1]
    have e2 : W1.alloc (.cells #[.int .u8 0, .int .u8 0, .int .u8 0, .int .u8 0, .int .u8 0, .int .u8 0, .int .u8 0, .int .u8 0, .int .i64 0, .int .i64 0, .int .i64 0, .int .i64 0] 28) = W2 := hW2.symm
    rw [e2]
    clear hW1 hW2 e2
    go_upto_region 3 with (go_at_call 13; refine hck.mono ?_; rintro e w3 ⟨rfl, b3⟩)
    have HB3 : Hid (Below w.heap.size w w3) := HB2.out.trans (b3.mono HB2.out.size)
    have hth : w3.there (w.heap.size + 1) 0 12 := there_below HTH.out b3 (by rw [HS2.out]; omega)
    have HB5 : Hid (Below w.heap.size w (w3.setCells (w.heap.size + 1) 0 (plC pl0))) := below_cells (by omega) _ _ HB3.out (Nat.le_refl _)
    have hres := res_place hth pl0
    refine wp_region_lit ?_
    refine wpList_plain rfl fun C hC => ?_
    go_simp
    refine hC _ _ ?_
    clear hC C
    refine wpList_plain rfl fun C hC => ?_
    go_simp
    refine hC _ _ ?_
    clear hC C
    refine wpList_store_mid rfl 28 (.tmp 4) (.tmp 13) rfl (w.heap.size + 1) 0 (plC pl0).toArray rfl rfl (by rw [sz12]; exact hth) (by rw [info_pl12, sz12]) (plC_all pl0) ?_
    rw [show (plC pl0).toArray.toList = plC pl0 from rfl]
    generalize w3.setCells (w.heap.size + 1) 0 (plC pl0) = w5 at *
    go_wp2_with fail
    refine bodyPost_ret (v := .tuple #[plV pl0, .int .i64 er]) ?_ rfl ⟨?_, HB5.out⟩
    · simp [results, asAddr, hres]
    · rw [HE.out, HF.out]

theorem find_any (v : Value) (l : List Plc) (x : List UInt8) (hx : x.length = 8) (w : World) (h : Px w v l) (hl : l.length ≤ 140737488351232) :
    Calls Try.prog 10 #[v, idV x] w fun e w' => e = .returned (.tuple #[plV (fndP l x), .int .i64 (fndE l x)]) ∧ Below w.heap.size w w' := by
  obtain ⟨x0, x1, x2, x3, x4, x5, x6, x7, rfl⟩ := oct x hx
  exact find_of v l x0 x1 x2 x3 x4 x5 x6 x7 w h hl
end Go.Proofs.Ytllioidjelgafaa
