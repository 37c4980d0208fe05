/-
  The walk of lumkeep.BloomNever: it returns true.
-/
import Derived.Test.YtpagbihebahnnaaBlLoop
import Derived.Test.YtpagbihebahnnaaRelOps
namespace Go.Proofs.Ytpagbihebahnnaa
open Go.RowKit
set_option maxRecDepth 4000

theorem oks2 {a b : List Nat} (ha : Bm.Ok a) (hb : Bm.Ok b) : Bm.Oks [a, b] := fun x hx => by
  simp only [List.mem_cons, List.not_mem_nil, or_false] at hx
  rcases hx with rfl | rfl
  · exact ha
  · exact hb

set_option maxHeartbeats 2000000 in
theorem bloomNever_walk (x0 : List Nat) (v1 : Value) (l1 : List (List UInt8)) (wx0 : Bm.Ok x0) (z1 : l1.length ≤ 140737488351232) (f1 : ∀ x ∈ l1, x.length = 8) (w : World) (t1 : Rx 8 idC w v1 l1) :
    Calls Try.prog 4 #[.agg (blmC x0).toArray, v1] w fun e w' => e = .returned (.bool true) ∧ Below w.heap.size w w' := by
  obtain ⟨a, c, rfl, hlc, hcm⟩ := t1.slice
  have hlen := blmC_length wx0
  have HT : Hid (Rx 8 idC w (.slice a l1.length c) l1) := t1
  have HF : Hid (∀ x ∈ l1, x.length = 8) := f1
  have HO : Hid (Bm.Ok x0) := wx0
  have HB0 : Hid (Bb (w.alloc (.cells (blmC x0).toArray 24)) w.heap.size x0) := Bb.new wx0 w _
  clear t1 f1 wx0
  go_enter Try.func4, Try.ntmps4
  go_upto_region 1 with fail
  clear hlen
  obtain ⟨W1, hW1⟩ : ∃ W1, W1 = w.alloc (.cells (blmC x0).toArray 24) := ⟨_, rfl⟩
  have hs1 : W1.heap.size = w.heap.size + 1 := by rw [hW1]; simp
  have hb1 : Below w.heap.size w W1 := by rw [hW1]; exact (Below.refl _ w).alloc (Nat.le_refl _) _
  rw [← hW1] at HB0 ⊢
  clear hW1
  refine wp_region_lit ?_
  refine wpList_load_mid rfl 24 (.tmp 2) rfl w.heap.size 0 rfl (blmC x0) _ HB0.out.rng Try.underlying24 rfl (info_blmC HO.out) ?_
  refine wpList_plain rfl fun K hK => ?_
  go_simp
  refine hK _ _ ?_
  clear hK K
  obtain ⟨W3, hW3, hB3, hb3⟩ := laid_blm HO.out W1 24
  have hth := (Bb.zero W1 24).thereA HO.out
  dsimp only [Z16] at hW3 hth
  rw [hs1] at hW3 hth hB3
  refine wpList_store_mid rfl 24 (.tmp 5) (.tmp 10) rfl (w.heap.size + 1) 0 (blmC x0).toArray rfl rfl hth (info_blmA HO.out) (blmC_all _) ?_
  rw [show (blmC x0).toArray.toList = blmC x0 from rfl, hW3]
  have HN : Hid (NS w W3 x0 x0) := ⟨HB0.out.past hb3, hB3, hb1.trans (hb3.mono (by omega))⟩
  clear hW3 hth hb3 hB3 hb1 HB0 hs1
  go_wp2_with fail
  go_loopw [13] (fun i wr => ∃ j : Nat, j ≤ l1.length ∧ i = .int .i64 j ∧ Hid (NS w wr x0 (Bm.adds x0 (l1.take j)))) (fun i _ => l1.length - (intOf i).toNat)
  case atStart => exact ⟨0, by omega, rfl, HN⟩
  case round =>
    obtain ⟨i, hi, rfl, HA⟩ := hrel
    by_cases hlt : i < l1.length
    · obtain ⟨x, HX⟩ : ∃ x, Hid (l1[i]? = some x) := ⟨_, List.getElem?_eq_getElem hlt⟩
      have Hx8 : Hid (x.length = 8) := HF.out x (List.mem_of_getElem? HX.out)
      have hdi : decide ((i : Int) < (l1.length : Int)) = true := by rw [decide_eq_true_eq]; omega
      have hii : (i : Int) < (l1.length : Int) := by omega
      have HD : Hid (Bm.adds x0 (l1.take (i + 1)) = Bm.puts (Bm.adds x0 (l1.take i)) (Bm.marks x)) := Bm.adds_next x0 l1 i x HX.out
      generalize Bm.adds x0 (l1.take i) = d at *
      obtain ⟨bk, o, rfl, hbk, hcell⟩ := HT.out.get i x HX.out
      have hrng : wr.rangeAt bk (o + i * 8) (idC x) := fun r u hu => (HA.out.bel.cell (p := ⟨bk, o + i * 8 + r, none⟩) hbk).trans (hcell r u hu)
      clear hcell
      go_upto_region 4 with fail
      refine wp_region_lit ?_
      refine wpList_plain rfl fun K hK => ?_
      go_simp
      refine hK _ _ ?_
      clear hK K
      refine wpList_load_mid rfl 26 (.tmp 15) rfl bk (o + i * 8) rfl (idC x) _ hrng Try.underlying26 rfl (info_id8 Hx8.out) ?_
      refine wpList_plain rfl fun K hK => ?_
      go_simp
      refine hK _ _ ?_
      clear hK K hrng
      obtain ⟨W4, hW4, hI4, hb4, hlt4⟩ := laid_id Hx8.out wr 26
      have hth := z8_there wr 26 Hx8.out
      dsimp only [Z8u] at hW4 hth
      refine wpList_store_mid rfl 26 (.tmp 7) (.tmp 16) rfl wr.heap.size 0 (idC x).toArray rfl rfl hth (info_idA Hx8.out) (idC_all _) ?_
      rw [show (idC x).toArray.toList = idC x from rfl, hW4]
      have HA4 : Hid (NS w W4 x0 d) := HA.out.past hb4
      clear hW4 hth hb4 HA
      go_upto_region 5 with fail
      refine wp_region_lit ?_
      refine wpList_load_mid rfl 24 (.tmp 5) rfl (w.heap.size + 1) 0 rfl (blmC d) _ HA4.out.b1.rng Try.underlying24 rfl (info_blmC HA4.out.b1.ok) ?_
      refine wpList_load_mid rfl 26 (.tmp 7) rfl wr.heap.size 0 rfl (idC x) _ hI4 Try.underlying26 rfl (info_id8 Hx8.out) ?_
      refine wpList_plain rfl fun K hK => ?_
      go_simp
      refine (add_any d x _ HA4.out.b1.ok Hx8.out).mono ?_
      rintro e w5 ⟨rfl, hb5⟩
      refine hK _ _ ?_
      clear hK K
      have HA5 : Hid (NS w w5 x0 d) := HA4.out.past hb5
      have HP : Hid (Bm.Ok (Bm.puts d (Bm.marks x))) := Bm.puts_ok HA4.out.b1.ok
      clear hI4 hlt4 hb5 HA4
      refine wpList_store_mid rfl 24 (.tmp 5) (.tmp 19) rfl (w.heap.size + 1) 0 (blmC (Bm.puts d (Bm.marks x))).toArray rfl rfl (HA5.out.b1.thereA HP.out) (info_blmA HP.out) (blmC_all _) ?_
      rw [show (blmC (Bm.puts d (Bm.marks x))).toArray.toList = blmC (Bm.puts d (Bm.marks x)) from rfl]
      have HA6 : Hid (NS w (w5.setCells (w.heap.size + 1) 0 (blmC (Bm.puts d (Bm.marks x)))) x0 (Bm.puts d (Bm.marks x))) := HA5.out.store HP.out
      generalize w5.setCells (w.heap.size + 1) 0 (blmC (Bm.puts d (Bm.marks x))) = w6 at *
      clear HA5
      go_wp2_with fail
      go_roundw
      case rel => exact ⟨i + 1, by omega, by go_num, by rw [HD.out]; exact HA6⟩
      case measure => simp only [intOf]; omega
    · obtain rfl : i = l1.length := by omega
      rw [List.take_length] at HA
      have HJ : Hid (Bm.joins [x0, Bm.adds x0 l1] = Bm.adds x0 l1) := Bm.adds_join HO.out l1
      have HH : Hid (∀ x ∈ l1, Bm.has (Bm.adds x0 l1) (Bm.marks x) = true) := fun x hx => Bm.adds_has HO.out l1 x hx
      generalize Bm.adds x0 l1 = d at *
      go_wp2_with fail
      go_loopw [23] (fun i wr => ∃ j : Nat, j ≤ l1.length ∧ i = .int .i64 j ∧ Hid (NS w wr x0 d)) (fun i _ => l1.length - (intOf i).toNat)
      case atStart => exact ⟨0, by omega, rfl, HA⟩
      case round =>
        obtain ⟨i, hi, rfl, HA⟩ := hrel
        by_cases hlt : i < l1.length
        · obtain ⟨x, HX⟩ : ∃ x, Hid (l1[i]? = some x) := ⟨_, List.getElem?_eq_getElem hlt⟩
          have Hx8 : Hid (x.length = 8) := HF.out x (List.mem_of_getElem? HX.out)
          have hdi : decide ((i : Int) < (l1.length : Int)) = true := by rw [decide_eq_true_eq]; omega
          have hii : (i : Int) < (l1.length : Int) := by omega
          have HE : Hid (Bm.has d (Bm.marks x) = true) := HH.out x (List.mem_of_getElem? HX.out)
          obtain ⟨bk, o, rfl, hbk, hcell⟩ := HT.out.get i x HX.out
          have hrng : wr.rangeAt bk (o + i * 8) (idC x) := fun r u hu => (HA.out.bel.cell (p := ⟨bk, o + i * 8 + r, none⟩) hbk).trans (hcell r u hu)
          clear hcell
          go_upto_region 9 with fail
          refine wp_region_lit ?_
          refine wpList_plain rfl fun K hK => ?_
          go_simp
          refine hK _ _ ?_
          clear hK K
          refine wpList_load_mid rfl 26 (.tmp 25) rfl bk (o + i * 8) rfl (idC x) _ hrng Try.underlying26 rfl (info_id8 Hx8.out) ?_
          refine wpList_plain rfl fun K hK => ?_
          go_simp
          refine hK _ _ ?_
          clear hK K hrng
          obtain ⟨W4, hW4, hI4, hb4, hlt4⟩ := laid_id Hx8.out wr 26
          have hth := z8_there wr 26 Hx8.out
          dsimp only [Z8u] at hW4 hth
          refine wpList_store_mid rfl 26 (.tmp 9) (.tmp 26) rfl wr.heap.size 0 (idC x).toArray rfl rfl hth (info_idA Hx8.out) (idC_all _) ?_
          rw [show (idC x).toArray.toList = idC x from rfl, hW4]
          have HA4 : Hid (NS w W4 x0 d) := HA.out.past hb4
          clear hW4 hth hb4 HA
          go_upto_region 10 with fail
          refine wp_region_lit ?_
          refine wpList_load_mid rfl 24 (.tmp 5) rfl (w.heap.size + 1) 0 rfl (blmC d) _ HA4.out.b1.rng Try.underlying24 rfl (info_blmC HA4.out.b1.ok) ?_
          refine wpList_load_mid rfl 26 (.tmp 9) rfl wr.heap.size 0 rfl (idC x) _ hI4 Try.underlying26 rfl (info_id8 Hx8.out) ?_
          refine wpList_plain rfl fun K hK => ?_
          go_simp
          have hhas := fun W => has_any d x W HA4.out.b1.ok Hx8.out
          rw [HE.out] at hhas
          refine (hhas _).mono ?_
          rintro e w5 ⟨rfl, hb5⟩
          refine hK _ _ ?_
          clear hK K hhas
          have HA5 : Hid (NS w w5 x0 d) := HA4.out.past hb5
          clear hI4 hlt4 hb5 HA4
          go_wp2_with fail
          go_roundw
          case rel => exact ⟨i + 1, by omega, by go_num, HA5⟩
          case measure => simp only [intOf]; omega
        · obtain rfl : i = l1.length := by omega
          have Hf : Hid (Bm.has Bm.none_ (Bm.marks [5, 0, 0, 0, 0, 0, 0, 0]) = false) := by show _ = _; simp [Bm.has, Bm.marks, Bm.none_bit]
          have HG : Hid (∀ W, Gw wr W → NS w W x0 d) := fun W h => HA.out.past h
          clear HA
          go_upto_region 13 with fail
          have HD2 : Hid (Bm.Ok d) := (HG.out wr (Gw.refl wr)).b1.ok
          have hhas := fun W => has_any Bm.none_ [5, 0, 0, 0, 0, 0, 0, 0] W Bm.none_ok rfl
          rw [Hf.out] at hhas
          have heq := fun W => blm_eq W HD2.out HD2.out
          rw [beq_self_eq_true] at heq
          have HD2 : Hid (Bm.Ok d) := (HG.out wr (Gw.refl wr)).b1.ok
          have hhas := fun W => has_any Bm.none_ [5, 0, 0, 0, 0, 0, 0, 0] W Bm.none_ok rfl
          rw [Hf.out] at hhas
          have heq := fun W => blm_eq W HD2.out HD2.out
          rw [beq_self_eq_true] at heq
          refine wp_region_rel (G := Gw) (W0 := wr) Gw.refl Gw.trans (by kernel_rfl) (by kernel_rfl) (by kernel_rfl) (Below.refl _ wr).drew ?_
          refine .inl ⟨.agg (blmC Bm.none_).toArray, fun v W hW _ => step_run rfl _ W (by go_simp; rfl) rfl (Gw.refl _), ?_⟩
          simp only [Act.put, List.setIfInBounds_toArray, List.set_cons_zero, List.set_cons_succ]
          refine .inl ⟨.agg (idC [5, 0, 0, 0, 0, 0, 0, 0]).toArray, fun v W hW _ => step_run rfl _ W (by go_simp; rfl) rfl (Gw.refl _), ?_⟩
          simp only [Act.put, List.setIfInBounds_toArray, List.set_cons_zero, List.set_cons_succ]
          refine .inl ⟨.bool false, fun v W hW _ => step_call rfl 11 #[.agg (blmC Bm.none_).toArray, .agg (idC [5, 0, 0, 0, 0, 0, 0, 0]).toArray] (by go_simp) ((hhas W).mono fun e w' h => ⟨_, h.1, rfl, h.2⟩), ?_⟩
          simp only [Act.put, List.setIfInBounds_toArray, List.set_cons_zero, List.set_cons_succ]
          refine .inl ⟨.bool true, fun v W hW _ => step_run rfl _ W (by go_simp) rfl (Gw.refl _), ?_⟩
          simp only [Act.put, List.setIfInBounds_toArray, List.set_cons_zero, List.set_cons_succ]
          refine .inl ⟨.bool true, fun v W hW _ => step_run rfl _ W (exec_move (.tmp 35) (.inl rfl) rfl) rfl (Gw.refl _), ?_⟩
          simp only [Act.put, List.setIfInBounds_toArray, List.set_cons_zero, List.set_cons_succ]
          refine .inl ⟨.agg (blmC x0).toArray, fun v W hW _ => step_run rfl _ W (exec_load 24 (.tmp 2) rfl (w.heap.size) (0) rfl (blmC x0) _ ((HG.out W hW).b0.rng) Try.underlying24 rfl (info_blmC (HG.out W hW).b0.ok)) rfl (Gw.refl _), ?_⟩
          simp only [Act.put, List.setIfInBounds_toArray, List.set_cons_zero, List.set_cons_succ]
          refine .inl ⟨.agg (blmC d).toArray, fun v W hW _ => step_run rfl _ W (exec_load 24 (.tmp 5) rfl (w.heap.size + 1) (0) rfl (blmC d) _ ((HG.out W hW).b1.rng) Try.underlying24 rfl (info_blmC (HG.out W hW).b1.ok)) rfl (Gw.refl _), ?_⟩
          simp only [Act.put, List.setIfInBounds_toArray, List.set_cons_zero, List.set_cons_succ]
          refine .inr ⟨fun u W => Rx 16 blmC W u ([x0, d]), rx_mono, fun v W hW _ => step_run rfl _ _ (exec_blms 42 2 _ rfl ([x0, d]) rfl rfl rfl (oks2 HO.out HD2.out) (by simp) (by simp)) (rx_new W _ (oks2 HO.out HD2.out) (by simp)) ((Below.refl _ W).alloc (Nat.le_refl _) _), ?_⟩
          simp only [Act.put, List.setIfInBounds_toArray, List.set_cons_zero, List.set_cons_succ]
          refine .inl ⟨.agg (blmC d).toArray, fun v W hW hd => ?_, ?_⟩
          · have h7 : Rx 16 blmC W (v 7) ([x0, d]) := hd 7 (by kernel_rfl)
            clear hd
            exact step_call rfl 8 #[v 7] (by go_simp) ((join_any (v 7) ([x0, d]) W h7 (oks2 HO.out HD2.out)).mono fun e w' h => ⟨_, h.1, by rw [HJ.out], h.2⟩)
          simp only [Act.put, List.setIfInBounds_toArray, List.set_cons_zero, List.set_cons_succ]
          refine .inl ⟨.agg (blmC d).toArray, fun v W hW _ => step_run rfl _ W (exec_load 24 (.tmp 5) rfl (w.heap.size + 1) (0) rfl (blmC d) _ ((HG.out W hW).b1.rng) Try.underlying24 rfl (info_blmC (HG.out W hW).b1.ok)) rfl (Gw.refl _), ?_⟩
          simp only [Act.put, List.setIfInBounds_toArray, List.set_cons_zero, List.set_cons_succ]
          refine .inl ⟨.bool true, fun v W hW _ => step_run rfl _ W (by have he := heq W; go_simp) rfl (Gw.refl _), ?_⟩
          simp only [Act.put, List.setIfInBounds_toArray, List.set_cons_zero, List.set_cons_succ]
          refine .inl ⟨.bool true, fun v W hW _ => step_run rfl _ W (exec_pick (.tmp 36) (.tmp 42) (.const (.bool false)) rfl rfl rfl) rfl (Gw.refl _), ?_⟩
          simp only [Act.put, List.setIfInBounds_toArray, List.set_cons_zero, List.set_cons_succ]
          refine .inl ⟨.bool true, fun v W hW _ => step_run rfl _ W (exec_move (.tmp 43) (.inr rfl) rfl) rfl (Gw.refl _), ?_⟩
          simp only [Act.put, List.setIfInBounds_toArray, List.set_cons_zero, List.set_cons_succ]
          intro v W hW _
          have HZ : Hid (Below w.heap.size w W) := (HG.out W hW).bel
          clear hhas heq HG
          go_wp2_with fail
          go_ret
          exact ⟨rfl, HZ.out⟩
end Go.Proofs.Ytpagbihebahnnaa
