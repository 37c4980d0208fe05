/-
  The walk of lumkeep.BloomFew: it returns true.
-/
import Derived.Test.YtpagbihebahnnaaBlLoop
import Derived.Test.YtpagbihebahnnaaRelOps
namespace Go.Proofs.Ytpagbihebahnnaa
open Go.RowKit
set_option maxRecDepth 4000

theorem four_bits : Bm.count (Bm.puts Bm.none_ (Bm.marks [0, 0, 0, 7, 0, 0, 0, 1])) = 4 := by decide +kernel
theorem puts_one {b : List Nat} (h : Bm.Ok b) (x : List UInt8) : 1 ≤ Bm.count (Bm.puts b (Bm.marks x)) := by
  have h1 := Bm.has_iff.1 (Bm.puts_has h (Bm.marks_lt x))
  have hm : (Bm.marks x).getD 0 0 ∈ Bm.marks x := by simp [Bm.marks]
  exact Bm.count_some (Bm.marks_lt x _ hm) (h1 _ hm)

set_option maxHeartbeats 2000000 in
theorem bloomFew_walk (v0 : Value) (l0 : List (List UInt8)) (z0 : l0.length ≤ 140737488351232) (f0 : ∀ x ∈ l0, x.length = 8) (w : World) (t0 : Rx 8 idC w v0 l0) :
    Calls Try.prog 6 #[v0] w fun e w' => e = .returned (.bool true) ∧ Below w.heap.size w w' := by
  obtain ⟨a, c, rfl, hlc, hcm⟩ := t0.slice
  have HT : Hid (Rx 8 idC w (.slice a l0.length c) l0) := t0
  have HF : Hid (∀ x ∈ l0, x.length = 8) := f0
  obtain ⟨W1, hW1⟩ : ∃ W1, W1 = w.alloc (.cells Z16 24) := ⟨_, rfl⟩
  have HN : Hid (Bb W1 w.heap.size (Bm.adds Bm.none_ (l0.take 0)) ∧ Below w.heap.size w W1) := by
    show Bb W1 w.heap.size Bm.none_ ∧ _
    rw [hW1]
    exact ⟨Bb.zero w _, (Below.refl _ w).alloc (Nat.le_refl _) _⟩
  clear t0 f0
  dsimp only [Z16] at hW1
  go_enter Try.func6, Try.ntmps6
  go_upto_region 2 with fail
  rw [← hW1]
  clear hW1
  go_wp2_with fail
  go_loopw [9] (fun i wr => ∃ j : Nat, j ≤ l0.length ∧ i = .int .i64 j ∧ Hid (Bb wr w.heap.size (Bm.adds Bm.none_ (l0.take j)) ∧ Below w.heap.size w wr)) (fun i _ => l0.length - (intOf i).toNat)
  case atStart => exact ⟨0, by omega, rfl, HN⟩
  case round =>
    obtain ⟨i, hi, rfl, HA⟩ := hrel
    by_cases hlt : i < l0.length
    · obtain ⟨x, HX⟩ : ∃ x, Hid (l0[i]? = some x) := ⟨_, List.getElem?_eq_getElem hlt⟩
      have Hx8 : Hid (x.length = 8) := HF.out x (List.mem_of_getElem? HX.out)
      have hdi : decide ((i : Int) < (l0.length : Int)) = true := by rw [decide_eq_true_eq]; omega
      have hii : (i : Int) < (l0.length : Int) := by omega
      have HD : Hid (Bm.adds Bm.none_ (l0.take (i + 1)) = Bm.puts (Bm.adds Bm.none_ (l0.take i)) (Bm.marks x)) := Bm.adds_next Bm.none_ l0 i x HX.out
      have HC : Hid (Bm.count (Bm.adds Bm.none_ (l0.take (i + 1))) ≤ 4 * (i + 1)) := by
        have := Bm.count_adds Bm.none_ok (l0.take (i + 1))
        rw [Bm.count_none, List.length_take] at this
        show _ ≤ _
        omega
      have HC1 : Hid (1 ≤ Bm.count (Bm.adds Bm.none_ (l0.take (i + 1)))) := by
        show _ ≤ _
        rw [HD.out]
        exact puts_one HA.out.1.ok x
      have HP : Hid (Bm.puts (Bm.adds Bm.none_ (l0.take (i + 1))) (Bm.marks x) = Bm.adds Bm.none_ (l0.take (i + 1))) := by
        show _ = _
        rw [HD.out]
        exact Bm.puts_again HA.out.1.ok (Bm.marks_lt x)
      have HOd : Hid (Bm.Ok (Bm.adds Bm.none_ (l0.take (i + 1)))) := Bm.adds_ok Bm.none_ok _
      have hadd0 := fun W => add_any (Bm.adds Bm.none_ (l0.take i)) x W HA.out.1.ok Hx8.out
      rw [← HD.out] at hadd0
      generalize Bm.adds Bm.none_ (l0.take i) = d0 at *
      clear HD
      obtain ⟨d, hde⟩ : ∃ d, d = Bm.adds Bm.none_ (l0.take (i + 1)) := ⟨_, rfl⟩
      have HE : Hid (Bm.adds Bm.none_ (l0.take (i + 1)) = d) := hde.symm
      rw [← hde] at HC HC1 HP HOd hadd0
      clear hde
      obtain ⟨bk, o, rfl, hbk, hcell⟩ := HT.out.get i x HX.out
      have hrng : wr.rangeAt bk (o + i * 8) (idC x) := fun r u hu => (HA.out.2.cell (p := ⟨bk, o + i * 8 + r, none⟩) hbk).trans (hcell r u hu)
      clear hcell
      go_upto_region 4 with fail
      refine wp_region_lit ?_
      refine wpList_plain rfl fun K hK => ?_
      go_simp
      refine hK _ _ ?_
      clear hK K
      refine wpList_plain rfl fun K hK => ?_
      go_simp
      refine hK _ _ ?_
      clear hK K
      refine wpList_load_mid rfl 26 (.tmp 12) rfl bk (o + i * 8) rfl (idC x) _ hrng Try.underlying26 rfl (info_id8 Hx8.out) ?_
      refine wpList_plain rfl fun K hK => ?_
      go_simp
      refine hK _ _ ?_
      clear hK K hrng
      refine wpList_plain rfl fun K hK => ?_
      go_simp
      refine hK _ _ ?_
      clear hK K
      obtain ⟨W4, hW4, hI4, hb4, hlt4⟩ := laid_id Hx8.out wr 26
      have hth := z8_there wr 26 Hx8.out
      dsimp only [Z8u] at hW4 hth
      refine wpList_store_mid rfl 26 (.tmp 5) (.tmp 13) rfl wr.heap.size 0 (idC x).toArray rfl rfl hth (info_idA Hx8.out) (idC_all _) ?_
      rw [show (idC x).toArray.toList = idC x from rfl, hW4]
      have HA4 : Hid (Bb W4 w.heap.size d0 ∧ Below w.heap.size w W4) := ⟨HA.out.1.past hb4, HA.out.2.trans (hb4.mono HA.out.2.size)⟩
      have hwr : w.heap.size < wr.heap.size := HA.out.1.lt
      clear hW4 hth hb4 HA
      go_upto_region 5 with fail
      refine wp_region_lit ?_
      refine wpList_load_mid rfl 24 (.tmp 3) rfl w.heap.size 0 rfl (blmC d0) _ HA4.out.1.rng Try.underlying24 rfl (info_blmC HA4.out.1.ok) ?_
      refine wpList_load_mid rfl 26 (.tmp 5) rfl wr.heap.size 0 rfl (idC x) _ hI4 Try.underlying26 rfl (info_id8 Hx8.out) ?_
      refine wpList_plain rfl fun K hK => ?_
      go_simp
      refine (hadd0 _).mono ?_
      rintro e w5 ⟨rfl, hb5⟩
      refine hK _ _ ?_
      clear hK K hadd0
      have hI5 := rng_below hI4 hb5 hlt4
      have HA5 : Hid (Bb w5 w.heap.size d0 ∧ Below w.heap.size w w5) := ⟨HA4.out.1.past hb5, HA4.out.2.trans (hb5.mono HA4.out.2.size)⟩
      have hlt5 : wr.heap.size < w5.heap.size := Nat.lt_of_lt_of_le hlt4 hb5.size
      clear hI4 hlt4 hb5 HA4
      refine wpList_store_mid rfl 24 (.tmp 3) (.tmp 16) rfl w.heap.size 0 (blmC d).toArray rfl rfl (HA5.out.1.thereA HOd.out) (info_blmA HOd.out) (blmC_all _) ?_
      rw [show (blmC d).toArray.toList = blmC d from rfl]
      have HA6 : Hid ((Bb (w5.setCells w.heap.size 0 (blmC d)) w.heap.size d ∧ Below w.heap.size w (w5.setCells w.heap.size 0 (blmC d))) ∧ (w5.setCells w.heap.size 0 (blmC d)).rangeAt wr.heap.size 0 (idC x) ∧ wr.heap.size < (w5.setCells w.heap.size 0 (blmC d)).heap.size) :=
        ⟨⟨HA5.out.1.store HOd.out, below_setCells' _ (Nat.le_refl _) _ _ _ HA5.out.2⟩, World.rangeAt_setCells_apart hI5 _ _ _ (.inl (by omega)), by rw [size_setCells]; exact hlt5⟩
      generalize w5.setCells w.heap.size 0 (blmC d) = w6 at *
      clear HA5 hI5 hlt5
      go_upto_region 6 with fail
      refine wp_region_lit ?_
      refine wpList_load_mid rfl 24 (.tmp 3) rfl w.heap.size 0 rfl (blmC d) _ HA6.out.1.1.rng Try.underlying24 rfl (info_blmC HOd.out) ?_
      refine wpList_plain rfl fun K hK => ?_
      go_simp
      refine (count_any d _ HOd.out).mono ?_
      rintro e w7 ⟨rfl, hb7⟩
      refine hK _ _ ?_
      clear hK K
      have HG : Hid (∀ W, Gw w7 W → Bb W w.heap.size d ∧ W.rangeAt wr.heap.size 0 (idC x)) := fun W h => ⟨(HA6.out.1.1.past hb7).past h, rng_below (rng_below HA6.out.2.1 hb7 HA6.out.2.2) h (Nat.lt_of_lt_of_le HA6.out.2.2 hb7.size)⟩
      have HB7 : Hid (Below w.heap.size w w7) := HA6.out.1.2.trans (hb7.mono HA6.out.1.2.size)
      clear HA6 hb7 hwr
      have hn1 := HC.out
      have hn2 := HC1.out
      generalize Bm.count d = n at *
      have hq1 : decide (4 * ((i : Int) + 1) < (n : Int)) = false := by rw [decide_eq_false_iff_not]; omega
      have hq2 : decide ((n : Int) < 1) = false := by rw [decide_eq_false_iff_not]; omega
      have hn3 : n ≤ 1000000000000000 := by omega
      have hadd := fun W => add_any d x W HOd.out Hx8.out
      rw [HP.out] at hadd
      have heq := fun W => blm_eq W HOd.out HOd.out
      rw [beq_self_eq_true] at heq
      have hw1 : IntKind.i64.wrap ((i : Int) + 1) = (i : Int) + 1 := by rw [IntKind.wrap_i64]; omega
      have hw2 : IntKind.i64.wrap (4 * ((i : Int) + 1)) = 4 * ((i : Int) + 1) := by rw [IntKind.wrap_i64]; omega
      clear HC HC1
      go_upto_region 7 with fail
      refine wp_region_rel (G := Gw) (W0 := w7) Gw.refl Gw.trans (by kernel_rfl) (by kernel_rfl) (by kernel_rfl) (Below.refl _ w7).drew ?_
      refine .inl ⟨.int .i64 (n : Int), fun v W hW _ => step_run rfl _ W (exec_move (.tmp 6) (.inl rfl) rfl) rfl (Gw.refl _), ?_⟩
      simp only [Act.put, List.setIfInBounds_toArray, List.set_cons_zero, List.set_cons_succ]
      refine .inl ⟨.int .i64 (i : Int), fun v W hW _ => step_run rfl _ W (exec_move (.tmp 4) (.inl rfl) rfl) rfl (Gw.refl _), ?_⟩
      simp only [Act.put, List.setIfInBounds_toArray, List.set_cons_zero, List.set_cons_succ]
      refine .inl ⟨.int .i64 ((i : Int) + 1), fun v W hW _ => step_run rfl _ W (by go_simp) rfl (Gw.refl _), ?_⟩
      simp only [Act.put, List.setIfInBounds_toArray, List.set_cons_zero, List.set_cons_succ]
      refine .inl ⟨.int .i64 (4 * ((i : Int) + 1)), fun v W hW _ => step_run rfl _ W (by go_simp) rfl (Gw.refl _), ?_⟩
      simp only [Act.put, List.setIfInBounds_toArray, List.set_cons_zero, List.set_cons_succ]
      refine .inl ⟨.bool false, fun v W hW _ => step_run rfl _ W (by go_simp) rfl (Gw.refl _), ?_⟩
      simp only [Act.put, List.setIfInBounds_toArray, List.set_cons_zero, List.set_cons_succ]
      refine .inl ⟨.bool false, fun v W hW _ => step_run rfl _ W (exec_move (.tmp 23) (.inl rfl) rfl) rfl (Gw.refl _), ?_⟩
      simp only [Act.put, List.setIfInBounds_toArray, List.set_cons_zero, List.set_cons_succ]
      refine .inl ⟨.int .i64 (n : Int), fun v W hW _ => step_run rfl _ W (exec_move (.tmp 6) (.inl rfl) rfl) rfl (Gw.refl _), ?_⟩
      simp only [Act.put, List.setIfInBounds_toArray, List.set_cons_zero, List.set_cons_succ]
      refine .inl ⟨.bool false, fun v W hW _ => step_run rfl _ W (by go_simp) rfl (Gw.refl _), ?_⟩
      simp only [Act.put, List.setIfInBounds_toArray, List.set_cons_zero, List.set_cons_succ]
      refine .inl ⟨.bool false, fun v W hW _ => step_run rfl _ W (exec_pick (.tmp 24) (.const (.bool true)) (.tmp 26) rfl rfl rfl) rfl (Gw.refl _), ?_⟩
      simp only [Act.put, List.setIfInBounds_toArray, List.set_cons_zero, List.set_cons_succ]
      refine .inl ⟨.bool false, fun v W hW _ => step_run rfl _ W (exec_move (.tmp 27) (.inl rfl) rfl) rfl (Gw.refl _), ?_⟩
      simp only [Act.put, List.setIfInBounds_toArray, List.set_cons_zero, List.set_cons_succ]
      refine .inl ⟨.agg (blmC d).toArray, fun v W hW _ => step_run rfl _ W (exec_load 24 (.tmp 3) rfl (w.heap.size) (0) rfl (blmC d) _ ((HG.out W hW).1.rng) Try.underlying24 rfl (info_blmC (HG.out W hW).1.ok)) rfl (Gw.refl _), ?_⟩
      simp only [Act.put, List.setIfInBounds_toArray, List.set_cons_zero, List.set_cons_succ]
      refine .inl ⟨.agg (idC x).toArray, fun v W hW _ => step_run rfl _ W (exec_load 26 (.tmp 5) rfl (wr.heap.size) (0) rfl (idC x) _ ((HG.out W hW).2) Try.underlying26 rfl (info_id8 Hx8.out)) rfl (Gw.refl _), ?_⟩
      simp only [Act.put, List.setIfInBounds_toArray, List.set_cons_zero, List.set_cons_succ]
      refine .inl ⟨.agg (blmC d).toArray, fun v W hW _ => step_call rfl 7 #[.agg (blmC d).toArray, .agg (idC x).toArray] (by go_simp) ((hadd W).mono fun e w' h => ⟨_, h.1, rfl, h.2⟩), ?_⟩
      simp only [Act.put, List.setIfInBounds_toArray, List.set_cons_zero, List.set_cons_succ]
      refine .inl ⟨.agg (blmC d).toArray, fun v W hW _ => step_run rfl _ W (exec_load 24 (.tmp 3) rfl (w.heap.size) (0) rfl (blmC d) _ ((HG.out W hW).1.rng) Try.underlying24 rfl (info_blmC (HG.out W hW).1.ok)) rfl (Gw.refl _), ?_⟩
      simp only [Act.put, List.setIfInBounds_toArray, List.set_cons_zero, List.set_cons_succ]
      refine .inl ⟨.bool false, fun v W hW _ => step_run rfl _ W (by have he := heq W; go_simp) rfl (Gw.refl _), ?_⟩
      simp only [Act.put, List.setIfInBounds_toArray, List.set_cons_zero, List.set_cons_succ]
      refine .inl ⟨.bool false, fun v W hW _ => step_run rfl _ W (exec_pick (.tmp 28) (.const (.bool true)) (.tmp 33) rfl rfl rfl) rfl (Gw.refl _), ?_⟩
      simp only [Act.put, List.setIfInBounds_toArray, List.set_cons_zero, List.set_cons_succ]
      intro v W hW _
      have HZ : Hid (Bb W w.heap.size d ∧ Below w.heap.size w W) := ⟨(HG.out W hW).1, HB7.out.trans (Below.mono hW HB7.out.size)⟩
      clear hadd heq HG HB7
      go_wp2_with fail
      go_roundw
      case rel => exact ⟨i + 1, by omega, by go_num, by rw [HE.out]; exact HZ⟩
      case measure => simp only [intOf]; omega
    · obtain rfl : i = l0.length := by omega
      have hadd := fun W => add_any Bm.none_ [0, 0, 0, 7, 0, 0, 0, 1] W Bm.none_ok rfl
      have hcount := fun W => count_any (Bm.puts Bm.none_ (Bm.marks [0, 0, 0, 7, 0, 0, 0, 1])) W (Bm.puts_ok Bm.none_ok)
      rw [four_bits] at hcount
      generalize Bm.puts Bm.none_ (Bm.marks [0, 0, 0, 7, 0, 0, 0, 1]) = d at *
      go_upto_region 10 with fail
      go_wp2_with fail
      refine (hadd _).mono ?_
      rintro e w2 ⟨rfl, hb2⟩
      go_wp2_with fail
      refine (hcount _).mono ?_
      rintro e w3 ⟨rfl, hb3⟩
      have HZ : Hid (Below w.heap.size w w3) := (HA.out.2.trans (hb2.mono HA.out.2.size)).trans (hb3.mono (Nat.le_trans HA.out.2.size hb2.size))
      clear hadd hcount hb2 hb3
      go_wp2_with fail
      go_ret
      exact ⟨rfl, HZ.out⟩
end Go.Proofs.Ytpagbihebahnnaa
