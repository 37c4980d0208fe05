/-
  The walk of lumlaw.BloomSays: it returns true.
-/
import Derived.Test.YtpagbihebahnnaaBlSays
import Derived.Test.YtpagbihebahnnaaRelNew
import Derived.Test.YtpagbihebahnnaaRelSeq
import Derived.Test.YtpagbihebahnnaaRelOps
namespace Go.Proofs.Ytpagbihebahnnaa
open Go.RowKit
set_option maxRecDepth 4000

theorem al_mono {W1 : World} (u : Value) (w w' : World) (h : ∃ g, u = .pointer (some ⟨g, 0, none⟩) ∧ W1.heap.size ≤ g ∧ Bb w g Bm.none_) (hg : Gw w w') : ∃ g, u = .pointer (some ⟨g, 0, none⟩) ∧ W1.heap.size ≤ g ∧ Bb w' g Bm.none_ := by
  obtain ⟨g, h1, h2, h3⟩ := h
  exact ⟨g, h1, h2, h3.past hg⟩
theorem oks2 {a b : List Nat} (ha : Bm.Ok a) (hb : Bm.Ok b) : Bm.Oks [a, b] := fun x hx => by
  simp only [List.mem_cons, List.not_mem_nil, or_false] at hx
  rcases hx with rfl | rfl
  · exact ha
  · exact hb
theorem ptr_inj {a b : Nat} (h : Value.pointer (some ⟨a, 0, none⟩) = .pointer (some ⟨b, 0, none⟩)) : a = b := by
  simpa using h
/-- ahead of the first statement -/
structure S0 (w W : World) (b c : List Nat) (x : List UInt8) : Prop where
  hb : Bb W w.heap.size b
  hc : Bb W (w.heap.size + 1) c
  hi : W.rangeAt (w.heap.size + 1 + 1) 0 (idC x)
  il : w.heap.size + 1 + 1 < W.heap.size
  bel : Below w.heap.size w W
theorem S0.past {w W W' : World} {b c : List Nat} {x : List UInt8} (h : S0 w W b c x) (k : Below W.heap.size W W') : S0 w W' b c x :=
  ⟨h.hb.past k, h.hc.past k, rng_below h.hi k h.il, Nat.lt_of_lt_of_le h.il k.size, h.bel.trans (k.mono h.bel.size)⟩

set_option maxHeartbeats 8000000 in
theorem bloomSays_of (b c wi bo ms : List Nat) (x : List UInt8) (w : World) (ob : Bm.Ok b) (oc : Bm.Ok c) (owi : Bm.Ok wi) (obo : Bm.Ok bo) (hx8 : x.length = 8) (j0 : Bm.joins [b, c] = bo) (p0 : Bm.puts b (Bm.marks x) = wi) (m0 : Bm.marks x = ms)
    (hwi : ∀ k, Bm.bit wi k = (decide (k ∈ ms) || Bm.bit b k)) (hbo : ∀ k, Bm.bit bo k = (Bm.bit b k || Bm.bit c k)) :
    Calls Try.prog 3 #[.agg (blmC b).toArray, .agg (blmC c).toArray, .agg (idC x).toArray] w fun e w' => e = .returned (.bool true) ∧ Below w.heap.size w w' := by
  have lb := blmC_length ob
  have lc := blmC_length oc
  have lx : (idC x).length = 8 := by rw [idC, List.length_map, hx8]
  obtain ⟨W1, hW1⟩ : ∃ W1, W1 = ((w.alloc (.cells (blmC b).toArray 24)).alloc (.cells (blmC c).toArray 24)).alloc (.cells (idC x).toArray 26) := ⟨_, rfl⟩
  have HS1 : Hid (W1.heap.size = w.heap.size + 1 + 1 + 1) := by show _ = _; rw [hW1]; simp
  have HS : Hid (S0 w W1 b c x) := by
    refine ⟨?_, ?_, ?_, ?_, ?_⟩
    · rw [hW1]; exact ((Bb.new ob w _).alloc _).alloc _
    · rw [hW1]
      have := Bb.new oc (w.alloc (.cells (blmC b).toArray 24)) 24
      rw [World.size_alloc] at this
      exact this.alloc _
    · rw [hW1]
      have := idC_at (w := (w.alloc (.cells (blmC b).toArray 24)).alloc (.cells (blmC c).toArray 24)) (x := x) (t := 26)
      rwa [World.size_alloc, World.size_alloc] at this
    · rw [HS1.out]; omega
    · rw [hW1]; exact (((Below.refl _ w).alloc (Nat.le_refl _) _).alloc (by simp) _).alloc (by simp; omega) _
  have HG : Hid (∀ W, Gw W1 W → S0 w W b c x) := fun W h => HS.out.past h
  have hadd := fun W => add_any b x W ob hx8
  rw [p0] at hadd
  have hoks := oks2 ob oc
  have HW : Hid ((∀ k, Bm.bit wi k = (decide (k ∈ ms) || Bm.bit b k)) ∧ (∀ k, Bm.bit bo k = (Bm.bit b k || Bm.bit c k)) ∧ Bm.marks x = ms) := ⟨hwi, hbo, m0⟩
  have HL : Hid (∀ k ∈ ms, k < 1024) := by rw [← m0]; exact Bm.marks_lt x
  have HM4 : Hid (ms.length = 4) := by rw [← m0]; rfl
  clear hwi hbo m0
  go_enter Try.func3, Try.ntmps3
  go_upto_region 1 with fail
  rw [← hW1]
  clear hW1 lb lc lx
  refine wp_region_new_tail (G := Gw) (W0 := W1) 9 4 Gw.refl Gw.trans (by kernel_rfl) (by decide) (by kernel_rfl) (by kernel_rfl) (.inr (by kernel_rfl)) (Below.refl _ W1).drew ?_
  refine .inl ⟨.agg (blmC b).toArray, fun v W hW _ => stepN_of (fun _ => trivial) (step_run rfl _ W (exec_load 24 (.tmp 3) rfl (w.heap.size) (0) rfl (blmC b) _ ((HG.out W hW).hb.rng) Try.underlying24 rfl (info_blmC (HG.out W hW).hb.ok)) rfl (Gw.refl _)), ?_⟩
  simp only [Act.put, List.setIfInBounds_toArray, List.set_cons_zero, List.set_cons_succ]
  refine .inl ⟨.agg (idC x).toArray, fun v W hW _ => stepN_of (fun _ => trivial) (step_run rfl _ W (exec_load 26 (.tmp 5) rfl (w.heap.size + 1 + 1) (0) rfl (idC x) _ ((HG.out W hW).hi) Try.underlying26 rfl (info_id8 hx8)) rfl (Gw.refl _)), ?_⟩
  simp only [Act.put, List.setIfInBounds_toArray, List.set_cons_zero, List.set_cons_succ]
  refine .inl ⟨.agg (blmC wi).toArray, fun v W hW _ => stepN_of (fun _ => trivial) (step_call rfl 7 #[.agg (blmC b).toArray, .agg (idC x).toArray] (by go_simp) ((hadd W).mono fun e w' h => ⟨_, h.1, rfl, h.2⟩)), ?_⟩
  simp only [Act.put, List.setIfInBounds_toArray, List.set_cons_zero, List.set_cons_succ]
  refine .inl ⟨.agg (blmC b).toArray, fun v W hW _ => stepN_of (fun _ => trivial) (step_run rfl _ W (exec_load 24 (.tmp 3) rfl (w.heap.size) (0) rfl (blmC b) _ ((HG.out W hW).hb.rng) Try.underlying24 rfl (info_blmC (HG.out W hW).hb.ok)) rfl (Gw.refl _)), ?_⟩
  simp only [Act.put, List.setIfInBounds_toArray, List.set_cons_zero, List.set_cons_succ]
  refine .inl ⟨.agg (blmC c).toArray, fun v W hW _ => stepN_of (fun _ => trivial) (step_run rfl _ W (exec_load 24 (.tmp 4) rfl (w.heap.size + 1) (0) rfl (blmC c) _ ((HG.out W hW).hc.rng) Try.underlying24 rfl (info_blmC (HG.out W hW).hc.ok)) rfl (Gw.refl _)), ?_⟩
  simp only [Act.put, List.setIfInBounds_toArray, List.set_cons_zero, List.set_cons_succ]
  refine .inr ⟨fun u W => Rx 16 blmC W u [b, c], fun _ _ => True, rx_mono, fun v W hW _ => stepN_of (fun _ => trivial) (step_run rfl _ _ (exec_blms 42 2 _ rfl [b, c] rfl rfl rfl hoks (by simp) (by simp)) (rx_new W _ hoks (by simp)) ((Below.refl _ W).alloc (Nat.le_refl _) _)), ?_⟩
  simp only [Act.put, List.setIfInBounds_toArray, List.set_cons_zero, List.set_cons_succ]
  refine .inl ⟨.agg (blmC bo).toArray, fun v W hW hd => ?_, ?_⟩
  · have h7 : Rx 16 blmC W (v 5) [b, c] := hd 5 (by kernel_rfl)
    clear hd
    exact stepN_of (fun _ => trivial) (step_call rfl 8 #[v 5] (by go_simp) ((join_any (v 5) [b, c] W h7 hoks).mono fun e w' h => ⟨_, h.1, by rw [j0], h.2⟩))
  simp only [Act.put, List.setIfInBounds_toArray, List.set_cons_zero, List.set_cons_succ]
  refine .inr ⟨fun u W => ∃ g, u = .pointer (some ⟨g, 0, none⟩) ∧ W1.heap.size ≤ g ∧ Bb W g Bm.none_, fun W u => ∃ g, u = .pointer (some ⟨g, 0, none⟩) ∧ W.heap.size ≤ g, al_mono, fun v W hW _ => stepN_run rfl (.pointer (some ⟨W.heap.size, 0, none⟩)) (W.alloc (.cells Z16 24)) (by go_simp) ⟨W.heap.size, rfl, hW.size, Bb.zero W _⟩ ((Below.refl _ W).alloc (Nat.le_refl _) _) ⟨W.heap.size, rfl, Nat.le_refl _⟩, ?_⟩
  simp only [Act.put, List.setIfInBounds_toArray, List.set_cons_zero, List.set_cons_succ]
  refine .inr ⟨fun u W => ∃ g, u = .pointer (some ⟨g, 0, none⟩) ∧ W1.heap.size ≤ g ∧ Bb W g Bm.none_, fun W u => ∃ g, u = .pointer (some ⟨g, 0, none⟩) ∧ W.heap.size ≤ g, al_mono, fun v W hW _ => stepN_run rfl (.pointer (some ⟨W.heap.size, 0, none⟩)) (W.alloc (.cells Z16 24)) (by go_simp) ⟨W.heap.size, rfl, hW.size, Bb.zero W _⟩ ((Below.refl _ W).alloc (Nat.le_refl _) _) ⟨W.heap.size, rfl, Nat.le_refl _⟩, ?_⟩
  simp only [Act.put, List.setIfInBounds_toArray, List.set_cons_zero, List.set_cons_succ]
  intro v W hW hV hL
  have h7 : ∃ g, v 7 = .pointer (some ⟨g, 0, none⟩) ∧ W1.heap.size ≤ g ∧ Bb W g Bm.none_ := hV 7 (by decide)
  have h8 : ∃ g, v 8 = .pointer (some ⟨g, 0, none⟩) ∧ W1.heap.size ≤ g ∧ Bb W g Bm.none_ := hV 8 (by decide)
  have hne : (∃ w1, Gw w1 W ∧ (∃ g, v 7 = .pointer (some ⟨g, 0, none⟩) ∧ w1.heap.size ≤ g) ∧ (∃ g, v 8 = .pointer (some ⟨g, 0, none⟩) ∧ W1.heap.size ≤ g ∧ Bb w1 g Bm.none_)) ∨
      (∃ w1, Gw w1 W ∧ (∃ g, v 8 = .pointer (some ⟨g, 0, none⟩) ∧ w1.heap.size ≤ g) ∧ (∃ g, v 7 = .pointer (some ⟨g, 0, none⟩) ∧ W1.heap.size ≤ g ∧ Bb w1 g Bm.none_)) := hL 7 8 (by decide) (by decide) (by decide)
  clear hV hL
  obtain ⟨g8, e8, l8, B8⟩ := h7
  obtain ⟨g9, e9, l9, B9⟩ := h8
  have HNE : Hid (g8 ≠ g9) := by
    show g8 ≠ g9
    intro e
    subst e
    rcases hne with ⟨w1, _, ⟨g, q1, q2⟩, ⟨g', q3, _, q4⟩⟩ | ⟨w1, _, ⟨g, q1, q2⟩, ⟨g', q3, _, q4⟩⟩
    · have a1 := ptr_inj (q1.symm.trans e8)
      have a2 := ptr_inj (q3.symm.trans e9)
      have := q4.lt
      omega
    · have a1 := ptr_inj (q1.symm.trans e9)
      have a2 := ptr_inj (q3.symm.trans e8)
      have := q4.lt
      omega
  clear hne
  have HSW : Hid (SW w ((W.setCells g8 0 (blmC wi)).setCells g9 0 (blmC bo)) b c wi bo x g8 g9) := by
    have h0 := HG.out W hW
    have s1 := HS1.out
    have n1 : w.heap.size ≠ g8 := by omega
    have n2 : w.heap.size + 1 ≠ g8 := by omega
    have n3 : w.heap.size + 1 + 1 ≠ g8 := by omega
    have n4 : w.heap.size ≠ g9 := by omega
    have n5 : w.heap.size + 1 ≠ g9 := by omega
    have n6 : w.heap.size + 1 + 1 ≠ g9 := by omega
    exact ⟨(h0.hb.storeOther n1 _).storeOther n4 _, (h0.hc.storeOther n2 _).storeOther n5 _, World.rangeAt_setCells_apart (World.rangeAt_setCells_apart h0.hi _ _ _ (.inl n3)) _ _ _ (.inl n6), by rw [size_setCells, size_setCells]; exact h0.il,
      (B8.store owi).storeOther HNE.out _, (B9.storeOther (Ne.symm HNE.out) _).store obo, below_setCells' _ (by omega) _ _ _ (below_setCells' _ (by omega) _ _ _ h0.bel)⟩
  have ht8 := B8.thereA owi
  have ht9 := (B9.storeOther (Ne.symm HNE.out) (blmC wi)).thereA obo
  have HLT : Hid (w.heap.size + 1 + 1 < g8 ∧ w.heap.size + 1 + 1 < g9) := by
    have s1 := HS1.out
    exact ⟨by omega, by omega⟩
  simp only [Nat.reduceAdd]
  rw [e8, e9]
  clear HG HS HS1 hadd hoks B8 B9 l8 l9 e8 e9 hW
  refine wpAny_ready (rs := [9]) (by kernel_rfl) (by simp) ?_
  refine AllReady.cons rfl (fun K hK => ?_) AllReady.nil
  go_simp
  refine hK _ _ ?_
  clear hK K
  refine wpAny_ready (rs := [10]) (by kernel_rfl) (by simp) ?_
  refine AllReady.cons rfl (fun K hK => ?_) AllReady.nil
  rw [if_pos (by rfl)]
  refine wp_store_mid 24 (.tmp 8) (.tmp 17) rfl g8 0 (blmC wi).toArray rfl rfl ht8 (info_blmA owi) (blmC_all _) (hK _ _ ?_)
  clear hK K
  rw [show (blmC wi).toArray.toList = blmC wi from rfl]
  refine wpAny_ready (rs := [11]) (by kernel_rfl) (by simp) ?_
  refine AllReady.cons rfl (fun K hK => ?_) AllReady.nil
  rw [if_pos (by rfl)]
  refine wp_store_mid 24 (.tmp 9) (.tmp 21) rfl g9 0 (blmC bo).toArray rfl rfl ht9 (info_blmA obo) (blmC_all _) (hK _ _ ?_)
  clear hK K
  rw [show (blmC bo).toArray.toList = blmC bo from rfl]
  generalize (W.setCells g8 0 (blmC wi)).setCells g9 0 (blmC bo) = W2 at *
  clear ht8 ht9
  refine wpAny_ready (rs := [12]) (by kernel_rfl) (by simp) ?_
  refine AllReady.cons rfl (fun K hK => ?_) AllReady.nil
  go_simp
  refine hK _ _ ?_
  clear hK K
  refine wpAny_done (by kernel_rfl) ?_ _
  have hmm := @run_makeMap Try.prog
  obtain ⟨gm, HGM⟩ : ∃ gm, Hid (W2.heap.size = gm) := ⟨_, rfl⟩
  have HB : Hid (SW w (W2.alloc (.map #[] 0)) b c wi bo x g8 g9 ∧ Mi (W2.alloc (.map #[] 0)) gm 0 (ms.take 0)) := by
    refine ⟨HSW.out.past ((Below.refl _ W2).alloc (Nat.le_refl _) _), ?_⟩
    rw [← HGM.out]
    exact Mi.new W2
  have HN : Hid (w.heap.size ≤ gm ∧ gm ≠ w.heap.size ∧ gm ≠ w.heap.size + 1 ∧ gm ≠ w.heap.size + 1 + 1 ∧ gm ≠ g8 ∧ gm ≠ g9) := by
    have a1 := HSW.out.il
    have a2 := HSW.out.h8.lt
    have a3 := HSW.out.h9.lt
    have a4 := HGM.out
    exact ⟨by omega, by omega, by omega, by omega, by omega, by omega⟩
  go_upto_region 3 with fail
  rw [HGM.out]
  generalize W2.alloc (.map #[] 0) = W3 at *
  clear hmm HSW HGM
  go_wp2_with fail
  go_loopw [23] (fun i wr => ∃ j : Nat, j ≤ 4 ∧ i = .int .i64 j ∧ Hid (SW w wr b c wi bo x g8 g9 ∧ Mi wr gm j (ms.take j))) (fun i _ => 4 - (intOf i).toNat)
  case atStart => exact ⟨0, by omega, rfl, HB⟩
  case round =>
    obtain ⟨i, hi, rfl, HA⟩ := hrel
    by_cases hlt : i < 4
    · have hdi : decide ((i : Int) < 4) = true := by rw [decide_eq_true_eq]; omega
      have HK := get_lt HL.out (j := i) (by rw [HM4.out]; exact hlt)
      replace HK : Hid (ms.getD i 0 < 1024) := HK
      have HE : Hid (ms.take (i + 1) = ms.take i ++ [ms.getD i 0]) := by
        show _ = _
        have hlt' : i < ms.length := by rw [HM4.out]; exact hlt
        rw [List.take_succ_eq_append_getElem hlt', List.getD_eq_getElem?_getD, List.getElem?_eq_getElem hlt']
        rfl
      have hmark := fun W => rmark_any x i W hx8 hlt
      rw [HW.out.2.2] at hmark
      generalize ms.getD i 0 = k at *
      go_upto_region 6 with fail
      refine wp_region_lit ?_
      refine wpList_exec rfl (exec_move (.tmp 11) (.inl rfl) rfl) ?_
      refine wpList_load_mid rfl 26 (.tmp 5) rfl (w.heap.size + 1 + 1) 0 rfl (idC x) _ HA.out.1.hi Try.underlying26 rfl (info_id8 hx8) ?_
      refine wpList_exec rfl (exec_move (.tmp 12) (.inl rfl) rfl) ?_
      refine wpList_plain rfl fun K hK => ?_
      go_simp
      refine (hmark _).mono ?_
      rintro e w5 ⟨rfl, hb5⟩
      refine hK _ _ ?_
      clear hK K hmark
      obtain ⟨w6, hr6, hm6, hg6⟩ := (HA.out.2.below hb5).put Try.underlying29 HK.out (by omega)
      refine wpList_skip rfl (exec_update 29 (.tmp 26) (.tmp 29) (.const (.int .i64 1)) rfl rfl rfl rfl hr6) ?_
      have HA6 : Hid (SW w w6 b c wi bo x g8 g9 ∧ Mi w6 gm (i + 1) (ms.take (i + 1))) := by
        obtain ⟨a0, a1, a2, a3, a4, a5⟩ := HN.out
        exact ⟨(HA.out.1.past hb5).grown hg6 a0 a1 a2 a3 a4 a5, by rw [HE.out]; exact hm6⟩
      clear hb5 hr6 hm6 hg6 HA
      go_wp2_with fail
      go_roundw
      case rel => exact ⟨i + 1, by omega, by go_num, HA6⟩
      case measure => simp only [intOf]; omega
    · obtain rfl : i = 4 := by omega
      rw [List.take_of_length_le (Nat.le_of_eq HM4.out)] at HA
      have HAs : Hid (Bm.allB b ms 1024 = Bm.has b ms) := Bm.allB_has HL.out
      go_wp2_with fail
      go_loopw [7, 10, 31] (fun al n i wr => ∃ j : Nat, j ≤ 1024 ∧ i = .int .i64 j ∧ al = .bool (Bm.allB b ms j) ∧ n = .int .i64 (Bm.cntB b j : Nat) ∧ Hid (SW w wr b c wi bo x g8 g9 ∧ Mi wr gm 4 ms)) (fun _ _ i _ => 1024 - (intOf i).toNat)
      case atStart => exact ⟨0, by omega, rfl, rfl, rfl, HA⟩
      case round =>
        obtain ⟨i, hi, rfl, rfl, rfl, HA⟩ := hrel
        by_cases hlt : i < 1024
        · have hdi : decide ((i : Int) < 1024) = true := by rw [decide_eq_true_eq]; omega
          have HAn : Hid (Bm.allB b ms (i + 1) = (Bm.allB b ms i && (!decide (i ∈ ms) || Bm.bit b i))) := Bm.allB_next b ms i
          have HCn : Hid (Bm.cntB b (i + 1) = Bm.cntB b i + if Bm.bit b i then 1 else 0) := Bm.cntB_next b i
          have hcl := Bm.cntB_le b i
          have HG : Hid (∀ W, Gw wr W → SW w W b c wi bo x g8 g9 ∧ Mi W gm 4 ms) := fun W h => ⟨HA.out.1.past h, HA.out.2.below h⟩
          have hz : ∀ W, (zeroValue 3).run Try.prog W = .ok (.int .i64 0) W := fun W => by go_simp
          have hlook : ∀ W, Gw wr W → (Instr.lookup 29 (.map (some gm)) (.int .i64 (i : Int)) false).run Try.prog W = .ok (.int .i64 (if decide (i ∈ ms) = true then 1 else 0)) W := fun W h => by
            have := (HG.out W h).2.look Try.underlying29 (hz W) hlt
            simpa using this
          have bitb := fun W => rbit_any b i W ob hlt
          have bitc := fun W => rbit_any c i W oc hlt
          have bitwi := fun W => rbit_any wi i W owi hlt
          have bitbo := fun W => rbit_any bo i W obo hlt
          rw [HW.out.1 i] at bitwi
          rw [HW.out.2.1 i] at bitbo
          clear HA
          generalize Bm.cntB b i = cn at *
          generalize Bm.allB b ms i = al at *
          generalize Bm.bit c i = cb at *
          generalize Bm.bit b i = bb at *
          generalize decide (i ∈ ms) = is_ at *
          cases al with
          | false =>
            cases is_ with
            | false =>
              replace hlook : ∀ W, Gw wr W → (Instr.lookup 29 (.map (some gm)) (.int .i64 (i : Int)) false).run Try.prog W = .ok (.int .i64 0) W := hlook
              cases bb with
              | false =>
                go_upto_region 11 with fail
                refine wp_region_seq (G := Gw) (W0 := wr) Gw.refl Gw.trans (Gw.refl wr) ?_
                refine .inl ⟨.map (some gm), fun v W hW _ => step_run rfl _ W (exec_move (.tmp 11) (.inl rfl) rfl) rfl (Gw.refl _), ?_⟩
                simp only [Act.put, List.setIfInBounds_toArray, List.set_cons_zero, List.set_cons_succ]
                refine .inl ⟨.int .i64 (i : Int), fun v W hW _ => step_run rfl _ W (exec_move (.tmp 13) (.inl rfl) rfl) rfl (Gw.refl _), ?_⟩
                simp only [Act.put, List.setIfInBounds_toArray, List.set_cons_zero, List.set_cons_succ]
                refine .inl ⟨.int .i64 0, fun v W hW _ => step_run rfl _ W (exec_look 29 (.tmp 34) (.tmp 35) rfl rfl rfl (hlook W hW)) rfl (Gw.refl _), ?_⟩
                simp only [Act.put, List.setIfInBounds_toArray, List.set_cons_zero, List.set_cons_succ]
                refine .inl ⟨.bool false, fun v W hW _ => step_run rfl _ W (by go_simp) rfl (Gw.refl _), ?_⟩
                simp only [Act.put, List.setIfInBounds_toArray, List.set_cons_zero, List.set_cons_succ]
                refine .inl ⟨.bool false, fun v W hW _ => step_run rfl _ W (exec_move (.tmp 37) (.inr rfl) rfl) rfl (Gw.refl _), ?_⟩
                simp only [Act.put, List.setIfInBounds_toArray, List.set_cons_zero, List.set_cons_succ]
                intro v W11 hW11 _
                go_upto_region 12 with fail
                refine wp_region_seq (G := Gw) (W0 := wr) Gw.refl Gw.trans hW11 ?_
                refine .inl ⟨.bool false, fun v W hW _ => step_run rfl _ W (exec_move (.tmp 7) (.inl rfl) rfl) rfl (Gw.refl _), ?_⟩
                simp only [Act.put, List.setIfInBounds_toArray, List.set_cons_zero, List.set_cons_succ]
                refine .inl ⟨.bool false, fun v W hW _ => step_run rfl _ W (exec_move (.tmp 38) (.inl rfl) rfl) rfl (Gw.refl _), ?_⟩
                simp only [Act.put, List.setIfInBounds_toArray, List.set_cons_zero, List.set_cons_succ]
                refine .inl ⟨undef, fun v W hW _ => step_skip rfl rfl, ?_⟩
                simp only [Act.put, List.setIfInBounds_toArray, List.set_cons_zero, List.set_cons_succ]
                refine .inl ⟨undef, fun v W hW _ => step_skip rfl rfl, ?_⟩
                simp only [Act.put, List.setIfInBounds_toArray, List.set_cons_zero, List.set_cons_succ]
                refine .inl ⟨undef, fun v W hW _ => step_skip rfl rfl, ?_⟩
                simp only [Act.put, List.setIfInBounds_toArray, List.set_cons_zero, List.set_cons_succ]
                refine .inl ⟨undef, fun v W hW _ => step_skip rfl rfl, ?_⟩
                simp only [Act.put, List.setIfInBounds_toArray, List.set_cons_zero, List.set_cons_succ]
                refine .inl ⟨undef, fun v W hW _ => step_skip rfl rfl, ?_⟩
                simp only [Act.put, List.setIfInBounds_toArray, List.set_cons_zero, List.set_cons_succ]
                refine .inl ⟨undef, fun v W hW _ => step_skip rfl rfl, ?_⟩
                simp only [Act.put, List.setIfInBounds_toArray, List.set_cons_zero, List.set_cons_succ]
                refine .inl ⟨undef, fun v W hW _ => step_skip rfl rfl, ?_⟩
                simp only [Act.put, List.setIfInBounds_toArray, List.set_cons_zero, List.set_cons_succ]
                refine .inl ⟨.bool false, fun v W hW _ => step_run rfl _ W (exec_pick (.tmp 39) (.tmp 46) (.const (.bool false)) rfl rfl rfl) rfl (Gw.refl _), ?_⟩
                simp only [Act.put, List.setIfInBounds_toArray, List.set_cons_zero, List.set_cons_succ]
                refine .inl ⟨.bool false, fun v W hW _ => step_run rfl _ W (exec_move (.tmp 47) (.inr rfl) rfl) rfl (Gw.refl _), ?_⟩
                simp only [Act.put, List.setIfInBounds_toArray, List.set_cons_zero, List.set_cons_succ]
                intro v W12 hW12 _
                clear hW11
                go_upto_region 13 with fail
                refine wp_region_rel (G := Gw) (W0 := wr) Gw.refl Gw.trans (by kernel_rfl) (by kernel_rfl) (by kernel_rfl) hW12.drew ?_
                refine .inl ⟨.agg (blmC wi).toArray, fun v W hW _ => step_run rfl _ W (exec_load 24 (.tmp 8) rfl (g8) (0) rfl (blmC wi) _ (((HG.out W hW).1).h8.rng) Try.underlying24 rfl (info_blmC ((HG.out W hW).1).h8.ok)) rfl (Gw.refl _), ?_⟩
                simp only [Act.put, List.setIfInBounds_toArray, List.set_cons_zero, List.set_cons_succ]
                refine .inl ⟨.int .i64 (i : Int), fun v W hW _ => step_run rfl _ W (exec_move (.tmp 13) (.inl rfl) rfl) rfl (Gw.refl _), ?_⟩
                simp only [Act.put, List.setIfInBounds_toArray, List.set_cons_zero, List.set_cons_succ]
                refine .inl ⟨.bool false, fun v W hW _ => step_call rfl 10 #[.agg (blmC wi).toArray, .int .i64 (i : Int)] (by go_simp) ((bitwi W).mono fun e w' h => ⟨_, h.1, rfl, h.2⟩), ?_⟩
                simp only [Act.put, List.setIfInBounds_toArray, List.set_cons_zero, List.set_cons_succ]
                refine .inl ⟨.bool false, fun v W hW _ => step_run rfl _ W (exec_move (.tmp 14) (.inl rfl) rfl) rfl (Gw.refl _), ?_⟩
                simp only [Act.put, List.setIfInBounds_toArray, List.set_cons_zero, List.set_cons_succ]
                refine .inl ⟨.bool false, fun v W hW _ => step_run rfl _ W (exec_move (.tmp 51) (.inl rfl) rfl) rfl (Gw.refl _), ?_⟩
                simp only [Act.put, List.setIfInBounds_toArray, List.set_cons_zero, List.set_cons_succ]
                refine .inl ⟨.agg (blmC b).toArray, fun v W hW _ => step_run rfl _ W (exec_load 24 (.tmp 3) rfl (w.heap.size) (0) rfl (blmC b) _ (((HG.out W hW).1).hb.rng) Try.underlying24 rfl (info_blmC ((HG.out W hW).1).hb.ok)) rfl (Gw.refl _), ?_⟩
                simp only [Act.put, List.setIfInBounds_toArray, List.set_cons_zero, List.set_cons_succ]
                refine .inl ⟨.int .i64 (i : Int), fun v W hW _ => step_run rfl _ W (exec_move (.tmp 13) (.inl rfl) rfl) rfl (Gw.refl _), ?_⟩
                simp only [Act.put, List.setIfInBounds_toArray, List.set_cons_zero, List.set_cons_succ]
                refine .inl ⟨.bool false, fun v W hW _ => step_call rfl 10 #[.agg (blmC b).toArray, .int .i64 (i : Int)] (by go_simp) ((bitb W).mono fun e w' h => ⟨_, h.1, rfl, h.2⟩), ?_⟩
                simp only [Act.put, List.setIfInBounds_toArray, List.set_cons_zero, List.set_cons_succ]
                refine .inl ⟨.bool false, fun v W hW _ => step_run rfl _ W (exec_pick (.tmp 52) (.const (.bool true)) (.tmp 55) rfl rfl rfl) rfl (Gw.refl _), ?_⟩
                simp only [Act.put, List.setIfInBounds_toArray, List.set_cons_zero, List.set_cons_succ]
                refine .inl ⟨.bool false, fun v W hW _ => step_run rfl _ W (by go_simp) rfl (Gw.refl _), ?_⟩
                simp only [Act.put, List.setIfInBounds_toArray, List.set_cons_zero, List.set_cons_succ]
                refine .inl ⟨.bool false, fun v W hW _ => step_run rfl _ W (exec_move (.tmp 57) (.inl rfl) rfl) rfl (Gw.refl _), ?_⟩
                simp only [Act.put, List.setIfInBounds_toArray, List.set_cons_zero, List.set_cons_succ]
                refine .inl ⟨.agg (blmC bo).toArray, fun v W hW _ => step_run rfl _ W (exec_load 24 (.tmp 9) rfl (g9) (0) rfl (blmC bo) _ (((HG.out W hW).1).h9.rng) Try.underlying24 rfl (info_blmC ((HG.out W hW).1).h9.ok)) rfl (Gw.refl _), ?_⟩
                simp only [Act.put, List.setIfInBounds_toArray, List.set_cons_zero, List.set_cons_succ]
                refine .inl ⟨.int .i64 (i : Int), fun v W hW _ => step_run rfl _ W (exec_move (.tmp 13) (.inl rfl) rfl) rfl (Gw.refl _), ?_⟩
                simp only [Act.put, List.setIfInBounds_toArray, List.set_cons_zero, List.set_cons_succ]
                refine .inl ⟨.bool cb, fun v W hW _ => step_call rfl 10 #[.agg (blmC bo).toArray, .int .i64 (i : Int)] (by go_simp) ((bitbo W).mono fun e w' h => ⟨_, h.1, rfl, h.2⟩), ?_⟩
                simp only [Act.put, List.setIfInBounds_toArray, List.set_cons_zero, List.set_cons_succ]
                refine .inl ⟨.agg (blmC b).toArray, fun v W hW _ => step_run rfl _ W (exec_load 24 (.tmp 3) rfl (w.heap.size) (0) rfl (blmC b) _ (((HG.out W hW).1).hb.rng) Try.underlying24 rfl (info_blmC ((HG.out W hW).1).hb.ok)) rfl (Gw.refl _), ?_⟩
                simp only [Act.put, List.setIfInBounds_toArray, List.set_cons_zero, List.set_cons_succ]
                refine .inl ⟨.int .i64 (i : Int), fun v W hW _ => step_run rfl _ W (exec_move (.tmp 13) (.inl rfl) rfl) rfl (Gw.refl _), ?_⟩
                simp only [Act.put, List.setIfInBounds_toArray, List.set_cons_zero, List.set_cons_succ]
                refine .inl ⟨.bool false, fun v W hW _ => step_call rfl 10 #[.agg (blmC b).toArray, .int .i64 (i : Int)] (by go_simp) ((bitb W).mono fun e w' h => ⟨_, h.1, rfl, h.2⟩), ?_⟩
                simp only [Act.put, List.setIfInBounds_toArray, List.set_cons_zero, List.set_cons_succ]
                refine .inl ⟨.bool false, fun v W hW _ => step_run rfl _ W (exec_move (.tmp 64) (.inl rfl) rfl) rfl (Gw.refl _), ?_⟩
                simp only [Act.put, List.setIfInBounds_toArray, List.set_cons_zero, List.set_cons_succ]
                refine .inl ⟨.agg (blmC c).toArray, fun v W hW _ => step_run rfl _ W (exec_load 24 (.tmp 4) rfl (w.heap.size + 1) (0) rfl (blmC c) _ (((HG.out W hW).1).hc.rng) Try.underlying24 rfl (info_blmC ((HG.out W hW).1).hc.ok)) rfl (Gw.refl _), ?_⟩
                simp only [Act.put, List.setIfInBounds_toArray, List.set_cons_zero, List.set_cons_succ]
                refine .inl ⟨.int .i64 (i : Int), fun v W hW _ => step_run rfl _ W (exec_move (.tmp 13) (.inl rfl) rfl) rfl (Gw.refl _), ?_⟩
                simp only [Act.put, List.setIfInBounds_toArray, List.set_cons_zero, List.set_cons_succ]
                refine .inl ⟨.bool cb, fun v W hW _ => step_call rfl 10 #[.agg (blmC c).toArray, .int .i64 (i : Int)] (by go_simp) ((bitc W).mono fun e w' h => ⟨_, h.1, rfl, h.2⟩), ?_⟩
                simp only [Act.put, List.setIfInBounds_toArray, List.set_cons_zero, List.set_cons_succ]
                refine .inl ⟨.bool cb, fun v W hW _ => step_run rfl _ W (exec_pick (.tmp 65) (.const (.bool true)) (.tmp 68) rfl rfl rfl) rfl (Gw.refl _), ?_⟩
                simp only [Act.put, List.setIfInBounds_toArray, List.set_cons_zero, List.set_cons_succ]
                refine .inl ⟨.bool false, fun v W hW _ => step_run rfl _ W (by go_simp) rfl (Gw.refl _), ?_⟩
                simp only [Act.put, List.setIfInBounds_toArray, List.set_cons_zero, List.set_cons_succ]
                refine .inl ⟨.bool false, fun v W hW _ => step_run rfl _ W (exec_pick (.tmp 58) (.const (.bool true)) (.tmp 70) rfl rfl rfl) rfl (Gw.refl _), ?_⟩
                simp only [Act.put, List.setIfInBounds_toArray, List.set_cons_zero, List.set_cons_succ]
                intro v W13 hW13 _
                clear hW12
                go_upto_region 15 with fail
                refine wp_region_seq (G := Gw) (W0 := wr) Gw.refl Gw.trans hW13 ?_
                refine .inl ⟨.agg (blmC b).toArray, fun v W hW _ => step_run rfl _ W (exec_load 24 (.tmp 3) rfl (w.heap.size) (0) rfl (blmC b) _ (((HG.out W hW).1).hb.rng) Try.underlying24 rfl (info_blmC ((HG.out W hW).1).hb.ok)) rfl (Gw.refl _), ?_⟩
                simp only [Act.put, List.setIfInBounds_toArray, List.set_cons_zero, List.set_cons_succ]
                refine .inl ⟨.int .i64 (i : Int), fun v W hW _ => step_run rfl _ W (exec_move (.tmp 13) (.inl rfl) rfl) rfl (Gw.refl _), ?_⟩
                simp only [Act.put, List.setIfInBounds_toArray, List.set_cons_zero, List.set_cons_succ]
                refine .inl ⟨.bool false, fun v W hW _ => step_call rfl 10 #[.agg (blmC b).toArray, .int .i64 (i : Int)] (by go_simp) ((bitb W).mono fun e w' h => ⟨_, h.1, rfl, h.2⟩), ?_⟩
                simp only [Act.put, List.setIfInBounds_toArray, List.set_cons_zero, List.set_cons_succ]
                intro v W15 hW15 _
                clear hW13
                have HZ := HG.out W15 hW15
                replace HZ : Hid (SW w W15 b c wi bo x g8 g9 ∧ Mi W15 gm 4 ms) := HZ
                clear hW15 HG hlook bitb bitc bitwi bitbo hz
                go_wp2_with fail
                go_roundw
                case rel => exact ⟨i + 1, by omega, by go_num, by rw [HAn.out]; rfl, int_eq (by rw [HCn.out, if_neg (by decide), Nat.add_zero]), HZ⟩
                case measure => simp only [intOf]; omega
              | true =>
                go_upto_region 11 with fail
                refine wp_region_seq (G := Gw) (W0 := wr) Gw.refl Gw.trans (Gw.refl wr) ?_
                refine .inl ⟨.map (some gm), fun v W hW _ => step_run rfl _ W (exec_move (.tmp 11) (.inl rfl) rfl) rfl (Gw.refl _), ?_⟩
                simp only [Act.put, List.setIfInBounds_toArray, List.set_cons_zero, List.set_cons_succ]
                refine .inl ⟨.int .i64 (i : Int), fun v W hW _ => step_run rfl _ W (exec_move (.tmp 13) (.inl rfl) rfl) rfl (Gw.refl _), ?_⟩
                simp only [Act.put, List.setIfInBounds_toArray, List.set_cons_zero, List.set_cons_succ]
                refine .inl ⟨.int .i64 0, fun v W hW _ => step_run rfl _ W (exec_look 29 (.tmp 34) (.tmp 35) rfl rfl rfl (hlook W hW)) rfl (Gw.refl _), ?_⟩
                simp only [Act.put, List.setIfInBounds_toArray, List.set_cons_zero, List.set_cons_succ]
                refine .inl ⟨.bool false, fun v W hW _ => step_run rfl _ W (by go_simp) rfl (Gw.refl _), ?_⟩
                simp only [Act.put, List.setIfInBounds_toArray, List.set_cons_zero, List.set_cons_succ]
                refine .inl ⟨.bool false, fun v W hW _ => step_run rfl _ W (exec_move (.tmp 37) (.inr rfl) rfl) rfl (Gw.refl _), ?_⟩
                simp only [Act.put, List.setIfInBounds_toArray, List.set_cons_zero, List.set_cons_succ]
                intro v W11 hW11 _
                go_upto_region 12 with fail
                refine wp_region_seq (G := Gw) (W0 := wr) Gw.refl Gw.trans hW11 ?_
                refine .inl ⟨.bool false, fun v W hW _ => step_run rfl _ W (exec_move (.tmp 7) (.inl rfl) rfl) rfl (Gw.refl _), ?_⟩
                simp only [Act.put, List.setIfInBounds_toArray, List.set_cons_zero, List.set_cons_succ]
                refine .inl ⟨.bool false, fun v W hW _ => step_run rfl _ W (exec_move (.tmp 38) (.inl rfl) rfl) rfl (Gw.refl _), ?_⟩
                simp only [Act.put, List.setIfInBounds_toArray, List.set_cons_zero, List.set_cons_succ]
                refine .inl ⟨undef, fun v W hW _ => step_skip rfl rfl, ?_⟩
                simp only [Act.put, List.setIfInBounds_toArray, List.set_cons_zero, List.set_cons_succ]
                refine .inl ⟨undef, fun v W hW _ => step_skip rfl rfl, ?_⟩
                simp only [Act.put, List.setIfInBounds_toArray, List.set_cons_zero, List.set_cons_succ]
                refine .inl ⟨undef, fun v W hW _ => step_skip rfl rfl, ?_⟩
                simp only [Act.put, List.setIfInBounds_toArray, List.set_cons_zero, List.set_cons_succ]
                refine .inl ⟨undef, fun v W hW _ => step_skip rfl rfl, ?_⟩
                simp only [Act.put, List.setIfInBounds_toArray, List.set_cons_zero, List.set_cons_succ]
                refine .inl ⟨undef, fun v W hW _ => step_skip rfl rfl, ?_⟩
                simp only [Act.put, List.setIfInBounds_toArray, List.set_cons_zero, List.set_cons_succ]
                refine .inl ⟨undef, fun v W hW _ => step_skip rfl rfl, ?_⟩
                simp only [Act.put, List.setIfInBounds_toArray, List.set_cons_zero, List.set_cons_succ]
                refine .inl ⟨undef, fun v W hW _ => step_skip rfl rfl, ?_⟩
                simp only [Act.put, List.setIfInBounds_toArray, List.set_cons_zero, List.set_cons_succ]
                refine .inl ⟨.bool false, fun v W hW _ => step_run rfl _ W (exec_pick (.tmp 39) (.tmp 46) (.const (.bool false)) rfl rfl rfl) rfl (Gw.refl _), ?_⟩
                simp only [Act.put, List.setIfInBounds_toArray, List.set_cons_zero, List.set_cons_succ]
                refine .inl ⟨.bool false, fun v W hW _ => step_run rfl _ W (exec_move (.tmp 47) (.inr rfl) rfl) rfl (Gw.refl _), ?_⟩
                simp only [Act.put, List.setIfInBounds_toArray, List.set_cons_zero, List.set_cons_succ]
                intro v W12 hW12 _
                clear hW11
                go_upto_region 13 with fail
                refine wp_region_rel (G := Gw) (W0 := wr) Gw.refl Gw.trans (by kernel_rfl) (by kernel_rfl) (by kernel_rfl) hW12.drew ?_
                refine .inl ⟨.agg (blmC wi).toArray, fun v W hW _ => step_run rfl _ W (exec_load 24 (.tmp 8) rfl (g8) (0) rfl (blmC wi) _ (((HG.out W hW).1).h8.rng) Try.underlying24 rfl (info_blmC ((HG.out W hW).1).h8.ok)) rfl (Gw.refl _), ?_⟩
                simp only [Act.put, List.setIfInBounds_toArray, List.set_cons_zero, List.set_cons_succ]
                refine .inl ⟨.int .i64 (i : Int), fun v W hW _ => step_run rfl _ W (exec_move (.tmp 13) (.inl rfl) rfl) rfl (Gw.refl _), ?_⟩
                simp only [Act.put, List.setIfInBounds_toArray, List.set_cons_zero, List.set_cons_succ]
                refine .inl ⟨.bool true, fun v W hW _ => step_call rfl 10 #[.agg (blmC wi).toArray, .int .i64 (i : Int)] (by go_simp) ((bitwi W).mono fun e w' h => ⟨_, h.1, rfl, h.2⟩), ?_⟩
                simp only [Act.put, List.setIfInBounds_toArray, List.set_cons_zero, List.set_cons_succ]
                refine .inl ⟨.bool false, fun v W hW _ => step_run rfl _ W (exec_move (.tmp 14) (.inl rfl) rfl) rfl (Gw.refl _), ?_⟩
                simp only [Act.put, List.setIfInBounds_toArray, List.set_cons_zero, List.set_cons_succ]
                refine .inl ⟨.bool false, fun v W hW _ => step_run rfl _ W (exec_move (.tmp 51) (.inl rfl) rfl) rfl (Gw.refl _), ?_⟩
                simp only [Act.put, List.setIfInBounds_toArray, List.set_cons_zero, List.set_cons_succ]
                refine .inl ⟨.agg (blmC b).toArray, fun v W hW _ => step_run rfl _ W (exec_load 24 (.tmp 3) rfl (w.heap.size) (0) rfl (blmC b) _ (((HG.out W hW).1).hb.rng) Try.underlying24 rfl (info_blmC ((HG.out W hW).1).hb.ok)) rfl (Gw.refl _), ?_⟩
                simp only [Act.put, List.setIfInBounds_toArray, List.set_cons_zero, List.set_cons_succ]
                refine .inl ⟨.int .i64 (i : Int), fun v W hW _ => step_run rfl _ W (exec_move (.tmp 13) (.inl rfl) rfl) rfl (Gw.refl _), ?_⟩
                simp only [Act.put, List.setIfInBounds_toArray, List.set_cons_zero, List.set_cons_succ]
                refine .inl ⟨.bool true, fun v W hW _ => step_call rfl 10 #[.agg (blmC b).toArray, .int .i64 (i : Int)] (by go_simp) ((bitb W).mono fun e w' h => ⟨_, h.1, rfl, h.2⟩), ?_⟩
                simp only [Act.put, List.setIfInBounds_toArray, List.set_cons_zero, List.set_cons_succ]
                refine .inl ⟨.bool true, fun v W hW _ => step_run rfl _ W (exec_pick (.tmp 52) (.const (.bool true)) (.tmp 55) rfl rfl rfl) rfl (Gw.refl _), ?_⟩
                simp only [Act.put, List.setIfInBounds_toArray, List.set_cons_zero, List.set_cons_succ]
                refine .inl ⟨.bool false, fun v W hW _ => step_run rfl _ W (by go_simp) rfl (Gw.refl _), ?_⟩
                simp only [Act.put, List.setIfInBounds_toArray, List.set_cons_zero, List.set_cons_succ]
                refine .inl ⟨.bool false, fun v W hW _ => step_run rfl _ W (exec_move (.tmp 57) (.inl rfl) rfl) rfl (Gw.refl _), ?_⟩
                simp only [Act.put, List.setIfInBounds_toArray, List.set_cons_zero, List.set_cons_succ]
                refine .inl ⟨.agg (blmC bo).toArray, fun v W hW _ => step_run rfl _ W (exec_load 24 (.tmp 9) rfl (g9) (0) rfl (blmC bo) _ (((HG.out W hW).1).h9.rng) Try.underlying24 rfl (info_blmC ((HG.out W hW).1).h9.ok)) rfl (Gw.refl _), ?_⟩
                simp only [Act.put, List.setIfInBounds_toArray, List.set_cons_zero, List.set_cons_succ]
                refine .inl ⟨.int .i64 (i : Int), fun v W hW _ => step_run rfl _ W (exec_move (.tmp 13) (.inl rfl) rfl) rfl (Gw.refl _), ?_⟩
                simp only [Act.put, List.setIfInBounds_toArray, List.set_cons_zero, List.set_cons_succ]
                refine .inl ⟨.bool true, fun v W hW _ => step_call rfl 10 #[.agg (blmC bo).toArray, .int .i64 (i : Int)] (by go_simp) ((bitbo W).mono fun e w' h => ⟨_, h.1, rfl, h.2⟩), ?_⟩
                simp only [Act.put, List.setIfInBounds_toArray, List.set_cons_zero, List.set_cons_succ]
                refine .inl ⟨.agg (blmC b).toArray, fun v W hW _ => step_run rfl _ W (exec_load 24 (.tmp 3) rfl (w.heap.size) (0) rfl (blmC b) _ (((HG.out W hW).1).hb.rng) Try.underlying24 rfl (info_blmC ((HG.out W hW).1).hb.ok)) rfl (Gw.refl _), ?_⟩
                simp only [Act.put, List.setIfInBounds_toArray, List.set_cons_zero, List.set_cons_succ]
                refine .inl ⟨.int .i64 (i : Int), fun v W hW _ => step_run rfl _ W (exec_move (.tmp 13) (.inl rfl) rfl) rfl (Gw.refl _), ?_⟩
                simp only [Act.put, List.setIfInBounds_toArray, List.set_cons_zero, List.set_cons_succ]
                refine .inl ⟨.bool true, fun v W hW _ => step_call rfl 10 #[.agg (blmC b).toArray, .int .i64 (i : Int)] (by go_simp) ((bitb W).mono fun e w' h => ⟨_, h.1, rfl, h.2⟩), ?_⟩
                simp only [Act.put, List.setIfInBounds_toArray, List.set_cons_zero, List.set_cons_succ]
                refine .inl ⟨.bool true, fun v W hW _ => step_run rfl _ W (exec_move (.tmp 64) (.inl rfl) rfl) rfl (Gw.refl _), ?_⟩
                simp only [Act.put, List.setIfInBounds_toArray, List.set_cons_zero, List.set_cons_succ]
                refine .inl ⟨undef, fun v W hW _ => step_skip rfl rfl, ?_⟩
                simp only [Act.put, List.setIfInBounds_toArray, List.set_cons_zero, List.set_cons_succ]
                refine .inl ⟨undef, fun v W hW _ => step_skip rfl rfl, ?_⟩
                simp only [Act.put, List.setIfInBounds_toArray, List.set_cons_zero, List.set_cons_succ]
                refine .inl ⟨undef, fun v W hW _ => step_skip rfl rfl, ?_⟩
                simp only [Act.put, List.setIfInBounds_toArray, List.set_cons_zero, List.set_cons_succ]
                refine .inl ⟨.bool true, fun v W hW _ => step_run rfl _ W (exec_pick (.tmp 65) (.const (.bool true)) (.tmp 68) rfl rfl rfl) rfl (Gw.refl _), ?_⟩
                simp only [Act.put, List.setIfInBounds_toArray, List.set_cons_zero, List.set_cons_succ]
                refine .inl ⟨.bool false, fun v W hW _ => step_run rfl _ W (by go_simp) rfl (Gw.refl _), ?_⟩
                simp only [Act.put, List.setIfInBounds_toArray, List.set_cons_zero, List.set_cons_succ]
                refine .inl ⟨.bool false, fun v W hW _ => step_run rfl _ W (exec_pick (.tmp 58) (.const (.bool true)) (.tmp 70) rfl rfl rfl) rfl (Gw.refl _), ?_⟩
                simp only [Act.put, List.setIfInBounds_toArray, List.set_cons_zero, List.set_cons_succ]
                intro v W13 hW13 _
                clear hW12
                go_upto_region 15 with fail
                refine wp_region_seq (G := Gw) (W0 := wr) Gw.refl Gw.trans hW13 ?_
                refine .inl ⟨.agg (blmC b).toArray, fun v W hW _ => step_run rfl _ W (exec_load 24 (.tmp 3) rfl (w.heap.size) (0) rfl (blmC b) _ (((HG.out W hW).1).hb.rng) Try.underlying24 rfl (info_blmC ((HG.out W hW).1).hb.ok)) rfl (Gw.refl _), ?_⟩
                simp only [Act.put, List.setIfInBounds_toArray, List.set_cons_zero, List.set_cons_succ]
                refine .inl ⟨.int .i64 (i : Int), fun v W hW _ => step_run rfl _ W (exec_move (.tmp 13) (.inl rfl) rfl) rfl (Gw.refl _), ?_⟩
                simp only [Act.put, List.setIfInBounds_toArray, List.set_cons_zero, List.set_cons_succ]
                refine .inl ⟨.bool true, fun v W hW _ => step_call rfl 10 #[.agg (blmC b).toArray, .int .i64 (i : Int)] (by go_simp) ((bitb W).mono fun e w' h => ⟨_, h.1, rfl, h.2⟩), ?_⟩
                simp only [Act.put, List.setIfInBounds_toArray, List.set_cons_zero, List.set_cons_succ]
                intro v W15 hW15 _
                clear hW13
                have HZ := HG.out W15 hW15
                replace HZ : Hid (SW w W15 b c wi bo x g8 g9 ∧ Mi W15 gm 4 ms) := HZ
                clear hW15 HG hlook bitb bitc bitwi bitbo hz
                go_wp2_with fail
                go_roundw
                case rel => exact ⟨i + 1, by omega, by go_num, by rw [HAn.out]; rfl, int_eq (by rw [HCn.out, if_pos rfl]; omega), HZ⟩
                case measure => simp only [intOf]; omega
            | true =>
              replace hlook : ∀ W, Gw wr W → (Instr.lookup 29 (.map (some gm)) (.int .i64 (i : Int)) false).run Try.prog W = .ok (.int .i64 1) W := hlook
              cases bb with
              | false =>
                go_upto_region 11 with fail
                refine wp_region_seq (G := Gw) (W0 := wr) Gw.refl Gw.trans (Gw.refl wr) ?_
                refine .inl ⟨.map (some gm), fun v W hW _ => step_run rfl _ W (exec_move (.tmp 11) (.inl rfl) rfl) rfl (Gw.refl _), ?_⟩
                simp only [Act.put, List.setIfInBounds_toArray, List.set_cons_zero, List.set_cons_succ]
                refine .inl ⟨.int .i64 (i : Int), fun v W hW _ => step_run rfl _ W (exec_move (.tmp 13) (.inl rfl) rfl) rfl (Gw.refl _), ?_⟩
                simp only [Act.put, List.setIfInBounds_toArray, List.set_cons_zero, List.set_cons_succ]
                refine .inl ⟨.int .i64 1, fun v W hW _ => step_run rfl _ W (exec_look 29 (.tmp 34) (.tmp 35) rfl rfl rfl (hlook W hW)) rfl (Gw.refl _), ?_⟩
                simp only [Act.put, List.setIfInBounds_toArray, List.set_cons_zero, List.set_cons_succ]
                refine .inl ⟨.bool true, fun v W hW _ => step_run rfl _ W (by go_simp) rfl (Gw.refl _), ?_⟩
                simp only [Act.put, List.setIfInBounds_toArray, List.set_cons_zero, List.set_cons_succ]
                refine .inl ⟨.bool true, fun v W hW _ => step_run rfl _ W (exec_move (.tmp 37) (.inr rfl) rfl) rfl (Gw.refl _), ?_⟩
                simp only [Act.put, List.setIfInBounds_toArray, List.set_cons_zero, List.set_cons_succ]
                intro v W11 hW11 _
                go_upto_region 12 with fail
                refine wp_region_seq (G := Gw) (W0 := wr) Gw.refl Gw.trans hW11 ?_
                refine .inl ⟨.bool false, fun v W hW _ => step_run rfl _ W (exec_move (.tmp 7) (.inl rfl) rfl) rfl (Gw.refl _), ?_⟩
                simp only [Act.put, List.setIfInBounds_toArray, List.set_cons_zero, List.set_cons_succ]
                refine .inl ⟨.bool false, fun v W hW _ => step_run rfl _ W (exec_move (.tmp 38) (.inl rfl) rfl) rfl (Gw.refl _), ?_⟩
                simp only [Act.put, List.setIfInBounds_toArray, List.set_cons_zero, List.set_cons_succ]
                refine .inl ⟨undef, fun v W hW _ => step_skip rfl rfl, ?_⟩
                simp only [Act.put, List.setIfInBounds_toArray, List.set_cons_zero, List.set_cons_succ]
                refine .inl ⟨undef, fun v W hW _ => step_skip rfl rfl, ?_⟩
                simp only [Act.put, List.setIfInBounds_toArray, List.set_cons_zero, List.set_cons_succ]
                refine .inl ⟨undef, fun v W hW _ => step_skip rfl rfl, ?_⟩
                simp only [Act.put, List.setIfInBounds_toArray, List.set_cons_zero, List.set_cons_succ]
                refine .inl ⟨undef, fun v W hW _ => step_skip rfl rfl, ?_⟩
                simp only [Act.put, List.setIfInBounds_toArray, List.set_cons_zero, List.set_cons_succ]
                refine .inl ⟨undef, fun v W hW _ => step_skip rfl rfl, ?_⟩
                simp only [Act.put, List.setIfInBounds_toArray, List.set_cons_zero, List.set_cons_succ]
                refine .inl ⟨undef, fun v W hW _ => step_skip rfl rfl, ?_⟩
                simp only [Act.put, List.setIfInBounds_toArray, List.set_cons_zero, List.set_cons_succ]
                refine .inl ⟨undef, fun v W hW _ => step_skip rfl rfl, ?_⟩
                simp only [Act.put, List.setIfInBounds_toArray, List.set_cons_zero, List.set_cons_succ]
                refine .inl ⟨.bool false, fun v W hW _ => step_run rfl _ W (exec_pick (.tmp 39) (.tmp 46) (.const (.bool false)) rfl rfl rfl) rfl (Gw.refl _), ?_⟩
                simp only [Act.put, List.setIfInBounds_toArray, List.set_cons_zero, List.set_cons_succ]
                refine .inl ⟨.bool false, fun v W hW _ => step_run rfl _ W (exec_move (.tmp 47) (.inr rfl) rfl) rfl (Gw.refl _), ?_⟩
                simp only [Act.put, List.setIfInBounds_toArray, List.set_cons_zero, List.set_cons_succ]
                intro v W12 hW12 _
                clear hW11
                go_upto_region 13 with fail
                refine wp_region_rel (G := Gw) (W0 := wr) Gw.refl Gw.trans (by kernel_rfl) (by kernel_rfl) (by kernel_rfl) hW12.drew ?_
                refine .inl ⟨.agg (blmC wi).toArray, fun v W hW _ => step_run rfl _ W (exec_load 24 (.tmp 8) rfl (g8) (0) rfl (blmC wi) _ (((HG.out W hW).1).h8.rng) Try.underlying24 rfl (info_blmC ((HG.out W hW).1).h8.ok)) rfl (Gw.refl _), ?_⟩
                simp only [Act.put, List.setIfInBounds_toArray, List.set_cons_zero, List.set_cons_succ]
                refine .inl ⟨.int .i64 (i : Int), fun v W hW _ => step_run rfl _ W (exec_move (.tmp 13) (.inl rfl) rfl) rfl (Gw.refl _), ?_⟩
                simp only [Act.put, List.setIfInBounds_toArray, List.set_cons_zero, List.set_cons_succ]
                refine .inl ⟨.bool true, fun v W hW _ => step_call rfl 10 #[.agg (blmC wi).toArray, .int .i64 (i : Int)] (by go_simp) ((bitwi W).mono fun e w' h => ⟨_, h.1, rfl, h.2⟩), ?_⟩
                simp only [Act.put, List.setIfInBounds_toArray, List.set_cons_zero, List.set_cons_succ]
                refine .inl ⟨.bool true, fun v W hW _ => step_run rfl _ W (exec_move (.tmp 14) (.inl rfl) rfl) rfl (Gw.refl _), ?_⟩
                simp only [Act.put, List.setIfInBounds_toArray, List.set_cons_zero, List.set_cons_succ]
                refine .inl ⟨.bool true, fun v W hW _ => step_run rfl _ W (exec_move (.tmp 51) (.inl rfl) rfl) rfl (Gw.refl _), ?_⟩
                simp only [Act.put, List.setIfInBounds_toArray, List.set_cons_zero, List.set_cons_succ]
                refine .inl ⟨undef, fun v W hW _ => step_skip rfl rfl, ?_⟩
                simp only [Act.put, List.setIfInBounds_toArray, List.set_cons_zero, List.set_cons_succ]
                refine .inl ⟨undef, fun v W hW _ => step_skip rfl rfl, ?_⟩
                simp only [Act.put, List.setIfInBounds_toArray, List.set_cons_zero, List.set_cons_succ]
                refine .inl ⟨undef, fun v W hW _ => step_skip rfl rfl, ?_⟩
                simp only [Act.put, List.setIfInBounds_toArray, List.set_cons_zero, List.set_cons_succ]
                refine .inl ⟨.bool true, fun v W hW _ => step_run rfl _ W (exec_pick (.tmp 52) (.const (.bool true)) (.tmp 55) rfl rfl rfl) rfl (Gw.refl _), ?_⟩
                simp only [Act.put, List.setIfInBounds_toArray, List.set_cons_zero, List.set_cons_succ]
                refine .inl ⟨.bool false, fun v W hW _ => step_run rfl _ W (by go_simp) rfl (Gw.refl _), ?_⟩
                simp only [Act.put, List.setIfInBounds_toArray, List.set_cons_zero, List.set_cons_succ]
                refine .inl ⟨.bool false, fun v W hW _ => step_run rfl _ W (exec_move (.tmp 57) (.inl rfl) rfl) rfl (Gw.refl _), ?_⟩
                simp only [Act.put, List.setIfInBounds_toArray, List.set_cons_zero, List.set_cons_succ]
                refine .inl ⟨.agg (blmC bo).toArray, fun v W hW _ => step_run rfl _ W (exec_load 24 (.tmp 9) rfl (g9) (0) rfl (blmC bo) _ (((HG.out W hW).1).h9.rng) Try.underlying24 rfl (info_blmC ((HG.out W hW).1).h9.ok)) rfl (Gw.refl _), ?_⟩
                simp only [Act.put, List.setIfInBounds_toArray, List.set_cons_zero, List.set_cons_succ]
                refine .inl ⟨.int .i64 (i : Int), fun v W hW _ => step_run rfl _ W (exec_move (.tmp 13) (.inl rfl) rfl) rfl (Gw.refl _), ?_⟩
                simp only [Act.put, List.setIfInBounds_toArray, List.set_cons_zero, List.set_cons_succ]
                refine .inl ⟨.bool cb, fun v W hW _ => step_call rfl 10 #[.agg (blmC bo).toArray, .int .i64 (i : Int)] (by go_simp) ((bitbo W).mono fun e w' h => ⟨_, h.1, rfl, h.2⟩), ?_⟩
                simp only [Act.put, List.setIfInBounds_toArray, List.set_cons_zero, List.set_cons_succ]
                refine .inl ⟨.agg (blmC b).toArray, fun v W hW _ => step_run rfl _ W (exec_load 24 (.tmp 3) rfl (w.heap.size) (0) rfl (blmC b) _ (((HG.out W hW).1).hb.rng) Try.underlying24 rfl (info_blmC ((HG.out W hW).1).hb.ok)) rfl (Gw.refl _), ?_⟩
                simp only [Act.put, List.setIfInBounds_toArray, List.set_cons_zero, List.set_cons_succ]
                refine .inl ⟨.int .i64 (i : Int), fun v W hW _ => step_run rfl _ W (exec_move (.tmp 13) (.inl rfl) rfl) rfl (Gw.refl _), ?_⟩
                simp only [Act.put, List.setIfInBounds_toArray, List.set_cons_zero, List.set_cons_succ]
                refine .inl ⟨.bool false, fun v W hW _ => step_call rfl 10 #[.agg (blmC b).toArray, .int .i64 (i : Int)] (by go_simp) ((bitb W).mono fun e w' h => ⟨_, h.1, rfl, h.2⟩), ?_⟩
                simp only [Act.put, List.setIfInBounds_toArray, List.set_cons_zero, List.set_cons_succ]
                refine .inl ⟨.bool false, fun v W hW _ => step_run rfl _ W (exec_move (.tmp 64) (.inl rfl) rfl) rfl (Gw.refl _), ?_⟩
                simp only [Act.put, List.setIfInBounds_toArray, List.set_cons_zero, List.set_cons_succ]
                refine .inl ⟨.agg (blmC c).toArray, fun v W hW _ => step_run rfl _ W (exec_load 24 (.tmp 4) rfl (w.heap.size + 1) (0) rfl (blmC c) _ (((HG.out W hW).1).hc.rng) Try.underlying24 rfl (info_blmC ((HG.out W hW).1).hc.ok)) rfl (Gw.refl _), ?_⟩
                simp only [Act.put, List.setIfInBounds_toArray, List.set_cons_zero, List.set_cons_succ]
                refine .inl ⟨.int .i64 (i : Int), fun v W hW _ => step_run rfl _ W (exec_move (.tmp 13) (.inl rfl) rfl) rfl (Gw.refl _), ?_⟩
                simp only [Act.put, List.setIfInBounds_toArray, List.set_cons_zero, List.set_cons_succ]
                refine .inl ⟨.bool cb, fun v W hW _ => step_call rfl 10 #[.agg (blmC c).toArray, .int .i64 (i : Int)] (by go_simp) ((bitc W).mono fun e w' h => ⟨_, h.1, rfl, h.2⟩), ?_⟩
                simp only [Act.put, List.setIfInBounds_toArray, List.set_cons_zero, List.set_cons_succ]
                refine .inl ⟨.bool cb, fun v W hW _ => step_run rfl _ W (exec_pick (.tmp 65) (.const (.bool true)) (.tmp 68) rfl rfl rfl) rfl (Gw.refl _), ?_⟩
                simp only [Act.put, List.setIfInBounds_toArray, List.set_cons_zero, List.set_cons_succ]
                refine .inl ⟨.bool false, fun v W hW _ => step_run rfl _ W (by go_simp) rfl (Gw.refl _), ?_⟩
                simp only [Act.put, List.setIfInBounds_toArray, List.set_cons_zero, List.set_cons_succ]
                refine .inl ⟨.bool false, fun v W hW _ => step_run rfl _ W (exec_pick (.tmp 58) (.const (.bool true)) (.tmp 70) rfl rfl rfl) rfl (Gw.refl _), ?_⟩
                simp only [Act.put, List.setIfInBounds_toArray, List.set_cons_zero, List.set_cons_succ]
                intro v W13 hW13 _
                clear hW12
                go_upto_region 15 with fail
                refine wp_region_seq (G := Gw) (W0 := wr) Gw.refl Gw.trans hW13 ?_
                refine .inl ⟨.agg (blmC b).toArray, fun v W hW _ => step_run rfl _ W (exec_load 24 (.tmp 3) rfl (w.heap.size) (0) rfl (blmC b) _ (((HG.out W hW).1).hb.rng) Try.underlying24 rfl (info_blmC ((HG.out W hW).1).hb.ok)) rfl (Gw.refl _), ?_⟩
                simp only [Act.put, List.setIfInBounds_toArray, List.set_cons_zero, List.set_cons_succ]
                refine .inl ⟨.int .i64 (i : Int), fun v W hW _ => step_run rfl _ W (exec_move (.tmp 13) (.inl rfl) rfl) rfl (Gw.refl _), ?_⟩
                simp only [Act.put, List.setIfInBounds_toArray, List.set_cons_zero, List.set_cons_succ]
                refine .inl ⟨.bool false, fun v W hW _ => step_call rfl 10 #[.agg (blmC b).toArray, .int .i64 (i : Int)] (by go_simp) ((bitb W).mono fun e w' h => ⟨_, h.1, rfl, h.2⟩), ?_⟩
                simp only [Act.put, List.setIfInBounds_toArray, List.set_cons_zero, List.set_cons_succ]
                intro v W15 hW15 _
                clear hW13
                have HZ := HG.out W15 hW15
                replace HZ : Hid (SW w W15 b c wi bo x g8 g9 ∧ Mi W15 gm 4 ms) := HZ
                clear hW15 HG hlook bitb bitc bitwi bitbo hz
                go_wp2_with fail
                go_roundw
                case rel => exact ⟨i + 1, by omega, by go_num, by rw [HAn.out]; rfl, int_eq (by rw [HCn.out, if_neg (by decide), Nat.add_zero]), HZ⟩
                case measure => simp only [intOf]; omega
              | true =>
                go_upto_region 11 with fail
                refine wp_region_seq (G := Gw) (W0 := wr) Gw.refl Gw.trans (Gw.refl wr) ?_
                refine .inl ⟨.map (some gm), fun v W hW _ => step_run rfl _ W (exec_move (.tmp 11) (.inl rfl) rfl) rfl (Gw.refl _), ?_⟩
                simp only [Act.put, List.setIfInBounds_toArray, List.set_cons_zero, List.set_cons_succ]
                refine .inl ⟨.int .i64 (i : Int), fun v W hW _ => step_run rfl _ W (exec_move (.tmp 13) (.inl rfl) rfl) rfl (Gw.refl _), ?_⟩
                simp only [Act.put, List.setIfInBounds_toArray, List.set_cons_zero, List.set_cons_succ]
                refine .inl ⟨.int .i64 1, fun v W hW _ => step_run rfl _ W (exec_look 29 (.tmp 34) (.tmp 35) rfl rfl rfl (hlook W hW)) rfl (Gw.refl _), ?_⟩
                simp only [Act.put, List.setIfInBounds_toArray, List.set_cons_zero, List.set_cons_succ]
                refine .inl ⟨.bool true, fun v W hW _ => step_run rfl _ W (by go_simp) rfl (Gw.refl _), ?_⟩
                simp only [Act.put, List.setIfInBounds_toArray, List.set_cons_zero, List.set_cons_succ]
                refine .inl ⟨.bool true, fun v W hW _ => step_run rfl _ W (exec_move (.tmp 37) (.inr rfl) rfl) rfl (Gw.refl _), ?_⟩
                simp only [Act.put, List.setIfInBounds_toArray, List.set_cons_zero, List.set_cons_succ]
                intro v W11 hW11 _
                go_upto_region 12 with fail
                refine wp_region_seq (G := Gw) (W0 := wr) Gw.refl Gw.trans hW11 ?_
                refine .inl ⟨.bool false, fun v W hW _ => step_run rfl _ W (exec_move (.tmp 7) (.inl rfl) rfl) rfl (Gw.refl _), ?_⟩
                simp only [Act.put, List.setIfInBounds_toArray, List.set_cons_zero, List.set_cons_succ]
                refine .inl ⟨.bool false, fun v W hW _ => step_run rfl _ W (exec_move (.tmp 38) (.inl rfl) rfl) rfl (Gw.refl _), ?_⟩
                simp only [Act.put, List.setIfInBounds_toArray, List.set_cons_zero, List.set_cons_succ]
                refine .inl ⟨undef, fun v W hW _ => step_skip rfl rfl, ?_⟩
                simp only [Act.put, List.setIfInBounds_toArray, List.set_cons_zero, List.set_cons_succ]
                refine .inl ⟨undef, fun v W hW _ => step_skip rfl rfl, ?_⟩
                simp only [Act.put, List.setIfInBounds_toArray, List.set_cons_zero, List.set_cons_succ]
                refine .inl ⟨undef, fun v W hW _ => step_skip rfl rfl, ?_⟩
                simp only [Act.put, List.setIfInBounds_toArray, List.set_cons_zero, List.set_cons_succ]
                refine .inl ⟨undef, fun v W hW _ => step_skip rfl rfl, ?_⟩
                simp only [Act.put, List.setIfInBounds_toArray, List.set_cons_zero, List.set_cons_succ]
                refine .inl ⟨undef, fun v W hW _ => step_skip rfl rfl, ?_⟩
                simp only [Act.put, List.setIfInBounds_toArray, List.set_cons_zero, List.set_cons_succ]
                refine .inl ⟨undef, fun v W hW _ => step_skip rfl rfl, ?_⟩
                simp only [Act.put, List.setIfInBounds_toArray, List.set_cons_zero, List.set_cons_succ]
                refine .inl ⟨undef, fun v W hW _ => step_skip rfl rfl, ?_⟩
                simp only [Act.put, List.setIfInBounds_toArray, List.set_cons_zero, List.set_cons_succ]
                refine .inl ⟨.bool false, fun v W hW _ => step_run rfl _ W (exec_pick (.tmp 39) (.tmp 46) (.const (.bool false)) rfl rfl rfl) rfl (Gw.refl _), ?_⟩
                simp only [Act.put, List.setIfInBounds_toArray, List.set_cons_zero, List.set_cons_succ]
                refine .inl ⟨.bool false, fun v W hW _ => step_run rfl _ W (exec_move (.tmp 47) (.inr rfl) rfl) rfl (Gw.refl _), ?_⟩
                simp only [Act.put, List.setIfInBounds_toArray, List.set_cons_zero, List.set_cons_succ]
                intro v W12 hW12 _
                clear hW11
                go_upto_region 13 with fail
                refine wp_region_rel (G := Gw) (W0 := wr) Gw.refl Gw.trans (by kernel_rfl) (by kernel_rfl) (by kernel_rfl) hW12.drew ?_
                refine .inl ⟨.agg (blmC wi).toArray, fun v W hW _ => step_run rfl _ W (exec_load 24 (.tmp 8) rfl (g8) (0) rfl (blmC wi) _ (((HG.out W hW).1).h8.rng) Try.underlying24 rfl (info_blmC ((HG.out W hW).1).h8.ok)) rfl (Gw.refl _), ?_⟩
                simp only [Act.put, List.setIfInBounds_toArray, List.set_cons_zero, List.set_cons_succ]
                refine .inl ⟨.int .i64 (i : Int), fun v W hW _ => step_run rfl _ W (exec_move (.tmp 13) (.inl rfl) rfl) rfl (Gw.refl _), ?_⟩
                simp only [Act.put, List.setIfInBounds_toArray, List.set_cons_zero, List.set_cons_succ]
                refine .inl ⟨.bool true, fun v W hW _ => step_call rfl 10 #[.agg (blmC wi).toArray, .int .i64 (i : Int)] (by go_simp) ((bitwi W).mono fun e w' h => ⟨_, h.1, rfl, h.2⟩), ?_⟩
                simp only [Act.put, List.setIfInBounds_toArray, List.set_cons_zero, List.set_cons_succ]
                refine .inl ⟨.bool true, fun v W hW _ => step_run rfl _ W (exec_move (.tmp 14) (.inl rfl) rfl) rfl (Gw.refl _), ?_⟩
                simp only [Act.put, List.setIfInBounds_toArray, List.set_cons_zero, List.set_cons_succ]
                refine .inl ⟨.bool true, fun v W hW _ => step_run rfl _ W (exec_move (.tmp 51) (.inl rfl) rfl) rfl (Gw.refl _), ?_⟩
                simp only [Act.put, List.setIfInBounds_toArray, List.set_cons_zero, List.set_cons_succ]
                refine .inl ⟨undef, fun v W hW _ => step_skip rfl rfl, ?_⟩
                simp only [Act.put, List.setIfInBounds_toArray, List.set_cons_zero, List.set_cons_succ]
                refine .inl ⟨undef, fun v W hW _ => step_skip rfl rfl, ?_⟩
                simp only [Act.put, List.setIfInBounds_toArray, List.set_cons_zero, List.set_cons_succ]
                refine .inl ⟨undef, fun v W hW _ => step_skip rfl rfl, ?_⟩
                simp only [Act.put, List.setIfInBounds_toArray, List.set_cons_zero, List.set_cons_succ]
                refine .inl ⟨.bool true, fun v W hW _ => step_run rfl _ W (exec_pick (.tmp 52) (.const (.bool true)) (.tmp 55) rfl rfl rfl) rfl (Gw.refl _), ?_⟩
                simp only [Act.put, List.setIfInBounds_toArray, List.set_cons_zero, List.set_cons_succ]
                refine .inl ⟨.bool false, fun v W hW _ => step_run rfl _ W (by go_simp) rfl (Gw.refl _), ?_⟩
                simp only [Act.put, List.setIfInBounds_toArray, List.set_cons_zero, List.set_cons_succ]
                refine .inl ⟨.bool false, fun v W hW _ => step_run rfl _ W (exec_move (.tmp 57) (.inl rfl) rfl) rfl (Gw.refl _), ?_⟩
                simp only [Act.put, List.setIfInBounds_toArray, List.set_cons_zero, List.set_cons_succ]
                refine .inl ⟨.agg (blmC bo).toArray, fun v W hW _ => step_run rfl _ W (exec_load 24 (.tmp 9) rfl (g9) (0) rfl (blmC bo) _ (((HG.out W hW).1).h9.rng) Try.underlying24 rfl (info_blmC ((HG.out W hW).1).h9.ok)) rfl (Gw.refl _), ?_⟩
                simp only [Act.put, List.setIfInBounds_toArray, List.set_cons_zero, List.set_cons_succ]
                refine .inl ⟨.int .i64 (i : Int), fun v W hW _ => step_run rfl _ W (exec_move (.tmp 13) (.inl rfl) rfl) rfl (Gw.refl _), ?_⟩
                simp only [Act.put, List.setIfInBounds_toArray, List.set_cons_zero, List.set_cons_succ]
                refine .inl ⟨.bool true, fun v W hW _ => step_call rfl 10 #[.agg (blmC bo).toArray, .int .i64 (i : Int)] (by go_simp) ((bitbo W).mono fun e w' h => ⟨_, h.1, rfl, h.2⟩), ?_⟩
                simp only [Act.put, List.setIfInBounds_toArray, List.set_cons_zero, List.set_cons_succ]
                refine .inl ⟨.agg (blmC b).toArray, fun v W hW _ => step_run rfl _ W (exec_load 24 (.tmp 3) rfl (w.heap.size) (0) rfl (blmC b) _ (((HG.out W hW).1).hb.rng) Try.underlying24 rfl (info_blmC ((HG.out W hW).1).hb.ok)) rfl (Gw.refl _), ?_⟩
                simp only [Act.put, List.setIfInBounds_toArray, List.set_cons_zero, List.set_cons_succ]
                refine .inl ⟨.int .i64 (i : Int), fun v W hW _ => step_run rfl _ W (exec_move (.tmp 13) (.inl rfl) rfl) rfl (Gw.refl _), ?_⟩
                simp only [Act.put, List.setIfInBounds_toArray, List.set_cons_zero, List.set_cons_succ]
                refine .inl ⟨.bool true, fun v W hW _ => step_call rfl 10 #[.agg (blmC b).toArray, .int .i64 (i : Int)] (by go_simp) ((bitb W).mono fun e w' h => ⟨_, h.1, rfl, h.2⟩), ?_⟩
                simp only [Act.put, List.setIfInBounds_toArray, List.set_cons_zero, List.set_cons_succ]
                refine .inl ⟨.bool true, fun v W hW _ => step_run rfl _ W (exec_move (.tmp 64) (.inl rfl) rfl) rfl (Gw.refl _), ?_⟩
                simp only [Act.put, List.setIfInBounds_toArray, List.set_cons_zero, List.set_cons_succ]
                refine .inl ⟨undef, fun v W hW _ => step_skip rfl rfl, ?_⟩
                simp only [Act.put, List.setIfInBounds_toArray, List.set_cons_zero, List.set_cons_succ]
                refine .inl ⟨undef, fun v W hW _ => step_skip rfl rfl, ?_⟩
                simp only [Act.put, List.setIfInBounds_toArray, List.set_cons_zero, List.set_cons_succ]
                refine .inl ⟨undef, fun v W hW _ => step_skip rfl rfl, ?_⟩
                simp only [Act.put, List.setIfInBounds_toArray, List.set_cons_zero, List.set_cons_succ]
                refine .inl ⟨.bool true, fun v W hW _ => step_run rfl _ W (exec_pick (.tmp 65) (.const (.bool true)) (.tmp 68) rfl rfl rfl) rfl (Gw.refl _), ?_⟩
                simp only [Act.put, List.setIfInBounds_toArray, List.set_cons_zero, List.set_cons_succ]
                refine .inl ⟨.bool false, fun v W hW _ => step_run rfl _ W (by go_simp) rfl (Gw.refl _), ?_⟩
                simp only [Act.put, List.setIfInBounds_toArray, List.set_cons_zero, List.set_cons_succ]
                refine .inl ⟨.bool false, fun v W hW _ => step_run rfl _ W (exec_pick (.tmp 58) (.const (.bool true)) (.tmp 70) rfl rfl rfl) rfl (Gw.refl _), ?_⟩
                simp only [Act.put, List.setIfInBounds_toArray, List.set_cons_zero, List.set_cons_succ]
                intro v W13 hW13 _
                clear hW12
                go_upto_region 15 with fail
                refine wp_region_seq (G := Gw) (W0 := wr) Gw.refl Gw.trans hW13 ?_
                refine .inl ⟨.agg (blmC b).toArray, fun v W hW _ => step_run rfl _ W (exec_load 24 (.tmp 3) rfl (w.heap.size) (0) rfl (blmC b) _ (((HG.out W hW).1).hb.rng) Try.underlying24 rfl (info_blmC ((HG.out W hW).1).hb.ok)) rfl (Gw.refl _), ?_⟩
                simp only [Act.put, List.setIfInBounds_toArray, List.set_cons_zero, List.set_cons_succ]
                refine .inl ⟨.int .i64 (i : Int), fun v W hW _ => step_run rfl _ W (exec_move (.tmp 13) (.inl rfl) rfl) rfl (Gw.refl _), ?_⟩
                simp only [Act.put, List.setIfInBounds_toArray, List.set_cons_zero, List.set_cons_succ]
                refine .inl ⟨.bool true, fun v W hW _ => step_call rfl 10 #[.agg (blmC b).toArray, .int .i64 (i : Int)] (by go_simp) ((bitb W).mono fun e w' h => ⟨_, h.1, rfl, h.2⟩), ?_⟩
                simp only [Act.put, List.setIfInBounds_toArray, List.set_cons_zero, List.set_cons_succ]
                intro v W15 hW15 _
                clear hW13
                have HZ := HG.out W15 hW15
                replace HZ : Hid (SW w W15 b c wi bo x g8 g9 ∧ Mi W15 gm 4 ms) := HZ
                clear hW15 HG hlook bitb bitc bitwi bitbo hz
                go_wp2_with fail
                go_roundw
                case rel => exact ⟨i + 1, by omega, by go_num, by rw [HAn.out]; rfl, int_eq (by rw [HCn.out, if_pos rfl]; omega), HZ⟩
                case measure => simp only [intOf]; omega
          | true =>
            cases is_ with
            | false =>
              replace hlook : ∀ W, Gw wr W → (Instr.lookup 29 (.map (some gm)) (.int .i64 (i : Int)) false).run Try.prog W = .ok (.int .i64 0) W := hlook
              cases bb with
              | false =>
                go_upto_region 11 with fail
                refine wp_region_seq (G := Gw) (W0 := wr) Gw.refl Gw.trans (Gw.refl wr) ?_
                refine .inl ⟨.map (some gm), fun v W hW _ => step_run rfl _ W (exec_move (.tmp 11) (.inl rfl) rfl) rfl (Gw.refl _), ?_⟩
                simp only [Act.put, List.setIfInBounds_toArray, List.set_cons_zero, List.set_cons_succ]
                refine .inl ⟨.int .i64 (i : Int), fun v W hW _ => step_run rfl _ W (exec_move (.tmp 13) (.inl rfl) rfl) rfl (Gw.refl _), ?_⟩
                simp only [Act.put, List.setIfInBounds_toArray, List.set_cons_zero, List.set_cons_succ]
                refine .inl ⟨.int .i64 0, fun v W hW _ => step_run rfl _ W (exec_look 29 (.tmp 34) (.tmp 35) rfl rfl rfl (hlook W hW)) rfl (Gw.refl _), ?_⟩
                simp only [Act.put, List.setIfInBounds_toArray, List.set_cons_zero, List.set_cons_succ]
                refine .inl ⟨.bool false, fun v W hW _ => step_run rfl _ W (by go_simp) rfl (Gw.refl _), ?_⟩
                simp only [Act.put, List.setIfInBounds_toArray, List.set_cons_zero, List.set_cons_succ]
                refine .inl ⟨.bool false, fun v W hW _ => step_run rfl _ W (exec_move (.tmp 37) (.inr rfl) rfl) rfl (Gw.refl _), ?_⟩
                simp only [Act.put, List.setIfInBounds_toArray, List.set_cons_zero, List.set_cons_succ]
                intro v W11 hW11 _
                go_upto_region 12 with fail
                refine wp_region_seq (G := Gw) (W0 := wr) Gw.refl Gw.trans hW11 ?_
                refine .inl ⟨.bool true, fun v W hW _ => step_run rfl _ W (exec_move (.tmp 7) (.inl rfl) rfl) rfl (Gw.refl _), ?_⟩
                simp only [Act.put, List.setIfInBounds_toArray, List.set_cons_zero, List.set_cons_succ]
                refine .inl ⟨.bool true, fun v W hW _ => step_run rfl _ W (exec_move (.tmp 38) (.inl rfl) rfl) rfl (Gw.refl _), ?_⟩
                simp only [Act.put, List.setIfInBounds_toArray, List.set_cons_zero, List.set_cons_succ]
                refine .inl ⟨.bool false, fun v W hW _ => step_run rfl _ W (exec_move (.tmp 14) (.inl rfl) rfl) rfl (Gw.refl _), ?_⟩
                simp only [Act.put, List.setIfInBounds_toArray, List.set_cons_zero, List.set_cons_succ]
                refine .inl ⟨.bool true, fun v W hW _ => step_run rfl _ W (by go_simp) rfl (Gw.refl _), ?_⟩
                simp only [Act.put, List.setIfInBounds_toArray, List.set_cons_zero, List.set_cons_succ]
                refine .inl ⟨.bool true, fun v W hW _ => step_run rfl _ W (exec_move (.tmp 41) (.inl rfl) rfl) rfl (Gw.refl _), ?_⟩
                simp only [Act.put, List.setIfInBounds_toArray, List.set_cons_zero, List.set_cons_succ]
                refine .inl ⟨undef, fun v W hW _ => step_skip rfl rfl, ?_⟩
                simp only [Act.put, List.setIfInBounds_toArray, List.set_cons_zero, List.set_cons_succ]
                refine .inl ⟨undef, fun v W hW _ => step_skip rfl rfl, ?_⟩
                simp only [Act.put, List.setIfInBounds_toArray, List.set_cons_zero, List.set_cons_succ]
                refine .inl ⟨undef, fun v W hW _ => step_skip rfl rfl, ?_⟩
                simp only [Act.put, List.setIfInBounds_toArray, List.set_cons_zero, List.set_cons_succ]
                refine .inl ⟨.bool true, fun v W hW _ => step_run rfl _ W (exec_pick (.tmp 42) (.const (.bool true)) (.tmp 45) rfl rfl rfl) rfl (Gw.refl _), ?_⟩
                simp only [Act.put, List.setIfInBounds_toArray, List.set_cons_zero, List.set_cons_succ]
                refine .inl ⟨.bool true, fun v W hW _ => step_run rfl _ W (exec_pick (.tmp 39) (.tmp 46) (.const (.bool false)) rfl rfl rfl) rfl (Gw.refl _), ?_⟩
                simp only [Act.put, List.setIfInBounds_toArray, List.set_cons_zero, List.set_cons_succ]
                refine .inl ⟨.bool true, fun v W hW _ => step_run rfl _ W (exec_move (.tmp 47) (.inr rfl) rfl) rfl (Gw.refl _), ?_⟩
                simp only [Act.put, List.setIfInBounds_toArray, List.set_cons_zero, List.set_cons_succ]
                intro v W12 hW12 _
                clear hW11
                go_upto_region 13 with fail
                refine wp_region_rel (G := Gw) (W0 := wr) Gw.refl Gw.trans (by kernel_rfl) (by kernel_rfl) (by kernel_rfl) hW12.drew ?_
                refine .inl ⟨.agg (blmC wi).toArray, fun v W hW _ => step_run rfl _ W (exec_load 24 (.tmp 8) rfl (g8) (0) rfl (blmC wi) _ (((HG.out W hW).1).h8.rng) Try.underlying24 rfl (info_blmC ((HG.out W hW).1).h8.ok)) rfl (Gw.refl _), ?_⟩
                simp only [Act.put, List.setIfInBounds_toArray, List.set_cons_zero, List.set_cons_succ]
                refine .inl ⟨.int .i64 (i : Int), fun v W hW _ => step_run rfl _ W (exec_move (.tmp 13) (.inl rfl) rfl) rfl (Gw.refl _), ?_⟩
                simp only [Act.put, List.setIfInBounds_toArray, List.set_cons_zero, List.set_cons_succ]
                refine .inl ⟨.bool false, fun v W hW _ => step_call rfl 10 #[.agg (blmC wi).toArray, .int .i64 (i : Int)] (by go_simp) ((bitwi W).mono fun e w' h => ⟨_, h.1, rfl, h.2⟩), ?_⟩
                simp only [Act.put, List.setIfInBounds_toArray, List.set_cons_zero, List.set_cons_succ]
                refine .inl ⟨.bool false, fun v W hW _ => step_run rfl _ W (exec_move (.tmp 14) (.inl rfl) rfl) rfl (Gw.refl _), ?_⟩
                simp only [Act.put, List.setIfInBounds_toArray, List.set_cons_zero, List.set_cons_succ]
                refine .inl ⟨.bool false, fun v W hW _ => step_run rfl _ W (exec_move (.tmp 51) (.inl rfl) rfl) rfl (Gw.refl _), ?_⟩
                simp only [Act.put, List.setIfInBounds_toArray, List.set_cons_zero, List.set_cons_succ]
                refine .inl ⟨.agg (blmC b).toArray, fun v W hW _ => step_run rfl _ W (exec_load 24 (.tmp 3) rfl (w.heap.size) (0) rfl (blmC b) _ (((HG.out W hW).1).hb.rng) Try.underlying24 rfl (info_blmC ((HG.out W hW).1).hb.ok)) rfl (Gw.refl _), ?_⟩
                simp only [Act.put, List.setIfInBounds_toArray, List.set_cons_zero, List.set_cons_succ]
                refine .inl ⟨.int .i64 (i : Int), fun v W hW _ => step_run rfl _ W (exec_move (.tmp 13) (.inl rfl) rfl) rfl (Gw.refl _), ?_⟩
                simp only [Act.put, List.setIfInBounds_toArray, List.set_cons_zero, List.set_cons_succ]
                refine .inl ⟨.bool false, fun v W hW _ => step_call rfl 10 #[.agg (blmC b).toArray, .int .i64 (i : Int)] (by go_simp) ((bitb W).mono fun e w' h => ⟨_, h.1, rfl, h.2⟩), ?_⟩
                simp only [Act.put, List.setIfInBounds_toArray, List.set_cons_zero, List.set_cons_succ]
                refine .inl ⟨.bool false, fun v W hW _ => step_run rfl _ W (exec_pick (.tmp 52) (.const (.bool true)) (.tmp 55) rfl rfl rfl) rfl (Gw.refl _), ?_⟩
                simp only [Act.put, List.setIfInBounds_toArray, List.set_cons_zero, List.set_cons_succ]
                refine .inl ⟨.bool false, fun v W hW _ => step_run rfl _ W (by go_simp) rfl (Gw.refl _), ?_⟩
                simp only [Act.put, List.setIfInBounds_toArray, List.set_cons_zero, List.set_cons_succ]
                refine .inl ⟨.bool false, fun v W hW _ => step_run rfl _ W (exec_move (.tmp 57) (.inl rfl) rfl) rfl (Gw.refl _), ?_⟩
                simp only [Act.put, List.setIfInBounds_toArray, List.set_cons_zero, List.set_cons_succ]
                refine .inl ⟨.agg (blmC bo).toArray, fun v W hW _ => step_run rfl _ W (exec_load 24 (.tmp 9) rfl (g9) (0) rfl (blmC bo) _ (((HG.out W hW).1).h9.rng) Try.underlying24 rfl (info_blmC ((HG.out W hW).1).h9.ok)) rfl (Gw.refl _), ?_⟩
                simp only [Act.put, List.setIfInBounds_toArray, List.set_cons_zero, List.set_cons_succ]
                refine .inl ⟨.int .i64 (i : Int), fun v W hW _ => step_run rfl _ W (exec_move (.tmp 13) (.inl rfl) rfl) rfl (Gw.refl _), ?_⟩
                simp only [Act.put, List.setIfInBounds_toArray, List.set_cons_zero, List.set_cons_succ]
                refine .inl ⟨.bool cb, fun v W hW _ => step_call rfl 10 #[.agg (blmC bo).toArray, .int .i64 (i : Int)] (by go_simp) ((bitbo W).mono fun e w' h => ⟨_, h.1, rfl, h.2⟩), ?_⟩
                simp only [Act.put, List.setIfInBounds_toArray, List.set_cons_zero, List.set_cons_succ]
                refine .inl ⟨.agg (blmC b).toArray, fun v W hW _ => step_run rfl _ W (exec_load 24 (.tmp 3) rfl (w.heap.size) (0) rfl (blmC b) _ (((HG.out W hW).1).hb.rng) Try.underlying24 rfl (info_blmC ((HG.out W hW).1).hb.ok)) rfl (Gw.refl _), ?_⟩
                simp only [Act.put, List.setIfInBounds_toArray, List.set_cons_zero, List.set_cons_succ]
                refine .inl ⟨.int .i64 (i : Int), fun v W hW _ => step_run rfl _ W (exec_move (.tmp 13) (.inl rfl) rfl) rfl (Gw.refl _), ?_⟩
                simp only [Act.put, List.setIfInBounds_toArray, List.set_cons_zero, List.set_cons_succ]
                refine .inl ⟨.bool false, fun v W hW _ => step_call rfl 10 #[.agg (blmC b).toArray, .int .i64 (i : Int)] (by go_simp) ((bitb W).mono fun e w' h => ⟨_, h.1, rfl, h.2⟩), ?_⟩
                simp only [Act.put, List.setIfInBounds_toArray, List.set_cons_zero, List.set_cons_succ]
                refine .inl ⟨.bool false, fun v W hW _ => step_run rfl _ W (exec_move (.tmp 64) (.inl rfl) rfl) rfl (Gw.refl _), ?_⟩
                simp only [Act.put, List.setIfInBounds_toArray, List.set_cons_zero, List.set_cons_succ]
                refine .inl ⟨.agg (blmC c).toArray, fun v W hW _ => step_run rfl _ W (exec_load 24 (.tmp 4) rfl (w.heap.size + 1) (0) rfl (blmC c) _ (((HG.out W hW).1).hc.rng) Try.underlying24 rfl (info_blmC ((HG.out W hW).1).hc.ok)) rfl (Gw.refl _), ?_⟩
                simp only [Act.put, List.setIfInBounds_toArray, List.set_cons_zero, List.set_cons_succ]
                refine .inl ⟨.int .i64 (i : Int), fun v W hW _ => step_run rfl _ W (exec_move (.tmp 13) (.inl rfl) rfl) rfl (Gw.refl _), ?_⟩
                simp only [Act.put, List.setIfInBounds_toArray, List.set_cons_zero, List.set_cons_succ]
                refine .inl ⟨.bool cb, fun v W hW _ => step_call rfl 10 #[.agg (blmC c).toArray, .int .i64 (i : Int)] (by go_simp) ((bitc W).mono fun e w' h => ⟨_, h.1, rfl, h.2⟩), ?_⟩
                simp only [Act.put, List.setIfInBounds_toArray, List.set_cons_zero, List.set_cons_succ]
                refine .inl ⟨.bool cb, fun v W hW _ => step_run rfl _ W (exec_pick (.tmp 65) (.const (.bool true)) (.tmp 68) rfl rfl rfl) rfl (Gw.refl _), ?_⟩
                simp only [Act.put, List.setIfInBounds_toArray, List.set_cons_zero, List.set_cons_succ]
                refine .inl ⟨.bool false, fun v W hW _ => step_run rfl _ W (by go_simp) rfl (Gw.refl _), ?_⟩
                simp only [Act.put, List.setIfInBounds_toArray, List.set_cons_zero, List.set_cons_succ]
                refine .inl ⟨.bool false, fun v W hW _ => step_run rfl _ W (exec_pick (.tmp 58) (.const (.bool true)) (.tmp 70) rfl rfl rfl) rfl (Gw.refl _), ?_⟩
                simp only [Act.put, List.setIfInBounds_toArray, List.set_cons_zero, List.set_cons_succ]
                intro v W13 hW13 _
                clear hW12
                go_upto_region 15 with fail
                refine wp_region_seq (G := Gw) (W0 := wr) Gw.refl Gw.trans hW13 ?_
                refine .inl ⟨.agg (blmC b).toArray, fun v W hW _ => step_run rfl _ W (exec_load 24 (.tmp 3) rfl (w.heap.size) (0) rfl (blmC b) _ (((HG.out W hW).1).hb.rng) Try.underlying24 rfl (info_blmC ((HG.out W hW).1).hb.ok)) rfl (Gw.refl _), ?_⟩
                simp only [Act.put, List.setIfInBounds_toArray, List.set_cons_zero, List.set_cons_succ]
                refine .inl ⟨.int .i64 (i : Int), fun v W hW _ => step_run rfl _ W (exec_move (.tmp 13) (.inl rfl) rfl) rfl (Gw.refl _), ?_⟩
                simp only [Act.put, List.setIfInBounds_toArray, List.set_cons_zero, List.set_cons_succ]
                refine .inl ⟨.bool false, fun v W hW _ => step_call rfl 10 #[.agg (blmC b).toArray, .int .i64 (i : Int)] (by go_simp) ((bitb W).mono fun e w' h => ⟨_, h.1, rfl, h.2⟩), ?_⟩
                simp only [Act.put, List.setIfInBounds_toArray, List.set_cons_zero, List.set_cons_succ]
                intro v W15 hW15 _
                clear hW13
                have HZ := HG.out W15 hW15
                replace HZ : Hid (SW w W15 b c wi bo x g8 g9 ∧ Mi W15 gm 4 ms) := HZ
                clear hW15 HG hlook bitb bitc bitwi bitbo hz
                go_wp2_with fail
                go_roundw
                case rel => exact ⟨i + 1, by omega, by go_num, by rw [HAn.out]; rfl, int_eq (by rw [HCn.out, if_neg (by decide), Nat.add_zero]), HZ⟩
                case measure => simp only [intOf]; omega
              | true =>
                go_upto_region 11 with fail
                refine wp_region_seq (G := Gw) (W0 := wr) Gw.refl Gw.trans (Gw.refl wr) ?_
                refine .inl ⟨.map (some gm), fun v W hW _ => step_run rfl _ W (exec_move (.tmp 11) (.inl rfl) rfl) rfl (Gw.refl _), ?_⟩
                simp only [Act.put, List.setIfInBounds_toArray, List.set_cons_zero, List.set_cons_succ]
                refine .inl ⟨.int .i64 (i : Int), fun v W hW _ => step_run rfl _ W (exec_move (.tmp 13) (.inl rfl) rfl) rfl (Gw.refl _), ?_⟩
                simp only [Act.put, List.setIfInBounds_toArray, List.set_cons_zero, List.set_cons_succ]
                refine .inl ⟨.int .i64 0, fun v W hW _ => step_run rfl _ W (exec_look 29 (.tmp 34) (.tmp 35) rfl rfl rfl (hlook W hW)) rfl (Gw.refl _), ?_⟩
                simp only [Act.put, List.setIfInBounds_toArray, List.set_cons_zero, List.set_cons_succ]
                refine .inl ⟨.bool false, fun v W hW _ => step_run rfl _ W (by go_simp) rfl (Gw.refl _), ?_⟩
                simp only [Act.put, List.setIfInBounds_toArray, List.set_cons_zero, List.set_cons_succ]
                refine .inl ⟨.bool false, fun v W hW _ => step_run rfl _ W (exec_move (.tmp 37) (.inr rfl) rfl) rfl (Gw.refl _), ?_⟩
                simp only [Act.put, List.setIfInBounds_toArray, List.set_cons_zero, List.set_cons_succ]
                intro v W11 hW11 _
                go_upto_region 12 with fail
                refine wp_region_seq (G := Gw) (W0 := wr) Gw.refl Gw.trans hW11 ?_
                refine .inl ⟨.bool true, fun v W hW _ => step_run rfl _ W (exec_move (.tmp 7) (.inl rfl) rfl) rfl (Gw.refl _), ?_⟩
                simp only [Act.put, List.setIfInBounds_toArray, List.set_cons_zero, List.set_cons_succ]
                refine .inl ⟨.bool true, fun v W hW _ => step_run rfl _ W (exec_move (.tmp 38) (.inl rfl) rfl) rfl (Gw.refl _), ?_⟩
                simp only [Act.put, List.setIfInBounds_toArray, List.set_cons_zero, List.set_cons_succ]
                refine .inl ⟨.bool false, fun v W hW _ => step_run rfl _ W (exec_move (.tmp 14) (.inl rfl) rfl) rfl (Gw.refl _), ?_⟩
                simp only [Act.put, List.setIfInBounds_toArray, List.set_cons_zero, List.set_cons_succ]
                refine .inl ⟨.bool true, fun v W hW _ => step_run rfl _ W (by go_simp) rfl (Gw.refl _), ?_⟩
                simp only [Act.put, List.setIfInBounds_toArray, List.set_cons_zero, List.set_cons_succ]
                refine .inl ⟨.bool true, fun v W hW _ => step_run rfl _ W (exec_move (.tmp 41) (.inl rfl) rfl) rfl (Gw.refl _), ?_⟩
                simp only [Act.put, List.setIfInBounds_toArray, List.set_cons_zero, List.set_cons_succ]
                refine .inl ⟨undef, fun v W hW _ => step_skip rfl rfl, ?_⟩
                simp only [Act.put, List.setIfInBounds_toArray, List.set_cons_zero, List.set_cons_succ]
                refine .inl ⟨undef, fun v W hW _ => step_skip rfl rfl, ?_⟩
                simp only [Act.put, List.setIfInBounds_toArray, List.set_cons_zero, List.set_cons_succ]
                refine .inl ⟨undef, fun v W hW _ => step_skip rfl rfl, ?_⟩
                simp only [Act.put, List.setIfInBounds_toArray, List.set_cons_zero, List.set_cons_succ]
                refine .inl ⟨.bool true, fun v W hW _ => step_run rfl _ W (exec_pick (.tmp 42) (.const (.bool true)) (.tmp 45) rfl rfl rfl) rfl (Gw.refl _), ?_⟩
                simp only [Act.put, List.setIfInBounds_toArray, List.set_cons_zero, List.set_cons_succ]
                refine .inl ⟨.bool true, fun v W hW _ => step_run rfl _ W (exec_pick (.tmp 39) (.tmp 46) (.const (.bool false)) rfl rfl rfl) rfl (Gw.refl _), ?_⟩
                simp only [Act.put, List.setIfInBounds_toArray, List.set_cons_zero, List.set_cons_succ]
                refine .inl ⟨.bool true, fun v W hW _ => step_run rfl _ W (exec_move (.tmp 47) (.inr rfl) rfl) rfl (Gw.refl _), ?_⟩
                simp only [Act.put, List.setIfInBounds_toArray, List.set_cons_zero, List.set_cons_succ]
                intro v W12 hW12 _
                clear hW11
                go_upto_region 13 with fail
                refine wp_region_rel (G := Gw) (W0 := wr) Gw.refl Gw.trans (by kernel_rfl) (by kernel_rfl) (by kernel_rfl) hW12.drew ?_
                refine .inl ⟨.agg (blmC wi).toArray, fun v W hW _ => step_run rfl _ W (exec_load 24 (.tmp 8) rfl (g8) (0) rfl (blmC wi) _ (((HG.out W hW).1).h8.rng) Try.underlying24 rfl (info_blmC ((HG.out W hW).1).h8.ok)) rfl (Gw.refl _), ?_⟩
                simp only [Act.put, List.setIfInBounds_toArray, List.set_cons_zero, List.set_cons_succ]
                refine .inl ⟨.int .i64 (i : Int), fun v W hW _ => step_run rfl _ W (exec_move (.tmp 13) (.inl rfl) rfl) rfl (Gw.refl _), ?_⟩
                simp only [Act.put, List.setIfInBounds_toArray, List.set_cons_zero, List.set_cons_succ]
                refine .inl ⟨.bool true, fun v W hW _ => step_call rfl 10 #[.agg (blmC wi).toArray, .int .i64 (i : Int)] (by go_simp) ((bitwi W).mono fun e w' h => ⟨_, h.1, rfl, h.2⟩), ?_⟩
                simp only [Act.put, List.setIfInBounds_toArray, List.set_cons_zero, List.set_cons_succ]
                refine .inl ⟨.bool false, fun v W hW _ => step_run rfl _ W (exec_move (.tmp 14) (.inl rfl) rfl) rfl (Gw.refl _), ?_⟩
                simp only [Act.put, List.setIfInBounds_toArray, List.set_cons_zero, List.set_cons_succ]
                refine .inl ⟨.bool false, fun v W hW _ => step_run rfl _ W (exec_move (.tmp 51) (.inl rfl) rfl) rfl (Gw.refl _), ?_⟩
                simp only [Act.put, List.setIfInBounds_toArray, List.set_cons_zero, List.set_cons_succ]
                refine .inl ⟨.agg (blmC b).toArray, fun v W hW _ => step_run rfl _ W (exec_load 24 (.tmp 3) rfl (w.heap.size) (0) rfl (blmC b) _ (((HG.out W hW).1).hb.rng) Try.underlying24 rfl (info_blmC ((HG.out W hW).1).hb.ok)) rfl (Gw.refl _), ?_⟩
                simp only [Act.put, List.setIfInBounds_toArray, List.set_cons_zero, List.set_cons_succ]
                refine .inl ⟨.int .i64 (i : Int), fun v W hW _ => step_run rfl _ W (exec_move (.tmp 13) (.inl rfl) rfl) rfl (Gw.refl _), ?_⟩
                simp only [Act.put, List.setIfInBounds_toArray, List.set_cons_zero, List.set_cons_succ]
                refine .inl ⟨.bool true, fun v W hW _ => step_call rfl 10 #[.agg (blmC b).toArray, .int .i64 (i : Int)] (by go_simp) ((bitb W).mono fun e w' h => ⟨_, h.1, rfl, h.2⟩), ?_⟩
                simp only [Act.put, List.setIfInBounds_toArray, List.set_cons_zero, List.set_cons_succ]
                refine .inl ⟨.bool true, fun v W hW _ => step_run rfl _ W (exec_pick (.tmp 52) (.const (.bool true)) (.tmp 55) rfl rfl rfl) rfl (Gw.refl _), ?_⟩
                simp only [Act.put, List.setIfInBounds_toArray, List.set_cons_zero, List.set_cons_succ]
                refine .inl ⟨.bool false, fun v W hW _ => step_run rfl _ W (by go_simp) rfl (Gw.refl _), ?_⟩
                simp only [Act.put, List.setIfInBounds_toArray, List.set_cons_zero, List.set_cons_succ]
                refine .inl ⟨.bool false, fun v W hW _ => step_run rfl _ W (exec_move (.tmp 57) (.inl rfl) rfl) rfl (Gw.refl _), ?_⟩
                simp only [Act.put, List.setIfInBounds_toArray, List.set_cons_zero, List.set_cons_succ]
                refine .inl ⟨.agg (blmC bo).toArray, fun v W hW _ => step_run rfl _ W (exec_load 24 (.tmp 9) rfl (g9) (0) rfl (blmC bo) _ (((HG.out W hW).1).h9.rng) Try.underlying24 rfl (info_blmC ((HG.out W hW).1).h9.ok)) rfl (Gw.refl _), ?_⟩
                simp only [Act.put, List.setIfInBounds_toArray, List.set_cons_zero, List.set_cons_succ]
                refine .inl ⟨.int .i64 (i : Int), fun v W hW _ => step_run rfl _ W (exec_move (.tmp 13) (.inl rfl) rfl) rfl (Gw.refl _), ?_⟩
                simp only [Act.put, List.setIfInBounds_toArray, List.set_cons_zero, List.set_cons_succ]
                refine .inl ⟨.bool true, fun v W hW _ => step_call rfl 10 #[.agg (blmC bo).toArray, .int .i64 (i : Int)] (by go_simp) ((bitbo W).mono fun e w' h => ⟨_, h.1, rfl, h.2⟩), ?_⟩
                simp only [Act.put, List.setIfInBounds_toArray, List.set_cons_zero, List.set_cons_succ]
                refine .inl ⟨.agg (blmC b).toArray, fun v W hW _ => step_run rfl _ W (exec_load 24 (.tmp 3) rfl (w.heap.size) (0) rfl (blmC b) _ (((HG.out W hW).1).hb.rng) Try.underlying24 rfl (info_blmC ((HG.out W hW).1).hb.ok)) rfl (Gw.refl _), ?_⟩
                simp only [Act.put, List.setIfInBounds_toArray, List.set_cons_zero, List.set_cons_succ]
                refine .inl ⟨.int .i64 (i : Int), fun v W hW _ => step_run rfl _ W (exec_move (.tmp 13) (.inl rfl) rfl) rfl (Gw.refl _), ?_⟩
                simp only [Act.put, List.setIfInBounds_toArray, List.set_cons_zero, List.set_cons_succ]
                refine .inl ⟨.bool true, fun v W hW _ => step_call rfl 10 #[.agg (blmC b).toArray, .int .i64 (i : Int)] (by go_simp) ((bitb W).mono fun e w' h => ⟨_, h.1, rfl, h.2⟩), ?_⟩
                simp only [Act.put, List.setIfInBounds_toArray, List.set_cons_zero, List.set_cons_succ]
                refine .inl ⟨.bool true, fun v W hW _ => step_run rfl _ W (exec_move (.tmp 64) (.inl rfl) rfl) rfl (Gw.refl _), ?_⟩
                simp only [Act.put, List.setIfInBounds_toArray, List.set_cons_zero, List.set_cons_succ]
                refine .inl ⟨undef, fun v W hW _ => step_skip rfl rfl, ?_⟩
                simp only [Act.put, List.setIfInBounds_toArray, List.set_cons_zero, List.set_cons_succ]
                refine .inl ⟨undef, fun v W hW _ => step_skip rfl rfl, ?_⟩
                simp only [Act.put, List.setIfInBounds_toArray, List.set_cons_zero, List.set_cons_succ]
                refine .inl ⟨undef, fun v W hW _ => step_skip rfl rfl, ?_⟩
                simp only [Act.put, List.setIfInBounds_toArray, List.set_cons_zero, List.set_cons_succ]
                refine .inl ⟨.bool true, fun v W hW _ => step_run rfl _ W (exec_pick (.tmp 65) (.const (.bool true)) (.tmp 68) rfl rfl rfl) rfl (Gw.refl _), ?_⟩
                simp only [Act.put, List.setIfInBounds_toArray, List.set_cons_zero, List.set_cons_succ]
                refine .inl ⟨.bool false, fun v W hW _ => step_run rfl _ W (by go_simp) rfl (Gw.refl _), ?_⟩
                simp only [Act.put, List.setIfInBounds_toArray, List.set_cons_zero, List.set_cons_succ]
                refine .inl ⟨.bool false, fun v W hW _ => step_run rfl _ W (exec_pick (.tmp 58) (.const (.bool true)) (.tmp 70) rfl rfl rfl) rfl (Gw.refl _), ?_⟩
                simp only [Act.put, List.setIfInBounds_toArray, List.set_cons_zero, List.set_cons_succ]
                intro v W13 hW13 _
                clear hW12
                go_upto_region 15 with fail
                refine wp_region_seq (G := Gw) (W0 := wr) Gw.refl Gw.trans hW13 ?_
                refine .inl ⟨.agg (blmC b).toArray, fun v W hW _ => step_run rfl _ W (exec_load 24 (.tmp 3) rfl (w.heap.size) (0) rfl (blmC b) _ (((HG.out W hW).1).hb.rng) Try.underlying24 rfl (info_blmC ((HG.out W hW).1).hb.ok)) rfl (Gw.refl _), ?_⟩
                simp only [Act.put, List.setIfInBounds_toArray, List.set_cons_zero, List.set_cons_succ]
                refine .inl ⟨.int .i64 (i : Int), fun v W hW _ => step_run rfl _ W (exec_move (.tmp 13) (.inl rfl) rfl) rfl (Gw.refl _), ?_⟩
                simp only [Act.put, List.setIfInBounds_toArray, List.set_cons_zero, List.set_cons_succ]
                refine .inl ⟨.bool true, fun v W hW _ => step_call rfl 10 #[.agg (blmC b).toArray, .int .i64 (i : Int)] (by go_simp) ((bitb W).mono fun e w' h => ⟨_, h.1, rfl, h.2⟩), ?_⟩
                simp only [Act.put, List.setIfInBounds_toArray, List.set_cons_zero, List.set_cons_succ]
                intro v W15 hW15 _
                clear hW13
                have HZ := HG.out W15 hW15
                replace HZ : Hid (SW w W15 b c wi bo x g8 g9 ∧ Mi W15 gm 4 ms) := HZ
                clear hW15 HG hlook bitb bitc bitwi bitbo hz
                go_wp2_with fail
                go_roundw
                case rel => exact ⟨i + 1, by omega, by go_num, by rw [HAn.out]; rfl, int_eq (by rw [HCn.out, if_pos rfl]; omega), HZ⟩
                case measure => simp only [intOf]; omega
            | true =>
              replace hlook : ∀ W, Gw wr W → (Instr.lookup 29 (.map (some gm)) (.int .i64 (i : Int)) false).run Try.prog W = .ok (.int .i64 1) W := hlook
              cases bb with
              | false =>
                go_upto_region 11 with fail
                refine wp_region_seq (G := Gw) (W0 := wr) Gw.refl Gw.trans (Gw.refl wr) ?_
                refine .inl ⟨.map (some gm), fun v W hW _ => step_run rfl _ W (exec_move (.tmp 11) (.inl rfl) rfl) rfl (Gw.refl _), ?_⟩
                simp only [Act.put, List.setIfInBounds_toArray, List.set_cons_zero, List.set_cons_succ]
                refine .inl ⟨.int .i64 (i : Int), fun v W hW _ => step_run rfl _ W (exec_move (.tmp 13) (.inl rfl) rfl) rfl (Gw.refl _), ?_⟩
                simp only [Act.put, List.setIfInBounds_toArray, List.set_cons_zero, List.set_cons_succ]
                refine .inl ⟨.int .i64 1, fun v W hW _ => step_run rfl _ W (exec_look 29 (.tmp 34) (.tmp 35) rfl rfl rfl (hlook W hW)) rfl (Gw.refl _), ?_⟩
                simp only [Act.put, List.setIfInBounds_toArray, List.set_cons_zero, List.set_cons_succ]
                refine .inl ⟨.bool true, fun v W hW _ => step_run rfl _ W (by go_simp) rfl (Gw.refl _), ?_⟩
                simp only [Act.put, List.setIfInBounds_toArray, List.set_cons_zero, List.set_cons_succ]
                refine .inl ⟨.bool true, fun v W hW _ => step_run rfl _ W (exec_move (.tmp 37) (.inr rfl) rfl) rfl (Gw.refl _), ?_⟩
                simp only [Act.put, List.setIfInBounds_toArray, List.set_cons_zero, List.set_cons_succ]
                intro v W11 hW11 _
                go_upto_region 12 with fail
                refine wp_region_seq (G := Gw) (W0 := wr) Gw.refl Gw.trans hW11 ?_
                refine .inl ⟨.bool true, fun v W hW _ => step_run rfl _ W (exec_move (.tmp 7) (.inl rfl) rfl) rfl (Gw.refl _), ?_⟩
                simp only [Act.put, List.setIfInBounds_toArray, List.set_cons_zero, List.set_cons_succ]
                refine .inl ⟨.bool true, fun v W hW _ => step_run rfl _ W (exec_move (.tmp 38) (.inl rfl) rfl) rfl (Gw.refl _), ?_⟩
                simp only [Act.put, List.setIfInBounds_toArray, List.set_cons_zero, List.set_cons_succ]
                refine .inl ⟨.bool true, fun v W hW _ => step_run rfl _ W (exec_move (.tmp 14) (.inl rfl) rfl) rfl (Gw.refl _), ?_⟩
                simp only [Act.put, List.setIfInBounds_toArray, List.set_cons_zero, List.set_cons_succ]
                refine .inl ⟨.bool false, fun v W hW _ => step_run rfl _ W (by go_simp) rfl (Gw.refl _), ?_⟩
                simp only [Act.put, List.setIfInBounds_toArray, List.set_cons_zero, List.set_cons_succ]
                refine .inl ⟨.bool false, fun v W hW _ => step_run rfl _ W (exec_move (.tmp 41) (.inl rfl) rfl) rfl (Gw.refl _), ?_⟩
                simp only [Act.put, List.setIfInBounds_toArray, List.set_cons_zero, List.set_cons_succ]
                refine .inl ⟨.agg (blmC b).toArray, fun v W hW _ => step_run rfl _ W (exec_load 24 (.tmp 3) rfl (w.heap.size) (0) rfl (blmC b) _ (((HG.out W hW).1).hb.rng) Try.underlying24 rfl (info_blmC ((HG.out W hW).1).hb.ok)) rfl (Gw.refl _), ?_⟩
                simp only [Act.put, List.setIfInBounds_toArray, List.set_cons_zero, List.set_cons_succ]
                refine .inl ⟨.int .i64 (i : Int), fun v W hW _ => step_run rfl _ W (exec_move (.tmp 13) (.inl rfl) rfl) rfl (Gw.refl _), ?_⟩
                simp only [Act.put, List.setIfInBounds_toArray, List.set_cons_zero, List.set_cons_succ]
                refine .inl ⟨.bool false, fun v W hW _ => step_call rfl 10 #[.agg (blmC b).toArray, .int .i64 (i : Int)] (by go_simp) ((bitb W).mono fun e w' h => ⟨_, h.1, rfl, h.2⟩), ?_⟩
                simp only [Act.put, List.setIfInBounds_toArray, List.set_cons_zero, List.set_cons_succ]
                refine .inl ⟨.bool false, fun v W hW _ => step_run rfl _ W (exec_pick (.tmp 42) (.const (.bool true)) (.tmp 45) rfl rfl rfl) rfl (Gw.refl _), ?_⟩
                simp only [Act.put, List.setIfInBounds_toArray, List.set_cons_zero, List.set_cons_succ]
                refine .inl ⟨.bool false, fun v W hW _ => step_run rfl _ W (exec_pick (.tmp 39) (.tmp 46) (.const (.bool false)) rfl rfl rfl) rfl (Gw.refl _), ?_⟩
                simp only [Act.put, List.setIfInBounds_toArray, List.set_cons_zero, List.set_cons_succ]
                refine .inl ⟨.bool false, fun v W hW _ => step_run rfl _ W (exec_move (.tmp 47) (.inr rfl) rfl) rfl (Gw.refl _), ?_⟩
                simp only [Act.put, List.setIfInBounds_toArray, List.set_cons_zero, List.set_cons_succ]
                intro v W12 hW12 _
                clear hW11
                go_upto_region 13 with fail
                refine wp_region_rel (G := Gw) (W0 := wr) Gw.refl Gw.trans (by kernel_rfl) (by kernel_rfl) (by kernel_rfl) hW12.drew ?_
                refine .inl ⟨.agg (blmC wi).toArray, fun v W hW _ => step_run rfl _ W (exec_load 24 (.tmp 8) rfl (g8) (0) rfl (blmC wi) _ (((HG.out W hW).1).h8.rng) Try.underlying24 rfl (info_blmC ((HG.out W hW).1).h8.ok)) rfl (Gw.refl _), ?_⟩
                simp only [Act.put, List.setIfInBounds_toArray, List.set_cons_zero, List.set_cons_succ]
                refine .inl ⟨.int .i64 (i : Int), fun v W hW _ => step_run rfl _ W (exec_move (.tmp 13) (.inl rfl) rfl) rfl (Gw.refl _), ?_⟩
                simp only [Act.put, List.setIfInBounds_toArray, List.set_cons_zero, List.set_cons_succ]
                refine .inl ⟨.bool true, fun v W hW _ => step_call rfl 10 #[.agg (blmC wi).toArray, .int .i64 (i : Int)] (by go_simp) ((bitwi W).mono fun e w' h => ⟨_, h.1, rfl, h.2⟩), ?_⟩
                simp only [Act.put, List.setIfInBounds_toArray, List.set_cons_zero, List.set_cons_succ]
                refine .inl ⟨.bool true, fun v W hW _ => step_run rfl _ W (exec_move (.tmp 14) (.inl rfl) rfl) rfl (Gw.refl _), ?_⟩
                simp only [Act.put, List.setIfInBounds_toArray, List.set_cons_zero, List.set_cons_succ]
                refine .inl ⟨.bool true, fun v W hW _ => step_run rfl _ W (exec_move (.tmp 51) (.inl rfl) rfl) rfl (Gw.refl _), ?_⟩
                simp only [Act.put, List.setIfInBounds_toArray, List.set_cons_zero, List.set_cons_succ]
                refine .inl ⟨undef, fun v W hW _ => step_skip rfl rfl, ?_⟩
                simp only [Act.put, List.setIfInBounds_toArray, List.set_cons_zero, List.set_cons_succ]
                refine .inl ⟨undef, fun v W hW _ => step_skip rfl rfl, ?_⟩
                simp only [Act.put, List.setIfInBounds_toArray, List.set_cons_zero, List.set_cons_succ]
                refine .inl ⟨undef, fun v W hW _ => step_skip rfl rfl, ?_⟩
                simp only [Act.put, List.setIfInBounds_toArray, List.set_cons_zero, List.set_cons_succ]
                refine .inl ⟨.bool true, fun v W hW _ => step_run rfl _ W (exec_pick (.tmp 52) (.const (.bool true)) (.tmp 55) rfl rfl rfl) rfl (Gw.refl _), ?_⟩
                simp only [Act.put, List.setIfInBounds_toArray, List.set_cons_zero, List.set_cons_succ]
                refine .inl ⟨.bool false, fun v W hW _ => step_run rfl _ W (by go_simp) rfl (Gw.refl _), ?_⟩
                simp only [Act.put, List.setIfInBounds_toArray, List.set_cons_zero, List.set_cons_succ]
                refine .inl ⟨.bool false, fun v W hW _ => step_run rfl _ W (exec_move (.tmp 57) (.inl rfl) rfl) rfl (Gw.refl _), ?_⟩
                simp only [Act.put, List.setIfInBounds_toArray, List.set_cons_zero, List.set_cons_succ]
                refine .inl ⟨.agg (blmC bo).toArray, fun v W hW _ => step_run rfl _ W (exec_load 24 (.tmp 9) rfl (g9) (0) rfl (blmC bo) _ (((HG.out W hW).1).h9.rng) Try.underlying24 rfl (info_blmC ((HG.out W hW).1).h9.ok)) rfl (Gw.refl _), ?_⟩
                simp only [Act.put, List.setIfInBounds_toArray, List.set_cons_zero, List.set_cons_succ]
                refine .inl ⟨.int .i64 (i : Int), fun v W hW _ => step_run rfl _ W (exec_move (.tmp 13) (.inl rfl) rfl) rfl (Gw.refl _), ?_⟩
                simp only [Act.put, List.setIfInBounds_toArray, List.set_cons_zero, List.set_cons_succ]
                refine .inl ⟨.bool cb, fun v W hW _ => step_call rfl 10 #[.agg (blmC bo).toArray, .int .i64 (i : Int)] (by go_simp) ((bitbo W).mono fun e w' h => ⟨_, h.1, rfl, h.2⟩), ?_⟩
                simp only [Act.put, List.setIfInBounds_toArray, List.set_cons_zero, List.set_cons_succ]
                refine .inl ⟨.agg (blmC b).toArray, fun v W hW _ => step_run rfl _ W (exec_load 24 (.tmp 3) rfl (w.heap.size) (0) rfl (blmC b) _ (((HG.out W hW).1).hb.rng) Try.underlying24 rfl (info_blmC ((HG.out W hW).1).hb.ok)) rfl (Gw.refl _), ?_⟩
                simp only [Act.put, List.setIfInBounds_toArray, List.set_cons_zero, List.set_cons_succ]
                refine .inl ⟨.int .i64 (i : Int), fun v W hW _ => step_run rfl _ W (exec_move (.tmp 13) (.inl rfl) rfl) rfl (Gw.refl _), ?_⟩
                simp only [Act.put, List.setIfInBounds_toArray, List.set_cons_zero, List.set_cons_succ]
                refine .inl ⟨.bool false, fun v W hW _ => step_call rfl 10 #[.agg (blmC b).toArray, .int .i64 (i : Int)] (by go_simp) ((bitb W).mono fun e w' h => ⟨_, h.1, rfl, h.2⟩), ?_⟩
                simp only [Act.put, List.setIfInBounds_toArray, List.set_cons_zero, List.set_cons_succ]
                refine .inl ⟨.bool false, fun v W hW _ => step_run rfl _ W (exec_move (.tmp 64) (.inl rfl) rfl) rfl (Gw.refl _), ?_⟩
                simp only [Act.put, List.setIfInBounds_toArray, List.set_cons_zero, List.set_cons_succ]
                refine .inl ⟨.agg (blmC c).toArray, fun v W hW _ => step_run rfl _ W (exec_load 24 (.tmp 4) rfl (w.heap.size + 1) (0) rfl (blmC c) _ (((HG.out W hW).1).hc.rng) Try.underlying24 rfl (info_blmC ((HG.out W hW).1).hc.ok)) rfl (Gw.refl _), ?_⟩
                simp only [Act.put, List.setIfInBounds_toArray, List.set_cons_zero, List.set_cons_succ]
                refine .inl ⟨.int .i64 (i : Int), fun v W hW _ => step_run rfl _ W (exec_move (.tmp 13) (.inl rfl) rfl) rfl (Gw.refl _), ?_⟩
                simp only [Act.put, List.setIfInBounds_toArray, List.set_cons_zero, List.set_cons_succ]
                refine .inl ⟨.bool cb, fun v W hW _ => step_call rfl 10 #[.agg (blmC c).toArray, .int .i64 (i : Int)] (by go_simp) ((bitc W).mono fun e w' h => ⟨_, h.1, rfl, h.2⟩), ?_⟩
                simp only [Act.put, List.setIfInBounds_toArray, List.set_cons_zero, List.set_cons_succ]
                refine .inl ⟨.bool cb, fun v W hW _ => step_run rfl _ W (exec_pick (.tmp 65) (.const (.bool true)) (.tmp 68) rfl rfl rfl) rfl (Gw.refl _), ?_⟩
                simp only [Act.put, List.setIfInBounds_toArray, List.set_cons_zero, List.set_cons_succ]
                refine .inl ⟨.bool false, fun v W hW _ => step_run rfl _ W (by go_simp) rfl (Gw.refl _), ?_⟩
                simp only [Act.put, List.setIfInBounds_toArray, List.set_cons_zero, List.set_cons_succ]
                refine .inl ⟨.bool false, fun v W hW _ => step_run rfl _ W (exec_pick (.tmp 58) (.const (.bool true)) (.tmp 70) rfl rfl rfl) rfl (Gw.refl _), ?_⟩
                simp only [Act.put, List.setIfInBounds_toArray, List.set_cons_zero, List.set_cons_succ]
                intro v W13 hW13 _
                clear hW12
                go_upto_region 15 with fail
                refine wp_region_seq (G := Gw) (W0 := wr) Gw.refl Gw.trans hW13 ?_
                refine .inl ⟨.agg (blmC b).toArray, fun v W hW _ => step_run rfl _ W (exec_load 24 (.tmp 3) rfl (w.heap.size) (0) rfl (blmC b) _ (((HG.out W hW).1).hb.rng) Try.underlying24 rfl (info_blmC ((HG.out W hW).1).hb.ok)) rfl (Gw.refl _), ?_⟩
                simp only [Act.put, List.setIfInBounds_toArray, List.set_cons_zero, List.set_cons_succ]
                refine .inl ⟨.int .i64 (i : Int), fun v W hW _ => step_run rfl _ W (exec_move (.tmp 13) (.inl rfl) rfl) rfl (Gw.refl _), ?_⟩
                simp only [Act.put, List.setIfInBounds_toArray, List.set_cons_zero, List.set_cons_succ]
                refine .inl ⟨.bool false, fun v W hW _ => step_call rfl 10 #[.agg (blmC b).toArray, .int .i64 (i : Int)] (by go_simp) ((bitb W).mono fun e w' h => ⟨_, h.1, rfl, h.2⟩), ?_⟩
                simp only [Act.put, List.setIfInBounds_toArray, List.set_cons_zero, List.set_cons_succ]
                intro v W15 hW15 _
                clear hW13
                have HZ := HG.out W15 hW15
                replace HZ : Hid (SW w W15 b c wi bo x g8 g9 ∧ Mi W15 gm 4 ms) := HZ
                clear hW15 HG hlook bitb bitc bitwi bitbo hz
                go_wp2_with fail
                go_roundw
                case rel => exact ⟨i + 1, by omega, by go_num, by rw [HAn.out]; rfl, int_eq (by rw [HCn.out, if_neg (by decide), Nat.add_zero]), HZ⟩
                case measure => simp only [intOf]; omega
              | true =>
                go_upto_region 11 with fail
                refine wp_region_seq (G := Gw) (W0 := wr) Gw.refl Gw.trans (Gw.refl wr) ?_
                refine .inl ⟨.map (some gm), fun v W hW _ => step_run rfl _ W (exec_move (.tmp 11) (.inl rfl) rfl) rfl (Gw.refl _), ?_⟩
                simp only [Act.put, List.setIfInBounds_toArray, List.set_cons_zero, List.set_cons_succ]
                refine .inl ⟨.int .i64 (i : Int), fun v W hW _ => step_run rfl _ W (exec_move (.tmp 13) (.inl rfl) rfl) rfl (Gw.refl _), ?_⟩
                simp only [Act.put, List.setIfInBounds_toArray, List.set_cons_zero, List.set_cons_succ]
                refine .inl ⟨.int .i64 1, fun v W hW _ => step_run rfl _ W (exec_look 29 (.tmp 34) (.tmp 35) rfl rfl rfl (hlook W hW)) rfl (Gw.refl _), ?_⟩
                simp only [Act.put, List.setIfInBounds_toArray, List.set_cons_zero, List.set_cons_succ]
                refine .inl ⟨.bool true, fun v W hW _ => step_run rfl _ W (by go_simp) rfl (Gw.refl _), ?_⟩
                simp only [Act.put, List.setIfInBounds_toArray, List.set_cons_zero, List.set_cons_succ]
                refine .inl ⟨.bool true, fun v W hW _ => step_run rfl _ W (exec_move (.tmp 37) (.inr rfl) rfl) rfl (Gw.refl _), ?_⟩
                simp only [Act.put, List.setIfInBounds_toArray, List.set_cons_zero, List.set_cons_succ]
                intro v W11 hW11 _
                go_upto_region 12 with fail
                refine wp_region_seq (G := Gw) (W0 := wr) Gw.refl Gw.trans hW11 ?_
                refine .inl ⟨.bool true, fun v W hW _ => step_run rfl _ W (exec_move (.tmp 7) (.inl rfl) rfl) rfl (Gw.refl _), ?_⟩
                simp only [Act.put, List.setIfInBounds_toArray, List.set_cons_zero, List.set_cons_succ]
                refine .inl ⟨.bool true, fun v W hW _ => step_run rfl _ W (exec_move (.tmp 38) (.inl rfl) rfl) rfl (Gw.refl _), ?_⟩
                simp only [Act.put, List.setIfInBounds_toArray, List.set_cons_zero, List.set_cons_succ]
                refine .inl ⟨.bool true, fun v W hW _ => step_run rfl _ W (exec_move (.tmp 14) (.inl rfl) rfl) rfl (Gw.refl _), ?_⟩
                simp only [Act.put, List.setIfInBounds_toArray, List.set_cons_zero, List.set_cons_succ]
                refine .inl ⟨.bool false, fun v W hW _ => step_run rfl _ W (by go_simp) rfl (Gw.refl _), ?_⟩
                simp only [Act.put, List.setIfInBounds_toArray, List.set_cons_zero, List.set_cons_succ]
                refine .inl ⟨.bool false, fun v W hW _ => step_run rfl _ W (exec_move (.tmp 41) (.inl rfl) rfl) rfl (Gw.refl _), ?_⟩
                simp only [Act.put, List.setIfInBounds_toArray, List.set_cons_zero, List.set_cons_succ]
                refine .inl ⟨.agg (blmC b).toArray, fun v W hW _ => step_run rfl _ W (exec_load 24 (.tmp 3) rfl (w.heap.size) (0) rfl (blmC b) _ (((HG.out W hW).1).hb.rng) Try.underlying24 rfl (info_blmC ((HG.out W hW).1).hb.ok)) rfl (Gw.refl _), ?_⟩
                simp only [Act.put, List.setIfInBounds_toArray, List.set_cons_zero, List.set_cons_succ]
                refine .inl ⟨.int .i64 (i : Int), fun v W hW _ => step_run rfl _ W (exec_move (.tmp 13) (.inl rfl) rfl) rfl (Gw.refl _), ?_⟩
                simp only [Act.put, List.setIfInBounds_toArray, List.set_cons_zero, List.set_cons_succ]
                refine .inl ⟨.bool true, fun v W hW _ => step_call rfl 10 #[.agg (blmC b).toArray, .int .i64 (i : Int)] (by go_simp) ((bitb W).mono fun e w' h => ⟨_, h.1, rfl, h.2⟩), ?_⟩
                simp only [Act.put, List.setIfInBounds_toArray, List.set_cons_zero, List.set_cons_succ]
                refine .inl ⟨.bool true, fun v W hW _ => step_run rfl _ W (exec_pick (.tmp 42) (.const (.bool true)) (.tmp 45) rfl rfl rfl) rfl (Gw.refl _), ?_⟩
                simp only [Act.put, List.setIfInBounds_toArray, List.set_cons_zero, List.set_cons_succ]
                refine .inl ⟨.bool true, fun v W hW _ => step_run rfl _ W (exec_pick (.tmp 39) (.tmp 46) (.const (.bool false)) rfl rfl rfl) rfl (Gw.refl _), ?_⟩
                simp only [Act.put, List.setIfInBounds_toArray, List.set_cons_zero, List.set_cons_succ]
                refine .inl ⟨.bool true, fun v W hW _ => step_run rfl _ W (exec_move (.tmp 47) (.inr rfl) rfl) rfl (Gw.refl _), ?_⟩
                simp only [Act.put, List.setIfInBounds_toArray, List.set_cons_zero, List.set_cons_succ]
                intro v W12 hW12 _
                clear hW11
                go_upto_region 13 with fail
                refine wp_region_rel (G := Gw) (W0 := wr) Gw.refl Gw.trans (by kernel_rfl) (by kernel_rfl) (by kernel_rfl) hW12.drew ?_
                refine .inl ⟨.agg (blmC wi).toArray, fun v W hW _ => step_run rfl _ W (exec_load 24 (.tmp 8) rfl (g8) (0) rfl (blmC wi) _ (((HG.out W hW).1).h8.rng) Try.underlying24 rfl (info_blmC ((HG.out W hW).1).h8.ok)) rfl (Gw.refl _), ?_⟩
                simp only [Act.put, List.setIfInBounds_toArray, List.set_cons_zero, List.set_cons_succ]
                refine .inl ⟨.int .i64 (i : Int), fun v W hW _ => step_run rfl _ W (exec_move (.tmp 13) (.inl rfl) rfl) rfl (Gw.refl _), ?_⟩
                simp only [Act.put, List.setIfInBounds_toArray, List.set_cons_zero, List.set_cons_succ]
                refine .inl ⟨.bool true, fun v W hW _ => step_call rfl 10 #[.agg (blmC wi).toArray, .int .i64 (i : Int)] (by go_simp) ((bitwi W).mono fun e w' h => ⟨_, h.1, rfl, h.2⟩), ?_⟩
                simp only [Act.put, List.setIfInBounds_toArray, List.set_cons_zero, List.set_cons_succ]
                refine .inl ⟨.bool true, fun v W hW _ => step_run rfl _ W (exec_move (.tmp 14) (.inl rfl) rfl) rfl (Gw.refl _), ?_⟩
                simp only [Act.put, List.setIfInBounds_toArray, List.set_cons_zero, List.set_cons_succ]
                refine .inl ⟨.bool true, fun v W hW _ => step_run rfl _ W (exec_move (.tmp 51) (.inl rfl) rfl) rfl (Gw.refl _), ?_⟩
                simp only [Act.put, List.setIfInBounds_toArray, List.set_cons_zero, List.set_cons_succ]
                refine .inl ⟨undef, fun v W hW _ => step_skip rfl rfl, ?_⟩
                simp only [Act.put, List.setIfInBounds_toArray, List.set_cons_zero, List.set_cons_succ]
                refine .inl ⟨undef, fun v W hW _ => step_skip rfl rfl, ?_⟩
                simp only [Act.put, List.setIfInBounds_toArray, List.set_cons_zero, List.set_cons_succ]
                refine .inl ⟨undef, fun v W hW _ => step_skip rfl rfl, ?_⟩
                simp only [Act.put, List.setIfInBounds_toArray, List.set_cons_zero, List.set_cons_succ]
                refine .inl ⟨.bool true, fun v W hW _ => step_run rfl _ W (exec_pick (.tmp 52) (.const (.bool true)) (.tmp 55) rfl rfl rfl) rfl (Gw.refl _), ?_⟩
                simp only [Act.put, List.setIfInBounds_toArray, List.set_cons_zero, List.set_cons_succ]
                refine .inl ⟨.bool false, fun v W hW _ => step_run rfl _ W (by go_simp) rfl (Gw.refl _), ?_⟩
                simp only [Act.put, List.setIfInBounds_toArray, List.set_cons_zero, List.set_cons_succ]
                refine .inl ⟨.bool false, fun v W hW _ => step_run rfl _ W (exec_move (.tmp 57) (.inl rfl) rfl) rfl (Gw.refl _), ?_⟩
                simp only [Act.put, List.setIfInBounds_toArray, List.set_cons_zero, List.set_cons_succ]
                refine .inl ⟨.agg (blmC bo).toArray, fun v W hW _ => step_run rfl _ W (exec_load 24 (.tmp 9) rfl (g9) (0) rfl (blmC bo) _ (((HG.out W hW).1).h9.rng) Try.underlying24 rfl (info_blmC ((HG.out W hW).1).h9.ok)) rfl (Gw.refl _), ?_⟩
                simp only [Act.put, List.setIfInBounds_toArray, List.set_cons_zero, List.set_cons_succ]
                refine .inl ⟨.int .i64 (i : Int), fun v W hW _ => step_run rfl _ W (exec_move (.tmp 13) (.inl rfl) rfl) rfl (Gw.refl _), ?_⟩
                simp only [Act.put, List.setIfInBounds_toArray, List.set_cons_zero, List.set_cons_succ]
                refine .inl ⟨.bool true, fun v W hW _ => step_call rfl 10 #[.agg (blmC bo).toArray, .int .i64 (i : Int)] (by go_simp) ((bitbo W).mono fun e w' h => ⟨_, h.1, rfl, h.2⟩), ?_⟩
                simp only [Act.put, List.setIfInBounds_toArray, List.set_cons_zero, List.set_cons_succ]
                refine .inl ⟨.agg (blmC b).toArray, fun v W hW _ => step_run rfl _ W (exec_load 24 (.tmp 3) rfl (w.heap.size) (0) rfl (blmC b) _ (((HG.out W hW).1).hb.rng) Try.underlying24 rfl (info_blmC ((HG.out W hW).1).hb.ok)) rfl (Gw.refl _), ?_⟩
                simp only [Act.put, List.setIfInBounds_toArray, List.set_cons_zero, List.set_cons_succ]
                refine .inl ⟨.int .i64 (i : Int), fun v W hW _ => step_run rfl _ W (exec_move (.tmp 13) (.inl rfl) rfl) rfl (Gw.refl _), ?_⟩
                simp only [Act.put, List.setIfInBounds_toArray, List.set_cons_zero, List.set_cons_succ]
                refine .inl ⟨.bool true, fun v W hW _ => step_call rfl 10 #[.agg (blmC b).toArray, .int .i64 (i : Int)] (by go_simp) ((bitb W).mono fun e w' h => ⟨_, h.1, rfl, h.2⟩), ?_⟩
                simp only [Act.put, List.setIfInBounds_toArray, List.set_cons_zero, List.set_cons_succ]
                refine .inl ⟨.bool true, fun v W hW _ => step_run rfl _ W (exec_move (.tmp 64) (.inl rfl) rfl) rfl (Gw.refl _), ?_⟩
                simp only [Act.put, List.setIfInBounds_toArray, List.set_cons_zero, List.set_cons_succ]
                refine .inl ⟨undef, fun v W hW _ => step_skip rfl rfl, ?_⟩
                simp only [Act.put, List.setIfInBounds_toArray, List.set_cons_zero, List.set_cons_succ]
                refine .inl ⟨undef, fun v W hW _ => step_skip rfl rfl, ?_⟩
                simp only [Act.put, List.setIfInBounds_toArray, List.set_cons_zero, List.set_cons_succ]
                refine .inl ⟨undef, fun v W hW _ => step_skip rfl rfl, ?_⟩
                simp only [Act.put, List.setIfInBounds_toArray, List.set_cons_zero, List.set_cons_succ]
                refine .inl ⟨.bool true, fun v W hW _ => step_run rfl _ W (exec_pick (.tmp 65) (.const (.bool true)) (.tmp 68) rfl rfl rfl) rfl (Gw.refl _), ?_⟩
                simp only [Act.put, List.setIfInBounds_toArray, List.set_cons_zero, List.set_cons_succ]
                refine .inl ⟨.bool false, fun v W hW _ => step_run rfl _ W (by go_simp) rfl (Gw.refl _), ?_⟩
                simp only [Act.put, List.setIfInBounds_toArray, List.set_cons_zero, List.set_cons_succ]
                refine .inl ⟨.bool false, fun v W hW _ => step_run rfl _ W (exec_pick (.tmp 58) (.const (.bool true)) (.tmp 70) rfl rfl rfl) rfl (Gw.refl _), ?_⟩
                simp only [Act.put, List.setIfInBounds_toArray, List.set_cons_zero, List.set_cons_succ]
                intro v W13 hW13 _
                clear hW12
                go_upto_region 15 with fail
                refine wp_region_seq (G := Gw) (W0 := wr) Gw.refl Gw.trans hW13 ?_
                refine .inl ⟨.agg (blmC b).toArray, fun v W hW _ => step_run rfl _ W (exec_load 24 (.tmp 3) rfl (w.heap.size) (0) rfl (blmC b) _ (((HG.out W hW).1).hb.rng) Try.underlying24 rfl (info_blmC ((HG.out W hW).1).hb.ok)) rfl (Gw.refl _), ?_⟩
                simp only [Act.put, List.setIfInBounds_toArray, List.set_cons_zero, List.set_cons_succ]
                refine .inl ⟨.int .i64 (i : Int), fun v W hW _ => step_run rfl _ W (exec_move (.tmp 13) (.inl rfl) rfl) rfl (Gw.refl _), ?_⟩
                simp only [Act.put, List.setIfInBounds_toArray, List.set_cons_zero, List.set_cons_succ]
                refine .inl ⟨.bool true, fun v W hW _ => step_call rfl 10 #[.agg (blmC b).toArray, .int .i64 (i : Int)] (by go_simp) ((bitb W).mono fun e w' h => ⟨_, h.1, rfl, h.2⟩), ?_⟩
                simp only [Act.put, List.setIfInBounds_toArray, List.set_cons_zero, List.set_cons_succ]
                intro v W15 hW15 _
                clear hW13
                have HZ := HG.out W15 hW15
                replace HZ : Hid (SW w W15 b c wi bo x g8 g9 ∧ Mi W15 gm 4 ms) := HZ
                clear hW15 HG hlook bitb bitc bitwi bitbo hz
                go_wp2_with fail
                go_roundw
                case rel => exact ⟨i + 1, by omega, by go_num, by rw [HAn.out]; rfl, int_eq (by rw [HCn.out, if_pos rfl]; omega), HZ⟩
                case measure => simp only [intOf]; omega
        · obtain rfl : i = 1024 := by omega
          rw [HAs.out, show Bm.cntB b 1024 = Bm.count b from rfl]
          have hhas := fun W => has_any b x W ob hx8
          rw [HW.out.2.2] at hhas
          have hcount := fun W => count_any b W ob
          have hcb : Bm.count b ≤ 1024 := Bm.cntB_le b 1024
          have hjoin := fun W => join_any (.slice none 0 0) [] W ⟨.inl ⟨⟨_, _, rfl⟩, rfl⟩, _, _, _, rfl, Nat.le_refl _, by omega⟩ (fun _ h => by simp at h)
          have heq := fun W => blm_eq W Bm.none_ok Bm.none_ok
          rw [beq_self_eq_true] at heq
          have HG : Hid (∀ W, Gw wr W → SW w W b c wi bo x g8 g9 ∧ Mi W gm 4 ms) := fun W h => ⟨HA.out.1.past h, HA.out.2.below h⟩
          clear HA HAs
          generalize Bm.has b ms = hh at *
          generalize Bm.count b = n at *
          go_upto_region 18 with fail
          refine wp_region_seq (G := Gw) (W0 := wr) Gw.refl Gw.trans (Gw.refl wr) ?_
          refine .inl ⟨.agg (blmC b).toArray, fun v W hW _ => step_run rfl _ W (exec_load 24 (.tmp 3) rfl (w.heap.size) (0) rfl (blmC b) _ (((HG.out W hW).1).hb.rng) Try.underlying24 rfl (info_blmC ((HG.out W hW).1).hb.ok)) rfl (Gw.refl _), ?_⟩
          simp only [Act.put, List.setIfInBounds_toArray, List.set_cons_zero, List.set_cons_succ]
          refine .inl ⟨.agg (idC x).toArray, fun v W hW _ => step_run rfl _ W (exec_load 26 (.tmp 5) rfl (w.heap.size + 1 + 1) (0) rfl (idC x) _ (((HG.out W hW).1).hi) Try.underlying26 rfl (info_id8 hx8)) rfl (Gw.refl _), ?_⟩
          simp only [Act.put, List.setIfInBounds_toArray, List.set_cons_zero, List.set_cons_succ]
          refine .inl ⟨.bool hh, fun v W hW _ => step_call rfl 11 #[.agg (blmC b).toArray, .agg (idC x).toArray] (by go_simp) ((hhas W).mono fun e w' h => ⟨_, h.1, rfl, h.2⟩), ?_⟩
          simp only [Act.put, List.setIfInBounds_toArray, List.set_cons_zero, List.set_cons_succ]
          refine .inl ⟨.bool hh, fun v W hW _ => step_run rfl _ W (exec_move (.tmp 7) (.inl rfl) rfl) rfl (Gw.refl _), ?_⟩
          simp only [Act.put, List.setIfInBounds_toArray, List.set_cons_zero, List.set_cons_succ]
          refine .inl ⟨.bool true, fun v W hW _ => step_run rfl _ W (by go_simp) rfl (Gw.refl _), ?_⟩
          simp only [Act.put, List.setIfInBounds_toArray, List.set_cons_zero, List.set_cons_succ]
          refine .inl ⟨.bool true, fun v W hW _ => step_run rfl _ W (exec_move (.tmp 82) (.inl rfl) rfl) rfl (Gw.refl _), ?_⟩
          simp only [Act.put, List.setIfInBounds_toArray, List.set_cons_zero, List.set_cons_succ]
          refine .inl ⟨.agg (blmC b).toArray, fun v W hW _ => step_run rfl _ W (exec_load 24 (.tmp 3) rfl (w.heap.size) (0) rfl (blmC b) _ (((HG.out W hW).1).hb.rng) Try.underlying24 rfl (info_blmC ((HG.out W hW).1).hb.ok)) rfl (Gw.refl _), ?_⟩
          simp only [Act.put, List.setIfInBounds_toArray, List.set_cons_zero, List.set_cons_succ]
          refine .inl ⟨.int .i64 (n : Int), fun v W hW _ => step_call rfl 12 #[.agg (blmC b).toArray] (by go_simp) ((hcount W).mono fun e w' h => ⟨_, h.1, rfl, h.2⟩), ?_⟩
          simp only [Act.put, List.setIfInBounds_toArray, List.set_cons_zero, List.set_cons_succ]
          refine .inl ⟨.int .i64 (n : Int), fun v W hW _ => step_run rfl _ W (exec_move (.tmp 10) (.inl rfl) rfl) rfl (Gw.refl _), ?_⟩
          simp only [Act.put, List.setIfInBounds_toArray, List.set_cons_zero, List.set_cons_succ]
          refine .inl ⟨.bool true, fun v W hW _ => step_run rfl _ W (by go_simp) rfl (Gw.refl _), ?_⟩
          simp only [Act.put, List.setIfInBounds_toArray, List.set_cons_zero, List.set_cons_succ]
          refine .inl ⟨.bool true, fun v W hW _ => step_run rfl _ W (exec_pick (.tmp 83) (.tmp 87) (.const (.bool false)) rfl rfl rfl) rfl (Gw.refl _), ?_⟩
          simp only [Act.put, List.setIfInBounds_toArray, List.set_cons_zero, List.set_cons_succ]
          refine .inl ⟨.bool true, fun v W hW _ => step_run rfl _ W (exec_move (.tmp 88) (.inl rfl) rfl) rfl (Gw.refl _), ?_⟩
          simp only [Act.put, List.setIfInBounds_toArray, List.set_cons_zero, List.set_cons_succ]
          refine .inl ⟨.agg (blmC Bm.none_).toArray, fun v W hW _ => step_call rfl 8 #[.slice none 0 0] (by go_simp) ((hjoin W).mono fun e w' h => ⟨_, h.1, rfl, h.2⟩), ?_⟩
          simp only [Act.put, List.setIfInBounds_toArray, List.set_cons_zero, List.set_cons_succ]
          refine .inl ⟨.agg (blmC Bm.none_).toArray, fun v W hW _ => step_run rfl _ W (by go_simp; rfl) rfl (Gw.refl _), ?_⟩
          simp only [Act.put, List.setIfInBounds_toArray, List.set_cons_zero, List.set_cons_succ]
          refine .inl ⟨.bool true, fun v W hW _ => step_run rfl _ W (by have he := heq W; go_simp) rfl (Gw.refl _), ?_⟩
          simp only [Act.put, List.setIfInBounds_toArray, List.set_cons_zero, List.set_cons_succ]
          refine .inl ⟨.bool true, fun v W hW _ => step_run rfl _ W (exec_pick (.tmp 89) (.tmp 92) (.const (.bool false)) rfl rfl rfl) rfl (Gw.refl _), ?_⟩
          simp only [Act.put, List.setIfInBounds_toArray, List.set_cons_zero, List.set_cons_succ]
          refine .inl ⟨.bool true, fun v W hW _ => step_run rfl _ W (exec_move (.tmp 93) (.inr rfl) rfl) rfl (Gw.refl _), ?_⟩
          simp only [Act.put, List.setIfInBounds_toArray, List.set_cons_zero, List.set_cons_succ]
          intro v W18 hW18 _
          have HZ : Hid (Below w.heap.size w W18) := (HG.out W18 hW18).1.bel
          clear hhas hcount hjoin heq HG hW18
          go_wp2_with fail
          go_ret
          exact ⟨rfl, HZ.out⟩
theorem bloomSays_walk (x0 : List Nat) (x1 : List Nat) (x2 : List UInt8) (wx0 : Bm.Ok x0) (wx1 : Bm.Ok x1) (wx2 : x2.length = 8) (w : World) :
    Calls Try.prog 3 #[.agg (blmC x0).toArray, .agg (blmC x1).toArray, idV x2] w fun e w' => e = .returned (.bool true) ∧ Below w.heap.size w w' :=
  bloomSays_of x0 x1 (Bm.puts x0 (Bm.marks x2)) (Bm.joins [x0, x1]) (Bm.marks x2) x2 w wx0 wx1 (Bm.puts_ok wx0) (Bm.joins_ok (oks2 wx0 wx1)) wx2 rfl rfl rfl (Bm.bits_with wx0 _ (Bm.marks_lt x2)) (Bm.bits_both wx0 wx1)
end Go.Proofs.Ytpagbihebahnnaa
