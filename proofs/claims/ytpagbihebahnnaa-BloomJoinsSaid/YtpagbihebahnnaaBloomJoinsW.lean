/-
  The walk of lumkeep.BloomJoins: it returns true.
-/
import Derived.Test.YtpagbihebahnnaaBlLoop
import Derived.Test.YtpagbihebahnnaaRelOps
namespace Go.Proofs.Ytpagbihebahnnaa
open Go.RowKit
set_option maxRecDepth 4000

theorem oks2 {a b : List Nat} (ha : Bm.Ok a) (hb : Bm.Ok b) : Bm.Oks [a, b] := fun x hx => by
  simp only [List.mem_cons, List.not_mem_nil, or_false] at hx
  rcases hx with rfl | rfl
  · exact ha
  · exact hb
theorem oks3 {a b c : List Nat} (ha : Bm.Ok a) (hb : Bm.Ok b) (hc : Bm.Ok c) : Bm.Oks [a, b, c] := fun x hx => by
  simp only [List.mem_cons, List.not_mem_nil, or_false] at hx
  rcases hx with rfl | rfl | rfl
  · exact ha
  · exact hb
  · exact hc
/-- what lies in memory behind the first three statements -/
structure JW (w W : World) (a b c ab al : List Nat) (x : List UInt8) (g9 g10 : Nat) : Prop where
  ha : Bb W w.heap.size a
  hb : Bb W (w.heap.size + 1) b
  hc : Bb W (w.heap.size + 1 + 1) c
  hi : W.rangeAt (w.heap.size + 1 + 1 + 1) 0 (idC x)
  il : w.heap.size + 1 + 1 + 1 < W.heap.size
  hab : Bb W g9 ab
  hal : Bb W g10 al
theorem JW.past {w W W' : World} {a b c ab al : List Nat} {x : List UInt8} {g9 g10 : Nat} (h : JW w W a b c ab al x g9 g10) (k : Below W.heap.size W W') : JW w W' a b c ab al x g9 g10 :=
  ⟨h.ha.past k, h.hb.past k, h.hc.past k, rng_below h.hi k h.il, Nat.lt_of_lt_of_le h.il k.size, h.hab.past k, h.hal.past k⟩

set_option maxHeartbeats 4000000 in
theorem bloomJoins_of (a b c ab bc abc al aid : List Nat) (x : List UInt8) (w : World) (oa : Bm.Ok a) (ob : Bm.Ok b) (oc : Bm.Ok c) (oab : Bm.Ok ab) (obc : Bm.Ok bc) (oabc : Bm.Ok abc) (oal : Bm.Ok al) (oaid : Bm.Ok aid) (hx8 : x.length = 8)
    (j0 : Bm.joins [a, b] = ab) (j1 : Bm.joins [b, a] = ab) (j2 : Bm.joins [ab, c] = abc) (j3 : Bm.joins [b, c] = bc) (j4 : Bm.joins [a, bc] = abc) (j5 : Bm.joins [a, a] = a) (j6 : Bm.joins [a, b, c] = abc) (j7 : Bm.joins [a, al] = aid)
    (p0 : Bm.puts Bm.none_ (Bm.marks x) = al) (p1 : Bm.puts a (Bm.marks x) = aid) (q1 : Bm.has a (Bm.marks x) = true → Bm.has ab (Bm.marks x) = true) (q2 : Bm.has al (Bm.marks x) = true) :
    Calls Try.prog 5 #[.agg (blmC a).toArray, .agg (blmC b).toArray, .agg (blmC c).toArray, .agg (idC x).toArray] w fun e w' => e = .returned (.bool true) ∧ Below w.heap.size w w' := by
  have la := blmC_length oa
  have lb := blmC_length ob
  have lc := blmC_length oc
  have lx : (idC x).length = 8 := by rw [idC, List.length_map, hx8]
  obtain ⟨W1, hW1⟩ : ∃ W1, W1 = (((w.alloc (.cells (blmC a).toArray 24)).alloc (.cells (blmC b).toArray 24)).alloc (.cells (blmC c).toArray 24)).alloc (.cells (idC x).toArray 26) := ⟨_, rfl⟩
  have hs1 : W1.heap.size = w.heap.size + 1 + 1 + 1 + 1 := by rw [hW1]; simp
  have hB1 : Below w.heap.size w W1 := by
    rw [hW1]; exact ((((Below.refl _ w).alloc (Nat.le_refl _) _).alloc (by simp) _).alloc (by simp; omega) _).alloc (by simp; omega) _
  have h1a : Bb W1 w.heap.size a := by rw [hW1]; exact (((Bb.new oa w _).alloc _).alloc _).alloc _
  have h1b : Bb W1 (w.heap.size + 1) b := by
    rw [hW1]
    have := Bb.new ob (w.alloc (.cells (blmC a).toArray 24)) 24
    rw [World.size_alloc] at this
    exact (this.alloc _).alloc _
  have h1c : Bb W1 (w.heap.size + 1 + 1) c := by
    rw [hW1]
    have := Bb.new oc ((w.alloc (.cells (blmC a).toArray 24)).alloc (.cells (blmC b).toArray 24)) 24
    rw [World.size_alloc, World.size_alloc] at this
    exact this.alloc _
  have h1i : W1.rangeAt (w.heap.size + 1 + 1 + 1) 0 (idC x) := by
    rw [hW1]
    have := idC_at (w := ((w.alloc (.cells (blmC a).toArray 24)).alloc (.cells (blmC b).toArray 24)).alloc (.cells (blmC c).toArray 24)) (x := x) (t := 26)
    rwa [World.size_alloc, World.size_alloc, World.size_alloc] at this
  have HQ : Hid ((Bm.has a (Bm.marks x) = true → Bm.has ab (Bm.marks x) = true) ∧ Bm.has al (Bm.marks x) = true) := ⟨q1, q2⟩
  clear q1 q2
  go_enter Try.func5, Try.ntmps5
  go_upto_region 1 with fail
  rw [← hW1]
  clear hW1 la lb lc lx
  refine wp_region_lit ?_
  refine wpList_load_mid rfl 24 (.tmp 4) rfl w.heap.size 0 rfl (blmC a) _ h1a.rng Try.underlying24 rfl (info_blmC oa) ?_
  refine wpList_load_mid rfl 24 (.tmp 5) rfl (w.heap.size + 1) 0 rfl (blmC b) _ h1b.rng Try.underlying24 rfl (info_blmC ob) ?_
  refine wpList_exec rfl (exec_blms 42 2 _ rfl [a, b] rfl rfl rfl (oks2 oa ob) (by simp) (by simp)) ?_
  have hR2 := rx_new W1 24 (oks2 oa ob) (by simp)
  have hb2 : Below W1.heap.size W1 (W1.alloc (.cells (rowR blmC [a, b]).toArray 24)) := (Below.refl _ W1).alloc (Nat.le_refl _) _
  generalize W1.alloc (.cells (rowR blmC [a, b]).toArray 24) = W2 at *
  generalize Value.slice (some ⟨W1.heap.size, 0, none⟩) [a, b].length [a, b].length = v2 at *
  refine wpList_plain rfl fun K hK => ?_
  go_simp
  have hj := join_any v2 [a, b] W2 hR2 (oks2 oa ob)
  rw [j0] at hj
  refine hj.mono ?_
  rintro e w3 ⟨rfl, hb3⟩
  refine hK _ _ ?_
  clear hK K hj hR2
  have hb13 : Below W1.heap.size W1 w3 := hb2.trans (hb3.mono hb2.size)
  clear hb2 hb3
  refine wpList_plain rfl fun K hK => ?_
  go_simp
  refine hK _ _ ?_
  clear hK K
  obtain ⟨W4, hW4, hB4, hb4⟩ := laid_blm oab w3 24
  have hth := (Bb.zero w3 24).thereA oab
  dsimp only [Z16] at hW4 hth
  refine wpList_store_mid rfl 24 (.tmp 9) (.tmp 15) rfl w3.heap.size 0 (blmC ab).toArray rfl rfl hth (info_blmA oab) (blmC_all _) ?_
  rw [show (blmC ab).toArray.toList = blmC ab from rfl, hW4]
  clear hW4 hth
  have hb14 : Below W1.heap.size W1 W4 := hb13.trans (hb4.mono hb13.size)
  generalize w3.heap.size = g9 at *
  have HB4 : Hid (Below w.heap.size w W4) := hB1.trans (hb14.mono hB1.size)
  have h4a := h1a.past hb14
  have h4b := h1b.past hb14
  have h4c := h1c.past hb14
  have h4i := rng_below h1i hb14 (by rw [hs1]; omega)
  have il4 : w.heap.size + 1 + 1 + 1 < W4.heap.size := Nat.lt_of_lt_of_le (by rw [hs1]; omega) hb14.size
  clear h1a h1b h1c h1i hb13 hb4 hb14 hB1 hs1
  go_upto_region 2 with fail
  refine wp_region_lit ?_
  refine wpList_plain rfl fun K hK => ?_
  go_simp
  refine hK _ _ ?_
  clear hK K
  refine wpList_load_mid rfl 26 (.tmp 7) rfl (w.heap.size + 1 + 1 + 1) 0 rfl (idC x) _ h4i Try.underlying26 rfl (info_id8 hx8) ?_
  refine wpList_plain rfl fun K hK => ?_
  go_simp
  have hadd0 := add_any Bm.none_ x W4 Bm.none_ok hx8
  rw [p0] at hadd0
  refine hadd0.mono ?_
  rintro e w5 ⟨rfl, hb5⟩
  refine hK _ _ ?_
  clear hK K hadd0
  refine wpList_plain rfl fun K hK => ?_
  go_simp
  refine hK _ _ ?_
  clear hK K
  obtain ⟨W6, hW6, hB6, hb6⟩ := laid_blm oal w5 24
  have hth := (Bb.zero w5 24).thereA oal
  dsimp only [Z16] at hW6 hth
  refine wpList_store_mid rfl 24 (.tmp 10) (.tmp 18) rfl w5.heap.size 0 (blmC al).toArray rfl rfl hth (info_blmA oal) (blmC_all _) ?_
  rw [show (blmC al).toArray.toList = blmC al from rfl, hW6]
  clear hW6 hth
  have hb46 : Below W4.heap.size W4 W6 := hb5.trans (hb6.mono hb5.size)
  generalize w5.heap.size = g10 at *
  have HB6 : Hid (Below w.heap.size w W6) := HB4.out.trans (hb46.mono HB4.out.size)
  have HJ6 : Hid (JW w W6 a b c ab al x g9 g10) := ⟨h4a.past hb46, h4b.past hb46, h4c.past hb46, rng_below h4i hb46 il4, Nat.lt_of_lt_of_le il4 hb46.size, hB4.past hb46, hB6⟩
  clear h4a h4b h4c h4i il4 hB4 hB6 hb5 hb6 hb46 HB4
  have HG : Hid (∀ W, Gw W6 W → JW w W a b c ab al x g9 g10) := fun W h => HJ6.out.past h
  clear HJ6
  have eab := fun W => blm_eq W oab oab
  rw [beq_self_eq_true] at eab
  have eabc := fun W => blm_eq W oabc oabc
  rw [beq_self_eq_true] at eabc
  have ea := fun W => blm_eq W oa oa
  rw [beq_self_eq_true] at ea
  go_upto_region 3 with fail
  refine wp_region_rel (G := Gw) (W0 := W6) Gw.refl Gw.trans (by kernel_rfl) (by kernel_rfl) (by kernel_rfl) (Below.refl _ W6).drew ?_
  refine .inl ⟨.agg (blmC ab).toArray, fun v W hW _ => step_run rfl _ W (exec_load 24 (.tmp 9) rfl (g9) (0) rfl (blmC ab) _ ((HG.out W hW).hab.rng) Try.underlying24 rfl (info_blmC (HG.out W hW).hab.ok)) rfl (Gw.refl _), ?_⟩
  simp only [Act.put, List.setIfInBounds_toArray, List.set_cons_zero, List.set_cons_succ]
  refine .inl ⟨.agg (blmC b).toArray, fun v W hW _ => step_run rfl _ W (exec_load 24 (.tmp 5) rfl (w.heap.size + 1) (0) rfl (blmC b) _ ((HG.out W hW).hb.rng) Try.underlying24 rfl (info_blmC (HG.out W hW).hb.ok)) rfl (Gw.refl _), ?_⟩
  simp only [Act.put, List.setIfInBounds_toArray, List.set_cons_zero, List.set_cons_succ]
  refine .inl ⟨.agg (blmC a).toArray, fun v W hW _ => step_run rfl _ W (exec_load 24 (.tmp 4) rfl (w.heap.size) (0) rfl (blmC a) _ ((HG.out W hW).ha.rng) Try.underlying24 rfl (info_blmC (HG.out W hW).ha.ok)) rfl (Gw.refl _), ?_⟩
  simp only [Act.put, List.setIfInBounds_toArray, List.set_cons_zero, List.set_cons_succ]
  refine .inr ⟨fun u W => Rx 16 blmC W u ([b, a]), rx_mono, fun v W hW _ => step_run rfl _ _ (exec_blms 42 2 _ rfl ([b, a]) rfl rfl rfl (oks2 ob oa) (by simp) (by simp)) (rx_new W _ (oks2 ob oa) (by simp)) ((Below.refl _ W).alloc (Nat.le_refl _) _), ?_⟩
  simp only [Act.put, List.setIfInBounds_toArray, List.set_cons_zero, List.set_cons_succ]
  refine .inl ⟨.agg (blmC ab).toArray, fun v W hW hd => ?_, ?_⟩
  · have h7 : Rx 16 blmC W (v 3) ([b, a]) := hd 3 (by kernel_rfl)
    clear hd
    exact step_call rfl 8 #[v 3] (by go_simp) ((join_any (v 3) ([b, a]) W h7 (oks2 ob oa)).mono fun e w' h => ⟨_, h.1, by rw [j1], h.2⟩)
  simp only [Act.put, List.setIfInBounds_toArray, List.set_cons_zero, List.set_cons_succ]
  refine .inl ⟨.bool true, fun v W hW _ => step_run rfl _ W (by have he := eab W; go_simp) rfl (Gw.refl _), ?_⟩
  simp only [Act.put, List.setIfInBounds_toArray, List.set_cons_zero, List.set_cons_succ]
  refine .inl ⟨.bool true, fun v W hW _ => step_run rfl _ W (exec_move (.tmp 24) (.inl rfl) rfl) rfl (Gw.refl _), ?_⟩
  simp only [Act.put, List.setIfInBounds_toArray, List.set_cons_zero, List.set_cons_succ]
  refine .inl ⟨.agg (blmC ab).toArray, fun v W hW _ => step_run rfl _ W (exec_load 24 (.tmp 9) rfl (g9) (0) rfl (blmC ab) _ ((HG.out W hW).hab.rng) Try.underlying24 rfl (info_blmC (HG.out W hW).hab.ok)) rfl (Gw.refl _), ?_⟩
  simp only [Act.put, List.setIfInBounds_toArray, List.set_cons_zero, List.set_cons_succ]
  refine .inl ⟨.agg (blmC c).toArray, fun v W hW _ => step_run rfl _ W (exec_load 24 (.tmp 6) rfl (w.heap.size + 1 + 1) (0) rfl (blmC c) _ ((HG.out W hW).hc.rng) Try.underlying24 rfl (info_blmC (HG.out W hW).hc.ok)) rfl (Gw.refl _), ?_⟩
  simp only [Act.put, List.setIfInBounds_toArray, List.set_cons_zero, List.set_cons_succ]
  refine .inr ⟨fun u W => Rx 16 blmC W u ([ab, c]), rx_mono, fun v W hW _ => step_run rfl _ _ (exec_blms 42 2 _ rfl ([ab, c]) rfl rfl rfl (oks2 oab oc) (by simp) (by simp)) (rx_new W _ (oks2 oab oc) (by simp)) ((Below.refl _ W).alloc (Nat.le_refl _) _), ?_⟩
  simp only [Act.put, List.setIfInBounds_toArray, List.set_cons_zero, List.set_cons_succ]
  refine .inl ⟨.agg (blmC abc).toArray, fun v W hW hd => ?_, ?_⟩
  · have h7 : Rx 16 blmC W (v 9) ([ab, c]) := hd 9 (by kernel_rfl)
    clear hd
    exact step_call rfl 8 #[v 9] (by go_simp) ((join_any (v 9) ([ab, c]) W h7 (oks2 oab oc)).mono fun e w' h => ⟨_, h.1, by rw [j2], h.2⟩)
  simp only [Act.put, List.setIfInBounds_toArray, List.set_cons_zero, List.set_cons_succ]
  refine .inl ⟨.agg (blmC a).toArray, fun v W hW _ => step_run rfl _ W (exec_load 24 (.tmp 4) rfl (w.heap.size) (0) rfl (blmC a) _ ((HG.out W hW).ha.rng) Try.underlying24 rfl (info_blmC (HG.out W hW).ha.ok)) rfl (Gw.refl _), ?_⟩
  simp only [Act.put, List.setIfInBounds_toArray, List.set_cons_zero, List.set_cons_succ]
  refine .inl ⟨.agg (blmC b).toArray, fun v W hW _ => step_run rfl _ W (exec_load 24 (.tmp 5) rfl (w.heap.size + 1) (0) rfl (blmC b) _ ((HG.out W hW).hb.rng) Try.underlying24 rfl (info_blmC (HG.out W hW).hb.ok)) rfl (Gw.refl _), ?_⟩
  simp only [Act.put, List.setIfInBounds_toArray, List.set_cons_zero, List.set_cons_succ]
  refine .inl ⟨.agg (blmC c).toArray, fun v W hW _ => step_run rfl _ W (exec_load 24 (.tmp 6) rfl (w.heap.size + 1 + 1) (0) rfl (blmC c) _ ((HG.out W hW).hc.rng) Try.underlying24 rfl (info_blmC (HG.out W hW).hc.ok)) rfl (Gw.refl _), ?_⟩
  simp only [Act.put, List.setIfInBounds_toArray, List.set_cons_zero, List.set_cons_succ]
  refine .inr ⟨fun u W => Rx 16 blmC W u ([b, c]), rx_mono, fun v W hW _ => step_run rfl _ _ (exec_blms 42 2 _ rfl ([b, c]) rfl rfl rfl (oks2 ob oc) (by simp) (by simp)) (rx_new W _ (oks2 ob oc) (by simp)) ((Below.refl _ W).alloc (Nat.le_refl _) _), ?_⟩
  simp only [Act.put, List.setIfInBounds_toArray, List.set_cons_zero, List.set_cons_succ]
  refine .inl ⟨.agg (blmC bc).toArray, fun v W hW hd => ?_, ?_⟩
  · have h7 : Rx 16 blmC W (v 14) ([b, c]) := hd 14 (by kernel_rfl)
    clear hd
    exact step_call rfl 8 #[v 14] (by go_simp) ((join_any (v 14) ([b, c]) W h7 (oks2 ob oc)).mono fun e w' h => ⟨_, h.1, by rw [j3], h.2⟩)
  simp only [Act.put, List.setIfInBounds_toArray, List.set_cons_zero, List.set_cons_succ]
  refine .inr ⟨fun u W => Rx 16 blmC W u ([a, bc]), rx_mono, fun v W hW _ => step_run rfl _ _ (exec_blms 42 2 _ rfl ([a, bc]) rfl rfl rfl (oks2 oa obc) (by simp) (by simp)) (rx_new W _ (oks2 oa obc) (by simp)) ((Below.refl _ W).alloc (Nat.le_refl _) _), ?_⟩
  simp only [Act.put, List.setIfInBounds_toArray, List.set_cons_zero, List.set_cons_succ]
  refine .inl ⟨.agg (blmC abc).toArray, fun v W hW hd => ?_, ?_⟩
  · have h7 : Rx 16 blmC W (v 16) ([a, bc]) := hd 16 (by kernel_rfl)
    clear hd
    exact step_call rfl 8 #[v 16] (by go_simp) ((join_any (v 16) ([a, bc]) W h7 (oks2 oa obc)).mono fun e w' h => ⟨_, h.1, by rw [j4], h.2⟩)
  simp only [Act.put, List.setIfInBounds_toArray, List.set_cons_zero, List.set_cons_succ]
  refine .inl ⟨.bool true, fun v W hW _ => step_run rfl _ W (by have he := eabc W; go_simp) rfl (Gw.refl _), ?_⟩
  simp only [Act.put, List.setIfInBounds_toArray, List.set_cons_zero, List.set_cons_succ]
  refine .inl ⟨.bool true, fun v W hW _ => step_run rfl _ W (exec_pick (.tmp 25) (.tmp 37) (.const (.bool false)) rfl rfl rfl) rfl (Gw.refl _), ?_⟩
  simp only [Act.put, List.setIfInBounds_toArray, List.set_cons_zero, List.set_cons_succ]
  refine .inl ⟨.bool true, fun v W hW _ => step_run rfl _ W (exec_move (.tmp 38) (.inl rfl) rfl) rfl (Gw.refl _), ?_⟩
  simp only [Act.put, List.setIfInBounds_toArray, List.set_cons_zero, List.set_cons_succ]
  refine .inl ⟨.agg (blmC a).toArray, fun v W hW _ => step_run rfl _ W (exec_load 24 (.tmp 4) rfl (w.heap.size) (0) rfl (blmC a) _ ((HG.out W hW).ha.rng) Try.underlying24 rfl (info_blmC (HG.out W hW).ha.ok)) rfl (Gw.refl _), ?_⟩
  simp only [Act.put, List.setIfInBounds_toArray, List.set_cons_zero, List.set_cons_succ]
  refine .inl ⟨.agg (blmC a).toArray, fun v W hW _ => step_run rfl _ W (exec_load 24 (.tmp 4) rfl (w.heap.size) (0) rfl (blmC a) _ ((HG.out W hW).ha.rng) Try.underlying24 rfl (info_blmC (HG.out W hW).ha.ok)) rfl (Gw.refl _), ?_⟩
  simp only [Act.put, List.setIfInBounds_toArray, List.set_cons_zero, List.set_cons_succ]
  refine .inr ⟨fun u W => Rx 16 blmC W u ([a, a]), rx_mono, fun v W hW _ => step_run rfl _ _ (exec_blms 42 2 _ rfl ([a, a]) rfl rfl rfl (oks2 oa oa) (by simp) (by simp)) (rx_new W _ (oks2 oa oa) (by simp)) ((Below.refl _ W).alloc (Nat.le_refl _) _), ?_⟩
  simp only [Act.put, List.setIfInBounds_toArray, List.set_cons_zero, List.set_cons_succ]
  refine .inl ⟨.agg (blmC a).toArray, fun v W hW hd => ?_, ?_⟩
  · have h7 : Rx 16 blmC W (v 23) ([a, a]) := hd 23 (by kernel_rfl)
    clear hd
    exact step_call rfl 8 #[v 23] (by go_simp) ((join_any (v 23) ([a, a]) W h7 (oks2 oa oa)).mono fun e w' h => ⟨_, h.1, by rw [j5], h.2⟩)
  simp only [Act.put, List.setIfInBounds_toArray, List.set_cons_zero, List.set_cons_succ]
  refine .inl ⟨.agg (blmC a).toArray, fun v W hW _ => step_run rfl _ W (exec_load 24 (.tmp 4) rfl (w.heap.size) (0) rfl (blmC a) _ ((HG.out W hW).ha.rng) Try.underlying24 rfl (info_blmC (HG.out W hW).ha.ok)) rfl (Gw.refl _), ?_⟩
  simp only [Act.put, List.setIfInBounds_toArray, List.set_cons_zero, List.set_cons_succ]
  refine .inl ⟨.bool true, fun v W hW _ => step_run rfl _ W (by have he := ea W; go_simp) rfl (Gw.refl _), ?_⟩
  simp only [Act.put, List.setIfInBounds_toArray, List.set_cons_zero, List.set_cons_succ]
  refine .inl ⟨.bool true, fun v W hW _ => step_run rfl _ W (exec_pick (.tmp 39) (.tmp 45) (.const (.bool false)) rfl rfl rfl) rfl (Gw.refl _), ?_⟩
  simp only [Act.put, List.setIfInBounds_toArray, List.set_cons_zero, List.set_cons_succ]
  refine .inl ⟨.bool true, fun v W hW _ => step_run rfl _ W (exec_move (.tmp 46) (.inl rfl) rfl) rfl (Gw.refl _), ?_⟩
  simp only [Act.put, List.setIfInBounds_toArray, List.set_cons_zero, List.set_cons_succ]
  refine .inl ⟨.agg (blmC a).toArray, fun v W hW _ => step_run rfl _ W (exec_load 24 (.tmp 4) rfl (w.heap.size) (0) rfl (blmC a) _ ((HG.out W hW).ha.rng) Try.underlying24 rfl (info_blmC (HG.out W hW).ha.ok)) rfl (Gw.refl _), ?_⟩
  simp only [Act.put, List.setIfInBounds_toArray, List.set_cons_zero, List.set_cons_succ]
  refine .inl ⟨.agg (blmC b).toArray, fun v W hW _ => step_run rfl _ W (exec_load 24 (.tmp 5) rfl (w.heap.size + 1) (0) rfl (blmC b) _ ((HG.out W hW).hb.rng) Try.underlying24 rfl (info_blmC (HG.out W hW).hb.ok)) rfl (Gw.refl _), ?_⟩
  simp only [Act.put, List.setIfInBounds_toArray, List.set_cons_zero, List.set_cons_succ]
  refine .inl ⟨.agg (blmC c).toArray, fun v W hW _ => step_run rfl _ W (exec_load 24 (.tmp 6) rfl (w.heap.size + 1 + 1) (0) rfl (blmC c) _ ((HG.out W hW).hc.rng) Try.underlying24 rfl (info_blmC (HG.out W hW).hc.ok)) rfl (Gw.refl _), ?_⟩
  simp only [Act.put, List.setIfInBounds_toArray, List.set_cons_zero, List.set_cons_succ]
  refine .inr ⟨fun u W => Rx 16 blmC W u ([a, b, c]), rx_mono, fun v W hW _ => step_run rfl _ _ (exec_blms 42 3 _ rfl ([a, b, c]) rfl rfl rfl (oks3 oa ob oc) (by simp) (by simp)) (rx_new W _ (oks3 oa ob oc) (by simp)) ((Below.refl _ W).alloc (Nat.le_refl _) _), ?_⟩
  simp only [Act.put, List.setIfInBounds_toArray, List.set_cons_zero, List.set_cons_succ]
  refine .inl ⟨.agg (blmC abc).toArray, fun v W hW hd => ?_, ?_⟩
  · have h7 : Rx 16 blmC W (v 32) ([a, b, c]) := hd 32 (by kernel_rfl)
    clear hd
    exact step_call rfl 8 #[v 32] (by go_simp) ((join_any (v 32) ([a, b, c]) W h7 (oks3 oa ob oc)).mono fun e w' h => ⟨_, h.1, by rw [j6], h.2⟩)
  simp only [Act.put, List.setIfInBounds_toArray, List.set_cons_zero, List.set_cons_succ]
  refine .inl ⟨.agg (blmC ab).toArray, fun v W hW _ => step_run rfl _ W (exec_load 24 (.tmp 9) rfl (g9) (0) rfl (blmC ab) _ ((HG.out W hW).hab.rng) Try.underlying24 rfl (info_blmC (HG.out W hW).hab.ok)) rfl (Gw.refl _), ?_⟩
  simp only [Act.put, List.setIfInBounds_toArray, List.set_cons_zero, List.set_cons_succ]
  refine .inl ⟨.agg (blmC c).toArray, fun v W hW _ => step_run rfl _ W (exec_load 24 (.tmp 6) rfl (w.heap.size + 1 + 1) (0) rfl (blmC c) _ ((HG.out W hW).hc.rng) Try.underlying24 rfl (info_blmC (HG.out W hW).hc.ok)) rfl (Gw.refl _), ?_⟩
  simp only [Act.put, List.setIfInBounds_toArray, List.set_cons_zero, List.set_cons_succ]
  refine .inr ⟨fun u W => Rx 16 blmC W u ([ab, c]), rx_mono, fun v W hW _ => step_run rfl _ _ (exec_blms 42 2 _ rfl ([ab, c]) rfl rfl rfl (oks2 oab oc) (by simp) (by simp)) (rx_new W _ (oks2 oab oc) (by simp)) ((Below.refl _ W).alloc (Nat.le_refl _) _), ?_⟩
  simp only [Act.put, List.setIfInBounds_toArray, List.set_cons_zero, List.set_cons_succ]
  refine .inl ⟨.agg (blmC abc).toArray, fun v W hW hd => ?_, ?_⟩
  · have h7 : Rx 16 blmC W (v 36) ([ab, c]) := hd 36 (by kernel_rfl)
    clear hd
    exact step_call rfl 8 #[v 36] (by go_simp) ((join_any (v 36) ([ab, c]) W h7 (oks2 oab oc)).mono fun e w' h => ⟨_, h.1, by rw [j2], h.2⟩)
  simp only [Act.put, List.setIfInBounds_toArray, List.set_cons_zero, List.set_cons_succ]
  refine .inl ⟨.bool true, fun v W hW _ => step_run rfl _ W (by have he := eabc W; go_simp) rfl (Gw.refl _), ?_⟩
  simp only [Act.put, List.setIfInBounds_toArray, List.set_cons_zero, List.set_cons_succ]
  refine .inl ⟨.bool true, fun v W hW _ => step_run rfl _ W (exec_pick (.tmp 47) (.tmp 57) (.const (.bool false)) rfl rfl rfl) rfl (Gw.refl _), ?_⟩
  simp only [Act.put, List.setIfInBounds_toArray, List.set_cons_zero, List.set_cons_succ]
  refine .inl ⟨.bool true, fun v W hW _ => step_run rfl _ W (exec_move (.tmp 58) (.inr rfl) rfl) rfl (Gw.refl _), ?_⟩
  simp only [Act.put, List.setIfInBounds_toArray, List.set_cons_zero, List.set_cons_succ]
  intro v W7 hW7 _
  have HG7 : Hid (∀ W, Gw W7 W → JW w W a b c ab al x g9 g10) := fun W h => HG.out W (Gw.trans _ _ _ hW7 h)
  have HB : Hid (Below w.heap.size w W7) := HB6.out.trans (Below.mono hW7 HB6.out.size)
  clear HG HB6 hW7 eab eabc ea
  have HG := HG7
  clear HG7
  have eaid := fun W => blm_eq W oaid oaid
  rw [beq_self_eq_true] at eaid
  have hadd := fun W => add_any a x W oa hx8
  rw [p1] at hadd
  have hal := fun W => has_any al x W oal hx8
  rw [HQ.out.2] at hal
  have ha := fun W => has_any a x W oa hx8
  cases hq : Bm.has a (Bm.marks x) with
  | true =>
    rw [hq] at ha
    have hab := fun W => has_any ab x W oab hx8
    rw [HQ.out.1 hq] at hab
    clear hq
    go_upto_region 4 with fail
    refine wp_region_rel (G := Gw) (W0 := W7) Gw.refl Gw.trans (by kernel_rfl) (by kernel_rfl) (by kernel_rfl) (Below.refl _ W7).drew ?_
    refine .inl ⟨.bool true, fun v W hW _ => step_run rfl _ W (exec_move (.tmp 11) (.inl rfl) rfl) rfl (Gw.refl _), ?_⟩
    simp only [Act.put, List.setIfInBounds_toArray, List.set_cons_zero, List.set_cons_succ]
    refine .inl ⟨.bool true, fun v W hW _ => step_run rfl _ W (exec_move (.tmp 59) (.inl rfl) rfl) rfl (Gw.refl _), ?_⟩
    simp only [Act.put, List.setIfInBounds_toArray, List.set_cons_zero, List.set_cons_succ]
    refine .inl ⟨.agg (blmC a).toArray, fun v W hW _ => step_run rfl _ W (exec_load 24 (.tmp 4) rfl (w.heap.size) (0) rfl (blmC a) _ ((HG.out W hW).ha.rng) Try.underlying24 rfl (info_blmC (HG.out W hW).ha.ok)) rfl (Gw.refl _), ?_⟩
    simp only [Act.put, List.setIfInBounds_toArray, List.set_cons_zero, List.set_cons_succ]
    refine .inl ⟨.agg (idC x).toArray, fun v W hW _ => step_run rfl _ W (exec_load 26 (.tmp 7) rfl (w.heap.size + 1 + 1 + 1) (0) rfl (idC x) _ ((HG.out W hW).hi) Try.underlying26 rfl (info_id8 hx8)) rfl (Gw.refl _), ?_⟩
    simp only [Act.put, List.setIfInBounds_toArray, List.set_cons_zero, List.set_cons_succ]
    refine .inl ⟨.agg (blmC aid).toArray, fun v W hW _ => step_call rfl 7 #[.agg (blmC a).toArray, .agg (idC x).toArray] (by go_simp) ((hadd W).mono fun e w' h => ⟨_, h.1, rfl, h.2⟩), ?_⟩
    simp only [Act.put, List.setIfInBounds_toArray, List.set_cons_zero, List.set_cons_succ]
    refine .inl ⟨.agg (blmC a).toArray, fun v W hW _ => step_run rfl _ W (exec_load 24 (.tmp 4) rfl (w.heap.size) (0) rfl (blmC a) _ ((HG.out W hW).ha.rng) Try.underlying24 rfl (info_blmC (HG.out W hW).ha.ok)) rfl (Gw.refl _), ?_⟩
    simp only [Act.put, List.setIfInBounds_toArray, List.set_cons_zero, List.set_cons_succ]
    refine .inl ⟨.agg (blmC al).toArray, fun v W hW _ => step_run rfl _ W (exec_load 24 (.tmp 10) rfl (g10) (0) rfl (blmC al) _ ((HG.out W hW).hal.rng) Try.underlying24 rfl (info_blmC (HG.out W hW).hal.ok)) rfl (Gw.refl _), ?_⟩
    simp only [Act.put, List.setIfInBounds_toArray, List.set_cons_zero, List.set_cons_succ]
    refine .inr ⟨fun u W => Rx 16 blmC W u ([a, al]), rx_mono, fun v W hW _ => step_run rfl _ _ (exec_blms 42 2 _ rfl ([a, al]) rfl rfl rfl (oks2 oa oal) (by simp) (by simp)) (rx_new W _ (oks2 oa oal) (by simp)) ((Below.refl _ W).alloc (Nat.le_refl _) _), ?_⟩
    simp only [Act.put, List.setIfInBounds_toArray, List.set_cons_zero, List.set_cons_succ]
    refine .inl ⟨.agg (blmC aid).toArray, fun v W hW hd => ?_, ?_⟩
    · have h7 : Rx 16 blmC W (v 7) ([a, al]) := hd 7 (by kernel_rfl)
      clear hd
      exact step_call rfl 8 #[v 7] (by go_simp) ((join_any (v 7) ([a, al]) W h7 (oks2 oa oal)).mono fun e w' h => ⟨_, h.1, by rw [j7], h.2⟩)
    simp only [Act.put, List.setIfInBounds_toArray, List.set_cons_zero, List.set_cons_succ]
    refine .inl ⟨.bool true, fun v W hW _ => step_run rfl _ W (by have he := eaid W; go_simp) rfl (Gw.refl _), ?_⟩
    simp only [Act.put, List.setIfInBounds_toArray, List.set_cons_zero, List.set_cons_succ]
    refine .inl ⟨.bool true, fun v W hW _ => step_run rfl _ W (exec_pick (.tmp 60) (.tmp 68) (.const (.bool false)) rfl rfl rfl) rfl (Gw.refl _), ?_⟩
    simp only [Act.put, List.setIfInBounds_toArray, List.set_cons_zero, List.set_cons_succ]
    refine .inl ⟨.bool true, fun v W hW _ => step_run rfl _ W (exec_move (.tmp 69) (.inl rfl) rfl) rfl (Gw.refl _), ?_⟩
    simp only [Act.put, List.setIfInBounds_toArray, List.set_cons_zero, List.set_cons_succ]
    refine .inl ⟨.agg (blmC a).toArray, fun v W hW _ => step_run rfl _ W (exec_load 24 (.tmp 4) rfl (w.heap.size) (0) rfl (blmC a) _ ((HG.out W hW).ha.rng) Try.underlying24 rfl (info_blmC (HG.out W hW).ha.ok)) rfl (Gw.refl _), ?_⟩
    simp only [Act.put, List.setIfInBounds_toArray, List.set_cons_zero, List.set_cons_succ]
    refine .inl ⟨.agg (idC x).toArray, fun v W hW _ => step_run rfl _ W (exec_load 26 (.tmp 7) rfl (w.heap.size + 1 + 1 + 1) (0) rfl (idC x) _ ((HG.out W hW).hi) Try.underlying26 rfl (info_id8 hx8)) rfl (Gw.refl _), ?_⟩
    simp only [Act.put, List.setIfInBounds_toArray, List.set_cons_zero, List.set_cons_succ]
    refine .inl ⟨.bool true, fun v W hW _ => step_call rfl 11 #[.agg (blmC a).toArray, .agg (idC x).toArray] (by go_simp) ((ha W).mono fun e w' h => ⟨_, h.1, rfl, h.2⟩), ?_⟩
    simp only [Act.put, List.setIfInBounds_toArray, List.set_cons_zero, List.set_cons_succ]
    refine .inl ⟨.bool false, fun v W hW _ => step_run rfl _ W (by go_simp) rfl (Gw.refl _), ?_⟩
    simp only [Act.put, List.setIfInBounds_toArray, List.set_cons_zero, List.set_cons_succ]
    refine .inl ⟨.bool false, fun v W hW _ => step_run rfl _ W (exec_move (.tmp 74) (.inl rfl) rfl) rfl (Gw.refl _), ?_⟩
    simp only [Act.put, List.setIfInBounds_toArray, List.set_cons_zero, List.set_cons_succ]
    refine .inl ⟨.agg (blmC ab).toArray, fun v W hW _ => step_run rfl _ W (exec_load 24 (.tmp 9) rfl (g9) (0) rfl (blmC ab) _ ((HG.out W hW).hab.rng) Try.underlying24 rfl (info_blmC (HG.out W hW).hab.ok)) rfl (Gw.refl _), ?_⟩
    simp only [Act.put, List.setIfInBounds_toArray, List.set_cons_zero, List.set_cons_succ]
    refine .inl ⟨.agg (idC x).toArray, fun v W hW _ => step_run rfl _ W (exec_load 26 (.tmp 7) rfl (w.heap.size + 1 + 1 + 1) (0) rfl (idC x) _ ((HG.out W hW).hi) Try.underlying26 rfl (info_id8 hx8)) rfl (Gw.refl _), ?_⟩
    simp only [Act.put, List.setIfInBounds_toArray, List.set_cons_zero, List.set_cons_succ]
    refine .inl ⟨.bool true, fun v W hW _ => step_call rfl 11 #[.agg (blmC ab).toArray, .agg (idC x).toArray] (by go_simp) ((hab W).mono fun e w' h => ⟨_, h.1, rfl, h.2⟩), ?_⟩
    simp only [Act.put, List.setIfInBounds_toArray, List.set_cons_zero, List.set_cons_succ]
    refine .inl ⟨.bool true, fun v W hW _ => step_run rfl _ W (exec_pick (.tmp 75) (.const (.bool true)) (.tmp 78) rfl rfl rfl) rfl (Gw.refl _), ?_⟩
    simp only [Act.put, List.setIfInBounds_toArray, List.set_cons_zero, List.set_cons_succ]
    refine .inl ⟨.bool true, fun v W hW _ => step_run rfl _ W (exec_pick (.tmp 70) (.tmp 79) (.const (.bool false)) rfl rfl rfl) rfl (Gw.refl _), ?_⟩
    simp only [Act.put, List.setIfInBounds_toArray, List.set_cons_zero, List.set_cons_succ]
    refine .inl ⟨.bool true, fun v W hW _ => step_run rfl _ W (exec_move (.tmp 80) (.inl rfl) rfl) rfl (Gw.refl _), ?_⟩
    simp only [Act.put, List.setIfInBounds_toArray, List.set_cons_zero, List.set_cons_succ]
    refine .inl ⟨.agg (blmC al).toArray, fun v W hW _ => step_run rfl _ W (exec_load 24 (.tmp 10) rfl (g10) (0) rfl (blmC al) _ ((HG.out W hW).hal.rng) Try.underlying24 rfl (info_blmC (HG.out W hW).hal.ok)) rfl (Gw.refl _), ?_⟩
    simp only [Act.put, List.setIfInBounds_toArray, List.set_cons_zero, List.set_cons_succ]
    refine .inl ⟨.agg (idC x).toArray, fun v W hW _ => step_run rfl _ W (exec_load 26 (.tmp 7) rfl (w.heap.size + 1 + 1 + 1) (0) rfl (idC x) _ ((HG.out W hW).hi) Try.underlying26 rfl (info_id8 hx8)) rfl (Gw.refl _), ?_⟩
    simp only [Act.put, List.setIfInBounds_toArray, List.set_cons_zero, List.set_cons_succ]
    refine .inl ⟨.bool true, fun v W hW _ => step_call rfl 11 #[.agg (blmC al).toArray, .agg (idC x).toArray] (by go_simp) ((hal W).mono fun e w' h => ⟨_, h.1, rfl, h.2⟩), ?_⟩
    simp only [Act.put, List.setIfInBounds_toArray, List.set_cons_zero, List.set_cons_succ]
    refine .inl ⟨.bool true, fun v W hW _ => step_run rfl _ W (exec_pick (.tmp 81) (.tmp 84) (.const (.bool false)) rfl rfl rfl) rfl (Gw.refl _), ?_⟩
    simp only [Act.put, List.setIfInBounds_toArray, List.set_cons_zero, List.set_cons_succ]
    refine .inl ⟨.bool true, fun v W hW _ => step_run rfl _ W (exec_move (.tmp 85) (.inr rfl) rfl) rfl (Gw.refl _), ?_⟩
    simp only [Act.put, List.setIfInBounds_toArray, List.set_cons_zero, List.set_cons_succ]
    intro v W hW _
    have HZ : Hid (Below w.heap.size w W) := HB.out.trans (Below.mono hW HB.out.size)
    clear hadd ha hab hal eaid HG HB
    go_wp2_with fail
    go_ret
    exact ⟨rfl, HZ.out⟩
  | false =>
    rw [hq] at ha
    have hab := True.intro
    clear hq
    go_upto_region 4 with fail
    refine wp_region_rel (G := Gw) (W0 := W7) Gw.refl Gw.trans (by kernel_rfl) (by kernel_rfl) (by kernel_rfl) (Below.refl _ W7).drew ?_
    refine .inl ⟨.bool true, fun v W hW _ => step_run rfl _ W (exec_move (.tmp 11) (.inl rfl) rfl) rfl (Gw.refl _), ?_⟩
    simp only [Act.put, List.setIfInBounds_toArray, List.set_cons_zero, List.set_cons_succ]
    refine .inl ⟨.bool true, fun v W hW _ => step_run rfl _ W (exec_move (.tmp 59) (.inl rfl) rfl) rfl (Gw.refl _), ?_⟩
    simp only [Act.put, List.setIfInBounds_toArray, List.set_cons_zero, List.set_cons_succ]
    refine .inl ⟨.agg (blmC a).toArray, fun v W hW _ => step_run rfl _ W (exec_load 24 (.tmp 4) rfl (w.heap.size) (0) rfl (blmC a) _ ((HG.out W hW).ha.rng) Try.underlying24 rfl (info_blmC (HG.out W hW).ha.ok)) rfl (Gw.refl _), ?_⟩
    simp only [Act.put, List.setIfInBounds_toArray, List.set_cons_zero, List.set_cons_succ]
    refine .inl ⟨.agg (idC x).toArray, fun v W hW _ => step_run rfl _ W (exec_load 26 (.tmp 7) rfl (w.heap.size + 1 + 1 + 1) (0) rfl (idC x) _ ((HG.out W hW).hi) Try.underlying26 rfl (info_id8 hx8)) rfl (Gw.refl _), ?_⟩
    simp only [Act.put, List.setIfInBounds_toArray, List.set_cons_zero, List.set_cons_succ]
    refine .inl ⟨.agg (blmC aid).toArray, fun v W hW _ => step_call rfl 7 #[.agg (blmC a).toArray, .agg (idC x).toArray] (by go_simp) ((hadd W).mono fun e w' h => ⟨_, h.1, rfl, h.2⟩), ?_⟩
    simp only [Act.put, List.setIfInBounds_toArray, List.set_cons_zero, List.set_cons_succ]
    refine .inl ⟨.agg (blmC a).toArray, fun v W hW _ => step_run rfl _ W (exec_load 24 (.tmp 4) rfl (w.heap.size) (0) rfl (blmC a) _ ((HG.out W hW).ha.rng) Try.underlying24 rfl (info_blmC (HG.out W hW).ha.ok)) rfl (Gw.refl _), ?_⟩
    simp only [Act.put, List.setIfInBounds_toArray, List.set_cons_zero, List.set_cons_succ]
    refine .inl ⟨.agg (blmC al).toArray, fun v W hW _ => step_run rfl _ W (exec_load 24 (.tmp 10) rfl (g10) (0) rfl (blmC al) _ ((HG.out W hW).hal.rng) Try.underlying24 rfl (info_blmC (HG.out W hW).hal.ok)) rfl (Gw.refl _), ?_⟩
    simp only [Act.put, List.setIfInBounds_toArray, List.set_cons_zero, List.set_cons_succ]
    refine .inr ⟨fun u W => Rx 16 blmC W u ([a, al]), rx_mono, fun v W hW _ => step_run rfl _ _ (exec_blms 42 2 _ rfl ([a, al]) rfl rfl rfl (oks2 oa oal) (by simp) (by simp)) (rx_new W _ (oks2 oa oal) (by simp)) ((Below.refl _ W).alloc (Nat.le_refl _) _), ?_⟩
    simp only [Act.put, List.setIfInBounds_toArray, List.set_cons_zero, List.set_cons_succ]
    refine .inl ⟨.agg (blmC aid).toArray, fun v W hW hd => ?_, ?_⟩
    · have h7 : Rx 16 blmC W (v 7) ([a, al]) := hd 7 (by kernel_rfl)
      clear hd
      exact step_call rfl 8 #[v 7] (by go_simp) ((join_any (v 7) ([a, al]) W h7 (oks2 oa oal)).mono fun e w' h => ⟨_, h.1, by rw [j7], h.2⟩)
    simp only [Act.put, List.setIfInBounds_toArray, List.set_cons_zero, List.set_cons_succ]
    refine .inl ⟨.bool true, fun v W hW _ => step_run rfl _ W (by have he := eaid W; go_simp) rfl (Gw.refl _), ?_⟩
    simp only [Act.put, List.setIfInBounds_toArray, List.set_cons_zero, List.set_cons_succ]
    refine .inl ⟨.bool true, fun v W hW _ => step_run rfl _ W (exec_pick (.tmp 60) (.tmp 68) (.const (.bool false)) rfl rfl rfl) rfl (Gw.refl _), ?_⟩
    simp only [Act.put, List.setIfInBounds_toArray, List.set_cons_zero, List.set_cons_succ]
    refine .inl ⟨.bool true, fun v W hW _ => step_run rfl _ W (exec_move (.tmp 69) (.inl rfl) rfl) rfl (Gw.refl _), ?_⟩
    simp only [Act.put, List.setIfInBounds_toArray, List.set_cons_zero, List.set_cons_succ]
    refine .inl ⟨.agg (blmC a).toArray, fun v W hW _ => step_run rfl _ W (exec_load 24 (.tmp 4) rfl (w.heap.size) (0) rfl (blmC a) _ ((HG.out W hW).ha.rng) Try.underlying24 rfl (info_blmC (HG.out W hW).ha.ok)) rfl (Gw.refl _), ?_⟩
    simp only [Act.put, List.setIfInBounds_toArray, List.set_cons_zero, List.set_cons_succ]
    refine .inl ⟨.agg (idC x).toArray, fun v W hW _ => step_run rfl _ W (exec_load 26 (.tmp 7) rfl (w.heap.size + 1 + 1 + 1) (0) rfl (idC x) _ ((HG.out W hW).hi) Try.underlying26 rfl (info_id8 hx8)) rfl (Gw.refl _), ?_⟩
    simp only [Act.put, List.setIfInBounds_toArray, List.set_cons_zero, List.set_cons_succ]
    refine .inl ⟨.bool false, fun v W hW _ => step_call rfl 11 #[.agg (blmC a).toArray, .agg (idC x).toArray] (by go_simp) ((ha W).mono fun e w' h => ⟨_, h.1, rfl, h.2⟩), ?_⟩
    simp only [Act.put, List.setIfInBounds_toArray, List.set_cons_zero, List.set_cons_succ]
    refine .inl ⟨.bool true, fun v W hW _ => step_run rfl _ W (by go_simp) rfl (Gw.refl _), ?_⟩
    simp only [Act.put, List.setIfInBounds_toArray, List.set_cons_zero, List.set_cons_succ]
    refine .inl ⟨.bool true, fun v W hW _ => step_run rfl _ W (exec_move (.tmp 74) (.inl rfl) rfl) rfl (Gw.refl _), ?_⟩
    simp only [Act.put, List.setIfInBounds_toArray, List.set_cons_zero, List.set_cons_succ]
    refine .inl ⟨undef, fun v W hW _ => step_skip rfl rfl, ?_⟩
    simp only [Act.put, List.setIfInBounds_toArray, List.set_cons_zero, List.set_cons_succ]
    refine .inl ⟨undef, fun v W hW _ => step_skip rfl rfl, ?_⟩
    simp only [Act.put, List.setIfInBounds_toArray, List.set_cons_zero, List.set_cons_succ]
    refine .inl ⟨undef, fun v W hW _ => step_skip rfl rfl, ?_⟩
    simp only [Act.put, List.setIfInBounds_toArray, List.set_cons_zero, List.set_cons_succ]
    refine .inl ⟨.bool true, fun v W hW _ => step_run rfl _ W (exec_pick (.tmp 75) (.const (.bool true)) (.tmp 78) rfl rfl rfl) rfl (Gw.refl _), ?_⟩
    simp only [Act.put, List.setIfInBounds_toArray, List.set_cons_zero, List.set_cons_succ]
    refine .inl ⟨.bool true, fun v W hW _ => step_run rfl _ W (exec_pick (.tmp 70) (.tmp 79) (.const (.bool false)) rfl rfl rfl) rfl (Gw.refl _), ?_⟩
    simp only [Act.put, List.setIfInBounds_toArray, List.set_cons_zero, List.set_cons_succ]
    refine .inl ⟨.bool true, fun v W hW _ => step_run rfl _ W (exec_move (.tmp 80) (.inl rfl) rfl) rfl (Gw.refl _), ?_⟩
    simp only [Act.put, List.setIfInBounds_toArray, List.set_cons_zero, List.set_cons_succ]
    refine .inl ⟨.agg (blmC al).toArray, fun v W hW _ => step_run rfl _ W (exec_load 24 (.tmp 10) rfl (g10) (0) rfl (blmC al) _ ((HG.out W hW).hal.rng) Try.underlying24 rfl (info_blmC (HG.out W hW).hal.ok)) rfl (Gw.refl _), ?_⟩
    simp only [Act.put, List.setIfInBounds_toArray, List.set_cons_zero, List.set_cons_succ]
    refine .inl ⟨.agg (idC x).toArray, fun v W hW _ => step_run rfl _ W (exec_load 26 (.tmp 7) rfl (w.heap.size + 1 + 1 + 1) (0) rfl (idC x) _ ((HG.out W hW).hi) Try.underlying26 rfl (info_id8 hx8)) rfl (Gw.refl _), ?_⟩
    simp only [Act.put, List.setIfInBounds_toArray, List.set_cons_zero, List.set_cons_succ]
    refine .inl ⟨.bool true, fun v W hW _ => step_call rfl 11 #[.agg (blmC al).toArray, .agg (idC x).toArray] (by go_simp) ((hal W).mono fun e w' h => ⟨_, h.1, rfl, h.2⟩), ?_⟩
    simp only [Act.put, List.setIfInBounds_toArray, List.set_cons_zero, List.set_cons_succ]
    refine .inl ⟨.bool true, fun v W hW _ => step_run rfl _ W (exec_pick (.tmp 81) (.tmp 84) (.const (.bool false)) rfl rfl rfl) rfl (Gw.refl _), ?_⟩
    simp only [Act.put, List.setIfInBounds_toArray, List.set_cons_zero, List.set_cons_succ]
    refine .inl ⟨.bool true, fun v W hW _ => step_run rfl _ W (exec_move (.tmp 85) (.inr rfl) rfl) rfl (Gw.refl _), ?_⟩
    simp only [Act.put, List.setIfInBounds_toArray, List.set_cons_zero, List.set_cons_succ]
    intro v W hW _
    have HZ : Hid (Below w.heap.size w W) := HB.out.trans (Below.mono hW HB.out.size)
    clear hadd ha hab hal eaid HG HB
    go_wp2_with fail
    go_ret
    exact ⟨rfl, HZ.out⟩
theorem joins2 {a b : List Nat} (ha : Bm.Ok a) : Bm.joins [a, b] = Bm.join a b := by
  show Bm.join (Bm.join Bm.none_ a) b = _
  rw [Bm.join_none ha]
theorem bloomJoins_walk (x0 : List Nat) (x1 : List Nat) (x2 : List Nat) (x3 : List UInt8) (wx0 : Bm.Ok x0) (wx1 : Bm.Ok x1) (wx2 : Bm.Ok x2) (wx3 : x3.length = 8) (w : World) :
    Calls Try.prog 5 #[.agg (blmC x0).toArray, .agg (blmC x1).toArray, .agg (blmC x2).toArray, idV x3] w fun e w' => e = .returned (.bool true) ∧ Below w.heap.size w w' := by
  have o01 := Bm.join_ok wx0 wx1
  have o12 := Bm.join_ok wx1 wx2
  have op := Bm.puts_ok (ms := Bm.marks x3) Bm.none_ok
  have hm := Bm.marks_lt x3
  refine bloomJoins_of x0 x1 x2 (Bm.join x0 x1) (Bm.join x1 x2) (Bm.join (Bm.join x0 x1) x2) (Bm.puts Bm.none_ (Bm.marks x3)) (Bm.puts x0 (Bm.marks x3)) x3 w wx0 wx1 wx2 o01 o12 (Bm.join_ok o01 wx2) op (Bm.puts_ok wx0) wx3
    (joins2 wx0) ?_ (joins2 o01) (joins2 wx1) ?_ ?_ ?_ ?_ rfl rfl ?_ (Bm.puts_has Bm.none_ok hm)
  · rw [joins2 wx1]; exact Bm.join_comm wx1 wx0
  · rw [joins2 wx0]; exact (Bm.join_assoc wx0 wx1 wx2).symm
  · rw [joins2 wx0]; exact Bm.join_self wx0
  · show Bm.join (Bm.join (Bm.join Bm.none_ x0) x1) x2 = _
    rw [Bm.join_none wx0]
  · rw [joins2 wx0]; exact (Bm.puts_join wx0 hm).symm
  · exact Bm.has_more fun k hk => by rw [Bm.join_bit wx0 wx1, hk, Bool.true_or]
end Go.Proofs.Ytpagbihebahnnaa
