/-
  What put of package huff does.
-/
import Derived.Test.YtoohekdaihhflaaHpTake
import Derived.Deep.AppendLies
import Derived.Deep.MidRow
import Derived.Deep.RegionLaw
import Derived.BigQuiet
import Derived.Deep.Cut
namespace Go.Proofs.Ytoohekdaihhflaa
open Go.RowKit

theorem info_group : (Try.prog.info? 54).map (fun i => (i.zero, i.size, i.bytes)) = some (some (.agg #[.int .i64 0, .int .i64 0, .slice none 0 0]), 3, 40) := by kernel_rfl

theorem three_at {W : World} {B : Nat} {x : Hf.G} (h0 : W.cell? ⟨B, 0, none⟩ = some (.int .i64 x.wt)) (h1 : W.cell? ⟨B, 1, none⟩ = some (.int .i64 x.low)) (h2 : W.cell? ⟨B, 2, none⟩ = some x.sv) : ∀ j u, (gC x)[j]? = some u → W.cell? ((⟨B, 0, none⟩ : Addr).add j) = some u := by
  intro j u hj
  rw [Addr.add_mid, Nat.zero_add]
  match j, hj with
  | 0, hj => rw [h0]; exact hj
  | 1, hj => rw [h1]; exact hj
  | 2, hj => rw [h2]; exact hj
theorem Stays.step {Hb : Nat} {v v1 : Value} {A B C : World} (h : Stays Hb v A B) (k : Stays Hb v1 B C) (hv : ∀ k, k < A.heap.size → v.ownBlock ≠ some k → v1.ownBlock ≠ some k) : Stays Hb v A C :=
  ⟨k.os.trans h.os, k.tape.trans h.tape, k.output.trans h.output, Nat.le_trans h.size k.size, fun i hi hp => (k.block i (Nat.lt_of_lt_of_le hi h.size) ⟨hp.1, hv i hi hp.2⟩).trans (h.block i hi hp)⟩
/-- one more behind a heap's items -/
theorem Heap.pushed {w w1 : World} {base Hb g cap : Nat} {v : Value} {l : List Hf.G} {x : Hf.G} {o1 o2 : Obj} (h : Heap w base Hb v l) (hx : w.ownsRow base 3 1 x.sv x.sg.length ((Hf.up x.sg).map Iv))
    (hown : w1.ownsRow base 54 3 (.slice (some ⟨g, 0, none⟩) (l.length + 1) cap) (l.length + 1) (rowG l ++ gC x)) (hg : (((w.alloc o1).alloc o2).drew).grownBy w1 v.ownBlock) (hat : v.ownBlock = some g ∨ g = w.heap.size + 2) :
    Heap (w1.setCell ⟨Hb, 1, none⟩ (.slice (some ⟨g, 0, none⟩) (l.length + 1) cap)) base Hb (.slice (some ⟨g, 0, none⟩) (l.length + 1) cap) (l ++ [x]) ∧ Stays Hb v w (w1.setCell ⟨Hb, 1, none⟩ (.slice (some ⟨g, 0, none⟩) (l.length + 1) cap)) := by
  have hlt := h.lt
  have hk : Stays Hb v w w1 := (((Kept.refl _ w).alloc o1).alloc o2).drew.grown hg fun k hk hp => hp.2 hk
  have hbox : w1.heap[Hb]? = some (.cells #[fnV, v] 76 (0, 0)) := by
    rw [hg.block Hb (by simp; omega) (fun e => h.apart e.symm)]
    exact (((Below.refl w.heap.size w).alloc (Nat.le_refl _) o1).alloc (by simp) o2).block Hb hlt |>.trans h.box
  have hk2 : Kept (fun k => k ≠ Hb) w1 (w1.setCell ⟨Hb, 1, none⟩ (.slice (some ⟨g, 0, none⟩) (l.length + 1) cap)) := (Kept.refl _ _).setCell (by simp) _
  have hgH : g ≠ Hb := by
    rcases hat with e | e
    · intro e'
      rw [e'] at e
      exact h.apart e
    · omega
  refine ⟨⟨?_, h.old, ?_, fun y hy => ?_⟩, hk.trans (hk2.mono fun k hk => hk.1)⟩
  · rw [heap_setCell_same _ _ _ _ _ _ hbox]
    rfl
  · rw [rowG_more, List.length_append, List.length_singleton]
    exact own_kept hown hk2 fun b hb => by simp [Value.ownBlock] at hb; omega
  · have hs : w.ownsRow base 3 1 y.sv y.sg.length ((Hf.up y.sg).map Iv) := by
      rcases List.mem_append.1 hy with hy | hy
      · exact h.signs y hy
      · rw [List.mem_singleton.1 hy]; exact hx
    exact own_kept (own_kept hs hk (h.sign_apart hs)) hk2 fun b hb => (h.sign_apart hs b hb).1

set_option maxHeartbeats 4000000 in
theorem put_any (base Hb : Nat) (v : Value) (l : List Hf.G) (x : Hf.G) (w : World) (h : Heap w base Hb v l) (hx : w.ownsRow base 3 1 x.sv x.sg.length ((Hf.up x.sg).map Iv)) (hl : l.length < 256) (ho : Hf.Ord l) :
    Calls Try.prog 35 #[.pointer (some ⟨Hb, 0, none⟩), gV x] w fun e w' => e = .returned (.tuple #[]) ∧ ∃ v' l', l'.Perm (x :: l) ∧ Hf.Ord l' ∧ Heap w' base Hb v' l' ∧ Stays Hb v w w' := by
  obtain ⟨i0, hi, hz0, hz1, hz2⟩ := info_parts info_group
  obtain ⟨a, c, rfl⟩ := h.slice
  obtain ⟨c0, c1, f1⟩ := h.cells
  have hw := h.lt
  have hxs := own_slice hx
  have hob : base ≤ w.heap.size := by have := h.old; omega
  have ex : ∃ xw xl xs xa xm xc, x = (⟨xw, xl, xs, .slice xa xm xc⟩ : Hf.G) := by
    obtain ⟨xa, xm, xc, e⟩ := hxs
    exact ⟨x.wt, x.low, x.sg, xa, xm, xc, by rw [← e]⟩
  obtain ⟨xw, xl, xs, xa, xm, xc, rfl⟩ := ex
  clear hxs
  unfold gV
  have hrow : ∀ o1 o2, (((w.alloc o1).alloc o2).drew).ownsRow base 54 3 (.slice a l.length c) l.length (rowG l) := fun o1 o2 => ((h.row.alloc o1).alloc o2).drew
  have HQ : Hid (∀ o2 w1, (((w.alloc (.cells #[.int .i64 xw, .int .i64 xl, .slice xa xm xc] 54)).alloc o2).drew).grownBy w1 (Value.slice a l.length c).ownBlock →
      w1.cell? ⟨Hb, 1, none⟩ = some (.slice a l.length c) ∧ w1.frozen? ⟨Hb, 1, none⟩ = false ∧ w1.cell? ⟨w.heap.size, 0, none⟩ = some (.int .i64 (xw : Int)) ∧ w1.cell? ⟨w.heap.size, 1, none⟩ = some (.int .i64 (xl : Int)) ∧ w1.cell? ⟨w.heap.size, 2, none⟩ = some (.slice xa xm xc)) := by
    intro o2 w1 hg
    have hn1 : some Hb ≠ (Value.slice a l.length c).ownBlock := fun e => h.apart e.symm
    have hn2 : some w.heap.size ≠ (Value.slice a l.length c).ownBlock := fun e => by
      obtain ⟨cur, hc, _⟩ := own_block h.row e.symm
      have := (Array.getElem?_eq_some_iff.1 hc).1
      omega
    have hB : Below w.heap.size w (((w.alloc (.cells #[.int .i64 xw, .int .i64 xl, .slice xa xm xc] 54)).alloc o2).drew) := (((Below.refl w.heap.size w).alloc (Nat.le_refl _) _).alloc (by simp) _).drew
    have GB : GBox (((w.alloc (.cells #[.int .i64 xw, .int .i64 xl, .slice xa xm xc] 54)).alloc o2).drew) w.heap.size ⟨xw, xl, xs, .slice xa xm xc⟩ := (GBox.new w ⟨xw, xl, xs, .slice xa xm xc⟩).below ((Below.refl _ _).alloc (Nat.le_refl _) o2).drew (by simp)
    refine ⟨?_, ?_, ?_, ?_, ?_⟩
    · rw [hg.cell_far _ (by simp; omega) hn1]; exact (hB.cell (p := ⟨Hb, 1, none⟩) hw).trans c1
    · rw [hg.frozen_far _ (by simp; omega) hn1]; exact (hB.frozen (p := ⟨Hb, 1, none⟩) hw).trans f1
    · rw [hg.cell_far _ (by simp; omega) hn2]; exact GB.c0
    · rw [hg.cell_far _ (by simp; omega) hn2]; exact GB.c1
    · rw [hg.cell_far _ (by simp; omega) hn2]; exact GB.c2
  have HE : Hid (∀ o2 g cap w1, w1.ownsRow base 54 3 (.slice (some ⟨g, 0, none⟩) (l.length + 1) cap) (l.length + 1) (rowG l ++ gC ⟨xw, xl, xs, .slice xa xm xc⟩) → (((w.alloc (.cells #[.int .i64 xw, .int .i64 xl, .slice xa xm xc] 54)).alloc o2).drew).grownBy w1 (Value.slice a l.length c).ownBlock → ((Value.slice a l.length c).ownBlock = some g ∨ g = w.heap.size + 2) →
      Heap (w1.setCell ⟨Hb, 1, none⟩ (.slice (some ⟨g, 0, none⟩) (l.length + 1) cap)) base Hb (.slice (some ⟨g, 0, none⟩) (l.length + 1) cap) (l ++ [⟨xw, xl, xs, .slice xa xm xc⟩]) ∧ Stays Hb (.slice a l.length c) w (w1.setCell ⟨Hb, 1, none⟩ (.slice (some ⟨g, 0, none⟩) (l.length + 1) cap))) :=
    fun o2 g cap w1 hown hg hat => h.pushed hx hown hg hat
  have HU : Hid (Hf.Up (l ++ [⟨xw, xl, xs, .slice xa xm xc⟩]) l.length) := Hf.Up.start ho _
  clear h hx
  go_enter Try.func35, Try.ntmps35
  go_wp2_with fail
  go_cut [] from 6 (fun wx => Hid (∃ g cap, Heap wx base Hb (.slice (some ⟨g, 0, none⟩) (l.length + 1) cap) (l ++ [⟨xw, xl, xs, .slice xa xm xc⟩]) ∧ Stays Hb (.slice a l.length c) w wx ∧ ((Value.slice a l.length c).ownBlock = some g ∨ g = w.heap.size + 2)))
  case first =>
    go_region_law ((refine step_append_lies _ (by rfl) (.tmp 10) (.tmp 12) 74 (by rfl) base 54 i0 (.agg #[.int .i64 0, .int .i64 0, .slice none 0 0]) 3 40 Try.underlying74 hi hz0 hz1 hz2 rfl (by decide) (.slice a l.length c) l.length (rowG l) (by rfl) (hrow _ _) ⟨w.heap.size + 1, 0, none⟩ 1 1 (gC ⟨xw, xl, xs, .slice xa xm xc⟩) (by rfl) (by rfl) (three_at (by simp) (by simp) (by simp)) (by simp [gC, Value.oneCell']) (by decide) (by unfold maxLen; omega) (by omega) (by simp; omega) (w.heap.size + 2) (by simp) ?_; intro g cap w1 hown1 hgrow hat hlt; obtain ⟨q1, q2, q3, q4, q5⟩ := HQ.out _ _ hgrow))
    all_goals
      go_wp2_with fail
      go_meet
      have hE := HE.out _ _ _ _ hown1 hgrow hat
      exact ⟨_, _, hE.1, hE.2, hat⟩
  case rest =>
  obtain ⟨g, cap, H1, K1, hat⟩ := hcut.out
  have HG : Hid (∀ k, k < w.heap.size → (Value.slice a l.length c).ownBlock ≠ some k → (Value.slice (some ⟨g, 0, none⟩) (l.length + 1) cap).ownBlock ≠ some k) := by
    intro k hk hn e
    have e : g = k := by simpa [Value.ownBlock] using e
    subst e
    rcases hat with h | h
    · exact hn h
    · omega
  obtain ⟨L, hL⟩ : ∃ L, l ++ [(⟨xw, xl, xs, .slice xa xm xc⟩ : Hf.G)] = L := ⟨_, rfl⟩
  have HL : Hid (L.length = l.length + 1) := by show _ = _; rw [← hL, List.length_append]; rfl
  have HP : Hid (L.Perm (⟨xw, xl, xs, .slice xa xm xc⟩ :: l)) := by rw [← hL]; exact List.perm_append_comm
  rw [hL] at H1 HU
  have hcell := H1.cells
  have K1' : Hid (Stays Hb (.slice a l.length c) w wc) := K1
  have H1' : Hid (Heap wc base Hb (.slice (some ⟨g, 0, none⟩) (l.length + 1) cap) L) := H1
  clear hL hcut hat HE HQ hrow hi hz0 hz1 hz2 f1 K1 H1 c0 c1
  obtain ⟨d0, d1, _⟩ := hcell
  go_wp2_with fail
  clear d0 d1
  go_loopw [4] (fun t wr => ∃ (lr : List Hf.G) (p : Nat), t = .int .i64 p ∧ p ≤ l.length ∧ Hid (lr.Perm L) ∧ Hid (Hf.Up lr p) ∧ Hid (Heap wr base Hb (.slice (some ⟨g, 0, none⟩) (l.length + 1) cap) lr) ∧ Hid (Stays Hb (.slice a l.length c) w wr)) (fun t _ => (intOf t).toNat)
  case atStart => exact ⟨L, l.length, by go_num, by omega, List.Perm.refl _, HU, H1', K1'⟩
  case round =>
    obtain ⟨lr, p, rfl, hpn, hpm, hup, hhp, hks⟩ := hrel
    by_cases hp0 : 0 < p
    · obtain ⟨q, hq⟩ : ∃ q, q = (p - 1) / 2 := ⟨_, rfl⟩
      have hqi : ((p : Int) - 1) / 2 = (q : Int) := by omega
      have hqt : ((p : Int) - 1).tdiv 2 = (q : Int) := by rw [Int.tdiv_eq_ediv_of_nonneg (by omega)]; exact hqi
      have hqp : q < p := by omega
      have hlen : lr.length = l.length + 1 := hpm.out.length_eq.trans HL.out
      have HU1 : Hid (Hf.ltG (Hf.nth lr p) (Hf.nth lr q) = true → Hf.Up (Hf.swp lr p q) q) := fun h => by rw [hq] at h ⊢; exact hup.out.step hp0 (by omega) h
      have HU2 : Hid (Hf.ltG (Hf.nth lr p) (Hf.nth lr q) = false → Hf.Ord lr) := fun h => hup.out.done (.inr (by rw [hq] at h; exact h))
      have hsw := swap_any base Hb (.slice (some ⟨g, 0, none⟩) (l.length + 1) cap) lr
      have HPS : Hid ((Hf.swp lr p q).Perm lr) := Hf.swp_perm (by omega) (by omega)
      clear hq hup
      obtain ⟨c0, c1, _⟩ := hhp.out.cells
      have hHb := hhp.out.lt
      obtain ⟨a0, a1, a2, _, _, _, hg⟩ := hhp.out.at_ hlen.symm p (by omega)
      obtain ⟨b0, b1, b2, _, _, _, _⟩ := hhp.out.at_ hlen.symm q (by omega)
      have hf := first_any (Hf.nth lr p) (Hf.nth lr q)
      generalize Hf.nth lr p = x at *
      generalize Hf.nth lr q = y at *
      have x0 : ∀ X : Since wr.heap.size wr, X.val.cell? ⟨Hb, 0, none⟩ = some fnV := fun X => (X.property.cell (p := ⟨Hb, 0, none⟩) hHb).trans c0
      have x1 : ∀ X : Since wr.heap.size wr, X.val.cell? ⟨Hb, 1, none⟩ = some (.slice (some ⟨g, 0, none⟩) (l.length + 1) cap) := fun X => (X.property.cell (p := ⟨Hb, 1, none⟩) hHb).trans c1
      have y0 : ∀ X : Since wr.heap.size wr, X.val.cell? ⟨g, p * 3, none⟩ = some (.int .i64 x.wt) := fun X => (X.property.cell (p := ⟨g, p * 3, none⟩) hg).trans a0
      have y1 : ∀ X : Since wr.heap.size wr, X.val.cell? ⟨g, p * 3 + 1, none⟩ = some (.int .i64 x.low) := fun X => (X.property.cell (p := ⟨g, p * 3 + 1, none⟩) hg).trans a1
      have y2 : ∀ X : Since wr.heap.size wr, X.val.cell? ⟨g, p * 3 + 2, none⟩ = some x.sv := fun X => (X.property.cell (p := ⟨g, p * 3 + 2, none⟩) hg).trans a2
      have z0 : ∀ X : Since wr.heap.size wr, X.val.cell? ⟨g, q * 3, none⟩ = some (.int .i64 y.wt) := fun X => (X.property.cell (p := ⟨g, q * 3, none⟩) hg).trans b0
      have z1 : ∀ X : Since wr.heap.size wr, X.val.cell? ⟨g, q * 3 + 1, none⟩ = some (.int .i64 y.low) := fun X => (X.property.cell (p := ⟨g, q * 3 + 1, none⟩) hg).trans b1
      have z2 : ∀ X : Since wr.heap.size wr, X.val.cell? ⟨g, q * 3 + 2, none⟩ = some y.sv := fun X => (X.property.cell (p := ⟨g, q * 3 + 2, none⟩) hg).trans b2
      have hne : Nonempty (Since wr.heap.size wr) := ⟨⟨wr, Below.refl _ _⟩⟩
      have hpl : p < l.length + 1 := by omega
      have hql : q < l.length + 1 := by omega
      have HLr : Hid (lr.length = l.length + 1) := hlen
      clear a0 a1 a2 b0 b1 b2 c0 c1 hlen
      unfold fnV at x0
      unfold gV at hf
      go_wp2_with fail
      refine wp_region_since (B := wr.heap.size) (W0 := wr) (by kernel_rfl) (by kernel_rfl) (Below.refl _ _) ?_
      cases hb : Hf.ltG x y with
      | true =>
        rw [hb] at hf
        have HUp := HU1.out hb
        have HUP : Hid (Hf.Up (Hf.swp lr p q) q) := HUp
        clear hb HU1 HU2 HUp
        repeat (go_big_quiet_step (fail))
        go_big_quiet_step (exact quiet_since _ (hf _))
        repeat (go_big_quiet_step (fail))
        refine wpQuiet_nil ?_
        rintro w7 ⟨U, rfl⟩
        have H7 := hhp.out.keep U.property
        have K7 : Hid (Stays Hb (.slice a l.length c) w U.val) := hks.out.trans (Kept.of_below U.property)
        generalize U.val = w7 at *
        clear x0 x1 y0 y1 y2 z0 z1 z2 hne hf hhp hks
        have hs := hsw w7 H7 p q (by have := HLr.out; omega) (by have := HLr.out; omega) (by have := HLr.out; omega)
        clear hsw H7
        go_wp2_with fail
        refine hs.mono ?_
        rintro e w8 ⟨rfl, h8, k8⟩
        have H8 : Hid (Heap w8 base Hb (.slice (some ⟨g, 0, none⟩) (l.length + 1) cap) (Hf.swp lr p q)) := h8
        have K8 : Hid (Stays Hb (.slice a l.length c) w w8) := K7.out.step k8 HG.out
        clear hs h8 k8 K7
        go_wp2_with fail
        go_roundw
        case rel => exact ⟨Hf.swp lr p q, q, rfl, by omega, HPS.out.trans hpm.out, HUP, H8, K8⟩
        case measure => simp only [intOf]; omega
      | false =>
        rw [hb] at hf
        have HO : Hid (Hf.Ord lr) := HU2.out hb
        clear hb HU1 HU2 hsw
        repeat (go_big_quiet_step (fail))
        go_big_quiet_step (exact quiet_since _ (hf _))
        repeat (go_big_quiet_step (fail))
        refine wpQuiet_nil ?_
        rintro w7 ⟨U, rfl⟩
        have H7 : Hid (Heap U.val base Hb (.slice (some ⟨g, 0, none⟩) (l.length + 1) cap) lr) := hhp.out.keep U.property
        have K7 : Hid (Stays Hb (.slice a l.length c) w U.val) := hks.out.trans (Kept.of_below U.property)
        generalize U.val = w7 at *
        clear x0 x1 y0 y1 y2 z0 z1 z2 hne hf hhp hks
        go_wp2_with fail
        refine bodyPost_ret (v := .tuple #[]) (by simp [results, Try.results35, go_sem]) rfl ?_
        exact ⟨rfl, _, lr, hpm.out.trans HP.out, HO.out, H7.out, K7.out⟩
    · have HO : Hid (Hf.Ord lr) := hup.out.done (.inl (by omega))
      go_wp2_with fail
      go_end0
      exact ⟨rfl, _, lr, hpm.out.trans HP.out, HO.out, hhp.out, hks.out⟩
end Go.Proofs.Ytoohekdaihhflaa
