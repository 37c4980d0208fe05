/-
  What put of package huff does.
  What groupsOf of package huff answers.
  What slices.Grow (of nil) and slices.Concat answer, at numbers.
  What join of package huff answers.
  What Lengths of package huff answers.
-/
import Derived.Test.YtgdkfaphbbdnbaaGHfC
import Derived.Deep.AppendLies
import Derived.Deep.MidRow
import Derived.Deep.RegionLaw
import Derived.BigQuiet
import Derived.Deep.Cut
import Derived.Test.YtgdkfaphbbdnbaaGHfM
import Derived.Lib.AppendZerosOnto
import Derived.Deep.RegionHeld3

namespace Go.Proofs.Ytgdkfaphbbdnbaa
open Go.RowKit

theorem info_group : (Try.prog.info? 91).map (fun i => (i.zero, i.size, i.bytes)) = some (some (.agg #[.int .i64 0, .int .i64 0, .slice none 0 0]), 3, 40) := by kernel_rfl

theorem three_at {W : World} {B : Nat} {x : Hf.G} (h0 : W.cell? ⟨B, 0, none⟩ = some (.int .i64 x.wt)) (h1 : W.cell? ⟨B, 1, none⟩ = some (.int .i64 x.low)) (h2 : W.cell? ⟨B, 2, none⟩ = some x.sv) : ∀ j u, (gC x)[j]? = some u → W.cell? ((⟨B, 0, none⟩ : Addr).add j) = some u := by
  intro j u hj
  rw [Addr.add_mid, Nat.zero_add]
  match j, hj with
  | 0, hj => rw [h0]; exact hj
  | 1, hj => rw [h1]; exact hj
  | 2, hj => rw [h2]; exact hj
theorem Stays.step {Hb : Nat} {v v1 : Value} {A B C : World} (h : Stays Hb v A B) (k : Stays Hb v1 B C) (hv : ∀ k, k < A.heap.size → v.ownBlock ≠ some k → v1.ownBlock ≠ some k) : Stays Hb v A C :=
  ⟨k.os.trans h.os, k.tape.trans h.tape, k.output.trans h.output, Nat.le_trans h.size k.size, fun i hi hp => (k.block i (Nat.lt_of_lt_of_le hi h.size) ⟨hp.1, hv i hi hp.2⟩).trans (h.block i hi hp)⟩
/-- one more behind a heap's items -/
theorem Heap.pushed {w w1 : World} {base Hb g cap : Nat} {v : Value} {l : List Hf.G} {x : Hf.G} {o1 o2 : Obj} (h : Heap w base Hb v l) (hx : w.ownsRow base 3 1 x.sv x.sg.length ((Hf.up x.sg).map Iv))
    (hown : w1.ownsRow base 91 3 (.slice (some ⟨g, 0, none⟩) (l.length + 1) cap) (l.length + 1) (rowG l ++ gC x)) (hg : (((w.alloc o1).alloc o2).drew).grownBy w1 v.ownBlock) (hat : v.ownBlock = some g ∨ g = w.heap.size + 2) :
    Heap (w1.setCell ⟨Hb, 1, none⟩ (.slice (some ⟨g, 0, none⟩) (l.length + 1) cap)) base Hb (.slice (some ⟨g, 0, none⟩) (l.length + 1) cap) (l ++ [x]) ∧ Stays Hb v w (w1.setCell ⟨Hb, 1, none⟩ (.slice (some ⟨g, 0, none⟩) (l.length + 1) cap)) := by
  have hlt := h.lt
  have hk : Stays Hb v w w1 := (((Kept.refl _ w).alloc o1).alloc o2).drew.grown hg fun k hk hp => hp.2 hk
  have hbox : w1.heap[Hb]? = some (.cells #[fnV, v] 129 (0, 0)) := by
    rw [hg.block Hb (by simp; omega) (fun e => h.apart e.symm)]
    exact (((Below.refl w.heap.size w).alloc (Nat.le_refl _) o1).alloc (by simp) o2).block Hb hlt |>.trans h.box
  have hk2 : Kept (fun k => k ≠ Hb) w1 (w1.setCell ⟨Hb, 1, none⟩ (.slice (some ⟨g, 0, none⟩) (l.length + 1) cap)) := (Kept.refl _ _).setCell (by simp) _
  have hgH : g ≠ Hb := by
    rcases hat with e | e
    · intro e'
      rw [e'] at e
      exact h.apart e
    · omega
  refine ⟨⟨?_, h.old, ?_, fun y hy => ?_⟩, hk.trans (hk2.mono fun k hk => hk.1)⟩
  · rw [heap_setCell_same _ _ _ _ _ _ hbox]
    rfl
  · rw [rowG_more, List.length_append, List.length_singleton]
    exact own_kept hown hk2 fun b hb => by simp [Value.ownBlock] at hb; omega
  · have hs : w.ownsRow base 3 1 y.sv y.sg.length ((Hf.up y.sg).map Iv) := by
      rcases List.mem_append.1 hy with hy | hy
      · exact h.signs y hy
      · rw [List.mem_singleton.1 hy]; exact hx
    exact own_kept (own_kept hs hk (h.sign_apart hs)) hk2 fun b hb => (h.sign_apart hs b hb).1

set_option maxHeartbeats 4000000 in
theorem put_any (base Hb : Nat) (v : Value) (l : List Hf.G) (x : Hf.G) (w : World) (h : Heap w base Hb v l) (hx : w.ownsRow base 3 1 x.sv x.sg.length ((Hf.up x.sg).map Iv)) (hl : l.length < 256) (ho : Hf.Ord l) :
    Calls Try.prog 58 #[.pointer (some ⟨Hb, 0, none⟩), gV x] w fun e w' => e = .returned (.tuple #[]) ∧ ∃ v' l', l'.Perm (x :: l) ∧ Hf.Ord l' ∧ Heap w' base Hb v' l' ∧ Stays Hb v w w' := by
  obtain ⟨i0, hi, hz0, hz1, hz2⟩ := info_parts info_group
  obtain ⟨a, c, rfl⟩ := h.slice
  obtain ⟨c0, c1, f1⟩ := h.cells
  have hw := h.lt
  have hxs := own_slice hx
  have hob : base ≤ w.heap.size := by have := h.old; omega
  have ex : ∃ xw xl xs xa xm xc, x = (⟨xw, xl, xs, .slice xa xm xc⟩ : Hf.G) := by
    obtain ⟨xa, xm, xc, e⟩ := hxs
    exact ⟨x.wt, x.low, x.sg, xa, xm, xc, by rw [← e]⟩
  obtain ⟨xw, xl, xs, xa, xm, xc, rfl⟩ := ex
  clear hxs
  unfold gV
  have hrow : ∀ o1 o2, (((w.alloc o1).alloc o2).drew).ownsRow base 91 3 (.slice a l.length c) l.length (rowG l) := fun o1 o2 => ((h.row.alloc o1).alloc o2).drew
  have HQ : Hid (∀ o2 w1, (((w.alloc (.cells #[.int .i64 xw, .int .i64 xl, .slice xa xm xc] 91)).alloc o2).drew).grownBy w1 (Value.slice a l.length c).ownBlock →
      w1.cell? ⟨Hb, 1, none⟩ = some (.slice a l.length c) ∧ w1.frozen? ⟨Hb, 1, none⟩ = false ∧ w1.cell? ⟨w.heap.size, 0, none⟩ = some (.int .i64 (xw : Int)) ∧ w1.cell? ⟨w.heap.size, 1, none⟩ = some (.int .i64 (xl : Int)) ∧ w1.cell? ⟨w.heap.size, 2, none⟩ = some (.slice xa xm xc)) := by
    intro o2 w1 hg
    have hn1 : some Hb ≠ (Value.slice a l.length c).ownBlock := fun e => h.apart e.symm
    have hn2 : some w.heap.size ≠ (Value.slice a l.length c).ownBlock := fun e => by
      obtain ⟨cur, hc, _⟩ := own_block h.row e.symm
      have := (Array.getElem?_eq_some_iff.1 hc).1
      omega
    have hB : Below w.heap.size w (((w.alloc (.cells #[.int .i64 xw, .int .i64 xl, .slice xa xm xc] 91)).alloc o2).drew) := (((Below.refl w.heap.size w).alloc (Nat.le_refl _) _).alloc (by simp) _).drew
    have GB : GBox (((w.alloc (.cells #[.int .i64 xw, .int .i64 xl, .slice xa xm xc] 91)).alloc o2).drew) w.heap.size ⟨xw, xl, xs, .slice xa xm xc⟩ := (GBox.new w ⟨xw, xl, xs, .slice xa xm xc⟩).below ((Below.refl _ _).alloc (Nat.le_refl _) o2).drew (by simp)
    refine ⟨?_, ?_, ?_, ?_, ?_⟩
    · rw [hg.cell_far _ (by simp; omega) hn1]; exact (hB.cell (p := ⟨Hb, 1, none⟩) hw).trans c1
    · rw [hg.frozen_far _ (by simp; omega) hn1]; exact (hB.frozen (p := ⟨Hb, 1, none⟩) hw).trans f1
    · rw [hg.cell_far _ (by simp; omega) hn2]; exact GB.c0
    · rw [hg.cell_far _ (by simp; omega) hn2]; exact GB.c1
    · rw [hg.cell_far _ (by simp; omega) hn2]; exact GB.c2
  have HE : Hid (∀ o2 g cap w1, w1.ownsRow base 91 3 (.slice (some ⟨g, 0, none⟩) (l.length + 1) cap) (l.length + 1) (rowG l ++ gC ⟨xw, xl, xs, .slice xa xm xc⟩) → (((w.alloc (.cells #[.int .i64 xw, .int .i64 xl, .slice xa xm xc] 91)).alloc o2).drew).grownBy w1 (Value.slice a l.length c).ownBlock → ((Value.slice a l.length c).ownBlock = some g ∨ g = w.heap.size + 2) →
      Heap (w1.setCell ⟨Hb, 1, none⟩ (.slice (some ⟨g, 0, none⟩) (l.length + 1) cap)) base Hb (.slice (some ⟨g, 0, none⟩) (l.length + 1) cap) (l ++ [⟨xw, xl, xs, .slice xa xm xc⟩]) ∧ Stays Hb (.slice a l.length c) w (w1.setCell ⟨Hb, 1, none⟩ (.slice (some ⟨g, 0, none⟩) (l.length + 1) cap))) :=
    fun o2 g cap w1 hown hg hat => h.pushed hx hown hg hat
  have HU : Hid (Hf.Up (l ++ [⟨xw, xl, xs, .slice xa xm xc⟩]) l.length) := Hf.Up.start ho _
  clear h hx
  go_enter Try.func58, Try.ntmps58
  go_wp2_with fail
  go_cut [] from 6 (fun wx => Hid (∃ g cap, Heap wx base Hb (.slice (some ⟨g, 0, none⟩) (l.length + 1) cap) (l ++ [⟨xw, xl, xs, .slice xa xm xc⟩]) ∧ Stays Hb (.slice a l.length c) w wx ∧ ((Value.slice a l.length c).ownBlock = some g ∨ g = w.heap.size + 2)))
  case first =>
    go_region_law ((refine step_append_lies _ (by rfl) (.tmp 10) (.tmp 12) 127 (by rfl) base 91 i0 (.agg #[.int .i64 0, .int .i64 0, .slice none 0 0]) 3 40 Try.underlying127 hi hz0 hz1 hz2 rfl (by decide) (.slice a l.length c) l.length (rowG l) (by rfl) (hrow _ _) ⟨w.heap.size + 1, 0, none⟩ 1 1 (gC ⟨xw, xl, xs, .slice xa xm xc⟩) (by rfl) (by rfl) (three_at (by simp) (by simp) (by simp)) (by simp [gC, Value.oneCell']) (by decide) (by unfold maxLen; omega) (by omega) (by simp; omega) (w.heap.size + 2) (by simp) ?_; intro g cap w1 hown1 hgrow hat hlt; obtain ⟨q1, q2, q3, q4, q5⟩ := HQ.out _ _ hgrow))
    all_goals
      go_wp2_with fail
      go_meet
      have hE := HE.out _ _ _ _ hown1 hgrow hat
      exact ⟨_, _, hE.1, hE.2, hat⟩
  case rest =>
  obtain ⟨g, cap, H1, K1, hat⟩ := hcut.out
  have HG : Hid (∀ k, k < w.heap.size → (Value.slice a l.length c).ownBlock ≠ some k → (Value.slice (some ⟨g, 0, none⟩) (l.length + 1) cap).ownBlock ≠ some k) := by
    intro k hk hn e
    have e : g = k := by simpa [Value.ownBlock] using e
    subst e
    rcases hat with h | h
    · exact hn h
    · omega
  obtain ⟨L, hL⟩ : ∃ L, l ++ [(⟨xw, xl, xs, .slice xa xm xc⟩ : Hf.G)] = L := ⟨_, rfl⟩
  have HL : Hid (L.length = l.length + 1) := by show _ = _; rw [← hL, List.length_append]; rfl
  have HP : Hid (L.Perm (⟨xw, xl, xs, .slice xa xm xc⟩ :: l)) := by rw [← hL]; exact List.perm_append_comm
  rw [hL] at H1 HU
  have hcell := H1.cells
  have K1' : Hid (Stays Hb (.slice a l.length c) w wc) := K1
  have H1' : Hid (Heap wc base Hb (.slice (some ⟨g, 0, none⟩) (l.length + 1) cap) L) := H1
  clear hL hcut hat HE HQ hrow hi hz0 hz1 hz2 f1 K1 H1 c0 c1
  obtain ⟨d0, d1, _⟩ := hcell
  go_wp2_with fail
  clear d0 d1
  go_loopw [4] (fun t wr => ∃ (lr : List Hf.G) (p : Nat), t = .int .i64 p ∧ p ≤ l.length ∧ Hid (lr.Perm L) ∧ Hid (Hf.Up lr p) ∧ Hid (Heap wr base Hb (.slice (some ⟨g, 0, none⟩) (l.length + 1) cap) lr) ∧ Hid (Stays Hb (.slice a l.length c) w wr)) (fun t _ => (intOf t).toNat)
  case atStart => exact ⟨L, l.length, by go_num, by omega, List.Perm.refl _, HU, H1', K1'⟩
  case round =>
    obtain ⟨lr, p, rfl, hpn, hpm, hup, hhp, hks⟩ := hrel
    by_cases hp0 : 0 < p
    · obtain ⟨q, hq⟩ : ∃ q, q = (p - 1) / 2 := ⟨_, rfl⟩
      have hqi : ((p : Int) - 1) / 2 = (q : Int) := by omega
      have hqt : ((p : Int) - 1).tdiv 2 = (q : Int) := by rw [Int.tdiv_eq_ediv_of_nonneg (by omega)]; exact hqi
      have hqp : q < p := by omega
      have hlen : lr.length = l.length + 1 := hpm.out.length_eq.trans HL.out
      have HU1 : Hid (Hf.ltG (Hf.nth lr p) (Hf.nth lr q) = true → Hf.Up (Hf.swp lr p q) q) := fun h => by rw [hq] at h ⊢; exact hup.out.step hp0 (by omega) h
      have HU2 : Hid (Hf.ltG (Hf.nth lr p) (Hf.nth lr q) = false → Hf.Ord lr) := fun h => hup.out.done (.inr (by rw [hq] at h; exact h))
      have hsw := swap_any base Hb (.slice (some ⟨g, 0, none⟩) (l.length + 1) cap) lr
      have HPS : Hid ((Hf.swp lr p q).Perm lr) := Hf.swp_perm (by omega) (by omega)
      clear hq hup
      obtain ⟨c0, c1, _⟩ := hhp.out.cells
      have hHb := hhp.out.lt
      obtain ⟨a0, a1, a2, _, _, _, hg⟩ := hhp.out.at_ hlen.symm p (by omega)
      obtain ⟨b0, b1, b2, _, _, _, _⟩ := hhp.out.at_ hlen.symm q (by omega)
      have hf := first_any (Hf.nth lr p) (Hf.nth lr q)
      generalize Hf.nth lr p = x at *
      generalize Hf.nth lr q = y at *
      have x0 : ∀ X : Since wr.heap.size wr, X.val.cell? ⟨Hb, 0, none⟩ = some fnV := fun X => (X.property.cell (p := ⟨Hb, 0, none⟩) hHb).trans c0
      have x1 : ∀ X : Since wr.heap.size wr, X.val.cell? ⟨Hb, 1, none⟩ = some (.slice (some ⟨g, 0, none⟩) (l.length + 1) cap) := fun X => (X.property.cell (p := ⟨Hb, 1, none⟩) hHb).trans c1
      have y0 : ∀ X : Since wr.heap.size wr, X.val.cell? ⟨g, p * 3, none⟩ = some (.int .i64 x.wt) := fun X => (X.property.cell (p := ⟨g, p * 3, none⟩) hg).trans a0
      have y1 : ∀ X : Since wr.heap.size wr, X.val.cell? ⟨g, p * 3 + 1, none⟩ = some (.int .i64 x.low) := fun X => (X.property.cell (p := ⟨g, p * 3 + 1, none⟩) hg).trans a1
      have y2 : ∀ X : Since wr.heap.size wr, X.val.cell? ⟨g, p * 3 + 2, none⟩ = some x.sv := fun X => (X.property.cell (p := ⟨g, p * 3 + 2, none⟩) hg).trans a2
      have z0 : ∀ X : Since wr.heap.size wr, X.val.cell? ⟨g, q * 3, none⟩ = some (.int .i64 y.wt) := fun X => (X.property.cell (p := ⟨g, q * 3, none⟩) hg).trans b0
      have z1 : ∀ X : Since wr.heap.size wr, X.val.cell? ⟨g, q * 3 + 1, none⟩ = some (.int .i64 y.low) := fun X => (X.property.cell (p := ⟨g, q * 3 + 1, none⟩) hg).trans b1
      have z2 : ∀ X : Since wr.heap.size wr, X.val.cell? ⟨g, q * 3 + 2, none⟩ = some y.sv := fun X => (X.property.cell (p := ⟨g, q * 3 + 2, none⟩) hg).trans b2
      have hne : Nonempty (Since wr.heap.size wr) := ⟨⟨wr, Below.refl _ _⟩⟩
      have hpl : p < l.length + 1 := by omega
      have hql : q < l.length + 1 := by omega
      have HLr : Hid (lr.length = l.length + 1) := hlen
      clear a0 a1 a2 b0 b1 b2 c0 c1 hlen
      unfold fnV at x0
      unfold gV at hf
      go_wp2_with fail
      refine wp_region_since (B := wr.heap.size) (W0 := wr) (by kernel_rfl) (by kernel_rfl) (Below.refl _ _) ?_
      cases hb : Hf.ltG x y with
      | true =>
        rw [hb] at hf
        have HUp := HU1.out hb
        have HUP : Hid (Hf.Up (Hf.swp lr p q) q) := HUp
        clear hb HU1 HU2 HUp
        repeat (go_big_quiet_step (fail))
        go_big_quiet_step (exact quiet_since _ (hf _))
        repeat (go_big_quiet_step (fail))
        refine wpQuiet_nil ?_
        rintro w7 ⟨U, rfl⟩
        have H7 := hhp.out.keep U.property
        have K7 : Hid (Stays Hb (.slice a l.length c) w U.val) := hks.out.trans (Kept.of_below U.property)
        generalize U.val = w7 at *
        clear x0 x1 y0 y1 y2 z0 z1 z2 hne hf hhp hks
        have hs := hsw w7 H7 p q (by have := HLr.out; omega) (by have := HLr.out; omega) (by have := HLr.out; omega)
        clear hsw H7
        go_wp2_with fail
        refine hs.mono ?_
        rintro e w8 ⟨rfl, h8, k8⟩
        have H8 : Hid (Heap w8 base Hb (.slice (some ⟨g, 0, none⟩) (l.length + 1) cap) (Hf.swp lr p q)) := h8
        have K8 : Hid (Stays Hb (.slice a l.length c) w w8) := K7.out.step k8 HG.out
        clear hs h8 k8 K7
        go_wp2_with fail
        go_roundw
        case rel => exact ⟨Hf.swp lr p q, q, rfl, by omega, HPS.out.trans hpm.out, HUP, H8, K8⟩
        case measure => simp only [intOf]; omega
      | false =>
        rw [hb] at hf
        have HO : Hid (Hf.Ord lr) := HU2.out hb
        clear hb HU1 HU2 hsw
        repeat (go_big_quiet_step (fail))
        go_big_quiet_step (exact quiet_since _ (hf _))
        repeat (go_big_quiet_step (fail))
        refine wpQuiet_nil ?_
        rintro w7 ⟨U, rfl⟩
        have H7 : Hid (Heap U.val base Hb (.slice (some ⟨g, 0, none⟩) (l.length + 1) cap) lr) := hhp.out.keep U.property
        have K7 : Hid (Stays Hb (.slice a l.length c) w U.val) := hks.out.trans (Kept.of_below U.property)
        generalize U.val = w7 at *
        clear x0 x1 y0 y1 y2 z0 z1 z2 hne hf hhp hks
        go_wp2_with fail
        refine bodyPost_ret (v := .tuple #[]) (by simp [results, Try.results58, go_sem]) rfl ?_
        exact ⟨rfl, _, lr, hpm.out.trans HP.out, HO.out, H7.out, K7.out⟩
    · have HO : Hid (Hf.Ord lr) := hup.out.done (.inl (by omega))
      go_wp2_with fail
      go_end0
      exact ⟨rfl, _, lr, hpm.out.trans HP.out, HO.out, hhp.out, hks.out⟩
end Go.Proofs.Ytgdkfaphbbdnbaa

namespace Go.Proofs.Ytgdkfaphbbdnbaa
open Go.RowKit

theorem Heap.below {W W' : World} {base Hb : Nat} {v : Value} {l : List Hf.G} (h : Heap W base Hb v l) (hk : Stays Hb v W W') : Below base W W' := by
  have hlt := h.lt
  have hold := h.old
  refine ⟨hk.os, hk.tape, hk.output, hk.size, fun k hk' => hk.block k (by omega) ⟨by omega, fun e => ?_⟩⟩
  obtain ⟨_, _, hb⟩ := own_block h.row e
  omega
set_option maxHeartbeats 2000000 in
theorem groups_any (v : Value) (F : List Nat) (w : World) (h : Ints w v (Hf.up F)) (h2 : F.length ≤ 256) (h3 : ∀ n ∈ F, n ≤ 1048576) :
    Calls Try.prog 54 #[v] w fun e w' => e = .returned (.pointer (some ⟨w.heap.size, 0, none⟩)) ∧ ∃ u l, Heap w' w.heap.size w.heap.size u l ∧ Hf.Ord l ∧ (l.map Hf.ab).Perm (Hf.init F F.length) ∧ Below w.heap.size w w' := by
  obtain ⟨a, c, rfl⟩ := h.slice
  rw [Hf.up_length] at h ⊢
  have H3 : Hid (∀ n ∈ F, n ≤ 1048576) := h3
  clear h3
  obtain ⟨W1, hW1⟩ : ∃ W1, W1 = w.alloc (.cells #[fnV, .slice none 0 0] 129) := ⟨_, rfl⟩
  have hH1 : Hid (Heap W1 w.heap.size w.heap.size (.slice none 0 0) []) := by
    rw [hW1]
    exact ⟨heap_alloc_new w _, Nat.le_refl _, World.ownsRow_nil _ _ _ _, fun g hg => by simp at hg⟩
  have hB1 : Hid (Below w.heap.size w W1) := by rw [hW1]; exact (Below.refl _ w).alloc (Nat.le_refl _) _
  unfold fnV at hW1
  go_enter Try.func54, Try.ntmps54
  go_wp2_with fail
  rw [← hW1]
  clear hW1
  go_loopw [10] (fun x wr => ∃ k : Nat, k ≤ F.length ∧ x = .int .i64 k ∧ Hid (∃ u l, Heap wr w.heap.size w.heap.size u l ∧ Hf.Ord l ∧ (l.map Hf.ab).Perm (Hf.init F k) ∧ Below w.heap.size w wr)) (fun x _ => F.length - (intOf x).toNat)
  case atStart => exact ⟨0, by omega, rfl, _, _, hH1.out, Hf.Ord.nil, List.Perm.refl _, hB1.out⟩
  case round =>
    obtain ⟨k, hk, rfl, hI⟩ := hrel
    by_cases hlt : k < F.length
    · obtain ⟨u, l, hH, hO, hP, hbel⟩ := hI.out
      obtain ⟨bk, o, rfl, hbk, c0⟩ := (h.below (Nat.le_refl _) hbel).getN k hlt
      have hn := Hf.getD_le H3.out k
      have HN : Hid (_) := Hf.init_succ F k
      have hll : l.length < 256 := by
        have e1 := hP.length_eq
        rw [List.length_map] at e1
        have := Hf.init_length F k
        omega
      generalize F.getD k 0 = n at *
      by_cases hn0 : 0 < n
      · have hsz := hbel.size
        have hH' := hH.keep ((Below.refl _ _).alloc (Nat.le_refl _) (.cells #[.int .i64 (k : Int)] 3))
        have hput := put_any w.heap.size w.heap.size u l ⟨n, k, [k], .slice (some ⟨wr.heap.size, 0, none⟩) 1 1⟩ (wr.alloc (.cells #[.int .i64 (k : Int)] 3)) hH' (World.ownsRow_lit wr #[.int .i64 (k : Int)] 1 hsz (by unfold maxLen; omega) rfl) hll hO
        unfold gV at hput
        dsimp only at hput
        have HBA : Hid (Below w.heap.size w (wr.alloc (.cells #[.int .i64 (k : Int)] 3))) := hbel.alloc hsz _
        have HP : Hid ((l.map Hf.ab).Perm (Hf.init F k)) := hP
        have HH : Hid (Heap (wr.alloc (.cells #[.int .i64 (k : Int)] 3)) w.heap.size w.heap.size u l) := hH'
        clear hH hO hP hbel hH' hI
        go_wp2_with fail
        refine hput.mono ?_
        rintro e w2 ⟨rfl, u2, l2, p2, o2, h2', k2⟩
        have HB2 : Hid (Below w.heap.size w w2) := HBA.out.trans (HH.out.below k2)
        have HI2 : Hid (∃ u l, Heap w2 w.heap.size w.heap.size u l ∧ Hf.Ord l ∧ (l.map Hf.ab).Perm (Hf.init F (k + 1)) ∧ Below w.heap.size w w2) := by
          refine ⟨u2, l2, h2', o2, ?_, HB2.out⟩
          rw [HN.out, if_pos hn0]
          refine (p2.map Hf.ab).trans ?_
          exact (HP.out.cons _).trans (List.perm_append_comm (l₁ := [(n, k, [k])]))
        clear hput p2 o2 h2' k2 HB2 HBA HH HP HN
        go_wp2_with fail
        go_roundw
        case rel => exact ⟨k + 1, by omega, by go_num, HI2⟩
        case measure => simp only [intOf]; omega
      · have HI2 : Hid (∃ u l, Heap wr w.heap.size w.heap.size u l ∧ Hf.Ord l ∧ (l.map Hf.ab).Perm (Hf.init F (k + 1)) ∧ Below w.heap.size w wr) := by
          refine ⟨u, l, hH, hO, ?_, hbel⟩
          rw [HN.out, if_neg hn0, List.append_nil]
          exact hP
        clear hH hO hP hbel hI HN
        go_wp2_with fail
        go_roundw
        case rel => exact ⟨k + 1, by omega, by go_num, HI2⟩
        case measure => simp only [intOf]; omega
    · obtain rfl : k = F.length := by omega
      go_wp2_with fail
      go_ret
      exact ⟨rfl, hI.out⟩
end Go.Proofs.Ytgdkfaphbbdnbaa

namespace Go.Proofs.Ytgdkfaphbbdnbaa
open Go.RowKit
set_option maxRecDepth 4000

set_option maxHeartbeats 2000000 in
theorem grow_nil (n : Nat) (w : World) (h1 : 1 ≤ n) (h2 : n ≤ 1000) :
    Calls Try.prog 99 #[.slice none 0 0, .int .i64 n] w fun e w' => ∃ v, e = .returned v ∧ w'.ownsRow w.heap.size 3 1 v 0 [] ∧ Below w.heap.size w w' := by
  obtain ⟨i0, hi, hz0, hz1, hz2⟩ := info_parts info_int
  have hge := grownCap_ge w n 0 3
  have hle := grownCap_le_maxLen w n 0 3 (by unfold maxLen; omega)
  have hr : ∀ ty, (Builtin.append_ #[31, 3] ty #[.slice none 0 0, .int .i64 n]).run Try.prog w = .ok (.slice (some ⟨w.heap.size, 0, none⟩) n (grownCap w n 0 3))
      (w.drew.alloc (.cells (([] : List Value).toArray ++ Builtin.zeroCells (Value.int .i64 0).cells n ++ Builtin.zeroCells (Value.int .i64 0).cells (grownCap w n 0 3 - n)) 3)) := fun ty => by
    have := Lib.run_append_grow_zeros w 31 3 ty 3 i0 (.int .i64 0) .i64 .i64 Try.underlying31 Try.underlying3 hi hz0 none 0 0 [] (run_firstCells_none w.drew i0.size 0 0 0) n (by omega) (by omega) (by omega) (by omega) (by rw [hz2]; omega) (growslice_fits (by omega) (by rw [hz2]; omega))
    rw [Nat.zero_add] at this
    exact this
  have HO : Hid (∀ W, W = w.drew.alloc (.cells (([] : List Value).toArray ++ Builtin.zeroCells (Value.int .i64 0).cells n ++ Builtin.zeroCells (Value.int .i64 0).cells (grownCap w n 0 3 - n)) 3) →
      W.ownsRow w.heap.size 3 1 (.slice (some ⟨w.heap.size, 0, none⟩) 0 (grownCap w n 0 3)) 0 [] ∧ Below w.heap.size w W) := by
    rintro W rfl
    refine ⟨?_, (Below.refl _ w).drew.alloc (Nat.le_refl _) _⟩
    refine World.ownsRow_made w.drew _ _ (Nat.le_refl _) hle ?_
    simp only [Array.size_append, List.size_toArray, size_zeroCells, List.length_nil]
    show 0 + n * 1 + (grownCap w n 0 3 - n) * 1 = grownCap w n 0 3 * 1
    omega
  generalize w.drew.alloc (.cells (([] : List Value).toArray ++ Builtin.zeroCells (Value.int .i64 0).cells n ++ Builtin.zeroCells (Value.int .i64 0).cells (grownCap w n 0 3 - n)) 3) = W at *
  generalize grownCap w n 0 3 = G at *
  unfold maxLen at hle
  go_enter Try.func99, Try.ntmps99
  go_wp2_with (at_builtin; refine Lib.wpList_append_run _ rfl _ _ _ _ rfl _ _ rfl rfl _ _ (hr _) ?_)
  all_goals go_ret
  all_goals exact ⟨_, rfl, HO.out _ rfl⟩

/-- the numbers of the first k parts -/
def catTo (ps : List (Value × List Int)) (k : Nat) : List Int := ((ps.take k).map (·.2)).flatten
theorem catTo_next (ps : List (Value × List Int)) (k : Nat) (hk : k < ps.length) : catTo ps (k + 1) = catTo ps k ++ ps[k].2 := by
  unfold catTo
  rw [List.take_succ_eq_append_getElem hk, List.map_append, List.flatten_append]
  simp
theorem catTo_le (ps : List (Value × List Int)) (k : Nat) (hk : k ≤ ps.length) : (catTo ps k).length ≤ (catTo ps ps.length).length := by
  obtain ⟨d, hd⟩ : ∃ d, ps.length = k + d := ⟨ps.length - k, by omega⟩
  rw [hd]
  clear hd hk
  induction d with
  | zero => exact Nat.le_refl _
  | succ d ih =>
    refine Nat.le_trans ih ?_
    by_cases h : k + d < ps.length
    · rw [← Nat.add_assoc, catTo_next _ _ h, List.length_append]
      omega
    · unfold catTo
      rw [List.take_of_length_le (by omega), List.take_of_length_le (by omega)]
      exact Nat.le_refl _

set_option maxHeartbeats 4000000 in
theorem concat_any (Bk b c : Nat) (ps : List (Value × List Int)) (w : World) (hB : Bk < w.heap.size) (hp : ps.length ≤ 4) (hc : ∀ j (hj : j < ps.length), w.cell? ⟨Bk, j, none⟩ = some ps[j].1)
    (hs : ∀ j (hj : j < ps.length), w.ownsRow b 3 1 ps[j].1 ps[j].2.length (ps[j].2.map Iv) ∧ 1 ≤ ps[j].2.length) (ht : (catTo ps ps.length).length ≤ 1000) (h1 : 1 ≤ (catTo ps ps.length).length) :
    Calls Try.prog 85 #[.slice (some ⟨Bk, 0, none⟩) ps.length c] w fun e w' => ∃ v, e = .returned v ∧ w'.ownsRow w.heap.size 3 1 v (catTo ps ps.length).length ((catTo ps ps.length).map Iv) ∧ Below w.heap.size w w' := by
  obtain ⟨i0, hi, hz0, hz1, hz2⟩ := info_parts info_int
  have HL : Hid (∀ k, k ≤ ps.length → (catTo ps k).length ≤ 1000) := fun k hk => Nat.le_trans (catTo_le ps k hk) ht
  have HC : Hid (∀ j (hj : j < ps.length), w.cell? ⟨Bk, j, none⟩ = some ps[j].1) := hc
  have HS : Hid (∀ j (hj : j < ps.length), w.ownsRow b 3 1 ps[j].1 ps[j].2.length (ps[j].2.map Iv) ∧ 1 ≤ ps[j].2.length) := hs
  have hg := fun W => grow_nil (catTo ps ps.length).length W h1 ht
  clear hc hs
  go_enter Try.func85, Try.ntmps85
  go_wp2_with fail
  go_loop [3, 11] (fun s i => ∃ k : Nat, k ≤ ps.length ∧ i = .int .i64 k ∧ s = .int .i64 (catTo ps k).length) (fun _ i => ps.length - (intOf i).toNat)
  case atStart => exact ⟨0, by omega, rfl, rfl⟩
  case round =>
    obtain ⟨k, hk, rfl, rfl⟩ := hrel
    by_cases hlt : k < ps.length
    · have hx := HC.out k hlt
      obtain ⟨ho, h1'⟩ := HS.out k hlt
      obtain ⟨g, cap, hv⟩ : ∃ g cap, ps[k].1 = .slice (some ⟨g, 0, none⟩) ps[k].2.length cap := by
        rcases ho.2 with ⟨_, h0⟩ | ⟨g, cap, _, hv, _⟩
        · omega
        · exact ⟨g, cap, hv⟩
      rw [hv] at hx
      have hl0 := HL.out k hk
      have hl1 := HL.out (k + 1) hlt
      have HN : Hid ((catTo ps (k + 1)).length = (catTo ps k).length + ps[k].2.length) := by show _ = _; rw [catTo_next ps k hlt, List.length_append]
      have hsum : (catTo ps k).length + ps[k].2.length ≤ 1000 := by rw [← HN.out]; exact hl1
      clear ho hv hl1
      generalize ps[k].2.length = m at *
      generalize (catTo ps k).length = S at *
      go_wp2_with fail
      go_round
      case rel => exact ⟨k + 1, by omega, by go_num, by rw [HN.out]; go_num⟩
      case measure => simp only [intOf]; omega
    · obtain rfl : k = ps.length := by omega
      go_wp2_with fail
      refine (hg _).mono ?_
      rintro e w1 ⟨v1, rfl, o1, hb1⟩
      clear hg
      have HB1 : Hid (Below w.heap.size w w1) := hb1
      have HO1 : Hid (w1.ownsRow w.heap.size 3 1 v1 0 []) := o1
      clear o1 hb1
      go_wp2_with fail
      go_loopw [6, 27] (fun v i wr => ∃ k : Nat, k ≤ ps.length ∧ i = .int .i64 k ∧ wr.ownsRow w.heap.size 3 1 v (catTo ps k).length ((catTo ps k).map Iv) ∧ Hid (Below w.heap.size w wr)) (fun _ i _ => ps.length - (intOf i).toNat)
      case atStart => exact ⟨0, by omega, rfl, HO1.out, HB1⟩
      case round =>
        obtain ⟨k, hk, rfl, hown, hbel⟩ := hrel
        by_cases hlt : k < ps.length
        · have hx := (hbel.out.cell (p := ⟨Bk, k, none⟩) hB).trans (HC.out k hlt)
          obtain ⟨ho, h1'⟩ := HS.out k hlt
          have ho' := row_below ho hbel.out
          obtain ⟨g, cap, hv⟩ : ∃ g cap, ps[k].1 = .slice (some ⟨g, 0, none⟩) ps[k].2.length cap := by
            rcases ho.2 with ⟨_, h0⟩ | ⟨g, cap, _, hv, _⟩
            · omega
            · exact ⟨g, cap, hv⟩
          rw [hv] at hx ho'
          have hl0 := HL.out k hk
          have hl1 := HL.out (k + 1) hlt
          have HT : Hid (catTo ps (k + 1) = catTo ps k ++ ps[k].2) := catTo_next ps k hlt
          have hsum : (catTo ps k).length + ps[k].2.length ≤ 1000 := by rw [← List.length_append, ← HT.out]; exact hl1
          have hcell : ∀ j u, (ps[k].2.map Iv)[j]? = some u → wr.cell? ((⟨g, 0, none⟩ : Addr).add j) = some u := fun j u hu => by
            have hj : j < ps[k].2.length := by
              have := (List.getElem?_eq_some_iff.1 hu).1
              simpa using this
            rw [show ((⟨g, 0, none⟩ : Addr).add j) = ⟨g, j, none⟩ from by unfold Addr.add; split <;> simp_all, ho'.cellAt j (by omega)]
            exact hu
          have hsz := hbel.out.size
          clear ho ho' hv hl1
          generalize ps[k].2 = m at *
          generalize catTo ps k = S at *
          go_wp2_with (at_builtin; refine wpList_append_own _ rfl (.tmp 31) (.tmp 32) 31 rfl w.heap.size 3 i0 (.int .i64 0) 1 8 Try.underlying31 hi hz0 hz1 hz2 rfl (by decide) _ _ _ rfl hown ⟨g, 0, none⟩ m.length _ (m.map Iv) rfl (by simp) hcell ?c2 ?c3 ?c4 ?c5 ?_)
          case c2 => intro u hu; obtain ⟨x, _, rfl⟩ := List.mem_map.1 hu; rfl
          case c3 => unfold maxLen; omega
          case c4 => omega
          case c5 => omega
          intro v1 w3 hown3 hgrow _
          have HO : Hid (w3.ownsRow w.heap.size 3 1 v1 (catTo ps (k + 1)).length ((catTo ps (k + 1)).map Iv)) := by rw [HT.out, List.length_append, List.map_append]; exact hown3
          have HB3 : Hid (Below w.heap.size w w3) := hbel.out.grown hgrow (by omega) fun j hj => (hown.lt j hj).1
          clear hown3 hgrow hown hbel hx hcell
          go_wp2_with fail
          go_roundw
          case rel => exact ⟨k + 1, by omega, by go_num, HO.out, HB3⟩
          case measure => simp only [intOf]; omega
        · obtain rfl : k = ps.length := by omega
          go_wp2_with fail
          go_ret
          exact ⟨_, rfl, hown, hbel.out⟩
end Go.Proofs.Ytgdkfaphbbdnbaa

namespace Go.Proofs.Ytgdkfaphbbdnbaa
open Go.RowKit
set_option maxRecDepth 4000

def Hf.gjoin (a b : Hf.G) (v : Value) : Hf.G := ⟨a.wt + b.wt, min a.low b.low, a.sg ++ b.sg, v⟩
theorem GBox.other3 {W : World} {G G' : Nat} {x : Hf.G} (h : GBox W G x) (hne : G ≠ G') (u0 u1 u2 : Value) : GBox (((W.setCell ⟨G', 0, none⟩ u0).setCell ⟨G', 1, none⟩ u1).setCell ⟨G', 2, none⟩ u2) G x :=
  h.kept (p := fun k => k ≠ G') ((((Kept.refl _ W).setCell (by simp) _).setCell (by simp) _).setCell (by simp) _) hne
set_option maxHeartbeats 4000000 in
theorem join_any (base : Nat) (a b : Hf.G) (w : World) (ha : w.ownsRow base 3 1 a.sv a.sg.length ((Hf.up a.sg).map Iv)) (hb : w.ownsRow base 3 1 b.sv b.sg.length ((Hf.up b.sg).map Iv))
    (ha1 : 1 ≤ a.sg.length) (hb1 : 1 ≤ b.sg.length) (hab : a.sg.length + b.sg.length ≤ 256) (hw : a.wt + b.wt ≤ 1000000000) :
    Calls Try.prog 57 #[gV a, gV b] w fun e w' => ∃ v, e = .returned (gV (Hf.gjoin a b v)) ∧ w'.ownsRow w.heap.size 3 1 v (a.sg ++ b.sg).length ((Hf.up (a.sg ++ b.sg)).map Iv) ∧ Below w.heap.size w w' := by
  obtain ⟨W4, hW4⟩ : ∃ W4, W4 = (((w.alloc (.cells #[.int .i64 a.wt, .int .i64 a.low, a.sv] 91)).alloc (.cells #[.int .i64 b.wt, .int .i64 b.low, b.sv] 91)).alloc (.cells #[.int .i64 0, .int .i64 0, .slice none 0 0] 91)) := ⟨_, rfl⟩
  have hB4 : Below w.heap.size w W4 := by rw [hW4]; exact (((Below.refl _ w).alloc (Nat.le_refl _) _).alloc (by simp) _).alloc (by simp; omega) _
  have hs4 : W4.heap.size = w.heap.size + 3 := by rw [hW4]; simp
  have X1 : GBox W4 w.heap.size a := by
    rw [hW4]; exact (GBox.new w a).below (((Below.refl _ _).alloc (Nat.le_refl _) _).alloc (by simp) _) (by simp)
  have X2 : GBox W4 (w.heap.size + 1) b := by
    rw [hW4]
    have := (GBox.new (w.alloc (.cells #[.int .i64 a.wt, .int .i64 a.low, a.sv] 91)) b).below ((Below.refl _ _).alloc (Nat.le_refl _) (.cells #[.int .i64 0, .int .i64 0, .slice none 0 0] 91)) (by simp)
    rw [World.size_alloc] at this
    exact this
  have X3 : GBox W4 (w.heap.size + 1 + 1) Hf.G.z := by
    rw [hW4]
    have := GBox.new ((w.alloc (.cells #[.int .i64 a.wt, .int .i64 a.low, a.sv] 91)).alloc (.cells #[.int .i64 b.wt, .int .i64 b.low, b.sv] 91)) Hf.G.z
    rw [World.size_alloc, World.size_alloc] at this
    exact this
  have hcat : Calls Try.prog 85 #[.slice (some ⟨W4.heap.size, 0, none⟩) 2 2] (W4.alloc (.cells #[a.sv, b.sv] 31)).drew fun e w' => ∃ va vm vc, e = .returned (.slice va vm vc) ∧ w'.ownsRow W4.heap.size 3 1 (.slice va vm vc) (a.sg ++ b.sg).length ((Hf.up (a.sg ++ b.sg)).map Iv) ∧ Below W4.heap.size W4 w' := by
    have hB5 : Below W4.heap.size W4 (W4.alloc (.cells #[a.sv, b.sv] 31)).drew := ((Below.refl _ _).alloc (Nat.le_refl _) _).drew
    have e2 : catTo [(a.sv, Hf.up a.sg), (b.sv, Hf.up b.sg)] 2 = Hf.up (a.sg ++ b.sg) := by simp [catTo, Hf.up]
    have := concat_any W4.heap.size base 2 [(a.sv, Hf.up a.sg), (b.sv, Hf.up b.sg)] (W4.alloc (.cells #[a.sv, b.sv] 31)).drew (by simp) (by show 2 ≤ 4; omega) (fun j hj => by
        have hj : j < 2 := hj
        match j, hj with
        | 0, _ => simp
        | 1, _ => simp) (fun j hj => by
        have hj : j < 2 := hj
        match j, hj with
        | 0, _ => exact ⟨(show (W4.alloc (.cells #[a.sv, b.sv] 31)).drew.ownsRow base 3 1 a.sv (Hf.up a.sg).length ((Hf.up a.sg).map Iv) from by rw [Hf.up_length]; exact row_below (row_below ha hB4) hB5), (show 1 ≤ (Hf.up a.sg).length from by rw [Hf.up_length]; exact ha1)⟩
        | 1, _ => exact ⟨(show (W4.alloc (.cells #[a.sv, b.sv] 31)).drew.ownsRow base 3 1 b.sv (Hf.up b.sg).length ((Hf.up b.sg).map Iv) from by rw [Hf.up_length]; exact row_below (row_below hb hB4) hB5), (show 1 ≤ (Hf.up b.sg).length from by rw [Hf.up_length]; exact hb1)⟩) (by
        show (catTo [(a.sv, Hf.up a.sg), (b.sv, Hf.up b.sg)] 2).length ≤ _
        rw [e2, Hf.up_length, List.length_append]; omega) (by
        show 1 ≤ (catTo [(a.sv, Hf.up a.sg), (b.sv, Hf.up b.sg)] 2).length
        rw [e2, Hf.up_length, List.length_append]; omega)
    refine this.mono ?_
    rintro e w' ⟨v, rfl, ho, hbl⟩
    have ho : w'.ownsRow (W4.alloc (.cells #[a.sv, b.sv] 31)).drew.heap.size 3 1 v (catTo [(a.sv, Hf.up a.sg), (b.sv, Hf.up b.sg)] 2).length ((catTo [(a.sv, Hf.up a.sg), (b.sv, Hf.up b.sg)] 2).map Iv) := ho
    rw [e2, Hf.up_length] at ho
    obtain ⟨x, y, z, rfl⟩ := own_slice ho
    exact ⟨x, y, z, rfl, row_lower ho (by simp), hB5.trans (hbl.mono (by simp))⟩
  have HX1 : Hid (GBox W4 w.heap.size a) := X1
  have HX2 : Hid (GBox W4 (w.heap.size + 1) b) := X2
  have HX3 : Hid (GBox W4 (w.heap.size + 1 + 1) Hf.G.z) := X3
  have HB4 : Hid (Below w.heap.size w W4) := hB4
  obtain ⟨a0, a1, a2, _, _, _, _⟩ := X1
  obtain ⟨b0, b1, b2, _, _, _, _⟩ := X2
  have HQ : Hid (∀ w', Below W4.heap.size W4 w' → GBox w' w.heap.size a ∧ GBox w' (w.heap.size + 1) b ∧ GBox w' (w.heap.size + 1 + 1) Hf.G.z) := fun w' h => ⟨HX1.out.below h HX1.out.lt, HX2.out.below h HX2.out.lt, HX3.out.below h HX3.out.lt⟩
  have HS4 : Hid (W4.heap.size = w.heap.size + 3) := hs4
  clear hB4 X3 hs4
  have ea := own_slice ha
  have eb := own_slice hb
  clear ha hb
  obtain ⟨aw, al, asg, av⟩ := a
  obtain ⟨bw, bl, bsg, bv⟩ := b
  dsimp only at *
  obtain ⟨aa, am, ac, rfl⟩ := ea
  obtain ⟨ba, bm, bc, rfl⟩ := eb
  unfold gV
  go_enter Try.func57, Try.ntmps57
  go_wp2_with fail
  rw [← hW4]
  clear hW4
  by_cases hle : al ≤ bl
  all_goals
    go_region_held3 (fun w' => w'.cell? ⟨w.heap.size, 0, none⟩ = some (.int .i64 (aw : Int)) ∧ w'.cell? ⟨w.heap.size, 1, none⟩ = some (.int .i64 (al : Int)) ∧ w'.cell? ⟨w.heap.size, 2, none⟩ = some (.slice aa am ac) ∧ w'.cell? ⟨w.heap.size + 1, 0, none⟩ = some (.int .i64 (bw : Int)) ∧ w'.cell? ⟨w.heap.size + 1, 1, none⟩ = some (.int .i64 (bl : Int)) ∧ w'.cell? ⟨w.heap.size + 1, 2, none⟩ = some (.slice ba bm bc))
      (first | exact ⟨q1.c0, q1.c1, q1.c2, q2.c0, q2.c1, q2.c2⟩ | exact ⟨(q1.other3 (by omega) _ _ _).c0, (q1.other3 (by omega) _ _ _).c1, (q1.other3 (by omega) _ _ _).c2, (q2.other3 (by omega) _ _ _).c0, (q2.other3 (by omega) _ _ _).c1, (q2.other3 (by omega) _ _ _).c2⟩ | go_keep) ((go_at_call 85; refine hcat.mono ?_; rintro e w' ⟨va, vm, vc, rfl, ho, hbl⟩; obtain ⟨q1, q2, q3⟩ := HQ.out _ hbl; obtain ⟨r0, r1, r2, r3, r4, r5, _⟩ := q3))
  all_goals
    go_wp2_with fail
    have e1 : IntKind.i64.wrap ((aw : Int) + (bw : Int)) = ((aw + bw : Nat) : Int) := by rw [IntKind.wrap_i64]; omega
    have e2 : (if bl < al then (bl : Int) else (al : Int)) = ((min al bl : Nat) : Int) := by
      by_cases h : bl < al
      · rw [if_pos h]; omega
      · rw [if_neg h]; omega
    have HNB : ∀ g, (Value.slice va vm vc).ownBlock = some g → g ≠ w.heap.size + 1 + 1 := fun g hg => by
      obtain ⟨cur, hc, hb⟩ := own_block ho hg
      have := HS4.out
      omega
    have HK : Hid (Below W4.heap.size W4 w') := hbl
    refine bodyPost_ret (v := gV (Hf.gjoin ⟨aw, al, asg, .slice aa am ac⟩ ⟨bw, bl, bsg, .slice ba bm bc⟩ (.slice va vm vc))) ?_ rfl ⟨.slice va vm vc, rfl, ?_, ?_⟩
    · try rw [e2]
      rw [e1]
      simp [results, asAddr, go_sem, r0, r1, r2, gV, Hf.gjoin]
      try omega
    · have hlow : w.heap.size ≤ W4.heap.size := by have := HS4.out; omega
      have ho2 := ho
      rw [List.length_append] at ho2
      first
        | exact row_lower (own_kept ho ((((Kept.refl (fun k => k ≠ w.heap.size + 1 + 1) w').setCell (by simp) _).setCell (by simp) _).setCell (by simp) _) HNB) hlow
        | exact row_lower (own_kept ho2 ((((Kept.refl (fun k => k ≠ w.heap.size + 1 + 1) w').setCell (by simp) _).setCell (by simp) _).setCell (by simp) _) HNB) hlow
    · exact (((HB4.out.trans (HK.out.mono HB4.out.size)).setCell (by simp; omega) _).setCell (by simp; omega) _).setCell (by simp; omega) _
end Go.Proofs.Ytgdkfaphbbdnbaa

namespace Go.Proofs.Ytgdkfaphbbdnbaa
open Go.RowKit
set_option maxRecDepth 4000

theorem take_form (base Hb : Nat) (v : Value) (l : List Hf.G) (w : World) (h : Heap w base Hb v l) (h0 : 0 < l.length) (hl : l.length ≤ 256) (ho : Hf.Ord l) :
    ∃ xw xl xs xa xm xc, Hf.nth l 0 = ⟨xw, xl, xs, .slice xa xm xc⟩ ∧
    Calls Try.prog 56 #[.pointer (some ⟨Hb, 0, none⟩)] w fun e w' => e = .returned (.agg #[.int .i64 (xw : Nat), .int .i64 (xl : Nat), .slice xa xm xc]) ∧ ∃ v' l', l.Perm (⟨xw, xl, xs, .slice xa xm xc⟩ :: l') ∧ Hf.Ord l' ∧ v'.ownBlock = v.ownBlock ∧ Heap w' base Hb v' l' ∧ Stays Hb v w w' := by
  obtain ⟨xa, xm, xc, e⟩ := own_slice (h.signs _ (Hf.nth_mem h0))
  have ex : Hf.nth l 0 = (⟨(Hf.nth l 0).wt, (Hf.nth l 0).low, (Hf.nth l 0).sg, .slice xa xm xc⟩ : Hf.G) := by rw [← e]
  refine ⟨_, _, _, xa, xm, xc, ex, ?_⟩
  have := take_any base Hb v l w h h0 hl ho
  rw [ex] at this
  exact this
/-- how many items a heap has -/
def itemsLen (W : World) (B : Nat) : Nat :=
  match W.cell? ⟨B, 1, none⟩ with
  | some (.slice _ n _) => n
  | _ => 0
theorem Heap.len {W : World} {base Hb : Nat} {v : Value} {l : List Hf.G} (h : Heap W base Hb v l) : itemsLen W Hb = l.length := by
  obtain ⟨a, c, rfl⟩ := h.slice
  unfold itemsLen
  rw [h.cells.2.1]
namespace Hf
theorem nlt_of {c a : G} (h : ltG c a = false) : nlt (ab c) (ab a) := by
  rw [ltG_not] at h
  unfold nlt ab
  dsimp only
  omega
theorem up_set (l : List Nat) (i x : Nat) : up (l.set i x) = (up l).set i (x : Int) := by
  unfold up
  rw [List.map_set]
theorem up_zero (n : Nat) : up (List.replicate n 0) = List.replicate n 0 := by simp [up]
theorem bump_few {out s : List Nat} {k : Nat} (hn : s.Nodup) (hs : ∀ i ∈ s, i < out.length) (h : ∀ i, out.getD i 0 ≤ 256) (i : Nat) : (bump out (s.take k)).getD i 0 ≤ 257 := by
  rw [bump_get (hn.sublist (List.take_sublist _ _)) (fun j hj => hs j (List.mem_of_mem_take hj))]
  have := h i
  split <;> omega
theorem bump_next {out s : List Nat} {k : Nat} (hk : k < s.length) : bump out (s.take (k + 1)) = (bump out (s.take k)).set (s.getD k 0) ((bump out (s.take k)).getD (s.getD k 0) 0 + 1) := by
  rw [List.take_succ_eq_append_getElem hk, bump_more]
  rw [List.getD_eq_getElem?_getD (l := s), List.getElem?_eq_getElem hk]
  rfl
end Hf
/-- a heap, the numbers that it has made so far, and the row that they lie in -/
structure Lst (F : List Nat) (w wr : World) (Lb B : Nat) (l : List Hf.G) (u : Value) (out : List Nat) : Prop where
  heap : Heap wr B B u l
  ord : Hf.Ord l
  inv : Hf.Inv F (l.map Hf.ab) out
  row : wr.ownsRow w.heap.size 3 1 (.slice (some ⟨Lb, 0, none⟩) F.length F.length) F.length ((Hf.up out).map Iv)
  bel : Below w.heap.size w wr

set_option maxHeartbeats 1000000 in
theorem lengths_bad (v : Value) (l : List Int) (w : World) (h : Ints w v l) (hl : l.length ≤ 140737488351232) (hb : Hf.sgn 1048576 l = false) :
    Calls Try.prog 26 #[v] w fun e w' => e = .returned (.tuple #[.slice none 0 0, .int .i64 1]) ∧ w' = w := by
  have hs := signs_any v l 1048576 w h hl
  rw [hb] at hs
  clear hb
  go_enter Try.func26, Try.ntmps26
  go_wp2_with fail
  refine hs.mono ?_
  rintro e w' ⟨rfl, rfl⟩
  go_wp2_with fail
  go_ret2
  exact ⟨rfl, rfl⟩

set_option maxHeartbeats 8000000 in
theorem lengths_any (v : Value) (F : List Nat) (w : World) (h : Ints w v (Hf.up F)) (h1 : 1 ≤ F.length) (h2 : F.length ≤ 256) (h3 : ∀ n ∈ F, n ≤ 1048576) :
    Calls Try.prog 26 #[v] w fun e w' => ∃ v' out, e = .returned (.tuple #[v', .int .i64 0]) ∧ Hf.HL F out ∧ w'.ownsRow w.heap.size 3 1 v' F.length ((Hf.up out).map Iv) ∧ Below w.heap.size w w' := by
  have hs := signs_any v (Hf.up F) 1048576 w h (by rw [Hf.up_length]; omega)
  rw [show Hf.sgn 1048576 (Hf.up F) = true from Hf.sgn_all (by rw [Hf.up_length]; exact h1) (by rw [Hf.up_length]; exact h2) fun j hj => by
    rw [Hf.up_get]; have := Hf.getD_le h3 j; omega] at hs
  obtain ⟨i0, hi, hz0, hz1, hz2⟩ := info_parts info_int
  obtain ⟨a, c, rfl⟩ := h.slice
  rw [Hf.up_length] at h hs ⊢
  have HST : Hid (Hf.Inv F (Hf.init F F.length) (List.replicate F.length 0)) := Hf.Inv.start h2 h3
  have hgr := fun W (hW : Below w.heap.size w W) => groups_any (.slice a F.length c) F W (h.below (Nat.le_refl _) hW) h2 h3
  have H3 : Hid (∀ n ∈ F, n ≤ 1048576) := h3
  clear h3
  go_enter Try.func26, Try.ntmps26
  go_wp2_with fail
  refine hs.mono ?_
  rintro e w' ⟨rfl, rfl⟩
  clear hs
  go_wp2_with (at_make; refine wpList_make_full _ rfl (.tmp 15) (.tmp 15) 31 rfl w'.heap.size 3 i0 (.int .i64 0) 1 Try.underlying31 hi hz0 hz1 .i64 .i64 _ _ F.length rfl rfl rfl rfl (by rw [hz2]; omega) (by unfold maxLen; omega) (Nat.le_refl _) ?_; intro w1 hown hgrow)
  have hown1 := made_zeros hown
  rw [← Hf.up_zero] at hown1
  have hB1 : Below w'.heap.size w' w1 := (Below.refl _ _).grown hgrow (Nat.le_refl _) (fun k hk => by cases hk)
  have hLb : w'.heap.size < w1.heap.size := by obtain ⟨cur, hc, _⟩ := own_block hown1 rfl; exact (Array.getElem?_eq_some_iff.1 hc).1
  have hg := hgr w1 hB1
  clear hown hgrow hgr
  go_wp2_with fail
  refine hg.mono ?_
  rintro e w2 ⟨rfl, u, l, hH, hO, hP, hB2⟩
  clear hg
  have HS : Hid (Lst F w' w2 w'.heap.size w1.heap.size l u (List.replicate F.length 0)) :=
    ⟨hH, hO, HST.out.perm hP.symm, row_below hown1 hB2, hB1.trans (hB2.mono (by omega))⟩
  have HPL : Hid ((l.map Hf.ab).Perm (Hf.init F F.length)) := hP
  have hsz := size_any _ _ _ _ _ hH
  have hll : l.length ≤ 256 := by have := HS.out.inv.few 0; rw [List.length_map] at this; omega
  clear hH hO hP hB2 hown1 hB1
  go_wp2_with fail
  refine hsz.mono ?_
  rintro e w3 ⟨rfl, rfl⟩
  clear hsz
  by_cases hone : l.length = 1
  · obtain ⟨xw, xl, xs, xa, xm, xc, hx, htk⟩ := take_form _ _ _ _ _ HS.out.heap (by omega) (by omega) HS.out.ord
    have heq : ((l.length : Int) == 1) = true := by simp; omega
    have hxl : xl < F.length := by
      have h0 : Hf.ab (Hf.nth l 0) ∈ l.map Hf.ab := List.mem_map_of_mem (Hf.nth_mem (by omega))
      rw [hx] at h0
      exact HS.out.inv.st.lt _ h0 _ (HS.out.inv.st.low _ h0)
    have HHL : Hid (Hf.HL F ((List.replicate F.length 0).set xl 1)) := by
      have hl1 : l = [Hf.nth l 0] := by
        obtain ⟨y, rfl⟩ := List.length_eq_one_iff.1 hone
        rfl
      have hp := HPL.out
      rw [hl1, hx] at hp
      have hp : Hf.init F F.length = [(xw, xl, xs)] := List.perm_singleton.1 hp.symm
      refine ⟨by simp, fun e => by rw [hp] at e; simp at e, fun x e => ?_, fun e => by rw [hp] at e; simp at e⟩
      rw [hp] at e
      have : x = (xw, xl, xs) := by simpa using e.symm
      rw [this]
    have hrow := HS.out.row
    have HRB : Hid (∀ W, Stays w1.heap.size u w3 W → W.ownsRow w'.heap.size 3 1 (.slice (some ⟨w'.heap.size, 0, none⟩) F.length F.length) F.length ((Hf.up (List.replicate F.length 0)).map Iv) ∧ Below w'.heap.size w' W) := fun W hW => by
      have hb := HS.out.heap.below hW
      refine ⟨own_kept hrow hW fun g hg => ?_, HS.out.bel.trans (hb.mono (by omega))⟩
      exact HS.out.heap.sign_apart hrow g hg
    clear hrow HS HST HPL hx
    go_wp2_with fail
    refine htk.mono ?_
    rintro e w4 ⟨rfl, u4, l4, _, _, _, _, k4⟩
    obtain ⟨r4, b4⟩ := HRB.out w4 k4
    have x1 := own_at r4 xl (by rw [Hf.up_length, List.length_replicate]; exact hxl)
    have x2 := r4.frozenAt xl
    have HO : Hid ((w4.setCell ⟨w'.heap.size, xl, none⟩ (.int .i64 1)).ownsRow w'.heap.size 3 1 (.slice (some ⟨w'.heap.size, 0, none⟩) F.length F.length) F.length ((Hf.up ((List.replicate F.length 0).set xl 1)).map Iv)) := by
      rw [Hf.up_set]; exact own_store r4 xl 1
    have HB : Hid (Below w'.heap.size w' (w4.setCell ⟨w'.heap.size, xl, none⟩ (.int .i64 1))) := b4.setCell (Nat.le_refl _) _
    generalize (Hf.up (List.replicate F.length 0))[xl]'(by rw [Hf.up_length, List.length_replicate]; exact hxl) = x at *
    have hfd : ∀ W : World, (Instr.field 91 (.agg #[.int .i64 (xw : Int), .int .i64 (xl : Int), .slice xa xm xc]) 1).run Try.prog W = .ok (.int .i64 (xl : Int)) W := fun _ => by kernel_rfl
    clear r4 b4 k4 htk HRB
    go_wp2_with fail
    go_ret2
    exact ⟨_, _, rfl, HHL.out, HO.out, HB.out⟩
  · obtain ⟨N0, hN0⟩ : ∃ N0, N0 = (Hf.init F F.length).length := ⟨_, rfl⟩
    have hlN : l.length = N0 := by rw [hN0, ← HPL.out.length_eq, List.length_map]
    have HN0 : Hid (N0 = (Hf.init F F.length).length) := hN0
    have HN1 : Hid (N0 ≠ 1) := by rw [← hlN]; exact hone
    have HST2 : Hid (∃ u l out, Lst F w' w3 w'.heap.size w1.heap.size l u out ∧ (N0 = 0 → out = List.replicate F.length 0 ∧ l.length = 0) ∧ (N0 ≠ 0 → 1 ≤ l.length)) := ⟨u, l, _, HS.out, fun e => ⟨rfl, by omega⟩, fun h => by omega⟩
    have hne : ((N0 : Int) == 1) = false := by simp; omega
    clear hN0
    go_wp2_with fail
    clear hlN HS HPL hll hone hne HST
    go_loopw [] (fun wr => Hid (∃ u l out, Lst F w' wr w'.heap.size w1.heap.size l u out ∧ (N0 = 0 → out = List.replicate F.length 0 ∧ l.length = 0) ∧ (N0 ≠ 0 → 1 ≤ l.length))) (fun wr => itemsLen wr w1.heap.size)
    case atStart => exact HST2
    case round =>
      obtain ⟨u, l, out, hS, hz, hnz⟩ := hrel.out
      have hll : l.length ≤ 256 := by have := hS.inv.few 0; rw [List.length_map] at this; omega
      have HLN : Hid (itemsLen wr w1.heap.size = l.length) := hS.heap.len
      have hsz := size_any _ _ _ _ _ hS.heap
      have HS : Hid (Lst F w' wr w'.heap.size w1.heap.size l u out) := hS
      have HZ : Hid (N0 = 0 → out = List.replicate F.length 0 ∧ l.length = 0) := hz
      have HNZ : Hid (N0 ≠ 0 → 1 ≤ l.length) := hnz
      clear hS hz hnz hrel
      go_wp2_with fail
      refine hsz.mono ?_
      rintro e w4 ⟨rfl, rfl⟩
      clear hsz
      by_cases hlt : 1 < l.length
      · obtain ⟨xw, xl, xs, xa, xm, xc, hx, htk⟩ := take_form _ _ _ _ _ HS.out.heap (by omega) (by omega) HS.out.ord
        have HX : Hid (∀ c ∈ l, Hf.ltG c ⟨xw, xl, xs, .slice xa xm xc⟩ = false) := fun c hc => by rw [← hx]; exact HS.out.ord.first_mem c hc
        have HSX : Hid (w4.ownsRow w1.heap.size 3 1 (.slice xa xm xc) xs.length ((Hf.up xs).map Iv)) := by
          have := HS.out.heap.signs _ (Hf.nth_mem (show 0 < l.length by omega))
          rw [hx] at this
          exact this
        clear hx
        go_wp2_with fail
        refine htk.mono ?_
        rintro e w5 ⟨rfl, u5, l5, p5, o5, _, H5, K5⟩
        clear htk
        have hl5 : l.length = l5.length + 1 := by have := p5.length_eq; simpa using this
        have hsx5 : w5.ownsRow w1.heap.size 3 1 (.slice xa xm xc) xs.length ((Hf.up xs).map Iv) := own_kept HSX.out K5 (HS.out.heap.sign_apart HSX.out)
        have hrow5 : w5.ownsRow w'.heap.size 3 1 (.slice (some ⟨w'.heap.size, 0, none⟩) F.length F.length) F.length ((Hf.up out).map Iv) := own_kept HS.out.row K5 (HS.out.heap.sign_apart HS.out.row)
        have hbel5 : Below w'.heap.size w' w5 := HS.out.bel.trans ((HS.out.heap.below K5).mono (by omega))
        have hinv := HS.out.inv.perm (p5.map Hf.ab)
        have hA : ∀ c ∈ l5, Hf.nlt (Hf.ab c) (Hf.ab ⟨xw, xl, xs, .slice xa xm xc⟩) := fun c hc => Hf.nlt_of (HX.out c (p5.mem_iff.2 (List.mem_cons_of_mem _ hc)))
        obtain ⟨W6, hW6⟩ : ∃ W6, W6 = w5.alloc (.cells #[.int .i64 (xw : Int), .int .i64 (xl : Int), .slice xa xm xc] 91) := ⟨_, rfl⟩
        have hb56 : Below w5.heap.size w5 W6 := by rw [hW6]; exact (Below.refl _ _).alloc (Nat.le_refl _) _
        have H6 : Heap W6 w1.heap.size w1.heap.size u5 l5 := H5.keep hb56
        have X6 : Hid (GBox W6 w5.heap.size ⟨xw, xl, xs, .slice xa xm xc⟩) := by rw [hW6]; exact GBox.new w5 ⟨xw, xl, xs, .slice xa xm xc⟩
        have HSX6 : Hid (W6.ownsRow w1.heap.size 3 1 (.slice xa xm xc) xs.length ((Hf.up xs).map Iv)) := row_below hsx5 hb56
        have HR6 : Hid (W6.ownsRow w'.heap.size 3 1 (.slice (some ⟨w'.heap.size, 0, none⟩) F.length F.length) F.length ((Hf.up out).map Iv)) := row_below hrow5 hb56
        have HB6 : Hid (Below w'.heap.size w' W6) := hbel5.trans (hb56.mono hbel5.size)
        have HI : Hid (Hf.Inv F (Hf.ab ⟨xw, xl, xs, .slice xa xm xc⟩ :: l5.map Hf.ab) out) := hinv
        have HA : Hid (∀ c ∈ l5, Hf.nlt (Hf.ab c) (Hf.ab ⟨xw, xl, xs, .slice xa xm xc⟩)) := hA
        obtain ⟨yw, yl, ys, ya, ym, yc, hy, htk⟩ := take_form _ _ _ _ _ H6 (by omega) (by omega) o5
        have HY : Hid (∀ c ∈ l5, Hf.ltG c ⟨yw, yl, ys, .slice ya ym yc⟩ = false) := fun c hc => by rw [← hy]; exact o5.first_mem c hc
        have HSY : Hid (W6.ownsRow w1.heap.size 3 1 (.slice ya ym yc) ys.length ((Hf.up ys).map Iv)) := by
          have := H6.signs _ (Hf.nth_mem (show 0 < l5.length by omega))
          rw [hy] at this
          exact this
        have HH6 : Hid (Heap W6 w1.heap.size w1.heap.size u5 l5) := H6
        have HL5 : Hid (l.length = l5.length + 1) := hl5
        have HNE : Hid (w5.heap.size ≠ w1.heap.size ∧ u5.ownBlock ≠ some w5.heap.size) := by
          refine ⟨fun e => ?_, fun e => ?_⟩
          · have := H5.lt; omega
          · obtain ⟨cur, hc, _⟩ := own_block H5.row e
            have := (Array.getElem?_eq_some_iff.1 hc).1
            omega
        clear hy p5 o5 H5 K5 hl5 hsx5 hrow5 hbel5 hinv hA hb56 H6 HX HSX
        go_wp2_with fail
        rw [← hW6]
        refine htk.mono ?_
        rintro e w7 ⟨rfl, u7, l7, p7, o7, _, H7, K7⟩
        clear htk hW6
        have hw5 : w5.heap.size < W6.heap.size := X6.out.lt
        have X7 : GBox w7 w5.heap.size ⟨xw, xl, xs, .slice xa xm xc⟩ := X6.out.kept K7 HNE.out
        have hl7 : l5.length = l7.length + 1 := by have := p7.length_eq; simpa using this
        have hsx7 : w7.ownsRow w1.heap.size 3 1 (.slice xa xm xc) xs.length ((Hf.up xs).map Iv) := own_kept HSX6.out K7 (HH6.out.sign_apart HSX6.out)
        have hsy7 : w7.ownsRow w1.heap.size 3 1 (.slice ya ym yc) ys.length ((Hf.up ys).map Iv) := own_kept HSY.out K7 (HH6.out.sign_apart HSY.out)
        have hrow7 : w7.ownsRow w'.heap.size 3 1 (.slice (some ⟨w'.heap.size, 0, none⟩) F.length F.length) F.length ((Hf.up out).map Iv) := own_kept HR6.out K7 (HH6.out.sign_apart HR6.out)
        have hbel7 : Below w'.heap.size w' w7 := HB6.out.trans ((HH6.out.below K7).mono (by omega))
        have hinv : Hf.Inv F (Hf.ab ⟨xw, xl, xs, .slice xa xm xc⟩ :: Hf.ab ⟨yw, yl, ys, .slice ya ym yc⟩ :: l7.map Hf.ab) out := HI.out.perm ((p7.map Hf.ab).cons _)
        have hA : ∀ c ∈ Hf.ab ⟨yw, yl, ys, .slice ya ym yc⟩ :: l7.map Hf.ab, Hf.nlt c (Hf.ab ⟨xw, xl, xs, .slice xa xm xc⟩) := fun c hc => by
          have hc : c ∈ (⟨yw, yl, ys, .slice ya ym yc⟩ :: l7).map Hf.ab := hc
          obtain ⟨g, hg, rfl⟩ := List.mem_map.1 hc
          exact HA.out g (p7.mem_iff.2 hg)
        have hBq : ∀ c ∈ l7.map Hf.ab, Hf.nlt c (Hf.ab ⟨yw, yl, ys, .slice ya ym yc⟩) := fun c hc => by
          obtain ⟨g, hg, rfl⟩ := List.mem_map.1 hc
          exact Hf.nlt_of (HY.out g (p7.mem_iff.2 (List.mem_cons_of_mem _ hg)))
        have hstep := hinv.step (s := xs ++ ys) hA hBq (List.Perm.refl _)
        have hx1 : 1 ≤ xs.length := List.length_pos_of_mem (hinv.st.low _ List.mem_cons_self)
        have hy1 : 1 ≤ ys.length := List.length_pos_of_mem (hinv.st.low _ (List.mem_cons_of_mem _ List.mem_cons_self))
        have hxy : xs.length + ys.length ≤ 256 := by
          have := hinv.st.count
          simp only [List.flatMap_cons, List.length_append, Hf.ab] at this
          omega
        have hwt : xw + yw ≤ 1000000000 := by
          have := hinv.st.wt
          simp only [List.map_cons, List.sum_cons, Hf.ab] at this
          omega
        obtain ⟨W8, hW8⟩ : ∃ W8, W8 = w7.alloc (.cells #[.int .i64 (yw : Int), .int .i64 (yl : Int), .slice ya ym yc] 91) := ⟨_, rfl⟩
        have hb78 : Below w7.heap.size w7 W8 := by rw [hW8]; exact (Below.refl _ _).alloc (Nat.le_refl _) _
        have X8 := X7.below hb78 X7.lt
        have Y8 : GBox W8 w7.heap.size ⟨yw, yl, ys, .slice ya ym yc⟩ := by rw [hW8]; exact GBox.new w7 ⟨yw, yl, ys, .slice ya ym yc⟩
        have hj := join_any w1.heap.size ⟨xw, xl, xs, .slice xa xm xc⟩ ⟨yw, yl, ys, .slice ya ym yc⟩ W8 (row_below hsx7 hb78) (row_below hsy7 hb78) hx1 hy1 hxy hwt
        have H8 : Hid (Heap W8 w1.heap.size w1.heap.size u7 l7) := H7.keep hb78
        have HR8 : Hid (W8.ownsRow w'.heap.size 3 1 (.slice (some ⟨w'.heap.size, 0, none⟩) F.length F.length) F.length ((Hf.up out).map Iv)) := row_below hrow7 hb78
        have HB8 : Hid (Below w'.heap.size w' W8) := hbel7.trans (hb78.mono hbel7.size)
        have HO7 : Hid (Hf.Ord l7) := o7
        have HL7 : Hid (l5.length = l7.length + 1) := hl7
        have HSTEP : Hid (Hf.Inv F ((xw + yw, min xl yl, xs ++ ys) :: l7.map Hf.ab) (Hf.bump out (xs ++ ys))) := hstep
        have HST7 : Hid (Hf.St F.length ((xw + yw, min xl yl, xs ++ ys) :: l7.map Hf.ab)) := hstep.st
        have HFEW : Hid (∀ i, out.getD i 0 ≤ 256) := fun i => by have := hinv.few i; omega
        have HLEN : Hid (out.length = F.length) := hinv.len
        obtain ⟨S, hS⟩ : ∃ S, xs ++ ys = S := ⟨_, rfl⟩
        obtain ⟨jw, hjw⟩ : ∃ jw, xw + yw = jw := ⟨_, rfl⟩
        obtain ⟨jl, hjl⟩ : ∃ jl, min xl yl = jl := ⟨_, rfl⟩
        unfold Hf.gjoin gV at hj
        dsimp only at hj
        rw [hS, hjw, hjl] at hj HSTEP HST7
        have HSL : Hid (S.length ≤ 256 ∧ 1 ≤ S.length) := by rw [← hS, List.length_append]; exact ⟨hxy, by omega⟩
        obtain ⟨a0, a1, a2, _, _, _, h57⟩ := X7
        dsimp only at a0 a1 a2
        rw [hW8] at hj
        clear p7 o7 H7 K7 hl7 hsx7 hsy7 hrow7 hbel7 hinv hA hBq hstep hx1 hy1 hxy hwt hb78 X8 Y8 hS hjw hjl X6 HSX6 HR6 HB6 HI HA HY HSY HH6 HNE
        go_wp2_with fail
        refine hj.mono ?_
        rw [← hW8]
        rintro e w9 ⟨v9, rfl, o9, hb9⟩
        obtain ⟨va, vm, vc, rfl⟩ := own_slice o9
        clear hj hW8 a0 a1 a2 h57
        have hw8 := HB8.out.size
        have H9 := H8.out.keep hb9
        have hr9 := row_below HR8.out hb9
        have hbl9 : Below w'.heap.size w' w9 := HB8.out.trans (hb9.mono hw8)
        obtain ⟨W10, hW10⟩ : ∃ W10, W10 = w9.alloc (.cells #[.int .i64 (jw : Int), .int .i64 (jl : Int), .slice va vm vc] 91) := ⟨_, rfl⟩
        have hbA : Below w9.heap.size w9 W10 := by rw [hW10]; exact (Below.refl _ _).alloc (Nat.le_refl _) _
        have J10 : GBox W10 w9.heap.size ⟨jw, jl, S, .slice va vm vc⟩ := by rw [hW10]; exact GBox.new w9 ⟨jw, jl, S, .slice va vm vc⟩
        have H10 : Hid (Heap W10 w1.heap.size w1.heap.size u7 l7) := H9.keep hbA
        have HR10 : Hid (W10.ownsRow w'.heap.size 3 1 (.slice (some ⟨w'.heap.size, 0, none⟩) F.length F.length) F.length ((Hf.up out).map Iv)) := row_below hr9 hbA
        have HB10 : Hid (Below w'.heap.size w' W10) := hbl9.trans (hbA.mono hbl9.size)
        have hwl : w1.heap.size ≤ W8.heap.size := by have := H8.out.lt; omega
        have HV10 : Hid (W10.ownsRow w1.heap.size 3 1 (.slice va vm vc) S.length ((Hf.up S).map Iv)) := row_lower (row_below o9 hbA) hwl
        have HJ10 : Hid (GBox W10 w9.heap.size ⟨jw, jl, S, .slice va vm vc⟩) := J10
        have hw9 : w'.heap.size < w9.heap.size := by have := hb9.size; omega
        obtain ⟨vg, rfl, hvm⟩ : ∃ vg, va = some ⟨vg, 0, none⟩ ∧ vm = S.length := by
          rcases o9.2 with ⟨e, h0⟩ | ⟨g, cap, cur, e, _⟩
          · have := HSL.out; omega
          · simp at e
            exact ⟨g, e.1, e.2.1⟩
        subst hvm
        clear J10 H9 hr9 hbl9 hbA o9 hb9 H8 HR8 HB8 hwl
        go_wp2_with fail
        rw [← hW10]
        clear hW10
        have HSN : Hid (S.Nodup) := by
          have := HST7.out.nodup
          rw [List.flatMap_cons, List.nodup_append] at this
          exact this.1
        have HSB : Hid (∀ i ∈ S, i < F.length) := fun i hi => HST7.out.lt _ List.mem_cons_self i hi
        go_loopw [41] (fun x wr => ∃ k : Nat, k ≤ S.length ∧ x = .int .i64 k ∧ Hid (Kept (fun q => q ≠ w'.heap.size) W10 wr) ∧ wr.ownsRow w'.heap.size 3 1 (.slice (some ⟨w'.heap.size, 0, none⟩) F.length F.length) F.length ((Hf.up (Hf.bump out (S.take k))).map Iv)) (fun x _ => S.length - (intOf x).toNat)
        case atStart => exact ⟨0, by omega, rfl, Kept.refl _ _, HR10.out⟩
        case round =>
          obtain ⟨k, hk, rfl, hkp, hrow⟩ := hrel
          have hS256 := HSL.out.1
          by_cases hkl : k < S.length
          · have hvr := own_kept HV10.out hkp.out (fun g hg => by obtain ⟨_, _, hb⟩ := own_block HV10.out hg; omega)
            have hc0 := own_at hvr k (by rw [Hf.up_length]; exact hkl)
            rw [Hf.up_get] at hc0
            have hsk : S.getD k 0 < F.length := HSB.out _ (by rw [List.getD_eq_getElem?_getD, List.getElem?_eq_getElem hkl]; exact List.getElem_mem hkl)
            have HN : Hid (Hf.bump out (S.take (k + 1)) = (Hf.bump out (S.take k)).set (S.getD k 0) ((Hf.bump out (S.take k)).getD (S.getD k 0) 0 + 1)) := Hf.bump_next hkl
            have hbl : (Hf.bump out (S.take k)).length = F.length := by rw [Hf.bump_length]; exact HLEN.out
            have hfew := Hf.bump_few (k := k) HSN.out (fun i hi => by rw [HLEN.out]; exact HSB.out i hi) HFEW.out (S.getD k 0)
            generalize S.getD k 0 = sk at *
            have hc1 := own_at hrow sk (by rw [Hf.up_length, hbl]; exact hsk)
            rw [Hf.up_get] at hc1
            have hfz := hrow.frozenAt sk
            have HO := own_store hrow sk (((Hf.bump out (S.take k)).getD sk 0 + 1 : Nat) : Int)
            rw [← Hf.up_set, ← HN.out] at HO
            generalize (Hf.bump out (S.take k)).getD sk 0 = X at *
            have HO' : Hid ((wr.setCell ⟨w'.heap.size, sk, none⟩ (.int .i64 ((X : Int) + 1))).ownsRow w'.heap.size 3 1 (.slice (some ⟨w'.heap.size, 0, none⟩) F.length F.length) F.length ((Hf.up (Hf.bump out (S.take (k + 1)))).map Iv)) := HO
            have HK' : Hid (Kept (fun q => q ≠ w'.heap.size) W10 (wr.setCell ⟨w'.heap.size, sk, none⟩ (.int .i64 ((X : Int) + 1)))) := hkp.out.setCell (by simp) _
            clear HO hrow hkp hvr HN hbl
            go_wp2_with fail
            go_roundw
            case rel => exact ⟨k + 1, by omega, by go_num, HK', HO'.out⟩
            case measure => simp only [intOf]; omega
          · obtain rfl : k = S.length := by omega
            rw [List.take_length] at hrow
            have hH := H10.out.kept hkp.out (fun q hq _ => by omega)
            have hV := own_kept HV10.out hkp.out (fun g hg => by obtain ⟨_, _, hb⟩ := own_block HV10.out hg; omega)
            have hJ := HJ10.out.kept hkp.out (by omega)
            have hBw : Below w'.heap.size w' wr := HB10.out.trans (hkp.out.below HB10.out.size fun q hq => by omega)
            have hl7 : l7.length < 256 := by have := HL5.out; have := HL7.out; omega
            have hput := put_any w1.heap.size w1.heap.size u7 l7 ⟨jw, jl, S, .slice (some ⟨vg, 0, none⟩) S.length vc⟩ wr hH hV hl7 HO7.out
            unfold gV at hput
            dsimp only at hput
            have HH : Hid (Heap wr w1.heap.size w1.heap.size u7 l7) := hH
            have HRW : Hid (wr.ownsRow w'.heap.size 3 1 (.slice (some ⟨w'.heap.size, 0, none⟩) F.length F.length) F.length ((Hf.up (Hf.bump out S)).map Iv)) := hrow
            have HBW : Hid (Below w'.heap.size w' wr) := hBw
            obtain ⟨j0, j1, j2, _, _, _, _⟩ := hJ
            dsimp only at j0 j1 j2
            clear hH hV hBw hrow hkp
            go_wp2_with fail
            refine hput.mono ?_
            rintro e w11 ⟨rfl, u11, l11, p11, o11, H11, K11⟩
            clear hput j0 j1 j2
            have HI11 : Hid (∃ u l out, Lst F w' w11 w'.heap.size w1.heap.size l u out ∧ (N0 = 0 → out = List.replicate F.length 0 ∧ l.length = 0) ∧ (N0 ≠ 0 → 1 ≤ l.length)) := by
              refine ⟨u11, l11, Hf.bump out S, ⟨H11, o11, ?_, own_kept HRW.out K11 (HH.out.sign_apart HRW.out), HBW.out.trans ((HH.out.below K11).mono (by omega))⟩, fun e => ?_, fun _ => ?_⟩
              · exact HSTEP.out.perm ((p11.map Hf.ab).symm)
              · have := (HZ.out e).2; omega
              · rw [p11.length_eq]; simp
            have HM : Hid (itemsLen w11 w1.heap.size < itemsLen w4 w1.heap.size) := by
              show _ < _
              rw [H11.len, HLN.out, p11.length_eq]
              have := HL5.out
              have := HL7.out
              simp
              omega
            clear p11 o11 H11 K11
            go_wp2_with fail
            go_roundw
            case rel => exact HI11
            case measure => exact HM.out
      · have HHL : Hid (Hf.HL F out) := by
          refine ⟨HS.out.inv.len, fun e => (HZ.out (by rw [HN0.out]; exact e)).1, fun x e => absurd (by rw [HN0.out, e]; rfl) HN1.out, fun e => ?_⟩
          have h1 : l.length = 1 := by have := HNZ.out (by rw [HN0.out]; omega); omega
          obtain ⟨y, rfl⟩ := List.length_eq_one_iff.1 h1
          exact HS.out.inv.done
        go_wp2_with fail
        go_ret2
        exact ⟨_, _, rfl, HHL.out, HS.out.row, HS.out.bel⟩
end Go.Proofs.Ytgdkfaphbbdnbaa
