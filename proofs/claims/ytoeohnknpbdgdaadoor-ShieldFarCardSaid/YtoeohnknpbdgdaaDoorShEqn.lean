/-
  What equationOf of package shield answers.
-/
import Derived.Test.YtoeohnknpbdgdaaDoorShThere
import Derived.Deep.AppendLies
import Derived.Deep.RegionLaw
import Derived.Deep.Cut
namespace Go.Proofs.YtoeohnknpbdgdaaDoor
open Go.RowKit
set_option maxRecDepth 4000

def hasF (l : List Shd) (i : Nat) : Bool := (l.getD i Shd.none).has
def bytF (l : List Shd) (i : Nat) : List Nat := nb (l.getD i Shd.none).bytes
/-- an equation that is being made: its box G, the result's box R -/
structure EqS (w W : World) (R G : Nat) (wv bv : Value) (wl bl : List Nat) : Prop where
  bel : Below w.heap.size w W
  res : W.heap[R]? = some (.cells #[.slice none 0 0, .slice none 0 0] 52 (0, 0))
  box : W.heap[G]? = some (.cells #[wv, bv] 52 (0, 0))
  oldR : w.heap.size ≤ R
  oldG : w.heap.size ≤ G
  ne : R ≠ G
  wts : W.ownsRow w.heap.size 5 1 wv wl.length (wl.map Bv)
  byt : Ob W w.heap.size bv bl
  apart : ∀ g, bv.ownBlock = some g → wv.ownBlock ≠ some g
theorem EqS.keep {w W W' : World} {R G : Nat} {wv bv : Value} {wl bl : List Nat} (h : EqS w W R G wv bv wl bl) (hb : Below W.heap.size W W') : EqS w W' R G wv bv wl bl :=
  ⟨h.bel.trans (hb.mono h.bel.size), (hb.block _ (Array.getElem?_eq_some_iff.1 h.res).1).trans h.res, (hb.block _ (Array.getElem?_eq_some_iff.1 h.box).1).trans h.box, h.oldR, h.oldG, h.ne, own_below h.wts hb, h.byt.below hb, h.apart⟩
theorem EqS.cells {w W : World} {R G : Nat} {wv bv : Value} {wl bl : List Nat} (h : EqS w W R G wv bv wl bl) : W.cell? ⟨G, 0, none⟩ = some wv ∧ W.cell? ⟨G, 1, none⟩ = some bv ∧ W.frozen? ⟨G, 0, none⟩ = false ∧ G < W.heap.size := by
  refine ⟨?_, ?_, ?_, (Array.getElem?_eq_some_iff.1 h.box).1⟩
  · rw [cell_of_row _ G 0 _ _ _ h.box]; rfl
  · rw [cell_of_row _ G 1 _ _ _ h.box]; rfl
  · exact frozen_of_row W G 0 _ _ h.box
/-- a box of two is no block of bytes -/
theorem EqS.far {w W : World} {R G : Nat} {wv bv : Value} {wl bl : List Nat} (h : EqS w W R G wv bv wl bl) {k : Nat} {c : Array Value} {z : Nat × Nat} (hk : W.heap[k]? = some (.cells c 5 z)) : k ≠ R ∧ k ≠ G := by
  refine ⟨fun e => ?_, fun e => ?_⟩
  · rw [e, h.res] at hk; simp at hk
  · rw [e, h.box] at hk; simp at hk
theorem EqS.bytes {w W W' : World} {R G : Nat} {wv bv : Value} {wl bl bl' : List Nat} (h : EqS w W R G wv bv wl bl) (hk : Kept (fun k => bv.ownBlock ≠ some k) W W') (hb : Ob W' w.heap.size bv bl') : EqS w W' R G wv bv wl bl' := by
  have hfar : ∀ g, bv.ownBlock = some g → g ≠ R ∧ g ≠ G := fun g hg => by
    obtain ⟨c, z, hc, _⟩ := h.byt.block hg
    exact h.far hc
  refine ⟨h.bel.trans (hk.below h.bel.size fun k hk e => ?_), hk.obj (fun e => (hfar R e).1 rfl) h.res, hk.obj (fun e => (hfar G e).2 rfl) h.box, h.oldR, h.oldG, h.ne, own_kept h.wts hk fun g hg e => h.apart g e hg, hb, h.apart⟩
  obtain ⟨c, z, _, h2, _⟩ := h.byt.block e
  omega
/-- one weight more, stored -/
theorem EqS.more {w W w1 : World} {R G g cap x : Nat} {wv bv : Value} {wl bl : List Nat} {o : Obj} (h : EqS w W R G wv bv wl bl)
    (hown : w1.ownsRow w.heap.size 5 1 (.slice (some ⟨g, 0, none⟩) (wl.length + 1) cap) (wl.length + 1) (wl.map Bv ++ [.int .u8 (x : Nat)])) (hg : (W.drew.alloc o).grownBy w1 wv.ownBlock) (hat : wv.ownBlock = some g ∨ g = W.heap.size + 1) :
    EqS w (w1.setCell ⟨G, 0, none⟩ (.slice (some ⟨g, 0, none⟩) (wl.length + 1) cap)) R G (.slice (some ⟨g, 0, none⟩) (wl.length + 1) cap) bv (wl ++ [x]) bl := by
  have hltG := (Array.getElem?_eq_some_iff.1 h.box).1
  have hltR := (Array.getElem?_eq_some_iff.1 h.res).1
  have hfw : ∀ k, wv.ownBlock = some k → k ≠ R ∧ k ≠ G ∧ w.heap.size ≤ k := fun k hk => by
    obtain ⟨c, hc, h2, _⟩ := own_block h.wts hk
    exact ⟨(h.far hc).1, (h.far hc).2, h2⟩
  have hk1 : Kept (fun k => wv.ownBlock ≠ some k) W w1 := ((Kept.refl _ W).drew.alloc o).grown hg fun k hk hp => hp hk
  have hgG : g ≠ R ∧ g ≠ G := by
    rcases hat with e | e
    · exact ⟨(hfw g e).1, (hfw g e).2.1⟩
    · omega
  have hbox1 : w1.heap[G]? = some (.cells #[wv, bv] 52 (0, 0)) := hk1.obj (fun e => (hfw G e).2.1 rfl) h.box
  have hres1 := hk1.obj (fun e => (hfw R e).1 rfl) h.res
  have hk2 : Kept (fun k => k ≠ G) w1 (w1.setCell ⟨G, 0, none⟩ (.slice (some ⟨g, 0, none⟩) (wl.length + 1) cap)) := (Kept.refl _ _).setCell (by simp) _
  have hbG : ∀ k, bv.ownBlock = some k → k ≠ G ∧ wv.ownBlock ≠ some k := fun k hk => by
    obtain ⟨c, z, hc, _⟩ := h.byt.block hk
    exact ⟨(h.far hc).2, h.apart k hk⟩
  refine ⟨?_, hk2.obj h.ne hres1, ?_, h.oldR, h.oldG, h.ne, ?_, ?_, ?_⟩
  · refine (h.bel.trans (hk1.below h.bel.size fun k hk e => ?_)).setCell h.oldG _
    have := (hfw k e).2.2
    omega
  · rw [heap_setCell_same _ _ _ _ _ _ hbox1]
    rfl
  · have e : (wl ++ [x]).map Bv = wl.map Bv ++ [.int .u8 (x : Nat)] := by simp [Bv]
    rw [e, List.length_append, List.length_singleton]
    exact own_kept hown hk2 fun b hb => by
      simp [Value.ownBlock] at hb
      omega
  · exact (h.byt.kept hk1 fun k hk => (hbG k hk).2).kept hk2 fun k hk => (hbG k hk).1
  · intro k hk e
    simp [Value.ownBlock] at e
    subst e
    rcases hat with e | e
    · exact h.apart _ hk e
    · obtain ⟨c, z, _, _, h3⟩ := h.byt.block hk
      omega

set_option maxHeartbeats 4000000 in
theorem equationOf_any (v : Value) (l : List Shd) (s : ByteArray) (j m : Nat) (w : World) (h : Sx w v l) (hl : l.length ≤ 16) (hj : j < 8) (hs : s.size = m) (hm : m ≤ 4096) (hT : ∀ i, i < l.length → hasF l i = true → (bytF l i).length = m) :
    Calls Tryd.prog 28 #[v, .string s, .int .i64 j] w fun e w' => ∃ wv bv, e = .returned (.agg #[wv, bv]) ∧
      Ob w' w.heap.size wv (Fd.eqW (hasF l) j l.length) ∧ Ob w' w.heap.size bv (Fd.eqB (hasF l) (bytF l) j (nb s) l.length) ∧ (∀ g, bv.ownBlock = some g → wv.ownBlock ≠ some g) ∧ Below w.heap.size w w' := by
  obtain ⟨i0, hi, hz0, hz1, hz2⟩ := info_parts info_u8
  subst hs
  obtain ⟨a, c, rfl, hc1, hc2⟩ := h.slice
  have HX : Hid (Sx w (.slice a l.length c) l) := h
  obtain ⟨N, hN⟩ : ∃ N, N = l.length := ⟨_, rfl⟩
  have HN : Hid (N = l.length) := hN
  have HT : Hid (∀ i, i < l.length → hasF l i = true → (bytF l i).length = s.size) := hT
  rw [← hN] at HX hl ⊢
  clear hN h hc1 hc2 hT
  obtain ⟨W1, cap, hcv, hob, hbel, hlt1⟩ := conv_ob (w.alloc (.cells #[.slice none 0 0, .slice none 0 0] 52)) s
  have hsz1 : (w.alloc (.cells #[.slice none 0 0, .slice none 0 0] 52)).heap.size = w.heap.size + 1 := by simp
  rw [hsz1] at hcv hob hbel hlt1
  have HS0 : Hid (EqS w (W1.alloc (.cells #[.slice none 0 0, .slice (some ⟨w.heap.size + 1, 0, none⟩) s.size cap] 52)) w.heap.size W1.heap.size (.slice none 0 0) (.slice (some ⟨w.heap.size + 1, 0, none⟩) s.size cap) [] (nb s)) := by
    have hA : Below w.heap.size w (w.alloc (.cells #[.slice none 0 0, .slice none 0 0] 52)) := (Below.refl _ w).alloc (Nat.le_refl _) _
    have hw1 : Below w.heap.size w W1 := hA.trans (hbel.mono (by omega))
    have hB : Below W1.heap.size W1 (W1.alloc (.cells #[.slice none 0 0, .slice (some ⟨w.heap.size + 1, 0, none⟩) s.size cap] 52)) := (Below.refl _ W1).alloc (Nat.le_refl _) _
    refine ⟨hw1.alloc (by omega) _, ?_, heap_alloc_new W1 _, Nat.le_refl _, by omega, by omega, World.ownsRow_nil _ _ _ _, (hob.lower (by omega)).below hB, fun g _ e => by simp [Value.ownBlock] at e⟩
    rw [hB.block _ (by omega), hbel.block _ (by omega)]
    exact heap_alloc_new w _
  clear hob hbel
  go_enter Tryd.func28, Tryd.ntmps28
  go_wp2_with fail
  generalize W1.alloc (.cells #[.slice none 0 0, .slice (some ⟨w.heap.size + 1, 0, none⟩) s.size cap] 52) = W2 at HS0 ⊢
  generalize W1.heap.size = G at *
  clear hcv hlt1 hsz1
  go_loopw [15] (fun i wr => ∃ (k : Nat) (wv : Value), k ≤ N ∧ i = .int .i64 k ∧ Hid (EqS w wr w.heap.size G wv (.slice (some ⟨w.heap.size + 1, 0, none⟩) s.size cap) (Fd.eqW (hasF l) j k) (Fd.eqB (hasF l) (bytF l) j (nb s) k))) (fun i _ => N - (intOf i).toNat)
  case atStart => exact ⟨0, _, by omega, rfl, HS0⟩
  case round =>
    clear HS0
    obtain ⟨k, wv, hk, rfl, HS⟩ := hrel
    by_cases hlt : k < N
    · obtain ⟨bk, o, rfl, hbk, c0, c1⟩ := (HX.out.below HS.out.bel).get k (by rw [← HN.out]; omega)
      have HLk : Hid (hasF l k = true → (bytF l k).length = s.size) := HT.out k (by rw [← HN.out]; omega)
      have HL1 : Hid (∀ q, q < k → hasF l q = true → (bytF l q).length = s.size) := fun q hq => HT.out q (by rw [← HN.out]; omega)
      have HW : Hid (Fd.eqW (hasF l) j (k + 1) = if hasF l k then Fd.eqW (hasF l) j k else Fd.eqW (hasF l) j k ++ [Fd.wt j k]) := rfl
      have HBy : Hid (Fd.eqB (hasF l) (bytF l) j (nb s) (k + 1) = if hasF l k then Fd.addL (Fd.eqB (hasF l) (bytF l) j (nb s) k) (bytF l k) (Fd.wt j k) else Fd.eqB (hasF l) (bytF l) j (nb s) k) := rfl
      have HLe : Hid ((Fd.eqB (hasF l) (bytF l) j (nb s) k).length = s.size ∧ Fd.Bs (Fd.eqB (hasF l) (bytF l) j (nb s) k)) := ⟨Fd.eqB_length (nb_length s) k HL1.out, Fd.eqB_bs (nb_bs s) k fun q _ _ => nb_bs _⟩
      have hwl : (Fd.eqW (hasF l) j k).length ≤ k := by
        rw [Fd.eqW_length]; have := Fd.cnt_lost (hasF l) k; omega
      have hwt := fun W => weight_any j k W hj (by omega)
      have HWt : Hid (Fd.wt j k < 256) := Fd.wt_lt (by omega) (by omega)
      have HF1 : Hid (hasF l k = (l.getD k Shd.none).has ∧ bytF l k = nb (l.getD k Shd.none).bytes) := ⟨rfl, rfl⟩
      generalize l.getD k Shd.none = t at *
      obtain ⟨hs1, sk⟩ := t
      dsimp only at c0 c1 HF1
      rw [HF1.out.1] at HW HBy HLk
      rw [HF1.out.2] at HBy HLk
      obtain ⟨wl1, hwl1⟩ : ∃ y, Fd.eqW (hasF l) j (k + 1) = y := ⟨_, rfl⟩
      obtain ⟨bl1, hbl1⟩ : ∃ y, Fd.eqB (hasF l) (bytF l) j (nb s) (k + 1) = y := ⟨_, rfl⟩
      rw [hwl1] at HW
      rw [hbl1] at HBy
      have HEQ : Hid (Fd.eqW (hasF l) j (k + 1) = wl1 ∧ Fd.eqB (hasF l) (bytF l) j (nb s) (k + 1) = bl1) := ⟨hwl1, hbl1⟩
      clear hwl1 hbl1
      generalize Fd.eqW (hasF l) j k = wl at *
      generalize Fd.eqB (hasF l) (bytF l) j (nb s) k = bl at *
      generalize Fd.wt j k = x at *
      clear HF1 HL1
      obtain ⟨wa, wc, rfl⟩ := own_len HS.out.wts
      obtain ⟨W0, hW0⟩ : ∃ W0, W0 = wr.alloc (.cells #[.bool hs1, .string sk] 31) := ⟨_, rfl⟩
      have hB0 : Below wr.heap.size wr W0 := by rw [hW0]; exact (Below.refl _ _).alloc (Nat.le_refl _) _
      have hc3 : W0.cell? ⟨wr.heap.size, 1, none⟩ = some (.string sk) := by rw [hW0]; simp
      have hc4 : W0.cell? ⟨wr.heap.size, 0, none⟩ = some (.bool hs1) := by rw [hW0]; simp
      have hltB : wr.heap.size < W0.heap.size := by rw [hW0]; simp
      have HS1 := HS.out.keep hB0
      cases hs1 with
      | true =>
        have HW1 : Hid (wl1 = wl) := HW.out
        have HB1 : Hid (bl1 = Fd.addL bl (nb sk) x) := HBy.out
        obtain ⟨W3, cap3, hcv, hob, hbel3, hlt3⟩ := conv_ob W0.drew sk
        have hD : W0.drew.heap.size = W0.heap.size := rfl
        rw [hD] at hcv hob hbel3 hlt3
        have HS3 := (HS1.keep (Below.refl _ W0).drew).keep hbel3
        obtain ⟨g0, g1, g2, g3⟩ := HS1.cells
        obtain ⟨e0, e1, e2, e3⟩ := HS3.cells
        have d3 : W3.cell? ⟨wr.heap.size, 1, none⟩ = some (.string sk) := (hbel3.cell (p := ⟨wr.heap.size, 1, none⟩) hltB).trans hc3
        have hadd := addTimes_any w.heap.size W0.heap.size _ _ _ _ x W3 HS3.byt hob (by rw [HLe.out.1]; exact HLk.out rfl) (fun g hg e => by
          simp [Value.ownBlock] at hg e
          have := HS1.bel.size
          obtain ⟨_, _, _, _, h5⟩ := HS1.byt.block (g := w.heap.size + 1) rfl
          omega) (by rw [HLe.out.1]; exact hm) HLe.out.2 (nb_bs _) HWt.out
        have hadd' : Calls Tryd.prog 22 #[.slice (some ⟨w.heap.size + 1, 0, none⟩) s.size cap, .slice (some ⟨W0.heap.size, 0, none⟩) sk.size cap3, .int .u8 x] W3 fun e w' => e = .returned (.tuple #[]) ∧ Hid (EqS w w' w.heap.size G (.slice wa wl.length wc) (.slice (some ⟨w.heap.size + 1, 0, none⟩) s.size cap) wl1 bl1) :=
          hadd.mono fun e w' ⟨h1, h2, h3⟩ => ⟨h1, by rw [HW1.out, HB1.out]; exact HS3.bytes h3 h2⟩
        clear hadd HS3 HS1 HS hob hbel3 HW HBy HW1 HB1 HX
        go_upto_region 6 with fail
        rw [← hW0]
        clear hW0 hB0
        go_region_with (first | (refine (hwt _).mono ?_; rintro e u ⟨rfl, rfl⟩) | (refine hadd'.mono ?_; rintro e u ⟨rfl, HE⟩))
        all_goals
          go_wp2_with fail
          go_roundw
          case rel => exact ⟨k + 1, _, by omega, by go_num, by rw [HEQ.out.1, HEQ.out.2]; exact HE⟩
          case measure => simp only [intOf]; omega
      | false =>
        have HW1 : Hid (wl1 = wl ++ [x]) := HW.out
        have HB1 : Hid (bl1 = bl) := HBy.out
        obtain ⟨g0, g1, g2, g3⟩ := HS1.cells
        have hrow : ∀ o, (W0.drew.alloc o).ownsRow w.heap.size 5 1 (.slice wa wl.length wc) wl.length (wl.map Bv) := fun o => HS1.wts.drew.alloc o
        have hws := HS1.bel.size
        have HQ : Hid (∀ o w1, (W0.drew.alloc o).grownBy w1 (Value.slice wa wl.length wc).ownBlock → w1.cell? ⟨G, 0, none⟩ = some (.slice wa wl.length wc) ∧ w1.frozen? ⟨G, 0, none⟩ = false) := by
          intro o w1 hg
          have hn1 : some G ≠ (Value.slice wa wl.length wc).ownBlock := fun e => by
            obtain ⟨cur, hc, _⟩ := own_block HS1.wts e.symm
            exact (HS1.far hc).2 rfl
          have hB : Below W0.heap.size W0 (W0.drew.alloc o) := (Below.refl W0.heap.size W0).drew.alloc (Nat.le_refl _) _
          refine ⟨?_, ?_⟩
          · rw [hg.cell_far _ (by simp; omega) hn1]; exact (hB.cell (p := ⟨G, 0, none⟩) g3).trans g0
          · rw [hg.frozen_far _ (by simp; omega) hn1]; exact (hB.frozen (p := ⟨G, 0, none⟩) g3).trans g2
        have HE : Hid (∀ o g cap' w1, w1.ownsRow w.heap.size 5 1 (.slice (some ⟨g, 0, none⟩) (wl.length + 1) cap') (wl.length + 1) (wl.map Bv ++ [.int .u8 (x : Nat)]) → (W0.drew.alloc o).grownBy w1 (Value.slice wa wl.length wc).ownBlock → ((Value.slice wa wl.length wc).ownBlock = some g ∨ g = W0.heap.size + 1) →
            EqS w (w1.setCell ⟨G, 0, none⟩ (.slice (some ⟨g, 0, none⟩) (wl.length + 1) cap')) w.heap.size G (.slice (some ⟨g, 0, none⟩) (wl.length + 1) cap') (.slice (some ⟨w.heap.size + 1, 0, none⟩) s.size cap) wl1 bl1) := fun o g cap' w1 h1 h2 h3 => by
          rw [HW1.out, HB1.out]; exact HS1.more h1 h2 h3
        clear HS1 HS HW HBy HW1 HB1 HX
        go_upto_region 7 with fail
        rw [← hW0]
        clear hW0 hB0
        go_region_law (first | (refine step_append_lies _ (by rfl) (.tmp 32) (.tmp 36) 34 (by rfl) w.heap.size 5 i0 (.int .u8 0) 1 1 Tryd.underlying34 hi hz0 hz1 hz2 rfl (by decide) (.slice wa wl.length wc) wl.length (wl.map Bv) (by rfl) (hrow _) ⟨W0.heap.size, 0, none⟩ 1 1 [.int .u8 (x : Nat)] (by rfl) (by rfl) (by intro j u hj; match j, hj with | 0, hj => simp at hj; subst hj; simp [Addr.add]) (by simp [Value.oneCell']) (by decide) (by unfold maxLen; omega) (by omega) (by simp; omega) (W0.heap.size + 1) (by simp) ?_; intro g cap' w1 hown1 hgrow hat hlt'; obtain ⟨q1, q2⟩ := HQ.out _ _ hgrow) | (go_simp; refine (hwt _).mono ?_; rintro e u ⟨rfl, rfl⟩))
        all_goals
          have HE2 : Hid (EqS _ _ _ _ _ _ _ _) := HE.out _ _ _ _ hown1 hgrow hat
          clear HE HQ hown1 hgrow q1 q2
          go_wp2_with fail
          go_roundw
          case rel => exact ⟨k + 1, _, by omega, by go_num, by rw [HEQ.out.1, HEQ.out.2]; exact HE2⟩
          case measure => simp only [intOf]; omega
    · obtain rfl : k = N := by omega
      obtain ⟨wa, wc, rfl⟩ := own_len HS.out.wts
      obtain ⟨g0, g1, g2, g3⟩ := HS.out.cells
      have r0 : wr.cell? ⟨w.heap.size, 0, none⟩ = some (.slice none 0 0) := by rw [cell_of_row _ _ 0 _ _ _ HS.out.res]; rfl
      have r1 : wr.cell? ⟨w.heap.size, 1, none⟩ = some (.slice none 0 0) := by rw [cell_of_row _ _ 1 _ _ _ HS.out.res]; rfl
      have f0 := frozen_of_row wr w.heap.size 0 _ _ HS.out.res
      have f1 := frozen_of_row wr w.heap.size 1 _ _ HS.out.res
      have HK : Hid (Kept (fun k => k ≠ w.heap.size) wr ((wr.setCell ⟨w.heap.size, 0, none⟩ (.slice wa (Fd.eqW (hasF l) j k).length wc)).setCell ⟨w.heap.size, 1, none⟩ (.slice (some ⟨w.heap.size + 1, 0, none⟩) s.size cap))) := ((Kept.refl _ _).setCell (by simp) _).setCell (by simp) _
      have HBl : Hid (Below w.heap.size w ((wr.setCell ⟨w.heap.size, 0, none⟩ (.slice wa (Fd.eqW (hasF l) j k).length wc)).setCell ⟨w.heap.size, 1, none⟩ (.slice (some ⟨w.heap.size + 1, 0, none⟩) s.size cap))) := (HS.out.bel.setCell (Nat.le_refl _) _).setCell (Nat.le_refl _) _
      have HF : Hid (∀ W, Kept (fun k => k ≠ w.heap.size) wr W → Ob W w.heap.size (.slice wa (Fd.eqW (hasF l) j k).length wc) (Fd.eqW (hasF l) j k) ∧ Ob W w.heap.size (.slice (some ⟨w.heap.size + 1, 0, none⟩) s.size cap) (Fd.eqB (hasF l) (bytF l) j (nb s) k) ∧ ∀ g, (Value.slice (some ⟨w.heap.size + 1, 0, none⟩) s.size cap).ownBlock = some g → (Value.slice wa (Fd.eqW (hasF l) j k).length wc).ownBlock ≠ some g) := by
        intro W hW
        refine ⟨(Ob.of_own HS.out.wts).kept hW fun g hg => ?_, HS.out.byt.kept hW fun g hg => ?_, HS.out.apart⟩
        · obtain ⟨cur, hc, _⟩ := own_block HS.out.wts hg
          exact (HS.out.far hc).1
        · simp [Value.ownBlock] at hg; omega
      generalize (Fd.eqW (hasF l) j k).length = wn at *
      have D1 := World.cell?_setCell_same (wr.setCell ⟨w.heap.size, 0, none⟩ (.slice wa wn wc)) ⟨w.heap.size, 1, none⟩ (.slice (some ⟨w.heap.size + 1, 0, none⟩) s.size cap) ((World.cell?_setCell_other _ _ _ _ (by simp)).trans r1)
      have D0 : ((wr.setCell ⟨w.heap.size, 0, none⟩ (.slice wa wn wc)).setCell ⟨w.heap.size, 1, none⟩ (.slice (some ⟨w.heap.size + 1, 0, none⟩) s.size cap)).cell? ⟨w.heap.size, 0, none⟩ = some (.slice wa wn wc) := (World.cell?_setCell_other _ _ _ _ (by simp)).trans (World.cell?_setCell_same _ _ _ r0)
      clear HS
      go_wp2_with fail
      generalize (wr.setCell ⟨w.heap.size, 0, none⟩ (.slice wa wn wc)).setCell ⟨w.heap.size, 1, none⟩ (.slice (some ⟨w.heap.size + 1, 0, none⟩) s.size cap) = WE at *
      obtain ⟨x1, x2, x3⟩ := HF.out WE HK.out
      refine bodyPost_ret (v := .agg #[.slice wa wn wc, .slice (some ⟨w.heap.size + 1, 0, none⟩) s.size cap]) ?_ rfl ⟨_, _, rfl, x1, x2, x3, HBl.out⟩
      simp [results, asAddr, go_sem, D0, D1]
end Go.Proofs.YtoeohnknpbdgdaaDoor
