/-
  What the methods multiply and addTimes of an equation do.
-/
import Derived.Test.YtoeohnknpbdgdaaDoorShThere
namespace Go.Proofs.YtoeohnknpbdgdaaDoor
open Go.RowKit
set_option maxRecDepth 4000

/-- a block of an equation's two is none of bytes -/
theorem ob_not_box {w : World} {base B : Nat} {v : Value} {l : List Nat} {c : Array Value} (h : Ob w base v l) (hb : w.heap[B]? = some (.cells c 52 (0, 0))) : v.ownBlock ≠ some B := by
  intro e
  obtain ⟨cur, z, hc, _⟩ := h.block e
  rw [hb] at hc
  simp at hc

set_option maxHeartbeats 1000000 in
theorem mulE_any (base : Nat) (wv bv : Value) (l m : List Nat) (f : Nat) (w : World) (hw : Ob w base wv l) (hb : Ob w base bv m) (ha : ∀ g, wv.ownBlock = some g → bv.ownBlock ≠ some g)
    (hl : l.length ≤ 4096) (hm : m.length ≤ 4096) (bl : Fd.Bs l) (bm : Fd.Bs m) (hf : f < 256) :
    Calls Tryd.prog 30 #[.agg #[wv, bv], .int .u8 f] w fun e w' => e = .returned (.tuple #[]) ∧ Ob w' base wv (Fd.mulL l f) ∧ Ob w' base bv (Fd.mulL m f) ∧ Kept (fun k => wv.ownBlock ≠ some k ∧ bv.ownBlock ≠ some k) w w' := by
  have hA : Below w.heap.size w (w.alloc (.cells #[wv, bv] 52)) := (Below.refl _ w).alloc (Nat.le_refl _) _
  have hx : (w.alloc (.cells #[wv, bv] 52)).heap[w.heap.size]? = some (.cells #[wv, bv] 52 (0, 0)) := heap_alloc_new w _
  have h1 := multiply_any base wv l f _ (hw.below hA) hl bl hf
  have HK1 : Hid (∀ W, Kept (fun k => wv.ownBlock ≠ some k) (w.alloc (.cells #[wv, bv] 52)) W → W.cell? ⟨w.heap.size, 1, none⟩ = some bv ∧ Ob W base bv m) := by
    intro W hW
    refine ⟨?_, (hb.below hA).kept hW fun g hg e => ha g e hg⟩
    have := hW.obj (k := w.heap.size) (ob_not_box (hw.below hA) hx) hx
    rw [cell_of_row _ _ 1 _ _ _ this]; rfl
  have HF : Hid (∀ W V, Kept (fun k => wv.ownBlock ≠ some k) (w.alloc (.cells #[wv, bv] 52)) W → Kept (fun k => bv.ownBlock ≠ some k) W V → Ob W base wv (Fd.mulL l f) → Ob V base wv (Fd.mulL l f) ∧ Kept (fun k => wv.ownBlock ≠ some k ∧ bv.ownBlock ≠ some k) w V) := by
    intro W V h1 h2 h3
    exact ⟨h3.kept h2 fun g hg => ha g hg, (Kept.of_below hA).trans ((h1.mono fun k hk => hk.1).trans (h2.mono fun k hk => hk.2))⟩
  obtain ⟨wa, wc, rfl⟩ := hw.len
  obtain ⟨ba, bc, rfl⟩ := hb.len
  have H2 := fun W (hW : Ob W base (.slice ba m.length bc) m) => multiply_any base (.slice ba m.length bc) m f W hW hm bm hf
  generalize l.length = n1 at *
  generalize m.length = n2 at *
  clear hw hb ha hx hA
  go_enter Tryd.func30, Tryd.ntmps30
  go_wp2_with fail
  refine h1.mono ?_
  rintro e W1 ⟨rfl, o1, k1⟩
  obtain ⟨c1, o2⟩ := HK1.out W1 k1
  have h2 := H2 W1 o2
  have HO1 : Hid (Ob W1 base (.slice wa n1 wc) (Fd.mulL l f)) := o1
  have HK : Hid (Kept _ _ _) := k1
  clear h1 H2 HK1 o2 o1 k1
  go_wp2_with fail
  refine h2.mono ?_
  rintro e W2 ⟨rfl, o2, k2⟩
  obtain ⟨y1, y2⟩ := HF.out W1 W2 HK.out k2 HO1.out
  have HY : Hid (Ob W2 base (.slice wa n1 wc) (Fd.mulL l f) ∧ Ob W2 base (.slice ba n2 bc) (Fd.mulL m f) ∧ Kept (fun k => (Value.slice wa n1 wc).ownBlock ≠ some k ∧ (Value.slice ba n2 bc).ownBlock ≠ some k) w W2) := ⟨y1, o2, y2⟩
  clear y1 y2 o2 k2 h2 HF HO1 HK c1
  go_wp2_with fail
  go_end0
  exact ⟨rfl, HY.out⟩

set_option maxHeartbeats 1000000 in
theorem addE_any (base : Nat) (wv bv uv dv : Value) (l m l2 m2 : List Nat) (f : Nat) (w : World) (hw : Ob w base wv l) (hb : Ob w base bv m) (hu : Ob w base uv l2) (hd : Ob w base dv m2)
    (ha : ∀ g, wv.ownBlock = some g → bv.ownBlock ≠ some g ∧ uv.ownBlock ≠ some g ∧ dv.ownBlock ≠ some g) (ha2 : ∀ g, bv.ownBlock = some g → dv.ownBlock ≠ some g)
    (hl : l.length ≤ 4096) (hm : m.length ≤ 4096) (hl2 : l2.length = l.length) (hm2 : m2.length = m.length) (bl : Fd.Bs l) (bm : Fd.Bs m) (bl2 : Fd.Bs l2) (bm2 : Fd.Bs m2) (hf : f < 256) :
    Calls Tryd.prog 31 #[.agg #[wv, bv], .agg #[uv, dv], .int .u8 f] w fun e w' => e = .returned (.tuple #[]) ∧ Ob w' base wv (Fd.addL l l2 f) ∧ Ob w' base bv (Fd.addL m m2 f) ∧ Kept (fun k => wv.ownBlock ≠ some k ∧ bv.ownBlock ≠ some k) w w' := by
  have hA0 : Below w.heap.size w (w.alloc (.cells #[wv, bv] 52)) := (Below.refl _ w).alloc (Nat.le_refl _) _
  obtain ⟨W0, hW0⟩ : ∃ W0, W0 = (w.alloc (.cells #[wv, bv] 52)).alloc (.cells #[uv, dv] 52) := ⟨_, rfl⟩
  have hA : Below w.heap.size w W0 := by rw [hW0]; exact hA0.alloc (by simp) _
  have hx : W0.heap[w.heap.size]? = some (.cells #[wv, bv] 52 (0, 0)) := by
    rw [hW0, heap_alloc_old _ _ (by simp)]; exact heap_alloc_new w _
  have hy : W0.heap[w.heap.size + 1]? = some (.cells #[uv, dv] 52 (0, 0)) := by
    have := heap_alloc_new (w.alloc (.cells #[wv, bv] 52)) (.cells #[uv, dv] 52)
    rw [← hW0] at this
    simpa using this
  have h1 := addTimes_any base base wv uv l l2 f W0 (hw.below hA) (hu.below hA) hl2 (fun g hg => (ha g hg).2.1) hl bl bl2 hf
  have e1 : W0.cell? ⟨w.heap.size, 0, none⟩ = some wv := by rw [cell_of_row _ _ 0 _ _ _ hx]; rfl
  have e2 : W0.cell? ⟨w.heap.size + 1, 0, none⟩ = some uv := by rw [cell_of_row _ _ 0 _ _ _ hy]; rfl
  have HK1 : Hid (∀ W, Kept (fun k => wv.ownBlock ≠ some k) W0 W → W.cell? ⟨w.heap.size, 1, none⟩ = some bv ∧ W.cell? ⟨w.heap.size + 1, 1, none⟩ = some dv ∧ Ob W base bv m ∧ Ob W base dv m2) := by
    intro W hW
    refine ⟨?_, ?_, (hb.below hA).kept hW fun g hg e => (ha g e).1 hg, (hd.below hA).kept hW fun g hg e => (ha g e).2.2 hg⟩
    · have := hW.obj (k := w.heap.size) (ob_not_box (hw.below hA) hx) hx
      rw [cell_of_row _ _ 1 _ _ _ this]; rfl
    · have := hW.obj (k := w.heap.size + 1) (ob_not_box (hw.below hA) hy) hy
      rw [cell_of_row _ _ 1 _ _ _ this]; rfl
  have HF : Hid (∀ W V, Kept (fun k => wv.ownBlock ≠ some k) W0 W → Kept (fun k => bv.ownBlock ≠ some k) W V → Ob W base wv (Fd.addL l l2 f) → Ob V base wv (Fd.addL l l2 f) ∧ Kept (fun k => wv.ownBlock ≠ some k ∧ bv.ownBlock ≠ some k) w V) := by
    intro W V h1 h2 h3
    exact ⟨h3.kept h2 fun g hg => (ha g hg).1, (Kept.of_below hA).trans ((h1.mono fun k hk => hk.1).trans (h2.mono fun k hk => hk.2))⟩
  have H2 := fun W (hW : Ob W base bv m) (hW2 : Ob W base dv m2) => addTimes_any base base bv dv m m2 f W hW hW2 hm2 ha2 hm bm bm2 hf
  obtain ⟨wa, wc, rfl⟩ := hw.len
  obtain ⟨ba, bc, rfl⟩ := hb.len
  obtain ⟨ua, uc, rfl⟩ := hu.len
  obtain ⟨da, dc, rfl⟩ := hd.len
  clear hw hb ha hx hA hy hu hd ha2 hm2 hl2 hA0
  generalize l.length = n1 at *
  generalize m.length = n2 at *
  generalize l2.length = n3 at *
  generalize m2.length = n4 at *
  go_enter Tryd.func31, Tryd.ntmps31
  go_upto_region 1 with fail
  rw [← hW0]
  clear hW0
  go_wp2_with fail
  refine h1.mono ?_
  rintro e W1 ⟨rfl, o1, k1⟩
  obtain ⟨c1, c2, o2, o3⟩ := HK1.out W1 k1
  have h2 := H2 W1 o2 o3
  have HO1 : Hid (Ob W1 base (.slice wa n1 wc) (Fd.addL l l2 f)) := o1
  have HK : Hid (Kept _ _ _) := k1
  clear h1 H2 HK1 o2 o1 k1 o3
  go_wp2_with fail
  refine h2.mono ?_
  rintro e W2 ⟨rfl, o2, k2⟩
  obtain ⟨y1, y2⟩ := HF.out W1 W2 HK.out k2 HO1.out
  have HY : Hid (Ob W2 base (.slice wa n1 wc) (Fd.addL l l2 f) ∧ Ob W2 base (.slice ba n2 bc) (Fd.addL m m2 f) ∧ Kept (fun k => (Value.slice wa n1 wc).ownBlock ≠ some k ∧ (Value.slice ba n2 bc).ownBlock ≠ some k) w W2) := ⟨y1, o2, y2⟩
  clear y1 y2 o2 k2 h2 HF HO1 HK c1 c2
  go_wp2_with fail
  go_end0
  exact ⟨rfl, HY.out⟩
end Go.Proofs.YtoeohnknpbdgdaaDoor
