/-
  What leastAt of package huff answers.
  What take of package huff does.
  What put of package huff does.
  What groupsOf of package huff answers.
  What slices.Grow (of nil) and slices.Concat answer, at numbers.
  What join of package huff answers.
  What Lengths of package huff answers.
  What pressCoded of package press answers.
  What Press of package press answers.
-/
import Derived.Test.YtkhejelmjkpgfaaG5
import Derived.Test.YtkhejelmjkpgfaaG1
import Derived.BigQuiet
import Derived.Deep.AppendLies
import Derived.Deep.MidRow
import Derived.Deep.RegionLaw
import Derived.Deep.Cut
import Derived.Test.YtkhejelmjkpgfaaG3
import Derived.Lib.AppendZerosOnto
import Derived.Deep.RegionHeld3

namespace Go.Proofs.Ytkhejelmjkpgfaa
open Go.RowKit
set_option maxRecDepth 4000

namespace Hf
/-- the first one, when q kids have been looked at -/
def lq (l : List G) (p : Nat) : Nat → Nat
  | 0 => p
  | 1 => one l p
  | _ => least l p
theorem lq_next (l : List G) (p q : Nat) (hq : q < 2) : lq l p (q + 1) = if 2 * p + 1 + q < l.length ∧ ltG (nth l (2 * p + 1 + q)) (nth l (lq l p q)) = true then 2 * p + 1 + q else lq l p q := by
  match q, hq with
  | 0, _ => rfl
  | 1, _ => rfl
theorem lq_le (l : List G) (p q : Nat) (hq : q < 2) : lq l p q < 2 * p + 1 + q := by
  match q, hq with
  | 0, _ => show p < _; omega
  | 1, _ =>
    show one l p < _
    unfold one
    split <;> omega
end Hf

set_option maxHeartbeats 4000000 in
theorem leastAt_any (base Hb : Nat) (v : Value) (l : List Hf.G) (w : World) (h : Heap w base Hb v l) (p : Nat) (hp : p ≤ 256) (hl : l.length ≤ 256) :
    Calls Try.prog 131 #[.pointer (some ⟨Hb, 0, none⟩), .int .i64 p] w fun e w' => e = .returned (.int .i64 (Hf.least l p)) ∧ Below w.heap.size w w' := by
  obtain ⟨a, c, rfl⟩ := h.slice
  go_enter Try.func131, Try.ntmps131
  go_wp2_with fail
  go_loopw [5, 6] (fun x y wr => ∃ q : Nat, q ≤ 2 ∧ x = .int .i64 (Hf.lq l p q : Nat) ∧ y = .int .i64 ((2 * p + 1 + q : Nat) : Int) ∧ Below w.heap.size w wr) (fun _ y _ => 2 * p + 3 - (intOf y).toNat)
  case atStart => exact ⟨0, by omega, rfl, by go_num, Below.refl _ _⟩
  case round =>
    obtain ⟨q, hq, rfl, rfl, hbel⟩ := hrel
    by_cases hlt : q < 2
    · have HN : Hid (_) := Hf.lq_next l p q hlt
      have hm := Hf.lq_le l p q hlt
      have hh := h.keep hbel
      generalize Hf.lq l p q = m at *
      obtain ⟨k, hk⟩ : ∃ k, k = 2 * p + 1 + q := ⟨_, rfl⟩
      rw [← hk] at HN hm ⊢
      have hk2 : k ≤ 2 * p + 2 := by omega
      have hk1 : 2 * p + 1 ≤ k := by omega
      have HK : Hid (k = 2 * p + 1 + q) := hk
      clear hk
      obtain ⟨c0, c1, _⟩ := hh.cells
      have x0 : ∀ X : Since wr.heap.size wr, X.val.cell? ⟨Hb, 0, none⟩ = some fnV := fun X => (X.property.cell (p := ⟨Hb, 0, none⟩) (Array.getElem?_eq_some_iff.1 hh.box).1).trans c0
      have x1 : ∀ X : Since wr.heap.size wr, X.val.cell? ⟨Hb, 1, none⟩ = some (.slice a l.length c) := fun X => (X.property.cell (p := ⟨Hb, 1, none⟩) (Array.getElem?_eq_some_iff.1 hh.box).1).trans c1
      have hne : Nonempty (Since wr.heap.size wr) := ⟨⟨wr, Below.refl _ _⟩⟩
      clear c0 c1
      unfold fnV at x0
      by_cases hkl : k < l.length
      · obtain ⟨g, c', hv⟩ := hh.slice1 (by omega)
        obtain ⟨rfl, rfl⟩ : a = some ⟨g, 0, none⟩ ∧ c = c' := by simpa using hv
        clear hv
        obtain ⟨a0, a1, a2, _, _, _, hg⟩ := hh.at_ rfl k hkl
        obtain ⟨b0, b1, b2, _, _, _, _⟩ := hh.at_ rfl m (by omega)
        have hf := first_any (Hf.nth l k) (Hf.nth l m)
        generalize Hf.nth l k = x at *
        generalize Hf.nth l m = y at *
        have y0 : ∀ X : Since wr.heap.size wr, X.val.cell? ⟨g, k * 3, none⟩ = some (.int .i64 x.wt) := fun X => (X.property.cell (p := ⟨g, k * 3, none⟩) hg).trans a0
        have y1 : ∀ X : Since wr.heap.size wr, X.val.cell? ⟨g, k * 3 + 1, none⟩ = some (.int .i64 x.low) := fun X => (X.property.cell (p := ⟨g, k * 3 + 1, none⟩) hg).trans a1
        have y2 : ∀ X : Since wr.heap.size wr, X.val.cell? ⟨g, k * 3 + 2, none⟩ = some x.sv := fun X => (X.property.cell (p := ⟨g, k * 3 + 2, none⟩) hg).trans a2
        have z0 : ∀ X : Since wr.heap.size wr, X.val.cell? ⟨g, m * 3, none⟩ = some (.int .i64 y.wt) := fun X => (X.property.cell (p := ⟨g, m * 3, none⟩) hg).trans b0
        have z1 : ∀ X : Since wr.heap.size wr, X.val.cell? ⟨g, m * 3 + 1, none⟩ = some (.int .i64 y.low) := fun X => (X.property.cell (p := ⟨g, m * 3 + 1, none⟩) hg).trans b1
        have z2 : ∀ X : Since wr.heap.size wr, X.val.cell? ⟨g, m * 3 + 2, none⟩ = some y.sv := fun X => (X.property.cell (p := ⟨g, m * 3 + 2, none⟩) hg).trans b2
        clear a0 a1 a2 b0 b1 b2 hh h
        have hml : m < l.length := by omega
        have hgd : decide ((k : Int) < (l.length : Int)) = true := decide_eq_true (by omega)
        unfold gV at hf
        go_wp2_with fail
        refine wp_region_since (B := wr.heap.size) (W0 := wr) (by kernel_rfl) (by kernel_rfl) (Below.refl _ _) ?_
        cases hb : Hf.ltG x y with
        | true =>
          rw [hb] at hf
          have HL : Hid (Hf.lq l p (q + 1) = k) := HN.out.trans (if_pos ⟨hkl, hb⟩)
          clear hb HN
          repeat (go_big_quiet_step (fail))
          go_big_quiet_step (exact quiet_since _ (hf _))
          repeat (go_big_quiet_step (fail))
          refine wpQuiet_nil ?_
          rintro w7 ⟨U, rfl⟩
          have HB3 : Hid (Below w.heap.size w U.val) := hbel.trans (U.property.mono hbel.size)
          generalize U.val = w7 at *
          clear x0 x1 y0 y1 y2 z0 z1 z2 hne hbel hf
          go_wp2_with fail
          go_roundw
          case rel => exact ⟨q + 1, by omega, by rw [HL.out], int_eq (by have := HK.out; omega), HB3.out⟩
          case measure => simp only [intOf]; omega
        | false =>
          rw [hb] at hf
          have HL : Hid (Hf.lq l p (q + 1) = m) := HN.out.trans (if_neg fun h => by rw [hb] at h; exact absurd h.2 (by simp))
          clear hb HN
          repeat (go_big_quiet_step (fail))
          go_big_quiet_step (exact quiet_since _ (hf _))
          repeat (go_big_quiet_step (fail))
          refine wpQuiet_nil ?_
          rintro w7 ⟨U, rfl⟩
          have HB3 : Hid (Below w.heap.size w U.val) := hbel.trans (U.property.mono hbel.size)
          generalize U.val = w7 at *
          clear x0 x1 y0 y1 y2 z0 z1 z2 hne hbel hf
          go_wp2_with fail
          go_roundw
          case rel => exact ⟨q + 1, by omega, by rw [HL.out], int_eq (by have := HK.out; omega), HB3.out⟩
          case measure => simp only [intOf]; omega
      · have hgd : decide ((k : Int) < (l.length : Int)) = false := decide_eq_false (by omega)
        have hgd' : decide (k < l.length) = false := decide_eq_false (by omega)
        have HL : Hid (Hf.lq l p (q + 1) = m) := HN.out.trans (if_neg fun h => hkl h.1)
        clear HN hkl hh
        go_wp2_with fail
        refine wp_region_since (B := wr.heap.size) (W0 := wr) (by kernel_rfl) (by kernel_rfl) (Below.refl _ _) ?_
        repeat (go_big_quiet_step (fail))
        refine wpQuiet_nil ?_
        rintro w7 ⟨U, rfl⟩
        have HB3 : Hid (Below w.heap.size w U.val) := hbel.trans (U.property.mono hbel.size)
        generalize U.val = w7 at *
        clear x0 x1 hne hbel
        go_wp2_with fail
        go_roundw
        case rel => exact ⟨q + 1, by omega, by rw [HL.out], int_eq (by have := HK.out; omega), HB3.out⟩
        case measure => simp only [intOf]; omega
    · obtain rfl : q = 2 := by omega
      go_wp2_with fail
      go_ret
      exact ⟨rfl, hbel⟩
end Go.Proofs.Ytkhejelmjkpgfaa

namespace Go.Proofs.Ytkhejelmjkpgfaa
open Go.RowKit
set_option maxRecDepth 4000

/-- a heap of signs in a block of its own -/
structure GBox (W : World) (G : Nat) (x : Hf.G) : Prop where
  c0 : W.cell? ⟨G, 0, none⟩ = some (.int .i64 x.wt)
  c1 : W.cell? ⟨G, 1, none⟩ = some (.int .i64 x.low)
  c2 : W.cell? ⟨G, 2, none⟩ = some x.sv
  f0 : W.frozen? ⟨G, 0, none⟩ = false
  f1 : W.frozen? ⟨G, 1, none⟩ = false
  f2 : W.frozen? ⟨G, 2, none⟩ = false
  lt : G < W.heap.size
theorem GBox.new (w : World) (x : Hf.G) : GBox (w.alloc (.cells #[.int .i64 x.wt, .int .i64 x.low, x.sv] 145)) w.heap.size x :=
  ⟨by simp, by simp, by simp, by simp, by simp, by simp, by simp⟩
theorem GBox.kept {p : Nat → Prop} {W W' : World} {G : Nat} {x : Hf.G} (h : GBox W G x) (hk : Kept p W W') (hp : p G) : GBox W' G x := by
  have e := hk.block G h.lt hp
  refine ⟨?_, ?_, ?_, ?_, ?_, ?_, Nat.lt_of_lt_of_le h.lt hk.size⟩
  · rw [World.cell?_of_block (a := ⟨G, 0, none⟩) e]; exact h.c0
  · rw [World.cell?_of_block (a := ⟨G, 1, none⟩) e]; exact h.c1
  · rw [World.cell?_of_block (a := ⟨G, 2, none⟩) e]; exact h.c2
  · rw [World.frozen?_of_block (a := ⟨G, 0, none⟩) e]; exact h.f0
  · rw [World.frozen?_of_block (a := ⟨G, 1, none⟩) e]; exact h.f1
  · rw [World.frozen?_of_block (a := ⟨G, 2, none⟩) e]; exact h.f2
theorem GBox.below {W W' : World} {G B : Nat} {x : Hf.G} (h : GBox W G x) (hb : Below B W W') (hg : G < B) : GBox W' G x :=
  h.kept (p := fun k => k < B) ⟨hb.os, hb.tape, hb.output, hb.size, fun k _ hk => hb.block k hk⟩ hg
theorem GBox.store {W : World} {G : Nat} {x : Hf.G} (h : GBox W G x) (y : Hf.G) : GBox (((W.setCell ⟨G, 0, none⟩ (.int .i64 y.wt)).setCell ⟨G, 1, none⟩ (.int .i64 y.low)).setCell ⟨G, 2, none⟩ y.sv) G y := by
  have e0 := World.cell?_setCell_same W ⟨G, 0, none⟩ (.int .i64 y.wt) h.c0
  refine ⟨?_, ?_, ?_, by simpa using h.f0, by simpa using h.f1, by simpa using h.f2, by simpa using h.lt⟩
  · rw [World.cell?_setCell_other _ _ _ _ (by simp), World.cell?_setCell_other _ _ _ _ (by simp)]
    exact e0
  · rw [World.cell?_setCell_other _ _ _ _ (by simp)]
    refine World.cell?_setCell_same _ _ _ (u := .int .i64 x.low) ?_
    rw [World.cell?_setCell_other _ _ _ _ (by simp)]
    exact h.c1
  · refine World.cell?_setCell_same _ _ _ (u := x.sv) ?_
    rw [World.cell?_setCell_other _ _ _ _ (by simp), World.cell?_setCell_other _ _ _ _ (by simp)]
    exact h.c2
theorem Kept.setNew {p : Nat → Prop} {A B : World} (h : Kept p A B) {a : Addr} (ha : A.heap.size ≤ a.block) (v : Value) : Kept p A (B.setCell a v) :=
  ⟨h.os, h.tape, h.output, by simpa using h.size, fun k hk hp => (Below.heap_setCell _ _ _ _ (by omega)).trans (h.block k hk hp)⟩
theorem Heap.lt {W : World} {base Hb : Nat} {v : Value} {l : List Hf.G} (h : Heap W base Hb v l) : Hb < W.heap.size := (Array.getElem?_eq_some_iff.1 h.box).1
theorem Heap.kept {p : Nat → Prop} {W W' : World} {base Hb : Nat} {v : Value} {l : List Hf.G} (h : Heap W base Hb v l) (hk : Kept p W W') (hp : ∀ k, base ≤ k → k < W.heap.size → p k) : Heap W' base Hb v l :=
  ⟨(hk.block _ h.lt (hp _ h.old h.lt)).trans h.box, h.old,
   own_kept h.row hk fun g hg => by obtain ⟨cur, hc, hb⟩ := own_block h.row hg; exact hp g hb (Array.getElem?_eq_some_iff.1 hc).1,
   fun x hx => own_kept (h.signs x hx) hk fun g hg => by obtain ⟨cur, hc, hb⟩ := own_block (h.signs x hx) hg; exact hp g hb (Array.getElem?_eq_some_iff.1 hc).1⟩
theorem Heap.kept' {p : Nat → Prop} {W W' : World} {base Hb : Nat} {v : Value} {l : List Hf.G} (h : Heap W base Hb v l) (hk : Kept p W W') (hH : p Hb) (hv : ∀ g, v.ownBlock = some g → p g) (hs : ∀ y ∈ l, ∀ b, y.sv.ownBlock = some b → p b) : Heap W' base Hb v l :=
  ⟨(hk.block _ h.lt hH).trans h.box, h.old, own_kept h.row hk hv, fun x hx => own_kept (h.signs x hx) hk (hs x hx)⟩
theorem Heap.cap {W : World} {base Hb g n c : Nat} {l : List Hf.G} (h : Heap W base Hb (.slice (some ⟨g, 0, none⟩) n c) l) : n ≤ c := by
  rcases h.row.2 with ⟨h1, _⟩ | ⟨g', cap, cur, h1, _, _, h2, _⟩
  · simp at h1
  · simp at h1
    omega
/-- the last one off -/
theorem Heap.cut {W : World} {base Hb g n c : Nat} {l : List Hf.G} (h : Heap W base Hb (.slice (some ⟨g, 0, none⟩) n c) l) (hn : n = l.length) :
    Heap (W.setCell ⟨Hb, 1, none⟩ (.slice (some ⟨g, 0, none⟩) (n - 1) c)) base Hb (.slice (some ⟨g, 0, none⟩) (n - 1) c) l.dropLast := by
  subst hn
  have hk : Kept (fun k => k ≠ Hb) W (W.setCell ⟨Hb, 1, none⟩ (.slice (some ⟨g, 0, none⟩) (l.length - 1) c)) := (Kept.refl _ W).setCell (by simp) _
  have hg : g ≠ Hb := fun e => h.apart (by rw [← e]; rfl)
  refine ⟨?_, h.old, ?_, fun y hy => ?_⟩
  · rw [heap_setCell_same _ _ _ _ _ _ h.box]
    rfl
  · rcases h.row.2 with ⟨h1, _⟩ | ⟨g', cap, cur, h1, h2, h3, h4, h5, h6, h7⟩
    · simp at h1
    · simp at h1
      obtain ⟨rfl, rfl⟩ := h1
      refine ⟨by rw [rowG_length, List.length_dropLast]; omega, .inr ⟨g, c, cur, by rw [List.length_dropLast], h2, (hk.block g (Array.getElem?_eq_some_iff.1 h3).1 hg).trans h3, by rw [List.length_dropLast]; omega, h5, h6, ?_⟩⟩
      have e : rowG l.dropLast = (rowG l).take (l.dropLast.length * 3) := by
        by_cases hl : l = []
        · subst hl; rfl
        · have e1 : rowG l = rowG l.dropLast ++ gC (l.getLast hl) := by rw [← rowG_more, List.dropLast_concat_getLast]
          rw [e1, List.take_left' (by rw [rowG_length]; omega)]
      rw [e, ← h7, List.take_take, Nat.min_eq_left (by rw [List.length_dropLast]; omega)]
  · have hs := h.signs y (List.dropLast_subset _ hy)
    exact own_kept hs hk fun b hb => (h.sign_apart hs b hb).1

set_option maxHeartbeats 4000000 in
theorem take_any (base Hb : Nat) (v : Value) (l : List Hf.G) (w : World) (h : Heap w base Hb v l) (h0 : 0 < l.length) (hl : l.length ≤ 256) (ho : Hf.Ord l) :
    Calls Try.prog 106 #[.pointer (some ⟨Hb, 0, none⟩)] w fun e w' => e = .returned (gV (Hf.nth l 0)) ∧ ∃ v' l', l.Perm (Hf.nth l 0 :: l') ∧ Hf.Ord l' ∧ v'.ownBlock = v.ownBlock ∧ Heap w' base Hb v' l' ∧ Stays Hb v w w' := by
  obtain ⟨g, c, rfl⟩ := h.slice1 h0
  obtain ⟨n, hn⟩ : ∃ n, l.length = n + 1 := ⟨l.length - 1, by omega⟩
  have HP : Hid (l.Perm (Hf.nth l 0 :: (Hf.swp l 0 n).dropLast)) := by have := Hf.start_perm h0; rw [show l.length - 1 = n from by omega] at this; exact this
  have HD : Hid (Hf.Dn (Hf.swp l 0 n).dropLast 0) := by have := Hf.Dn.start ho; rw [show l.length - 1 = n from by omega] at this; exact this
  have hw := h.lt
  have HSB : Hid (∀ y ∈ (Hf.swp l 0 n).dropLast, ∀ b, y.sv.ownBlock = some b → b < w.heap.size) := fun y hy b hb => by
    obtain ⟨cur, hc, _⟩ := own_block (h.signs y ((Hf.swp_perm h0 (by omega)).mem_iff.1 (List.dropLast_subset _ hy))) hb
    exact (Array.getElem?_eq_some_iff.1 hc).1
  have HL : Hid (((Hf.swp l 0 n).dropLast).length = n) := by show _ = _; rw [List.length_dropLast, Hf.swp_length]; omega
  have hcap : n + 1 ≤ c := by have := h.cap; omega
  obtain ⟨c0, c1, f1⟩ := h.cells
  obtain ⟨a0, a1, a2, _, _, _, hg⟩ := h.at_ rfl 0 h0
  have hx := own_slice (h.signs _ (Hf.nth_mem h0))
  obtain ⟨x, hxe⟩ : ∃ x, Hf.nth l 0 = x := ⟨_, rfl⟩
  rw [hxe] at a0 a1 a2 hx HP ⊢
  have HX : Hid (Hf.nth l 0 = x) := hxe
  clear hxe
  have ex : ∃ xw xl xs xa xm xc, x = (⟨xw, xl, xs, .slice xa xm xc⟩ : Hf.G) := by
    obtain ⟨xa, xm, xc, e⟩ := hx
    exact ⟨x.wt, x.low, x.sg, xa, xm, xc, by rw [← e]⟩
  obtain ⟨xw, xl, xs, xa, xm, xc, rfl⟩ := ex
  clear hx
  simp only [Nat.zero_mul, Nat.zero_add] at a0 a1 a2
  rw [hn] at h c1 ⊢
  obtain ⟨W2, hW2⟩ : ∃ W2, W2 = (w.alloc (.cells #[.int .i64 0, .int .i64 0, .slice none 0 0] 145)).alloc (.cells #[.int .i64 xw, .int .i64 xl, .slice xa xm xc] 145) := ⟨_, rfl⟩
  have hb2 : Below w.heap.size w W2 := by rw [hW2]; exact ((Below.refl _ w).alloc (Nat.le_refl _) _).alloc (by simp) _
  have X1 : Hid (GBox W2 w.heap.size Hf.G.z) := by
    rw [hW2]; exact (GBox.new w Hf.G.z).below ((Below.refl _ _).alloc (Nat.le_refl _) _) (by simp)
  have X2 : Hid (GBox W2 (w.heap.size + 1) ⟨xw, xl, xs, .slice xa xm xc⟩) := by
    rw [hW2]
    have := GBox.new (w.alloc (.cells #[.int .i64 0, .int .i64 0, .slice none 0 0] 145)) ⟨xw, xl, xs, .slice xa xm xc⟩
    rw [World.size_alloc] at this
    exact this
  have hs2 : W2.heap.size = w.heap.size + 2 := by rw [hW2]; simp
  have HS2 : Hid (W2.heap.size = w.heap.size + 2) := hs2
  have hsw := swap_any base Hb (.slice (some ⟨g, 0, none⟩) (n + 1) c) l W2 (h.keep hb2) 0 n h0 (by omega) hl
  rw [show ((0 : Nat) : Int) = 0 from rfl] at hsw
  have HK2 : Hid (Stays Hb (.slice (some ⟨g, 0, none⟩) (n + 1) c) w W2) := Kept.of_below hb2
  have HLn : Hid (l.length = n + 1) := hn
  clear h hb2 hs2
  go_enter Try.func106, Try.ntmps106
  go_wp2_with fail
  rw [← hW2]
  refine hsw.mono ?_
  rintro e w3 ⟨rfl, h3, k3⟩
  clear hsw hW2 a0 a1 a2 c0 c1 f1 hn
  obtain ⟨c0, c1, f1⟩ := h3.cells
  have Y1 : Hid (GBox w3 w.heap.size Hf.G.z) := X1.out.kept k3 ⟨by omega, by simp [Value.ownBlock]; omega⟩
  have Y2 : Hid (GBox w3 (w.heap.size + 1) ⟨xw, xl, xs, .slice xa xm xc⟩) := X2.out.kept k3 ⟨by omega, by simp [Value.ownBlock]; omega⟩
  have K3 : Hid (Stays Hb (.slice (some ⟨g, 0, none⟩) (n + 1) c) w w3) := HK2.out.trans k3
  have H3 : Hid (Heap w3 base Hb (.slice (some ⟨g, 0, none⟩) (n + 1) c) (Hf.swp l 0 n)) := h3
  clear X1 X2 HK2 h3 k3 HS2
  obtain ⟨W4, hW4⟩ : ∃ W4, W4 = w3.setCell ⟨Hb, 1, none⟩ (.slice (some ⟨g, 0, none⟩) n c) := ⟨_, rfl⟩
  have hk4 : Kept (fun k => k ≠ Hb) w3 W4 := by rw [hW4]; exact (Kept.refl _ _).setCell (by simp) _
  have Z1 : Hid (GBox W4 w.heap.size Hf.G.z) := Y1.out.kept hk4 (by omega)
  have Z2 : Hid (GBox W4 (w.heap.size + 1) ⟨xw, xl, xs, .slice xa xm xc⟩) := Y2.out.kept hk4 (by omega)
  have K4 : Hid (Stays Hb (.slice (some ⟨g, 0, none⟩) (n + 1) c) w W4) := K3.out.trans (hk4.mono fun k hk => hk.1)
  have h4 : Heap W4 base Hb (.slice (some ⟨g, 0, none⟩) n c) (Hf.swp l 0 n).dropLast := by
    rw [hW4]; exact H3.out.cut (by rw [Hf.swp_length]; exact HLn.out.symm)
  have hla := leastAt_any base Hb (.slice (some ⟨g, 0, none⟩) n c) (Hf.swp l 0 n).dropLast W4 h4 0 (by omega) (by rw [List.length_dropLast, Hf.swp_length]; omega)
  rw [show ((0 : Nat) : Int) = 0 from rfl] at hla
  have H4 : Hid (Heap W4 base Hb (.slice (some ⟨g, 0, none⟩) n c) (Hf.swp l 0 n).dropLast) := h4
  clear Y1 Y2 K3 H3 h4 hk4
  go_wp2_with fail
  rw [← hW4]
  refine hla.mono ?_
  rintro e w5 ⟨rfl, hb5⟩
  clear hla hW4 c0 c1 f1
  obtain ⟨l4, hl4⟩ : ∃ l4, (Hf.swp l 0 n).dropLast = l4 := ⟨_, rfl⟩
  rw [hl4] at HP HD HL H4 HSB
  have Z1' : Hid (GBox w5 w.heap.size Hf.G.z) := Z1.out.below hb5 Z1.out.lt
  have Z2' : Hid (GBox w5 (w.heap.size + 1) ⟨xw, xl, xs, .slice xa xm xc⟩) := Z2.out.below hb5 Z2.out.lt
  have K5 : Hid (Stays Hb (.slice (some ⟨g, 0, none⟩) (n + 1) c) w w5) := K4.out.trans (Kept.of_below hb5)
  have H5 : Hid (Heap w5 base Hb (.slice (some ⟨g, 0, none⟩) n c) l4) := H4.out.keep hb5
  have hn256 : n ≤ 255 := by have := HLn.out; omega
  rw [hl4]
  clear Z1 Z2 K4 H4 hb5 hl4 hl h0
  go_wp2_with fail
  go_loopw [5, 6] (fun x y wr => ∃ (lr : List Hf.G) (p : Nat), x = .int .i64 p ∧ y = .int .i64 (Hf.least lr p : Nat) ∧ p ≤ n ∧ Hid (p < lr.length ∨ lr = []) ∧ Hid (lr.Perm l4) ∧ Hid (Hf.Dn lr p) ∧ Hid (Heap wr base Hb (.slice (some ⟨g, 0, none⟩) n c) lr) ∧
    Hid (GBox wr w.heap.size Hf.G.z) ∧ Hid (GBox wr (w.heap.size + 1) ⟨xw, xl, xs, .slice xa xm xc⟩) ∧ Hid (Stays Hb (.slice (some ⟨g, 0, none⟩) (n + 1) c) w wr)) (fun x _ _ => n - (intOf x).toNat)
  case atStart => exact ⟨l4, 0, rfl, rfl, by omega, by by_cases e : l4 = []; · exact .inr e
                                                       · exact .inl (List.length_pos_iff.2 e), List.Perm.refl _, HD, H5, Z1', Z2', K5⟩
  case round =>
    obtain ⟨lr, p, rfl, rfl, hpn, hpl, hpm, hdn, hhp, x1, x2, hks⟩ := hrel
    have hlen : lr.length = n := hpm.out.length_eq.trans HL.out
    by_cases hdone : Hf.least lr p = p
    · have HO : Hid (Hf.Ord lr) := hdn.out.done hdone
      rw [hdone]
      have d0 := x1.out.c0
      have d1 := x1.out.c1
      have d2 := x1.out.c2
      have g0 := x1.out.f0
      have g1 := x1.out.f1
      have g2 := x1.out.f2
      have c0 := x2.out.c0
      have c1 := x2.out.c1
      have c2 := x2.out.c2
      dsimp only at c0 c1 c2
      clear hdone hlen
      go_wp2_with fail
      refine bodyPost_ret (v := gV ⟨xw, xl, xs, .slice xa xm xc⟩) ?_ rfl ⟨rfl, .slice (some ⟨g, 0, none⟩) n c, lr, HP.out.trans (hpm.out.symm.cons _), HO.out, rfl, ?_, ?_⟩
      · simp [results, asAddr, go_sem, d0, d1, d2, gV]
      · have hk : Kept (fun k => k ≠ w.heap.size) wr (((wr.setCell ⟨w.heap.size, 0, none⟩ (.int .i64 xw)).setCell ⟨w.heap.size, 1, none⟩ (.int .i64 xl)).setCell ⟨w.heap.size, 2, none⟩ (.slice xa xm xc)) := (((Kept.refl _ wr).setCell (by simp) _).setCell (by simp) _).setCell (by simp) _
        exact hhp.out.kept' hk (by omega) (fun b hb => by simp [Value.ownBlock] at hb; omega) (fun y hy b hb => by have := HSB.out y (hpm.out.mem_iff.1 hy) b hb; omega)
      · exact ((hks.out.setNew (by simp) _).setNew (by simp) _).setNew (by simp) _
    · have hst := hdn.out.step (m := Hf.least lr p) (by
        rcases hpl.out with h | h
        · exact h
        · exact absurd (by rw [h]; simp [Hf.least, Hf.one]) hdone) rfl hdone
      have hne : ((Hf.least lr p : Nat) : Int) ≠ (p : Int) := by omega
      generalize Hf.least lr p = m at *
      obtain ⟨hdn', hpm', hml⟩ := hst
      have hsw := swap_any base Hb (.slice (some ⟨g, 0, none⟩) n c) lr wr hhp.out p m (by omega) hml (by omega)
      have HDN : Hid (Hf.Dn (Hf.swp lr p m) m) := hdn'
      have HPM : Hid ((Hf.swp lr p m).Perm l4) := (Hf.swp_perm (by omega) hml).trans hpm.out
      have HSL : Hid ((Hf.swp lr p m).length = lr.length) := Hf.swp_length _ _ _
      clear hdn hdn' hpm hpl hdone hhp
      go_wp2_with fail
      refine hsw.mono ?_
      rintro e w6 ⟨rfl, h6, k6⟩
      clear hsw
      have hla := leastAt_any base Hb (.slice (some ⟨g, 0, none⟩) n c) (Hf.swp lr p m) w6 h6 m (by omega) (by have := HSL.out; omega)
      have H6 : Hid (Heap w6 base Hb (.slice (some ⟨g, 0, none⟩) n c) (Hf.swp lr p m)) := h6
      have Y1 : Hid (GBox w6 w.heap.size Hf.G.z) := x1.out.kept k6 ⟨by omega, by simp [Value.ownBlock]; omega⟩
      have Y2 : Hid (GBox w6 (w.heap.size + 1) ⟨xw, xl, xs, .slice xa xm xc⟩) := x2.out.kept k6 ⟨by omega, by simp [Value.ownBlock]; omega⟩
      have K6 : Hid (Stays Hb (.slice (some ⟨g, 0, none⟩) (n + 1) c) w w6) := hks.out.trans k6
      clear h6 k6 x1 x2 hks
      go_wp2_with fail
      refine hla.mono ?_
      rintro e w7 ⟨rfl, hb7⟩
      clear hla
      have H7 : Hid (Heap w7 base Hb (.slice (some ⟨g, 0, none⟩) n c) (Hf.swp lr p m)) := H6.out.keep hb7
      have Y1' : Hid (GBox w7 w.heap.size Hf.G.z) := Y1.out.below hb7 Y1.out.lt
      have Y2' : Hid (GBox w7 (w.heap.size + 1) ⟨xw, xl, xs, .slice xa xm xc⟩) := Y2.out.below hb7 Y2.out.lt
      have K7 : Hid (Stays Hb (.slice (some ⟨g, 0, none⟩) (n + 1) c) w w7) := K6.out.trans (Kept.of_below hb7)
      clear hb7 H6 Y1 Y2 K6
      go_wp2_with fail
      go_roundw
      case rel => exact ⟨Hf.swp lr p m, m, rfl, rfl, by omega, .inl (by have := HSL.out; omega), HPM, HDN, H7, Y1', Y2', K7⟩
      case measure => simp only [intOf]; omega
end Go.Proofs.Ytkhejelmjkpgfaa

namespace Go.Proofs.Ytkhejelmjkpgfaa
open Go.RowKit
set_option maxRecDepth 4000

theorem info_group : (Try.prog.info? 145).map (fun i => (i.zero, i.size, i.bytes)) = some (some (.agg #[.int .i64 0, .int .i64 0, .slice none 0 0]), 3, 40) := by kernel_rfl

theorem three_at {W : World} {B : Nat} {x : Hf.G} (h0 : W.cell? ⟨B, 0, none⟩ = some (.int .i64 x.wt)) (h1 : W.cell? ⟨B, 1, none⟩ = some (.int .i64 x.low)) (h2 : W.cell? ⟨B, 2, none⟩ = some x.sv) : ∀ j u, (gC x)[j]? = some u → W.cell? ((⟨B, 0, none⟩ : Addr).add j) = some u := by
  intro j u hj
  rw [Addr.add_mid, Nat.zero_add]
  match j, hj with
  | 0, hj => rw [h0]; exact hj
  | 1, hj => rw [h1]; exact hj
  | 2, hj => rw [h2]; exact hj
theorem Stays.step {Hb : Nat} {v v1 : Value} {A B C : World} (h : Stays Hb v A B) (k : Stays Hb v1 B C) (hv : ∀ k, k < A.heap.size → v.ownBlock ≠ some k → v1.ownBlock ≠ some k) : Stays Hb v A C :=
  ⟨k.os.trans h.os, k.tape.trans h.tape, k.output.trans h.output, Nat.le_trans h.size k.size, fun i hi hp => (k.block i (Nat.lt_of_lt_of_le hi h.size) ⟨hp.1, hv i hi hp.2⟩).trans (h.block i hi hp)⟩
/-- one more behind a heap's items -/
theorem Heap.pushed {w w1 : World} {base Hb g cap : Nat} {v : Value} {l : List Hf.G} {x : Hf.G} {o1 o2 : Obj} (h : Heap w base Hb v l) (hx : w.ownsRow base 3 1 x.sv x.sg.length ((Hf.up x.sg).map Iv))
    (hown : w1.ownsRow base 145 3 (.slice (some ⟨g, 0, none⟩) (l.length + 1) cap) (l.length + 1) (rowG l ++ gC x)) (hg : (((w.alloc o1).alloc o2).drew).grownBy w1 v.ownBlock) (hat : v.ownBlock = some g ∨ g = w.heap.size + 2) :
    Heap (w1.setCell ⟨Hb, 1, none⟩ (.slice (some ⟨g, 0, none⟩) (l.length + 1) cap)) base Hb (.slice (some ⟨g, 0, none⟩) (l.length + 1) cap) (l ++ [x]) ∧ Stays Hb v w (w1.setCell ⟨Hb, 1, none⟩ (.slice (some ⟨g, 0, none⟩) (l.length + 1) cap)) := by
  have hlt := h.lt
  have hk : Stays Hb v w w1 := (((Kept.refl _ w).alloc o1).alloc o2).drew.grown hg fun k hk hp => hp.2 hk
  have hbox : w1.heap[Hb]? = some (.cells #[fnV, v] 183 (0, 0)) := by
    rw [hg.block Hb (by simp; omega) (fun e => h.apart e.symm)]
    exact (((Below.refl w.heap.size w).alloc (Nat.le_refl _) o1).alloc (by simp) o2).block Hb hlt |>.trans h.box
  have hk2 : Kept (fun k => k ≠ Hb) w1 (w1.setCell ⟨Hb, 1, none⟩ (.slice (some ⟨g, 0, none⟩) (l.length + 1) cap)) := (Kept.refl _ _).setCell (by simp) _
  have hgH : g ≠ Hb := by
    rcases hat with e | e
    · intro e'
      rw [e'] at e
      exact h.apart e
    · omega
  refine ⟨⟨?_, h.old, ?_, fun y hy => ?_⟩, hk.trans (hk2.mono fun k hk => hk.1)⟩
  · rw [heap_setCell_same _ _ _ _ _ _ hbox]
    rfl
  · rw [rowG_more, List.length_append, List.length_singleton]
    exact own_kept hown hk2 fun b hb => by simp [Value.ownBlock] at hb; omega
  · have hs : w.ownsRow base 3 1 y.sv y.sg.length ((Hf.up y.sg).map Iv) := by
      rcases List.mem_append.1 hy with hy | hy
      · exact h.signs y hy
      · rw [List.mem_singleton.1 hy]; exact hx
    exact own_kept (own_kept hs hk (h.sign_apart hs)) hk2 fun b hb => (h.sign_apart hs b hb).1

set_option maxHeartbeats 4000000 in
theorem put_any (base Hb : Nat) (v : Value) (l : List Hf.G) (x : Hf.G) (w : World) (h : Heap w base Hb v l) (hx : w.ownsRow base 3 1 x.sv x.sg.length ((Hf.up x.sg).map Iv)) (hl : l.length < 256) (ho : Hf.Ord l) :
    Calls Try.prog 108 #[.pointer (some ⟨Hb, 0, none⟩), gV x] w fun e w' => e = .returned (.tuple #[]) ∧ ∃ v' l', l'.Perm (x :: l) ∧ Hf.Ord l' ∧ Heap w' base Hb v' l' ∧ Stays Hb v w w' := by
  obtain ⟨i0, hi, hz0, hz1, hz2⟩ := info_parts info_group
  obtain ⟨a, c, rfl⟩ := h.slice
  obtain ⟨c0, c1, f1⟩ := h.cells
  have hw := h.lt
  have hxs := own_slice hx
  have hob : base ≤ w.heap.size := by have := h.old; omega
  have ex : ∃ xw xl xs xa xm xc, x = (⟨xw, xl, xs, .slice xa xm xc⟩ : Hf.G) := by
    obtain ⟨xa, xm, xc, e⟩ := hxs
    exact ⟨x.wt, x.low, x.sg, xa, xm, xc, by rw [← e]⟩
  obtain ⟨xw, xl, xs, xa, xm, xc, rfl⟩ := ex
  clear hxs
  unfold gV
  have hrow : ∀ o1 o2, (((w.alloc o1).alloc o2).drew).ownsRow base 145 3 (.slice a l.length c) l.length (rowG l) := fun o1 o2 => ((h.row.alloc o1).alloc o2).drew
  have HQ : Hid (∀ o2 w1, (((w.alloc (.cells #[.int .i64 xw, .int .i64 xl, .slice xa xm xc] 145)).alloc o2).drew).grownBy w1 (Value.slice a l.length c).ownBlock →
      w1.cell? ⟨Hb, 1, none⟩ = some (.slice a l.length c) ∧ w1.frozen? ⟨Hb, 1, none⟩ = false ∧ w1.cell? ⟨w.heap.size, 0, none⟩ = some (.int .i64 (xw : Int)) ∧ w1.cell? ⟨w.heap.size, 1, none⟩ = some (.int .i64 (xl : Int)) ∧ w1.cell? ⟨w.heap.size, 2, none⟩ = some (.slice xa xm xc)) := by
    intro o2 w1 hg
    have hn1 : some Hb ≠ (Value.slice a l.length c).ownBlock := fun e => h.apart e.symm
    have hn2 : some w.heap.size ≠ (Value.slice a l.length c).ownBlock := fun e => by
      obtain ⟨cur, hc, _⟩ := own_block h.row e.symm
      have := (Array.getElem?_eq_some_iff.1 hc).1
      omega
    have hB : Below w.heap.size w (((w.alloc (.cells #[.int .i64 xw, .int .i64 xl, .slice xa xm xc] 145)).alloc o2).drew) := (((Below.refl w.heap.size w).alloc (Nat.le_refl _) _).alloc (by simp) _).drew
    have GB : GBox (((w.alloc (.cells #[.int .i64 xw, .int .i64 xl, .slice xa xm xc] 145)).alloc o2).drew) w.heap.size ⟨xw, xl, xs, .slice xa xm xc⟩ := (GBox.new w ⟨xw, xl, xs, .slice xa xm xc⟩).below ((Below.refl _ _).alloc (Nat.le_refl _) o2).drew (by simp)
    refine ⟨?_, ?_, ?_, ?_, ?_⟩
    · rw [hg.cell_far _ (by simp; omega) hn1]; exact (hB.cell (p := ⟨Hb, 1, none⟩) hw).trans c1
    · rw [hg.frozen_far _ (by simp; omega) hn1]; exact (hB.frozen (p := ⟨Hb, 1, none⟩) hw).trans f1
    · rw [hg.cell_far _ (by simp; omega) hn2]; exact GB.c0
    · rw [hg.cell_far _ (by simp; omega) hn2]; exact GB.c1
    · rw [hg.cell_far _ (by simp; omega) hn2]; exact GB.c2
  have HE : Hid (∀ o2 g cap w1, w1.ownsRow base 145 3 (.slice (some ⟨g, 0, none⟩) (l.length + 1) cap) (l.length + 1) (rowG l ++ gC ⟨xw, xl, xs, .slice xa xm xc⟩) → (((w.alloc (.cells #[.int .i64 xw, .int .i64 xl, .slice xa xm xc] 145)).alloc o2).drew).grownBy w1 (Value.slice a l.length c).ownBlock → ((Value.slice a l.length c).ownBlock = some g ∨ g = w.heap.size + 2) →
      Heap (w1.setCell ⟨Hb, 1, none⟩ (.slice (some ⟨g, 0, none⟩) (l.length + 1) cap)) base Hb (.slice (some ⟨g, 0, none⟩) (l.length + 1) cap) (l ++ [⟨xw, xl, xs, .slice xa xm xc⟩]) ∧ Stays Hb (.slice a l.length c) w (w1.setCell ⟨Hb, 1, none⟩ (.slice (some ⟨g, 0, none⟩) (l.length + 1) cap))) :=
    fun o2 g cap w1 hown hg hat => h.pushed hx hown hg hat
  have HU : Hid (Hf.Up (l ++ [⟨xw, xl, xs, .slice xa xm xc⟩]) l.length) := Hf.Up.start ho _
  clear h hx
  go_enter Try.func108, Try.ntmps108
  go_wp2_with fail
  go_cut [] from 6 (fun wx => Hid (∃ g cap, Heap wx base Hb (.slice (some ⟨g, 0, none⟩) (l.length + 1) cap) (l ++ [⟨xw, xl, xs, .slice xa xm xc⟩]) ∧ Stays Hb (.slice a l.length c) w wx ∧ ((Value.slice a l.length c).ownBlock = some g ∨ g = w.heap.size + 2)))
  case first =>
    go_region_law ((refine step_append_lies _ (by rfl) (.tmp 10) (.tmp 12) 181 (by rfl) base 145 i0 (.agg #[.int .i64 0, .int .i64 0, .slice none 0 0]) 3 40 Try.underlying181 hi hz0 hz1 hz2 rfl (by decide) (.slice a l.length c) l.length (rowG l) (by rfl) (hrow _ _) ⟨w.heap.size + 1, 0, none⟩ 1 1 (gC ⟨xw, xl, xs, .slice xa xm xc⟩) (by rfl) (by rfl) (three_at (by simp) (by simp) (by simp)) (by simp [gC, Value.oneCell']) (by decide) (by unfold maxLen; omega) (by omega) (by simp; omega) (w.heap.size + 2) (by simp) ?_; intro g cap w1 hown1 hgrow hat hlt; obtain ⟨q1, q2, q3, q4, q5⟩ := HQ.out _ _ hgrow))
    all_goals
      go_wp2_with fail
      go_meet
      have hE := HE.out _ _ _ _ hown1 hgrow hat
      exact ⟨_, _, hE.1, hE.2, hat⟩
  case rest =>
  obtain ⟨g, cap, H1, K1, hat⟩ := hcut.out
  have HG : Hid (∀ k, k < w.heap.size → (Value.slice a l.length c).ownBlock ≠ some k → (Value.slice (some ⟨g, 0, none⟩) (l.length + 1) cap).ownBlock ≠ some k) := by
    intro k hk hn e
    have e : g = k := by simpa [Value.ownBlock] using e
    subst e
    rcases hat with h | h
    · exact hn h
    · omega
  obtain ⟨L, hL⟩ : ∃ L, l ++ [(⟨xw, xl, xs, .slice xa xm xc⟩ : Hf.G)] = L := ⟨_, rfl⟩
  have HL : Hid (L.length = l.length + 1) := by show _ = _; rw [← hL, List.length_append]; rfl
  have HP : Hid (L.Perm (⟨xw, xl, xs, .slice xa xm xc⟩ :: l)) := by rw [← hL]; exact List.perm_append_comm
  rw [hL] at H1 HU
  have hcell := H1.cells
  have K1' : Hid (Stays Hb (.slice a l.length c) w wc) := K1
  have H1' : Hid (Heap wc base Hb (.slice (some ⟨g, 0, none⟩) (l.length + 1) cap) L) := H1
  clear hL hcut hat HE HQ hrow hi hz0 hz1 hz2 f1 K1 H1 c0 c1
  obtain ⟨d0, d1, _⟩ := hcell
  go_wp2_with fail
  clear d0 d1
  go_loopw [4] (fun t wr => ∃ (lr : List Hf.G) (p : Nat), t = .int .i64 p ∧ p ≤ l.length ∧ Hid (lr.Perm L) ∧ Hid (Hf.Up lr p) ∧ Hid (Heap wr base Hb (.slice (some ⟨g, 0, none⟩) (l.length + 1) cap) lr) ∧ Hid (Stays Hb (.slice a l.length c) w wr)) (fun t _ => (intOf t).toNat)
  case atStart => exact ⟨L, l.length, by go_num, by omega, List.Perm.refl _, HU, H1', K1'⟩
  case round =>
    obtain ⟨lr, p, rfl, hpn, hpm, hup, hhp, hks⟩ := hrel
    by_cases hp0 : 0 < p
    · obtain ⟨q, hq⟩ : ∃ q, q = (p - 1) / 2 := ⟨_, rfl⟩
      have hqi : ((p : Int) - 1) / 2 = (q : Int) := by omega
      have hqt : ((p : Int) - 1).tdiv 2 = (q : Int) := by rw [Int.tdiv_eq_ediv_of_nonneg (by omega)]; exact hqi
      have hqp : q < p := by omega
      have hlen : lr.length = l.length + 1 := hpm.out.length_eq.trans HL.out
      have HU1 : Hid (Hf.ltG (Hf.nth lr p) (Hf.nth lr q) = true → Hf.Up (Hf.swp lr p q) q) := fun h => by rw [hq] at h ⊢; exact hup.out.step hp0 (by omega) h
      have HU2 : Hid (Hf.ltG (Hf.nth lr p) (Hf.nth lr q) = false → Hf.Ord lr) := fun h => hup.out.done (.inr (by rw [hq] at h; exact h))
      have hsw := swap_any base Hb (.slice (some ⟨g, 0, none⟩) (l.length + 1) cap) lr
      have HPS : Hid ((Hf.swp lr p q).Perm lr) := Hf.swp_perm (by omega) (by omega)
      clear hq hup
      obtain ⟨c0, c1, _⟩ := hhp.out.cells
      have hHb := hhp.out.lt
      obtain ⟨a0, a1, a2, _, _, _, hg⟩ := hhp.out.at_ hlen.symm p (by omega)
      obtain ⟨b0, b1, b2, _, _, _, _⟩ := hhp.out.at_ hlen.symm q (by omega)
      have hf := first_any (Hf.nth lr p) (Hf.nth lr q)
      generalize Hf.nth lr p = x at *
      generalize Hf.nth lr q = y at *
      have x0 : ∀ X : Since wr.heap.size wr, X.val.cell? ⟨Hb, 0, none⟩ = some fnV := fun X => (X.property.cell (p := ⟨Hb, 0, none⟩) hHb).trans c0
      have x1 : ∀ X : Since wr.heap.size wr, X.val.cell? ⟨Hb, 1, none⟩ = some (.slice (some ⟨g, 0, none⟩) (l.length + 1) cap) := fun X => (X.property.cell (p := ⟨Hb, 1, none⟩) hHb).trans c1
      have y0 : ∀ X : Since wr.heap.size wr, X.val.cell? ⟨g, p * 3, none⟩ = some (.int .i64 x.wt) := fun X => (X.property.cell (p := ⟨g, p * 3, none⟩) hg).trans a0
      have y1 : ∀ X : Since wr.heap.size wr, X.val.cell? ⟨g, p * 3 + 1, none⟩ = some (.int .i64 x.low) := fun X => (X.property.cell (p := ⟨g, p * 3 + 1, none⟩) hg).trans a1
      have y2 : ∀ X : Since wr.heap.size wr, X.val.cell? ⟨g, p * 3 + 2, none⟩ = some x.sv := fun X => (X.property.cell (p := ⟨g, p * 3 + 2, none⟩) hg).trans a2
      have z0 : ∀ X : Since wr.heap.size wr, X.val.cell? ⟨g, q * 3, none⟩ = some (.int .i64 y.wt) := fun X => (X.property.cell (p := ⟨g, q * 3, none⟩) hg).trans b0
      have z1 : ∀ X : Since wr.heap.size wr, X.val.cell? ⟨g, q * 3 + 1, none⟩ = some (.int .i64 y.low) := fun X => (X.property.cell (p := ⟨g, q * 3 + 1, none⟩) hg).trans b1
      have z2 : ∀ X : Since wr.heap.size wr, X.val.cell? ⟨g, q * 3 + 2, none⟩ = some y.sv := fun X => (X.property.cell (p := ⟨g, q * 3 + 2, none⟩) hg).trans b2
      have hne : Nonempty (Since wr.heap.size wr) := ⟨⟨wr, Below.refl _ _⟩⟩
      have hpl : p < l.length + 1 := by omega
      have hql : q < l.length + 1 := by omega
      have HLr : Hid (lr.length = l.length + 1) := hlen
      clear a0 a1 a2 b0 b1 b2 c0 c1 hlen
      unfold fnV at x0
      unfold gV at hf
      go_wp2_with fail
      refine wp_region_since (B := wr.heap.size) (W0 := wr) (by kernel_rfl) (by kernel_rfl) (Below.refl _ _) ?_
      cases hb : Hf.ltG x y with
      | true =>
        rw [hb] at hf
        have HUp := HU1.out hb
        have HUP : Hid (Hf.Up (Hf.swp lr p q) q) := HUp
        clear hb HU1 HU2 HUp
        repeat (go_big_quiet_step (fail))
        go_big_quiet_step (exact quiet_since _ (hf _))
        repeat (go_big_quiet_step (fail))
        refine wpQuiet_nil ?_
        rintro w7 ⟨U, rfl⟩
        have H7 := hhp.out.keep U.property
        have K7 : Hid (Stays Hb (.slice a l.length c) w U.val) := hks.out.trans (Kept.of_below U.property)
        generalize U.val = w7 at *
        clear x0 x1 y0 y1 y2 z0 z1 z2 hne hf hhp hks
        have hs := hsw w7 H7 p q (by have := HLr.out; omega) (by have := HLr.out; omega) (by have := HLr.out; omega)
        clear hsw H7
        go_wp2_with fail
        refine hs.mono ?_
        rintro e w8 ⟨rfl, h8, k8⟩
        have H8 : Hid (Heap w8 base Hb (.slice (some ⟨g, 0, none⟩) (l.length + 1) cap) (Hf.swp lr p q)) := h8
        have K8 : Hid (Stays Hb (.slice a l.length c) w w8) := K7.out.step k8 HG.out
        clear hs h8 k8 K7
        go_wp2_with fail
        go_roundw
        case rel => exact ⟨Hf.swp lr p q, q, rfl, by omega, HPS.out.trans hpm.out, HUP, H8, K8⟩
        case measure => simp only [intOf]; omega
      | false =>
        rw [hb] at hf
        have HO : Hid (Hf.Ord lr) := HU2.out hb
        clear hb HU1 HU2 hsw
        repeat (go_big_quiet_step (fail))
        go_big_quiet_step (exact quiet_since _ (hf _))
        repeat (go_big_quiet_step (fail))
        refine wpQuiet_nil ?_
        rintro w7 ⟨U, rfl⟩
        have H7 : Hid (Heap U.val base Hb (.slice (some ⟨g, 0, none⟩) (l.length + 1) cap) lr) := hhp.out.keep U.property
        have K7 : Hid (Stays Hb (.slice a l.length c) w U.val) := hks.out.trans (Kept.of_below U.property)
        generalize U.val = w7 at *
        clear x0 x1 y0 y1 y2 z0 z1 z2 hne hf hhp hks
        go_wp2_with fail
        refine bodyPost_ret (v := .tuple #[]) (by simp [results, Try.results108, go_sem]) rfl ?_
        exact ⟨rfl, _, lr, hpm.out.trans HP.out, HO.out, H7.out, K7.out⟩
    · have HO : Hid (Hf.Ord lr) := hup.out.done (.inl (by omega))
      go_wp2_with fail
      go_end0
      exact ⟨rfl, _, lr, hpm.out.trans HP.out, HO.out, hhp.out, hks.out⟩
end Go.Proofs.Ytkhejelmjkpgfaa

namespace Go.Proofs.Ytkhejelmjkpgfaa
open Go.RowKit
set_option maxRecDepth 4000

theorem Heap.below {W W' : World} {base Hb : Nat} {v : Value} {l : List Hf.G} (h : Heap W base Hb v l) (hk : Stays Hb v W W') : Below base W W' := by
  have hlt := h.lt
  have hold := h.old
  refine ⟨hk.os, hk.tape, hk.output, hk.size, fun k hk' => hk.block k (by omega) ⟨by omega, fun e => ?_⟩⟩
  obtain ⟨_, _, hb⟩ := own_block h.row e
  omega
set_option maxHeartbeats 2000000 in
theorem groups_any (v : Value) (F : List Nat) (w : World) (h : Ints w v (Hf.up F)) (h2 : F.length ≤ 256) (h3 : ∀ n ∈ F, n ≤ 1048576) :
    Calls Try.prog 104 #[v] w fun e w' => e = .returned (.pointer (some ⟨w.heap.size, 0, none⟩)) ∧ ∃ u l, Heap w' w.heap.size w.heap.size u l ∧ Hf.Ord l ∧ (l.map Hf.ab).Perm (Hf.init F F.length) ∧ Below w.heap.size w w' := by
  obtain ⟨a, c, rfl⟩ := h.slice
  rw [Hf.up_length] at h ⊢
  have H3 : Hid (∀ n ∈ F, n ≤ 1048576) := h3
  clear h3
  obtain ⟨W1, hW1⟩ : ∃ W1, W1 = w.alloc (.cells #[fnV, .slice none 0 0] 183) := ⟨_, rfl⟩
  have hH1 : Hid (Heap W1 w.heap.size w.heap.size (.slice none 0 0) []) := by
    rw [hW1]
    exact ⟨heap_alloc_new w _, Nat.le_refl _, World.ownsRow_nil _ _ _ _, fun g hg => by simp at hg⟩
  have hB1 : Hid (Below w.heap.size w W1) := by rw [hW1]; exact (Below.refl _ w).alloc (Nat.le_refl _) _
  unfold fnV at hW1
  go_enter Try.func104, Try.ntmps104
  go_wp2_with fail
  rw [← hW1]
  clear hW1
  go_loopw [10] (fun x wr => ∃ k : Nat, k ≤ F.length ∧ x = .int .i64 k ∧ Hid (∃ u l, Heap wr w.heap.size w.heap.size u l ∧ Hf.Ord l ∧ (l.map Hf.ab).Perm (Hf.init F k) ∧ Below w.heap.size w wr)) (fun x _ => F.length - (intOf x).toNat)
  case atStart => exact ⟨0, by omega, rfl, _, _, hH1.out, Hf.Ord.nil, List.Perm.refl _, hB1.out⟩
  case round =>
    obtain ⟨k, hk, rfl, hI⟩ := hrel
    by_cases hlt : k < F.length
    · obtain ⟨u, l, hH, hO, hP, hbel⟩ := hI.out
      obtain ⟨bk, o, rfl, hbk, c0⟩ := (h.below (Nat.le_refl _) hbel).getN k hlt
      have hn := Hf.getD_le H3.out k
      have HN : Hid (_) := Hf.init_succ F k
      have hll : l.length < 256 := by
        have e1 := hP.length_eq
        rw [List.length_map] at e1
        have := Hf.init_length F k
        omega
      generalize F.getD k 0 = n at *
      by_cases hn0 : 0 < n
      · have hsz := hbel.size
        have hH' := hH.keep ((Below.refl _ _).alloc (Nat.le_refl _) (.cells #[.int .i64 (k : Int)] 3))
        have hput := put_any w.heap.size w.heap.size u l ⟨n, k, [k], .slice (some ⟨wr.heap.size, 0, none⟩) 1 1⟩ (wr.alloc (.cells #[.int .i64 (k : Int)] 3)) hH' (World.ownsRow_lit wr #[.int .i64 (k : Int)] 1 hsz (by unfold maxLen; omega) rfl) hll hO
        unfold gV at hput
        dsimp only at hput
        have HBA : Hid (Below w.heap.size w (wr.alloc (.cells #[.int .i64 (k : Int)] 3))) := hbel.alloc hsz _
        have HP : Hid ((l.map Hf.ab).Perm (Hf.init F k)) := hP
        have HH : Hid (Heap (wr.alloc (.cells #[.int .i64 (k : Int)] 3)) w.heap.size w.heap.size u l) := hH'
        clear hH hO hP hbel hH' hI
        go_wp2_with fail
        refine hput.mono ?_
        rintro e w2 ⟨rfl, u2, l2, p2, o2, h2', k2⟩
        have HB2 : Hid (Below w.heap.size w w2) := HBA.out.trans (HH.out.below k2)
        have HI2 : Hid (∃ u l, Heap w2 w.heap.size w.heap.size u l ∧ Hf.Ord l ∧ (l.map Hf.ab).Perm (Hf.init F (k + 1)) ∧ Below w.heap.size w w2) := by
          refine ⟨u2, l2, h2', o2, ?_, HB2.out⟩
          rw [HN.out, if_pos hn0]
          refine (p2.map Hf.ab).trans ?_
          exact (HP.out.cons _).trans (List.perm_append_comm (l₁ := [(n, k, [k])]))
        clear hput p2 o2 h2' k2 HB2 HBA HH HP HN
        go_wp2_with fail
        go_roundw
        case rel => exact ⟨k + 1, by omega, by go_num, HI2⟩
        case measure => simp only [intOf]; omega
      · have HI2 : Hid (∃ u l, Heap wr w.heap.size w.heap.size u l ∧ Hf.Ord l ∧ (l.map Hf.ab).Perm (Hf.init F (k + 1)) ∧ Below w.heap.size w wr) := by
          refine ⟨u, l, hH, hO, ?_, hbel⟩
          rw [HN.out, if_neg hn0, List.append_nil]
          exact hP
        clear hH hO hP hbel hI HN
        go_wp2_with fail
        go_roundw
        case rel => exact ⟨k + 1, by omega, by go_num, HI2⟩
        case measure => simp only [intOf]; omega
    · obtain rfl : k = F.length := by omega
      go_wp2_with fail
      go_ret
      exact ⟨rfl, hI.out⟩
end Go.Proofs.Ytkhejelmjkpgfaa

namespace Go.Proofs.Ytkhejelmjkpgfaa
open Go.RowKit
set_option maxRecDepth 4000

set_option maxHeartbeats 2000000 in
theorem grow_nil (n : Nat) (w : World) (h1 : 1 ≤ n) (h2 : n ≤ 1000) :
    Calls Try.prog 141 #[.slice none 0 0, .int .i64 n] w fun e w' => ∃ v, e = .returned v ∧ w'.ownsRow w.heap.size 3 1 v 0 [] ∧ Below w.heap.size w w' := by
  obtain ⟨i0, hi, hz0, hz1, hz2⟩ := info_parts info_int
  have hge := grownCap_ge w n 0 3
  have hle := grownCap_le_maxLen w n 0 3 (by unfold maxLen; omega)
  have hr : ∀ ty, (Builtin.append_ #[82, 3] ty #[.slice none 0 0, .int .i64 n]).run Try.prog w = .ok (.slice (some ⟨w.heap.size, 0, none⟩) n (grownCap w n 0 3))
      (w.drew.alloc (.cells (([] : List Value).toArray ++ Builtin.zeroCells (Value.int .i64 0).cells n ++ Builtin.zeroCells (Value.int .i64 0).cells (grownCap w n 0 3 - n)) 3)) := fun ty => by
    have := Lib.run_append_grow_zeros w 82 3 ty 3 i0 (.int .i64 0) .i64 .i64 Try.underlying82 Try.underlying3 hi hz0 none 0 0 [] (run_firstCells_none w.drew i0.size 0 0 0) n (by omega) (by omega) (by omega) (by omega) (by rw [hz2]; omega) (growslice_fits (by omega) (by rw [hz2]; omega))
    rw [Nat.zero_add] at this
    exact this
  have HO : Hid (∀ W, W = w.drew.alloc (.cells (([] : List Value).toArray ++ Builtin.zeroCells (Value.int .i64 0).cells n ++ Builtin.zeroCells (Value.int .i64 0).cells (grownCap w n 0 3 - n)) 3) →
      W.ownsRow w.heap.size 3 1 (.slice (some ⟨w.heap.size, 0, none⟩) 0 (grownCap w n 0 3)) 0 [] ∧ Below w.heap.size w W) := by
    rintro W rfl
    refine ⟨?_, (Below.refl _ w).drew.alloc (Nat.le_refl _) _⟩
    refine World.ownsRow_made w.drew _ _ (Nat.le_refl _) hle ?_
    simp only [Array.size_append, List.size_toArray, size_zeroCells, List.length_nil]
    show 0 + n * 1 + (grownCap w n 0 3 - n) * 1 = grownCap w n 0 3 * 1
    omega
  generalize w.drew.alloc (.cells (([] : List Value).toArray ++ Builtin.zeroCells (Value.int .i64 0).cells n ++ Builtin.zeroCells (Value.int .i64 0).cells (grownCap w n 0 3 - n)) 3) = W at *
  generalize grownCap w n 0 3 = G at *
  unfold maxLen at hle
  go_enter Try.func141, Try.ntmps141
  go_wp2_with (at_builtin; refine Lib.wpList_append_run _ rfl _ _ _ _ rfl _ _ rfl rfl _ _ (hr _) ?_)
  all_goals go_ret
  all_goals exact ⟨_, rfl, HO.out _ rfl⟩

/-- the numbers of the first k parts -/
def catTo (ps : List (Value × List Int)) (k : Nat) : List Int := ((ps.take k).map (·.2)).flatten
theorem catTo_next (ps : List (Value × List Int)) (k : Nat) (hk : k < ps.length) : catTo ps (k + 1) = catTo ps k ++ ps[k].2 := by
  unfold catTo
  rw [List.take_succ_eq_append_getElem hk, List.map_append, List.flatten_append]
  simp
theorem catTo_le (ps : List (Value × List Int)) (k : Nat) (hk : k ≤ ps.length) : (catTo ps k).length ≤ (catTo ps ps.length).length := by
  obtain ⟨d, hd⟩ : ∃ d, ps.length = k + d := ⟨ps.length - k, by omega⟩
  rw [hd]
  clear hd hk
  induction d with
  | zero => exact Nat.le_refl _
  | succ d ih =>
    refine Nat.le_trans ih ?_
    by_cases h : k + d < ps.length
    · rw [← Nat.add_assoc, catTo_next _ _ h, List.length_append]
      omega
    · unfold catTo
      rw [List.take_of_length_le (by omega), List.take_of_length_le (by omega)]
      exact Nat.le_refl _

set_option maxHeartbeats 4000000 in
theorem concat_any (Bk b c : Nat) (ps : List (Value × List Int)) (w : World) (hB : Bk < w.heap.size) (hp : ps.length ≤ 4) (hc : ∀ j (hj : j < ps.length), w.cell? ⟨Bk, j, none⟩ = some ps[j].1)
    (hs : ∀ j (hj : j < ps.length), w.ownsRow b 3 1 ps[j].1 ps[j].2.length (ps[j].2.map Iv) ∧ 1 ≤ ps[j].2.length) (ht : (catTo ps ps.length).length ≤ 1000) (h1 : 1 ≤ (catTo ps ps.length).length) :
    Calls Try.prog 132 #[.slice (some ⟨Bk, 0, none⟩) ps.length c] w fun e w' => ∃ v, e = .returned v ∧ w'.ownsRow w.heap.size 3 1 v (catTo ps ps.length).length ((catTo ps ps.length).map Iv) ∧ Below w.heap.size w w' := by
  obtain ⟨i0, hi, hz0, hz1, hz2⟩ := info_parts info_int
  have HL : Hid (∀ k, k ≤ ps.length → (catTo ps k).length ≤ 1000) := fun k hk => Nat.le_trans (catTo_le ps k hk) ht
  have HC : Hid (∀ j (hj : j < ps.length), w.cell? ⟨Bk, j, none⟩ = some ps[j].1) := hc
  have HS : Hid (∀ j (hj : j < ps.length), w.ownsRow b 3 1 ps[j].1 ps[j].2.length (ps[j].2.map Iv) ∧ 1 ≤ ps[j].2.length) := hs
  have hg := fun W => grow_nil (catTo ps ps.length).length W h1 ht
  clear hc hs
  go_enter Try.func132, Try.ntmps132
  go_wp2_with fail
  go_loop [3, 11] (fun s i => ∃ k : Nat, k ≤ ps.length ∧ i = .int .i64 k ∧ s = .int .i64 (catTo ps k).length) (fun _ i => ps.length - (intOf i).toNat)
  case atStart => exact ⟨0, by omega, rfl, rfl⟩
  case round =>
    obtain ⟨k, hk, rfl, rfl⟩ := hrel
    by_cases hlt : k < ps.length
    · have hx := HC.out k hlt
      obtain ⟨ho, h1'⟩ := HS.out k hlt
      obtain ⟨g, cap, hv⟩ : ∃ g cap, ps[k].1 = .slice (some ⟨g, 0, none⟩) ps[k].2.length cap := by
        rcases ho.2 with ⟨_, h0⟩ | ⟨g, cap, _, hv, _⟩
        · omega
        · exact ⟨g, cap, hv⟩
      rw [hv] at hx
      have hl0 := HL.out k hk
      have hl1 := HL.out (k + 1) hlt
      have HN : Hid ((catTo ps (k + 1)).length = (catTo ps k).length + ps[k].2.length) := by show _ = _; rw [catTo_next ps k hlt, List.length_append]
      have hsum : (catTo ps k).length + ps[k].2.length ≤ 1000 := by rw [← HN.out]; exact hl1
      clear ho hv hl1
      generalize ps[k].2.length = m at *
      generalize (catTo ps k).length = S at *
      go_wp2_with fail
      go_round
      case rel => exact ⟨k + 1, by omega, by go_num, by rw [HN.out]; go_num⟩
      case measure => simp only [intOf]; omega
    · obtain rfl : k = ps.length := by omega
      go_wp2_with fail
      refine (hg _).mono ?_
      rintro e w1 ⟨v1, rfl, o1, hb1⟩
      clear hg
      have HB1 : Hid (Below w.heap.size w w1) := hb1
      have HO1 : Hid (w1.ownsRow w.heap.size 3 1 v1 0 []) := o1
      clear o1 hb1
      go_wp2_with fail
      go_loopw [6, 27] (fun v i wr => ∃ k : Nat, k ≤ ps.length ∧ i = .int .i64 k ∧ wr.ownsRow w.heap.size 3 1 v (catTo ps k).length ((catTo ps k).map Iv) ∧ Hid (Below w.heap.size w wr)) (fun _ i _ => ps.length - (intOf i).toNat)
      case atStart => exact ⟨0, by omega, rfl, HO1.out, HB1⟩
      case round =>
        obtain ⟨k, hk, rfl, hown, hbel⟩ := hrel
        by_cases hlt : k < ps.length
        · have hx := (hbel.out.cell (p := ⟨Bk, k, none⟩) hB).trans (HC.out k hlt)
          obtain ⟨ho, h1'⟩ := HS.out k hlt
          have ho' := row_below ho hbel.out
          obtain ⟨g, cap, hv⟩ : ∃ g cap, ps[k].1 = .slice (some ⟨g, 0, none⟩) ps[k].2.length cap := by
            rcases ho.2 with ⟨_, h0⟩ | ⟨g, cap, _, hv, _⟩
            · omega
            · exact ⟨g, cap, hv⟩
          rw [hv] at hx ho'
          have hl0 := HL.out k hk
          have hl1 := HL.out (k + 1) hlt
          have HT : Hid (catTo ps (k + 1) = catTo ps k ++ ps[k].2) := catTo_next ps k hlt
          have hsum : (catTo ps k).length + ps[k].2.length ≤ 1000 := by rw [← List.length_append, ← HT.out]; exact hl1
          have hcell : ∀ j u, (ps[k].2.map Iv)[j]? = some u → wr.cell? ((⟨g, 0, none⟩ : Addr).add j) = some u := fun j u hu => by
            have hj : j < ps[k].2.length := by
              have := (List.getElem?_eq_some_iff.1 hu).1
              simpa using this
            rw [show ((⟨g, 0, none⟩ : Addr).add j) = ⟨g, j, none⟩ from by unfold Addr.add; split <;> simp_all, ho'.cellAt j (by omega)]
            exact hu
          have hsz := hbel.out.size
          clear ho ho' hv hl1
          generalize ps[k].2 = m at *
          generalize catTo ps k = S at *
          go_wp2_with (at_builtin; refine wpList_append_own _ rfl (.tmp 31) (.tmp 32) 82 rfl w.heap.size 3 i0 (.int .i64 0) 1 8 Try.underlying82 hi hz0 hz1 hz2 rfl (by decide) _ _ _ rfl hown ⟨g, 0, none⟩ m.length _ (m.map Iv) rfl (by simp) hcell ?c2 ?c3 ?c4 ?c5 ?_)
          case c2 => intro u hu; obtain ⟨x, _, rfl⟩ := List.mem_map.1 hu; rfl
          case c3 => unfold maxLen; omega
          case c4 => omega
          case c5 => omega
          intro v1 w3 hown3 hgrow _
          have HO : Hid (w3.ownsRow w.heap.size 3 1 v1 (catTo ps (k + 1)).length ((catTo ps (k + 1)).map Iv)) := by rw [HT.out, List.length_append, List.map_append]; exact hown3
          have HB3 : Hid (Below w.heap.size w w3) := hbel.out.grown hgrow (by omega) fun j hj => (hown.lt j hj).1
          clear hown3 hgrow hown hbel hx hcell
          go_wp2_with fail
          go_roundw
          case rel => exact ⟨k + 1, by omega, by go_num, HO.out, HB3⟩
          case measure => simp only [intOf]; omega
        · obtain rfl : k = ps.length := by omega
          go_wp2_with fail
          go_ret
          exact ⟨_, rfl, hown, hbel.out⟩
end Go.Proofs.Ytkhejelmjkpgfaa

namespace Go.Proofs.Ytkhejelmjkpgfaa
open Go.RowKit
set_option maxRecDepth 4000

def Hf.gjoin (a b : Hf.G) (v : Value) : Hf.G := ⟨a.wt + b.wt, min a.low b.low, a.sg ++ b.sg, v⟩
theorem GBox.other3 {W : World} {G G' : Nat} {x : Hf.G} (h : GBox W G x) (hne : G ≠ G') (u0 u1 u2 : Value) : GBox (((W.setCell ⟨G', 0, none⟩ u0).setCell ⟨G', 1, none⟩ u1).setCell ⟨G', 2, none⟩ u2) G x :=
  h.kept (p := fun k => k ≠ G') ((((Kept.refl _ W).setCell (by simp) _).setCell (by simp) _).setCell (by simp) _) hne
set_option maxHeartbeats 4000000 in
theorem join_any (base : Nat) (a b : Hf.G) (w : World) (ha : w.ownsRow base 3 1 a.sv a.sg.length ((Hf.up a.sg).map Iv)) (hb : w.ownsRow base 3 1 b.sv b.sg.length ((Hf.up b.sg).map Iv))
    (ha1 : 1 ≤ a.sg.length) (hb1 : 1 ≤ b.sg.length) (hab : a.sg.length + b.sg.length ≤ 256) (hw : a.wt + b.wt ≤ 1000000000) :
    Calls Try.prog 107 #[gV a, gV b] w fun e w' => ∃ v, e = .returned (gV (Hf.gjoin a b v)) ∧ w'.ownsRow w.heap.size 3 1 v (a.sg ++ b.sg).length ((Hf.up (a.sg ++ b.sg)).map Iv) ∧ Below w.heap.size w w' := by
  obtain ⟨W4, hW4⟩ : ∃ W4, W4 = (((w.alloc (.cells #[.int .i64 a.wt, .int .i64 a.low, a.sv] 145)).alloc (.cells #[.int .i64 b.wt, .int .i64 b.low, b.sv] 145)).alloc (.cells #[.int .i64 0, .int .i64 0, .slice none 0 0] 145)) := ⟨_, rfl⟩
  have hB4 : Below w.heap.size w W4 := by rw [hW4]; exact (((Below.refl _ w).alloc (Nat.le_refl _) _).alloc (by simp) _).alloc (by simp; omega) _
  have hs4 : W4.heap.size = w.heap.size + 3 := by rw [hW4]; simp
  have X1 : GBox W4 w.heap.size a := by
    rw [hW4]; exact (GBox.new w a).below (((Below.refl _ _).alloc (Nat.le_refl _) _).alloc (by simp) _) (by simp)
  have X2 : GBox W4 (w.heap.size + 1) b := by
    rw [hW4]
    have := (GBox.new (w.alloc (.cells #[.int .i64 a.wt, .int .i64 a.low, a.sv] 145)) b).below ((Below.refl _ _).alloc (Nat.le_refl _) (.cells #[.int .i64 0, .int .i64 0, .slice none 0 0] 145)) (by simp)
    rw [World.size_alloc] at this
    exact this
  have X3 : GBox W4 (w.heap.size + 1 + 1) Hf.G.z := by
    rw [hW4]
    have := GBox.new ((w.alloc (.cells #[.int .i64 a.wt, .int .i64 a.low, a.sv] 145)).alloc (.cells #[.int .i64 b.wt, .int .i64 b.low, b.sv] 145)) Hf.G.z
    rw [World.size_alloc, World.size_alloc] at this
    exact this
  have hcat : Calls Try.prog 132 #[.slice (some ⟨W4.heap.size, 0, none⟩) 2 2] (W4.alloc (.cells #[a.sv, b.sv] 82)).drew fun e w' => ∃ va vm vc, e = .returned (.slice va vm vc) ∧ w'.ownsRow W4.heap.size 3 1 (.slice va vm vc) (a.sg ++ b.sg).length ((Hf.up (a.sg ++ b.sg)).map Iv) ∧ Below W4.heap.size W4 w' := by
    have hB5 : Below W4.heap.size W4 (W4.alloc (.cells #[a.sv, b.sv] 82)).drew := ((Below.refl _ _).alloc (Nat.le_refl _) _).drew
    have e2 : catTo [(a.sv, Hf.up a.sg), (b.sv, Hf.up b.sg)] 2 = Hf.up (a.sg ++ b.sg) := by simp [catTo, Hf.up]
    have := concat_any W4.heap.size base 2 [(a.sv, Hf.up a.sg), (b.sv, Hf.up b.sg)] (W4.alloc (.cells #[a.sv, b.sv] 82)).drew (by simp) (by show 2 ≤ 4; omega) (fun j hj => by
        have hj : j < 2 := hj
        match j, hj with
        | 0, _ => simp
        | 1, _ => simp) (fun j hj => by
        have hj : j < 2 := hj
        match j, hj with
        | 0, _ => exact ⟨(show (W4.alloc (.cells #[a.sv, b.sv] 82)).drew.ownsRow base 3 1 a.sv (Hf.up a.sg).length ((Hf.up a.sg).map Iv) from by rw [Hf.up_length]; exact row_below (row_below ha hB4) hB5), (show 1 ≤ (Hf.up a.sg).length from by rw [Hf.up_length]; exact ha1)⟩
        | 1, _ => exact ⟨(show (W4.alloc (.cells #[a.sv, b.sv] 82)).drew.ownsRow base 3 1 b.sv (Hf.up b.sg).length ((Hf.up b.sg).map Iv) from by rw [Hf.up_length]; exact row_below (row_below hb hB4) hB5), (show 1 ≤ (Hf.up b.sg).length from by rw [Hf.up_length]; exact hb1)⟩) (by
        show (catTo [(a.sv, Hf.up a.sg), (b.sv, Hf.up b.sg)] 2).length ≤ _
        rw [e2, Hf.up_length, List.length_append]; omega) (by
        show 1 ≤ (catTo [(a.sv, Hf.up a.sg), (b.sv, Hf.up b.sg)] 2).length
        rw [e2, Hf.up_length, List.length_append]; omega)
    refine this.mono ?_
    rintro e w' ⟨v, rfl, ho, hbl⟩
    have ho : w'.ownsRow (W4.alloc (.cells #[a.sv, b.sv] 82)).drew.heap.size 3 1 v (catTo [(a.sv, Hf.up a.sg), (b.sv, Hf.up b.sg)] 2).length ((catTo [(a.sv, Hf.up a.sg), (b.sv, Hf.up b.sg)] 2).map Iv) := ho
    rw [e2, Hf.up_length] at ho
    obtain ⟨x, y, z, rfl⟩ := own_slice ho
    exact ⟨x, y, z, rfl, row_lower ho (by simp), hB5.trans (hbl.mono (by simp))⟩
  have HX1 : Hid (GBox W4 w.heap.size a) := X1
  have HX2 : Hid (GBox W4 (w.heap.size + 1) b) := X2
  have HX3 : Hid (GBox W4 (w.heap.size + 1 + 1) Hf.G.z) := X3
  have HB4 : Hid (Below w.heap.size w W4) := hB4
  obtain ⟨a0, a1, a2, _, _, _, _⟩ := X1
  obtain ⟨b0, b1, b2, _, _, _, _⟩ := X2
  have HQ : Hid (∀ w', Below W4.heap.size W4 w' → GBox w' w.heap.size a ∧ GBox w' (w.heap.size + 1) b ∧ GBox w' (w.heap.size + 1 + 1) Hf.G.z) := fun w' h => ⟨HX1.out.below h HX1.out.lt, HX2.out.below h HX2.out.lt, HX3.out.below h HX3.out.lt⟩
  have HS4 : Hid (W4.heap.size = w.heap.size + 3) := hs4
  clear hB4 X3 hs4
  have ea := own_slice ha
  have eb := own_slice hb
  clear ha hb
  obtain ⟨aw, al, asg, av⟩ := a
  obtain ⟨bw, bl, bsg, bv⟩ := b
  dsimp only at *
  obtain ⟨aa, am, ac, rfl⟩ := ea
  obtain ⟨ba, bm, bc, rfl⟩ := eb
  unfold gV
  go_enter Try.func107, Try.ntmps107
  go_wp2_with fail
  rw [← hW4]
  clear hW4
  by_cases hle : al ≤ bl
  all_goals
    go_region_held3 (fun w' => w'.cell? ⟨w.heap.size, 0, none⟩ = some (.int .i64 (aw : Int)) ∧ w'.cell? ⟨w.heap.size, 1, none⟩ = some (.int .i64 (al : Int)) ∧ w'.cell? ⟨w.heap.size, 2, none⟩ = some (.slice aa am ac) ∧ w'.cell? ⟨w.heap.size + 1, 0, none⟩ = some (.int .i64 (bw : Int)) ∧ w'.cell? ⟨w.heap.size + 1, 1, none⟩ = some (.int .i64 (bl : Int)) ∧ w'.cell? ⟨w.heap.size + 1, 2, none⟩ = some (.slice ba bm bc))
      (first | exact ⟨q1.c0, q1.c1, q1.c2, q2.c0, q2.c1, q2.c2⟩ | exact ⟨(q1.other3 (by omega) _ _ _).c0, (q1.other3 (by omega) _ _ _).c1, (q1.other3 (by omega) _ _ _).c2, (q2.other3 (by omega) _ _ _).c0, (q2.other3 (by omega) _ _ _).c1, (q2.other3 (by omega) _ _ _).c2⟩ | go_keep) ((go_at_call 132; refine hcat.mono ?_; rintro e w' ⟨va, vm, vc, rfl, ho, hbl⟩; obtain ⟨q1, q2, q3⟩ := HQ.out _ hbl; obtain ⟨r0, r1, r2, r3, r4, r5, _⟩ := q3))
  all_goals
    go_wp2_with fail
    have e1 : IntKind.i64.wrap ((aw : Int) + (bw : Int)) = ((aw + bw : Nat) : Int) := by rw [IntKind.wrap_i64]; omega
    have e2 : (if bl < al then (bl : Int) else (al : Int)) = ((min al bl : Nat) : Int) := by
      by_cases h : bl < al
      · rw [if_pos h]; omega
      · rw [if_neg h]; omega
    have HNB : ∀ g, (Value.slice va vm vc).ownBlock = some g → g ≠ w.heap.size + 1 + 1 := fun g hg => by
      obtain ⟨cur, hc, hb⟩ := own_block ho hg
      have := HS4.out
      omega
    have HK : Hid (Below W4.heap.size W4 w') := hbl
    refine bodyPost_ret (v := gV (Hf.gjoin ⟨aw, al, asg, .slice aa am ac⟩ ⟨bw, bl, bsg, .slice ba bm bc⟩ (.slice va vm vc))) ?_ rfl ⟨.slice va vm vc, rfl, ?_, ?_⟩
    · try rw [e2]
      rw [e1]
      simp [results, asAddr, go_sem, r0, r1, r2, gV, Hf.gjoin]
      try omega
    · have hlow : w.heap.size ≤ W4.heap.size := by have := HS4.out; omega
      have ho2 := ho
      rw [List.length_append] at ho2
      first
        | exact row_lower (own_kept ho ((((Kept.refl (fun k => k ≠ w.heap.size + 1 + 1) w').setCell (by simp) _).setCell (by simp) _).setCell (by simp) _) HNB) hlow
        | exact row_lower (own_kept ho2 ((((Kept.refl (fun k => k ≠ w.heap.size + 1 + 1) w').setCell (by simp) _).setCell (by simp) _).setCell (by simp) _) HNB) hlow
    · exact (((HB4.out.trans (HK.out.mono HB4.out.size)).setCell (by simp; omega) _).setCell (by simp; omega) _).setCell (by simp; omega) _
end Go.Proofs.Ytkhejelmjkpgfaa

namespace Go.Proofs.Ytkhejelmjkpgfaa
open Go.RowKit
set_option maxRecDepth 4000

theorem take_form (base Hb : Nat) (v : Value) (l : List Hf.G) (w : World) (h : Heap w base Hb v l) (h0 : 0 < l.length) (hl : l.length ≤ 256) (ho : Hf.Ord l) :
    ∃ xw xl xs xa xm xc, Hf.nth l 0 = ⟨xw, xl, xs, .slice xa xm xc⟩ ∧
    Calls Try.prog 106 #[.pointer (some ⟨Hb, 0, none⟩)] w fun e w' => e = .returned (.agg #[.int .i64 (xw : Nat), .int .i64 (xl : Nat), .slice xa xm xc]) ∧ ∃ v' l', l.Perm (⟨xw, xl, xs, .slice xa xm xc⟩ :: l') ∧ Hf.Ord l' ∧ v'.ownBlock = v.ownBlock ∧ Heap w' base Hb v' l' ∧ Stays Hb v w w' := by
  obtain ⟨xa, xm, xc, e⟩ := own_slice (h.signs _ (Hf.nth_mem h0))
  have ex : Hf.nth l 0 = (⟨(Hf.nth l 0).wt, (Hf.nth l 0).low, (Hf.nth l 0).sg, .slice xa xm xc⟩ : Hf.G) := by rw [← e]
  refine ⟨_, _, _, xa, xm, xc, ex, ?_⟩
  have := take_any base Hb v l w h h0 hl ho
  rw [ex] at this
  exact this
/-- how many items a heap has -/
def itemsLen (W : World) (B : Nat) : Nat :=
  match W.cell? ⟨B, 1, none⟩ with
  | some (.slice _ n _) => n
  | _ => 0
theorem Heap.len {W : World} {base Hb : Nat} {v : Value} {l : List Hf.G} (h : Heap W base Hb v l) : itemsLen W Hb = l.length := by
  obtain ⟨a, c, rfl⟩ := h.slice
  unfold itemsLen
  rw [h.cells.2.1]
namespace Hf
theorem nlt_of {c a : G} (h : ltG c a = false) : nlt (ab c) (ab a) := by
  rw [ltG_not] at h
  unfold nlt ab
  dsimp only
  omega
theorem up_set (l : List Nat) (i x : Nat) : up (l.set i x) = (up l).set i (x : Int) := by
  unfold up
  rw [List.map_set]
theorem up_zero (n : Nat) : up (List.replicate n 0) = List.replicate n 0 := by simp [up]
theorem bump_few {out s : List Nat} {k : Nat} (hn : s.Nodup) (hs : ∀ i ∈ s, i < out.length) (h : ∀ i, out.getD i 0 ≤ 256) (i : Nat) : (bump out (s.take k)).getD i 0 ≤ 257 := by
  rw [bump_get (hn.sublist (List.take_sublist _ _)) (fun j hj => hs j (List.mem_of_mem_take hj))]
  have := h i
  split <;> omega
theorem bump_next {out s : List Nat} {k : Nat} (hk : k < s.length) : bump out (s.take (k + 1)) = (bump out (s.take k)).set (s.getD k 0) ((bump out (s.take k)).getD (s.getD k 0) 0 + 1) := by
  rw [List.take_succ_eq_append_getElem hk, bump_more]
  rw [List.getD_eq_getElem?_getD (l := s), List.getElem?_eq_getElem hk]
  rfl
end Hf
/-- a heap, the numbers that it has made so far, and the row that they lie in -/
structure Lst (F : List Nat) (w wr : World) (Lb B : Nat) (l : List Hf.G) (u : Value) (out : List Nat) : Prop where
  heap : Heap wr B B u l
  ord : Hf.Ord l
  inv : Hf.Inv F (l.map Hf.ab) out
  row : wr.ownsRow w.heap.size 3 1 (.slice (some ⟨Lb, 0, none⟩) F.length F.length) F.length ((Hf.up out).map Iv)
  bel : Below w.heap.size w wr

set_option maxHeartbeats 1000000 in
theorem lengths_bad (v : Value) (l : List Int) (w : World) (h : Ints w v l) (hl : l.length ≤ 140737488351232) (hb : Hf.sgn 1048576 l = false) :
    Calls Try.prog 71 #[v] w fun e w' => e = .returned (.tuple #[.slice none 0 0, .int .i64 1]) ∧ w' = w := by
  have hs := signs_any v l 1048576 w h hl
  rw [hb] at hs
  clear hb
  go_enter Try.func71, Try.ntmps71
  go_wp2_with fail
  refine hs.mono ?_
  rintro e w' ⟨rfl, rfl⟩
  go_wp2_with fail
  go_ret2
  exact ⟨rfl, rfl⟩

set_option maxHeartbeats 8000000 in
theorem lengths_any (v : Value) (F : List Nat) (w : World) (h : Ints w v (Hf.up F)) (h1 : 1 ≤ F.length) (h2 : F.length ≤ 256) (h3 : ∀ n ∈ F, n ≤ 1048576) :
    Calls Try.prog 71 #[v] w fun e w' => ∃ v' out, e = .returned (.tuple #[v', .int .i64 0]) ∧ Hf.HL F out ∧ w'.ownsRow w.heap.size 3 1 v' F.length ((Hf.up out).map Iv) ∧ Below w.heap.size w w' := by
  have hs := signs_any v (Hf.up F) 1048576 w h (by rw [Hf.up_length]; omega)
  rw [show Hf.sgn 1048576 (Hf.up F) = true from Hf.sgn_all (by rw [Hf.up_length]; exact h1) (by rw [Hf.up_length]; exact h2) fun j hj => by
    rw [Hf.up_get]; have := Hf.getD_le h3 j; omega] at hs
  obtain ⟨i0, hi, hz0, hz1, hz2⟩ := info_parts info_int
  obtain ⟨a, c, rfl⟩ := h.slice
  rw [Hf.up_length] at h hs ⊢
  have HST : Hid (Hf.Inv F (Hf.init F F.length) (List.replicate F.length 0)) := Hf.Inv.start h2 h3
  have hgr := fun W (hW : Below w.heap.size w W) => groups_any (.slice a F.length c) F W (h.below (Nat.le_refl _) hW) h2 h3
  have H3 : Hid (∀ n ∈ F, n ≤ 1048576) := h3
  clear h3
  go_enter Try.func71, Try.ntmps71
  go_wp2_with fail
  refine hs.mono ?_
  rintro e w' ⟨rfl, rfl⟩
  clear hs
  go_wp2_with (at_make; refine wpList_make_full _ rfl (.tmp 15) (.tmp 15) 82 rfl w'.heap.size 3 i0 (.int .i64 0) 1 Try.underlying82 hi hz0 hz1 .i64 .i64 _ _ F.length rfl rfl rfl rfl (by rw [hz2]; omega) (by unfold maxLen; omega) (Nat.le_refl _) ?_; intro w1 hown hgrow)
  have hown1 := made_zeros hown
  rw [← Hf.up_zero] at hown1
  have hB1 : Below w'.heap.size w' w1 := (Below.refl _ _).grown hgrow (Nat.le_refl _) (fun k hk => by cases hk)
  have hLb : w'.heap.size < w1.heap.size := by obtain ⟨cur, hc, _⟩ := own_block hown1 rfl; exact (Array.getElem?_eq_some_iff.1 hc).1
  have hg := hgr w1 hB1
  clear hown hgrow hgr
  go_wp2_with fail
  refine hg.mono ?_
  rintro e w2 ⟨rfl, u, l, hH, hO, hP, hB2⟩
  clear hg
  have HS : Hid (Lst F w' w2 w'.heap.size w1.heap.size l u (List.replicate F.length 0)) :=
    ⟨hH, hO, HST.out.perm hP.symm, row_below hown1 hB2, hB1.trans (hB2.mono (by omega))⟩
  have HPL : Hid ((l.map Hf.ab).Perm (Hf.init F F.length)) := hP
  have hsz := size_any _ _ _ _ _ hH
  have hll : l.length ≤ 256 := by have := HS.out.inv.few 0; rw [List.length_map] at this; omega
  clear hH hO hP hB2 hown1 hB1
  go_wp2_with fail
  refine hsz.mono ?_
  rintro e w3 ⟨rfl, rfl⟩
  clear hsz
  by_cases hone : l.length = 1
  · obtain ⟨xw, xl, xs, xa, xm, xc, hx, htk⟩ := take_form _ _ _ _ _ HS.out.heap (by omega) (by omega) HS.out.ord
    have heq : ((l.length : Int) == 1) = true := by simp; omega
    have hxl : xl < F.length := by
      have h0 : Hf.ab (Hf.nth l 0) ∈ l.map Hf.ab := List.mem_map_of_mem (Hf.nth_mem (by omega))
      rw [hx] at h0
      exact HS.out.inv.st.lt _ h0 _ (HS.out.inv.st.low _ h0)
    have HHL : Hid (Hf.HL F ((List.replicate F.length 0).set xl 1)) := by
      have hl1 : l = [Hf.nth l 0] := by
        obtain ⟨y, rfl⟩ := List.length_eq_one_iff.1 hone
        rfl
      have hp := HPL.out
      rw [hl1, hx] at hp
      have hp : Hf.init F F.length = [(xw, xl, xs)] := List.perm_singleton.1 hp.symm
      refine ⟨by simp, fun e => by rw [hp] at e; simp at e, fun x e => ?_, fun e => by rw [hp] at e; simp at e⟩
      rw [hp] at e
      have : x = (xw, xl, xs) := by simpa using e.symm
      rw [this]
    have hrow := HS.out.row
    have HRB : Hid (∀ W, Stays w1.heap.size u w3 W → W.ownsRow w'.heap.size 3 1 (.slice (some ⟨w'.heap.size, 0, none⟩) F.length F.length) F.length ((Hf.up (List.replicate F.length 0)).map Iv) ∧ Below w'.heap.size w' W) := fun W hW => by
      have hb := HS.out.heap.below hW
      refine ⟨own_kept hrow hW fun g hg => ?_, HS.out.bel.trans (hb.mono (by omega))⟩
      exact HS.out.heap.sign_apart hrow g hg
    clear hrow HS HST HPL hx
    go_wp2_with fail
    refine htk.mono ?_
    rintro e w4 ⟨rfl, u4, l4, _, _, _, _, k4⟩
    obtain ⟨r4, b4⟩ := HRB.out w4 k4
    have x1 := own_at r4 xl (by rw [Hf.up_length, List.length_replicate]; exact hxl)
    have x2 := r4.frozenAt xl
    have HO : Hid ((w4.setCell ⟨w'.heap.size, xl, none⟩ (.int .i64 1)).ownsRow w'.heap.size 3 1 (.slice (some ⟨w'.heap.size, 0, none⟩) F.length F.length) F.length ((Hf.up ((List.replicate F.length 0).set xl 1)).map Iv)) := by
      rw [Hf.up_set]; exact own_store r4 xl 1
    have HB : Hid (Below w'.heap.size w' (w4.setCell ⟨w'.heap.size, xl, none⟩ (.int .i64 1))) := b4.setCell (Nat.le_refl _) _
    generalize (Hf.up (List.replicate F.length 0))[xl]'(by rw [Hf.up_length, List.length_replicate]; exact hxl) = x at *
    have hfd : ∀ W : World, (Instr.field 145 (.agg #[.int .i64 (xw : Int), .int .i64 (xl : Int), .slice xa xm xc]) 1).run Try.prog W = .ok (.int .i64 (xl : Int)) W := fun _ => by kernel_rfl
    clear r4 b4 k4 htk HRB
    go_wp2_with fail
    go_ret2
    exact ⟨_, _, rfl, HHL.out, HO.out, HB.out⟩
  · obtain ⟨N0, hN0⟩ : ∃ N0, N0 = (Hf.init F F.length).length := ⟨_, rfl⟩
    have hlN : l.length = N0 := by rw [hN0, ← HPL.out.length_eq, List.length_map]
    have HN0 : Hid (N0 = (Hf.init F F.length).length) := hN0
    have HN1 : Hid (N0 ≠ 1) := by rw [← hlN]; exact hone
    have HST2 : Hid (∃ u l out, Lst F w' w3 w'.heap.size w1.heap.size l u out ∧ (N0 = 0 → out = List.replicate F.length 0 ∧ l.length = 0) ∧ (N0 ≠ 0 → 1 ≤ l.length)) := ⟨u, l, _, HS.out, fun e => ⟨rfl, by omega⟩, fun h => by omega⟩
    have hne : ((N0 : Int) == 1) = false := by simp; omega
    clear hN0
    go_wp2_with fail
    clear hlN HS HPL hll hone hne HST
    go_loopw [] (fun wr => Hid (∃ u l out, Lst F w' wr w'.heap.size w1.heap.size l u out ∧ (N0 = 0 → out = List.replicate F.length 0 ∧ l.length = 0) ∧ (N0 ≠ 0 → 1 ≤ l.length))) (fun wr => itemsLen wr w1.heap.size)
    case atStart => exact HST2
    case round =>
      obtain ⟨u, l, out, hS, hz, hnz⟩ := hrel.out
      have hll : l.length ≤ 256 := by have := hS.inv.few 0; rw [List.length_map] at this; omega
      have HLN : Hid (itemsLen wr w1.heap.size = l.length) := hS.heap.len
      have hsz := size_any _ _ _ _ _ hS.heap
      have HS : Hid (Lst F w' wr w'.heap.size w1.heap.size l u out) := hS
      have HZ : Hid (N0 = 0 → out = List.replicate F.length 0 ∧ l.length = 0) := hz
      have HNZ : Hid (N0 ≠ 0 → 1 ≤ l.length) := hnz
      clear hS hz hnz hrel
      go_wp2_with fail
      refine hsz.mono ?_
      rintro e w4 ⟨rfl, rfl⟩
      clear hsz
      by_cases hlt : 1 < l.length
      · obtain ⟨xw, xl, xs, xa, xm, xc, hx, htk⟩ := take_form _ _ _ _ _ HS.out.heap (by omega) (by omega) HS.out.ord
        have HX : Hid (∀ c ∈ l, Hf.ltG c ⟨xw, xl, xs, .slice xa xm xc⟩ = false) := fun c hc => by rw [← hx]; exact HS.out.ord.first_mem c hc
        have HSX : Hid (w4.ownsRow w1.heap.size 3 1 (.slice xa xm xc) xs.length ((Hf.up xs).map Iv)) := by
          have := HS.out.heap.signs _ (Hf.nth_mem (show 0 < l.length by omega))
          rw [hx] at this
          exact this
        clear hx
        go_wp2_with fail
        refine htk.mono ?_
        rintro e w5 ⟨rfl, u5, l5, p5, o5, _, H5, K5⟩
        clear htk
        have hl5 : l.length = l5.length + 1 := by have := p5.length_eq; simpa using this
        have hsx5 : w5.ownsRow w1.heap.size 3 1 (.slice xa xm xc) xs.length ((Hf.up xs).map Iv) := own_kept HSX.out K5 (HS.out.heap.sign_apart HSX.out)
        have hrow5 : w5.ownsRow w'.heap.size 3 1 (.slice (some ⟨w'.heap.size, 0, none⟩) F.length F.length) F.length ((Hf.up out).map Iv) := own_kept HS.out.row K5 (HS.out.heap.sign_apart HS.out.row)
        have hbel5 : Below w'.heap.size w' w5 := HS.out.bel.trans ((HS.out.heap.below K5).mono (by omega))
        have hinv := HS.out.inv.perm (p5.map Hf.ab)
        have hA : ∀ c ∈ l5, Hf.nlt (Hf.ab c) (Hf.ab ⟨xw, xl, xs, .slice xa xm xc⟩) := fun c hc => Hf.nlt_of (HX.out c (p5.mem_iff.2 (List.mem_cons_of_mem _ hc)))
        obtain ⟨W6, hW6⟩ : ∃ W6, W6 = w5.alloc (.cells #[.int .i64 (xw : Int), .int .i64 (xl : Int), .slice xa xm xc] 145) := ⟨_, rfl⟩
        have hb56 : Below w5.heap.size w5 W6 := by rw [hW6]; exact (Below.refl _ _).alloc (Nat.le_refl _) _
        have H6 : Heap W6 w1.heap.size w1.heap.size u5 l5 := H5.keep hb56
        have X6 : Hid (GBox W6 w5.heap.size ⟨xw, xl, xs, .slice xa xm xc⟩) := by rw [hW6]; exact GBox.new w5 ⟨xw, xl, xs, .slice xa xm xc⟩
        have HSX6 : Hid (W6.ownsRow w1.heap.size 3 1 (.slice xa xm xc) xs.length ((Hf.up xs).map Iv)) := row_below hsx5 hb56
        have HR6 : Hid (W6.ownsRow w'.heap.size 3 1 (.slice (some ⟨w'.heap.size, 0, none⟩) F.length F.length) F.length ((Hf.up out).map Iv)) := row_below hrow5 hb56
        have HB6 : Hid (Below w'.heap.size w' W6) := hbel5.trans (hb56.mono hbel5.size)
        have HI : Hid (Hf.Inv F (Hf.ab ⟨xw, xl, xs, .slice xa xm xc⟩ :: l5.map Hf.ab) out) := hinv
        have HA : Hid (∀ c ∈ l5, Hf.nlt (Hf.ab c) (Hf.ab ⟨xw, xl, xs, .slice xa xm xc⟩)) := hA
        obtain ⟨yw, yl, ys, ya, ym, yc, hy, htk⟩ := take_form _ _ _ _ _ H6 (by omega) (by omega) o5
        have HY : Hid (∀ c ∈ l5, Hf.ltG c ⟨yw, yl, ys, .slice ya ym yc⟩ = false) := fun c hc => by rw [← hy]; exact o5.first_mem c hc
        have HSY : Hid (W6.ownsRow w1.heap.size 3 1 (.slice ya ym yc) ys.length ((Hf.up ys).map Iv)) := by
          have := H6.signs _ (Hf.nth_mem (show 0 < l5.length by omega))
          rw [hy] at this
          exact this
        have HH6 : Hid (Heap W6 w1.heap.size w1.heap.size u5 l5) := H6
        have HL5 : Hid (l.length = l5.length + 1) := hl5
        have HNE : Hid (w5.heap.size ≠ w1.heap.size ∧ u5.ownBlock ≠ some w5.heap.size) := by
          refine ⟨fun e => ?_, fun e => ?_⟩
          · have := H5.lt; omega
          · obtain ⟨cur, hc, _⟩ := own_block H5.row e
            have := (Array.getElem?_eq_some_iff.1 hc).1
            omega
        clear hy p5 o5 H5 K5 hl5 hsx5 hrow5 hbel5 hinv hA hb56 H6 HX HSX
        go_wp2_with fail
        rw [← hW6]
        refine htk.mono ?_
        rintro e w7 ⟨rfl, u7, l7, p7, o7, _, H7, K7⟩
        clear htk hW6
        have hw5 : w5.heap.size < W6.heap.size := X6.out.lt
        have X7 : GBox w7 w5.heap.size ⟨xw, xl, xs, .slice xa xm xc⟩ := X6.out.kept K7 HNE.out
        have hl7 : l5.length = l7.length + 1 := by have := p7.length_eq; simpa using this
        have hsx7 : w7.ownsRow w1.heap.size 3 1 (.slice xa xm xc) xs.length ((Hf.up xs).map Iv) := own_kept HSX6.out K7 (HH6.out.sign_apart HSX6.out)
        have hsy7 : w7.ownsRow w1.heap.size 3 1 (.slice ya ym yc) ys.length ((Hf.up ys).map Iv) := own_kept HSY.out K7 (HH6.out.sign_apart HSY.out)
        have hrow7 : w7.ownsRow w'.heap.size 3 1 (.slice (some ⟨w'.heap.size, 0, none⟩) F.length F.length) F.length ((Hf.up out).map Iv) := own_kept HR6.out K7 (HH6.out.sign_apart HR6.out)
        have hbel7 : Below w'.heap.size w' w7 := HB6.out.trans ((HH6.out.below K7).mono (by omega))
        have hinv : Hf.Inv F (Hf.ab ⟨xw, xl, xs, .slice xa xm xc⟩ :: Hf.ab ⟨yw, yl, ys, .slice ya ym yc⟩ :: l7.map Hf.ab) out := HI.out.perm ((p7.map Hf.ab).cons _)
        have hA : ∀ c ∈ Hf.ab ⟨yw, yl, ys, .slice ya ym yc⟩ :: l7.map Hf.ab, Hf.nlt c (Hf.ab ⟨xw, xl, xs, .slice xa xm xc⟩) := fun c hc => by
          have hc : c ∈ (⟨yw, yl, ys, .slice ya ym yc⟩ :: l7).map Hf.ab := hc
          obtain ⟨g, hg, rfl⟩ := List.mem_map.1 hc
          exact HA.out g (p7.mem_iff.2 hg)
        have hBq : ∀ c ∈ l7.map Hf.ab, Hf.nlt c (Hf.ab ⟨yw, yl, ys, .slice ya ym yc⟩) := fun c hc => by
          obtain ⟨g, hg, rfl⟩ := List.mem_map.1 hc
          exact Hf.nlt_of (HY.out g (p7.mem_iff.2 (List.mem_cons_of_mem _ hg)))
        have hstep := hinv.step (s := xs ++ ys) hA hBq (List.Perm.refl _)
        have hx1 : 1 ≤ xs.length := List.length_pos_of_mem (hinv.st.low _ List.mem_cons_self)
        have hy1 : 1 ≤ ys.length := List.length_pos_of_mem (hinv.st.low _ (List.mem_cons_of_mem _ List.mem_cons_self))
        have hxy : xs.length + ys.length ≤ 256 := by
          have := hinv.st.count
          simp only [List.flatMap_cons, List.length_append, Hf.ab] at this
          omega
        have hwt : xw + yw ≤ 1000000000 := by
          have := hinv.st.wt
          simp only [List.map_cons, List.sum_cons, Hf.ab] at this
          omega
        obtain ⟨W8, hW8⟩ : ∃ W8, W8 = w7.alloc (.cells #[.int .i64 (yw : Int), .int .i64 (yl : Int), .slice ya ym yc] 145) := ⟨_, rfl⟩
        have hb78 : Below w7.heap.size w7 W8 := by rw [hW8]; exact (Below.refl _ _).alloc (Nat.le_refl _) _
        have X8 := X7.below hb78 X7.lt
        have Y8 : GBox W8 w7.heap.size ⟨yw, yl, ys, .slice ya ym yc⟩ := by rw [hW8]; exact GBox.new w7 ⟨yw, yl, ys, .slice ya ym yc⟩
        have hj := join_any w1.heap.size ⟨xw, xl, xs, .slice xa xm xc⟩ ⟨yw, yl, ys, .slice ya ym yc⟩ W8 (row_below hsx7 hb78) (row_below hsy7 hb78) hx1 hy1 hxy hwt
        have H8 : Hid (Heap W8 w1.heap.size w1.heap.size u7 l7) := H7.keep hb78
        have HR8 : Hid (W8.ownsRow w'.heap.size 3 1 (.slice (some ⟨w'.heap.size, 0, none⟩) F.length F.length) F.length ((Hf.up out).map Iv)) := row_below hrow7 hb78
        have HB8 : Hid (Below w'.heap.size w' W8) := hbel7.trans (hb78.mono hbel7.size)
        have HO7 : Hid (Hf.Ord l7) := o7
        have HL7 : Hid (l5.length = l7.length + 1) := hl7
        have HSTEP : Hid (Hf.Inv F ((xw + yw, min xl yl, xs ++ ys) :: l7.map Hf.ab) (Hf.bump out (xs ++ ys))) := hstep
        have HST7 : Hid (Hf.St F.length ((xw + yw, min xl yl, xs ++ ys) :: l7.map Hf.ab)) := hstep.st
        have HFEW : Hid (∀ i, out.getD i 0 ≤ 256) := fun i => by have := hinv.few i; omega
        have HLEN : Hid (out.length = F.length) := hinv.len
        obtain ⟨S, hS⟩ : ∃ S, xs ++ ys = S := ⟨_, rfl⟩
        obtain ⟨jw, hjw⟩ : ∃ jw, xw + yw = jw := ⟨_, rfl⟩
        obtain ⟨jl, hjl⟩ : ∃ jl, min xl yl = jl := ⟨_, rfl⟩
        unfold Hf.gjoin gV at hj
        dsimp only at hj
        rw [hS, hjw, hjl] at hj HSTEP HST7
        have HSL : Hid (S.length ≤ 256 ∧ 1 ≤ S.length) := by rw [← hS, List.length_append]; exact ⟨hxy, by omega⟩
        obtain ⟨a0, a1, a2, _, _, _, h57⟩ := X7
        dsimp only at a0 a1 a2
        rw [hW8] at hj
        clear p7 o7 H7 K7 hl7 hsx7 hsy7 hrow7 hbel7 hinv hA hBq hstep hx1 hy1 hxy hwt hb78 X8 Y8 hS hjw hjl X6 HSX6 HR6 HB6 HI HA HY HSY HH6 HNE
        go_wp2_with fail
        refine hj.mono ?_
        rw [← hW8]
        rintro e w9 ⟨v9, rfl, o9, hb9⟩
        obtain ⟨va, vm, vc, rfl⟩ := own_slice o9
        clear hj hW8 a0 a1 a2 h57
        have hw8 := HB8.out.size
        have H9 := H8.out.keep hb9
        have hr9 := row_below HR8.out hb9
        have hbl9 : Below w'.heap.size w' w9 := HB8.out.trans (hb9.mono hw8)
        obtain ⟨W10, hW10⟩ : ∃ W10, W10 = w9.alloc (.cells #[.int .i64 (jw : Int), .int .i64 (jl : Int), .slice va vm vc] 145) := ⟨_, rfl⟩
        have hbA : Below w9.heap.size w9 W10 := by rw [hW10]; exact (Below.refl _ _).alloc (Nat.le_refl _) _
        have J10 : GBox W10 w9.heap.size ⟨jw, jl, S, .slice va vm vc⟩ := by rw [hW10]; exact GBox.new w9 ⟨jw, jl, S, .slice va vm vc⟩
        have H10 : Hid (Heap W10 w1.heap.size w1.heap.size u7 l7) := H9.keep hbA
        have HR10 : Hid (W10.ownsRow w'.heap.size 3 1 (.slice (some ⟨w'.heap.size, 0, none⟩) F.length F.length) F.length ((Hf.up out).map Iv)) := row_below hr9 hbA
        have HB10 : Hid (Below w'.heap.size w' W10) := hbl9.trans (hbA.mono hbl9.size)
        have hwl : w1.heap.size ≤ W8.heap.size := by have := H8.out.lt; omega
        have HV10 : Hid (W10.ownsRow w1.heap.size 3 1 (.slice va vm vc) S.length ((Hf.up S).map Iv)) := row_lower (row_below o9 hbA) hwl
        have HJ10 : Hid (GBox W10 w9.heap.size ⟨jw, jl, S, .slice va vm vc⟩) := J10
        have hw9 : w'.heap.size < w9.heap.size := by have := hb9.size; omega
        obtain ⟨vg, rfl, hvm⟩ : ∃ vg, va = some ⟨vg, 0, none⟩ ∧ vm = S.length := by
          rcases o9.2 with ⟨e, h0⟩ | ⟨g, cap, cur, e, _⟩
          · have := HSL.out; omega
          · simp at e
            exact ⟨g, e.1, e.2.1⟩
        subst hvm
        clear J10 H9 hr9 hbl9 hbA o9 hb9 H8 HR8 HB8 hwl
        go_wp2_with fail
        rw [← hW10]
        clear hW10
        have HSN : Hid (S.Nodup) := by
          have := HST7.out.nodup
          rw [List.flatMap_cons, List.nodup_append] at this
          exact this.1
        have HSB : Hid (∀ i ∈ S, i < F.length) := fun i hi => HST7.out.lt _ List.mem_cons_self i hi
        go_loopw [41] (fun x wr => ∃ k : Nat, k ≤ S.length ∧ x = .int .i64 k ∧ Hid (Kept (fun q => q ≠ w'.heap.size) W10 wr) ∧ wr.ownsRow w'.heap.size 3 1 (.slice (some ⟨w'.heap.size, 0, none⟩) F.length F.length) F.length ((Hf.up (Hf.bump out (S.take k))).map Iv)) (fun x _ => S.length - (intOf x).toNat)
        case atStart => exact ⟨0, by omega, rfl, Kept.refl _ _, HR10.out⟩
        case round =>
          obtain ⟨k, hk, rfl, hkp, hrow⟩ := hrel
          have hS256 := HSL.out.1
          by_cases hkl : k < S.length
          · have hvr := own_kept HV10.out hkp.out (fun g hg => by obtain ⟨_, _, hb⟩ := own_block HV10.out hg; omega)
            have hc0 := own_at hvr k (by rw [Hf.up_length]; exact hkl)
            rw [Hf.up_get] at hc0
            have hsk : S.getD k 0 < F.length := HSB.out _ (by rw [List.getD_eq_getElem?_getD, List.getElem?_eq_getElem hkl]; exact List.getElem_mem hkl)
            have HN : Hid (Hf.bump out (S.take (k + 1)) = (Hf.bump out (S.take k)).set (S.getD k 0) ((Hf.bump out (S.take k)).getD (S.getD k 0) 0 + 1)) := Hf.bump_next hkl
            have hbl : (Hf.bump out (S.take k)).length = F.length := by rw [Hf.bump_length]; exact HLEN.out
            have hfew := Hf.bump_few (k := k) HSN.out (fun i hi => by rw [HLEN.out]; exact HSB.out i hi) HFEW.out (S.getD k 0)
            generalize S.getD k 0 = sk at *
            have hc1 := own_at hrow sk (by rw [Hf.up_length, hbl]; exact hsk)
            rw [Hf.up_get] at hc1
            have hfz := hrow.frozenAt sk
            have HO := own_store hrow sk (((Hf.bump out (S.take k)).getD sk 0 + 1 : Nat) : Int)
            rw [← Hf.up_set, ← HN.out] at HO
            generalize (Hf.bump out (S.take k)).getD sk 0 = X at *
            have HO' : Hid ((wr.setCell ⟨w'.heap.size, sk, none⟩ (.int .i64 ((X : Int) + 1))).ownsRow w'.heap.size 3 1 (.slice (some ⟨w'.heap.size, 0, none⟩) F.length F.length) F.length ((Hf.up (Hf.bump out (S.take (k + 1)))).map Iv)) := HO
            have HK' : Hid (Kept (fun q => q ≠ w'.heap.size) W10 (wr.setCell ⟨w'.heap.size, sk, none⟩ (.int .i64 ((X : Int) + 1)))) := hkp.out.setCell (by simp) _
            clear HO hrow hkp hvr HN hbl
            go_wp2_with fail
            go_roundw
            case rel => exact ⟨k + 1, by omega, by go_num, HK', HO'.out⟩
            case measure => simp only [intOf]; omega
          · obtain rfl : k = S.length := by omega
            rw [List.take_length] at hrow
            have hH := H10.out.kept hkp.out (fun q hq _ => by omega)
            have hV := own_kept HV10.out hkp.out (fun g hg => by obtain ⟨_, _, hb⟩ := own_block HV10.out hg; omega)
            have hJ := HJ10.out.kept hkp.out (by omega)
            have hBw : Below w'.heap.size w' wr := HB10.out.trans (hkp.out.below HB10.out.size fun q hq => by omega)
            have hl7 : l7.length < 256 := by have := HL5.out; have := HL7.out; omega
            have hput := put_any w1.heap.size w1.heap.size u7 l7 ⟨jw, jl, S, .slice (some ⟨vg, 0, none⟩) S.length vc⟩ wr hH hV hl7 HO7.out
            unfold gV at hput
            dsimp only at hput
            have HH : Hid (Heap wr w1.heap.size w1.heap.size u7 l7) := hH
            have HRW : Hid (wr.ownsRow w'.heap.size 3 1 (.slice (some ⟨w'.heap.size, 0, none⟩) F.length F.length) F.length ((Hf.up (Hf.bump out S)).map Iv)) := hrow
            have HBW : Hid (Below w'.heap.size w' wr) := hBw
            obtain ⟨j0, j1, j2, _, _, _, _⟩ := hJ
            dsimp only at j0 j1 j2
            clear hH hV hBw hrow hkp
            go_wp2_with fail
            refine hput.mono ?_
            rintro e w11 ⟨rfl, u11, l11, p11, o11, H11, K11⟩
            clear hput j0 j1 j2
            have HI11 : Hid (∃ u l out, Lst F w' w11 w'.heap.size w1.heap.size l u out ∧ (N0 = 0 → out = List.replicate F.length 0 ∧ l.length = 0) ∧ (N0 ≠ 0 → 1 ≤ l.length)) := by
              refine ⟨u11, l11, Hf.bump out S, ⟨H11, o11, ?_, own_kept HRW.out K11 (HH.out.sign_apart HRW.out), HBW.out.trans ((HH.out.below K11).mono (by omega))⟩, fun e => ?_, fun _ => ?_⟩
              · exact HSTEP.out.perm ((p11.map Hf.ab).symm)
              · have := (HZ.out e).2; omega
              · rw [p11.length_eq]; simp
            have HM : Hid (itemsLen w11 w1.heap.size < itemsLen w4 w1.heap.size) := by
              show _ < _
              rw [H11.len, HLN.out, p11.length_eq]
              have := HL5.out
              have := HL7.out
              simp
              omega
            clear p11 o11 H11 K11
            go_wp2_with fail
            go_roundw
            case rel => exact HI11
            case measure => exact HM.out
      · have HHL : Hid (Hf.HL F out) := by
          refine ⟨HS.out.inv.len, fun e => (HZ.out (by rw [HN0.out]; exact e)).1, fun x e => absurd (by rw [HN0.out, e]; rfl) HN1.out, fun e => ?_⟩
          have h1 : l.length = 1 := by have := HNZ.out (by rw [HN0.out]; omega); omega
          obtain ⟨y, rfl⟩ := List.length_eq_one_iff.1 h1
          exact HS.out.inv.done
        go_wp2_with fail
        go_ret2
        exact ⟨_, _, rfl, HHL.out, HS.out.row, HS.out.bel⟩
end Go.Proofs.Ytkhejelmjkpgfaa

namespace Go.Proofs.Ytkhejelmjkpgfaa
open Go.RowKit
set_option maxRecDepth 4000

namespace Pr
theorem chk_greedy {L : Bs} (h : L.length ≤ 4096) : Lz.chk (Lz.greedyR L) = 0 := by
  have hm := Lz.makes_greedy L
  have hl := Lz.makes_length L (Lz.greedy L) 0 hm
  have hg := hm.good
  unfold Lz.chk Lz.greedyR
  rw [if_neg (by rw [List.length_map]; omega), if_pos]
  intro t ht
  obtain ⟨u, hu, rfl⟩ := List.mem_map.1 ht
  exact (hg u hu).form
theorem pack_greedy {L : Bs} (h : L.length ≤ 4096) : Lz.packd (Lz.greedyR L) = T L ∧ (Lz.greedyR L).length ≤ 4096 := by
  have hm := Lz.makes_greedy L
  have hl := Lz.makes_length L (Lz.greedy L) 0 hm
  have hc := chk_greedy h
  refine ⟨?_, by unfold Lz.greedyR; rw [List.length_map]; omega⟩
  unfold Lz.packd T
  rw [if_pos hc]
  congr 1
  unfold Lz.greedyR
  rw [List.map_map]
  conv => rhs; rw [← List.map_id (Lz.greedy L)]
  exact List.map_congr_left fun t _ => Lz.raw_tok t
theorem words_le {l : List Nat} (h : ∀ i, l.getD i 0 ≤ 48) (t : List Nat) : (words l t).length ≤ 48 * t.length := by
  induction t with
  | nil => exact Nat.le_refl _
  | cons i t ih =>
    have := h i
    rw [words_cons, List.length_append, W_length, List.length_cons]
    omega
theorem put_len (n : Nat) : (Nm.put n).length ≤ 9 := by
  have := Nm.dig_length_le n
  unfold Nm.put
  simp only [List.length_cons]
  omega
/-- what stands ahead of the bits -/
def hdr (s : Bs) (wide : List Nat) : Bs := [1] ++ Nm.put s.length ++ Nm.put (T s).length ++ (Nm.put (manyFrom wide 0 256) ++ headFrom wide 0 256)
theorem cod_hdr (s : Bs) (wide : List Nat) : cod s wide = hdr s wide ++ upB (bytes (words wide (dnB (T s)))) := by
  unfold cod hdr
  simp only [List.append_assoc, List.cons_append, List.nil_append]
end Pr

set_option maxHeartbeats 4000000 in
theorem coded_any (s : ByteArray) (w : World) (hs : s.size ≤ 4096) :
    Calls Try.prog 45 #[.string s] w fun e w' => ∃ (wide : List Nat) (s' : ByteArray), e = .returned (.string s') ∧ s'.data.toList = Pr.cod s.data.toList wide ∧ Hf.HL (Pr.tally (Pr.T s.data.toList)) wide ∧ Below w.heap.size w w' := by
  obtain ⟨i0, hi, hz0, hz1, hz2⟩ := info_parts info_u8
  have hsl : s.data.toList.length ≤ 4096 := by rw [← Lib.size_eq]; exact hs
  obtain ⟨hpk, hgl⟩ := Pr.pack_greedy hsl
  have hTl := Pr.T_le s.data.toList
  have h1 := greedy_any s w hs
  go_enter Try.func45, Try.ntmps45
  go_wp2_with fail
  refine h1.mono ?_
  rintro e w1 ⟨v1, rfl, hr1, hb1⟩
  clear h1
  have h2 := pack_any v1 (Lz.greedyR s.data.toList) w1 (Toks.of_own hr1) (by omega)
  rw [hpk] at h2
  obtain ⟨Tk, hTk⟩ : ∃ Tk : ByteArray, Tk = ⟨(Pr.T s.data.toList).toArray⟩ := ⟨_, rfl⟩
  rw [← hTk] at h2
  have HT : Hid (Tk.data.toList = Pr.T s.data.toList) := by rw [hTk]; exact rfl
  have hTz : Tk.size ≤ 12288 := by rw [Lib.size_eq, HT.out]; omega
  have HB1 : Hid (Below w.heap.size w w1) := hb1
  generalize Lz.chk (Lz.greedyR s.data.toList) = q2 at *
  clear hTk hpk hr1 hb1 hTl hgl
  go_wp2_with fail
  refine h2.mono ?_
  rintro e w2 ⟨rfl, hb2⟩
  have HB2 : Hid (Below w.heap.size w w2) := HB1.out.trans (hb2.mono HB1.out.size)
  clear h2 hb2 HB1
  have h3 := tally_any Tk w2 (by omega)
  go_wp2_with fail
  refine h3.mono ?_
  rintro e w3 ⟨v3, rfl, hr3, hb3⟩
  clear h3
  rw [HT.out] at hr3
  have HB3 : Hid (Below w.heap.size w w3) := HB2.out.trans (hb3.mono HB2.out.size)
  have hF2 : (Pr.tally (Pr.T s.data.toList)).length = 256 := Pr.tally_length _
  have HF3 : Hid (∀ n ∈ Pr.tally (Pr.T s.data.toList), n ≤ 1048576) := fun n hn => by
    have := Pr.tally_le _ n hn
    have h2 : (Pr.T s.data.toList).length = Tk.size := by rw [← HT.out, ← Lib.size_eq]
    omega
  have HTH : Hid (∀ b ∈ Pr.T s.data.toList, 0 < (Pr.tally (Pr.T s.data.toList)).getD b.toNat 0) := fun b hb => Pr.tally_there hb
  have h4 := lengths_any v3 (Pr.tally (Pr.T s.data.toList)) w3 (Ints.of_own (base := w2.heap.size) (by rw [Hf.up_length, hF2]; exact hr3)) (by omega) (by omega) HF3.out
  clear hb3 HB2 hr3
  go_wp2_with fail
  refine h4.mono ?_
  rintro e w4 ⟨v4, wide, rfl, HHL, hr4, hb4⟩
  clear h4
  have hw256 : wide.length = 256 := by rw [HHL.len]; exact hF2
  have hg := Pr.good_of HHL (by omega) HF3.out
  have h48 := HHL.le48 (by omega) HF3.out
  have HG : Hid (Pr.Good wide) := hg
  have HHL' : Hid (Hf.HL (Pr.tally (Pr.T s.data.toList)) wide) := HHL
  have HTW : Hid (∀ b ∈ Pr.T s.data.toList, 0 < wide.getD b.toNat 0) := fun b hb => (HHL.there (by omega) HF3.out _).1 (HTH.out b hb)
  rw [hF2] at hr4
  have HW : Hid (wide.length = 256) := hw256
  have hi4 : Ints w4 v4 (Hf.up wide) := Ints.of_own (base := w3.heap.size) (by rw [Hf.up_length, hw256]; exact hr4)
  have h5 := codes_any v4 wide w4 hi4 (by omega) (by omega) h48 hg.sum
  rw [hw256] at h5
  have HB4 : Hid (Below w.heap.size w w4) := HB3.out.trans (hb4.mono HB3.out.size)
  obtain ⟨g4, c4, rfl⟩ : ∃ g4 c4, v4 = .slice (some ⟨g4, 0, none⟩) 256 c4 := by
    rcases hr4.2 with ⟨_, h0⟩ | ⟨g, cap, _, hv, _⟩
    · omega
    · exact ⟨g, cap, hv⟩
  have H48 : Hid (∀ n ∈ wide, n ≤ 48) := h48
  have HR4 : Hid (w4.ownsRow w3.heap.size 3 1 (.slice (some ⟨g4, 0, none⟩) 256 c4) 256 ((Hf.up wide).map Iv)) := hr4
  clear HHL hg h48 hF2 HF3 HTH hi4 hb4 HB3 hr4
  clear hw256
  go_wp2_with fail
  refine h5.mono ?_
  rintro e w5 ⟨v5, rfl, hr5, hb5⟩
  clear h5
  obtain ⟨g5, c5, rfl⟩ : ∃ g5 c5, v5 = .slice (some ⟨g5, 0, none⟩) 256 c5 := by
    rcases hr5.2 with ⟨_, h0⟩ | ⟨g, cap, _, hv, _⟩
    · omega
    · exact ⟨g, cap, hv⟩
  have HB5 : Hid (Below w.heap.size w w5) := HB4.out.trans (hb5.mono HB4.out.size)
  have HR5 : Hid (w5.ownsRow w4.heap.size 3 1 (.slice (some ⟨g5, 0, none⟩) 256 c5) 256 ((Hf.codes wide).map Iv)) := hr5
  have HR45 : Hid (w5.ownsRow w3.heap.size 3 1 (.slice (some ⟨g4, 0, none⟩) 256 c4) 256 ((Hf.up wide).map Iv)) := row_below HR4.out hb5
  clear HR4 HB4 hr5 hb5
  have hone := owns_one w5 1 (by omega) (by omega)
  obtain ⟨W6, hW6⟩ : ∃ W6, W6 = w5.alloc (.cells #[.int .u8 1] 5) := ⟨_, rfl⟩
  rw [← hW6] at hone
  have hb6 : Below w5.heap.size w5 W6 := by rw [hW6]; exact (Below.refl _ w5).alloc (Nat.le_refl _) _
  have HB6 : Hid (Below w5.heap.size w5 W6) := hb6
  have hs6 := hb6.size
  have e1 : [UInt8.ofNat (1 : Int).toNat] = [(1 : UInt8)] := rfl
  rw [e1] at hone
  have h6 := anum_any w5.heap.size (.slice (some ⟨w5.heap.size, 0, none⟩) 1 1) [1] s.size W6 hone hs6 (by simp) (by omega)
  rw [hW6] at h6
  clear hone hb6 e1
  go_wp2_with fail
  refine h6.mono ?_
  rw [← hW6]
  rintro e w7 ⟨v7, rfl, hr7, hb7, _⟩
  clear h6 hW6
  have hX7 : ([1] ++ Nm.put s.size).length ≤ 10 := by have := Pr.put_len s.size; simp only [List.length_append, List.length_cons, List.length_nil]; omega
  have HB7 : Hid (Below w5.heap.size w5 w7) := HB6.out.trans hb7
  have hs7 := HB7.out.size
  have h7 := anum_any w5.heap.size v7 ([1] ++ Nm.put s.size) Tk.size w7 hr7 hs7 (by omega) (by omega)
  clear hr7 hb7 HB6
  go_wp2_with fail
  refine h7.mono ?_
  rintro e w8 ⟨v8, rfl, hr8, hb8, _⟩
  clear h7
  have hX8 : ([1] ++ Nm.put s.size ++ Nm.put Tk.size).length ≤ 19 := by have := Pr.put_len Tk.size; rw [List.length_append]; omega
  have HB8 : Hid (Below w5.heap.size w5 w8) := HB7.out.trans hb8
  have hs8 := HB8.out.size
  have hr48 := own_kept HR45.out (Kept.of_below_at (p := fun k => k < w5.heap.size) HB8.out fun _ h => h) fun g hg => by
    obtain ⟨cur, hc, _⟩ := own_block HR45.out hg
    exact (Array.getElem?_eq_some_iff.1 hc).1
  have h8 := alens_any w5.heap.size v8 (.slice (some ⟨g4, 0, none⟩) 256 c4) ([1] ++ Nm.put s.size ++ Nm.put Tk.size) wide w8 hr8 hs8 (by omega) (Ints.of_own (base := w3.heap.size) (by rw [Hf.up_length, HW.out]; exact hr48)) (by rw [HW.out]; omega) H48.out
  rw [HW.out] at h8
  clear hr8 hb8 HB7 hr48
  go_wp2_with fail
  refine h8.mono ?_
  rintro e w9 ⟨v9, rfl, hr9, hb9⟩
  clear h8
  have HB9 : Hid (Below w5.heap.size w5 w9) := HB8.out.trans hb9
  have hs9 := HB9.out.size
  have hHD : [1] ++ Nm.put s.size ++ Nm.put Tk.size ++ (Nm.put (Pr.manyFrom wide 0 256) ++ Pr.headFrom wide 0 256) = Pr.hdr s.data.toList wide := by
    unfold Pr.hdr
    rw [← HT.out, ← Lib.size_eq, ← Lib.size_eq]
  rw [hHD] at hr9
  have HCD : Hid (Pr.cod s.data.toList wide = Pr.hdr s.data.toList wide ++ Pr.upB (Pr.bytes (Pr.words wide (Pr.dnB Tk.data.toList)))) := by show _ = _; rw [Pr.cod_hdr, HT.out]
  have hHl : (Pr.hdr s.data.toList wide).length ≤ 1000 := by
    have h1 := Pr.put_len (Pr.manyFrom wide 0 256)
    have h2 := Pr.head_length wide 0 256
    have h3 := Pr.many_le wide 0 256
    have h4 : (Nm.put (Pr.manyFrom wide 0 256) ++ Pr.headFrom wide 0 256).length = (Nm.put (Pr.manyFrom wide 0 256)).length + (Pr.headFrom wide 0 256).length := List.length_append
    rw [← hHD, List.length_append, h4]
    omega
  generalize Pr.hdr s.data.toList wide = HDR at *
  obtain ⟨a9, c9, rfl⟩ := own_form hr9
  have HTW' : Hid (∀ b ∈ Tk.data.toList, 0 < wide.getD b.toNat 0) := by rw [HT.out]; exact HTW
  obtain ⟨W10, hW10⟩ : ∃ W10, W10 = w9.alloc (.cells #[.slice a9 HDR.length c9, .int .i64 0] 111) := ⟨_, rfl⟩
  have hb10 : Below w9.heap.size w9 W10 := by rw [hW10]; exact (Below.refl _ w9).alloc (Nat.le_refl _) _
  have HW10 : Hid (BW W10 w5.heap.size w9.heap.size (.slice a9 HDR.length c9) (HDR ++ Pr.upB (Pr.bytes (Pr.words wide ((Pr.dnB Tk.data.toList).take 0)))) (Pr.free (Pr.words wide ((Pr.dnB Tk.data.toList).take 0)).length)) := by
    have e0 : Pr.words wide ((Pr.dnB Tk.data.toList).take 0) = [] := by rw [List.take_zero]; rfl
    have e1 : Pr.upB (Pr.bytes []) = [] := rfl
    have e2 : Pr.free ([] : List Bool).length = 0 := rfl
    rw [e0, e1, e2, List.append_nil]
    exact ⟨by rw [hW10]; exact heap_alloc_new w9 _, hs9, row_below hr9 hb10⟩
  have HB10 : Hid (Below w5.heap.size w5 W10) := HB9.out.trans (hb10.mono hs9)
  clear hb9 HB8 hr9 hb10 hHD HTW HB9
  go_wp2_with fail
  rw [← hW10]
  clear hW10
  go_loopw [52] (fun i wr => ∃ (k : Nat) (u : Value), k ≤ Tk.size ∧ i = .int .i64 k ∧ Hid (BW wr w5.heap.size w9.heap.size u (HDR ++ Pr.upB (Pr.bytes (Pr.words wide ((Pr.dnB Tk.data.toList).take k)))) (Pr.free (Pr.words wide ((Pr.dnB Tk.data.toList).take k)).length)) ∧ Hid (Below w5.heap.size w5 wr)) (fun i _ => Tk.size - (intOf i).toNat)
  case atStart => exact ⟨0, _, by omega, rfl, HW10, HB10⟩
  case round =>
    obtain ⟨k, u, hk, rfl, hbw, hbel⟩ := hrel
    by_cases hlt : k < Tk.size
    · have hb256 := Tk[k].toNat_lt
      have hr4 := own_kept HR45.out (Kept.of_below_at (p := fun k => k < w5.heap.size) hbel.out fun _ h => h) fun g hg => by
        obtain ⟨cur, hc, _⟩ := own_block HR45.out hg
        exact (Array.getElem?_eq_some_iff.1 hc).1
      have hr5 := own_kept HR5.out (Kept.of_below_at (p := fun k => k < w5.heap.size) hbel.out fun _ h => h) fun g hg => by
        obtain ⟨cur, hc, _⟩ := own_block HR5.out hg
        exact (Array.getElem?_eq_some_iff.1 hc).1
      have hsn : (Pr.dnB Tk.data.toList).take (k + 1) = (Pr.dnB Tk.data.toList).take k ++ [Tk[k].toNat] := by
        unfold Pr.dnB
        rw [← List.map_take, ← List.map_take, take_snoc Tk k hlt, List.map_append]
        rfl
      have hmem : Tk[k] ∈ Tk.data.toList := by
        have := byte_get Tk k hlt
        exact List.mem_of_getElem? this
      have h0 := HTW'.out _ hmem
      have hl48 := Hf.getD_le H48.out Tk[k].toNat
      have hcl : Hf.code wide Tk[k].toNat ≤ 281474976710656 := by
        rw [Hf.code_nxt]
        exact Hf.nxt_bound hl48 HG.out.sum
      have HN : Hid (Pr.words wide ((Pr.dnB Tk.data.toList).take (k + 1)) = Pr.words wide ((Pr.dnB Tk.data.toList).take k) ++ Pr.wd (Hf.code wide Tk[k].toNat) (wide.getD Tk[k].toNat 0)) := by
        show _ = _
        rw [hsn, Pr.words_snoc]
        rfl
      have hwl := Pr.words_le (Hf.getD_le H48.out) ((Pr.dnB Tk.data.toList).take k)
      have htl : ((Pr.dnB Tk.data.toList).take k).length ≤ k := List.length_take_le _ _
      generalize hb : Tk[k] = b at *
      have c5' := own_at hr5 b.toNat (by rw [Hf.codes_length, HW.out]; exact hb256)
      have hcd : (Hf.codes wide)[b.toNat]'(by rw [Hf.codes_length, HW.out]; exact hb256) = (Hf.code wide b.toNat : Nat) := by simp [Hf.codes]
      rw [hcd] at c5'
      have c4' := own_at hr4 b.toNat (by rw [Hf.up_length, HW.out]; exact hb256)
      rw [Hf.up_get] at c4'
      have hput := put_bits w5.heap.size w9.heap.size u HDR (Pr.words wide ((Pr.dnB Tk.data.toList).take k)) (Hf.code wide b.toNat) (wide.getD b.toNat 0) wr.drew ⟨hbw.out.box, hbw.out.old, hbw.out.row.drew⟩ (by omega) (by omega) hl48 hcl
      rw [← HN.out] at hput
      have HNL : Hid (Pr.free ((Pr.words wide ((Pr.dnB Tk.data.toList).take k)).length + wide.getD b.toNat 0) = Pr.free (Pr.words wide ((Pr.dnB Tk.data.toList).take (k + 1))).length) := by
        show _ = _
        rw [HN.out, List.length_append, Pr.wd_length]
      rw [HNL.out] at hput
      clear hcd hsn hmem h0 hwl htl hr4 hr5 HNL HN
      generalize Hf.code wide b.toNat = cb at *
      generalize wide.getD b.toNat 0 = lb at *
      go_wp2_with fail
      go_region_with (refine hput.mono ?_; rintro e w1x ⟨rfl, hbx, hlx⟩)
      all_goals obtain ⟨u', x1⟩ := hbx
      all_goals have HX1 : Hid (BW w1x w5.heap.size w9.heap.size u' (HDR ++ Pr.upB (Pr.bytes (Pr.words wide ((Pr.dnB Tk.data.toList).take (k + 1))))) (Pr.free (Pr.words wide ((Pr.dnB Tk.data.toList).take (k + 1))).length)) := x1
      all_goals have HX2 : Hid (Below w5.heap.size w5 w1x) := hbel.out.drew.trans hlx
      all_goals clear x1 hput c4' c5' hbw hbel hlx
      all_goals go_wp2_with fail
      all_goals go_roundw
      all_goals first | exact ⟨k + 1, u', by omega, by go_num, HX1, HX2⟩ | (simp only [intOf]; omega)
    · obtain rfl : k = Tk.size := by omega
      have hbw := hbw.out
      rw [List.take_of_length_le (by unfold Pr.dnB; rw [List.length_map, ← Lib.size_eq]; exact Nat.le_refl _)] at hbw
      have hstr := run_str hbw.row
      obtain ⟨d0, _⟩ := hbw.cells
      obtain ⟨au, cu, rfl⟩ := own_form hbw.row
      have HBW : Hid (Below w.heap.size w wr) := HB5.out.trans (hbel.out.mono HB5.out.size)
      rw [← HCD.out] at hstr d0
      clear hbw
      go_wp2_with fail
      go_ret
      exact ⟨wide, _, rfl, rfl, HHL'.out, HBW.out⟩
end Go.Proofs.Ytkhejelmjkpgfaa

namespace Go.Proofs.Ytkhejelmjkpgfaa
open Go.RowKit
set_option maxRecDepth 4000

set_option maxHeartbeats 400000 in
theorem press_large (s : ByteArray) (w : World) (hs : 4096 < s.size) (_h : s.size ≤ 140737488351232) :
    Calls Try.prog 29 #[.string s] w fun e w' => e = .returned (.tuple #[.string ⟨#[]⟩, .int .i64 2]) ∧ w' = w := by
  go_enter Try.func29, Try.ntmps29
  go_wp2_with fail
  go_ret2
  exact ⟨rfl, rfl⟩

set_option maxHeartbeats 2000000 in
theorem press_any (s : ByteArray) (w : World) (hs : s.size ≤ 4096) :
    Calls Try.prog 29 #[.string s] w fun e w' => ∃ (wide : List Nat) (s' : ByteArray), e = .returned (.tuple #[.string s', .int .i64 0]) ∧ s'.data.toList = (Pr.pr s.data.toList wide).1 ∧ Hf.HL (Pr.tally (Pr.T s.data.toList)) wide ∧ Below w.heap.size w w' := by
  obtain ⟨i0, hi, hz0, hz1, hz2⟩ := info_parts info_u8
  have hone := owns_one w 0 (by omega) (by omega)
  rw [show [UInt8.ofNat (0 : Int).toNat] = [(0 : UInt8)] from rfl] at hone
  go_enter Try.func29, Try.ntmps29
  go_wp2_with (at_builtin; refine Lib.wpList_append_own_string _ rfl (.tmp 9) (.tmp 10) 51 9 rfl w.heap.size 5 i0 Try.underlying51 Try.underlying9 hi hz0 hz1 hz2 _ _ _ rfl hone s rfl ?c3 ?c4 ?c5 ?_)
  case c3 => unfold maxLen; simp only [List.length_cons, List.length_nil]; omega
  case c4 => simp only [List.length_cons, List.length_nil]; omega
  case c5 => simp
  intro v1 w1 hown1 hgrow _
  have HB1 : Hid (Below w.heap.size w w1) := ((Below.refl _ w).alloc (Nat.le_refl _) _).grown hgrow (by simp) fun j hj => (hone.lt j hj).1
  have hrow : w1.ownsRow w.heap.size 5 1 v1 (0 :: s.data.toList).length ((0 :: s.data.toList).map B) := by
    have e : (0 :: s.data.toList).length = [(0 : UInt8)].length + s.size := by rw [Lib.size_eq]; simp only [List.length_cons, List.length_nil]; omega
    rw [e]
    exact hown1
  have hstr := run_str hrow
  obtain ⟨a1, c1, rfl⟩ := own_form hown1
  have h2 := coded_any s w1 hs
  obtain ⟨Pl, hPl⟩ : ∃ Pl : ByteArray, Pl = ⟨(0 :: s.data.toList).toArray⟩ := ⟨_, rfl⟩
  rw [← hPl] at hstr
  have HP : Hid (Pl.data.toList = 0 :: s.data.toList) := by rw [hPl]; exact rfl
  have hPz : (Pl.size : Int) = (s.size : Int) + 1 := by rw [Lib.size_eq, HP.out, Lib.size_eq]; simp
  clear hown1 hgrow hone hrow hPl
  go_wp2_with fail
  refine h2.mono ?_
  rintro e w2 ⟨wide, s2, rfl, hs2, hHL, hb2⟩
  have HB2 : Hid (Below w.heap.size w w2) := HB1.out.trans (hb2.mono HB1.out.size)
  have HL : Hid (Hf.HL (Pr.tally (Pr.T s.data.toList)) wide) := hHL
  have hz : s2.size = (Pr.cod s.data.toList wide).length := by rw [Lib.size_eq, hs2]
  have HR : Hid ((Pr.pr s.data.toList wide).1 = if s2.size ≤ s.size then Pr.cod s.data.toList wide else 0 :: s.data.toList) := by
    show _ = _
    unfold Pr.pr
    rw [if_neg (by rw [← Lib.size_eq]; omega), ← Lib.size_eq, hz]
    split <;> rfl
  have HS2 : Hid (s2.data.toList = Pr.cod s.data.toList wide) := hs2
  clear h2 hb2 hHL hz hs2 HB1
  by_cases hlt : s2.size ≤ s.size
  · have HR2 : Hid ((Pr.pr s.data.toList wide).1 = Pr.cod s.data.toList wide) := by show _ = _; rw [HR.out, if_pos hlt]
    have hq : s2.size < Pl.size := by omega
    clear HR hPz
    go_wp2_with fail
    go_ret2
    exact ⟨wide, s2, rfl, by rw [HR2.out]; exact HS2.out, HL.out, HB2.out⟩
  · have HR2 : Hid ((Pr.pr s.data.toList wide).1 = 0 :: s.data.toList) := by show _ = _; rw [HR.out, if_neg hlt]
    have hq : Pl.size ≤ s2.size := by omega
    clear HR hPz
    go_wp2_with fail
    go_ret2
    exact ⟨wide, Pl, rfl, by rw [HR2.out]; exact HP.out, HL.out, HB2.out⟩
end Go.Proofs.Ytkhejelmjkpgfaa
