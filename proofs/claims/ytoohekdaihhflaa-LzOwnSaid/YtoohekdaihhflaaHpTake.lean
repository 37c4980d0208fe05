/-
  What take of package huff does.
-/
import Derived.Test.YtoohekdaihhflaaHpLeast
namespace Go.Proofs.Ytoohekdaihhflaa
open Go.RowKit

/-- a heap of signs in a block of its own -/
structure GBox (W : World) (G : Nat) (x : Hf.G) : Prop where
  c0 : W.cell? ⟨G, 0, none⟩ = some (.int .i64 x.wt)
  c1 : W.cell? ⟨G, 1, none⟩ = some (.int .i64 x.low)
  c2 : W.cell? ⟨G, 2, none⟩ = some x.sv
  f0 : W.frozen? ⟨G, 0, none⟩ = false
  f1 : W.frozen? ⟨G, 1, none⟩ = false
  f2 : W.frozen? ⟨G, 2, none⟩ = false
  lt : G < W.heap.size
theorem GBox.new (w : World) (x : Hf.G) : GBox (w.alloc (.cells #[.int .i64 x.wt, .int .i64 x.low, x.sv] 54)) w.heap.size x :=
  ⟨by simp, by simp, by simp, by simp, by simp, by simp, by simp⟩
theorem GBox.kept {p : Nat → Prop} {W W' : World} {G : Nat} {x : Hf.G} (h : GBox W G x) (hk : Kept p W W') (hp : p G) : GBox W' G x := by
  have e := hk.block G h.lt hp
  refine ⟨?_, ?_, ?_, ?_, ?_, ?_, Nat.lt_of_lt_of_le h.lt hk.size⟩
  · rw [World.cell?_of_block (a := ⟨G, 0, none⟩) e]; exact h.c0
  · rw [World.cell?_of_block (a := ⟨G, 1, none⟩) e]; exact h.c1
  · rw [World.cell?_of_block (a := ⟨G, 2, none⟩) e]; exact h.c2
  · rw [World.frozen?_of_block (a := ⟨G, 0, none⟩) e]; exact h.f0
  · rw [World.frozen?_of_block (a := ⟨G, 1, none⟩) e]; exact h.f1
  · rw [World.frozen?_of_block (a := ⟨G, 2, none⟩) e]; exact h.f2
theorem GBox.below {W W' : World} {G B : Nat} {x : Hf.G} (h : GBox W G x) (hb : Below B W W') (hg : G < B) : GBox W' G x :=
  h.kept (p := fun k => k < B) ⟨hb.os, hb.tape, hb.output, hb.size, fun k _ hk => hb.block k hk⟩ hg
theorem GBox.store {W : World} {G : Nat} {x : Hf.G} (h : GBox W G x) (y : Hf.G) : GBox (((W.setCell ⟨G, 0, none⟩ (.int .i64 y.wt)).setCell ⟨G, 1, none⟩ (.int .i64 y.low)).setCell ⟨G, 2, none⟩ y.sv) G y := by
  have e0 := World.cell?_setCell_same W ⟨G, 0, none⟩ (.int .i64 y.wt) h.c0
  refine ⟨?_, ?_, ?_, by simpa using h.f0, by simpa using h.f1, by simpa using h.f2, by simpa using h.lt⟩
  · rw [World.cell?_setCell_other _ _ _ _ (by simp), World.cell?_setCell_other _ _ _ _ (by simp)]
    exact e0
  · rw [World.cell?_setCell_other _ _ _ _ (by simp)]
    refine World.cell?_setCell_same _ _ _ (u := .int .i64 x.low) ?_
    rw [World.cell?_setCell_other _ _ _ _ (by simp)]
    exact h.c1
  · refine World.cell?_setCell_same _ _ _ (u := x.sv) ?_
    rw [World.cell?_setCell_other _ _ _ _ (by simp), World.cell?_setCell_other _ _ _ _ (by simp)]
    exact h.c2
theorem Kept.setNew {p : Nat → Prop} {A B : World} (h : Kept p A B) {a : Addr} (ha : A.heap.size ≤ a.block) (v : Value) : Kept p A (B.setCell a v) :=
  ⟨h.os, h.tape, h.output, by simpa using h.size, fun k hk hp => (Below.heap_setCell _ _ _ _ (by omega)).trans (h.block k hk hp)⟩
theorem Heap.lt {W : World} {base Hb : Nat} {v : Value} {l : List Hf.G} (h : Heap W base Hb v l) : Hb < W.heap.size := (Array.getElem?_eq_some_iff.1 h.box).1
theorem Heap.kept {p : Nat → Prop} {W W' : World} {base Hb : Nat} {v : Value} {l : List Hf.G} (h : Heap W base Hb v l) (hk : Kept p W W') (hp : ∀ k, base ≤ k → k < W.heap.size → p k) : Heap W' base Hb v l :=
  ⟨(hk.block _ h.lt (hp _ h.old h.lt)).trans h.box, h.old,
   own_kept h.row hk fun g hg => by obtain ⟨cur, hc, hb⟩ := own_block h.row hg; exact hp g hb (Array.getElem?_eq_some_iff.1 hc).1,
   fun x hx => own_kept (h.signs x hx) hk fun g hg => by obtain ⟨cur, hc, hb⟩ := own_block (h.signs x hx) hg; exact hp g hb (Array.getElem?_eq_some_iff.1 hc).1⟩
theorem Heap.kept' {p : Nat → Prop} {W W' : World} {base Hb : Nat} {v : Value} {l : List Hf.G} (h : Heap W base Hb v l) (hk : Kept p W W') (hH : p Hb) (hv : ∀ g, v.ownBlock = some g → p g) (hs : ∀ y ∈ l, ∀ b, y.sv.ownBlock = some b → p b) : Heap W' base Hb v l :=
  ⟨(hk.block _ h.lt hH).trans h.box, h.old, own_kept h.row hk hv, fun x hx => own_kept (h.signs x hx) hk (hs x hx)⟩
theorem Heap.cap {W : World} {base Hb g n c : Nat} {l : List Hf.G} (h : Heap W base Hb (.slice (some ⟨g, 0, none⟩) n c) l) : n ≤ c := by
  rcases h.row.2 with ⟨h1, _⟩ | ⟨g', cap, cur, h1, _, _, h2, _⟩
  · simp at h1
  · simp at h1
    omega
/-- the last one off -/
theorem Heap.cut {W : World} {base Hb g n c : Nat} {l : List Hf.G} (h : Heap W base Hb (.slice (some ⟨g, 0, none⟩) n c) l) (hn : n = l.length) :
    Heap (W.setCell ⟨Hb, 1, none⟩ (.slice (some ⟨g, 0, none⟩) (n - 1) c)) base Hb (.slice (some ⟨g, 0, none⟩) (n - 1) c) l.dropLast := by
  subst hn
  have hk : Kept (fun k => k ≠ Hb) W (W.setCell ⟨Hb, 1, none⟩ (.slice (some ⟨g, 0, none⟩) (l.length - 1) c)) := (Kept.refl _ W).setCell (by simp) _
  have hg : g ≠ Hb := fun e => h.apart (by rw [← e]; rfl)
  refine ⟨?_, h.old, ?_, fun y hy => ?_⟩
  · rw [heap_setCell_same _ _ _ _ _ _ h.box]
    rfl
  · rcases h.row.2 with ⟨h1, _⟩ | ⟨g', cap, cur, h1, h2, h3, h4, h5, h6, h7⟩
    · simp at h1
    · simp at h1
      obtain ⟨rfl, rfl⟩ := h1
      refine ⟨by rw [rowG_length, List.length_dropLast]; omega, .inr ⟨g, c, cur, by rw [List.length_dropLast], h2, (hk.block g (Array.getElem?_eq_some_iff.1 h3).1 hg).trans h3, by rw [List.length_dropLast]; omega, h5, h6, ?_⟩⟩
      have e : rowG l.dropLast = (rowG l).take (l.dropLast.length * 3) := by
        by_cases hl : l = []
        · subst hl; rfl
        · have e1 : rowG l = rowG l.dropLast ++ gC (l.getLast hl) := by rw [← rowG_more, List.dropLast_concat_getLast]
          rw [e1, List.take_left' (by rw [rowG_length]; omega)]
      rw [e, ← h7, List.take_take, Nat.min_eq_left (by rw [List.length_dropLast]; omega)]
  · have hs := h.signs y (List.dropLast_subset _ hy)
    exact own_kept hs hk fun b hb => (h.sign_apart hs b hb).1

set_option maxHeartbeats 4000000 in
theorem take_any (base Hb : Nat) (v : Value) (l : List Hf.G) (w : World) (h : Heap w base Hb v l) (h0 : 0 < l.length) (hl : l.length ≤ 256) (ho : Hf.Ord l) :
    Calls Try.prog 33 #[.pointer (some ⟨Hb, 0, none⟩)] w fun e w' => e = .returned (gV (Hf.nth l 0)) ∧ ∃ v' l', l.Perm (Hf.nth l 0 :: l') ∧ Hf.Ord l' ∧ v'.ownBlock = v.ownBlock ∧ Heap w' base Hb v' l' ∧ Stays Hb v w w' := by
  obtain ⟨g, c, rfl⟩ := h.slice1 h0
  obtain ⟨n, hn⟩ : ∃ n, l.length = n + 1 := ⟨l.length - 1, by omega⟩
  have HP : Hid (l.Perm (Hf.nth l 0 :: (Hf.swp l 0 n).dropLast)) := by have := Hf.start_perm h0; rw [show l.length - 1 = n from by omega] at this; exact this
  have HD : Hid (Hf.Dn (Hf.swp l 0 n).dropLast 0) := by have := Hf.Dn.start ho; rw [show l.length - 1 = n from by omega] at this; exact this
  have hw := h.lt
  have HSB : Hid (∀ y ∈ (Hf.swp l 0 n).dropLast, ∀ b, y.sv.ownBlock = some b → b < w.heap.size) := fun y hy b hb => by
    obtain ⟨cur, hc, _⟩ := own_block (h.signs y ((Hf.swp_perm h0 (by omega)).mem_iff.1 (List.dropLast_subset _ hy))) hb
    exact (Array.getElem?_eq_some_iff.1 hc).1
  have HL : Hid (((Hf.swp l 0 n).dropLast).length = n) := by show _ = _; rw [List.length_dropLast, Hf.swp_length]; omega
  have hcap : n + 1 ≤ c := by have := h.cap; omega
  obtain ⟨c0, c1, f1⟩ := h.cells
  obtain ⟨a0, a1, a2, _, _, _, hg⟩ := h.at_ rfl 0 h0
  have hx := own_slice (h.signs _ (Hf.nth_mem h0))
  obtain ⟨x, hxe⟩ : ∃ x, Hf.nth l 0 = x := ⟨_, rfl⟩
  rw [hxe] at a0 a1 a2 hx HP ⊢
  have HX : Hid (Hf.nth l 0 = x) := hxe
  clear hxe
  have ex : ∃ xw xl xs xa xm xc, x = (⟨xw, xl, xs, .slice xa xm xc⟩ : Hf.G) := by
    obtain ⟨xa, xm, xc, e⟩ := hx
    exact ⟨x.wt, x.low, x.sg, xa, xm, xc, by rw [← e]⟩
  obtain ⟨xw, xl, xs, xa, xm, xc, rfl⟩ := ex
  clear hx
  simp only [Nat.zero_mul, Nat.zero_add] at a0 a1 a2
  rw [hn] at h c1 ⊢
  obtain ⟨W2, hW2⟩ : ∃ W2, W2 = (w.alloc (.cells #[.int .i64 0, .int .i64 0, .slice none 0 0] 54)).alloc (.cells #[.int .i64 xw, .int .i64 xl, .slice xa xm xc] 54) := ⟨_, rfl⟩
  have hb2 : Below w.heap.size w W2 := by rw [hW2]; exact ((Below.refl _ w).alloc (Nat.le_refl _) _).alloc (by simp) _
  have X1 : Hid (GBox W2 w.heap.size Hf.G.z) := by
    rw [hW2]; exact (GBox.new w Hf.G.z).below ((Below.refl _ _).alloc (Nat.le_refl _) _) (by simp)
  have X2 : Hid (GBox W2 (w.heap.size + 1) ⟨xw, xl, xs, .slice xa xm xc⟩) := by
    rw [hW2]
    have := GBox.new (w.alloc (.cells #[.int .i64 0, .int .i64 0, .slice none 0 0] 54)) ⟨xw, xl, xs, .slice xa xm xc⟩
    rw [World.size_alloc] at this
    exact this
  have hs2 : W2.heap.size = w.heap.size + 2 := by rw [hW2]; simp
  have HS2 : Hid (W2.heap.size = w.heap.size + 2) := hs2
  have hsw := swap_any base Hb (.slice (some ⟨g, 0, none⟩) (n + 1) c) l W2 (h.keep hb2) 0 n h0 (by omega) hl
  rw [show ((0 : Nat) : Int) = 0 from rfl] at hsw
  have HK2 : Hid (Stays Hb (.slice (some ⟨g, 0, none⟩) (n + 1) c) w W2) := Kept.of_below hb2
  have HLn : Hid (l.length = n + 1) := hn
  clear h hb2 hs2
  go_enter Try.func33, Try.ntmps33
  go_wp2_with fail
  rw [← hW2]
  refine hsw.mono ?_
  rintro e w3 ⟨rfl, h3, k3⟩
  clear hsw hW2 a0 a1 a2 c0 c1 f1 hn
  obtain ⟨c0, c1, f1⟩ := h3.cells
  have Y1 : Hid (GBox w3 w.heap.size Hf.G.z) := X1.out.kept k3 ⟨by omega, by simp [Value.ownBlock]; omega⟩
  have Y2 : Hid (GBox w3 (w.heap.size + 1) ⟨xw, xl, xs, .slice xa xm xc⟩) := X2.out.kept k3 ⟨by omega, by simp [Value.ownBlock]; omega⟩
  have K3 : Hid (Stays Hb (.slice (some ⟨g, 0, none⟩) (n + 1) c) w w3) := HK2.out.trans k3
  have H3 : Hid (Heap w3 base Hb (.slice (some ⟨g, 0, none⟩) (n + 1) c) (Hf.swp l 0 n)) := h3
  clear X1 X2 HK2 h3 k3 HS2
  obtain ⟨W4, hW4⟩ : ∃ W4, W4 = w3.setCell ⟨Hb, 1, none⟩ (.slice (some ⟨g, 0, none⟩) n c) := ⟨_, rfl⟩
  have hk4 : Kept (fun k => k ≠ Hb) w3 W4 := by rw [hW4]; exact (Kept.refl _ _).setCell (by simp) _
  have Z1 : Hid (GBox W4 w.heap.size Hf.G.z) := Y1.out.kept hk4 (by omega)
  have Z2 : Hid (GBox W4 (w.heap.size + 1) ⟨xw, xl, xs, .slice xa xm xc⟩) := Y2.out.kept hk4 (by omega)
  have K4 : Hid (Stays Hb (.slice (some ⟨g, 0, none⟩) (n + 1) c) w W4) := K3.out.trans (hk4.mono fun k hk => hk.1)
  have h4 : Heap W4 base Hb (.slice (some ⟨g, 0, none⟩) n c) (Hf.swp l 0 n).dropLast := by
    rw [hW4]; exact H3.out.cut (by rw [Hf.swp_length]; exact HLn.out.symm)
  have hla := leastAt_any base Hb (.slice (some ⟨g, 0, none⟩) n c) (Hf.swp l 0 n).dropLast W4 h4 0 (by omega) (by rw [List.length_dropLast, Hf.swp_length]; omega)
  rw [show ((0 : Nat) : Int) = 0 from rfl] at hla
  have H4 : Hid (Heap W4 base Hb (.slice (some ⟨g, 0, none⟩) n c) (Hf.swp l 0 n).dropLast) := h4
  clear Y1 Y2 K3 H3 h4 hk4
  go_wp2_with fail
  rw [← hW4]
  refine hla.mono ?_
  rintro e w5 ⟨rfl, hb5⟩
  clear hla hW4 c0 c1 f1
  obtain ⟨l4, hl4⟩ : ∃ l4, (Hf.swp l 0 n).dropLast = l4 := ⟨_, rfl⟩
  rw [hl4] at HP HD HL H4 HSB
  have Z1' : Hid (GBox w5 w.heap.size Hf.G.z) := Z1.out.below hb5 Z1.out.lt
  have Z2' : Hid (GBox w5 (w.heap.size + 1) ⟨xw, xl, xs, .slice xa xm xc⟩) := Z2.out.below hb5 Z2.out.lt
  have K5 : Hid (Stays Hb (.slice (some ⟨g, 0, none⟩) (n + 1) c) w w5) := K4.out.trans (Kept.of_below hb5)
  have H5 : Hid (Heap w5 base Hb (.slice (some ⟨g, 0, none⟩) n c) l4) := H4.out.keep hb5
  have hn256 : n ≤ 255 := by have := HLn.out; omega
  rw [hl4]
  clear Z1 Z2 K4 H4 hb5 hl4 hl h0
  go_wp2_with fail
  go_loopw [5, 6] (fun x y wr => ∃ (lr : List Hf.G) (p : Nat), x = .int .i64 p ∧ y = .int .i64 (Hf.least lr p : Nat) ∧ p ≤ n ∧ Hid (p < lr.length ∨ lr = []) ∧ Hid (lr.Perm l4) ∧ Hid (Hf.Dn lr p) ∧ Hid (Heap wr base Hb (.slice (some ⟨g, 0, none⟩) n c) lr) ∧
    Hid (GBox wr w.heap.size Hf.G.z) ∧ Hid (GBox wr (w.heap.size + 1) ⟨xw, xl, xs, .slice xa xm xc⟩) ∧ Hid (Stays Hb (.slice (some ⟨g, 0, none⟩) (n + 1) c) w wr)) (fun x _ _ => n - (intOf x).toNat)
  case atStart => exact ⟨l4, 0, rfl, rfl, by omega, by by_cases e : l4 = []; · exact .inr e
                                                       · exact .inl (List.length_pos_iff.2 e), List.Perm.refl _, HD, H5, Z1', Z2', K5⟩
  case round =>
    obtain ⟨lr, p, rfl, rfl, hpn, hpl, hpm, hdn, hhp, x1, x2, hks⟩ := hrel
    have hlen : lr.length = n := hpm.out.length_eq.trans HL.out
    by_cases hdone : Hf.least lr p = p
    · have HO : Hid (Hf.Ord lr) := hdn.out.done hdone
      rw [hdone]
      have d0 := x1.out.c0
      have d1 := x1.out.c1
      have d2 := x1.out.c2
      have g0 := x1.out.f0
      have g1 := x1.out.f1
      have g2 := x1.out.f2
      have c0 := x2.out.c0
      have c1 := x2.out.c1
      have c2 := x2.out.c2
      dsimp only at c0 c1 c2
      clear hdone hlen
      go_wp2_with fail
      refine bodyPost_ret (v := gV ⟨xw, xl, xs, .slice xa xm xc⟩) ?_ rfl ⟨rfl, .slice (some ⟨g, 0, none⟩) n c, lr, HP.out.trans (hpm.out.symm.cons _), HO.out, rfl, ?_, ?_⟩
      · simp [results, asAddr, go_sem, d0, d1, d2, gV]
      · have hk : Kept (fun k => k ≠ w.heap.size) wr (((wr.setCell ⟨w.heap.size, 0, none⟩ (.int .i64 xw)).setCell ⟨w.heap.size, 1, none⟩ (.int .i64 xl)).setCell ⟨w.heap.size, 2, none⟩ (.slice xa xm xc)) := (((Kept.refl _ wr).setCell (by simp) _).setCell (by simp) _).setCell (by simp) _
        exact hhp.out.kept' hk (by omega) (fun b hb => by simp [Value.ownBlock] at hb; omega) (fun y hy b hb => by have := HSB.out y (hpm.out.mem_iff.1 hy) b hb; omega)
      · exact ((hks.out.setNew (by simp) _).setNew (by simp) _).setNew (by simp) _
    · have hst := hdn.out.step (m := Hf.least lr p) (by
        rcases hpl.out with h | h
        · exact h
        · exact absurd (by rw [h]; simp [Hf.least, Hf.one]) hdone) rfl hdone
      have hne : ((Hf.least lr p : Nat) : Int) ≠ (p : Int) := by omega
      generalize Hf.least lr p = m at *
      obtain ⟨hdn', hpm', hml⟩ := hst
      have hsw := swap_any base Hb (.slice (some ⟨g, 0, none⟩) n c) lr wr hhp.out p m (by omega) hml (by omega)
      have HDN : Hid (Hf.Dn (Hf.swp lr p m) m) := hdn'
      have HPM : Hid ((Hf.swp lr p m).Perm l4) := (Hf.swp_perm (by omega) hml).trans hpm.out
      have HSL : Hid ((Hf.swp lr p m).length = lr.length) := Hf.swp_length _ _ _
      clear hdn hdn' hpm hpl hdone hhp
      go_wp2_with fail
      refine hsw.mono ?_
      rintro e w6 ⟨rfl, h6, k6⟩
      clear hsw
      have hla := leastAt_any base Hb (.slice (some ⟨g, 0, none⟩) n c) (Hf.swp lr p m) w6 h6 m (by omega) (by have := HSL.out; omega)
      have H6 : Hid (Heap w6 base Hb (.slice (some ⟨g, 0, none⟩) n c) (Hf.swp lr p m)) := h6
      have Y1 : Hid (GBox w6 w.heap.size Hf.G.z) := x1.out.kept k6 ⟨by omega, by simp [Value.ownBlock]; omega⟩
      have Y2 : Hid (GBox w6 (w.heap.size + 1) ⟨xw, xl, xs, .slice xa xm xc⟩) := x2.out.kept k6 ⟨by omega, by simp [Value.ownBlock]; omega⟩
      have K6 : Hid (Stays Hb (.slice (some ⟨g, 0, none⟩) (n + 1) c) w w6) := hks.out.trans k6
      clear h6 k6 x1 x2 hks
      go_wp2_with fail
      refine hla.mono ?_
      rintro e w7 ⟨rfl, hb7⟩
      clear hla
      have H7 : Hid (Heap w7 base Hb (.slice (some ⟨g, 0, none⟩) n c) (Hf.swp lr p m)) := H6.out.keep hb7
      have Y1' : Hid (GBox w7 w.heap.size Hf.G.z) := Y1.out.below hb7 Y1.out.lt
      have Y2' : Hid (GBox w7 (w.heap.size + 1) ⟨xw, xl, xs, .slice xa xm xc⟩) := Y2.out.below hb7 Y2.out.lt
      have K7 : Hid (Stays Hb (.slice (some ⟨g, 0, none⟩) (n + 1) c) w w7) := K6.out.trans (Kept.of_below hb7)
      clear hb7 H6 Y1 Y2 K6
      go_wp2_with fail
      go_roundw
      case rel => exact ⟨Hf.swp lr p m, m, rfl, rfl, by omega, .inl (by have := HSL.out; omega), HPM, HDN, H7, Y1', Y2', K7⟩
      case measure => simp only [intOf]; omega
end Go.Proofs.Ytoohekdaihhflaa
