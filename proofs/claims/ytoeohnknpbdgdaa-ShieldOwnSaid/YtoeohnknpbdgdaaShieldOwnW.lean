/-
  The walk of lumkeep.ShieldOwn: it returns true.
-/
import Derived.Test.YtoeohnknpbdgdaaOwTxs
import Derived.Test.YtoeohnknpbdgdaaOwShds
import Derived.Test.YtoeohnknpbdgdaaShAnyM
namespace Go.Proofs.Ytoeohnknpbdgdaa
open Go.RowKit
set_option maxRecDepth 4000

/-- an answer: texts of the call's own, or none -/
def Ans (w : World) (base : Nat) (u : Value) (G : List ByteArray) : Prop := w.ownsRow base 9 1 u G.length (G.map Tv) ∧ G.length ≤ 16 ∧ (u = .slice none 0 0 ∧ G = [] ∨ 1 ≤ G.length)
theorem Ans.tx {w : World} {base : Nat} {u : Value} {G : List ByteArray} (h : Ans w base u G) : Tx w u G := Tx.of_own h.1
theorem Ans.below {w w' : World} {base : Nat} {u : Value} {G : List ByteArray} (h : Ans w base u G) (hb : Below w.heap.size w w') : Ans w' base u G := ⟨own_below h.1 hb, h.2⟩
theorem Ans.kept {w w' : World} {base g : Nat} {u : Value} {G : List ByteArray} (h : Ans w base u G) (hk : Kept (fun q => q ≠ g) w w') (hg : g < base) : Ans w' base u G :=
  ⟨own_kept h.1 hk fun q hq e => by
    obtain ⟨_, _, h2, _⟩ := own_block h.1 hq
    omega, h.2⟩
theorem guard_ans (v : Value) (P : List ByteArray) (p : Nat) (w : World) (h : Tx w v P) (hl : P.length ≤ 140737488351232) (hp : p ≤ 8) :
    Calls Try.prog 7 #[v, .int .i64 p] w fun e w' => ∃ u er G, e = .returned (.tuple #[u, .int .i64 er]) ∧ Ans w' w.heap.size u G ∧ Below w.heap.size w w' := by
  by_cases he : gErr P p = 0
  · obtain ⟨h1, h2, h3, h4, h5⟩ := gErr_zero he
    have hg : (gds P p).length = p := by simp [gds]
    exact (guard_ok v P p w h he).mono fun e w' ⟨u, a, b, c⟩ => ⟨u, 0, gds P p, a, ⟨b, by omega, .inr (by omega)⟩, c⟩
  · exact (guard_bad v P p w h hl he).mono fun e w' ⟨a, b⟩ => ⟨_, _, [], a, ⟨World.ownsRow_nil _ _ _ _, by simp, .inl ⟨rfl, rfl⟩⟩, by rw [b]; exact Below.refl _ _⟩
theorem mend_ans (v : Value) (l : List Shd) (n : Int) (w : World) (h : Sx w v l) (hl : l.length ≤ 140737488351232) :
    Calls Try.prog 10 #[v, .int .i64 n] w fun e w' => ∃ u er G, e = .returned (.tuple #[u, .int .i64 er]) ∧ Ans w' w.heap.size u G ∧ Below w.heap.size w w' := by
  by_cases he : mErr l n = 0
  · obtain ⟨h1, h2, h3, h4, h5, h6⟩ := mErr_zero he
    obtain ⟨n, rfl⟩ := Int.eq_ofNat_of_zero_le (a := n) (by omega)
    have hg := mnd_length l n
    exact (mend_ok v l n w h he).mono fun e w' ⟨u, a, b, c⟩ => ⟨u, 0, mnd l n, a, ⟨b, by omega, .inr (by omega)⟩, c⟩
  · exact (mend_bad v l n w h hl he).mono fun e w' ⟨a, b⟩ => ⟨_, _, [], a, ⟨World.ownsRow_nil _ _ _ _, by simp, .inl ⟨rfl, rfl⟩⟩, b⟩
theorem check_ans (v : Value) (l : List Shd) (n : Int) (w : World) (h : Sx w v l) (hl : l.length ≤ 140737488351232) :
    Calls Try.prog 12 #[v, .int .i64 n] w fun e w' => ∃ er : Int, e = .returned (.int .i64 er) ∧ Below w.heap.size w w' := by
  by_cases he : mErr l n = 0
  · obtain ⟨h1, h2, h3, h4, h5, h6⟩ := mErr_zero he
    obtain ⟨n, rfl⟩ := Int.eq_ofNat_of_zero_le (a := n) (by omega)
    exact (check_ok v l n w h he).mono fun e w' ⟨z, a, b, c⟩ => ⟨z, b, c⟩
  · exact (check_bad v l n w h hl he).mono fun e w' ⟨a, b⟩ => ⟨_, a, b⟩
theorem clone_ans (u : Value) (G : List ByteArray) (base : Nat) (w : World) (h : Ans w base u G) :
    Calls Try.prog 21 #[u] w fun e w' => ∃ v', e = .returned v' ∧ w'.ownsRow w.heap.size 9 1 v' G.length (G.map Tv) ∧ Below w.heap.size w w' := by
  rcases h.2.2 with ⟨rfl, rfl⟩ | h1
  · exact (clone_nil w).mono fun e w' ⟨a, b⟩ => ⟨_, a, World.ownsRow_nil _ _ _ _, by rw [b]; exact Below.refl _ _⟩
  · exact clone_txs u G w h.tx h1 (by have := h.2.1; omega)
theorem amp_txs {base g : Nat} {w : World} {l : List ByteArray} {f : ByteArray} (h : w.ownsRow base 9 1 (.slice (some ⟨g, 0, none⟩) (l.length + 2) (l.length + 3)) (l.length + 2) ((l ++ [f, f]).map Tv)) : Tx w (.slice (some ⟨g, 0, none⟩) l.length (l.length + 3)) l := by
  refine ⟨.inr ⟨g, 0, l.length + 3, rfl, (h.lt g rfl).2, fun j hj => ?_⟩⟩
  rw [Nat.zero_add, h.cellAt j (by omega), List.getElem?_map, List.getElem?_append_left hj, List.getD_eq_getElem?_getD, List.getElem?_eq_getElem hj]
  rfl
theorem one_tx (w : World) : Tx (w.alloc (.cells #[.string ⟨#[97]⟩] 9)) (.slice (some ⟨w.heap.size, 0, none⟩) 1 1) [⟨#[97]⟩] := by
  refine ⟨.inr ⟨w.heap.size, 0, 1, rfl, by simp, fun j hj => ?_⟩⟩
  have hj : j < 1 := hj
  obtain rfl : j = 0 := by omega
  simp
theorem one_guard (w : World) : Calls Try.prog 7 #[.slice (some ⟨w.heap.size, 0, none⟩) 1 1, .int .i64 1] (w.alloc (.cells #[.string ⟨#[97]⟩] 9)) fun e w' => ∃ a c, e = .returned (.tuple #[.slice a 1 c, .int .i64 0]) ∧ Below w.heap.size w w' :=
  (guard_ok _ [⟨#[97]⟩] 1 _ (one_tx w) (by decide +kernel)).mono fun e w' ⟨u, h1, h2, h3⟩ => by
    have hg : (gds [⟨#[97]⟩] 1).length = 1 := by simp [gds]
    rw [hg] at h2
    obtain ⟨a, c, rfl⟩ := own_len h2
    exact ⟨a, c, h1, ((Below.refl _ w).alloc (Nat.le_refl _) _).trans (h3.mono (by simp))⟩

set_option maxHeartbeats 4000000 in
theorem shieldOwn_of (sa la : Option Addr) (sc lc : Nat) (P : List ByteArray) (l : List Shd) (n : Int) (w : World) (hP : P.length * 16 ≤ 140737488351232) (hl : l.length * 24 ≤ 140737488351232)
    (HP : Hid (Tx w (.slice sa P.length sc) P)) (HL : Hid (Sx w (.slice la l.length lc) l)) :
    Calls Try.prog 6 #[.slice sa P.length sc, .slice la l.length lc, .int .i64 n] w fun e w' => e = .returned (.bool true) ∧ Below w.heap.size w w' := by
  have h0 := one_guard w
  have H1 : Hid (∀ W, Below w.heap.size w W → Calls Try.prog 17 #[.slice sa P.length sc, .string ⟨#[63]⟩] W fun e w' => ∃ g, e = .returned (.slice (some ⟨g, 0, none⟩) P.length (P.length + 3)) ∧ w'.ownsRow W.heap.size 9 1 (.slice (some ⟨g, 0, none⟩) (P.length + 2) (P.length + 3)) (P.length + 2) ((P ++ [qst, qst]).map Tv) ∧ Below W.heap.size W w') := fun W hW => ample_txs _ P qst W (HP.out.below hW) hP
  have H2 : Hid (∀ W, Below w.heap.size w W → Calls Try.prog 18 #[.slice la l.length lc, .agg #[.bool false, .string ⟨#[63]⟩]] W fun e w' => ∃ g, e = .returned (.slice (some ⟨g, 0, none⟩) l.length (l.length + 3)) ∧ w'.ownsRow W.heap.size 33 2 (.slice (some ⟨g, 0, none⟩) (l.length + 2) (l.length + 3)) (l.length + 2) (rowS (l ++ [⟨false, qst⟩, ⟨false, qst⟩])) ∧ Below W.heap.size W w') := fun W hW => ample_shds _ l ⟨false, qst⟩ W (HL.out.below hW) hl
  go_enter Try.func6, Try.ntmps6
  go_wp2_with fail
  refine h0.mono ?_
  rintro e w1 ⟨xa, xc, rfl, hb⟩
  have HB1 : Hid (Below w.heap.size w w1) := hb
  have h1 := H1.out w1 hb
  clear hb h0 H1
  go_wp2_with fail
  refine h1.mono ?_
  rintro e w2 ⟨gi, rfl, o1, hb⟩
  have HB2 : Hid (Below w.heap.size w w2) := HB1.out.trans (hb.mono HB1.out.size)
  have h2 := H2.out w2 HB2.out
  have HW1 : Hid (w.heap.size ≤ w1.heap.size) := HB1.out.size
  have HO1 : Hid (w2.ownsRow w1.heap.size 9 1 (.slice (some ⟨gi, 0, none⟩) (P.length + 2) (P.length + 3)) (P.length + 2) ((P ++ [qst, qst]).map Tv)) := o1
  clear hb o1 h1 H2 HB1
  go_wp2_with fail
  refine h2.mono ?_
  rintro e w3 ⟨gs, rfl, o2, hb⟩
  have HB3 : Hid (Below w.heap.size w w3) := HB2.out.trans (hb.mono HB2.out.size)
  have HI3 : Hid (w3.ownsRow w1.heap.size 9 1 (.slice (some ⟨gi, 0, none⟩) (P.length + 2) (P.length + 3)) (P.length + 2) ((P ++ [qst, qst]).map Tv)) := own_below HO1.out hb
  have HS3 : Hid (w3.ownsRow w2.heap.size 33 2 (.slice (some ⟨gs, 0, none⟩) (l.length + 2) (l.length + 3)) (l.length + 2) (rowS (l ++ [⟨false, qst⟩, ⟨false, qst⟩]))) := o2
  have HNe : Hid (gs ≠ gi) := by
    obtain ⟨_, _, _, a2⟩ := own_block HO1.out (g := gi) rfl
    obtain ⟨_, _, b1, _⟩ := own_block o2 (g := gs) rfl
    show gs ≠ gi
    omega
  have HGi : Hid (w.heap.size ≤ gi ∧ gi < w3.heap.size ∧ w.heap.size ≤ gs ∧ gs < w3.heap.size) := by
    obtain ⟨_, _, a1, a2⟩ := own_block HI3.out (g := gi) rfl
    obtain ⟨_, _, b1, b2⟩ := own_block o2 (g := gs) rfl
    exact ⟨Nat.le_trans HW1.out a1, a2, by have := HB2.out.size; omega, b2⟩
  have h3 := guard_ans _ P 2 w3 (amp_txs HI3.out) (by omega) (by omega)
  clear hb o2 h2 HB2 HO1
  go_wp2_with fail
  refine h3.mono ?_
  rintro e w4 ⟨G, er, Gl, rfl, aG, hb⟩
  have HB4 : Hid (Below w.heap.size w w4) := HB3.out.trans (hb.mono HB3.out.size)
  have HI4 : Hid (w4.ownsRow w1.heap.size 9 1 (.slice (some ⟨gi, 0, none⟩) (P.length + 2) (P.length + 3)) (P.length + 2) ((P ++ [qst, qst]).map Tv)) := own_below HI3.out hb
  have HS4 : Hid (w4.ownsRow w2.heap.size 33 2 (.slice (some ⟨gs, 0, none⟩) (l.length + 2) (l.length + 3)) (l.length + 2) (rowS (l ++ [⟨false, qst⟩, ⟨false, qst⟩]))) := own_below HS3.out hb
  have HG4 : Hid (Ans w4 w3.heap.size G Gl) := aG
  have HLe : Hid (gi < w3.heap.size ∧ gs < w3.heap.size ∧ w3.heap.size ≤ w4.heap.size) := ⟨HGi.out.2.1, HGi.out.2.2.2, hb.size⟩
  obtain ⟨ga, gc, rfl⟩ := own_len aG.1
  have h4 := mend_ans _ l n w4 (amp_shds HS4.out (by omega)) (by omega)
  clear hb aG h3 HB3 HI3 HS3
  go_wp2_with fail
  refine h4.mono ?_
  rintro e w5 ⟨M, er2, Ml, rfl, aM, hb⟩
  have HB5 : Hid (Below w.heap.size w w5) := HB4.out.trans (hb.mono HB4.out.size)
  have HI5 : Hid (w5.ownsRow w1.heap.size 9 1 (.slice (some ⟨gi, 0, none⟩) (P.length + 2) (P.length + 3)) (P.length + 2) ((P ++ [qst, qst]).map Tv)) := own_below HI4.out hb
  have HS5 : Hid (w5.ownsRow w2.heap.size 33 2 (.slice (some ⟨gs, 0, none⟩) (l.length + 2) (l.length + 3)) (l.length + 2) (rowS (l ++ [⟨false, qst⟩, ⟨false, qst⟩]))) := own_below HS4.out hb
  have HG5 : Hid (Ans w5 w3.heap.size (.slice ga Gl.length gc) Gl) := HG4.out.below hb
  have HM5 : Hid (Ans w5 w4.heap.size M Ml) := aM
  have HZ5 : Hid (w4.heap.size ≤ w5.heap.size) := hb.size
  obtain ⟨ma, mc, rfl⟩ := own_len aM.1
  have h5 := check_ans _ l n w5 (amp_shds HS5.out (by omega)) (by omega)
  clear hb aM h4 HB4 HI4 HS4 HG4
  go_wp2_with fail
  refine h5.mono ?_
  rintro e w6 ⟨er3, rfl, hb⟩
  have HB6 : Hid (Below w.heap.size w w6) := HB5.out.trans (hb.mono HB5.out.size)
  have HI6 : Hid (w6.ownsRow w1.heap.size 9 1 (.slice (some ⟨gi, 0, none⟩) (P.length + 2) (P.length + 3)) (P.length + 2) ((P ++ [qst, qst]).map Tv)) := own_below HI5.out hb
  have HS6 : Hid (w6.ownsRow w2.heap.size 33 2 (.slice (some ⟨gs, 0, none⟩) (l.length + 2) (l.length + 3)) (l.length + 2) (rowS (l ++ [⟨false, qst⟩, ⟨false, qst⟩]))) := own_below HS5.out hb
  have HG6 : Hid (Ans w6 w3.heap.size (.slice ga Gl.length gc) Gl) := HG5.out.below hb
  have HZ6 : Hid (w4.heap.size ≤ w6.heap.size) := Nat.le_trans HZ5.out hb.size
  have HM6 : Hid (Ans w6 w4.heap.size (.slice ma Ml.length mc) Ml) := HM5.out.below hb
  have h6 : Calls Try.prog 19 #[.slice (some ⟨gi, 0, none⟩) P.length (P.length + 3), .slice sa P.length sc, .string ⟨#[63]⟩] w6 fun e w' => e = .returned (.bool true) ∧ Below w6.heap.size w6 w' := stays_txs gi _ P qst w6 _ HI6.out (HP.out.below HB6.out) hP
  clear hb h5 HB5 HI5 HS5 HG5 HM5
  go_wp2_with fail
  refine h6.mono ?_
  rintro e w7 ⟨rfl, hb⟩
  have HB7 : Hid (Below w.heap.size w w7) := HB6.out.trans (hb.mono HB6.out.size)
  have HI7 : Hid (w7.ownsRow w1.heap.size 9 1 (.slice (some ⟨gi, 0, none⟩) (P.length + 2) (P.length + 3)) (P.length + 2) ((P ++ [qst, qst]).map Tv)) := own_below HI6.out hb
  have HS7 : Hid (w7.ownsRow w2.heap.size 33 2 (.slice (some ⟨gs, 0, none⟩) (l.length + 2) (l.length + 3)) (l.length + 2) (rowS (l ++ [⟨false, qst⟩, ⟨false, qst⟩]))) := own_below HS6.out hb
  have HG7 : Hid (Ans w7 w3.heap.size (.slice ga Gl.length gc) Gl) := HG6.out.below hb
  have HZ7 : Hid (w4.heap.size ≤ w7.heap.size) := Nat.le_trans HZ6.out hb.size
  have HM7 : Hid (Ans w7 w4.heap.size (.slice ma Ml.length mc) Ml) := HM6.out.below hb
  have h7 : Calls Try.prog 20 #[.slice (some ⟨gs, 0, none⟩) l.length (l.length + 3), .slice la l.length lc, .agg #[.bool false, .string ⟨#[63]⟩]] w7 fun e w' => e = .returned (.bool true) ∧ Below w7.heap.size w7 w' := stays_shds gs _ l ⟨false, qst⟩ w7 _ HS7.out (HL.out.below HB7.out) hl
  clear hb h6 HB6 HI6 HS6 HG6 HM6
  go_wp2_with fail
  refine h7.mono ?_
  rintro e w8 ⟨rfl, hb⟩
  have HB8 : Hid (Below w.heap.size w w8) := HB7.out.trans (hb.mono HB7.out.size)
  have HI8 : Hid (Room w8 gi (P.length + 3) 9) := by have := Room.of_own (own_below HI7.out hb); rwa [Nat.mul_one] at this
  have HS8 : Hid (Room w8 gs ((l.length + 3) * 2) 33) := Room.of_own (own_below HS7.out hb)
  have HG8 : Hid (Ans w8 w3.heap.size (.slice ga Gl.length gc) Gl) := HG7.out.below hb
  have HM8 : Hid (Ans w8 w4.heap.size (.slice ma Ml.length mc) Ml) := HM7.out.below hb
  have HL8 : Hid (gs < w8.heap.size) := by
    have := (own_block (own_below HS7.out hb) (g := gs) rfl)
    obtain ⟨_, _, _, h⟩ := this
    exact h
  have HWs : Hid (w3.heap.size ≤ w8.heap.size ∧ w4.heap.size ≤ w8.heap.size) := ⟨Nat.le_trans HLe.out.2.2 (Nat.le_trans HZ7.out hb.size), Nat.le_trans HZ7.out hb.size⟩
  have h8 := clone_ans _ Gl _ w8 HG8.out
  clear hb h7 HB7 HI7 HS7 HG7 HM7
  go_wp2_with fail
  refine h8.mono ?_
  rintro e w9 ⟨A, rfl, oA, hb⟩
  have HB9 : Hid (Below w.heap.size w w9) := HB8.out.trans (hb.mono HB8.out.size)
  have HI9 : Hid (Room w9 gi (P.length + 3) 9) := HI8.out.kept (Kept.of_below (p := fun _ => True) hb) trivial
  have HS9 : Hid (Room w9 gs ((l.length + 3) * 2) 33) := HS8.out.kept (Kept.of_below (p := fun _ => True) hb) trivial
  have HG9 : Hid (Ans w9 w3.heap.size (.slice ga Gl.length gc) Gl) := HG8.out.below hb
  have HM9 : Hid (Ans w9 w4.heap.size (.slice ma Ml.length mc) Ml) := HM8.out.below hb
  obtain ⟨aa, ac, rfl⟩ := own_len oA
  have HA9 : Hid (w9.ownsRow w3.heap.size 9 1 (.slice aa Gl.length ac) Gl.length (Gl.map Tv)) := own_lower oA HWs.out.1
  have HL9 : Hid (gs < w9.heap.size ∧ w4.heap.size ≤ w9.heap.size) := ⟨Nat.lt_of_lt_of_le HL8.out hb.size, Nat.le_trans HWs.out.2 hb.size⟩
  have h9 := clone_ans _ Ml _ w9 HM9.out
  clear hb h8 HB8 HI8 HS8 HG8 HM8 oA HL8
  go_wp2_with fail
  refine h9.mono ?_
  rintro e w10 ⟨B, rfl, oB, hb⟩
  obtain ⟨b1, b2, rfl⟩ := own_len oB
  have HB10 : Hid (Below w.heap.size w w10) := HB9.out.trans (hb.mono HB9.out.size)
  have HI10 : Hid (Room w10 gi (P.length + 3) 9) := HI9.out.kept (Kept.of_below (p := fun _ => True) hb) trivial
  have HS10 : Hid (Room w10 gs ((l.length + 3) * 2) 33) := HS9.out.kept (Kept.of_below (p := fun _ => True) hb) trivial
  have HL10 : Hid (gs < w10.heap.size) := Nat.lt_of_lt_of_le HL9.out.1 hb.size
  have HR10 : Hid (w10.ownsRow w3.heap.size 9 1 (.slice ga Gl.length gc) Gl.length (Gl.map Tv) ∧ w10.ownsRow w3.heap.size 9 1 (.slice aa Gl.length ac) Gl.length (Gl.map Tv) ∧ w10.ownsRow w3.heap.size 9 1 (.slice ma Ml.length mc) Ml.length (Ml.map Tv) ∧ w10.ownsRow w3.heap.size 9 1 (.slice b1 Ml.length b2) Ml.length (Ml.map Tv)) :=
    ⟨(HG9.out.below hb).1, own_below HA9.out hb, own_lower (HM9.out.below hb).1 HLe.out.2.2, own_lower oB (by have := HLe.out.2.2; have := HL9.out.2; omega)⟩
  have HLl : Hid (Gl.length ≤ 16 ∧ Ml.length ≤ 16) := ⟨HG9.out.2.1, HM9.out.2.1⟩
  have h10 := spoil_txs gi P.length (P.length + 3) ⟨#[33]⟩ w10 HI10.out (by omega)
  clear hb h9 HB9 HI9 HS9 HG9 HM9 oB HA9 HL9
  go_wp2_with fail
  refine h10.mono ?_
  rintro e w11 ⟨rfl, hk⟩
  have HK11 : Hid (Kept (fun q => q ≠ gi) w10 w11) := hk
  have HS11 : Hid (Room w11 gs ((l.length + 3) * 2) 33) := HS10.out.kept hk HNe.out
  have h11 : Calls Try.prog 23 #[.slice (some ⟨gs, 0, none⟩) l.length (l.length + 3), .agg #[.bool false, .string ⟨#[]⟩]] w11 fun e w' => e = .returned (.tuple #[]) ∧ Kept (fun q => q ≠ gs) w11 w' := spoil_shds gs l.length (l.length + 3) ⟨false, ⟨#[]⟩⟩ w11 HS11.out (by omega) (Nat.lt_of_lt_of_le HL10.out hk.size)
  clear hk h10 HI10 HS10 HL10 HS11
  go_wp2_with fail
  refine h11.mono ?_
  rintro e w12 ⟨rfl, hk⟩
  have hB12 : Below w.heap.size w w12 := (HB10.out.trans (HK11.out.below HB10.out.size fun q hq e => by have := HGi.out.1; omega)).trans (hk.below (Nat.le_trans HB10.out.size HK11.out.size) fun q hq e => by have := HGi.out.2.2.1; omega)
  have hkeep : ∀ {u : Value} {R : List ByteArray}, w10.ownsRow w3.heap.size 9 1 u R.length (R.map Tv) → Tx w12 u R := fun {u R} h => by
    have hq : ∀ q, u.ownBlock = some q → q ≠ gi ∧ q ≠ gs := fun q hq => by
      obtain ⟨_, _, h2, _⟩ := own_block h hq
      have := HLe.out
      omega
    exact Tx.of_own (own_kept (own_kept h HK11.out fun q hq' => (hq q hq').1) hk fun q hq' => (hq q hq').2)
  have h12 := equal_txs _ _ Gl w12 (hkeep HR10.out.1) (hkeep HR10.out.2.1) (by have := HLl.out.1; omega)
  have HX12 : Hid (Tx w12 (.slice ma Ml.length mc) Ml ∧ Tx w12 (.slice b1 Ml.length b2) Ml) := ⟨hkeep HR10.out.2.2.1, hkeep HR10.out.2.2.2⟩
  have HB12 : Hid (Below w.heap.size w w12) := hB12
  clear hk h11 hB12 hkeep HK11 HB10 HR10
  go_wp2_with fail
  refine h12.mono ?_
  rintro e w13 ⟨rfl, hb⟩
  have h13 := equal_txs _ _ Ml w13 (HX12.out.1.below hb) (HX12.out.2.below hb) (by have := HLl.out.2; omega)
  have HB13 : Hid (Below w.heap.size w w13) := HB12.out.trans (hb.mono HB12.out.size)
  clear hb h12 HX12 HB12
  go_wp2_with fail
  refine h13.mono ?_
  rintro e w14 ⟨rfl, hb⟩
  have HB14 : Hid (Below w.heap.size w w14) := HB13.out.trans (hb.mono HB13.out.size)
  clear hb h13 HB13
  go_wp2_with fail
  go_ret
  exact ⟨rfl, HB14.out⟩

theorem shieldOwn_walk (v0 : Value) (l0 : List ByteArray) (v1 : Value) (l1 : List Shd) (a2 : Int) (z0 : l0.length * 16 ≤ 140737488351232) (z1 : l1.length * 24 ≤ 140737488351232) (_w2 : (Lit.int .i64 a2).wf = true) (w : World) (t0 : Tx w v0 l0) (t1 : Sx w v1 l1) :
    Calls Try.prog 6 #[v0, v1, .int .i64 a2] w fun e w' => e = .returned (.bool true) ∧ Below w.heap.size w w' := by
  obtain ⟨sa, sc, rfl⟩ := t0.slice
  obtain ⟨la, lc, rfl, _⟩ := t1.slice
  exact shieldOwn_of sa la sc lc l0 l1 a2 w z0 z1 t0 t1
end Go.Proofs.Ytoeohnknpbdgdaa
