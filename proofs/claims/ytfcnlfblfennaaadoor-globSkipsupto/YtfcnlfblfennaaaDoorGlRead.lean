/-
  P40: what begins, readCharacter and readItem of package glob answer.
  P40: what readItem of package glob answers.
  P40: what readClass of package glob answers.
  P40: what readSign of package glob answers.
  P40: what readPart of package glob answers.
-/
import Derived.Test.YtfcnlfblfennaaaDoorGlMem
import Derived.WalkKit
import Derived.WalkSpells
import Derived.WalkLawsBesides
import Derived.OwnWalk
import Derived.Deep.LoopGhost
import Derived.Deep.CutBlock
import Derived.Deep.DeepCutAuto
import Derived.RegionTactic
import Derived.Test.YtfcnlfblfennaaaDoorApTwo
import Derived.Test.YtfcnlfblfennaaaDoorNnCheck
namespace Go.Proofs.YtfcnlfblfennaaaDoor
open Go.RowKit
set_option maxRecDepth 4000

theorem begins_any (v : Value) (l : List Nat) (c : Nat) (w : World) (h : Rn w v l) (hl : l.length ≤ 140737488351232) :
    Calls Tryd.prog 82 #[v, .int .i32 c] w fun e w' => e = .returned (.bool (decide (l.head? = some c))) ∧ w' = w := by
  obtain ⟨a, d, rfl⟩ := h.slice
  cases l with
  | nil =>
    clear h
    go_enter Tryd.func82, Tryd.ntmps82
    go_wp2_with fail
    go_ret
    exact ⟨rfl, rfl⟩
  | cons x l =>
    obtain ⟨bk, o, rfl, _, _, c0⟩ := h.get 0 (by simp)
    have c0 : w.cell? ⟨bk, o, none⟩ = some (.int .i32 x) := c0
    have HE : Hid (decide ((x :: l).head? = some c) = ((x : Int) == (c : Int))) := by
      show _ = _
      rw [List.head?_cons]
      by_cases q : x = c
      · rw [q, beq_self_eq_true, decide_eq_true rfl]
      · rw [decide_eq_false (by simpa using q)]; symm; rw [beq_eq_false_iff_ne]; omega
    simp only [List.length_cons] at h hl ⊢
    generalize l.length = n at *
    clear h
    go_enter Tryd.func82, Tryd.ntmps82
    go_wp2_with fail
    go_ret
    exact ⟨by rw [HE.out]; rfl, rfl⟩

/-- what readCharacter answers -/
def CrOut (l : List Nat) (w : World) (e : Ending) (w' : World) : Prop :=
  Below w.heap.size w w' ∧ ((Gb.rc l = none ∧ e = .returned (.tuple #[.int .i32 0, .slice none 0 0, .bool false])) ∨
    ∃ (c : Nat) (r : List Nat) (v : Value), Gb.rc l = some (c, r) ∧ e = .returned (.tuple #[.int .i32 c, v, .bool true]) ∧ Rn w' v r)
theorem Rn.tail {w : World} {bk o c : Nat} {x : Nat} {l : List Nat} (h : Rn w (.slice (some ⟨bk, o, none⟩) (l.length + 1) c) (x :: l)) : Rn w (.slice (if c = 1 then some ⟨bk, o, none⟩ else some ⟨bk, o + 1, none⟩) l.length (c - 1)) l :=
  Rn.drop (n := l.length) 1 h (by simp)
/-- the last steps of readCharacter -/
theorem char_of (x : Nat) (l : List Nat) (w : World) (v : Value) (h : Rn w v (x :: l)) (hl : l.length + 1 ≤ 140737488351232) (h92 : x ≠ 92) :
    Calls Tryd.prog 75 #[v] w fun e w' => Below w.heap.size w w' ∧ ∃ u, e = .returned (.tuple #[.int .i32 x, u, .bool true]) ∧ Rn w' u l := by
  have hb := begins_any v (x :: l) 92 w h hl
  rw [decide_eq_false (by simpa using h92)] at hb
  obtain ⟨a, c, rfl⟩ := h.slice
  obtain ⟨bk, o, rfl, _, hc, c0⟩ := h.get 0 (by simp)
  have c0 : w.cell? ⟨bk, o, none⟩ = some (.int .i32 x) := c0
  simp only [List.length_cons] at h hc hb ⊢
  have HX := h.tail
  obtain ⟨A1, hA1⟩ : ∃ A1, (if c = 1 then some (⟨bk, o, none⟩ : Addr) else some ⟨bk, o + 1, none⟩) = A1 := ⟨_, rfl⟩
  rw [hA1] at HX
  have HXh : Hid (Rn w (.slice A1 l.length (c - 1)) l) := HX
  generalize l.length = n at *
  clear h HX
  go_enter Tryd.func75, Tryd.ntmps75
  go_wp2_with fail
  refine hb.mono ?_
  rintro e u ⟨rfl, hu⟩
  obtain rfl := hu.symm
  go_wp2_with fail
  go_region
  go_wp2_with fail
  go_ret3
  refine ⟨?_, _, rfl, ?_⟩
  · first | exact Below.refl _ _ | exact (Below.refl _ _).drew
  · first | exact HXh.out | exact HXh.out.below (Below.refl _ _).drew
theorem char_esc (x : Nat) (l : List Nat) (w : World) (v : Value) (h : Rn w v (92 :: x :: l)) (hl : l.length + 2 ≤ 140737488351232) :
    Calls Tryd.prog 75 #[v] w fun e w' => Below w.heap.size w w' ∧ ∃ u, e = .returned (.tuple #[.int .i32 x, u, .bool true]) ∧ Rn w' u l := by
  have hb := begins_any v (92 :: x :: l) 92 w h (by simpa using hl)
  rw [decide_eq_true (by simp)] at hb
  obtain ⟨a, c, rfl⟩ := h.slice
  obtain ⟨bk, o, rfl, _, hc, _⟩ := h.get 0 (by simp)
  simp only [List.length_cons] at h hc hb ⊢
  have HX1 := Rn.tail (x := 92) (l := x :: l) h
  have hA : (if c = 1 then some (⟨bk, o, none⟩ : Addr) else some ⟨bk, o + 1, none⟩) = some ⟨bk, o + 1, none⟩ := by rw [if_neg (by omega)]
  rw [hA] at HX1
  obtain ⟨bk', o', e1, _, hc1, c0⟩ := HX1.get 0 (by simp)
  cases e1
  have c0 : w.cell? ⟨bk, o + 1, none⟩ = some (.int .i32 x) := c0
  simp only [List.length_cons] at HX1 hc1
  have HX := HX1.tail
  have hc2 : (c : Int) ≠ 1 := by omega
  have hcn : ¬ c = 1 := by omega
  by_cases h2 : c = 2
  · subst h2
    rw [if_pos rfl] at HX
    have HXh : Hid (Rn w (.slice (some ⟨bk, o + 1, none⟩) l.length 0) l) := HX
    generalize l.length = n at *
    clear h HX HX1 hc2 hcn
    obtain rfl : n = 0 := by omega
    go_enter Tryd.func75, Tryd.ntmps75
    go_wp2_with fail
    refine hb.mono ?_
    rintro e u ⟨rfl, hu⟩
    obtain rfl := hu.symm
    go_wp2_with fail
    go_region
    go_wp2_with fail
    go_ret3
    exact ⟨(Below.refl _ _).drew, _, rfl, HXh.out.below (Below.refl _ _).drew⟩
  · rw [if_neg (by omega)] at HX
    have HXh : Hid (Rn w (.slice (some ⟨bk, o + 1 + 1, none⟩) l.length (c - 1 - 1)) l) := HX
    generalize l.length = n at *
    clear h HX HX1
    go_enter Tryd.func75, Tryd.ntmps75
    go_wp2_with fail
    refine hb.mono ?_
    rintro e u ⟨rfl, hu⟩
    obtain rfl := hu.symm
    go_wp2_with fail
    go_region
    go_wp2_with fail
    go_ret3
    exact ⟨(Below.refl _ _).drew, _, rfl, HXh.out.below (Below.refl _ _).drew⟩
theorem char_no (l : List Nat) (w : World) (v : Value) (h : Rn w v l) (hl : l = [] ∨ l = [92]) :
    Calls Tryd.prog 75 #[v] w fun e w' => w' = w ∧ e = .returned (.tuple #[.int .i32 0, .slice none 0 0, .bool false]) := by
  rcases hl with rfl | rfl
  · have hb := begins_any v [] 92 w h (by simp)
    rw [decide_eq_false (by simp)] at hb
    obtain ⟨a, c, rfl⟩ := h.slice
    clear h
    go_enter Tryd.func75, Tryd.ntmps75
    go_wp2_with fail
    refine hb.mono ?_
    rintro e u ⟨rfl, hu⟩
    obtain rfl := hu.symm
    go_wp2_with fail
    go_ret3
    exact ⟨rfl, rfl⟩
  · have hb := begins_any v [92] 92 w h (by simp)
    rw [decide_eq_true (by simp)] at hb
    obtain ⟨a, c, rfl⟩ := h.slice
    obtain ⟨bk, o, rfl, _, hc, _⟩ := h.get 0 (by simp)
    simp only [List.length_cons, List.length_nil] at hc hb ⊢
    have hc1 : 1 ≤ c := by omega
    clear h
    go_enter Tryd.func75, Tryd.ntmps75
    go_wp2_with fail
    refine hb.mono ?_
    rintro e u ⟨rfl, hu⟩
    obtain rfl := hu.symm
    go_wp2_with fail
    all_goals (go_ret3; exact ⟨rfl, rfl⟩)
theorem char_any (v : Value) (l : List Nat) (w : World) (h : Rn w v l) (hl : l.length ≤ 140737488351232) :
    Calls Tryd.prog 75 #[v] w (CrOut l w) := by
  cases l with
  | nil =>
    refine (char_no [] w v h (.inl rfl)).mono ?_
    rintro e w' ⟨rfl, rfl⟩
    exact ⟨Below.refl _ _, .inl ⟨rfl, rfl⟩⟩
  | cons x l =>
    by_cases h92 : x = 92
    · subst h92
      cases l with
      | nil =>
        refine (char_no [92] w v h (.inr rfl)).mono ?_
        rintro e w' ⟨rfl, rfl⟩
        exact ⟨Below.refl _ _, .inl ⟨rfl, rfl⟩⟩
      | cons x l =>
        refine (char_esc x l w v h (by simpa using hl)).mono ?_
        rintro e w' ⟨hb, u, rfl, hu⟩
        exact ⟨hb, .inr ⟨x, l, u, rfl, rfl, hu⟩⟩
    · refine (char_of x l w v h (by simpa using hl) h92).mono ?_
      rintro e w' ⟨hb, u, rfl, hu⟩
      exact ⟨hb, .inr ⟨x, l, u, by rw [Gb.rc, if_neg h92], rfl, hu⟩⟩
end Go.Proofs.YtfcnlfblfennaaaDoor

namespace Go.Proofs.YtfcnlfblfennaaaDoor
open Go.RowKit

/-- what readItem answers -/
def ItOut (l : List Nat) (w : World) (e : Ending) (w' : World) : Prop :=
  Below w.heap.size w w' ∧ ((Gb.item l = none ∧ ∃ (a b : Nat) (v : Value), e = .returned (.tuple #[.agg #[Rv a, Rv b], v, .bool false])) ∨
    ∃ (i : Nat × Nat) (r : List Nat) (v : Value), Gb.item l = some (i, r) ∧ e = .returned (.tuple #[.agg #[Rv i.1, Rv i.2], v, .bool true]) ∧ Rn w' v r)
/-- a struct of two cells in a block -/
theorem two_at {W : World} {M : Nat} {x y : Value} {T : TypeId} (h : W.heap[M]? = some (.cells #[x, y] T (0, 0))) : W.cell? ⟨M, 0, none⟩ = some x ∧ W.cell? ⟨M, 1, none⟩ = some y ∧ W.frozen? ⟨M, 0, none⟩ = false ∧ W.frozen? ⟨M, 1, none⟩ = false := by
  refine ⟨?_, ?_, ?_, ?_⟩
  · simp [World.cell?, h]
  · simp [World.cell?, h]
  · simp [World.frozen?, h]
  · simp [World.frozen?, h]
theorem kt_two {W : World} {M : Nat} {x y : Value} {T : TypeId} (h : W.heap[M]? = some (.cells #[x, y] T (0, 0))) (a b : Value) : Kt T W ((W.setCell ⟨M, 0, none⟩ a).setCell ⟨M, 1, none⟩ b) :=
  (Kt.set h 0 a).trans (Kt.set (cur := #[a, y]) (fr := (0, 0)) (by simp [World.setCell, Array.getElem?_modify, h]) 1 b)
theorem below_two {w W : World} {M : Nat} (h : Below M w W) (hM : w.heap.size = M) (x y : Value) : Below w.heap.size w ((W.setCell ⟨M, 0, none⟩ x).setCell ⟨M, 1, none⟩ y) := by
  rw [hM]
  exact Below.setCell (p := ⟨M, 1, none⟩) (Below.setCell (p := ⟨M, 0, none⟩) h (Nat.le_refl M) x) (Nat.le_refl M) y

set_option maxHeartbeats 2000000 in
theorem item_any (v : Value) (l : List Nat) (w : World) (h : Rn w v l) (hl : l.length ≤ 140737488351232) (h93 : l.head? ≠ some 93) :
    Calls Tryd.prog 83 #[v] w (ItOut l w) := by
  have HI : Hid (Gb.item l = (Gb.rc l).bind fun x => if x.2.head? = some 45 then (if x.2.tail.head? = some 93 then none else (Gb.rc x.2.tail).bind fun y => if y.1 < x.1 then none else some ((x.1, y.1), y.2)) else some ((x.1, x.1), x.2)) := Gb.item_rc h93
  obtain ⟨W0, hW0⟩ : ∃ W0, W0 = w.alloc (.cells #[.int .i32 0, .int .i32 0] 120) := ⟨_, rfl⟩
  have HB0 : Hid (Below w.heap.size w W0) := by rw [hW0]; exact (Below.refl _ w).alloc (Nat.le_refl _) _
  have HM0 : Hid (W0.heap[w.heap.size]? = some (.cells #[.int .i32 0, .int .i32 0] 120 (0, 0))) := by rw [hW0]; exact heap_alloc_new w _
  have HL : Hid (l.length ≤ 140737488351232) := hl
  have hc := char_any v l W0 (h.below HB0.out) hl
  clear h h93
  go_enter Tryd.func83, Tryd.ntmps83
  go_wp2_with fail
  rw [← hW0]
  refine hc.mono ?_
  rintro e w1 ⟨b1, ⟨hn, rfl⟩ | ⟨c, r, u, hs, rfl, hr⟩⟩
  · have HB1 : Hid (Below w.heap.size w w1) := HB0.out.trans (b1.mono HB0.out.size)
    have hM := (b1.block _ (Array.getElem?_eq_some_iff.1 HM0.out).1).trans HM0.out
    obtain ⟨m0, m1, f0, f1⟩ := two_at hM
    have HE : Hid (Gb.item l = none) := by
      show _ = _
      rw [HI.out, hn]; rfl
    clear hM b1 hc hn
    generalize hMe : w.heap.size = M at *
    have HMe : Hid (w.heap.size = M) := hMe
    clear hMe
    go_wp2_with fail
    refine bodyPost_ret (v := .tuple #[.agg #[Rv 0, Rv 0], .slice none 0 0, .bool false]) ?_ rfl ⟨?_, .inl ⟨HE.out, 0, 0, _, rfl⟩⟩
    · simp [results, asAddr, go_sem, m0, m1, Rv]
    · exact below_two HB1.out HMe.out _ _
  · have HB1 : Hid (Below w.heap.size w w1) := HB0.out.trans (b1.mono HB0.out.size)
    have hM := (b1.block _ (Array.getElem?_eq_some_iff.1 HM0.out).1).trans HM0.out
    obtain ⟨m0, m1, f0, f1⟩ := two_at hM
    have HK1 : Hid (w1.heap[w.heap.size]? = some (.cells #[.int .i32 0, .int .i32 0] 120 (0, 0))) := hM
    have HMl : Hid (w.heap.size < w1.heap.size) := (Array.getElem?_eq_some_iff.1 hM).1
    have HR : Hid (Rn w1 u r) := hr
    have HRl : Hid (r.length < l.length) := Gb.rc_less hs
    have hq := begins_any u r 45 w1 hr (by have := HRl.out; have := HL.out; omega)
    have HE : Hid (Gb.item l = if r.head? = some 45 then (if r.tail.head? = some 93 then none else (Gb.rc r.tail).bind fun y => if y.1 < c then none else some ((c, y.1), y.2)) else some ((c, c), r)) := by
      show _ = _
      rw [HI.out, hs]; rfl
    obtain ⟨a, d, rfl⟩ := hr.slice
    clear hM b1 hc hs HI HB0 HM0 hr
    generalize hMe : w.heap.size = M at *
    have HMe : Hid (w.heap.size = M) := hMe
    clear hMe
    by_cases hd : r.head? = some 45
    · rw [decide_eq_true hd] at hq
      cases r with
      | nil => cases hd
      | cons y r =>
        obtain ⟨bk, o, rfl, _, hcap, _⟩ := HR.out.get 0 (by simp)
        simp only [List.length_cons] at HR hcap hq
        have HT := HR.out.tail
        obtain ⟨A1, hA1⟩ : ∃ A1, (if d = 1 then some (⟨bk, o, none⟩ : Addr) else some ⟨bk, o + 1, none⟩) = A1 := ⟨_, rfl⟩
        rw [hA1] at HT
        have HTh : Hid (Rn w1 (.slice A1 r.length (d - 1)) r) := HT
        have hrl : r.length ≤ 140737488351232 := by have q := HRl.out; have := HL.out; rw [List.length_cons] at q; omega
        have HE2 : Hid (Gb.item l = if r.head? = some 93 then none else (Gb.rc r).bind fun y => if y.1 < c then none else some ((c, y.1), y.2)) := by
          show _ = _
          rw [HE.out, if_pos hd]; rfl
        have hq2 := begins_any _ r 93 w1 HTh.out hrl
        have hc2 := char_any _ r w1 HTh.out hrl
        clear HE HR hd HT
        simp only [List.length_cons]
        generalize r.length = n at *
        go_wp2_with fail
        refine hq.mono ?_
        rintro e u ⟨rfl, hu⟩
        obtain rfl := hu.symm
        clear hq
        go_wp2_with fail
        by_cases hs : r.head? = some 93
        · rw [decide_eq_true hs] at hq2
          have HE3 : Hid (Gb.item l = none) := by
            show _ = _
            rw [HE2.out, if_pos hs]
          clear HE2 hs hc2
          refine hq2.mono ?_
          rintro e u ⟨rfl, hu⟩
          obtain rfl := hu.symm
          clear hq2
          go_wp2_with fail
          refine bodyPost_ret (v := .tuple #[.agg #[Rv 0, Rv 0], .slice none 0 0, .bool false]) ?_ rfl ⟨?_, .inl ⟨HE3.out, 0, 0, _, rfl⟩⟩
          · simp [results, asAddr, go_sem, m0, m1, Rv]
          · exact below_two HB1.out HMe.out _ _
        · rw [decide_eq_false hs] at hq2
          have HE3 : Hid (Gb.item l = (Gb.rc r).bind fun y => if y.1 < c then none else some ((c, y.1), y.2)) := by
            show _ = _
            rw [HE2.out, if_neg hs]
          clear HE2 hs
          refine hq2.mono ?_
          rintro e u ⟨rfl, hu⟩
          obtain rfl := hu.symm
          clear hq2
          go_wp2_with fail
          refine hc2.mono ?_
          rintro e w2 ⟨b2, ⟨hn, rfl⟩ | ⟨d2, r2, u2, hs, rfl, hr2⟩⟩
          · have HB2 : Hid (Below M w w2) := HB1.out.trans (b2.mono (by have := HMl.out; omega))
            have n0 := (b2.cell (p := ⟨M, 0, none⟩) HMl.out).trans m0
            have n1 := (b2.cell (p := ⟨M, 1, none⟩) HMl.out).trans m1
            have g0 := (b2.frozen (p := ⟨M, 0, none⟩) HMl.out).trans f0
            have g1 := (b2.frozen (p := ⟨M, 1, none⟩) HMl.out).trans f1
            have HE4 : Hid (Gb.item l = none) := by
              show _ = _
              rw [HE3.out, hn]; rfl
            clear HE3 b2 hc2 m0 m1 f0 f1 hn
            go_wp2_with fail
            refine bodyPost_ret (v := .tuple #[.agg #[Rv c, Rv 0], .slice none 0 0, .bool false]) ?_ rfl ⟨?_, .inl ⟨HE4.out, c, 0, _, rfl⟩⟩
            · simp [results, asAddr, go_sem, n0, n1, Rv]
            · exact below_two HB2.out HMe.out _ _
          · have HB2 : Hid (Below M w w2) := HB1.out.trans (b2.mono (by have := HMl.out; omega))
            have n0 := (b2.cell (p := ⟨M, 0, none⟩) HMl.out).trans m0
            have n1 := (b2.cell (p := ⟨M, 1, none⟩) HMl.out).trans m1
            have g0 := (b2.frozen (p := ⟨M, 0, none⟩) HMl.out).trans f0
            have g1 := (b2.frozen (p := ⟨M, 1, none⟩) HMl.out).trans f1
            have HR2 : Hid (Rn w2 u2 r2) := hr2
            have HK2 : Hid (w2.heap[M]? = some (.cells #[.int .i32 0, .int .i32 0] 120 (0, 0))) := (b2.block _ HMl.out).trans HK1.out
            have HE4 : Hid (Gb.item l = if d2 < c then none else some ((c, d2), r2)) := by
              show _ = _
              rw [HE3.out, hs]; rfl
            obtain ⟨a2, k2, rfl⟩ := hr2.slice
            clear HE3 b2 hc2 m0 m1 f0 f1 hs hr2
            generalize r2.length = n2 at *
            by_cases hlt : d2 < c
            · have HE5 : Hid (Gb.item l = none) := by
                show _ = _
                rw [HE4.out, if_pos hlt]
              have hle : ¬ ((c : Int) ≤ (d2 : Int)) := by omega
              clear HE4 hlt
              go_wp2_with fail
              refine bodyPost_ret (v := .tuple #[.agg #[Rv c, Rv d2], .slice a2 n2 k2, .bool false]) ?_ rfl ⟨?_, .inl ⟨HE5.out, c, d2, _, rfl⟩⟩
              · simp [results, asAddr, go_sem, n0, n1, Rv]; omega
              · exact below_two HB2.out HMe.out _ _
            · have HE5 : Hid (Gb.item l = some ((c, d2), r2)) := by
                show _ = _
                rw [HE4.out, if_neg hlt]
              have hle : ((c : Int) ≤ (d2 : Int)) := by omega
              clear HE4 hlt
              go_wp2_with fail
              refine bodyPost_ret (v := .tuple #[.agg #[Rv c, Rv d2], .slice a2 n2 k2, .bool true]) ?_ rfl ⟨?_, .inr ⟨(c, d2), r2, _, HE5.out, rfl, ?_⟩⟩
              · simp [results, asAddr, go_sem, n0, n1, Rv]
              · exact below_two HB2.out HMe.out _ _
              · exact HR2.out.kt (kt_two HK2.out _ _) (by decide)
    · rw [decide_eq_false hd] at hq
      have HE2 : Hid (Gb.item l = some ((c, c), r)) := by
        show _ = _
        rw [HE.out, if_neg hd]
      clear HE hd
      generalize r.length = n at *
      go_wp2_with fail
      refine hq.mono ?_
      rintro e u ⟨rfl, hu⟩
      obtain rfl := hu.symm
      clear hq
      go_wp2_with fail
      refine bodyPost_ret (v := .tuple #[.agg #[Rv c, Rv c], .slice a n d, .bool true]) ?_ rfl ⟨?_, .inr ⟨(c, c), r, _, HE2.out, rfl, ?_⟩⟩
      · simp [results, asAddr, go_sem, m0, m1, Rv]
      · exact below_two HB1.out HMe.out _ _
      · exact HR.out.kt (kt_two HK1.out _ _) (by decide)
end Go.Proofs.YtfcnlfblfennaaaDoor

namespace Go.Proofs.YtfcnlfblfennaaaDoor
open Go.RowKit

/-- what readClass answers -/
def GcOut (l : List Nat) (w : World) (e : Ending) (w' : World) : Prop :=
  Below w.heap.size w w' ∧ ((Gb.cls l = none ∧ ∃ (x y : Bool) (a : Option Addr) (n c : Nat) (v : Value), e = .returned (.tuple #[.agg #[.bool x, .bool y, .slice a n c], v, .bool false])) ∨
    ∃ (t : Gb.Tst) (r : List Nat) (s v : Value), Gb.cls l = some (t, r) ∧ e = .returned (.tuple #[.agg #[.bool false, .bool t.1, s], v, .bool true]) ∧ Itm w' s t.2 ∧ Rn w' v r)
/-- how far readClass is -/
structure GcL (w wr : World) (b2 b5 : Nat) (neg : Bool) (done : List (Nat × Nat)) (rem : List Nat) (v0 sv : Value) : Prop where
  res : wr.heap[b2]? = some (.cells #[.bool false, .bool false, .slice none 0 0] 109 (0, 0))
  str : wr.heap[b5]? = some (.cells #[.bool false, .bool neg, sv] 109 (0, 0))
  its : Oy 2 120 ItR w.heap.size wr sv done
  rest : Rn wr v0 rem
  bel : Below w.heap.size w wr
theorem three_at {W : World} {M : Nat} {x y z : Value} {T : TypeId} (h : W.heap[M]? = some (.cells #[x, y, z] T (0, 0))) : W.cell? ⟨M, 0, none⟩ = some x ∧ W.cell? ⟨M, 1, none⟩ = some y ∧ W.cell? ⟨M, 2, none⟩ = some z ∧
    W.frozen? ⟨M, 0, none⟩ = false ∧ W.frozen? ⟨M, 1, none⟩ = false ∧ W.frozen? ⟨M, 2, none⟩ = false := by
  refine ⟨?_, ?_, ?_, ?_, ?_, ?_⟩
  · simp [World.cell?, h]
  · simp [World.cell?, h]
  · simp [World.cell?, h]
  · simp [World.frozen?, h]
  · simp [World.frozen?, h]
  · simp [World.frozen?, h]
theorem kt_three {W : World} {M : Nat} {x y z : Value} {T : TypeId} (h : W.heap[M]? = some (.cells #[x, y, z] T (0, 0))) (a b c : Value) : Kt T W (((W.setCell ⟨M, 0, none⟩ a).setCell ⟨M, 1, none⟩ b).setCell ⟨M, 2, none⟩ c) :=
  ((Kt.set h 0 a).trans (Kt.set (cur := #[a, y, z]) (fr := (0, 0)) (by simp [World.setCell, Array.getElem?_modify, h]) 1 b)).trans (Kt.set (cur := #[a, b, z]) (fr := (0, 0)) (by simp [World.setCell, Array.getElem?_modify, h]) 2 c)
theorem set_three {W : World} {M : Nat} {x y z : Value} {T : TypeId} (h : W.heap[M]? = some (.cells #[x, y, z] T (0, 0))) (a b c : Value) : (((W.setCell ⟨M, 0, none⟩ a).setCell ⟨M, 1, none⟩ b).setCell ⟨M, 2, none⟩ c).heap[M]? = some (.cells #[a, b, c] T (0, 0)) := by
  simp [World.setCell, Array.getElem?_modify, h]
theorem alloc_old {W : World} {M : Nat} {o : Obj} (h : W.heap[M]? = some o) (q : Obj) : (W.alloc q).heap[M]? = some o :=
  ((Below.refl _ W).alloc (Nat.le_refl _) q).block M (Array.getElem?_eq_some_iff.1 h).1 ▸ h
theorem below_three {w W : World} {M : Nat} (h : Below w.heap.size w W) (hM : w.heap.size = M) (x y z : Value) : Below w.heap.size w (((W.setCell ⟨M, 0, none⟩ x).setCell ⟨M, 1, none⟩ y).setCell ⟨M, 2, none⟩ z) :=
  Below.setCell (p := ⟨M, 2, none⟩) (Below.setCell (p := ⟨M, 1, none⟩) (Below.setCell (p := ⟨M, 0, none⟩) h (Nat.le_of_eq hM) x) (Nat.le_of_eq hM) y) (Nat.le_of_eq hM) z
theorem GcL.past {w wr wr' : World} {b2 b5 : Nat} {neg : Bool} {done : List (Nat × Nat)} {rem : List Nat} {v0 sv : Value} (h : GcL w wr b2 b5 neg done rem v0 sv) (hb : Below wr.heap.size wr wr') : GcL w wr' b2 b5 neg done rem v0 sv :=
  ⟨(hb.block b2 (Array.getElem?_eq_some_iff.1 h.res).1).trans h.res, (hb.block b5 (Array.getElem?_eq_some_iff.1 h.str).1).trans h.str, h.its.below hb fun _ _ q => q, h.rest.below hb, h.bel.trans (hb.mono h.bel.size)⟩
theorem info_item : (Tryd.prog.info? 120).map (fun i => (i.zero, i.size, i.bytes)) = some (some (.agg #[.int .i32 0, .int .i32 0]), 2, 8) := by kernel_rfl

set_option maxHeartbeats 4000000 in
set_option maxRecDepth 10000 in
theorem gclass_any (v : Value) (l : List Nat) (w : World) (h : Rn w v l) (hl : l.length ≤ 4194304) :
    Calls Tryd.prog 74 #[v] w (GcOut l w) := by
  obtain ⟨neg, hneg⟩ : ∃ neg, neg = decide (l.head? = some 94) := ⟨_, rfl⟩
  obtain ⟨L, hL⟩ : ∃ L, L = (if l.head? = some 94 then l.tail else l) := ⟨_, rfl⟩
  have HC : Hid (Gb.cls l = (Gb.nxt true L).map fun x => ((neg, x.1), x.2)) := by
    show _ = _
    rw [hneg, hL]; exact Gb.cls_nxt l
  have HN : Hid (neg = decide (l.head? = some 94)) := hneg
  have HL : Hid (L = (if l.head? = some 94 then l.tail else l)) := hL
  obtain ⟨W0, hW0⟩ : ∃ W0, W0 = w.alloc (.cells #[.bool false, .bool false, .slice none 0 0] 109) := ⟨_, rfl⟩
  obtain ⟨W1, hW1⟩ : ∃ W1, W1 = W0.alloc (.cells #[.bool false, .bool false, .slice none 0 0] 109) := ⟨_, rfl⟩
  have hs0 : W0.heap.size = w.heap.size + 1 := by rw [hW0]; simp
  have hs1 : W1.heap.size = w.heap.size + 2 := by rw [hW1]; simp [hs0]
  have hB0 : Below w.heap.size w W0 := by rw [hW0]; exact (Below.refl _ w).alloc (Nat.le_refl _) _
  have hB1 : Below W0.heap.size W0 W1 := by rw [hW1]; exact (Below.refl _ W0).alloc (Nat.le_refl _) _
  have HB : Hid (Below w.heap.size w W1) := hB0.trans (hB1.mono hB0.size)
  have HR2 : Hid (W1.heap[w.heap.size]? = some (.cells #[.bool false, .bool false, .slice none 0 0] 109 (0, 0))) := by
    show _ = _
    rw [hB1.block _ (by omega), hW0]; exact heap_alloc_new w _
  have HR5 : Hid (W1.heap[w.heap.size + 1]? = some (.cells #[.bool false, .bool false, .slice none 0 0] 109 (0, 0))) := by
    show _ = _
    rw [← hs0, hW1]; exact heap_alloc_new W0 _
  have HX : Hid (Rn W1 v l) := h.below HB.out
  have hq := begins_any v l 94 W1 HX.out (by omega)
  rw [← hneg] at hq
  have HLl : Hid (l.length ≤ 4194304) := hl
  obtain ⟨a, c, rfl⟩ := h.slice
  obtain ⟨N, hNe⟩ : ∃ N, N = l.length := ⟨_, rfl⟩
  have HNl : Hid (N = l.length) := hNe
  rw [← hNe] at HX hq hl ⊢
  clear h hneg hL hB0 hB1 hNe
  go_enter Tryd.func74, Tryd.ntmps74
  go_wp2_with fail
  rw [← hW0, ← hW1]
  generalize hb2 : w.heap.size = b2 at *
  generalize hb5 : b2 + 1 = b5 at *
  have HIx : Hid (w.heap.size = b2 ∧ b2 + 1 = b5 ∧ W1.heap.size = b2 + 2) := ⟨hb2, hb5, hs1⟩
  clear hW0 hW1 hs0 hs1 hb2 hb5
  refine hq.mono ?_
  rintro e u ⟨rfl, hu⟩
  obtain rfl := hu.symm
  clear hq hu
  go_upto_if 10 with fail
  go_cut [0] from 11 to 13 (fun x wx => Hid (GcL w wx b2 b5 neg [] L x (.slice none 0 0)) ∧ Hid (W1.heap.size ≤ wx.heap.size))
  case first =>
    by_cases hh : l.head? = some 94
    · have hn : neg = true := by rw [HN.out]; exact decide_eq_true hh
      have hLt : L = l.tail := by rw [HL.out, if_pos hh]
      cases l with
      | nil => cases hh
      | cons x l =>
        obtain ⟨bk, o, rfl, hbk, hc1, _⟩ := HX.out.get 0 (by simp)
        have hN1 : N = l.length + 1 := HNl.out
        rw [List.length_cons] at hc1
        have HT := HX.out
        rw [hN1] at HT
        replace HT := HT.tail
        obtain ⟨A1, hA1⟩ : ∃ A1, (if c = 1 then some (⟨bk, o, none⟩ : Addr) else some ⟨bk, o + 1, none⟩) = A1 := ⟨_, rfl⟩
        rw [hA1, show l = L from hLt.symm, show L.length = N - 1 from by rw [hLt]; show l.length = _; omega] at HT
        have q1 : (1 : Int) ≤ (N : Int) := by omega
        have q2 : (N : Int) ≤ (c : Int) := by omega
        obtain ⟨m0, m1, m2, f0, f1, f2⟩ := three_at HR5.out
        have HF : Hid (GcL w (W1.setCell ⟨b5, 1, none⟩ (.bool true)) b2 b5 true [] L (.slice A1 (N - 1) (c - 1)) (.slice none 0 0) ∧ W1.heap.size ≤ (W1.setCell ⟨b5, 1, none⟩ (.bool true)).heap.size) := by
          have hk := Kt.set HR5.out 1 (.bool true)
          refine ⟨⟨?_, ?_, Oy.nil, HT.kt hk (by decide), ?_⟩, hk.size⟩
          · rw [Below.heap_setCell _ _ _ _ (by have := HIx.out; simp; omega)]; exact HR2.out
          · simp [World.setCell, Array.getElem?_modify, HR5.out]
          · rw [HIx.out.1]
            exact HB.out.setCell (p := ⟨b5, 1, none⟩) (by have := HIx.out; simp; omega) _
        subst hn
        clear HC HN HL HT hLt HX HLl hl hh HNl hN1 hc1
        go_wp2_with fail
        go_region
        go_wp2_with fail
        go_meet
        exact ⟨HF.out.1.past (Below.refl _ _).drew, HF.out.2⟩
    · have hn : neg = false := by rw [HN.out]; exact decide_eq_false hh
      have hLt : L = l := by rw [HL.out, if_neg hh]
      have HF : Hid (GcL w W1 b2 b5 false [] L (.slice a N c) (.slice none 0 0)) :=
        ⟨HR2.out, HR5.out, Oy.nil, by rw [hLt]; exact HX.out, by rw [HIx.out.1]; exact HB.out⟩
      subst hn
      clear HC HN HL hLt HX HLl hl hh HNl
      go_wp2_with fail
      go_meet
      exact ⟨HF, Nat.le_refl _⟩
  case rest =>
    obtain ⟨HG, HSz⟩ := hcut
    have HLn : Hid (L.length ≤ 4194304) := by
      show _ ≤ _
      have := HNl.out
      rw [HL.out]
      split
      · rw [List.length_tail]; omega
      · omega
    obtain ⟨Z, hZ⟩ : ∃ Z, Gb.nxt true L = Z := ⟨_, rfl⟩
    have HZ : Hid (Gb.cls l = Z.map fun x => ((neg, x.1), x.2)) := by
      have := HC.out
      rwa [hZ] at this
    have HR : Hid ((Gb.nxt true L).map (fun x => (([] : List (Nat × Nat)) ++ x.1, x.2)) = Z) := by
      show _ = _
      rw [hZ]; cases Z <;> rfl
    obtain ⟨i0, hi, hz0, hz1, hz2⟩ := info_is info_item
    have HIy : Hid (w.heap.size = b2 ∧ b2 + 1 = b5) := ⟨HIx.out.1, HIx.out.2.1⟩
    clear HC HN HL HX hZ HB HR2 HR5 HIx HSz HNl HLl hl
    go_wp2_with fail
    go_loopg [0] (L.length + 1) (fun g v0 wr => ∃ (done : List (Nat × Nat)) (rem : List Nat) (sv : Value), g = rem.length + 1 ∧ Hid (GcL w wr b2 b5 neg done rem v0 sv) ∧ Hid ((Gb.nxt (decide (done = [])) rem).map (fun x => (done ++ x.1, x.2)) = Z) ∧ Hid (done.length + rem.length ≤ L.length))
    case atStart => exact ⟨[], L, _, rfl, HG, HR, by show _ ≤ _; simp⟩
    case round =>
      clear HG HR
      obtain ⟨done, rem, sv, rfl, HG, HR, HDl⟩ := hrel
      obtain ⟨a0, c0, rfl⟩ := HG.out.rest.slice
      have hq := begins_any _ rem 93 wr HG.out.rest (by have := HDl.out; have := HLn.out; omega)
      obtain ⟨m0, m1, m2, f0, f1, f2⟩ := three_at HG.out.str
      obtain ⟨r0, r1, r2, g0, g1, g2⟩ := three_at HG.out.res
      by_cases hs : rem.head? = some 93
      · rw [decide_eq_true hs] at hq
        obtain ⟨x, t, rfl⟩ : ∃ x t, rem = x :: t := by
          cases rem with
          | nil => cases hs
          | cons x t => exact ⟨_, _, rfl⟩
        obtain ⟨bk, o, rfl, _, hcap, _⟩ := HG.out.rest.get 0 (by simp)
        have HT := HG.out.rest.tail
        obtain ⟨A1, hA1⟩ : ∃ A1, (if c0 = 1 then some (⟨bk, o, none⟩ : Addr) else some ⟨bk, o + 1, none⟩) = A1 := ⟨_, rfl⟩
        rw [hA1] at HT
        have HTh : Hid (Rn wr (.slice A1 t.length (c0 - 1)) t) := HT
        have HI : Hid (Itm wr sv done) := HG.out.its.ry
        have HBl : Hid (Below w.heap.size w wr) := HG.out.bel
        have HRes : Hid (wr.heap[b2]? = some (.cells #[.bool false, .bool false, .slice none 0 0] 109 (0, 0))) := HG.out.res
        obtain ⟨aI, cI, rfl⟩ := HI.out.slice
        have HA : Hid (Z = if done = [] then none else some (done, t)) := by
          show _ = _
          rw [← HR.out]
          by_cases hd : done = []
          · subst hd
            rw [if_pos rfl, decide_eq_true rfl, Gb.nxt_true, Gb.items_nxt]
            unfold Gb.item
            rw [Gb.pl_shut hs]
            rfl
          · rw [if_neg hd, decide_eq_false hd]
            unfold Gb.nxt
            rw [if_neg (by simp), if_pos ⟨rfl, hs⟩]
            simp
        simp only [List.length_cons] at hq hcap ⊢
        generalize t.length = n at *
        clear HT HG HR hs HDl
        go_wp2_with fail
        refine hq.mono ?_
        rintro e u ⟨rfl, hu⟩
        obtain rfl := hu.symm
        clear hq hu
        obtain ⟨K, hK⟩ : ∃ K, K = done.length := ⟨_, rfl⟩
        have HK : Hid (K = done.length) := hK
        rw [← hK] at m2 HI
        clear hK
        have ne1 : ¬ b5 = b2 := by have := HIy.out; omega
        have ne2 : ¬ b2 = b5 := by have := HIy.out; omega
        have q1 : (1 : Int) ≤ (n : Int) + 1 := by omega
        go_wp2_with fail
        go_region
        go_wp2_with fail
        have HKt : Hid (Kt 109 wr (((wr.setCell ⟨b2, 0, none⟩ (.bool false)).setCell ⟨b2, 1, none⟩ (.bool neg)).setCell ⟨b2, 2, none⟩ (.slice aI K cI)).drew) := (kt_three HRes.out _ _ _).drew
        by_cases hd : done = []
        · have hK0 : K = 0 := by rw [HK.out, hd]; rfl
          subst hK0
          refine bodyPost_ret (v := .tuple #[.agg #[.bool false, .bool neg, .slice aI 0 cI], .slice A1 n (c0 - 1), .bool false]) ?_ rfl ⟨(below_three HBl.out HIy.out.1 _ _ _).drew, .inl ⟨by rw [HZ.out, HA.out, if_pos hd]; rfl, false, neg, _, _, _, _, rfl⟩⟩
          simp [results, asAddr, go_sem, r0, r1, r2]
        · have hK0 : 0 < K := by
            rw [HK.out]
            exact List.length_pos_iff.2 hd
          refine bodyPost_ret (v := .tuple #[.agg #[.bool false, .bool neg, .slice aI K cI], .slice A1 n (c0 - 1), .bool true]) ?_ rfl ⟨(below_three HBl.out HIy.out.1 _ _ _).drew, .inr ⟨(neg, done), t, _, _, by rw [HZ.out, HA.out, if_neg hd]; rfl, rfl, HI.out.kt HKt.out (by decide), HTh.out.kt HKt.out (by decide)⟩⟩
          simp [results, asAddr, go_sem, r0, r1, r2, hK0]
      · rw [decide_eq_false hs] at hq
        have HSt : Hid (Z = (Gb.item rem).bind fun x => ((Gb.nxt false x.2).map fun y => (x.1 :: y.1, y.2)).map fun x => (done ++ x.1, x.2)) := by
          show _ = _
          rw [← HR.out]
          by_cases hd : (decide (done = [])) = false ∧ rem = []
          · rw [hd.2]
            rw [hd.1]
            rfl
          · rw [Gb.nxt_step hd (fun q => hs q.2)]
            cases Gb.item rem <;> rfl
        have hit := item_any _ rem wr HG.out.rest (by have := HDl.out; have := HLn.out; omega) hs
        clear hs HR
        generalize hnr : rem.length = n at *
        have HNr : Hid (rem.length = n) := hnr
        clear hnr
        go_wp2_with fail
        refine hq.mono ?_
        rintro e u ⟨rfl, hu⟩
        obtain rfl := hu.symm
        clear hq hu
        go_wp2_with fail
        refine hit.mono ?_
        rintro e w3 ⟨b3, ⟨hn, x, y, u, rfl⟩ | ⟨i, r, u, hi2, rfl, hr⟩⟩
        · have HB3 : Hid (Below w.heap.size w w3) := HG.out.bel.trans (b3.mono HG.out.bel.size)
          have HE : Hid (Gb.cls l = none) := by
            show _ = _
            rw [HZ.out, HSt.out, hn]; rfl
          obtain ⟨r0, r1, r2, g0, g1, g2⟩ := three_at ((b3.block _ (Array.getElem?_eq_some_iff.1 HG.out.res).1).trans HG.out.res)
          have HRs : Hid (w3.heap[b2]? = some (.cells #[.bool false, .bool false, .slice none 0 0] 109 (0, 0))) := (b3.block _ (Array.getElem?_eq_some_iff.1 HG.out.res).1).trans HG.out.res
          have hlb : b2 < w3.heap.size := Nat.lt_of_lt_of_le (Array.getElem?_eq_some_iff.1 HG.out.res).1 b3.size
          clear b3 hn hit HG m0 m1 m2 f0 f1 f2 HSt HZ
          unfold Rv
          go_wp2_with fail
          have hF := alloc_old (set_three HRs.out (.bool false) (.bool false) (.slice none 0 0)) (.cells #[.int .i32 x, .int .i32 y] 120)
          have HBF : Hid (Below w.heap.size w ((((w3.setCell ⟨b2, 0, none⟩ (.bool false)).setCell ⟨b2, 1, none⟩ (.bool false)).setCell ⟨b2, 2, none⟩ (.slice none 0 0)).alloc (.cells #[.int .i32 x, .int .i32 y] 120))) := (below_three HB3.out HIy.out.1 _ _ _).alloc (by simp only [World.setCell, Array.size_modify]; exact HB3.out.size) _
          clear r0 r1 r2 g0 g1 g2
          generalize (((w3.setCell ⟨b2, 0, none⟩ (.bool false)).setCell ⟨b2, 1, none⟩ (.bool false)).setCell ⟨b2, 2, none⟩ (.slice none 0 0)).alloc (.cells #[.int .i32 x, .int .i32 y] 120) = FW at *
          obtain ⟨x0, x1, x2, _⟩ := three_at hF
          refine bodyPost_ret (v := .tuple #[.agg #[.bool false, .bool false, .slice none 0 0], .slice none 0 0, .bool false]) ?_ rfl ⟨HBF.out, .inl ⟨HE.out, false, false, _, _, _, _, rfl⟩⟩
          simp [results, asAddr, go_sem, x0, x1, x2]
        · have HGp : Hid (GcL w w3 b2 b5 neg done rem (.slice a0 n c0) sv) := HG.out.past b3
          have HRu : Hid (Rn w3 u r) := hr
          have HRl : Hid (r.length < rem.length) := Gb.item_less hi2
          have HE : Hid (((Gb.nxt false r).map fun y => (i :: y.1, y.2)).map (fun x => (done ++ x.1, x.2)) = Z) := by
            show _ = _
            rw [HSt.out, hi2]; rfl
          obtain ⟨cs, o1, o2, o3, o4⟩ := HGp.out.its
          obtain ⟨m0, m1, m2, f0, f1, f2⟩ := three_at HGp.out.str
          have hlb : b5 < w3.heap.size := (Array.getElem?_eq_some_iff.1 HGp.out.str).1
          have hsw := HGp.out.bel.size
          have hdl : done.length ≤ 4194304 := by have := HDl.out; have := HLn.out; omega
          have HO2 : Hid ((∀ c ∈ cs, c.length = 2) ∧ cs.length = done.length ∧ ∀ (j : Nat) t c, done[j]? = some t → cs[j]? = some c → ItR w3 t c) := ⟨o2, o3, o4⟩
          have HOy : Hid (Oy 2 120 ItR w.heap.size w3 sv done) := HGp.out.its
          obtain ⟨au, cu, rfl⟩ := hr.slice
          obtain ⟨x, y⟩ := i
          clear b3 hit HG m0 m1 f0 f1 r0 r1 r2 g0 g1 g2 HSt hi2 hr o2 o3 o4
          unfold Rv
          go_wp2_with (at_builtin; refine wpList_append_own _ rfl (.tmp 27) (.tmp 29) 107 rfl w.heap.size 120 i0 (.agg #[.int .i32 0, .int .i32 0]) 2 8 Tryd.underlying107 hi hz0 hz1 hz2 rfl (by decide) _ _ _ rfl ((o1.alloc _).alloc _) ⟨w3.heap.size + 1, 0, none⟩ 1 1 [Rv x, Rv y] rfl rfl ?c1 ?c2 ?c3 ?c4 ?c5 ?_)
          case c1 =>
            intro j u hj
            match j, hj with
            | 0, hj => simp at hj; subst hj; simp [Addr.add, Rv]
            | 1, hj => simp at hj; subst hj; simp [Addr.add, Rv]
          case c2 =>
            intro u hu
            rcases List.mem_cons.1 hu with rfl | hu
            · rfl
            · rw [List.mem_singleton.1 hu]; rfl
          case c3 => unfold maxLen; omega
          case c4 => omega
          case c5 => simp; omega
          intro v1 w4 hown4 hgrow _
          have hk4 : Kt 120 w3 w4 := (((Kt.refl _ w3).alloc _).alloc _).trans (Kt.of_grown hgrow fun g hg => by
            obtain ⟨cur, q, _⟩ := own_block ((o1.alloc _).alloc _) hg
            exact ⟨cur, _, q⟩)
          have hres4 := hk4.cell HGp.out.res (by decide)
          have hstr4 := hk4.cell HGp.out.str (by decide)
          have HOn : Hid (Oy 2 120 ItR w.heap.size w4 v1 (done ++ [(x, y)])) := Oy.more HO2.out.1 HO2.out.2.1 (fun j t c a b => HO2.out.2.2 j t c a b) hown4 rfl rfl
          have HB4 : Hid (Below w.heap.size w w4) := ((HGp.out.bel.alloc hsw _).alloc (by simp; omega) _).grown hgrow (by simp; omega) fun g hg => by
            obtain ⟨_, _, q, _⟩ := own_block o1 hg
            exact q
          obtain ⟨av, cv, hv1⟩ := own_len hown4
          have HRr : Hid (Rn w4 (.slice au r.length cu) r) := HRu.out.kt hk4 (by decide)
          subst hv1
          have HNx : Hid (GcL w (w4.setCell ⟨b5, 2, none⟩ (.slice av (done.length + 1) cv)) b2 b5 neg (done ++ [(x, y)]) r (.slice au r.length cu) (.slice av (done.length + 1) cv)) := by
            have hk5 := Kt.set hstr4 2 (.slice av (done.length + 1) cv)
            refine ⟨?_, ?_, HOn.out.kt hk5 (by decide) fun _ _ q => q, HRr.out.kt hk5 (by decide), ?_⟩
            · rw [Below.heap_setCell _ _ _ _ (by have := HIy.out; simp; omega)]; exact hres4
            · simp [World.setCell, Array.getElem?_modify, hstr4]
            · exact HB4.out.setCell (p := ⟨b5, 2, none⟩) (by have := HIy.out; simp; omega) _
          obtain ⟨m0, m1, m2, f0, f1, f2⟩ := three_at hstr4
          have HRl2 : Hid (r.length < n) := by
            show _ < _
            rw [← HNr.out]; exact HRl.out
          clear hown4 hgrow hk4 hres4 hstr4 HOn HB4 HRr o1 HGp HO2 HOy HRu
          generalize hnr : r.length = n2 at *
          have HNr2 : Hid (r.length = n2) := hnr
          clear hnr
          go_wp2_with fail
          go_roundg (n2 + 1)
          case measure => have := HRl2.out; omega
          case rel =>
            refine ⟨done ++ [(x, y)], r, _, by rw [HNr2.out], HNx, ?_, ?_⟩
            · show _ = _
              rw [decide_eq_false (by simp), ← HE.out]
              cases Gb.nxt false r <;> simp
            · show _ ≤ _
              have := HDl.out
              have := HRl2.out
              rw [List.length_append, List.length_singleton, HNr2.out]
              omega
end Go.Proofs.YtfcnlfblfennaaaDoor

namespace Go.Proofs.YtfcnlfblfennaaaDoor
open Go.RowKit

/-- what readSign answers -/
def SnOut (l : List Nat) (w : World) (e : Ending) (w' : World) : Prop :=
  Below w.heap.size w w' ∧ ((Gb.sgn l = none ∧ ∃ (x y : Bool) (a : Option Addr) (n c : Nat) (v : Value), e = .returned (.tuple #[.agg #[.bool x, .bool y, .slice a n c], v, .bool false])) ∨
    ∃ (t : Option Gb.Tst) (r : List Nat) (x y : Bool) (a : Option Addr) (n c : Nat) (v : Value), Gb.sgn l = some (t, r) ∧ e = .returned (.tuple #[.agg #[.bool x, .bool y, .slice a n c], v, .bool true]) ∧ SgR w' t [.bool x, .bool y, .slice a n c] ∧ Rn w' v r)
theorem Gb.sgn_cons (c : Nat) (l : List Nat) : Gb.sgn (c :: l) = if c = 42 then some (none, l) else if c = 63 then some (some Gb.anyc, l) else if c = 91 then (Gb.cls l).map (fun x => (some x.1, x.2)) else (Gb.rc (c :: l)).map fun x => (some (Gb.just x.1), x.2) := rfl

theorem itm_new (W : World) (n d : Nat) (hn : W.heap.size = n) : Itm (W.alloc (.cells #[.int .i32 d, .int .i32 d] 120)) (.slice (some ⟨n, 0, none⟩) 1 1) [(d, d)] := by
  subst hn
  have hh := heap_alloc_new W (.cells #[.int .i32 d, .int .i32 d] 120)
  refine ⟨.inr ⟨W.heap.size, 0, 1, rfl, Nat.le_refl _, ⟨_, _, hh⟩, fun j t hj => ?_⟩⟩
  cases j with
  | zero =>
    obtain rfl : (d, d) = t := by simpa using hj
    refine ⟨[Rv d, Rv d], rfl, rfl, fun r u hu => ?_⟩
    match r, hu with
    | 0, hu => simp at hu; subst hu; exact (two_at hh).1
    | 1, hu => simp at hu; subst hu; exact (two_at hh).2.1
  | succ j => simp at hj
theorem set_size (W : World) (p q r : Addr) (a b c : Value) : (((W.setCell p a).setCell q b).setCell r c).heap.size = W.heap.size := by simp [World.setCell]

set_option maxHeartbeats 4000000 in
set_option maxRecDepth 10000 in
theorem sign_any (v : Value) (x : Nat) (l : List Nat) (w : World) (h : Rn w v (x :: l)) (hl : l.length + 1 ≤ 4194304) :
    Calls Tryd.prog 63 #[v] w (SnOut (x :: l) w) := by
  obtain ⟨W0, hW0⟩ : ∃ W0, W0 = w.alloc (.cells #[.bool false, .bool false, .slice none 0 0] 109) := ⟨_, rfl⟩
  have HB0 : Hid (Below w.heap.size w W0) := by rw [hW0]; exact (Below.refl _ w).alloc (Nat.le_refl _) _
  have HM0 : Hid (W0.heap[w.heap.size]? = some (.cells #[.bool false, .bool false, .slice none 0 0] 109 (0, 0))) := by rw [hW0]; exact heap_alloc_new w _
  have h0 := h.below HB0.out
  have hch := char_any v (x :: l) W0 h0 (by simp only [List.length_cons]; omega)
  obtain ⟨a, c, rfl⟩ := h.slice
  obtain ⟨bk, o, rfl, _, hcap, c0⟩ := h0.get 0 (by simp)
  have c0 : W0.cell? ⟨bk, o, none⟩ = some (.int .i32 x) := c0
  have HT := h0.tail
  obtain ⟨A1, hA1⟩ : ∃ A1, (if c = 1 then some (⟨bk, o, none⟩ : Addr) else some ⟨bk, o + 1, none⟩) = A1 := ⟨_, rfl⟩
  rw [hA1] at HT
  have HTh : Hid (Rn W0 (.slice A1 l.length (c - 1)) l) := HT
  have hcl := gclass_any _ l W0 HT (by omega)
  obtain ⟨m0, m1, m2, f0, f1, f2⟩ := three_at HM0.out
  have HS := Gb.sgn_cons x l
  simp only [List.length_cons] at hcap hch ⊢
  have q1 : (1 : Int) ≤ (l.length : Int) + 1 := by omega
  clear h h0 HT
  generalize l.length = n at *
  by_cases h42 : x = 42
  · rw [if_pos h42] at HS
    have HE : Hid (Gb.sgn (x :: l) = some (none, l)) := HS
    subst h42
    clear hcl hch HS
    go_enter Tryd.func63, Tryd.ntmps63
    go_upto_region 1 with fail
    rw [← hW0]
    clear hW0
    go_wp2_with fail
    go_region
    go_wp2_with fail
    refine bodyPost_ret (v := .tuple #[.agg #[.bool true, .bool false, .slice none 0 0], .slice A1 n (c - 1), .bool true]) ?_ rfl ⟨(below_three HB0.out rfl _ _ _).drew, .inr ⟨none, l, true, false, none, 0, 0, _, HE.out, rfl, ⟨false, _, _, _, rfl⟩, (HTh.out.kt (kt_three HM0.out _ _ _).drew (by decide))⟩⟩
    simp [results, asAddr, go_sem, m0, m1, m2]
  have d42 : ((x : Int) == 42) = false := by rw [beq_eq_false_iff_ne]; omega
  rw [if_neg h42] at HS
  clear h42
  by_cases h63 : x = 63
  · rw [if_pos h63] at HS
    have HE : Hid (Gb.sgn (x :: l) = some (some Gb.anyc, l)) := HS
    subst h63
    clear hcl hch HS d42
    go_enter Tryd.func63, Tryd.ntmps63
    go_upto_region 1 with fail
    rw [← hW0]
    clear hW0
    go_wp2_with fail
    go_region
    go_wp2_with fail
    refine bodyPost_ret (v := .tuple #[.agg #[.bool false, .bool true, .slice none 0 0], .slice A1 n (c - 1), .bool true]) ?_ rfl ⟨(below_three HB0.out rfl _ _ _).drew, .inr ⟨some Gb.anyc, l, false, true, none, 0, 0, _, HE.out, rfl, ⟨_, rfl, Ry.nil _ _⟩, (HTh.out.kt (kt_three HM0.out _ _ _).drew (by decide))⟩⟩
    simp [results, asAddr, go_sem, m0, m1, m2]
  have d63 : ((x : Int) == 63) = false := by rw [beq_eq_false_iff_ne]; omega
  rw [if_neg h63] at HS
  clear h63
  by_cases h91 : x = 91
  · rw [if_pos h91] at HS
    have HE : Hid (Gb.sgn (x :: l) = (Gb.cls l).map fun x => (some x.1, x.2)) := HS
    subst h91
    clear hch HS d42 d63
    go_enter Tryd.func63, Tryd.ntmps63
    go_upto_region 1 with fail
    rw [← hW0]
    clear hW0
    go_wp2_with fail
    refine hcl.mono ?_
    rintro e w1 ⟨b1, ⟨hn, x, y, a2, n2, c2, u, rfl⟩ | ⟨t, r, s, u, hs, rfl, hI, hR⟩⟩
    · have HB1 : Hid (Below w.heap.size w w1) := HB0.out.trans (b1.mono HB0.out.size)
      have hM := (b1.block _ (Array.getElem?_eq_some_iff.1 HM0.out).1).trans HM0.out
      obtain ⟨m0, m1, m2, f0, f1, f2⟩ := three_at hM
      have HE2 : Hid (Gb.sgn (91 :: l) = none) := by
        show _ = _
        rw [HE.out, hn]; rfl
      clear hcl b1 hn HE
      go_wp2_with fail
      refine bodyPost_ret (v := .tuple #[.agg #[.bool x, .bool y, .slice a2 n2 c2], u, .bool false]) ?_ rfl ⟨below_three HB1.out rfl _ _ _, .inl ⟨HE2.out, x, y, a2, n2, c2, u, rfl⟩⟩
      simp [results, asAddr, go_sem, m0, m1, m2]
    · have HB1 : Hid (Below w.heap.size w w1) := HB0.out.trans (b1.mono HB0.out.size)
      have hM := (b1.block _ (Array.getElem?_eq_some_iff.1 HM0.out).1).trans HM0.out
      obtain ⟨m0, m1, m2, f0, f1, f2⟩ := three_at hM
      have HE2 : Hid (Gb.sgn (91 :: l) = some (some t, r)) := by
        show _ = _
        rw [HE.out, hs]; rfl
      obtain ⟨a2, c2, rfl⟩ := hI.slice
      have HI : Hid (Itm w1 (.slice a2 t.2.length c2) t.2) := hI
      have HR : Hid (Rn w1 u r) := hR
      have HM1 : Hid (w1.heap[w.heap.size]? = some (.cells #[.bool false, .bool false, .slice none 0 0] 109 (0, 0))) := hM
      clear hcl b1 hs HE hI hR hM
      obtain ⟨neg, its⟩ := t
      dsimp only at HI ⊢
      generalize hk : its.length = k at *
      clear hk
      go_wp2_with fail
      refine bodyPost_ret (v := .tuple #[.agg #[.bool false, .bool neg, .slice a2 k c2], u, .bool true]) ?_ rfl ⟨below_three HB1.out rfl _ _ _, .inr ⟨some (neg, its), r, false, neg, a2, k, c2, u, HE2.out, rfl, ⟨_, rfl, Itm.kt (kt_three HM1.out _ _ _) (by decide) HI.out⟩, HR.out.kt (kt_three HM1.out _ _ _) (by decide)⟩⟩
      simp [results, asAddr, go_sem, m0, m1, m2]
  have d91 : ((x : Int) == 91) = false := by rw [beq_eq_false_iff_ne]; omega
  rw [if_neg h91] at HS
  have HE : Hid (Gb.sgn (x :: l) = (Gb.rc (x :: l)).map fun x => (some (Gb.just x.1), x.2)) := HS
  clear h91 HS hcl
  go_enter Tryd.func63, Tryd.ntmps63
  go_upto_region 1 with fail
  rw [← hW0]
  clear hW0
  go_wp2_with fail
  refine hch.mono ?_
  rintro e w1 ⟨b1, ⟨hn, rfl⟩ | ⟨d, r, u, hs, rfl, hR⟩⟩
  · have HB1 : Hid (Below w.heap.size w w1) := HB0.out.trans (b1.mono HB0.out.size)
    have hM := (b1.block _ (Array.getElem?_eq_some_iff.1 HM0.out).1).trans HM0.out
    have HE2 : Hid (Gb.sgn (x :: l) = none) := by
      show _ = _
      rw [HE.out, hn]; rfl
    obtain ⟨m0, m1, m2, f0, f1, f2⟩ := three_at hM
    have hlb : w.heap.size < w1.heap.size := (Array.getElem?_eq_some_iff.1 hM).1
    have HM1 : Hid (w1.heap[w.heap.size]? = some (.cells #[.bool false, .bool false, .slice none 0 0] 109 (0, 0))) := hM
    clear hch b1 hn HE hM
    go_wp2_with fail
    have hF := alloc_old (set_three HM1.out (.bool false) (.bool false) (.slice (some ⟨w1.heap.size, 0, none⟩) 1 1)) (.cells #[.int .i32 0, .int .i32 0] 120)
    have HBF : Hid (Below w.heap.size w ((((w1.setCell ⟨w.heap.size, 0, none⟩ (.bool false)).setCell ⟨w.heap.size, 1, none⟩ (.bool false)).setCell ⟨w.heap.size, 2, none⟩ (.slice (some ⟨w1.heap.size, 0, none⟩) 1 1)).alloc (.cells #[.int .i32 0, .int .i32 0] 120))) := (below_three HB1.out rfl _ _ _).alloc (by rw [set_size]; exact HB1.out.size) _
    clear m0 m1 m2 f0 f1 f2
    generalize (((w1.setCell ⟨w.heap.size, 0, none⟩ (.bool false)).setCell ⟨w.heap.size, 1, none⟩ (.bool false)).setCell ⟨w.heap.size, 2, none⟩ (.slice (some ⟨w1.heap.size, 0, none⟩) 1 1)).alloc (.cells #[.int .i32 0, .int .i32 0] 120) = FW at *
    obtain ⟨x0, x1, x2, _⟩ := three_at hF
    refine bodyPost_ret (v := .tuple #[.agg #[.bool false, .bool false, .slice (some ⟨w1.heap.size, 0, none⟩) 1 1], .slice none 0 0, .bool false]) ?_ rfl ⟨HBF.out, .inl ⟨HE2.out, false, false, _, _, _, _, rfl⟩⟩
    simp [results, asAddr, go_sem, x0, x1, x2]
  · have HB1 : Hid (Below w.heap.size w w1) := HB0.out.trans (b1.mono HB0.out.size)
    have hM := (b1.block _ (Array.getElem?_eq_some_iff.1 HM0.out).1).trans HM0.out
    have HE2 : Hid (Gb.sgn (x :: l) = some (some (Gb.just d), r)) := by
      show _ = _
      rw [HE.out, hs]; rfl
    obtain ⟨m0, m1, m2, f0, f1, f2⟩ := three_at hM
    have hlb : w.heap.size < w1.heap.size := (Array.getElem?_eq_some_iff.1 hM).1
    have HM1 : Hid (w1.heap[w.heap.size]? = some (.cells #[.bool false, .bool false, .slice none 0 0] 109 (0, 0))) := hM
    have HR : Hid (Rn w1 u r) := hR
    clear hch b1 hs HE hM hR
    go_wp2_with fail
    have hF := alloc_old (set_three HM1.out (.bool false) (.bool false) (.slice (some ⟨w1.heap.size, 0, none⟩) 1 1)) (.cells #[.int .i32 d, .int .i32 d] 120)
    have HBF : Hid (Below w.heap.size w ((((w1.setCell ⟨w.heap.size, 0, none⟩ (.bool false)).setCell ⟨w.heap.size, 1, none⟩ (.bool false)).setCell ⟨w.heap.size, 2, none⟩ (.slice (some ⟨w1.heap.size, 0, none⟩) 1 1)).alloc (.cells #[.int .i32 d, .int .i32 d] 120))) := (below_three HB1.out rfl _ _ _).alloc (by rw [set_size]; exact HB1.out.size) _
    have HIt := itm_new (((w1.setCell ⟨w.heap.size, 0, none⟩ (.bool false)).setCell ⟨w.heap.size, 1, none⟩ (.bool false)).setCell ⟨w.heap.size, 2, none⟩ (.slice (some ⟨w1.heap.size, 0, none⟩) 1 1)) w1.heap.size d (set_size _ _ _ _ _ _ _)
    have HRF := HR.out.kt ((kt_three HM1.out (.bool false) (.bool false) (.slice (some ⟨w1.heap.size, 0, none⟩) 1 1)).alloc (.cells #[.int .i32 d, .int .i32 d] 120)) (by decide)
    clear m0 m1 m2 f0 f1 f2
    generalize (((w1.setCell ⟨w.heap.size, 0, none⟩ (.bool false)).setCell ⟨w.heap.size, 1, none⟩ (.bool false)).setCell ⟨w.heap.size, 2, none⟩ (.slice (some ⟨w1.heap.size, 0, none⟩) 1 1)).alloc (.cells #[.int .i32 d, .int .i32 d] 120) = FW at *
    obtain ⟨x0, x1, x2, _⟩ := three_at hF
    refine bodyPost_ret (v := .tuple #[.agg #[.bool false, .bool false, .slice (some ⟨w1.heap.size, 0, none⟩) 1 1], u, .bool true]) ?_ rfl ⟨HBF.out, .inr ⟨some (Gb.just d), r, false, false, _, _, _, _, HE2.out, rfl, ⟨_, rfl, HIt⟩, HRF⟩⟩
    simp [results, asAddr, go_sem, x0, x1, x2]
end Go.Proofs.YtfcnlfblfennaaaDoor

namespace Go.Proofs.YtfcnlfblfennaaaDoor
open Go.RowKit

/-- what readPart answers -/
def PaOut (s : List UInt8) (w : World) (e : Ending) (w' : World) : Prop :=
  Below w.heap.size w w' ∧ ((Gb.part s = none ∧ ∃ (b : Bool) (a : Option Addr) (n c : Nat), e = .returned (.tuple #[.agg #[.bool b, .slice a n c], .bool false])) ∨
    ∃ (p : Option (List (Option Gb.Tst))) (b : Bool) (a : Option Addr) (n c : Nat), Gb.part s = some p ∧ e = .returned (.tuple #[.agg #[.bool b, .slice a n c], .bool true]) ∧ PtR w' p [.bool b, .slice a n c])
/-- how far readPart is -/
structure PaL (w wr : World) (b2 : Nat) (done : List (Option Gb.Tst)) (rem : List Nat) (v4 v5 : Value) : Prop where
  res : wr.heap[b2]? = some (.cells #[.bool false, .slice none 0 0] 54 (0, 0))
  sgs : Oy 3 109 SgR w.heap.size wr v4 done
  rest : Rn wr v5 rem
  bel : Below w.heap.size w wr
theorem PaL.past {w wr wr' : World} {b2 : Nat} {done : List (Option Gb.Tst)} {rem : List Nat} {v4 v5 : Value} (h : PaL w wr b2 done rem v4 v5) (hb : Below wr.heap.size wr wr') : PaL w wr' b2 done rem v4 v5 :=
  ⟨(hb.block b2 (Array.getElem?_eq_some_iff.1 h.res).1).trans h.res, h.sgs.below hb fun _ _ q => q.below hb, h.rest.below hb, h.bel.trans (hb.mono h.bel.size)⟩
theorem set_two {W : World} {M : Nat} {x y : Value} {T : TypeId} (h : W.heap[M]? = some (.cells #[x, y] T (0, 0))) (a b : Value) : ((W.setCell ⟨M, 0, none⟩ a).setCell ⟨M, 1, none⟩ b).heap[M]? = some (.cells #[a, b] T (0, 0)) := by
  simp [World.setCell, Array.getElem?_modify, h]
theorem set_size2 (W : World) (p q : Addr) (a b : Value) : ((W.setCell p a).setCell q b).heap.size = W.heap.size := by simp [World.setCell]
theorem info_sign : (Tryd.prog.info? 109).map (fun i => (i.zero, i.size, i.bytes)) = some (some (.agg #[.bool false, .bool false, .slice none 0 0]), 3, 32) := by kernel_rfl
/-- the runes of a text -/
theorem conv_runes (s : ByteArray) (cs : List Nat) (w : World) (hc : Nn.chars s.data.toList = some cs) (hs : s.size ≤ 4194304) :
    ∃ (cap : Nat) (W : World), (convert 9 106 (.string s)).run Tryd.prog w = .ok (.slice (some ⟨w.heap.size, 0, none⟩) cs.length cap) W ∧ Rn W (.slice (some ⟨w.heap.size, 0, none⟩) cs.length cap) cs ∧ Below w.heap.size w W ∧ cs.length ≤ s.size := by
  have hr := runes_chars hc
  have hz : (Conv.runesFrom s s.size 0 #[]).size = cs.length := by rw [hr]; simp
  have hle : cs.length ≤ s.size := by
    have := size_runesFrom s s.size 0 #[]
    rw [hz] at this
    simpa using this
  have h := run_runes_of_string (P := Tryd.prog) w 9 106 21 s Tryd.underlying9 Tryd.underlying106 Tryd.underlying21 (by rw [hz]; omega)
  have hg := grownCap_ge w (Conv.runesFrom s s.size 0 #[]).size 0 21
  rw [hz] at h hg
  rw [hr] at h
  refine ⟨_, _, h, ?_, ?_, hle⟩
  · exact Rn.made w.drew cs _ _ (by simpa using hg)
  · exact ((Below.refl _ w).drew).alloc (Nat.le_refl _) _

set_option maxHeartbeats 4000000 in
set_option maxRecDepth 10000 in
theorem gpart_any (s : ByteArray) (cs : List Nat) (w : World) (hcs : Nn.chars s.data.toList = some cs) (hs : s.size ≤ 1048576) :
    Calls Tryd.prog 44 #[.string s] w (PaOut s.data.toList w) := by
  have hp := Gb.part_sgs hcs
  obtain ⟨W0, hW0⟩ : ∃ W0, W0 = w.alloc (.cells #[.bool false, .slice none 0 0] 54) := ⟨_, rfl⟩
  have HB0 : Hid (Below w.heap.size w W0) := by rw [hW0]; exact (Below.refl _ w).alloc (Nat.le_refl _) _
  have HM0 : Hid (W0.heap[w.heap.size]? = some (.cells #[.bool false, .slice none 0 0] 54 (0, 0))) := by rw [hW0]; exact heap_alloc_new w _
  obtain ⟨m0, m1, f0, f1⟩ := two_at HM0.out
  by_cases h2 : s.data.toList = [42, 42]
  · rw [if_pos h2] at hp
    have HE : Hid (Gb.part s.data.toList = some none) := hp
    obtain rfl := of_data h2
    clear hp h2 hcs
    go_enter Tryd.func44, Tryd.ntmps44
    go_upto_region 1 with fail
    rw [← hW0]
    clear hW0
    go_wp2_with fail
    refine bodyPost_ret (v := .tuple #[.agg #[.bool true, .slice none 0 0], .bool true]) ?_ rfl ⟨below_two HB0.out rfl _ _, .inr ⟨none, true, none, 0, 0, HE.out, rfl, ⟨_, _, _, rfl⟩⟩⟩
    simp [results, asAddr, go_sem, m0, m1]
  rw [if_neg h2] at hp
  have e1 : (s.toList == [42, 42]) = false := data_ne h2
  have HP : Hid (Gb.part s.data.toList = (Gb.sgs cs).bind fun m => if m = [] then none else some (some m)) := hp
  obtain ⟨cap, W1, hcv, hR1, hB1, hle⟩ := conv_runes s cs W0 hcs (by omega)
  have HL1 : Hid (PaL w W1 w.heap.size [] cs (.slice none 0 0) (.slice (some ⟨W0.heap.size, 0, none⟩) cs.length cap)) :=
    ⟨(hB1.block _ (Array.getElem?_eq_some_iff.1 HM0.out).1).trans HM0.out, Oy.nil, hR1, HB0.out.trans (hB1.mono HB0.out.size)⟩
  have HLn : Hid (cs.length ≤ 1048576) := Nat.le_trans hle hs
  obtain ⟨Z, hZ⟩ : ∃ Z, Gb.sgs cs = Z := ⟨_, rfl⟩
  have HZ : Hid (Gb.part s.data.toList = Z.bind fun m => if m = [] then none else some (some m)) := by rw [← hZ]; exact HP.out
  have HR : Hid ((Gb.sgs cs).map (fun x => ([] : List (Option Gb.Tst)) ++ x) = Z) := by
    show _ = _
    rw [hZ]; cases Z <;> rfl
  obtain ⟨i0, hi, hz0, hz1, hz2⟩ := info_is info_sign
  obtain ⟨v1, hv1⟩ : ∃ v1, v1 = Value.slice (some ⟨W0.heap.size, 0, none⟩) cs.length cap := ⟨_, rfl⟩
  rw [← hv1] at hcv HL1
  obtain ⟨b2, hb2⟩ : ∃ b2, b2 = w.heap.size := ⟨_, rfl⟩
  have HIx : Hid (b2 = w.heap.size) := hb2
  rw [← hb2] at HL1
  clear hp h2 hR1 hB1 hv1 HP hZ hcs m0 m1 f0 f1 HM0 HB0
  go_enter Tryd.func44, Tryd.ntmps44
  go_upto_region 1 with fail
  rw [← hW0, ← hb2]
  clear hW0 hb2
  go_wp2_with fail
  go_loopg [4, 5] (cs.length + 1) (fun g v4 v5 wr => ∃ (done : List (Option Gb.Tst)) (rem : List Nat), g = rem.length + 1 ∧ Hid (PaL w wr b2 done rem v4 v5) ∧ Hid ((Gb.sgs rem).map (fun x => done ++ x) = Z) ∧ Hid (done.length + rem.length ≤ cs.length))
  case atStart => exact ⟨[], cs, rfl, HL1, HR, by show _ ≤ _; simp⟩
  case round =>
    clear HL1 HR hcv
    obtain ⟨done, rem, rfl, HG, HR, HDl⟩ := hrel
    cases rem with
    | nil =>
      obtain ⟨a5, c5, rfl⟩ := HG.out.rest.slice
      have HS : Hid (Sgs wr u4 done) := HG.out.sgs.ry
      have HA : Hid (Z = some done) := by
        show _ = _
        rw [← HR.out, Gb.sgs_nil]; simp
      have HBl : Hid (Below w.heap.size w wr) := HG.out.bel
      have HRes : Hid (wr.heap[b2]? = some (.cells #[.bool false, .slice none 0 0] 54 (0, 0))) := HG.out.res
      obtain ⟨r0, r1, g0, g1⟩ := two_at HRes.out
      obtain ⟨a4, c4, rfl⟩ := HS.out.slice
      obtain ⟨K, hK⟩ : ∃ K, K = done.length := ⟨_, rfl⟩
      have HK : Hid (K = done.length) := hK
      rw [← hK] at HS ⊢
      simp only [List.length_nil]
      clear hK HG HR HDl
      go_wp2_with fail
      by_cases hd : done = []
      · have hK0 : K = 0 := by rw [HK.out, hd]; rfl
        subst hK0
        refine bodyPost_ret (v := .tuple #[.agg #[.bool false, .slice a4 0 c4], .bool false]) ?_ rfl ⟨by have := below_two (M := b2) (by rw [HIx.out]; exact HBl.out) HIx.out.symm (.bool false) (.slice a4 0 c4); exact this, .inl ⟨by rw [HZ.out, HA.out, hd]; rfl, false, a4, 0, c4, rfl⟩⟩
        simp [results, asAddr, go_sem, r0, r1]
      · have hK0 : 0 < K := by
          rw [HK.out]
          exact List.length_pos_iff.2 hd
        refine bodyPost_ret (v := .tuple #[.agg #[.bool false, .slice a4 K c4], .bool true]) ?_ rfl ⟨by have := below_two (M := b2) (by rw [HIx.out]; exact HBl.out) HIx.out.symm (.bool false) (.slice a4 K c4); exact this, .inr ⟨some done, false, a4, K, c4, by rw [HZ.out, HA.out, Option.bind_some, if_neg hd], rfl, ⟨_, rfl, Sgs.kt (kt_two HRes.out _ _) (by decide) (by decide) HS.out⟩⟩⟩
        simp [results, asAddr, go_sem, r0, r1, hK0]
    | cons x' t =>
      have hsg := sign_any _ x' t wr HG.out.rest (by have q := HDl.out; have := HLn.out; rw [List.length_cons] at q; omega)
      have HSt : Hid (Z = (Gb.sgn (x' :: t)).bind fun y => ((Gb.sgs y.2).map (y.1 :: ·)).map fun z => done ++ z) := by
        show _ = _
        rw [← HR.out, Gb.sgs_step (by simp)]
        cases Gb.sgn (x' :: t) <;> rfl
      obtain ⟨a5, c5, rfl⟩ := HG.out.rest.slice
      simp only [List.length_cons] at hsg HG HDl ⊢
      generalize hnt : t.length = n at *
      have HNt : Hid (t.length = n) := hnt
      have q0 : (0 : Int) < (n : Int) + 1 := by omega
      clear HR hnt
      go_wp2_with fail
      refine hsg.mono ?_
      rintro e w3 ⟨b3, ⟨hn, x, y, a2, n2, c2, u, rfl⟩ | ⟨tt, r, x, y, a2, n2, c2, u, hi2, rfl, hSg, hr⟩⟩
      · have HB3 : Hid (Below w.heap.size w w3) := HG.out.bel.trans (b3.mono HG.out.bel.size)
        have HE : Hid (Gb.part s.data.toList = none) := by
          show _ = _
          rw [HZ.out, HSt.out, hn]; rfl
        have HRs : Hid (w3.heap[b2]? = some (.cells #[.bool false, .slice none 0 0] 54 (0, 0))) := (b3.block _ (Array.getElem?_eq_some_iff.1 HG.out.res).1).trans HG.out.res
        obtain ⟨r0, r1, g0, g1⟩ := two_at HRs.out
        have hlb : b2 < w3.heap.size := (Array.getElem?_eq_some_iff.1 HRs.out).1
        clear b3 hn hsg HG HSt HZ
        go_wp2_with fail
        have hF := alloc_old (set_two HRs.out (.bool false) (.slice none 0 0)) (.cells #[.bool x, .bool y, .slice a2 n2 c2] 109)
        have HBF : Hid (Below w.heap.size w (((w3.setCell ⟨b2, 0, none⟩ (.bool false)).setCell ⟨b2, 1, none⟩ (.slice none 0 0)).alloc (.cells #[.bool x, .bool y, .slice a2 n2 c2] 109))) := (below_two (M := b2) (by rw [HIx.out]; exact HB3.out) HIx.out.symm _ _).alloc (by rw [set_size2]; exact HB3.out.size) _
        clear r0 r1 g0 g1
        generalize ((w3.setCell ⟨b2, 0, none⟩ (.bool false)).setCell ⟨b2, 1, none⟩ (.slice none 0 0)).alloc (.cells #[.bool x, .bool y, .slice a2 n2 c2] 109) = FW at *
        obtain ⟨x0, x1, _⟩ := two_at hF
        refine bodyPost_ret (v := .tuple #[.agg #[.bool false, .slice none 0 0], .bool false]) ?_ rfl ⟨HBF.out, .inl ⟨HE.out, false, none, 0, 0, rfl⟩⟩
        simp [results, asAddr, go_sem, x0, x1]
      · have HGp : Hid (PaL w w3 b2 done (x' :: t) u4 (.slice a5 (n + 1) c5)) := HG.out.past b3
        have HRu : Hid (Rn w3 u r) := hr
        have HSg : Hid (SgR w3 tt [.bool x, .bool y, .slice a2 n2 c2]) := hSg
        have HRl : Hid (r.length < n + 1) := by
          have := Gb.sgn_less hi2
          rw [List.length_cons, HNt.out] at this
          exact this
        have HE : Hid (((Gb.sgs r).map (tt :: ·)).map (fun z => done ++ z) = Z) := by
          show _ = _
          rw [HSt.out, hi2]; rfl
        obtain ⟨cc, o1, o2, o3, o4⟩ := HGp.out.sgs
        have hsw := HGp.out.bel.size
        have hdl : done.length ≤ 4194304 := by have := HDl.out; have := HLn.out; omega
        have HO2 : Hid ((∀ c ∈ cc, c.length = 3) ∧ cc.length = done.length ∧ ∀ (j : Nat) t c, done[j]? = some t → cc[j]? = some c → SgR w3 t c) := ⟨o2, o3, o4⟩
        obtain ⟨au, cu, rfl⟩ := hr.slice
        clear b3 hsg HG HSt hi2 hr o2 o3 o4 hSg
        go_wp2_with (at_builtin; refine wpList_append_own _ rfl (.tmp 26) (.tmp 28) 52 rfl w.heap.size 109 i0 (.agg #[.bool false, .bool false, .slice none 0 0]) 3 32 Tryd.underlying52 hi hz0 hz1 hz2 rfl (by decide) _ _ _ rfl ((o1.alloc _).alloc _) ⟨w3.heap.size + 1, 0, none⟩ 1 1 [.bool x, .bool y, .slice a2 n2 c2] rfl rfl ?c1 ?c2 ?c3 ?c4 ?c5 ?_)
        case c1 =>
          intro j u hj
          match j, hj with
          | 0, hj => simp at hj; subst hj; simp [Addr.add]
          | 1, hj => simp at hj; subst hj; simp [Addr.add]
          | 2, hj => simp at hj; subst hj; simp [Addr.add]
        case c2 =>
          intro u hu
          simp only [List.mem_cons, List.not_mem_nil, or_false] at hu
          rcases hu with rfl | rfl | rfl <;> rfl
        case c3 => unfold maxLen; omega
        case c4 => omega
        case c5 => simp; omega
        intro v6 w4 hown4 hgrow _
        have hk4 : Kt 109 w3 w4 := (((Kt.refl _ w3).alloc _).alloc _).trans (Kt.of_grown hgrow fun g hg => by
          obtain ⟨cur, q, _⟩ := own_block ((o1.alloc _).alloc _) hg
          exact ⟨cur, _, q⟩)
        have hB4 : Below w.heap.size w w4 := ((HGp.out.bel.alloc hsw _).alloc (by simp; omega) _).grown hgrow (by simp; omega) fun g hg => by
          obtain ⟨_, _, q, _⟩ := own_block o1 hg
          exact q
        have hOn : Oy 3 109 SgR w.heap.size w4 v6 (done ++ [tt]) := Oy.more HO2.out.1 HO2.out.2.1 (fun j t c a b => SgR.kt hk4 (by decide) (HO2.out.2.2 j t c a b)) hown4 rfl (SgR.kt hk4 (by decide) HSg.out)
        obtain ⟨av, cv, hv6⟩ := own_len hown4
        subst hv6
        have HNx : Hid (PaL w w4 b2 (done ++ [tt]) r (.slice av (done.length + 1) cv) (.slice au r.length cu)) := ⟨hk4.cell HGp.out.res (by decide), hOn, HRu.out.kt hk4 (by decide), hB4⟩
        clear hown4 hgrow hk4 hOn hB4 o1 HGp HO2 HRu HSg
        generalize hnr : r.length = n3 at *
        have HNr2 : Hid (r.length = n3) := hnr
        clear hnr
        go_wp2_with fail
        go_roundg (n3 + 1)
        case measure => have q := HRl.out; have := HNt.out; simp only [List.length_cons]; omega
        case rel =>
          refine ⟨done ++ [tt], r, by rw [HNr2.out], HNx, ?_, ?_⟩
          · show _ = _
            rw [← HE.out]
            cases Gb.sgs r <;> simp
          · show _ ≤ _
            have := HDl.out
            have := HRl.out
            rw [List.length_append, List.length_singleton, HNr2.out]
            omega
end Go.Proofs.YtfcnlfblfennaaaDoor
