/-
  What comparePlaces of package index answers: two places held against each other.
-/
import Derived.Test.YtllioidjelgafabIxIds
import Derived.Test.YtllioidjelgafabQuietTail
import Derived.Test.YtllioidjelgafabPl12
import Derived.Deep.Cut
namespace Go.Proofs.Ytllioidjelgafab
open Go.RowKit Go.Sort

theorem nan_any (n : Int) (w : World) : Calls Try.prog 56 #[.int .i64 n] w fun e w' => e = .returned (.bool false) ∧ w' = w := by
  go_enter Try.func56, Try.ntmps56
  go_wp2_with fail
  go_ret
  exact ⟨rfl, rfl⟩

theorem cmpInt_any (x y : Int) (w : World) : Calls Try.prog 43 #[.int .i64 x, .int .i64 y] w fun e w' => e = .returned (.int .i64 (Lib.compareInt x y)) ∧ w' = w := by
  have hn := fun n W => nan_any n W
  by_cases h1 : x < y
  · have he : Lib.compareInt x y = -1 := by unfold Lib.compareInt; rw [if_pos h1]
    rw [he]
    go_enter Try.func43, Try.ntmps43
    go_wp2_with (go_at_call 56; refine (hn _ _).mono ?_; rintro e u ⟨rfl, rfl⟩)
    go_ret
    exact ⟨rfl, rfl⟩
  · by_cases h2 : y < x
    · have he : Lib.compareInt x y = 1 := by unfold Lib.compareInt; rw [if_neg h1, if_pos h2]
      rw [he]
      go_enter Try.func43, Try.ntmps43
      go_wp2_with (go_at_call 56; refine (hn _ _).mono ?_; rintro e u ⟨rfl, rfl⟩)
      go_ret
      exact ⟨rfl, rfl⟩
    · have he : Lib.compareInt x y = 0 := by unfold Lib.compareInt; rw [if_neg h1, if_neg h2]
      rw [he]
      go_enter Try.func43, Try.ntmps43
      go_wp2_with (go_at_call 56; refine (hn _ _).mono ?_; rintro e u ⟨rfl, rfl⟩)
      go_ret
      exact ⟨rfl, rfl⟩

set_option maxHeartbeats 1000000 in
theorem or_any (g : Nat) (xs : List Int) (w : World) (hl : xs.length ≤ 100) (h : ∀ j x, xs[j]? = some x → w.cell? ⟨g, j, none⟩ = some (.int .i64 x)) :
    Calls Try.prog 42 #[.slice (some ⟨g, 0, none⟩) xs.length xs.length] w fun e w' => e = .returned (.int .i64 (cOr xs)) ∧ w' = w := by
  obtain ⟨r, hr⟩ : ∃ r, cOr xs = r := ⟨_, rfl⟩
  have HR : Hid (cOr (xs.drop 0) = r) := hr
  rw [hr]
  clear hr
  have HH : Hid (∀ j x, xs[j]? = some x → w.cell? ⟨g, j, none⟩ = some (.int .i64 x)) := h
  clear h
  go_enter Try.func42, Try.ntmps42
  go_wp2_with fail
  go_loopw [8] (fun i wr => ∃ k : Nat, k ≤ xs.length ∧ i = .int .i64 k ∧ Hid (cOr (xs.drop k) = r) ∧ Hid (wr = w)) (fun i _ => xs.length - (intOf i).toNat)
  case atStart => exact ⟨0, by omega, rfl, HR, rfl⟩
  case round =>
    obtain ⟨k, hk, rfl, hr, hw⟩ := hrel
    clear HR
    by_cases hlt : k < xs.length
    · have hc : wr.cell? ⟨g, k, none⟩ = some (.int .i64 xs[k]) := by rw [hw.out]; exact HH.out k _ (List.getElem?_eq_getElem hlt)
      have hd : xs.drop k = xs[k] :: xs.drop (k + 1) := List.drop_eq_getElem_cons hlt
      have hr2 : cOr (xs[k] :: xs.drop (k + 1)) = r := by rw [← hd]; exact hr.out
      clear hd hr
      generalize xs[k] = y at hc hr2
      by_cases hy : y = 0
      · subst hy
        have HR2 : Hid (cOr (xs.drop (k + 1)) = r) := by
          have := hr2
          rw [cOr, if_pos rfl] at this
          exact this
        clear hr2
        go_wp2_with fail
        go_roundw
        case rel => exact ⟨k + 1, by omega, by go_num, HR2, hw⟩
        case measure => simp only [intOf]; omega
      · have HR2 : Hid (r = y) := by
          have := hr2
          rw [cOr, if_neg hy] at this
          exact this.symm
        clear hr2
        have hy2 : (y == 0) = false := by simpa using hy
        clear hy
        go_wp2_with fail
        go_ret
        exact ⟨by rw [HR2.out]; rfl, hw⟩
    · have HR2 : Hid (r = 0) := by
        have := hr.out
        rw [List.drop_eq_nil_of_le (by omega)] at this
        exact this.symm
      clear hr
      go_wp2_with fail
      go_ret
      exact ⟨by rw [HR2.out]; rfl, hw⟩

theorem box12 {w : World} {cs : Array Value} {t : TypeId} (r : Nat) (u : Value) (h : cs[r]? = some u) : (w.alloc (.cells cs t)).cell? ⟨w.heap.size, r, none⟩ = some u := by
  rw [cell_of_row _ w.heap.size r _ _ _ (heap_alloc_new w _)]
  exact h
theorem five_cells (W : World) (c0 c1 c2 c3 c4 : Int) (t : TypeId) : ∀ j x, [c0, c1, c2, c3, c4][j]? = some x → (W.alloc (.cells #[.int .i64 c0, .int .i64 c1, .int .i64 c2, .int .i64 c3, .int .i64 c4] t)).cell? ⟨W.heap.size, j, none⟩ = some (.int .i64 x) := fun j x hj => by
  rw [cell_of_row _ W.heap.size j _ _ _ (heap_alloc_new W _)]
  match j, hj with
  | 0, hj => obtain rfl : c0 = x := by simpa using hj
             rfl
  | 1, hj => obtain rfl : c1 = x := by simpa using hj
             rfl
  | 2, hj => obtain rfl : c2 = x := by simpa using hj
             rfl
  | 3, hj => obtain rfl : c3 = x := by simpa using hj
             rfl
  | 4, hj => obtain rfl : c4 = x := by simpa using hj
             rfl
  | n + 5, hj => simp at hj

set_option maxHeartbeats 4000000 in
theorem cmpPl_of (b0 b1 b2 b3 b4 b5 b6 b7 d0 d1 d2 d3 d4 d5 d6 d7 : UInt8) (k p a l k' p' a' l' : Int) (w : World) :
    Calls Try.prog 31 #[.agg (pl12 b0 b1 b2 b3 b4 b5 b6 b7 k p a l), .agg (pl12 d0 d1 d2 d3 d4 d5 d6 d7 k' p' a' l')] w fun e w' =>
      e = .returned (.int .i64 (cOr [cId [b0, b1, b2, b3, b4, b5, b6, b7] [d0, d1, d2, d3, d4, d5, d6, d7], Lib.compareInt p p', Lib.compareInt a a', Lib.compareInt l l', Lib.compareInt k k'])) ∧ ∃ q os', w' = grow (w.drewN q) os' := by
  have hid := fun W => cmpIds_any [b0, b1, b2, b3, b4, b5, b6, b7] [d0, d1, d2, d3, d4, d5, d6, d7] W rfl rfl
  have hid' : ∀ W, Calls Try.prog 27 #[.agg #[.int .u8 (b0.toNat : Int), .int .u8 (b1.toNat : Int), .int .u8 (b2.toNat : Int), .int .u8 (b3.toNat : Int), .int .u8 (b4.toNat : Int), .int .u8 (b5.toNat : Int), .int .u8 (b6.toNat : Int), .int .u8 (b7.toNat : Int)], .agg #[.int .u8 (d0.toNat : Int), .int .u8 (d1.toNat : Int), .int .u8 (d2.toNat : Int), .int .u8 (d3.toNat : Int), .int .u8 (d4.toNat : Int), .int .u8 (d5.toNat : Int), .int .u8 (d6.toNat : Int), .int .u8 (d7.toNat : Int)]] W fun e w' => e = .returned (.int .i64 (cId [b0, b1, b2, b3, b4, b5, b6, b7] [d0, d1, d2, d3, d4, d5, d6, d7])) ∧ ∃ q os', w' = grow (W.drewN q) os' := hid
  clear hid
  generalize cId [b0, b1, b2, b3, b4, b5, b6, b7] [d0, d1, d2, d3, d4, d5, d6, d7] = c0 at hid' ⊢
  obtain ⟨c1, h1⟩ : ∃ c, Lib.compareInt p p' = c := ⟨_, rfl⟩
  obtain ⟨c2, h2⟩ : ∃ c, Lib.compareInt a a' = c := ⟨_, rfl⟩
  obtain ⟨c3, h3⟩ : ∃ c, Lib.compareInt l l' = c := ⟨_, rfl⟩
  obtain ⟨c4, h4⟩ : ∃ c, Lib.compareInt k k' = c := ⟨_, rfl⟩
  rw [h1, h2, h3, h4]
  obtain ⟨r, hr'⟩ : ∃ r, cOr [c0, c1, c2, c3, c4] = r := ⟨_, rfl⟩
  have hr : Hid (cOr [c0, c1, c2, c3, c4] = r) := hr'
  rw [hr']
  clear hr'
  have hI : ∀ x y W, Calls Try.prog 43 #[.int .i64 x, .int .i64 y] W fun e w' => e = .returned (.int .i64 (Lib.compareInt x y)) ∧ ∃ q os', w' = grow (W.drewN q) os' := fun x y W => (cmpInt_any x y W).mono fun e w' h => ⟨h.1, 0, #[], by rw [grow_empty]; exact h.2⟩
  have hx := fun r u h => box12 (w := w) (cs := pl12 b0 b1 b2 b3 b4 b5 b6 b7 k p a l) (t := 29) r u h
  have hy := fun r u h => box12 (w := w.alloc (.cells (pl12 b0 b1 b2 b3 b4 b5 b6 b7 k p a l) 29)) (cs := pl12 d0 d1 d2 d3 d4 d5 d6 d7 k' p' a' l') (t := 29) r u h
  have es : (w.alloc (.cells (pl12 b0 b1 b2 b3 b4 b5 b6 b7 k p a l) 29)).heap.size = w.heap.size + 1 := by show (w.heap.push _).size = _; simp
  rw [es] at hy
  obtain ⟨w2, hw2⟩ : ∃ w2, w2 = (w.alloc (.cells (pl12 b0 b1 b2 b3 b4 b5 b6 b7 k p a l) 29)).alloc (.cells (pl12 d0 d1 d2 d3 d4 d5 d6 d7 k' p' a' l') 29) := ⟨_, rfl⟩
  have hx2 : ∀ r u, (pl12 b0 b1 b2 b3 b4 b5 b6 b7 k p a l)[r]? = some u → w2.cell? ⟨w.heap.size, r, none⟩ = some u := fun r u h => by
    have hb2 := (Below.refl (w.heap.size + 1) (w.alloc (.cells (pl12 b0 b1 b2 b3 b4 b5 b6 b7 k p a l) 29))).alloc (by rw [es]; exact Nat.le_refl _) (.cells (pl12 d0 d1 d2 d3 d4 d5 d6 d7 k' p' a' l') 29)
    rw [hw2, hb2.cell (by show w.heap.size < w.heap.size + 1; omega)]
    exact hx r u h
  have hy2 : ∀ r u, (pl12 d0 d1 d2 d3 d4 d5 d6 d7 k' p' a' l')[r]? = some u → w2.cell? ⟨w.heap.size + 1, r, none⟩ = some u := fun r u h => by rw [hw2]; exact hy r u h
  have s2 : w2.heap.size = w.heap.size + 2 := by rw [hw2]; show ((w.alloc _).heap.push _).size = _; rw [Array.size_push, es]
  have HW2 : Hid (∃ os, w2 = grow w os) := ⟨#[.cells (pl12 b0 b1 b2 b3 b4 b5 b6 b7 k p a l) 29, .cells (pl12 d0 d1 d2 d3 d4 d5 d6 d7 k' p' a' l') 29], by rw [hw2, alloc_eq_grow, alloc_eq_grow, grow_grow]; rfl⟩
  have gx : ∀ r u, (pl12 b0 b1 b2 b3 b4 b5 b6 b7 k p a l)[r]? = some u → ∀ n os, (grow (w2.drewN n) os).cell? ⟨w.heap.size, r, none⟩ = some u := fun r u h n os => cell_grown (by rw [s2]; show w.heap.size < _; omega) (hx2 r u h) n os
  have gy : ∀ r u, (pl12 d0 d1 d2 d3 d4 d5 d6 d7 k' p' a' l')[r]? = some u → ∀ n os, (grow (w2.drewN n) os).cell? ⟨w.heap.size + 1, r, none⟩ = some u := fun r u h n os => cell_grown (by rw [s2]; show w.heap.size + 1 < _; omega) (hy2 r u h) n os
  have x0 : ∀ n os, (grow (w2.drewN n) os).cell? ⟨w.heap.size, 0, none⟩ = some (.int .u8 (b0.toNat : Int)) := gx 0 _ rfl
  have x1 : ∀ n os, (grow (w2.drewN n) os).cell? ⟨w.heap.size, 1, none⟩ = some (.int .u8 (b1.toNat : Int)) := gx 1 _ rfl
  have x2 : ∀ n os, (grow (w2.drewN n) os).cell? ⟨w.heap.size, 2, none⟩ = some (.int .u8 (b2.toNat : Int)) := gx 2 _ rfl
  have x3 : ∀ n os, (grow (w2.drewN n) os).cell? ⟨w.heap.size, 3, none⟩ = some (.int .u8 (b3.toNat : Int)) := gx 3 _ rfl
  have x4 : ∀ n os, (grow (w2.drewN n) os).cell? ⟨w.heap.size, 4, none⟩ = some (.int .u8 (b4.toNat : Int)) := gx 4 _ rfl
  have x5 : ∀ n os, (grow (w2.drewN n) os).cell? ⟨w.heap.size, 5, none⟩ = some (.int .u8 (b5.toNat : Int)) := gx 5 _ rfl
  have x6 : ∀ n os, (grow (w2.drewN n) os).cell? ⟨w.heap.size, 6, none⟩ = some (.int .u8 (b6.toNat : Int)) := gx 6 _ rfl
  have x7 : ∀ n os, (grow (w2.drewN n) os).cell? ⟨w.heap.size, 7, none⟩ = some (.int .u8 (b7.toNat : Int)) := gx 7 _ rfl
  have x8 : ∀ n os, (grow (w2.drewN n) os).cell? ⟨w.heap.size, 8, none⟩ = some (.int .i64 k) := gx 8 _ rfl
  have x9 : ∀ n os, (grow (w2.drewN n) os).cell? ⟨w.heap.size, 9, none⟩ = some (.int .i64 p) := gx 9 _ rfl
  have x10 : ∀ n os, (grow (w2.drewN n) os).cell? ⟨w.heap.size, 10, none⟩ = some (.int .i64 a) := gx 10 _ rfl
  have x11 : ∀ n os, (grow (w2.drewN n) os).cell? ⟨w.heap.size, 11, none⟩ = some (.int .i64 l) := gx 11 _ rfl
  have y0 : ∀ n os, (grow (w2.drewN n) os).cell? ⟨w.heap.size + 1, 0, none⟩ = some (.int .u8 (d0.toNat : Int)) := gy 0 _ rfl
  have y1 : ∀ n os, (grow (w2.drewN n) os).cell? ⟨w.heap.size + 1, 1, none⟩ = some (.int .u8 (d1.toNat : Int)) := gy 1 _ rfl
  have y2 : ∀ n os, (grow (w2.drewN n) os).cell? ⟨w.heap.size + 1, 2, none⟩ = some (.int .u8 (d2.toNat : Int)) := gy 2 _ rfl
  have y3 : ∀ n os, (grow (w2.drewN n) os).cell? ⟨w.heap.size + 1, 3, none⟩ = some (.int .u8 (d3.toNat : Int)) := gy 3 _ rfl
  have y4 : ∀ n os, (grow (w2.drewN n) os).cell? ⟨w.heap.size + 1, 4, none⟩ = some (.int .u8 (d4.toNat : Int)) := gy 4 _ rfl
  have y5 : ∀ n os, (grow (w2.drewN n) os).cell? ⟨w.heap.size + 1, 5, none⟩ = some (.int .u8 (d5.toNat : Int)) := gy 5 _ rfl
  have y6 : ∀ n os, (grow (w2.drewN n) os).cell? ⟨w.heap.size + 1, 6, none⟩ = some (.int .u8 (d6.toNat : Int)) := gy 6 _ rfl
  have y7 : ∀ n os, (grow (w2.drewN n) os).cell? ⟨w.heap.size + 1, 7, none⟩ = some (.int .u8 (d7.toNat : Int)) := gy 7 _ rfl
  have y8 : ∀ n os, (grow (w2.drewN n) os).cell? ⟨w.heap.size + 1, 8, none⟩ = some (.int .i64 k') := gy 8 _ rfl
  have y9 : ∀ n os, (grow (w2.drewN n) os).cell? ⟨w.heap.size + 1, 9, none⟩ = some (.int .i64 p') := gy 9 _ rfl
  have y10 : ∀ n os, (grow (w2.drewN n) os).cell? ⟨w.heap.size + 1, 10, none⟩ = some (.int .i64 a') := gy 10 _ rfl
  have y11 : ∀ n os, (grow (w2.drewN n) os).cell? ⟨w.heap.size + 1, 11, none⟩ = some (.int .i64 l') := gy 11 _ rfl
  clear gx gy hx hy hx2 hy2 es
  go_enter Try.func31, Try.ntmps31
  go_upto_region 1 with fail
  simp only [← hw2]
  clear hw2
  refine wp_region_tail (C := fun w' => ∃ p : GrownBy, w' = grow (w2.drewN p.n) p.os) 25 6 (by kernel_rfl) (by decide) (by kernel_rfl) (by kernel_rfl) (by kernel_rfl) (by kernel_rfl) ⟨⟨1, #[]⟩, by rw [grow_empty]; rfl⟩ ?_
  repeat (quiet_step (first | (go_at_call 27; refine Calls.grown_of (hid' _)) | (go_at_call 43; refine Calls.grown_of (hI _ _ _))))
  refine wpQuiet_nil ?_
  rintro w3 ⟨⟨nq, osq⟩, rfl⟩
  obtain ⟨ow, how⟩ := HW2.out
  have HG : Hid (∀ (o : Obj), ∃ q os', ((grow (w2.drewN nq) osq).alloc o) = grow (w.drewN q) os') := fun o => ⟨nq, ow ++ (osq ++ #[o]), by
    rw [how, alloc_eq_grow]
    show grow (grow (grow (w.drewN nq) ow) osq) #[o] = _
    rw [grow_grow, grow_grow]⟩
  clear how x0 x1 x2 x3 x4 x5 x6 x7 x8 x9 x10 x11 y0 y1 y2 y3 y4 y5 y6 y7 y8 y9 y10 y11 hid' hI HW2 s2
  rw [h4]
  clear h1 h2 h3 h4
  generalize grow (w2.drewN nq) osq = w4 at *
  have hor := or_any w4.heap.size [c0, c1, c2, c3, c4] (w4.alloc (.cells #[.int .i64 c0, .int .i64 c1, .int .i64 c2, .int .i64 c3, .int .i64 c4] 3)) (by simp) (five_cells w4 c0 c1 c2 c3 c4 _)
  have hor' : Calls Try.prog 42 #[.slice (some ⟨w4.heap.size, 0, none⟩) 5 5] (w4.alloc (.cells #[.int .i64 c0, .int .i64 c1, .int .i64 c2, .int .i64 c3, .int .i64 c4] 3)) fun e w' => e = .returned (.int .i64 (cOr [c0, c1, c2, c3, c4])) ∧ w' = w4.alloc (.cells #[.int .i64 c0, .int .i64 c1, .int .i64 c2, .int .i64 c3, .int .i64 c4] 3) := hor
  clear hor
  rw [hr.out] at hor'
  clear hr
  refine wpAny_ready (rs := [25]) (by kernel_rfl) (by simp) ?_
  refine AllReady.cons rfl (fun K hK => ?_) AllReady.nil
  go_simp
  refine hK _ _ ?_
  clear hK K
  refine wpAny_ready (rs := [26]) (by kernel_rfl) (by simp) ?_
  refine AllReady.cons rfl (fun K hK => ?_) AllReady.nil
  go_simp
  refine hor'.mono ?_
  rintro e w1 ⟨rfl, rfl⟩
  refine hK _ _ ?_
  clear hK K
  refine wpAny_take (i := 27) (v := .int .i64 r) rfl (by kernel_rfl) (by kernel_rfl) (by kernel_rfl) (fun _ _ _ h => h) (Or.inl ⟨by rfl, fun V => by go_simp⟩) ?_
  refine wpAny_done (by kernel_rfl) ?_ _
  go_wp2_with fail
  go_ret
  exact ⟨rfl, HG.out _⟩

theorem cmpPl_any (s t : Plc) (w : World) :
    Calls Try.prog 31 #[plV s, plV t] w fun e w' => e = .returned (.int .i64 (cPl s t)) ∧ ∃ q os', w' = grow (w.drewN q) os' := by
  obtain ⟨x, hx, k, p, a, l⟩ := s
  obtain ⟨y, hy, k', p', a', l'⟩ := t
  obtain ⟨b0, b1, b2, b3, b4, b5, b6, b7, rfl⟩ := oct x hx
  obtain ⟨d0, d1, d2, d3, d4, d5, d6, d7, rfl⟩ := oct y hy
  exact cmpPl_of b0 b1 b2 b3 b4 b5 b6 b7 d0 d1 d2 d3 d4 d5 d6 d7 k p a l k' p' a' l' w
end Go.Proofs.Ytllioidjelgafab
