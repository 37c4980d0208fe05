/-
  What smaller of the library's reference answers: which of two places is the smaller one (slices.Compare over four numbers).
-/
import Derived.Test.YtllioidjelgafaaIxOrd
namespace Go.Proofs.Ytllioidjelgafaa
open Go.RowKit Go.Sort

/-- two rows of numbers held against each other -/
def cZip : List Int → List Int → Int
  | x :: r, y :: s => if Lib.compareInt x y = 0 then cZip r s else Lib.compareInt x y
  | _, _ => 0
theorem cmp4_neg {a b c d a' b' c' d' : Int} : cZip [a, b, c, d] [a', b', c', d'] < 0 ↔ a < a' ∨ (a = a' ∧ (b < b' ∨ (b = b' ∧ (c < c' ∨ (c = c' ∧ d < d'))))) := by
  simp only [cZip, Lib.compareInt]
  constructor
  · intro h
    repeat' split at h
    all_goals omega
  · intro h
    repeat' split
    all_goals omega

set_option maxHeartbeats 2000000 in
theorem cmpL_any (g h : Nat) (n : Nat) (xs ys : List Int) (w : World) (hxn : xs.length = n) (hyn : ys.length = n) (hl : n ≤ 100) (hx : ∀ j x, xs[j]? = some x → w.cell? ⟨g, j, none⟩ = some (.int .i64 x)) (hy : ∀ j x, ys[j]? = some x → w.cell? ⟨h, j, none⟩ = some (.int .i64 x)) :
    Calls Try.prog 63 #[.slice (some ⟨g, 0, none⟩) n n, .slice (some ⟨h, 0, none⟩) n n] w fun e w' => e = .returned (.int .i64 (cZip xs ys)) ∧ w' = w := by
  obtain ⟨r, hr⟩ : ∃ r, cZip xs ys = r := ⟨_, rfl⟩
  have HR : Hid (cZip (xs.drop 0) (ys.drop 0) = r) := hr
  rw [hr]
  clear hr
  have HX : Hid (∀ j x, xs[j]? = some x → w.cell? ⟨g, j, none⟩ = some (.int .i64 x)) := hx
  have HY : Hid (∀ j x, ys[j]? = some x → w.cell? ⟨h, j, none⟩ = some (.int .i64 x)) := hy
  have HXN : Hid (xs.length = n) := hxn
  have HYN : Hid (ys.length = n) := hyn
  have hI := fun x y W => cmpInt_any x y W
  clear hx hy hxn hyn
  go_enter Try.func63, Try.ntmps63
  go_wp2_with fail
  go_loopw [11] (fun i wr => ∃ k : Nat, k ≤ n ∧ i = .int .i64 k ∧ Hid (cZip (xs.drop k) (ys.drop k) = r) ∧ Hid (wr = w)) (fun i _ => n - (intOf i).toNat)
  case atStart => exact ⟨0, by omega, rfl, HR, rfl⟩
  case round =>
    obtain ⟨k, hk, rfl, hr, hw⟩ := hrel
    clear HR
    by_cases hlt : k < n
    · have hkx : k < xs.length := by rw [HXN.out]; exact hlt
      have hky : k < ys.length := by rw [HYN.out]; exact hlt
      have hc : wr.cell? ⟨g, k, none⟩ = some (.int .i64 xs[k]) := by rw [hw.out]; exact HX.out k _ (List.getElem?_eq_getElem hkx)
      have hd : wr.cell? ⟨h, k, none⟩ = some (.int .i64 ys[k]) := by rw [hw.out]; exact HY.out k _ (List.getElem?_eq_getElem hky)
      have hr2 : cZip (xs[k] :: xs.drop (k + 1)) (ys[k] :: ys.drop (k + 1)) = r := by rw [← List.drop_eq_getElem_cons hkx, ← List.drop_eq_getElem_cons hky]; exact hr.out
      clear hr
      generalize xs[k] = x at hc hr2
      generalize ys[k] = y at hd hr2
      clear hkx hky
      have hIx := fun W => hI x y W
      obtain ⟨c, hcc⟩ : ∃ c, Lib.compareInt x y = c := ⟨_, rfl⟩
      rw [cZip, hcc] at hr2
      rw [hcc] at hIx
      clear hcc hI
      by_cases hz : c = 0
      · subst hz
        have HR2 : Hid (cZip (xs.drop (k + 1)) (ys.drop (k + 1)) = r) := by
          rw [if_pos rfl] at hr2
          exact hr2
        clear hr2
        go_wp2_with (go_at_call 62; refine (hIx _).mono ?_; rintro e u ⟨rfl, rfl⟩)
        go_roundw
        case rel => exact ⟨k + 1, by omega, by go_num, HR2, hw⟩
        case measure => simp only [intOf]; omega
      · have HR2 : Hid (r = c) := by
          rw [if_neg hz] at hr2
          exact hr2.symm
        clear hr2
        have hy2 : (c == 0) = false := by simpa using hz
        have hy3 : (c != 0) = true := by simpa using hz
        clear hz
        go_wp2_with (go_at_call 62; refine (hIx _).mono ?_; rintro e u ⟨rfl, rfl⟩)
        go_ret
        exact ⟨by rw [HR2.out]; rfl, hw⟩
    · have HR2 : Hid (r = 0) := by
        have := hr.out
        rw [List.drop_eq_nil_of_le (by rw [HXN.out]; omega)] at this
        exact this.symm
      clear hr
      go_wp2_with fail
      go_ret
      exact ⟨by rw [HR2.out]; rfl, hw⟩

theorem four_cells (W : World) (c0 c1 c2 c3 : Int) (t : TypeId) : ∀ j x, [c0, c1, c2, c3][j]? = some x → (W.alloc (.cells #[.int .i64 c0, .int .i64 c1, .int .i64 c2, .int .i64 c3] t)).cell? ⟨W.heap.size, j, none⟩ = some (.int .i64 x) := fun j x hj => by
  rw [cell_of_row _ W.heap.size j _ _ _ (heap_alloc_new W _)]
  match j, hj with
  | 0, hj => obtain rfl : c0 = x := by simpa using hj
             rfl
  | 1, hj => obtain rfl : c1 = x := by simpa using hj
             rfl
  | 2, hj => obtain rfl : c2 = x := by simpa using hj
             rfl
  | 3, hj => obtain rfl : c3 = x := by simpa using hj
             rfl
  | n + 4, hj => simp at hj

set_option maxHeartbeats 4000000 in
theorem smaller_of (b0 b1 b2 b3 b4 b5 b6 b7 d0 d1 d2 d3 d4 d5 d6 d7 : UInt8) (k p a l k' p' a' l' : Int) (w : World) :
    Calls Try.prog 52 #[.agg (pl12 b0 b1 b2 b3 b4 b5 b6 b7 k p a l), .agg (pl12 d0 d1 d2 d3 d4 d5 d6 d7 k' p' a' l')] w fun e w' =>
      e = .returned (.bool (decide (cZip [p, a, l, k] [p', a', l', k'] < 0))) ∧ Below w.heap.size w w' := by
  have hcm := fun W G H hx hy => cmpL_any G H 4 [p, a, l, k] [p', a', l', k'] W rfl rfl (by omega) hx hy
  obtain ⟨c, hc⟩ : ∃ c, cZip [p, a, l, k] [p', a', l', k'] = c := ⟨_, rfl⟩
  rw [hc] at hcm ⊢
  clear hc
  have es : (w.alloc (.cells (pl12 b0 b1 b2 b3 b4 b5 b6 b7 k p a l) 28)).heap.size = w.heap.size + 1 := by show (w.heap.push _).size = _; simp
  have hx := fun r u h => box12 (w := w) (cs := pl12 b0 b1 b2 b3 b4 b5 b6 b7 k p a l) (t := 28) r u h
  have hy := fun r u h => box12 (w := w.alloc (.cells (pl12 b0 b1 b2 b3 b4 b5 b6 b7 k p a l) 28)) (cs := pl12 d0 d1 d2 d3 d4 d5 d6 d7 k' p' a' l') (t := 28) r u h
  rw [es] at hy
  obtain ⟨w2, hw2⟩ : ∃ w2, w2 = (w.alloc (.cells (pl12 b0 b1 b2 b3 b4 b5 b6 b7 k p a l) 28)).alloc (.cells (pl12 d0 d1 d2 d3 d4 d5 d6 d7 k' p' a' l') 28) := ⟨_, rfl⟩
  have hx2 : ∀ r u, (pl12 b0 b1 b2 b3 b4 b5 b6 b7 k p a l)[r]? = some u → w2.cell? ⟨w.heap.size, r, none⟩ = some u := fun r u h => by
    have hb2 := (Below.refl (w.heap.size + 1) (w.alloc (.cells (pl12 b0 b1 b2 b3 b4 b5 b6 b7 k p a l) 28))).alloc (by rw [es]; exact Nat.le_refl _) (.cells (pl12 d0 d1 d2 d3 d4 d5 d6 d7 k' p' a' l') 28)
    rw [hw2, hb2.cell (by show w.heap.size < w.heap.size + 1; omega)]
    exact hx r u h
  have hy2 : ∀ r u, (pl12 d0 d1 d2 d3 d4 d5 d6 d7 k' p' a' l')[r]? = some u → w2.cell? ⟨w.heap.size + 1, r, none⟩ = some u := fun r u h => by rw [hw2]; exact hy r u h
  have s2 : w2.heap.size = w.heap.size + 2 := by rw [hw2]; show ((w.alloc _).heap.push _).size = _; rw [Array.size_push, es]
  have HB2 : Hid (Below w.heap.size w w2) := by
    rw [hw2]
    exact ((Below.refl _ w).alloc (Nat.le_refl _) _).alloc (by rw [es]; omega) _
  obtain ⟨w3, hw3⟩ : ∃ w3, w3 = w2.alloc (.cells #[.int .i64 p, .int .i64 a, .int .i64 l, .int .i64 k] 3) := ⟨_, rfl⟩
  have s3 : w3.heap.size = w.heap.size + 3 := by rw [hw3]; show (w2.heap.push _).size = _; rw [Array.size_push, s2]
  have b23 : Below w2.heap.size w2 w3 := by rw [hw3]; exact (Below.refl _ w2).alloc (Nat.le_refl _) _
  have x8 : w2.cell? ⟨w.heap.size, 8, none⟩ = some (.int .i64 k) := hx2 8 _ rfl
  have x9 : w2.cell? ⟨w.heap.size, 9, none⟩ = some (.int .i64 p) := hx2 9 _ rfl
  have x10 : w2.cell? ⟨w.heap.size, 10, none⟩ = some (.int .i64 a) := hx2 10 _ rfl
  have x11 : w2.cell? ⟨w.heap.size, 11, none⟩ = some (.int .i64 l) := hx2 11 _ rfl
  have y8 : w2.cell? ⟨w.heap.size + 1, 8, none⟩ = some (.int .i64 k') := hy2 8 _ rfl
  have y9 : w2.cell? ⟨w.heap.size + 1, 9, none⟩ = some (.int .i64 p') := hy2 9 _ rfl
  have y10 : w2.cell? ⟨w.heap.size + 1, 10, none⟩ = some (.int .i64 a') := hy2 10 _ rfl
  have y11 : w2.cell? ⟨w.heap.size + 1, 11, none⟩ = some (.int .i64 l') := hy2 11 _ rfl
  have HC3 : Hid (∀ j x, [p, a, l, k][j]? = some x → w3.cell? ⟨w2.heap.size, j, none⟩ = some (.int .i64 x)) := by rw [hw3]; exact four_cells w2 p a l k _
  have HB3 : Hid (Below w.heap.size w w3) := HB2.out.trans (b23.mono HB2.out.size)
  have hcm' := hcm (w3.alloc (.cells #[.int .i64 p', .int .i64 a', .int .i64 l', .int .i64 k'] 3)) w2.heap.size w3.heap.size (fun j x h => by
    rw [((Below.refl w3.heap.size w3).alloc (Nat.le_refl _) _).cell (by rw [s3, s2]; show w.heap.size + 2 < _; omega)]
    exact HC3.out j x h) (four_cells w3 p' a' l' k' _)
  have HB4 : Hid (∀ o, Below w.heap.size w (w3.alloc o)) := fun o => HB3.out.alloc HB3.out.size o
  rw [s3, s2] at hcm'
  subst hw3
  clear hx hy hx2 hy2 es hcm b23 HC3 HB3 HB2 s3
  go_enter Try.func52, Try.ntmps52
  go_upto_region 1 with fail
  simp only [← hw2]
  clear hw2
  go_wp2_with (go_at_call 63; refine hcm'.mono ?_; rintro e w5 ⟨rfl, rfl⟩)
  go_ret
  exact ⟨rfl, HB4.out _⟩

theorem smaller_any (s t : Plc) (w : World) (b : Bool) (hb : b = true ↔ Ix.sm s.p t.p) :
    Calls Try.prog 52 #[plV s, plV t] w fun e w' => e = .returned (.bool b) ∧ Below w.heap.size w w' := by
  obtain ⟨b0, b1, b2, b3, b4, b5, b6, b7, k1, p1, a1, l1, hs⟩ := s.as12
  obtain ⟨d0, d1, d2, d3, d4, d5, d6, d7, k2, p2, a2, l2, ht⟩ := t.as12
  have hbb : b = decide (cZip [p1, a1, l1, k1] [p2, a2, l2, k2] < 0) := by
    have h4 := cmp4_neg (a := p1) (b := a1) (c := l1) (d := k1) (a' := p2) (b' := a2) (c' := l2) (d' := k2)
    rw [hs, ht] at hb
    have h5 : Ix.sm (Plc.p ⟨[b0, b1, b2, b3, b4, b5, b6, b7], rfl, k1, p1, a1, l1⟩) (Plc.p ⟨[d0, d1, d2, d3, d4, d5, d6, d7], rfl, k2, p2, a2, l2⟩) ↔ cZip [p1, a1, l1, k1] [p2, a2, l2, k2] < 0 := h4.symm
    rw [h5] at hb
    cases b
    · exact (decide_eq_false (fun h => Bool.noConfusion (hb.2 h))).symm
    · exact (decide_eq_true (hb.1 rfl)).symm
  rw [hbb, hs, ht, plV_12, plV_12]
  exact smaller_of b0 b1 b2 b3 b4 b5 b6 b7 d0 d1 d2 d3 d4 d5 d6 d7 k1 p1 a1 l1 k2 p2 a2 l2 w
end Go.Proofs.Ytllioidjelgafaa
