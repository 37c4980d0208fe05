/-
  What leastAt of package huff answers.
-/
import Derived.Test.YtoohekdaihhflaaHpSwap
import Derived.Test.YtoohekdaihhflaaQuietSince
import Derived.BigQuiet
namespace Go.Proofs.Ytoohekdaihhflaa
open Go.RowKit

namespace Hf
/-- the first one, when q kids have been looked at -/
def lq (l : List G) (p : Nat) : Nat → Nat
  | 0 => p
  | 1 => one l p
  | _ => least l p
theorem lq_next (l : List G) (p q : Nat) (hq : q < 2) : lq l p (q + 1) = if 2 * p + 1 + q < l.length ∧ ltG (nth l (2 * p + 1 + q)) (nth l (lq l p q)) = true then 2 * p + 1 + q else lq l p q := by
  match q, hq with
  | 0, _ => rfl
  | 1, _ => rfl
theorem lq_le (l : List G) (p q : Nat) (hq : q < 2) : lq l p q < 2 * p + 1 + q := by
  match q, hq with
  | 0, _ => show p < _; omega
  | 1, _ =>
    show one l p < _
    unfold one
    split <;> omega
end Hf

set_option maxHeartbeats 4000000 in
theorem leastAt_any (base Hb : Nat) (v : Value) (l : List Hf.G) (w : World) (h : Heap w base Hb v l) (p : Nat) (hp : p ≤ 256) (hl : l.length ≤ 256) :
    Calls Try.prog 46 #[.pointer (some ⟨Hb, 0, none⟩), .int .i64 p] w fun e w' => e = .returned (.int .i64 (Hf.least l p)) ∧ Below w.heap.size w w' := by
  obtain ⟨a, c, rfl⟩ := h.slice
  go_enter Try.func46, Try.ntmps46
  go_wp2_with fail
  go_loopw [5, 6] (fun x y wr => ∃ q : Nat, q ≤ 2 ∧ x = .int .i64 (Hf.lq l p q : Nat) ∧ y = .int .i64 ((2 * p + 1 + q : Nat) : Int) ∧ Below w.heap.size w wr) (fun _ y _ => 2 * p + 3 - (intOf y).toNat)
  case atStart => exact ⟨0, by omega, rfl, by go_num, Below.refl _ _⟩
  case round =>
    obtain ⟨q, hq, rfl, rfl, hbel⟩ := hrel
    by_cases hlt : q < 2
    · have HN : Hid (_) := Hf.lq_next l p q hlt
      have hm := Hf.lq_le l p q hlt
      have hh := h.keep hbel
      generalize Hf.lq l p q = m at *
      obtain ⟨k, hk⟩ : ∃ k, k = 2 * p + 1 + q := ⟨_, rfl⟩
      rw [← hk] at HN hm ⊢
      have hk2 : k ≤ 2 * p + 2 := by omega
      have hk1 : 2 * p + 1 ≤ k := by omega
      have HK : Hid (k = 2 * p + 1 + q) := hk
      clear hk
      obtain ⟨c0, c1, _⟩ := hh.cells
      have x0 : ∀ X : Since wr.heap.size wr, X.val.cell? ⟨Hb, 0, none⟩ = some fnV := fun X => (X.property.cell (p := ⟨Hb, 0, none⟩) (Array.getElem?_eq_some_iff.1 hh.box).1).trans c0
      have x1 : ∀ X : Since wr.heap.size wr, X.val.cell? ⟨Hb, 1, none⟩ = some (.slice a l.length c) := fun X => (X.property.cell (p := ⟨Hb, 1, none⟩) (Array.getElem?_eq_some_iff.1 hh.box).1).trans c1
      have hne : Nonempty (Since wr.heap.size wr) := ⟨⟨wr, Below.refl _ _⟩⟩
      clear c0 c1
      unfold fnV at x0
      by_cases hkl : k < l.length
      · obtain ⟨g, c', hv⟩ := hh.slice1 (by omega)
        obtain ⟨rfl, rfl⟩ : a = some ⟨g, 0, none⟩ ∧ c = c' := by simpa using hv
        clear hv
        obtain ⟨a0, a1, a2, _, _, _, hg⟩ := hh.at_ rfl k hkl
        obtain ⟨b0, b1, b2, _, _, _, _⟩ := hh.at_ rfl m (by omega)
        have hf := first_any (Hf.nth l k) (Hf.nth l m)
        generalize Hf.nth l k = x at *
        generalize Hf.nth l m = y at *
        have y0 : ∀ X : Since wr.heap.size wr, X.val.cell? ⟨g, k * 3, none⟩ = some (.int .i64 x.wt) := fun X => (X.property.cell (p := ⟨g, k * 3, none⟩) hg).trans a0
        have y1 : ∀ X : Since wr.heap.size wr, X.val.cell? ⟨g, k * 3 + 1, none⟩ = some (.int .i64 x.low) := fun X => (X.property.cell (p := ⟨g, k * 3 + 1, none⟩) hg).trans a1
        have y2 : ∀ X : Since wr.heap.size wr, X.val.cell? ⟨g, k * 3 + 2, none⟩ = some x.sv := fun X => (X.property.cell (p := ⟨g, k * 3 + 2, none⟩) hg).trans a2
        have z0 : ∀ X : Since wr.heap.size wr, X.val.cell? ⟨g, m * 3, none⟩ = some (.int .i64 y.wt) := fun X => (X.property.cell (p := ⟨g, m * 3, none⟩) hg).trans b0
        have z1 : ∀ X : Since wr.heap.size wr, X.val.cell? ⟨g, m * 3 + 1, none⟩ = some (.int .i64 y.low) := fun X => (X.property.cell (p := ⟨g, m * 3 + 1, none⟩) hg).trans b1
        have z2 : ∀ X : Since wr.heap.size wr, X.val.cell? ⟨g, m * 3 + 2, none⟩ = some y.sv := fun X => (X.property.cell (p := ⟨g, m * 3 + 2, none⟩) hg).trans b2
        clear a0 a1 a2 b0 b1 b2 hh h
        have hml : m < l.length := by omega
        have hgd : decide ((k : Int) < (l.length : Int)) = true := decide_eq_true (by omega)
        unfold gV at hf
        go_wp2_with fail
        refine wp_region_since (B := wr.heap.size) (W0 := wr) (by kernel_rfl) (by kernel_rfl) (Below.refl _ _) ?_
        cases hb : Hf.ltG x y with
        | true =>
          rw [hb] at hf
          have HL : Hid (Hf.lq l p (q + 1) = k) := HN.out.trans (if_pos ⟨hkl, hb⟩)
          clear hb HN
          repeat (go_big_quiet_step (fail))
          go_big_quiet_step (exact quiet_since _ (hf _))
          repeat (go_big_quiet_step (fail))
          refine wpQuiet_nil ?_
          rintro w7 ⟨U, rfl⟩
          have HB3 : Hid (Below w.heap.size w U.val) := hbel.trans (U.property.mono hbel.size)
          generalize U.val = w7 at *
          clear x0 x1 y0 y1 y2 z0 z1 z2 hne hbel hf
          go_wp2_with fail
          go_roundw
          case rel => exact ⟨q + 1, by omega, by rw [HL.out], int_eq (by have := HK.out; omega), HB3.out⟩
          case measure => simp only [intOf]; omega
        | false =>
          rw [hb] at hf
          have HL : Hid (Hf.lq l p (q + 1) = m) := HN.out.trans (if_neg fun h => by rw [hb] at h; exact absurd h.2 (by simp))
          clear hb HN
          repeat (go_big_quiet_step (fail))
          go_big_quiet_step (exact quiet_since _ (hf _))
          repeat (go_big_quiet_step (fail))
          refine wpQuiet_nil ?_
          rintro w7 ⟨U, rfl⟩
          have HB3 : Hid (Below w.heap.size w U.val) := hbel.trans (U.property.mono hbel.size)
          generalize U.val = w7 at *
          clear x0 x1 y0 y1 y2 z0 z1 z2 hne hbel hf
          go_wp2_with fail
          go_roundw
          case rel => exact ⟨q + 1, by omega, by rw [HL.out], int_eq (by have := HK.out; omega), HB3.out⟩
          case measure => simp only [intOf]; omega
      · have hgd : decide ((k : Int) < (l.length : Int)) = false := decide_eq_false (by omega)
        have hgd' : decide (k < l.length) = false := decide_eq_false (by omega)
        have HL : Hid (Hf.lq l p (q + 1) = m) := HN.out.trans (if_neg fun h => hkl h.1)
        clear HN hkl hh
        go_wp2_with fail
        refine wp_region_since (B := wr.heap.size) (W0 := wr) (by kernel_rfl) (by kernel_rfl) (Below.refl _ _) ?_
        repeat (go_big_quiet_step (fail))
        refine wpQuiet_nil ?_
        rintro w7 ⟨U, rfl⟩
        have HB3 : Hid (Below w.heap.size w U.val) := hbel.trans (U.property.mono hbel.size)
        generalize U.val = w7 at *
        clear x0 x1 hne hbel
        go_wp2_with fail
        go_roundw
        case rel => exact ⟨q + 1, by omega, by rw [HL.out], int_eq (by have := HK.out; omega), HB3.out⟩
        case measure => simp only [intOf]; omega
    · obtain rfl : q = 2 := by omega
      go_wp2_with fail
      go_ret
      exact ⟨rfl, hbel⟩
end Go.Proofs.Ytoohekdaihhflaa
