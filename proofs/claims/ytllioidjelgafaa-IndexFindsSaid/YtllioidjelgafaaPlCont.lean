/-
  slices.Contains: a place that is in the list is found there.
-/
import Derived.Test.YtllioidjelgafaaPl12
import Derived.Deep.Cut
namespace Go.Proofs.Ytllioidjelgafaa
open Go.RowKit
set_option maxRecDepth 4000

set_option maxHeartbeats 4000000 in
theorem idx_any (v : Value) (l : List Plc) (d0 d1 d2 d3 d4 d5 d6 d7 : UInt8) (k2 p2 a2 l2 : Int) (w : World) (h : Px w v l) (hl : l.length ≤ 140737488351232) (hm : (⟨[d0, d1, d2, d3, d4, d5, d6, d7], rfl, k2, p2, a2, l2⟩ : Plc) ∈ l) :
    Calls Try.prog 43 #[v, .agg (pl12 d0 d1 d2 d3 d4 d5 d6 d7 k2 p2 a2 l2)] w fun e w' => ∃ i : Nat, e = .returned (.int .i64 i) ∧ Below w.heap.size w w' := by
  obtain ⟨a, c, rfl, hc1, hc2⟩ := h.slice
  obtain ⟨q, hq⟩ : ∃ q : Plc, (⟨[d0, d1, d2, d3, d4, d5, d6, d7], rfl, k2, p2, a2, l2⟩ : Plc) = q := ⟨_, rfl⟩
  have HQ : Hid ((⟨[d0, d1, d2, d3, d4, d5, d6, d7], rfl, k2, p2, a2, l2⟩ : Plc) = q) := hq
  rw [hq] at hm
  have HM : Hid (q ∈ l) := hm
  have HB1 : Hid (Below w.heap.size w (w.alloc (.cells (pl12 d0 d1 d2 d3 d4 d5 d6 d7 k2 p2 a2 l2) 28))) := (Below.refl _ w).alloc (Nat.le_refl _) _
  have HN1 : Hid (At12 (w.alloc (.cells (pl12 d0 d1 d2 d3 d4 d5 d6 d7 k2 p2 a2 l2) 28)) w.heap.size 0 d0 d1 d2 d3 d4 d5 d6 d7 k2 p2 a2 l2) := At12.new _ _ _ _ _ _ _ _ _ _ _ _ _ _
  have HS1 : Hid ((w.alloc (.cells (pl12 d0 d1 d2 d3 d4 d5 d6 d7 k2 p2 a2 l2) 28)).heap.size = w.heap.size + 1) := by show (w.heap.push _).size = _; simp
  have HH : Hid (Px (w.alloc (.cells (pl12 d0 d1 d2 d3 d4 d5 d6 d7 k2 p2 a2 l2) 28)) (.slice a l.length c) l) := h.below HB1.out
  clear h hm hq
  go_enter Try.func43, Try.ntmps43
  go_wp2_with fail
  generalize w.alloc (.cells (pl12 d0 d1 d2 d3 d4 d5 d6 d7 k2 p2 a2 l2) 28) = W1 at *
  go_loopw [8] (fun i wr => ∃ k : Nat, k ≤ l.length ∧ i = .int .i64 k ∧ Hid (∀ j, j < k → l[j]? ≠ some q) ∧ Hid (Below W1.heap.size W1 wr)) (fun i _ => l.length - (intOf i).toNat)
  case atStart => exact ⟨0, by omega, rfl, (fun j hj => by omega), Below.refl _ _⟩
  case round =>
    obtain ⟨k, hk, rfl, hn, hbel⟩ := hrel
    by_cases hlt : k < l.length
    · obtain ⟨t, ht⟩ : ∃ t, l[k]? = some t := ⟨_, List.getElem?_eq_getElem hlt⟩
      obtain ⟨b0, b1, b2, b3, b4, b5, b6, b7, k1, p1, a1, l1, ht12⟩ := t.as12
      have HT : Hid (l[k]? = some t) := ht
      have heq : ∀ W, (Op.equalIn 10000 28 (.agg (pl12 d0 d1 d2 d3 d4 d5 d6 d7 k2 p2 a2 l2)) (.agg (pl12 b0 b1 b2 b3 b4 b5 b6 b7 k1 p1 a1 l1))).run Try.prog W = .ok (plSame q t) W := fun W => by
        have := pl_cmp W q t
        rw [← HQ.out, ht12] at this ⊢
        exact this
      rw [ht12] at ht
      obtain ⟨bk, o, hao, hbk, hat⟩ := (HH.out.below hbel.out).twelve k ht
      subst hao
      have hzw : w.heap.size < wr.heap.size := by have h1 := hbel.out.size; have h2 := HS1.out; omega
      have had := HN1.out.below hbel.out (by rw [HS1.out]; omega)
      have x0 : ∀ X : Since wr.heap.size wr, X.val.cell? ⟨w.heap.size, 0, none⟩ = some (.int .u8 (d0.toNat : Int)) := fun X => (X.property.cell (p := ⟨w.heap.size, 0, none⟩) hzw).trans had.c0
      have x1 : ∀ X : Since wr.heap.size wr, X.val.cell? ⟨w.heap.size, 1, none⟩ = some (.int .u8 (d1.toNat : Int)) := fun X => (X.property.cell (p := ⟨w.heap.size, 1, none⟩) hzw).trans had.c1
      have x2 : ∀ X : Since wr.heap.size wr, X.val.cell? ⟨w.heap.size, 2, none⟩ = some (.int .u8 (d2.toNat : Int)) := fun X => (X.property.cell (p := ⟨w.heap.size, 2, none⟩) hzw).trans had.c2
      have x3 : ∀ X : Since wr.heap.size wr, X.val.cell? ⟨w.heap.size, 3, none⟩ = some (.int .u8 (d3.toNat : Int)) := fun X => (X.property.cell (p := ⟨w.heap.size, 3, none⟩) hzw).trans had.c3
      have x4 : ∀ X : Since wr.heap.size wr, X.val.cell? ⟨w.heap.size, 4, none⟩ = some (.int .u8 (d4.toNat : Int)) := fun X => (X.property.cell (p := ⟨w.heap.size, 4, none⟩) hzw).trans had.c4
      have x5 : ∀ X : Since wr.heap.size wr, X.val.cell? ⟨w.heap.size, 5, none⟩ = some (.int .u8 (d5.toNat : Int)) := fun X => (X.property.cell (p := ⟨w.heap.size, 5, none⟩) hzw).trans had.c5
      have x6 : ∀ X : Since wr.heap.size wr, X.val.cell? ⟨w.heap.size, 6, none⟩ = some (.int .u8 (d6.toNat : Int)) := fun X => (X.property.cell (p := ⟨w.heap.size, 6, none⟩) hzw).trans had.c6
      have x7 : ∀ X : Since wr.heap.size wr, X.val.cell? ⟨w.heap.size, 7, none⟩ = some (.int .u8 (d7.toNat : Int)) := fun X => (X.property.cell (p := ⟨w.heap.size, 7, none⟩) hzw).trans had.c7
      have x8 : ∀ X : Since wr.heap.size wr, X.val.cell? ⟨w.heap.size, 8, none⟩ = some (.int .i64 k2) := fun X => (X.property.cell (p := ⟨w.heap.size, 8, none⟩) hzw).trans had.c8
      have x9 : ∀ X : Since wr.heap.size wr, X.val.cell? ⟨w.heap.size, 9, none⟩ = some (.int .i64 p2) := fun X => (X.property.cell (p := ⟨w.heap.size, 9, none⟩) hzw).trans had.c9
      have x10 : ∀ X : Since wr.heap.size wr, X.val.cell? ⟨w.heap.size, 10, none⟩ = some (.int .i64 a2) := fun X => (X.property.cell (p := ⟨w.heap.size, 10, none⟩) hzw).trans had.c10
      have x11 : ∀ X : Since wr.heap.size wr, X.val.cell? ⟨w.heap.size, 11, none⟩ = some (.int .i64 l2) := fun X => (X.property.cell (p := ⟨w.heap.size, 11, none⟩) hzw).trans had.c11
      have y0 : ∀ X : Since wr.heap.size wr, X.val.cell? ⟨bk, o + k * 12, none⟩ = some (.int .u8 (b0.toNat : Int)) := fun X => (X.property.cell (p := ⟨bk, o + k * 12, none⟩) hbk).trans hat.c0
      have y1 : ∀ X : Since wr.heap.size wr, X.val.cell? ⟨bk, o + k * 12 + 1, none⟩ = some (.int .u8 (b1.toNat : Int)) := fun X => (X.property.cell (p := ⟨bk, o + k * 12 + 1, none⟩) hbk).trans hat.c1
      have y2 : ∀ X : Since wr.heap.size wr, X.val.cell? ⟨bk, o + k * 12 + 2, none⟩ = some (.int .u8 (b2.toNat : Int)) := fun X => (X.property.cell (p := ⟨bk, o + k * 12 + 2, none⟩) hbk).trans hat.c2
      have y3 : ∀ X : Since wr.heap.size wr, X.val.cell? ⟨bk, o + k * 12 + 3, none⟩ = some (.int .u8 (b3.toNat : Int)) := fun X => (X.property.cell (p := ⟨bk, o + k * 12 + 3, none⟩) hbk).trans hat.c3
      have y4 : ∀ X : Since wr.heap.size wr, X.val.cell? ⟨bk, o + k * 12 + 4, none⟩ = some (.int .u8 (b4.toNat : Int)) := fun X => (X.property.cell (p := ⟨bk, o + k * 12 + 4, none⟩) hbk).trans hat.c4
      have y5 : ∀ X : Since wr.heap.size wr, X.val.cell? ⟨bk, o + k * 12 + 5, none⟩ = some (.int .u8 (b5.toNat : Int)) := fun X => (X.property.cell (p := ⟨bk, o + k * 12 + 5, none⟩) hbk).trans hat.c5
      have y6 : ∀ X : Since wr.heap.size wr, X.val.cell? ⟨bk, o + k * 12 + 6, none⟩ = some (.int .u8 (b6.toNat : Int)) := fun X => (X.property.cell (p := ⟨bk, o + k * 12 + 6, none⟩) hbk).trans hat.c6
      have y7 : ∀ X : Since wr.heap.size wr, X.val.cell? ⟨bk, o + k * 12 + 7, none⟩ = some (.int .u8 (b7.toNat : Int)) := fun X => (X.property.cell (p := ⟨bk, o + k * 12 + 7, none⟩) hbk).trans hat.c7
      have y8 : ∀ X : Since wr.heap.size wr, X.val.cell? ⟨bk, o + k * 12 + 8, none⟩ = some (.int .i64 k1) := fun X => (X.property.cell (p := ⟨bk, o + k * 12 + 8, none⟩) hbk).trans hat.c8
      have y9 : ∀ X : Since wr.heap.size wr, X.val.cell? ⟨bk, o + k * 12 + 9, none⟩ = some (.int .i64 p1) := fun X => (X.property.cell (p := ⟨bk, o + k * 12 + 9, none⟩) hbk).trans hat.c9
      have y10 : ∀ X : Since wr.heap.size wr, X.val.cell? ⟨bk, o + k * 12 + 10, none⟩ = some (.int .i64 a1) := fun X => (X.property.cell (p := ⟨bk, o + k * 12 + 10, none⟩) hbk).trans hat.c10
      have y11 : ∀ X : Since wr.heap.size wr, X.val.cell? ⟨bk, o + k * 12 + 11, none⟩ = some (.int .i64 l1) := fun X => (X.property.cell (p := ⟨bk, o + k * 12 + 11, none⟩) hbk).trans hat.c11
      clear hat had ht ht12
      have hne : Nonempty (Since wr.heap.size wr) := ⟨⟨wr, Below.refl _ _⟩⟩
      cases hs : plSame q t with
      | true =>
        rw [hs] at heq
        clear hs hn
        go_upto_region 4 with fail
        refine wp_region_since (B := wr.heap.size) (W0 := wr) (by kernel_rfl) (by kernel_rfl) (Below.refl _ _) ?_
        repeat (go_big_quiet_step (fail))
        refine wpQuiet_nil ?_
        rintro w7 ⟨U, rfl⟩
        have HB3 : Hid (Below W1.heap.size W1 U.val) := hbel.out.trans (U.property.mono hbel.out.size)
        generalize U.val = w7 at *
        clear hne heq x0 x1 x2 x3 x4 x5 x6 x7 x8 x9 x10 x11 y0 y1 y2 y3 y4 y5 y6 y7 y8 y9 y10 y11
        go_wp2_with fail
        go_ret
        exact ⟨k, rfl, HB1.out.trans (HB3.out.mono HB1.out.size)⟩
      | false =>
        rw [hs] at heq
        have HN2 : Hid (∀ j, j < k + 1 → l[j]? ≠ some q) := fun j hj e => by
          rcases Nat.lt_or_ge j k with d | d
          · exact hn.out j d e
          · obtain rfl : j = k := by omega
            rw [HT.out] at e
            obtain rfl := Option.some.inj e
            rw [plSame_self] at hs
            cases hs
        clear hs hn
        go_upto_region 4 with fail
        refine wp_region_since (B := wr.heap.size) (W0 := wr) (by kernel_rfl) (by kernel_rfl) (Below.refl _ _) ?_
        repeat (go_big_quiet_step (fail))
        refine wpQuiet_nil ?_
        rintro w7 ⟨U, rfl⟩
        have HB3 : Hid (Below W1.heap.size W1 U.val) := hbel.out.trans (U.property.mono hbel.out.size)
        generalize U.val = w7 at *
        clear hne heq x0 x1 x2 x3 x4 x5 x6 x7 x8 x9 x10 x11 y0 y1 y2 y3 y4 y5 y6 y7 y8 y9 y10 y11
        go_wp2_with fail
        go_roundw
        case rel => exact ⟨k + 1, by omega, by go_num, HN2, HB3⟩
        case measure => simp only [intOf]; omega
    · exfalso
      obtain ⟨j, hj, e⟩ := List.getElem_of_mem HM.out
      exact hn.out j (by omega) (by rw [List.getElem?_eq_getElem hj, e])

theorem contains_of (v : Value) (l : List Plc) (d0 d1 d2 d3 d4 d5 d6 d7 : UInt8) (k2 p2 a2 l2 : Int) (w : World) (h : Px w v l) (hl : l.length ≤ 140737488351232) (hm : (⟨[d0, d1, d2, d3, d4, d5, d6, d7], rfl, k2, p2, a2, l2⟩ : Plc) ∈ l) :
    Calls Try.prog 24 #[v, .agg (pl12 d0 d1 d2 d3 d4 d5 d6 d7 k2 p2 a2 l2)] w fun e w' => e = .returned (.bool true) ∧ Below w.heap.size w w' := by
  obtain ⟨a, c, rfl, hc1, hc2⟩ := h.slice
  have HB1 : Hid (Below w.heap.size w (w.alloc (.cells (pl12 d0 d1 d2 d3 d4 d5 d6 d7 k2 p2 a2 l2) 28))) := (Below.refl _ w).alloc (Nat.le_refl _) _
  have hi := idx_any (.slice a l.length c) l d0 d1 d2 d3 d4 d5 d6 d7 k2 p2 a2 l2 (w.alloc (.cells (pl12 d0 d1 d2 d3 d4 d5 d6 d7 k2 p2 a2 l2) 28)) (h.below HB1.out) hl hm
  clear h hm
  go_enter Try.func24, Try.ntmps24
  go_wp2_with (go_at_call 43; refine hi.mono ?_; rintro e w2 ⟨i, rfl, b2⟩)
  go_ret
  exact ⟨by simp, HB1.out.trans (b2.mono HB1.out.size)⟩
end Go.Proofs.Ytllioidjelgafaa
