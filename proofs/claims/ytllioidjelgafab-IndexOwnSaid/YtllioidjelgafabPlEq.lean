/-
  slices.Equal over two rows of the same places.
-/
import Derived.Test.YtllioidjelgafabPl12
namespace Go.Proofs.Ytllioidjelgafab
open Go.RowKit
set_option maxRecDepth 4000

set_option maxHeartbeats 4000000 in
theorem equal_pls (v1 v2 : Value) (l : List Plc) (w : World) (h1 : Px w v1 l) (h2 : Px w v2 l) (hl : l.length ≤ 140737488351232) :
    Calls Try.prog 8 #[v1, v2] w fun e w' => e = .returned (.bool true) ∧ Below w.heap.size w w' := by
  obtain ⟨a1, c1, rfl, j1, j2⟩ := h1.slice
  obtain ⟨a2, c2, rfl, j3, j4⟩ := h2.slice
  clear j1 j2 j3 j4
  go_enter Try.func8, Try.ntmps8
  go_wp2_with fail
  go_loopw [13] (fun i wr => ∃ k : Nat, k ≤ l.length ∧ i = .int .i64 k ∧ Below w.heap.size w wr) (fun i _ => l.length - (intOf i).toNat)
  case atStart => exact ⟨0, by omega, rfl, Below.refl _ _⟩
  case round =>
    obtain ⟨k, hk, rfl, hbel⟩ := hrel
    by_cases hlt : k < l.length
    · obtain ⟨t, ht⟩ : ∃ t, l[k]? = some t := ⟨_, List.getElem?_eq_getElem hlt⟩
      obtain ⟨b0, b1, b2, b3, b4, b5, b6, b7, kd, pp, qq, rr, ht12⟩ := t.as12
      rw [ht12] at ht
      obtain ⟨bk, o, rfl, hbk, hc⟩ := (h1.below hbel).twelve k ht
      obtain ⟨bk', o', rfl, hbk', hd⟩ := (h2.below hbel).twelve k ht
      have heq : ∀ W, (Op.equalIn 10000 29 (.agg (pl12 b0 b1 b2 b3 b4 b5 b6 b7 kd pp qq rr)) (.agg (pl12 b0 b1 b2 b3 b4 b5 b6 b7 kd pp qq rr))).run Try.prog W = .ok true W := fun W => by
        have := pl_cmp W ⟨[b0, b1, b2, b3, b4, b5, b6, b7], rfl, kd, pp, qq, rr⟩ ⟨[b0, b1, b2, b3, b4, b5, b6, b7], rfl, kd, pp, qq, rr⟩
        rw [plSame_self] at this
        exact this
      clear h1 h2 ht ht12
      have x0 : ∀ X : Since wr.heap.size wr, X.val.cell? ⟨bk, o + k * 12, none⟩ = some (.int .u8 (b0.toNat : Int)) := fun X => (X.property.cell (p := ⟨bk, o + k * 12, none⟩) hbk).trans hc.c0
      have x1 : ∀ X : Since wr.heap.size wr, X.val.cell? ⟨bk, o + k * 12 + 1, none⟩ = some (.int .u8 (b1.toNat : Int)) := fun X => (X.property.cell (p := ⟨bk, o + k * 12 + 1, none⟩) hbk).trans hc.c1
      have x2 : ∀ X : Since wr.heap.size wr, X.val.cell? ⟨bk, o + k * 12 + 2, none⟩ = some (.int .u8 (b2.toNat : Int)) := fun X => (X.property.cell (p := ⟨bk, o + k * 12 + 2, none⟩) hbk).trans hc.c2
      have x3 : ∀ X : Since wr.heap.size wr, X.val.cell? ⟨bk, o + k * 12 + 3, none⟩ = some (.int .u8 (b3.toNat : Int)) := fun X => (X.property.cell (p := ⟨bk, o + k * 12 + 3, none⟩) hbk).trans hc.c3
      have x4 : ∀ X : Since wr.heap.size wr, X.val.cell? ⟨bk, o + k * 12 + 4, none⟩ = some (.int .u8 (b4.toNat : Int)) := fun X => (X.property.cell (p := ⟨bk, o + k * 12 + 4, none⟩) hbk).trans hc.c4
      have x5 : ∀ X : Since wr.heap.size wr, X.val.cell? ⟨bk, o + k * 12 + 5, none⟩ = some (.int .u8 (b5.toNat : Int)) := fun X => (X.property.cell (p := ⟨bk, o + k * 12 + 5, none⟩) hbk).trans hc.c5
      have x6 : ∀ X : Since wr.heap.size wr, X.val.cell? ⟨bk, o + k * 12 + 6, none⟩ = some (.int .u8 (b6.toNat : Int)) := fun X => (X.property.cell (p := ⟨bk, o + k * 12 + 6, none⟩) hbk).trans hc.c6
      have x7 : ∀ X : Since wr.heap.size wr, X.val.cell? ⟨bk, o + k * 12 + 7, none⟩ = some (.int .u8 (b7.toNat : Int)) := fun X => (X.property.cell (p := ⟨bk, o + k * 12 + 7, none⟩) hbk).trans hc.c7
      have x8 : ∀ X : Since wr.heap.size wr, X.val.cell? ⟨bk, o + k * 12 + 8, none⟩ = some (.int .i64 kd) := fun X => (X.property.cell (p := ⟨bk, o + k * 12 + 8, none⟩) hbk).trans hc.c8
      have x9 : ∀ X : Since wr.heap.size wr, X.val.cell? ⟨bk, o + k * 12 + 9, none⟩ = some (.int .i64 pp) := fun X => (X.property.cell (p := ⟨bk, o + k * 12 + 9, none⟩) hbk).trans hc.c9
      have x10 : ∀ X : Since wr.heap.size wr, X.val.cell? ⟨bk, o + k * 12 + 10, none⟩ = some (.int .i64 qq) := fun X => (X.property.cell (p := ⟨bk, o + k * 12 + 10, none⟩) hbk).trans hc.c10
      have x11 : ∀ X : Since wr.heap.size wr, X.val.cell? ⟨bk, o + k * 12 + 11, none⟩ = some (.int .i64 rr) := fun X => (X.property.cell (p := ⟨bk, o + k * 12 + 11, none⟩) hbk).trans hc.c11
      have y0 : ∀ X : Since wr.heap.size wr, X.val.cell? ⟨bk', o' + k * 12, none⟩ = some (.int .u8 (b0.toNat : Int)) := fun X => (X.property.cell (p := ⟨bk', o' + k * 12, none⟩) hbk').trans hd.c0
      have y1 : ∀ X : Since wr.heap.size wr, X.val.cell? ⟨bk', o' + k * 12 + 1, none⟩ = some (.int .u8 (b1.toNat : Int)) := fun X => (X.property.cell (p := ⟨bk', o' + k * 12 + 1, none⟩) hbk').trans hd.c1
      have y2 : ∀ X : Since wr.heap.size wr, X.val.cell? ⟨bk', o' + k * 12 + 2, none⟩ = some (.int .u8 (b2.toNat : Int)) := fun X => (X.property.cell (p := ⟨bk', o' + k * 12 + 2, none⟩) hbk').trans hd.c2
      have y3 : ∀ X : Since wr.heap.size wr, X.val.cell? ⟨bk', o' + k * 12 + 3, none⟩ = some (.int .u8 (b3.toNat : Int)) := fun X => (X.property.cell (p := ⟨bk', o' + k * 12 + 3, none⟩) hbk').trans hd.c3
      have y4 : ∀ X : Since wr.heap.size wr, X.val.cell? ⟨bk', o' + k * 12 + 4, none⟩ = some (.int .u8 (b4.toNat : Int)) := fun X => (X.property.cell (p := ⟨bk', o' + k * 12 + 4, none⟩) hbk').trans hd.c4
      have y5 : ∀ X : Since wr.heap.size wr, X.val.cell? ⟨bk', o' + k * 12 + 5, none⟩ = some (.int .u8 (b5.toNat : Int)) := fun X => (X.property.cell (p := ⟨bk', o' + k * 12 + 5, none⟩) hbk').trans hd.c5
      have y6 : ∀ X : Since wr.heap.size wr, X.val.cell? ⟨bk', o' + k * 12 + 6, none⟩ = some (.int .u8 (b6.toNat : Int)) := fun X => (X.property.cell (p := ⟨bk', o' + k * 12 + 6, none⟩) hbk').trans hd.c6
      have y7 : ∀ X : Since wr.heap.size wr, X.val.cell? ⟨bk', o' + k * 12 + 7, none⟩ = some (.int .u8 (b7.toNat : Int)) := fun X => (X.property.cell (p := ⟨bk', o' + k * 12 + 7, none⟩) hbk').trans hd.c7
      have y8 : ∀ X : Since wr.heap.size wr, X.val.cell? ⟨bk', o' + k * 12 + 8, none⟩ = some (.int .i64 kd) := fun X => (X.property.cell (p := ⟨bk', o' + k * 12 + 8, none⟩) hbk').trans hd.c8
      have y9 : ∀ X : Since wr.heap.size wr, X.val.cell? ⟨bk', o' + k * 12 + 9, none⟩ = some (.int .i64 pp) := fun X => (X.property.cell (p := ⟨bk', o' + k * 12 + 9, none⟩) hbk').trans hd.c9
      have y10 : ∀ X : Since wr.heap.size wr, X.val.cell? ⟨bk', o' + k * 12 + 10, none⟩ = some (.int .i64 qq) := fun X => (X.property.cell (p := ⟨bk', o' + k * 12 + 10, none⟩) hbk').trans hd.c10
      have y11 : ∀ X : Since wr.heap.size wr, X.val.cell? ⟨bk', o' + k * 12 + 11, none⟩ = some (.int .i64 rr) := fun X => (X.property.cell (p := ⟨bk', o' + k * 12 + 11, none⟩) hbk').trans hd.c11
      clear hc hd
      have hne : Nonempty (Since wr.heap.size wr) := ⟨⟨wr, Below.refl _ _⟩⟩
      go_wp2_with fail
      refine wp_region_since (B := wr.heap.size) (W0 := wr) (by kernel_rfl) (by kernel_rfl) (Below.refl _ _) ?_
      repeat (go_big_quiet_step (fail))
      refine wpQuiet_nil ?_
      rintro w7 ⟨U, rfl⟩
      have hU := U.property
      have HB3 : Hid (Below w.heap.size w U.val) := hbel.trans (hU.mono hbel.size)
      generalize U.val = w7 at *
      clear hU hbel x0 x1 x2 x3 x4 x5 x6 x7 x8 x9 x10 x11 y0 y1 y2 y3 y4 y5 y6 y7 y8 y9 y10 y11 heq hne
      go_wp2_with fail
      go_roundw
      case rel => exact ⟨k + 1, by omega, by go_num, HB3.out⟩
      case measure => simp only [intOf]; omega
    · go_wp2_with fail
      go_ret
      exact ⟨rfl, hbel⟩
end Go.Proofs.Ytllioidjelgafab
