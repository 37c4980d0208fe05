/-
  slices.Equal over two lists of the same rows.
-/
import Derived.Test.YtllioidjelgafabPlMem
import Derived.Test.YtllioidjelgafabQuietSince
namespace Go.Proofs.Ytllioidjelgafab
open Go.RowKit
set_option maxRecDepth 4000

set_option maxHeartbeats 4000000 in
theorem equal_ents (v1 v2 : Value) (l : List Ent) (w : World) (h1 : Ex w v1 l) (h2 : Ex w v2 l) (hl : l.length ≤ 140737488351232) :
    Calls Try.prog 26 #[v1, v2] w fun e w' => e = .returned (.bool true) ∧ Below w.heap.size w w' := by
  obtain ⟨a1, c1, rfl, j1, j2⟩ := h1.slice
  obtain ⟨a2, c2, rfl, j3, j4⟩ := h2.slice
  clear j1 j2 j3 j4
  go_enter Try.func26, Try.ntmps26
  go_wp2_with fail
  go_loopw [13] (fun i wr => ∃ k : Nat, k ≤ l.length ∧ i = .int .i64 k ∧ Below w.heap.size w wr) (fun i _ => l.length - (intOf i).toNat)
  case atStart => exact ⟨0, by omega, rfl, Below.refl _ _⟩
  case round =>
    obtain ⟨k, hk, rfl, hbel⟩ := hrel
    by_cases hlt : k < l.length
    · obtain ⟨t, ht⟩ : ∃ t, l[k]? = some t := ⟨_, List.getElem?_eq_getElem hlt⟩
      obtain ⟨bk, o, rfl, hbk, hc⟩ := (h1.below hbel).get k t ht
      obtain ⟨bk', o', rfl, hbk', hd⟩ := (h2.below hbel).get k t ht
      have heq := fun W => en_eq W t
      clear h1 h2 ht
      obtain ⟨xid, hxid, kd, pp, qq⟩ := t
      obtain ⟨b0, b1, b2, b3, b4, b5, b6, b7, rfl⟩ := oct xid hxid
      have heq' : ∀ W, (Op.equalIn 10000 40 (.agg #[.int .u8 (b0.toNat : Int), .int .u8 (b1.toNat : Int), .int .u8 (b2.toNat : Int), .int .u8 (b3.toNat : Int), .int .u8 (b4.toNat : Int), .int .u8 (b5.toNat : Int), .int .u8 (b6.toNat : Int), .int .u8 (b7.toNat : Int), .int .i64 kd, .int .i64 pp, .int .i64 qq]) (.agg #[.int .u8 (b0.toNat : Int), .int .u8 (b1.toNat : Int), .int .u8 (b2.toNat : Int), .int .u8 (b3.toNat : Int), .int .u8 (b4.toNat : Int), .int .u8 (b5.toNat : Int), .int .u8 (b6.toNat : Int), .int .u8 (b7.toNat : Int), .int .i64 kd, .int .i64 pp, .int .i64 qq])).run Try.prog W = .ok true W := heq
      have x0 : ∀ X : Since wr.heap.size wr, X.val.cell? ⟨bk, o + k * 11, none⟩ = some (.int .u8 (b0.toNat : Int)) := fun X => (X.property.cell (p := ⟨bk, o + k * 11, none⟩) hbk).trans (hc 0 _ rfl)
      have x1 : ∀ X : Since wr.heap.size wr, X.val.cell? ⟨bk, o + k * 11 + 1, none⟩ = some (.int .u8 (b1.toNat : Int)) := fun X => (X.property.cell (p := ⟨bk, o + k * 11 + 1, none⟩) hbk).trans (hc 1 _ rfl)
      have x2 : ∀ X : Since wr.heap.size wr, X.val.cell? ⟨bk, o + k * 11 + 2, none⟩ = some (.int .u8 (b2.toNat : Int)) := fun X => (X.property.cell (p := ⟨bk, o + k * 11 + 2, none⟩) hbk).trans (hc 2 _ rfl)
      have x3 : ∀ X : Since wr.heap.size wr, X.val.cell? ⟨bk, o + k * 11 + 3, none⟩ = some (.int .u8 (b3.toNat : Int)) := fun X => (X.property.cell (p := ⟨bk, o + k * 11 + 3, none⟩) hbk).trans (hc 3 _ rfl)
      have x4 : ∀ X : Since wr.heap.size wr, X.val.cell? ⟨bk, o + k * 11 + 4, none⟩ = some (.int .u8 (b4.toNat : Int)) := fun X => (X.property.cell (p := ⟨bk, o + k * 11 + 4, none⟩) hbk).trans (hc 4 _ rfl)
      have x5 : ∀ X : Since wr.heap.size wr, X.val.cell? ⟨bk, o + k * 11 + 5, none⟩ = some (.int .u8 (b5.toNat : Int)) := fun X => (X.property.cell (p := ⟨bk, o + k * 11 + 5, none⟩) hbk).trans (hc 5 _ rfl)
      have x6 : ∀ X : Since wr.heap.size wr, X.val.cell? ⟨bk, o + k * 11 + 6, none⟩ = some (.int .u8 (b6.toNat : Int)) := fun X => (X.property.cell (p := ⟨bk, o + k * 11 + 6, none⟩) hbk).trans (hc 6 _ rfl)
      have x7 : ∀ X : Since wr.heap.size wr, X.val.cell? ⟨bk, o + k * 11 + 7, none⟩ = some (.int .u8 (b7.toNat : Int)) := fun X => (X.property.cell (p := ⟨bk, o + k * 11 + 7, none⟩) hbk).trans (hc 7 _ rfl)
      have x8 : ∀ X : Since wr.heap.size wr, X.val.cell? ⟨bk, o + k * 11 + 8, none⟩ = some (.int .i64 kd) := fun X => (X.property.cell (p := ⟨bk, o + k * 11 + 8, none⟩) hbk).trans (hc 8 _ rfl)
      have x9 : ∀ X : Since wr.heap.size wr, X.val.cell? ⟨bk, o + k * 11 + 9, none⟩ = some (.int .i64 pp) := fun X => (X.property.cell (p := ⟨bk, o + k * 11 + 9, none⟩) hbk).trans (hc 9 _ rfl)
      have x10 : ∀ X : Since wr.heap.size wr, X.val.cell? ⟨bk, o + k * 11 + 10, none⟩ = some (.int .i64 qq) := fun X => (X.property.cell (p := ⟨bk, o + k * 11 + 10, none⟩) hbk).trans (hc 10 _ rfl)
      have y0 : ∀ X : Since wr.heap.size wr, X.val.cell? ⟨bk', o' + k * 11, none⟩ = some (.int .u8 (b0.toNat : Int)) := fun X => (X.property.cell (p := ⟨bk', o' + k * 11, none⟩) hbk').trans (hd 0 _ rfl)
      have y1 : ∀ X : Since wr.heap.size wr, X.val.cell? ⟨bk', o' + k * 11 + 1, none⟩ = some (.int .u8 (b1.toNat : Int)) := fun X => (X.property.cell (p := ⟨bk', o' + k * 11 + 1, none⟩) hbk').trans (hd 1 _ rfl)
      have y2 : ∀ X : Since wr.heap.size wr, X.val.cell? ⟨bk', o' + k * 11 + 2, none⟩ = some (.int .u8 (b2.toNat : Int)) := fun X => (X.property.cell (p := ⟨bk', o' + k * 11 + 2, none⟩) hbk').trans (hd 2 _ rfl)
      have y3 : ∀ X : Since wr.heap.size wr, X.val.cell? ⟨bk', o' + k * 11 + 3, none⟩ = some (.int .u8 (b3.toNat : Int)) := fun X => (X.property.cell (p := ⟨bk', o' + k * 11 + 3, none⟩) hbk').trans (hd 3 _ rfl)
      have y4 : ∀ X : Since wr.heap.size wr, X.val.cell? ⟨bk', o' + k * 11 + 4, none⟩ = some (.int .u8 (b4.toNat : Int)) := fun X => (X.property.cell (p := ⟨bk', o' + k * 11 + 4, none⟩) hbk').trans (hd 4 _ rfl)
      have y5 : ∀ X : Since wr.heap.size wr, X.val.cell? ⟨bk', o' + k * 11 + 5, none⟩ = some (.int .u8 (b5.toNat : Int)) := fun X => (X.property.cell (p := ⟨bk', o' + k * 11 + 5, none⟩) hbk').trans (hd 5 _ rfl)
      have y6 : ∀ X : Since wr.heap.size wr, X.val.cell? ⟨bk', o' + k * 11 + 6, none⟩ = some (.int .u8 (b6.toNat : Int)) := fun X => (X.property.cell (p := ⟨bk', o' + k * 11 + 6, none⟩) hbk').trans (hd 6 _ rfl)
      have y7 : ∀ X : Since wr.heap.size wr, X.val.cell? ⟨bk', o' + k * 11 + 7, none⟩ = some (.int .u8 (b7.toNat : Int)) := fun X => (X.property.cell (p := ⟨bk', o' + k * 11 + 7, none⟩) hbk').trans (hd 7 _ rfl)
      have y8 : ∀ X : Since wr.heap.size wr, X.val.cell? ⟨bk', o' + k * 11 + 8, none⟩ = some (.int .i64 kd) := fun X => (X.property.cell (p := ⟨bk', o' + k * 11 + 8, none⟩) hbk').trans (hd 8 _ rfl)
      have y9 : ∀ X : Since wr.heap.size wr, X.val.cell? ⟨bk', o' + k * 11 + 9, none⟩ = some (.int .i64 pp) := fun X => (X.property.cell (p := ⟨bk', o' + k * 11 + 9, none⟩) hbk').trans (hd 9 _ rfl)
      have y10 : ∀ X : Since wr.heap.size wr, X.val.cell? ⟨bk', o' + k * 11 + 10, none⟩ = some (.int .i64 qq) := fun X => (X.property.cell (p := ⟨bk', o' + k * 11 + 10, none⟩) hbk').trans (hd 10 _ rfl)
      clear hc hd heq
      have hne : Nonempty (Since wr.heap.size wr) := ⟨⟨wr, Below.refl _ _⟩⟩
      go_wp2_with fail
      refine wp_region_since (B := wr.heap.size) (W0 := wr) (by kernel_rfl) (by kernel_rfl) (Below.refl _ _) ?_
      repeat (go_big_quiet_step (fail))
      refine wpQuiet_nil ?_
      rintro w7 ⟨U, rfl⟩
      have hU := U.property
      have HB3 : Hid (Below w.heap.size w U.val) := hbel.trans (hU.mono hbel.size)
      generalize U.val = w7 at *
      clear hU hbel x0 x1 x2 x3 x4 x5 x6 x7 x8 x9 x10 y0 y1 y2 y3 y4 y5 y6 y7 y8 y9 y10 heq' hne
      go_wp2_with fail
      go_roundw
      case rel => exact ⟨k + 1, by omega, by go_num, HB3.out⟩
      case measure => simp only [intOf]; omega
    · go_wp2_with fail
      go_ret
      exact ⟨rfl, hbel⟩
end Go.Proofs.Ytllioidjelgafab
