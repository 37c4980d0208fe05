/-
  slices.Equal over two rows of the same numbers.
-/
import Derived.Test.YtoibiaikbgkbpaaHfInts
namespace Go.Proofs.Ytoibiaikbgkbpaa
open Go.RowKit
set_option maxRecDepth 4000

set_option maxHeartbeats 1000000 in
theorem equal_ints (v1 v2 : Value) (l : List Int) (w : World) (h1 : Ints w v1 l) (h2 : Ints w v2 l) (hl : l.length ≤ 140737488351232) :
    Calls Try.prog 14 #[v1, v2] w fun e w' => e = .returned (.bool true) ∧ Below w.heap.size w w' := by
  obtain ⟨a1, c1, rfl⟩ := h1.slice
  obtain ⟨a2, c2, rfl⟩ := h2.slice
  go_enter Try.func14, Try.ntmps14
  go_wp2_with fail
  go_loopw [13] (fun i wr => ∃ k : Nat, k ≤ l.length ∧ i = .int .i64 k ∧ Below w.heap.size w wr) (fun i _ => l.length - (intOf i).toNat)
  case atStart => exact ⟨0, by omega, rfl, Below.refl _ _⟩
  case round =>
    obtain ⟨k, hk, rfl, hbel⟩ := hrel
    by_cases hlt : k < l.length
    · obtain ⟨bk, o, rfl, _, hbk, c0⟩ := (h1.below (Nat.le_refl _) hbel).get k hlt
      obtain ⟨bk', o', rfl, _, hbk', d0⟩ := (h2.below (Nat.le_refl _) hbel).get k hlt
      generalize ht : l[k] = t at *
      clear ht h1 h2
      have x0 : ∀ X : Since wr.heap.size wr, X.val.cell? ⟨bk, o + k, none⟩ = some (.int .i64 t) := fun X => (X.property.cell (p := ⟨bk, o + k, none⟩) hbk).trans c0
      have y0 : ∀ X : Since wr.heap.size wr, X.val.cell? ⟨bk', o' + k, none⟩ = some (.int .i64 t) := fun X => (X.property.cell (p := ⟨bk', o' + k, none⟩) hbk').trans d0
      clear c0 d0
      have hne : Nonempty (Since wr.heap.size wr) := ⟨⟨wr, Below.refl _ _⟩⟩
      go_wp2_with fail
      refine wp_region_since (B := wr.heap.size) (W0 := wr) (by kernel_rfl) (by kernel_rfl) (Below.refl _ _) ?_
      repeat (go_big_quiet_step (fail))
      refine wpQuiet_nil ?_
      rintro w7 ⟨U, rfl⟩
      have hU := U.property
      have HB3 : Hid (Below w.heap.size w U.val) := hbel.trans (hU.mono hbel.size)
      generalize U.val = w7 at *
      clear hU hbel x0 y0 hne
      go_wp2_with fail
      go_roundw
      case rel => exact ⟨k + 1, by omega, by go_num, HB3.out⟩
      case measure => simp only [intOf]; omega
    · go_wp2_with fail
      go_ret
      exact ⟨rfl, hbel⟩
end Go.Proofs.Ytoibiaikbgkbpaa
