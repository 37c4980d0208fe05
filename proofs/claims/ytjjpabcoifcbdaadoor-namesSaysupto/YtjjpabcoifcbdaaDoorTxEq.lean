/-
  slices.Equal over texts.
-/
import Derived.Test.YtjjpabcoifcbdaaDoorTxMem
import Derived.Test.YtjjpabcoifcbdaaDoorQuietSince
import Derived.WalkSpells
import Derived.WalkLawsBesides
namespace Go.Proofs.YtjjpabcoifcbdaaDoor
open Go.RowKit
set_option maxRecDepth 4000

set_option maxHeartbeats 1000000 in
theorem equal_txs (v1 v2 : Value) (l : List ByteArray) (w : World) (h1 : Tx w v1 l) (h2 : Tx w v2 l) (hl : l.length ≤ 140737488351232) :
    Calls Tryd.prog 17 #[v1, v2] w fun e w' => e = .returned (.bool true) ∧ Below w.heap.size w w' := by
  obtain ⟨a1, c1, rfl⟩ := h1.slice
  obtain ⟨a2, c2, rfl⟩ := h2.slice
  go_enter Tryd.func17, Tryd.ntmps17
  go_wp2_with fail
  go_loopw [13] (fun i wr => ∃ k : Nat, k ≤ l.length ∧ i = .int .i64 k ∧ Below w.heap.size w wr) (fun i _ => l.length - (intOf i).toNat)
  case atStart => exact ⟨0, by omega, rfl, Below.refl _ _⟩
  case round =>
    obtain ⟨k, hk, rfl, hbel⟩ := hrel
    by_cases hlt : k < l.length
    · obtain ⟨bk, o, rfl, hbk, c0⟩ := (h1.below hbel).get k hlt
      obtain ⟨bk', o', rfl, hbk', d0⟩ := (h2.below hbel).get k hlt
      generalize l.getD k ByteArray.empty = t at *
      clear h1 h2
      have x0 : ∀ X : Since wr.heap.size wr, X.val.cell? ⟨bk, o + k, none⟩ = some (.string t) := fun X => (X.property.cell (p := ⟨bk, o + k, none⟩) hbk).trans c0
      have y0 : ∀ X : Since wr.heap.size wr, X.val.cell? ⟨bk', o' + k, none⟩ = some (.string t) := fun X => (X.property.cell (p := ⟨bk', o' + k, none⟩) hbk').trans d0
      clear c0 d0
      have hne : Nonempty (Since wr.heap.size wr) := ⟨⟨wr, Below.refl _ _⟩⟩
      go_wp2_with fail
      refine wp_region_since (B := wr.heap.size) (W0 := wr) (by kernel_rfl) (by kernel_rfl) (Below.refl _ _) ?_
      repeat (go_big_quiet_step (fail))
      refine wpQuiet_nil ?_
      rintro w7 ⟨U, rfl⟩
      have hU := U.property
      have HB3 : Hid (Below w.heap.size w U.val) := hbel.trans (hU.mono hbel.size)
      generalize U.val = w7 at *
      clear hU hbel x0 y0 hne
      go_wp2_with fail
      go_roundw
      case rel => exact ⟨k + 1, by omega, by go_num, HB3.out⟩
      case measure => simp only [intOf]; omega
    · go_wp2_with fail
      go_ret
      exact ⟨rfl, hbel⟩

set_option maxHeartbeats 1000000 in
theorem equal_not (v1 v2 : Value) (l m : List ByteArray) (w : World) (h1 : Tx w v1 l) (h2 : Tx w v2 m) (hl : l.length ≤ 140737488351232) (hne : l ≠ m) :
    Calls Tryd.prog 17 #[v1, v2] w fun e w' => e = .returned (.bool false) ∧ Below w.heap.size w w' := by
  obtain ⟨a1, c1, rfl⟩ := h1.slice
  obtain ⟨a2, c2, rfl⟩ := h2.slice
  by_cases hlen : l.length = m.length
  · have HF : Hid (∀ k, k ≤ l.length → (∀ j, j < k → l.getD j ByteArray.empty = m.getD j ByteArray.empty) → k < l.length) := fun k hk h => by
      rcases Nat.lt_or_ge k l.length with h' | h'
      · exact h'
      · refine absurd (List.ext_getElem hlen fun i h3 h4 => ?_) hne
        have := h i (by omega)
        rwa [List.getD_eq_getElem?_getD, List.getD_eq_getElem?_getD, List.getElem?_eq_getElem h3, List.getElem?_eq_getElem h4] at this
    have H1 : Hid (Tx w (.slice a1 l.length c1) l) := h1
    have H2 : Hid (Tx w (.slice a2 m.length c2) m) := h2
    rw [← hlen] at H2 ⊢
    have HL : Hid (m.length = l.length) := hlen.symm
    have hq : ((l.length : Int) != (l.length : Int)) = false := bne_self_eq_false ..
    clear h1 h2 hne hlen
    go_enter Tryd.func17, Tryd.ntmps17
    go_wp2_with fail
    go_loopw [13] (fun i wr => ∃ k : Nat, k < l.length ∧ i = .int .i64 k ∧ Hid (∀ j, j < k → l.getD j ByteArray.empty = m.getD j ByteArray.empty) ∧ Hid (Below w.heap.size w wr)) (fun i _ => l.length - (intOf i).toNat)
    case atStart => exact ⟨0, HF.out 0 (by omega) (fun j hj => by omega), rfl, fun j hj => by omega, Below.refl _ _⟩
    case round =>
      obtain ⟨k, hlt, rfl, HZ, HB⟩ := hrel
      obtain ⟨bk, o, rfl, hbk, c0⟩ := (H1.out.below HB.out).get k hlt
      obtain ⟨bk', o', rfl, hbk', d0⟩ := (H2.out.below HB.out).get k (by rw [HL.out]; exact hlt)
      have hne : Nonempty (Since wr.heap.size wr) := ⟨⟨wr, Below.refl _ _⟩⟩
      by_cases hs : l.getD k ByteArray.empty = m.getD k ByteArray.empty
      · have HZn : Hid (∀ j, j < k + 1 → l.getD j ByteArray.empty = m.getD j ByteArray.empty) := fun j hj => by
          by_cases e : j = k
          · rw [e]; exact hs
          · exact HZ.out j (by omega)
        have hk1 := HF.out (k + 1) (by omega) HZn.out
        rw [← hs] at d0
        generalize l.getD k ByteArray.empty = t at *
        have x0 : ∀ X : Since wr.heap.size wr, X.val.cell? ⟨bk, o + k, none⟩ = some (.string t) := fun X => (X.property.cell (p := ⟨bk, o + k, none⟩) hbk).trans c0
        have y0 : ∀ X : Since wr.heap.size wr, X.val.cell? ⟨bk', o' + k, none⟩ = some (.string t) := fun X => (X.property.cell (p := ⟨bk', o' + k, none⟩) hbk').trans d0
        clear c0 d0 hs HZ
        go_wp2_with fail
        refine wp_region_since (B := wr.heap.size) (W0 := wr) (by kernel_rfl) (by kernel_rfl) (Below.refl _ _) ?_
        repeat (go_big_quiet_step (fail))
        refine wpQuiet_nil ?_
        rintro w7 ⟨U, rfl⟩
        have HB3 : Hid (Below w.heap.size w U.val) := HB.out.trans (U.property.mono HB.out.size)
        generalize U.val = w7 at *
        clear HB x0 y0 hne
        go_wp2_with fail
        go_roundw
        case rel => exact ⟨k + 1, hk1, by go_num, HZn, HB3⟩
        case measure => simp only [intOf]; omega
      · have hsb := text_ne hs
        generalize l.getD k ByteArray.empty = t at *
        generalize m.getD k ByteArray.empty = t2 at *
        have x0 : ∀ X : Since wr.heap.size wr, X.val.cell? ⟨bk, o + k, none⟩ = some (.string t) := fun X => (X.property.cell (p := ⟨bk, o + k, none⟩) hbk).trans c0
        have y0 : ∀ X : Since wr.heap.size wr, X.val.cell? ⟨bk', o' + k, none⟩ = some (.string t2) := fun X => (X.property.cell (p := ⟨bk', o' + k, none⟩) hbk').trans d0
        clear c0 d0 HZ
        go_wp2_with fail
        refine wp_region_since (B := wr.heap.size) (W0 := wr) (by kernel_rfl) (by kernel_rfl) (Below.refl _ _) ?_
        repeat (go_big_quiet_step (fail))
        refine wpQuiet_nil ?_
        rintro w7 ⟨U, rfl⟩
        have HB3 : Hid (Below w.heap.size w U.val) := HB.out.trans (U.property.mono HB.out.size)
        generalize U.val = w7 at *
        clear HB x0 y0 hne
        go_wp2_with fail
        go_ret
        exact ⟨rfl, HB3.out⟩
  · have hq : ((l.length : Int) != (m.length : Int)) = true := by rw [bne_iff_ne]; omega
    clear h1 h2 hne hlen
    generalize l.length = n1 at *
    generalize m.length = n2 at *
    go_enter Tryd.func17, Tryd.ntmps17
    go_wp2_with fail
    go_ret
    exact ⟨rfl, Below.refl _ _⟩

end Go.Proofs.YtjjpabcoifcbdaaDoor
