/-
  slices.Equal and slices.Clone over texts.
-/
import Derived.Test.YtoeohnknpbdgdaaDoorShGuard
namespace Go.Proofs.YtoeohnknpbdgdaaDoor
open Go.RowKit
set_option maxRecDepth 4000

set_option maxHeartbeats 1000000 in
theorem equal_txs (v1 v2 : Value) (l : List ByteArray) (w : World) (h1 : Tx w v1 l) (h2 : Tx w v2 l) (hl : l.length ≤ 140737488351232) :
    Calls Tryd.prog 7 #[v1, v2] w fun e w' => e = .returned (.bool true) ∧ Below w.heap.size w w' := by
  obtain ⟨a1, c1, rfl⟩ := h1.slice
  obtain ⟨a2, c2, rfl⟩ := h2.slice
  go_enter Tryd.func7, Tryd.ntmps7
  go_wp2_with fail
  go_loopw [13] (fun i wr => ∃ k : Nat, k ≤ l.length ∧ i = .int .i64 k ∧ Below w.heap.size w wr) (fun i _ => l.length - (intOf i).toNat)
  case atStart => exact ⟨0, by omega, rfl, Below.refl _ _⟩
  case round =>
    obtain ⟨k, hk, rfl, hbel⟩ := hrel
    by_cases hlt : k < l.length
    · obtain ⟨bk, o, rfl, hbk, c0⟩ := (h1.below hbel).get k hlt
      obtain ⟨bk', o', rfl, hbk', d0⟩ := (h2.below hbel).get k hlt
      generalize l.getD k ByteArray.empty = t at *
      clear h1 h2
      have x0 : ∀ X : Since wr.heap.size wr, X.val.cell? ⟨bk, o + k, none⟩ = some (.string t) := fun X => (X.property.cell (p := ⟨bk, o + k, none⟩) hbk).trans c0
      have y0 : ∀ X : Since wr.heap.size wr, X.val.cell? ⟨bk', o' + k, none⟩ = some (.string t) := fun X => (X.property.cell (p := ⟨bk', o' + k, none⟩) hbk').trans d0
      clear c0 d0
      have hne : Nonempty (Since wr.heap.size wr) := ⟨⟨wr, Below.refl _ _⟩⟩
      go_wp2_with fail
      refine wp_region_since (B := wr.heap.size) (W0 := wr) (by kernel_rfl) (by kernel_rfl) (Below.refl _ _) ?_
      repeat (go_big_quiet_step (fail))
      refine wpQuiet_nil ?_
      rintro w7 ⟨U, rfl⟩
      have hU := U.property
      have HB3 : Hid (Below w.heap.size w U.val) := hbel.trans (hU.mono hbel.size)
      generalize U.val = w7 at *
      clear hU hbel x0 y0 hne
      go_wp2_with fail
      go_roundw
      case rel => exact ⟨k + 1, by omega, by go_num, HB3.out⟩
      case measure => simp only [intOf]; omega
    · go_wp2_with fail
      go_ret
      exact ⟨rfl, hbel⟩

set_option maxHeartbeats 1000000 in
theorem equal_not (v1 v2 : Value) (l m : List ByteArray) (w : World) (h1 : Tx w v1 l) (h2 : Tx w v2 m) (hl : l.length ≤ 140737488351232) (hne : l ≠ m) :
    Calls Tryd.prog 7 #[v1, v2] w fun e w' => e = .returned (.bool false) ∧ Below w.heap.size w w' := by
  obtain ⟨a1, c1, rfl⟩ := h1.slice
  obtain ⟨a2, c2, rfl⟩ := h2.slice
  by_cases hlen : l.length = m.length
  · have HF : Hid (∀ k, k ≤ l.length → (∀ j, j < k → l.getD j ByteArray.empty = m.getD j ByteArray.empty) → k < l.length) := fun k hk h => by
      rcases Nat.lt_or_ge k l.length with h' | h'
      · exact h'
      · refine absurd (List.ext_getElem hlen fun i h3 h4 => ?_) hne
        have := h i (by omega)
        rwa [List.getD_eq_getElem?_getD, List.getD_eq_getElem?_getD, List.getElem?_eq_getElem h3, List.getElem?_eq_getElem h4] at this
    have H1 : Hid (Tx w (.slice a1 l.length c1) l) := h1
    have H2 : Hid (Tx w (.slice a2 m.length c2) m) := h2
    rw [← hlen] at H2 ⊢
    have HL : Hid (m.length = l.length) := hlen.symm
    have hq : ((l.length : Int) != (l.length : Int)) = false := bne_self_eq_false ..
    clear h1 h2 hne hlen
    go_enter Tryd.func7, Tryd.ntmps7
    go_wp2_with fail
    go_loopw [13] (fun i wr => ∃ k : Nat, k < l.length ∧ i = .int .i64 k ∧ Hid (∀ j, j < k → l.getD j ByteArray.empty = m.getD j ByteArray.empty) ∧ Hid (Below w.heap.size w wr)) (fun i _ => l.length - (intOf i).toNat)
    case atStart => exact ⟨0, HF.out 0 (by omega) (fun j hj => by omega), rfl, fun j hj => by omega, Below.refl _ _⟩
    case round =>
      obtain ⟨k, hlt, rfl, HZ, HB⟩ := hrel
      obtain ⟨bk, o, rfl, hbk, c0⟩ := (H1.out.below HB.out).get k hlt
      obtain ⟨bk', o', rfl, hbk', d0⟩ := (H2.out.below HB.out).get k (by rw [HL.out]; exact hlt)
      have hne : Nonempty (Since wr.heap.size wr) := ⟨⟨wr, Below.refl _ _⟩⟩
      by_cases hs : l.getD k ByteArray.empty = m.getD k ByteArray.empty
      · have HZn : Hid (∀ j, j < k + 1 → l.getD j ByteArray.empty = m.getD j ByteArray.empty) := fun j hj => by
          by_cases e : j = k
          · rw [e]; exact hs
          · exact HZ.out j (by omega)
        have hk1 := HF.out (k + 1) (by omega) HZn.out
        rw [← hs] at d0
        generalize l.getD k ByteArray.empty = t at *
        have x0 : ∀ X : Since wr.heap.size wr, X.val.cell? ⟨bk, o + k, none⟩ = some (.string t) := fun X => (X.property.cell (p := ⟨bk, o + k, none⟩) hbk).trans c0
        have y0 : ∀ X : Since wr.heap.size wr, X.val.cell? ⟨bk', o' + k, none⟩ = some (.string t) := fun X => (X.property.cell (p := ⟨bk', o' + k, none⟩) hbk').trans d0
        clear c0 d0 hs HZ
        go_wp2_with fail
        refine wp_region_since (B := wr.heap.size) (W0 := wr) (by kernel_rfl) (by kernel_rfl) (Below.refl _ _) ?_
        repeat (go_big_quiet_step (fail))
        refine wpQuiet_nil ?_
        rintro w7 ⟨U, rfl⟩
        have HB3 : Hid (Below w.heap.size w U.val) := HB.out.trans (U.property.mono HB.out.size)
        generalize U.val = w7 at *
        clear HB x0 y0 hne
        go_wp2_with fail
        go_roundw
        case rel => exact ⟨k + 1, hk1, by go_num, HZn, HB3⟩
        case measure => simp only [intOf]; omega
      · have hsb := text_ne hs
        generalize l.getD k ByteArray.empty = t at *
        generalize m.getD k ByteArray.empty = t2 at *
        have x0 : ∀ X : Since wr.heap.size wr, X.val.cell? ⟨bk, o + k, none⟩ = some (.string t) := fun X => (X.property.cell (p := ⟨bk, o + k, none⟩) hbk).trans c0
        have y0 : ∀ X : Since wr.heap.size wr, X.val.cell? ⟨bk', o' + k, none⟩ = some (.string t2) := fun X => (X.property.cell (p := ⟨bk', o' + k, none⟩) hbk').trans d0
        clear c0 d0 HZ
        go_wp2_with fail
        refine wp_region_since (B := wr.heap.size) (W0 := wr) (by kernel_rfl) (by kernel_rfl) (Below.refl _ _) ?_
        repeat (go_big_quiet_step (fail))
        refine wpQuiet_nil ?_
        rintro w7 ⟨U, rfl⟩
        have HB3 : Hid (Below w.heap.size w U.val) := HB.out.trans (U.property.mono HB.out.size)
        generalize U.val = w7 at *
        clear HB x0 y0 hne
        go_wp2_with fail
        go_ret
        exact ⟨rfl, HB3.out⟩
  · have hq : ((l.length : Int) != (m.length : Int)) = true := by rw [bne_iff_ne]; omega
    clear h1 h2 hne hlen
    generalize l.length = n1 at *
    generalize m.length = n2 at *
    go_enter Tryd.func7, Tryd.ntmps7
    go_wp2_with fail
    go_ret
    exact ⟨rfl, Below.refl _ _⟩

theorem tv_one (l : List ByteArray) : ∀ u ∈ l.map Tv, u.oneCell' = true := by
  intro u hu
  obtain ⟨x, _, rfl⟩ := List.mem_map.1 hu
  rfl
theorem add_at (g o j : Nat) : (⟨g, o, none⟩ : Addr).add j = ⟨g, o + j, none⟩ := by unfold Addr.add; split <;> simp_all
theorem Tx.src {w : World} {a : Option Addr} {n c : Nat} {l : List ByteArray} (h : Tx w (.slice a n c) l) : (a = none → l.length = 0) ∧ ∀ ad, a = some ad → ∀ j u, (l.map Tv)[j]? = some u → w.cell? (ad.add j) = some u := by
  rcases h.at_ with ⟨_, rfl⟩ | ⟨bk, o, cap, h1, h3, h4⟩
  · exact ⟨fun _ => rfl, fun ad _ j u hj => by simp at hj⟩
  · simp at h1
    obtain ⟨rfl, rfl, rfl⟩ := h1
    refine ⟨fun e => by simp at e, fun ad e j u hj => ?_⟩
    obtain rfl := Option.some.inj e
    have hjl : j < l.length := by
      have := (List.getElem?_eq_some_iff.1 hj).1
      simpa using this
    rw [add_at, h4 j hjl, ← hj, List.getElem?_map, List.getD_eq_getElem?_getD, List.getElem?_eq_getElem hjl]
    rfl

set_option maxHeartbeats 1000000 in
theorem clone_txs (v : Value) (l : List ByteArray) (w : World) (h : Tx w v l) (h1 : 1 ≤ l.length) (hl : l.length ≤ 5000) :
    Calls Tryd.prog 11 #[v] w fun e w' => ∃ v', e = .returned v' ∧ w'.ownsRow w.heap.size 9 1 v' l.length (l.map Tv) ∧ Below w.heap.size w w' := by
  obtain ⟨i0, hi, hz0, hz1, hz2⟩ := info_parts info_str
  obtain ⟨a, c, rfl⟩ := h.slice
  obtain ⟨bk, o, rfl, hbk, hju⟩ := h.get 0 (by omega)
  have hcell2 : ∀ j u, (l.map Tv)[j]? = some u → (w.alloc (.cells #[] 9)).cell? ((⟨bk, o, none⟩ : Addr).add j) = some u := (h.below ((Below.refl w.heap.size w).alloc (Nat.le_refl _) _)).src.2 _ rfl
  have hown0 : (w.alloc (.cells #[] 9)).ownsRow w.heap.size 9 1 (.slice (some ⟨w.heap.size, 0, none⟩) 0 0) 0 [] := World.ownsRow_lit w #[] 0 (Nat.le_refl _) (by unfold maxLen; omega) rfl
  clear h hju
  have qn : ∀ (w : World) (a : Option Addr) (n c n' c' : Nat), (binOp .eql 22 (.slice a n c) (.slice none n' c')).run Tryd.prog w = .ok (.bool a.isNone) w := fun w a n c n' c' => Lib.run_eql_slice_nil w _ _ a n c n' c' Tryd.underlying22
  go_enter Tryd.func11, Tryd.ntmps11
  go_wp2_with (at_builtin; refine wpList_append_own _ rfl (.tmp 5) (.tmp 6) 22 rfl w.heap.size 9 i0 (.string ⟨#[]⟩) 1 16 Tryd.underlying22 hi hz0 hz1 hz2 rfl (by decide) _ _ _ rfl hown0 ⟨bk, o, none⟩ l.length _ (l.map Tv) rfl (by simp) hcell2 (tv_one l) (by unfold maxLen; omega) (by omega) (by simp) ?_; intro v1 w3 o3 g3 _)
  simp only [Nat.zero_add, List.nil_append] at o3
  have HO : Hid (w3.ownsRow w.heap.size 9 1 v1 l.length (l.map Tv)) := o3
  have HB : Hid (Below w.heap.size w w3) := ((Below.refl _ w).alloc (Nat.le_refl _) _).grown g3 (by simp) (fun k hk => by cases hk; exact Nat.le_refl _)
  clear o3 g3
  go_ret
  exact ⟨_, rfl, HO.out, HB.out⟩

theorem clone_nil (w : World) :
    Calls Tryd.prog 11 #[.slice none 0 0] w fun e w' => e = .returned (.slice none 0 0) ∧ w' = w := by
  have qn : ∀ (w : World) (a : Option Addr) (n c n' c' : Nat), (binOp .eql 22 (.slice a n c) (.slice none n' c')).run Tryd.prog w = .ok (.bool a.isNone) w := fun w a n c n' c' => Lib.run_eql_slice_nil w _ _ a n c n' c' Tryd.underlying22
  go_enter Tryd.func11, Tryd.ntmps11
  go_wp2_with fail
  go_ret
  exact ⟨rfl, rfl⟩
end Go.Proofs.YtoeohnknpbdgdaaDoor
