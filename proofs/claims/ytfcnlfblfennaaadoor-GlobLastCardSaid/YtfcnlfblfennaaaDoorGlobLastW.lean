/-
  The walk of lumkeep.GlobLast: it returns true.
-/
import Derived.Test.YtfcnlfblfennaaaDoorGlAll
import Derived.Test.YtfcnlfblfennaaaDoorTxClone
namespace Go.Proofs.YtfcnlfblfennaaaDoor
open Go.RowKit
set_option maxRecDepth 4000

theorem dl_more (l : List ByteArray) (s : ByteArray) : dl (l ++ [s]) = dl l ++ [s.data.toList] := by simp [dl]

set_option maxRecDepth 8000 in
set_option maxHeartbeats 4000000 in
theorem globLast_walk (v0 : Value) (l0 : List ByteArray) (a1 : ByteArray) (z0 : l0.length * 16 ≤ 140737488351232) (_ : Few l0) (_ : Cp v0) (z1 : a1.size ≤ 140737488351232) (w : World) (t0 : Tx w v0 l0) (hT : Tabs w) :
    Calls Tryd.prog 8 #[v0, .string a1] w fun e w' => e = .returned (.bool true) ∧ Below w.heap.size w w' := by
  have HX : Hid (Tx w v0 l0) := t0
  have HT : Hid (Tabs w) := hT
  obtain ⟨W0, hW0⟩ : ∃ W0, W0 = w.alloc (.cells #[.string ⟨#[47, 42]⟩, .string ⟨#[33, 47, 98]⟩] 9) := ⟨_, rfl⟩
  have HB0 : Hid (Below w.heap.size w W0) := by rw [hW0]; exact (Below.refl _ w).alloc (Nat.le_refl _) _
  have h1 := skips_of (.slice (some ⟨w.heap.size, 0, none⟩) 2 2) [⟨#[47, 42]⟩, ⟨#[33, 47, 98]⟩] ⟨#[47, 98]⟩ W0 (by rw [hW0]; exact tx_lit2 w _ _) (by simp) (by simp [ByteArray.size]) (HT.out.below HB0.out) false 0 (by decide +kernel)
  obtain ⟨E, hE⟩ : ∃ E, Gb.skips (dl l0 ++ [[33, 47, 42, 42]]) a1.data.toList = (false, E) := ⟨_, Prod.ext (Gb.last_none _ _) rfl⟩
  obtain ⟨A, hA⟩ : ∃ A, Gb.skips (dl l0 ++ [[47, 42, 42]]) a1.data.toList = (A, E) := ⟨_, Prod.ext rfl (by rw [← Gb.last_err, hE])⟩
  have HE : Hid (Gb.skips (dl l0 ++ [[33, 47, 42, 42]]) a1.data.toList = (false, E)) := hE
  have HA : Hid (Gb.skips (dl l0 ++ [[47, 42, 42]]) a1.data.toList = (A, E)) := hA
  have HBad : Hid (E ≠ 0 → A = false) := fun h => by
    have := Gb.skips_bad (R := dl l0 ++ [[47, 42, 42]]) (p := a1.data.toList) (by rw [HA.out]; exact h)
    rwa [HA.out] at this
  have HGood : Hid (E = 0 → A = decide (a1.data.toList ≠ [47])) := fun h => by
    have := Gb.last_all (dl l0) a1.data.toList (by rw [HA.out]; exact h)
    rwa [HA.out] at this
  obtain ⟨i0, hi, hz0, hz1, hz2⟩ := info_tis info_txt
  clear t0 hT hE hA
  go_enter Tryd.func8, Tryd.ntmps8
  go_wp2_with fail
  rw [← hW0]
  clear hW0
  refine h1.mono ?_
  rintro e w1 ⟨rfl, b1⟩
  have HB1 : Hid (Below w.heap.size w w1) := HB0.out.trans (b1.mono HB0.out.size)
  clear b1 h1
  obtain ⟨W1, hW1⟩ : ∃ W1, W1 = w1.alloc (.cells #[.string ⟨#[47, 42]⟩, .string ⟨#[33, 47, 98]⟩] 9) := ⟨_, rfl⟩
  have HBa : Hid (Below w.heap.size w W1) := by rw [hW1]; exact HB1.out.alloc HB1.out.size _
  have h2 := skips_of (.slice (some ⟨w1.heap.size, 0, none⟩) 2 2) [⟨#[47, 42]⟩, ⟨#[33, 47, 98]⟩] ⟨#[47, 99]⟩ W1 (by rw [hW1]; exact tx_lit2 w1 _ _) (by simp) (by simp [ByteArray.size]) (HT.out.below HBa.out) true 0 (by decide +kernel)
  go_wp2_with fail
  rw [← hW1]
  clear hW1
  refine h2.mono ?_
  rintro e w2 ⟨rfl, b2⟩
  have HB2 : Hid (Below w.heap.size w w2) := HBa.out.trans (b2.mono HBa.out.size)
  clear b2 h2
  have h3 := cloneT_any v0 l0 w2 (HX.out.below HB2.out) (by omega)
  go_wp2_with fail
  refine h3.mono ?_
  rintro e w3 ⟨v3, rfl, o3, b3⟩
  have HB3 : Hid (Below w2.heap.size w2 w3) := b3
  have hs3 := b3.size
  clear b3 h3
  go_wp2_with (at_builtin; refine wpList_append_own _ rfl (.tmp 36) (.tmp 37) 30 rfl w2.heap.size 9 i0 (.string ⟨#[]⟩) 1 16 Tryd.underlying30 hi hz0 hz1 hz2 rfl (by decide) _ _ _ rfl (o3.alloc _) ⟨w3.heap.size, 0, none⟩ 1 1 [.string ⟨#[33, 47, 42, 42]⟩] rfl rfl ?c1 ?c2 ?c3 ?c4 ?c5 ?_)
  case c1 =>
    intro j u hj
    match j, hj with
    | 0, hj => simp at hj; subst hj; simp [Addr.add]
  case c2 => intro u hu; simp at hu; subst hu; rfl
  case c3 => unfold maxLen; omega
  case c4 => omega
  case c5 => simp; omega
  intro v4 w4 o4 g4 _
  have hT4 : Tx w4 v4 (l0 ++ [⟨#[33, 47, 42, 42]⟩]) := Tx.of_own (base := w2.heap.size) (by rw [List.length_append, List.map_append]; exact o4)
  have HB4 : Hid (Below w.heap.size w w4) := HB2.out.trans (((HB3.out.alloc hs3 _).grown g4 (by simp; omega) fun k hk => (own_block o3 hk).choose_spec.2.1).mono HB2.out.size)
  have h5 := skips_of v4 (l0 ++ [⟨#[33, 47, 42, 42]⟩]) a1 w4 hT4 (by rw [List.length_append, List.length_singleton]; omega) (by omega) (HT.out.below HB4.out) false E (by rw [dl_more]; exact HE.out)
  clear hT4 o4 g4 HB3 o3
  go_wp2_with fail
  refine h5.mono ?_
  rintro e w5 ⟨rfl, b5⟩
  have HB5 : Hid (Below w.heap.size w w5) := HB4.out.trans (b5.mono HB4.out.size)
  clear b5 h5 hs3
  have h6 := cloneT_any v0 l0 w5 (HX.out.below HB5.out) (by omega)
  go_wp2_with fail
  refine h6.mono ?_
  rintro e w6 ⟨v6, rfl, o6, b6⟩
  have HB6 : Hid (Below w5.heap.size w5 w6) := b6
  have hs6 := b6.size
  clear b6 h6
  go_wp2_with (at_builtin; refine wpList_append_own _ rfl (.tmp 45) (.tmp 46) 30 rfl w5.heap.size 9 i0 (.string ⟨#[]⟩) 1 16 Tryd.underlying30 hi hz0 hz1 hz2 rfl (by decide) _ _ _ rfl (o6.alloc _) ⟨w6.heap.size, 0, none⟩ 1 1 [.string ⟨#[47, 42, 42]⟩] rfl rfl ?d1 ?d2 ?d3 ?d4 ?d5 ?_)
  case d1 =>
    intro j u hj
    match j, hj with
    | 0, hj => simp at hj; subst hj; simp [Addr.add]
  case d2 => intro u hu; simp at hu; subst hu; rfl
  case d3 => unfold maxLen; omega
  case d4 => omega
  case d5 => simp; omega
  intro v7 w7 o7 g7 _
  have hT7 : Tx w7 v7 (l0 ++ [⟨#[47, 42, 42]⟩]) := Tx.of_own (base := w5.heap.size) (by rw [List.length_append, List.map_append]; exact o7)
  have HB7 : Hid (Below w.heap.size w w7) := HB5.out.trans (((HB6.out.alloc hs6 _).grown g7 (by simp; omega) fun k hk => (own_block o6 hk).choose_spec.2.1).mono HB5.out.size)
  have h8 := skips_of v7 (l0 ++ [⟨#[47, 42, 42]⟩]) a1 w7 hT7 (by rw [List.length_append, List.length_singleton]; omega) (by omega) (HT.out.below HB7.out) A E (by rw [dl_more]; exact HA.out)
  clear hT7 o7 g7 HB6 o6
  go_wp2_with fail
  refine h8.mono ?_
  rintro e w8 ⟨rfl, b8⟩
  have HB8 : Hid (Below w.heap.size w w8) := HB7.out.trans (b8.mono HB7.out.size)
  clear b8 h8 hs6
  by_cases hE0 : E = 0
  · have hg := HGood.out hE0
    subst hE0
    by_cases hp : a1.data.toList = [47]
    · rw [decide_eq_false (by simp [hp])] at hg
      subst hg
      obtain rfl := of_data hp
      clear HGood hp
      go_wp2_with fail
      go_ret
      exact ⟨rfl, HB8.out⟩
    · rw [decide_eq_true hp] at hg
      subst hg
      have e1 : (a1.toList == [47]) = false := data_ne hp
      have e2 : (a1.toList != [47]) = true := by rw [bne, e1]; rfl
      clear HGood hp
      go_wp2_with fail
      go_ret
      exact ⟨rfl, HB8.out⟩
  · have hb : A = false := HBad.out hE0
    subst hb
    have hqn : (E != 0) = true := by rw [bne_iff_ne]; exact hE0
    clear HGood hE0 HBad
    go_wp2_with fail
    go_ret
    exact ⟨rfl, HB8.out⟩
end Go.Proofs.YtfcnlfblfennaaaDoor
