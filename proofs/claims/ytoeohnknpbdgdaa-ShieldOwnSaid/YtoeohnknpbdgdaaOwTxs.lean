/-
  What ample, stays and spoil of package lumkeep do to texts.
-/
import Derived.Test.YtoeohnknpbdgdaaOwGen
namespace Go.Proofs.Ytoeohnknpbdgdaa
open Go.RowKit
set_option maxRecDepth 4000

set_option maxHeartbeats 1000000 in
theorem ample_txs (v : Value) (l : List ByteArray) (f : ByteArray) (w : World) (h : Tx w v l) (hl : l.length * 16 ≤ 140737488351232) :
    Calls Try.prog 17 #[v, .string f] w fun e w' => ∃ g, e = .returned (.slice (some ⟨g, 0, none⟩) l.length (l.length + 3)) ∧ w'.ownsRow w.heap.size 9 1 (.slice (some ⟨g, 0, none⟩) (l.length + 2) (l.length + 3)) (l.length + 2) ((l ++ [f, f]).map Tv) ∧ Below w.heap.size w w' := by
  obtain ⟨i0, hi, hz0, hz1, hz2⟩ := info_parts info_str
  obtain ⟨a, c, rfl⟩ := h.slice
  go_enter Try.func17, Try.ntmps17
  have HS : Hid (∀ w1, w.grownBy w1 none → Below w.heap.size w w1 ∧ ((a = none → l.length = 0) ∧ ∀ ad, a = some ad → ∀ j u, (l.map Tv)[j]? = some u → w1.cell? (ad.add j) = some u)) := fun w1 g1 => by
    have hB1 : Below w.heap.size w w1 := (Below.refl _ _).grown g1 (Nat.le_refl _) (fun k hk => by cases hk)
    exact ⟨hB1, (h.below hB1).src⟩
  clear h
  go_wp2_with (first
    | (at_make; refine wpList_make_own _ rfl (.const (.int .i64 0)) (.tmp 8) 22 rfl w.heap.size 9 i0 (.string ⟨#[]⟩) 1 Try.underlying22 hi hz0 hz1 .i64 .i64 _ (l.length + 3) rfl rfl (by omega) (by rw [hz2]; omega) (by unfold maxLen; omega) (Nat.le_refl _) ?_; intro w1 o1 g1; obtain ⟨hB1, s1, s2⟩ := HS.out w1 g1; clear g1)
    | (at_builtin; refine wpList_fits_all _ rfl (.tmp 9) (.tmp 10) 22 rfl w.heap.size 9 i0 1 Try.underlying22 hi hz1 _ _ _ _ rfl o1 _ _ _ (l.map Tv) rfl (by simp) s1 s2 (tv_one l) (by omega) ?_; intro w2 o2 g2; simp only [Nat.zero_add, List.nil_append] at o2)
    | (at_builtin; refine wpList_append_fits _ rfl (.tmp 11) (.tmp 14) 22 rfl w.heap.size 9 i0 1 Try.underlying22 hi hz1 _ _ _ _ rfl (o2.alloc _) ⟨w2.heap.size, 0, none⟩ 2 2 [.string f, .string f] rfl rfl (pair_at (by simp) (by simp)) (by simp [Value.oneCell']) (by omega) ?_; intro w3 o3 g3))
  have hB2 : Below w.heap.size w w2 := hB1.grown g2 hB1.size (fun k hk => by cases hk; exact Nat.le_refl _)
  have hs2 := hB2.size
  have HO : Hid (w3.ownsRow w.heap.size 9 1 (.slice (some ⟨w.heap.size, 0, none⟩) (l.length + 2) (l.length + 3)) (l.length + 2) ((l ++ [f, f]).map Tv)) := by rw [List.map_append]; exact o3
  have HB : Hid (Below w.heap.size w w3) := (hB2.alloc hs2 _).grown g3 (by simp; omega) (fun k hk => by cases hk; exact Nat.le_refl _)
  clear o3 g3 o2 hB2
  go_ret
  exact ⟨_, rfl, HO.out, HB.out⟩

set_option maxHeartbeats 1000000 in
theorem stays_txs (g : Nat) (u : Value) (l : List ByteArray) (f : ByteArray) (w : World) (base : Nat) (h : w.ownsRow base 9 1 (.slice (some ⟨g, 0, none⟩) (l.length + 2) (l.length + 3)) (l.length + 2) ((l ++ [f, f]).map Tv)) (k : Tx w u l) (hl : l.length * 16 ≤ 140737488351232) :
    Calls Try.prog 19 #[.slice (some ⟨g, 0, none⟩) l.length (l.length + 3), u, .string f] w fun e w' => e = .returned (.bool true) ∧ Below w.heap.size w w' := by
  have hlt : g < w.heap.size := (h.lt g rfl).2
  have hat : ∀ j, j < l.length + 2 → w.cell? ⟨g, j, none⟩ = some (.string ((l ++ [f, f]).getD j ByteArray.empty)) := fun j hj => by
    rw [h.cellAt j (by omega), List.getElem?_map, List.getD_eq_getElem?_getD, List.getElem?_eq_getElem (by simp; omega)]
    rfl
  have c1 := hat l.length (by omega)
  have c2 := hat (l.length + 1) (by omega)
  have e1 : (l ++ [f, f]).getD l.length ByteArray.empty = f := by simp [List.getD_eq_getElem?_getD]
  have e2 : (l ++ [f, f]).getD (l.length + 1) ByteArray.empty = f := by simp [List.getD_eq_getElem?_getD]
  rw [e1] at c1
  rw [e2] at c2
  have hI : Tx w (.slice (some ⟨g, 0, none⟩) l.length (l.length + 3)) l := ⟨.inr ⟨g, 0, l.length + 3, rfl, hlt, fun j hj => by
    rw [Nat.zero_add, hat j (by omega), List.getD_eq_getElem?_getD, List.getElem?_append_left hj, ← List.getD_eq_getElem?_getD]⟩⟩
  have heq := equal_txs _ _ l w hI k (by omega)
  clear h k hI e1 e2 hat
  go_enter Try.func19, Try.ntmps19
  go_wp2_with fail
  refine heq.mono ?_
  rintro e w1 ⟨rfl, hb⟩
  have d1 := (hb.cell (p := ⟨g, l.length, none⟩) hlt).trans c1
  have d2 := (hb.cell (p := ⟨g, l.length + 1, none⟩) hlt).trans c2
  clear heq c1 c2
  go_wp2_with fail
  go_ret
  exact ⟨rfl, hb⟩

set_option maxHeartbeats 1000000 in
theorem spoil_txs (g n c : Nat) (f : ByteArray) (w : World) (h : Room w g c 9) (hc : c ≤ 9223372036854775807) :
    Calls Try.prog 22 #[.slice (some ⟨g, 0, none⟩) n c, .string f] w fun e w' => e = .returned (.tuple #[]) ∧ Kept (fun q => q ≠ g) w w' := by
  go_enter Try.func22, Try.ntmps22
  go_wp2_with fail
  go_loopw [11] (fun i wr => ∃ k : Nat, k ≤ c ∧ i = .int .i64 k ∧ Hid (Room wr g c 9) ∧ Hid (Kept (fun q => q ≠ g) w wr)) (fun i _ => c - (intOf i).toNat)
  case atStart => exact ⟨0, by omega, rfl, h, Kept.refl _ _⟩
  case round =>
    obtain ⟨k, hk, rfl, hr, hkp⟩ := hrel
    by_cases hlt : k < c
    · obtain ⟨⟨x, x1⟩, x2⟩ := hr.out.cell k hlt
      have HR : Hid (Room (wr.setCell ⟨g, k, none⟩ (.string f)) g c 9) := hr.out.set k _
      have HK : Hid (Kept (fun q => q ≠ g) w (wr.setCell ⟨g, k, none⟩ (.string f))) := hkp.out.setCell (by simp) _
      clear hr hkp
      go_wp2_with fail
      go_roundw
      case rel => exact ⟨k + 1, by omega, by go_num, HR, HK⟩
      case measure => simp only [intOf]; omega
    · go_wp2_with fail
      go_end0
      exact ⟨rfl, hkp.out⟩
end Go.Proofs.Ytoeohnknpbdgdaa
