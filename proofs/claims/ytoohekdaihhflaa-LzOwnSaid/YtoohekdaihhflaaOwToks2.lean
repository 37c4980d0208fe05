/-
  What stays and spoil of package lumkeep do to tokens; slices.Clone.
-/
import Derived.Test.YtoohekdaihhflaaOwToks
import Derived.Lib.SliceRun
import Derived.Test.YtoohekdaihhflaaQuietSince
import Derived.BigQuiet
namespace Go.Proofs.Ytoohekdaihhflaa
open Go.RowKit

theorem amp_toks {base g : Nat} {w : World} {l : List Lz.Tr} {f : Lz.Tr} (h : w.ownsRow base 36 3 (.slice (some ⟨g, 0, none⟩) (l.length + 2) (l.length + 3)) (l.length + 2) (rowC (l ++ [f, f]))) : Toks w (.slice (some ⟨g, 0, none⟩) l.length (l.length + 3)) l := by
  have hlt : g < w.heap.size := (h.lt g rfl).2
  refine ⟨.inr ⟨g, 0, l.length + 3, rfl, hlt, fun j hj => ?_⟩⟩
  have e := fun r (hr : r < 3) => (h.cellAt (3 * j + r) (by omega)).trans (rowC_get (l ++ [f, f]) j r (by simp; omega) hr)
  have ej : (l ++ [f, f])[j]'(by simp; omega) = l[j] := List.getElem_append_left hj
  simp only [ej] at e
  have e0 := e 0 (by omega)
  have e1 := e 1 (by omega)
  have e2 := e 2 (by omega)
  rw [show 3 * j = j * 3 from by omega] at e0 e1 e2
  simp only [Nat.zero_add]
  exact ⟨e0, e1, e2⟩
theorem amp_fill {base g : Nat} {w : World} {l : List Lz.Tr} {f : Lz.Tr} (h : w.ownsRow base 36 3 (.slice (some ⟨g, 0, none⟩) (l.length + 2) (l.length + 3)) (l.length + 2) (rowC (l ++ [f, f]))) (i : Nat) (hi : i = l.length ∨ i = l.length + 1) :
    w.cell? ⟨g, i * 3, none⟩ = some (.int .u8 f.lit.toNat) ∧ w.cell? ⟨g, i * 3 + 1, none⟩ = some (.int .i64 f.len) ∧ w.cell? ⟨g, i * 3 + 2, none⟩ = some (.int .i64 f.dist) := by
  have e := fun r (hr : r < 3) => (h.cellAt (3 * i + r) (by omega)).trans (rowC_get (l ++ [f, f]) i r (by simp; omega) hr)
  have ej : (l ++ [f, f])[i]'(by simp; omega) = f := by rcases hi with rfl | rfl <;> simp
  simp only [ej] at e
  have e0 := e 0 (by omega)
  have e1 := e 1 (by omega)
  have e2 := e 2 (by omega)
  rw [show 3 * i = i * 3 from by omega] at e0 e1 e2
  exact ⟨e0, e1, e2⟩

set_option maxHeartbeats 2000000 in
theorem stays_toks (g : Nat) (u : Value) (l : List Lz.Tr) (f : Lz.Tr) (w : World) (base : Nat) (h : w.ownsRow base 36 3 (.slice (some ⟨g, 0, none⟩) (l.length + 2) (l.length + 3)) (l.length + 2) (rowC (l ++ [f, f]))) (k : Toks w u l) (hl : l.length * 24 ≤ 140737488351232) :
    Calls Try.prog 23 #[.slice (some ⟨g, 0, none⟩) l.length (l.length + 3), u, tokV f] w fun e w' => e = .returned (.bool true) ∧ Below w.heap.size w w' := by
  have hlt : g < w.heap.size := (h.lt g rfl).2
  obtain ⟨c0, c1, c2⟩ := amp_fill h l.length (.inl rfl)
  obtain ⟨d0, d1, d2⟩ := amp_fill h (l.length + 1) (.inr rfl)
  obtain ⟨W1, hW1⟩ : ∃ W1, W1 = w.alloc (.cells #[.int .u8 f.lit.toNat, .int .i64 f.len, .int .i64 f.dist] 36) := ⟨_, rfl⟩
  have hb1 : Below w.heap.size w W1 := by rw [hW1]; exact (Below.refl _ w).alloc (Nat.le_refl _) _
  have hz1 : w.heap.size < W1.heap.size := by rw [hW1]; simp
  have heq : ∀ X : Since W1.heap.size W1, Calls Try.prog 29 #[.slice (some ⟨g, 0, none⟩) l.length (l.length + 3), u] X.val fun e w' => e = .returned (.bool true) ∧ Below X.val.heap.size X.val w' := fun X =>
    equal_toks _ _ l X.val ((amp_toks h).below (Nat.le_refl _) (hb1.trans (X.property.mono (by omega)))) (k.below (Nat.le_refl _) (hb1.trans (X.property.mono (by omega)))) (by omega)
  have hcell : ∀ (X : Since W1.heap.size W1) (o : Nat), X.val.cell? ⟨g, o, none⟩ = w.cell? ⟨g, o, none⟩ := fun X o => (X.property.cell (p := ⟨g, o, none⟩) (by show g < _; omega)).trans (hb1.cell (p := ⟨g, o, none⟩) hlt)
  have x0 : ∀ X : Since W1.heap.size W1, X.val.cell? ⟨g, l.length * 3, none⟩ = some (.int .u8 (f.lit.toNat : Int)) := fun X => (hcell X _).trans c0
  have x1 : ∀ X : Since W1.heap.size W1, X.val.cell? ⟨g, l.length * 3 + 1, none⟩ = some (.int .i64 f.len) := fun X => (hcell X _).trans c1
  have x2 : ∀ X : Since W1.heap.size W1, X.val.cell? ⟨g, l.length * 3 + 2, none⟩ = some (.int .i64 f.dist) := fun X => (hcell X _).trans c2
  have y0 : ∀ X : Since W1.heap.size W1, X.val.cell? ⟨g, (l.length + 1) * 3, none⟩ = some (.int .u8 (f.lit.toNat : Int)) := fun X => (hcell X _).trans d0
  have y1 : ∀ X : Since W1.heap.size W1, X.val.cell? ⟨g, (l.length + 1) * 3 + 1, none⟩ = some (.int .i64 f.len) := fun X => (hcell X _).trans d1
  have y2 : ∀ X : Since W1.heap.size W1, X.val.cell? ⟨g, (l.length + 1) * 3 + 2, none⟩ = some (.int .i64 f.dist) := fun X => (hcell X _).trans d2
  have b0 : ∀ X : Since W1.heap.size W1, X.val.cell? ⟨w.heap.size, 0, none⟩ = some (.int .u8 (f.lit.toNat : Int)) := fun X => (X.property.cell (p := ⟨w.heap.size, 0, none⟩) hz1).trans (by rw [hW1]; simp)
  have b1 : ∀ X : Since W1.heap.size W1, X.val.cell? ⟨w.heap.size, 1, none⟩ = some (.int .i64 f.len) := fun X => (X.property.cell (p := ⟨w.heap.size, 1, none⟩) hz1).trans (by rw [hW1]; simp)
  have b2 : ∀ X : Since W1.heap.size W1, X.val.cell? ⟨w.heap.size, 2, none⟩ = some (.int .i64 f.dist) := fun X => (X.property.cell (p := ⟨w.heap.size, 2, none⟩) hz1).trans (by rw [hW1]; simp)
  have hte := fun W => tok_eq W f.lit.toNat f.len f.dist
  have hne : Nonempty (Since W1.heap.size W1) := ⟨⟨W1, Below.refl _ _⟩⟩
  have HB1 : Hid (Below w.heap.size w W1) := hb1
  obtain ⟨ua, uc, rfl⟩ := k.slice
  clear h k c0 c1 c2 d0 d1 d2 hcell hb1
  unfold tokV
  go_enter Try.func23, Try.ntmps23
  go_wp2_with fail
  rw [← hW1]
  clear hW1
  refine wp_region_since (B := W1.heap.size) (W0 := W1) (by kernel_rfl) (by kernel_rfl) (Below.refl _ _) ?_
  repeat (go_big_quiet_step (fail))
  go_big_quiet_step (exact quiet_since _ (heq _))
  repeat (go_big_quiet_step (fail))
  refine wpQuiet_nil ?_
  rintro w7 ⟨U, rfl⟩
  have HB3 : Hid (Below w.heap.size w U.val) := HB1.out.trans (U.property.mono HB1.out.size)
  generalize U.val = w7 at *
  clear x0 x1 x2 y0 y1 y2 b0 b1 b2 hte hne heq
  go_wp2_with fail
  go_ret
  exact ⟨rfl, HB3.out⟩

set_option maxHeartbeats 1000000 in
theorem spoil_toks (g n c : Nat) (f : Lz.Tr) (w : World) (h : Room w g (c * 3) 36) (hc : c ≤ 9223372036854775807) (hg : g < w.heap.size) :
    Calls Try.prog 27 #[.slice (some ⟨g, 0, none⟩) n c, tokV f] w fun e w' => e = .returned (.tuple #[]) ∧ Kept (fun q => q ≠ g) w w' := by
  unfold tokV
  obtain ⟨W1, hW1⟩ : ∃ W1, W1 = w.alloc (.cells #[.int .u8 f.lit.toNat, .int .i64 f.len, .int .i64 f.dist] 36) := ⟨_, rfl⟩
  have HK1 : Hid (Kept (fun q => q ≠ g) w W1) := by rw [hW1]; exact (Kept.refl _ w).alloc _
  have HR1 : Hid (Room W1 g (c * 3) 36) := by
    rw [hW1]
    exact h.kept (p := fun _ => True) ((Kept.refl _ w).alloc _) trivial
  have HZ : Hid (W1.heap[w.heap.size]? = some (.cells #[.int .u8 f.lit.toNat, .int .i64 f.len, .int .i64 f.dist] 36 (0, 0))) := by rw [hW1]; exact heap_alloc_new w _
  clear h
  go_enter Try.func27, Try.ntmps27
  go_wp2_with fail
  rw [← hW1]
  clear hW1
  go_loopw [11] (fun i wr => ∃ k : Nat, k ≤ c ∧ i = .int .i64 k ∧ Hid (Room wr g (c * 3) 36) ∧ Hid (Kept (fun q => q ≠ g) w wr) ∧ Hid (wr.heap[w.heap.size]? = some (.cells #[.int .u8 f.lit.toNat, .int .i64 f.len, .int .i64 f.dist] 36 (0, 0)))) (fun i _ => c - (intOf i).toNat)
  case atStart => exact ⟨0, by omega, rfl, HR1, HK1, HZ⟩
  case round =>
    obtain ⟨k, hk, rfl, hr, hkp, hz⟩ := hrel
    by_cases hlt : k < c
    · obtain ⟨⟨p0, x0⟩, f0⟩ := hr.out.cell (k * 3) (by omega)
      obtain ⟨⟨p1, x1⟩, f1⟩ := hr.out.cell (k * 3 + 1) (by omega)
      obtain ⟨⟨p2, x2⟩, f2⟩ := hr.out.cell (k * 3 + 2) (by omega)
      have b0 : wr.cell? ⟨w.heap.size, 0, none⟩ = some (.int .u8 (f.lit.toNat : Int)) := by rw [cell_of_row _ w.heap.size 0 _ _ _ hz.out]; rfl
      have b1 : wr.cell? ⟨w.heap.size, 1, none⟩ = some (.int .i64 f.len) := by rw [cell_of_row _ w.heap.size 1 _ _ _ hz.out]; rfl
      have b2 : wr.cell? ⟨w.heap.size, 2, none⟩ = some (.int .i64 f.dist) := by rw [cell_of_row _ w.heap.size 2 _ _ _ hz.out]; rfl
      have HR : Hid (Room (((wr.setCell ⟨g, k * 3, none⟩ (.int .u8 (f.lit.toNat : Int))).setCell ⟨g, k * 3 + 1, none⟩ (.int .i64 f.len)).setCell ⟨g, k * 3 + 2, none⟩ (.int .i64 f.dist)) g (c * 3) 36) := ((hr.out.set _ _).set _ _).set _ _
      have HK : Hid (Kept (fun q => q ≠ g) w (((wr.setCell ⟨g, k * 3, none⟩ (.int .u8 (f.lit.toNat : Int))).setCell ⟨g, k * 3 + 1, none⟩ (.int .i64 f.len)).setCell ⟨g, k * 3 + 2, none⟩ (.int .i64 f.dist))) := ((hkp.out.setCell (by simp) _).setCell (by simp) _).setCell (by simp) _
      have HZ2 : Hid ((((wr.setCell ⟨g, k * 3, none⟩ (.int .u8 (f.lit.toNat : Int))).setCell ⟨g, k * 3 + 1, none⟩ (.int .i64 f.len)).setCell ⟨g, k * 3 + 2, none⟩ (.int .i64 f.dist)).heap[w.heap.size]? = some (.cells #[.int .u8 f.lit.toNat, .int .i64 f.len, .int .i64 f.dist] 36 (0, 0))) :=
        ((((Kept.refl (fun q => q ≠ g) wr).setCell (by simp) _).setCell (by simp) _).setCell (by simp) _).obj (by omega) hz.out
      clear hr hkp hz
      go_wp2_with fail
      go_roundw
      case rel => exact ⟨k + 1, by omega, by go_num, HR, HK, HZ2⟩
      case measure => simp only [intOf]; omega
    · go_wp2_with fail
      go_end0
      exact ⟨rfl, hkp.out⟩

set_option maxHeartbeats 1000000 in
theorem clone_ints (v : Value) (l : List Int) (w : World) (base : Nat) (h : w.ownsRow base 3 1 v l.length (l.map Iv)) (hl : l.length ≤ 5000) :
    Calls Try.prog 26 #[v] w fun e w' => ∃ v', e = .returned v' ∧ w'.ownsRow w.heap.size 3 1 v' l.length (l.map Iv) ∧ Below w.heap.size w w' := by
  obtain ⟨i0, hi, hz0, hz1, hz2⟩ := info_parts info_int
  rcases h.2 with ⟨rfl, h0⟩ | ⟨g, cap, cur, rfl, hg, hh, _⟩
  · have hln : l = [] := List.length_eq_zero_iff.1 h0
    subst hln
    have qn : ∀ (w : World) (a : Option Addr) (n c n' c' : Nat), (binOp .eql 22 (.slice a n c) (.slice none n' c')).run Try.prog w = .ok (.bool a.isNone) w := fun w a n c n' c' => Lib.run_eql_slice_nil w _ _ a n c n' c' Try.underlying22
    go_enter Try.func26, Try.ntmps26
    go_wp2_with fail
    go_ret
    exact ⟨_, rfl, World.ownsRow_nil _ _ _ _, Below.refl _ _⟩
  · have hcell : ∀ j u, (l.map Iv)[j]? = some u → w.cell? ((⟨g, 0, none⟩ : Addr).add j) = some u := fun j u hu => by
      have hj : j < l.length := by
        have := (List.getElem?_eq_some_iff.1 hu).1
        simpa using this
      rw [show ((⟨g, 0, none⟩ : Addr).add j) = ⟨g, j, none⟩ from by unfold Addr.add; split <;> simp_all, h.cellAt j (by omega)]
      exact hu
    have hcell2 : ∀ j u, (l.map Iv)[j]? = some u → (w.alloc (.cells #[] 3)).cell? ((⟨g, 0, none⟩ : Addr).add j) = some u := fun j u hu => by
      have e := hcell j u hu
      rw [show ((⟨g, 0, none⟩ : Addr).add j) = ⟨g, j, none⟩ from by unfold Addr.add; split <;> simp_all] at e ⊢
      exact (((Below.refl w.heap.size w).alloc (Nat.le_refl _) _).cell (p := ⟨g, j, none⟩) (Array.getElem?_eq_some_iff.1 hh).1).trans e
    have hown0 : (w.alloc (.cells #[] 3)).ownsRow w.heap.size 3 1 (.slice (some ⟨w.heap.size, 0, none⟩) 0 0) 0 [] := World.ownsRow_lit w #[] 0 (Nat.le_refl _) (by unfold maxLen; omega) rfl
    clear h hcell hh
    have qn : ∀ (w : World) (a : Option Addr) (n c n' c' : Nat), (binOp .eql 22 (.slice a n c) (.slice none n' c')).run Try.prog w = .ok (.bool a.isNone) w := fun w a n c n' c' => Lib.run_eql_slice_nil w _ _ a n c n' c' Try.underlying22
    go_enter Try.func26, Try.ntmps26
    go_wp2_with (at_builtin; refine wpList_append_own _ rfl (.tmp 5) (.tmp 6) 22 rfl w.heap.size 3 i0 (.int .i64 0) 1 8 Try.underlying22 hi hz0 hz1 hz2 rfl (by decide) _ _ _ rfl hown0 ⟨g, 0, none⟩ l.length _ (l.map Iv) rfl (by simp) hcell2 (iv_one l) (by unfold maxLen; omega) (by omega) (by simp) ?_; intro v1 w3 o3 g3 _)
    simp only [Nat.zero_add, List.nil_append] at o3
    have HO : Hid (w3.ownsRow w.heap.size 3 1 v1 l.length (l.map Iv)) := o3
    have HB : Hid (Below w.heap.size w w3) := ((Below.refl _ w).alloc (Nat.le_refl _) _).grown g3 (by simp) (fun k hk => by cases hk; exact Nat.le_refl _)
    clear o3 g3
    go_ret
    exact ⟨_, rfl, HO.out, HB.out⟩

set_option maxHeartbeats 1000000 in
theorem clone_toks (v : Value) (l : List Lz.Tr) (w : World) (base : Nat) (h : w.ownsRow base 36 3 v l.length (rowC l)) (hl : l.length ≤ 5000) :
    Calls Try.prog 25 #[v] w fun e w' => ∃ v', e = .returned v' ∧ w'.ownsRow w.heap.size 36 3 v' l.length (rowC l) ∧ Below w.heap.size w w' := by
  obtain ⟨i0, hi, hz0, hz1, hz2⟩ := info_parts info_tok
  rcases h.2 with ⟨rfl, h0⟩ | ⟨g, cap, cur, rfl, hg, hh, _⟩
  · have hln : l = [] := List.length_eq_zero_iff.1 h0
    subst hln
    have qn : ∀ (w : World) (a : Option Addr) (n c n' c' : Nat), (binOp .eql 31 (.slice a n c) (.slice none n' c')).run Try.prog w = .ok (.bool a.isNone) w := fun w a n c n' c' => Lib.run_eql_slice_nil w _ _ a n c n' c' Try.underlying31
    go_enter Try.func25, Try.ntmps25
    go_wp2_with fail
    go_ret
    exact ⟨_, rfl, World.ownsRow_nil _ _ _ _, Below.refl _ _⟩
  · have hcell : ∀ j u, (rowC l)[j]? = some u → w.cell? ((⟨g, 0, none⟩ : Addr).add j) = some u := fun j u hu => by
      have hj : j < 3 * l.length := by
        have := (List.getElem?_eq_some_iff.1 hu).1
        rwa [rowC_length] at this
      rw [show ((⟨g, 0, none⟩ : Addr).add j) = ⟨g, j, none⟩ from by unfold Addr.add; split <;> simp_all, h.cellAt j (by omega)]
      exact hu
    have hcell2 : ∀ j u, (rowC l)[j]? = some u → (w.alloc (.cells #[] 36)).cell? ((⟨g, 0, none⟩ : Addr).add j) = some u := fun j u hu => by
      have e := hcell j u hu
      rw [show ((⟨g, 0, none⟩ : Addr).add j) = ⟨g, j, none⟩ from by unfold Addr.add; split <;> simp_all] at e ⊢
      exact (((Below.refl w.heap.size w).alloc (Nat.le_refl _) _).cell (p := ⟨g, j, none⟩) (Array.getElem?_eq_some_iff.1 hh).1).trans e
    have hown0 : (w.alloc (.cells #[] 36)).ownsRow w.heap.size 36 3 (.slice (some ⟨w.heap.size, 0, none⟩) 0 0) 0 [] := World.ownsRow_lit w #[] 0 (Nat.le_refl _) (by unfold maxLen; omega) rfl
    clear h hcell hh
    have qn : ∀ (w : World) (a : Option Addr) (n c n' c' : Nat), (binOp .eql 31 (.slice a n c) (.slice none n' c')).run Try.prog w = .ok (.bool a.isNone) w := fun w a n c n' c' => Lib.run_eql_slice_nil w _ _ a n c n' c' Try.underlying31
    go_enter Try.func25, Try.ntmps25
    go_wp2_with (at_builtin; refine wpList_append_own _ rfl (.tmp 5) (.tmp 6) 31 rfl w.heap.size 36 i0 (.agg #[.int .u8 0, .int .i64 0, .int .i64 0]) 3 24 Try.underlying31 hi hz0 hz1 hz2 rfl (by decide) _ _ _ rfl hown0 ⟨g, 0, none⟩ l.length _ (rowC l) rfl (by rw [rowC_length]; omega) hcell2 (rowC_one l) (by unfold maxLen; omega) (by omega) (by simp) ?_; intro v1 w3 o3 g3 _)
    simp only [Nat.zero_add, List.nil_append] at o3
    have HO : Hid (w3.ownsRow w.heap.size 36 3 v1 l.length (rowC l)) := o3
    have HB : Hid (Below w.heap.size w w3) := ((Below.refl _ w).alloc (Nat.le_refl _) _).grown g3 (by simp) (fun k hk => by cases hk; exact Nat.le_refl _)
    clear o3 g3
    go_ret
    exact ⟨_, rfl, HO.out, HB.out⟩
end Go.Proofs.Ytoohekdaihhflaa
