/-
  What slices.Clone answers, at rows of packs' lists and at places.
-/
import Derived.Test.YtllioidjelgafabPlTell
import Derived.Lib.SliceRun
namespace Go.Proofs.Ytllioidjelgafab
open Go.RowKit
set_option maxRecDepth 4000

theorem info_c3 {P : Program} {e : TypeId} {z : Option Value} {s b : Nat} (h : (P.info? e).map (fun i => (i.zero, i.size, i.bytes)) = some (z, s, b)) : ∃ i, P.info? e = some i ∧ i.zero = z ∧ i.size = s ∧ i.bytes = b := info_three h
/-- the row of nothing -/
def en0 : Ent := ⟨List.replicate 8 0, rfl, 0, 0, 0⟩

theorem info_enz : (Try.prog.info? 40).map (fun i => (i.zero, i.size, i.bytes)) = some (some (enV en0), 11, 32) := by kernel_rfl

set_option maxHeartbeats 2000000 in
theorem clone_pls (v : Value) (l : List Plc) (w : World) (h : Px w v l) (hl : l.length ≤ 1000) :
    Calls Try.prog 15 #[v] w fun e w' => ∃ v', e = .returned v' ∧ w'.ownsRow w.heap.size 29 12 v' l.length (rowR plC l) ∧ Below w.heap.size w w' := by
  obtain ⟨i0, hi, hz0, hz1, hz2⟩ := info_c3 info_plz
  obtain ⟨a, c, rfl, _, _⟩ := h.slice
  have qn : ∀ (w : World) (a : Option Addr) (n c n' c' : Nat), (binOp .eql 22 (.slice a n c) (.slice none n' c')).run Try.prog w = .ok (.bool a.isNone) w := fun w a n c n' c' => Lib.run_eql_slice_nil w _ _ a n c n' c' Try.underlying22
  obtain ⟨hs1, hs2⟩ := h.src plC_length (by omega)
  cases a with
  | none =>
    have hln : l = [] := List.length_eq_zero_iff.1 (hs1 rfl)
    subst hln
    clear hs1 hs2 h
    go_enter Try.func15, Try.ntmps15
    go_wp2_with fail
    go_ret
    exact ⟨.slice none 0 0, rfl, World.ownsRow_nil _ _ _ _, Below.refl _ _⟩
  | some ad =>
    have hsp := (h.below ((Below.refl w.heap.size w).alloc (Nat.le_refl _) (.cells #[] 29))).src plC_length (by omega)
    have hcell2 := hsp.2 ad rfl
    have hown0 : (w.alloc (.cells #[] 29)).ownsRow w.heap.size 29 12 (.slice (some ⟨w.heap.size, 0, none⟩) 0 0) 0 [] := World.ownsRow_lit w #[] 0 (Nat.le_refl _) (by unfold maxLen; omega) rfl
    clear h hs1 hs2 hsp
    go_enter Try.func15, Try.ntmps15
    go_wp2_with (at_builtin; refine wpList_append_own _ rfl (.tmp 5) (.tmp 6) 22 rfl w.heap.size 29 i0 (plV pl0) 12 40 Try.underlying22 hi hz0 hz1 hz2 (by kernel_rfl) (by decide) _ _ _ rfl hown0 ad l.length _ (rowR plC l) rfl (rowR_length plC_length l) hcell2 (rowR_one plC_one l) (by unfold maxLen; omega) (by omega) (by simp) ?_; intro v1 w3 o3 g3 _)
    simp only [Nat.zero_add, List.nil_append] at o3
    have HO : Hid (w3.ownsRow w.heap.size 29 12 v1 l.length (rowR plC l)) := o3
    have HB : Hid (Below w.heap.size w w3) := ((Below.refl _ w).alloc (Nat.le_refl _) _).grown g3 (by simp) (fun k hk => by cases hk; exact Nat.le_refl _)
    clear o3 g3
    go_ret
    exact ⟨v1, rfl, HO.out, HB.out⟩
end Go.Proofs.Ytllioidjelgafab
