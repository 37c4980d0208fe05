/-
  slices.Clone over numbers that came in.
-/
import Derived.Test.YtoibiaikbgkbpaaGrChain
import Derived.Test.YtoibiaikbgkbpaaOwInts
import Derived.Lib.Strings
import Derived.Lib.SliceRun
import Derived.OwnWalk
import Derived.Laws.AppendOwn
namespace Go.Proofs.Ytoibiaikbgkbpaa
open Go.RowKit
set_option maxRecDepth 4000

set_option maxHeartbeats 1000000 in
theorem clonei_any (v : Value) (l : List Int) (w : World) (h : Ints w v l) (hl : l.length * 8 ≤ 140737488355328) :
    Calls Try.prog 17 #[v] w fun e w' => ∃ v', e = .returned v' ∧ w'.ownsRow w.heap.size 3 1 v' l.length (l.map Iv) ∧ Below w.heap.size w w' := by
  obtain ⟨i0, hi, hz0, hz1, hz2⟩ := info_parts info_int
  obtain ⟨a, c, rfl⟩ := h.slice
  have qn : ∀ (w : World) (a : Option Addr) (n c n' c' : Nat), (binOp .eql 23 (.slice a n c) (.slice none n' c')).run Try.prog w = .ok (.bool a.isNone) w := fun w a n c n' c' => Lib.run_eql_slice_nil w _ _ a n c n' c' Try.underlying23
  cases a with
  | none =>
    have h0 : l.length = 0 := h.src.1 rfl
    have HE : Hid (w.ownsRow w.heap.size 3 1 (.slice none 0 0) l.length (l.map Iv)) := by
      show World.ownsRow _ _ _ _ _ _ _
      have : l = [] := List.length_eq_zero_iff.1 h0
      subst this
      exact World.ownsRow_nil _ _ _ _
    clear h
    generalize l.length = n at *
    go_enter Try.func17, Try.ntmps17
    go_wp2_with fail
    go_ret
    exact ⟨_, rfl, HE.out, Below.refl _ _⟩
  | some ad =>
    have hcell2 : ∀ j u, (l.map Iv)[j]? = some u → (w.alloc (.cells #[] 3)).cell? (ad.add j) = some u := (h.past ((Below.refl w.heap.size w).alloc (Nat.le_refl _) _)).src.2 _ rfl
    have hown0 : (w.alloc (.cells #[] 3)).ownsRow w.heap.size 3 1 (.slice (some ⟨w.heap.size, 0, none⟩) 0 0) 0 [] := World.ownsRow_lit w #[] 0 (Nat.le_refl _) (by unfold maxLen; omega) rfl
    clear h
    go_enter Try.func17, Try.ntmps17
    go_wp2_with (at_builtin; refine wpList_append_own _ rfl (.tmp 5) (.tmp 6) 23 rfl w.heap.size 3 i0 (.int .i64 0) 1 8 Try.underlying23 hi hz0 hz1 hz2 rfl (by decide) _ _ _ rfl hown0 ad l.length _ (l.map Iv) rfl (by simp) hcell2 (iv_one l) (by unfold maxLen; omega) (by omega) (by simp) ?_; intro v1 w3 o3 g3 _)
    simp only [Nat.zero_add, List.nil_append] at o3
    have HO : Hid (w3.ownsRow w.heap.size 3 1 v1 l.length (l.map Iv)) := o3
    have HB : Hid (Below w.heap.size w w3) := ((Below.refl _ w).alloc (Nat.le_refl _) _).grown g3 (by simp) (fun k hk => by cases hk; exact Nat.le_refl _)
    clear o3 g3
    go_ret
    exact ⟨_, rfl, HO.out, HB.out⟩

end Go.Proofs.Ytoibiaikbgkbpaa
