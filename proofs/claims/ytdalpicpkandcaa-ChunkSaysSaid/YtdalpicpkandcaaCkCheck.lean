/-
  What Check and checkSize of package chunk, and CutOK of package lumref, answer.
-/
import Derived.Test.YtdalpicpkandcaaBase
import Derived.Test.YtdalpicpkandcaaShelfClone
namespace Go.Proofs.Ytdalpicpkandcaa
open Go.RowKit

theorem below_past {w w' : World} {o : Obj} (h : Below (w.alloc o).heap.size (w.alloc o) w') : Below w.heap.size w w' :=
  ((Below.refl _ w).alloc (Nat.le_refl _) o).trans (h.mono (by simp))
/-- a Cut, as it is handed in -/
def cutV (mn mx bt : Int) : Value := .agg #[.int .i64 mn, .int .i64 mx, .int .i64 bt]
def OkCut (mn mx bt : Int) : Prop := 16 ≤ mn ∧ mn ≤ mx ∧ mx ≤ 1024 ∧ 1 ≤ bt ∧ bt ≤ 12
abbrev decOk (mn mx bt : Int) : Decidable (OkCut mn mx bt) := inferInstanceAs (Decidable (16 ≤ mn ∧ mn ≤ mx ∧ mx ≤ 1024 ∧ 1 ≤ bt ∧ bt ≤ 12))
def okN (mn mx bt : Int) : Int := @ite _ (OkCut mn mx bt) (decOk mn mx bt) 0 1
def sizeN (mn mx bt : Int) (n : Int) : Int := @ite _ (OkCut mn mx bt) (decOk mn mx bt) (if n ≤ 4096 then 0 else 2) 1
theorem ret_ok {mn mx bt k : Int} (h : (OkCut mn mx bt ∧ k = 0) ∨ (¬ OkCut mn mx bt ∧ k = 1)) : Ending.returned (.int .i64 k) = .returned (.int .i64 (okN mn mx bt)) := by
  unfold okN
  rcases h with ⟨h, rfl⟩ | ⟨h, rfl⟩
  · rw [if_pos h]
  · rw [if_neg h]

set_option maxHeartbeats 1000000 in
theorem rok_any (mn mx bt : Int) (w : World) :
    Calls Try.prog 14 #[cutV mn mx bt] w fun e w' => e = .returned (.int .i64 (okN mn mx bt)) ∧ Below w.heap.size w w' := by
  unfold cutV
  go_enter Try.func14, Try.ntmps14
  go_wp2
  all_goals go_ret
  all_goals exact ⟨ret_ok (by unfold OkCut; omega), (Below.refl _ w).alloc (Nat.le_refl _) _⟩

set_option maxHeartbeats 1000000 in
theorem ok_any (mn mx bt : Int) (w : World) :
    Calls Try.prog 13 #[cutV mn mx bt] w fun e w' => e = .returned (.int .i64 (okN mn mx bt)) ∧ Below w.heap.size w w' := by
  unfold cutV
  go_enter Try.func13, Try.ntmps13
  go_wp2
  all_goals go_ret
  all_goals exact ⟨ret_ok (by unfold OkCut; omega), (Below.refl _ w).alloc (Nat.le_refl _) _⟩
theorem okN_yes {mn mx bt : Int} (h : OkCut mn mx bt) : okN mn mx bt = 0 := if_pos h
theorem okN_no {mn mx bt : Int} (h : ¬ OkCut mn mx bt) : okN mn mx bt = 1 := if_neg h
theorem ret_size {mn mx bt n k : Int} (h : (OkCut mn mx bt ∧ n ≤ 4096 ∧ k = 0) ∨ (OkCut mn mx bt ∧ 4096 < n ∧ k = 2) ∨ (¬ OkCut mn mx bt ∧ k = 1)) : Ending.returned (.int .i64 k) = .returned (.int .i64 (sizeN mn mx bt n)) := by
  unfold sizeN
  rcases h with ⟨h, h2, rfl⟩ | ⟨h, h2, rfl⟩ | ⟨h, rfl⟩
  · rw [if_pos h, if_pos h2]
  · rw [if_pos h, if_neg (by omega)]
  · rw [if_neg h]

set_option maxHeartbeats 1000000 in
theorem size_any (mn mx bt n : Int) (w : World) :
    Calls Try.prog 24 #[cutV mn mx bt, .int .i64 n] w fun e w' => e = .returned (.int .i64 (sizeN mn mx bt n)) ∧ Below w.heap.size w w' := by
  have hc := ok_any mn mx bt
  unfold cutV at hc ⊢
  by_cases h : OkCut mn mx bt
  · have HO : Hid (OkCut mn mx bt) := h
    rw [okN_yes h] at hc
    clear h
    go_enter Try.func24, Try.ntmps24
    go_wp2_with (refine (hc _).mono ?_; rintro e w' ⟨rfl, hb⟩)
    all_goals go_ret
    all_goals exact ⟨ret_size (by have h := HO.out; unfold OkCut at h ⊢; omega), below_past hb⟩
  · have HO : Hid (¬ OkCut mn mx bt) := h
    rw [okN_no h] at hc
    clear h
    go_enter Try.func24, Try.ntmps24
    go_wp2_with (refine (hc _).mono ?_; rintro e w' ⟨rfl, hb⟩)
    go_ret
    exact ⟨ret_size (.inr (.inr ⟨HO.out, rfl⟩)), below_past hb⟩

set_option maxHeartbeats 400000 in
theorem clone_any (s : ByteArray) (w : World) (hs : s.size ≤ 281474976710656) :
    Calls Try.prog 23 #[.string s] w fun e w' => e = .returned (.string s) ∧ Below w.heap.size w w' := by
  go_enter Try.func23, Try.ntmps23
  go_wp2_with (refine (Try.stringslite_Clone _ _ hs).mono ?_; rintro e w' ⟨rfl, hb⟩)
  go_ret
  exact ⟨rfl, hb⟩
end Go.Proofs.Ytdalpicpkandcaa
