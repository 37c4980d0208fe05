/-
  What the rows list of unicode/utf8's tables is what ValidString's contract asks.
-/
import Derived.Test.YtcgecafajgoeeaaDoorNnValid
import Derived.Test.YtcgecafajgoeeaaDoorRows
import Derived.Lib.LaidU8T
import Derived.SliceStrings
namespace Go.Proofs.YtcgecafajgoeeaaDoor
open Go.RowKit

theorem first_laid : Rows.laid_unicode_utf8_first = Lib.firstData := by kernel_rfl
theorem accept_laid : (Rows.laid_unicode_utf8_acceptRanges : DataW Unit) = Lib.acceptData := by kernel_rfl
theorem laid_plain {P : Program} {l : List (String × DataW Unit)} {W : World} (h : laidMetH P l W) (hp : (l.filter fun x => x.2.handleName?.isSome) = []) : laidMet P l W := by
  unfold laidMetH at h
  rw [hp] at h
  exact h

/-- the two tables, off what the rows list -/
theorem tabs_of {W : World} (hL : laidMetH Tryd.prog Rows.treeSaysRow.laid W) : Tabs W := by
  have hM := laid_plain hL (by kernel_rfl)
  refine utf8Tabs_of_readsT (P := Tryd.prog) (ρ := Tryd.laysValid_ren) (U8Types.of196 Tryd.laysValid) ⟨by kernel_rfl, by kernel_rfl, by kernel_rfl, by kernel_rfl, by kernel_rfl, by kernel_rfl, by kernel_rfl⟩ ?_ ?_
  · rw [← first_laid]
    exact Lib.laidMet.reads hM (by simp [Rows.treeSaysRow])
  · rw [← accept_laid]
    exact Lib.laidMet.reads hM (by simp [Rows.treeSaysRow])
/-- a text of a list is no longer than the list's bulk -/
theorem bulk_strs {H : Type} : ∀ (l : List ByteArray), ∀ s ∈ l, s.size ≤ Rows.uptoBulkAll (ChangeShapes.strs l : List (DataW H))
  | [], s, hs => (List.not_mem_nil hs).elim
  | t :: l, s, hs => by
    show _ ≤ Rows.uptoBulkAll (DataW.lit (.string t.data.toList) :: (ChangeShapes.strs l : List (DataW H)))
    rw [Rows.uptoBulkAll, Rows.uptoBulk]
    rcases List.mem_cons.1 hs with rfl | hs
    · rw [Lib.size_eq]; omega
    · have := bulk_strs (H := H) l s hs; omega
end Go.Proofs.YtcgecafajgoeeaaDoor
