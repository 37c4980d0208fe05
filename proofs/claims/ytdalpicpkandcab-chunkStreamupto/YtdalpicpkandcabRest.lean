/-
  What Rest of the document's answer (package lumref) answers: the remainder, never below nought.
-/
import Derived.Test.YtdalpicpkandcabBase
namespace Go.Proofs.Ytdalpicpkandcab
open Go.RowKit

theorem tmod_bounds (a : Int) (n : Nat) (hn : 0 < n) : -(n : Int) < a.tmod n ∧ a.tmod n < n := by
  have h0 : (0 : Int) < n := by omega
  by_cases ha : 0 ≤ a
  · have h1 := Int.tmod_nonneg (n : Int) ha
    have h2 := Int.tmod_lt_of_pos a h0
    omega
  · have h1 := Int.tmod_nonneg (n : Int) (show 0 ≤ -a by omega)
    have h2 := Int.tmod_lt_of_pos (-a) h0
    rw [Int.neg_tmod] at h1 h2
    omega
end Go.Proofs.Ytdalpicpkandcab
