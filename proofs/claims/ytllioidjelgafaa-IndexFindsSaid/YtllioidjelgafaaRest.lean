/-
  What Rest of the document's answer (package lumref) answers: the remainder, never below nought.
-/
import Derived.Test.YtllioidjelgafaaBase
namespace Go.Proofs.Ytllioidjelgafaa
open Go.RowKit
set_option maxRecDepth 4000

theorem tmod_bounds (a : Int) (n : Nat) (hn : 0 < n) : -(n : Int) < a.tmod n ∧ a.tmod n < n := by
  have h0 : (0 : Int) < n := by omega
  by_cases ha : 0 ≤ a
  · have h1 := Int.tmod_nonneg (n : Int) ha
    have h2 := Int.tmod_lt_of_pos a h0
    omega
  · have h1 := Int.tmod_nonneg (n : Int) (show 0 ≤ -a by omega)
    have h2 := Int.tmod_lt_of_pos (-a) h0
    rw [Int.neg_tmod] at h1 h2
    omega

set_option maxHeartbeats 400000 in
theorem rest_any (a : Int) (n : Nat) (w : World) (hn : 0 < n) (hb : n ≤ 1000000000000000) :
    Calls Try.prog 25 #[.int .i64 a, .int .i64 n] w fun e w' => (∃ r : Nat, r < n ∧ e = .returned (.int .i64 r)) ∧ w' = w := by
  obtain ⟨h1, h2⟩ := tmod_bounds a n hn
  have h3 : 0 ≤ a.tmod n + n := by omega
  have h4 := Int.emod_nonneg (a.tmod n + n) (show (n : Int) ≠ 0 by omega)
  have h5 := Int.emod_lt_of_pos (a.tmod n + n) (show (0 : Int) < n by omega)
  go_enter Try.func25, Try.ntmps25
  go_wp2_with fail
  go_ret
  exact ⟨⟨((a.tmod n + n) % n).toNat, by omega, ret_int (by omega)⟩, rfl⟩
end Go.Proofs.Ytllioidjelgafaa
