/-
  What rest and Times of the document's answer (package lumref) answer.
-/
import Derived.Test.YtdalpicpkandcabRollT
namespace Go.Proofs.Ytdalpicpkandcab
open Go.RowKit

theorem mod_shl (i : Nat) (h31 : 31 ≤ i) (hi : i ≤ 63) : 2147483657 * 2 ^ (i - 31) < 18446744073709551616 := by
  have h1 : 2 ^ (i - 31) ≤ 2 ^ 32 := Nat.pow_le_pow_right (by omega) (by omega)
  have h2 : 2147483657 * 2 ^ (i - 31) ≤ 2147483657 * 2 ^ 32 := Nat.mul_le_mul (Nat.le_refl _) h1
  omega
theorem pow_le64 {i : Nat} (h : i ≤ 64) : 2 ^ i ≤ 18446744073709551616 := Nat.pow_le_pow_right (n := 2) (j := 64) (by omega) h
end Go.Proofs.Ytdalpicpkandcab
