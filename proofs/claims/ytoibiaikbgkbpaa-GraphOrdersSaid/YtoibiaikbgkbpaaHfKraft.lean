/-
  What Kraft of package huff answers.
-/
import Derived.Test.YtoibiaikbgkbpaaHfInts
namespace Go.Proofs.Ytoibiaikbgkbpaa
open Go.RowKit

theorem shr_full {n : Nat} (hn : n ≤ 48) : (281474976710656 : Int) / 2 ^ n = ((2 ^ (48 - n) : Nat) : Int) ∧ 2 ^ (48 - n) ≤ 281474976710656 := by
  have e : (281474976710656 : Nat) = 2 ^ n * 2 ^ (48 - n) := by
    rw [← Nat.pow_add, show n + (48 - n) = 48 from by omega]
  have hp := Nat.two_pow_pos n
  constructor
  · have : (281474976710656 : Nat) / 2 ^ n = 2 ^ (48 - n) := by rw [e, Nat.mul_div_cancel_left _ hp]
    rw [← this]
    simp
  · generalize 2 ^ (48 - n) = x at *
    rw [e]
    exact Nat.le_mul_of_pos_left _ hp
end Go.Proofs.Ytoibiaikbgkbpaa
