/-
  The remainder, taken in two ways: bit by bit from the highest one down, and by folding what stands above bit 30.
-/
import Derived.Test.YtdalpicpkandcabRollMath2
namespace Go.Proofs.Ytdalpicpkandcab
namespace Rl

theorem modulus_rem (j : Nat) (hj : j ≤ 32) : rem (2147483657 * 2 ^ j) = 0 := by
  have h1 : 2 ^ j ≤ 2 ^ 32 := Nat.pow_le_pow_right (by omega) hj
  have h2 : 2147483657 * 2 ^ j ≤ 2147483657 * 2 ^ 32 := Nat.mul_le_mul (Nat.le_refl _) h1
  rw [rem_shift j (by omega), show rem 2147483657 = 0 from by decide +kernel]
  exact (mxk_lin j).zero
theorem modulus_split (j : Nat) : 2147483657 * 2 ^ j ^^^ 2 ^ (j + 31) < 2 ^ (j + 31) := by
  have hp := Nat.two_pow_pos j
  refine top_xor ?_ ?_
  · rw [Nat.pow_add]; omega
  · rw [Nat.pow_succ, Nat.pow_add]; omega
theorem xor_cancel4 (a m t : Nat) : a ^^^ t ^^^ (m ^^^ t) = a ^^^ m := by
  rw [xor4, Nat.xor_self, Nat.xor_zero]
theorem rest_step {i a : Nat} (h31 : 31 ≤ i) (hi : i ≤ 63) (ha : a < 2 ^ (i + 1)) (hb : a / 2 ^ i % 2 = 1) :
    a ^^^ 2147483657 * 2 ^ (i - 31) < 2 ^ i ∧ rem (a ^^^ 2147483657 * 2 ^ (i - 31)) = rem a := by
  have hp := Nat.two_pow_pos i
  constructor
  · have h1 : 2 ^ i ≤ a := by
      rcases Nat.lt_or_ge a (2 ^ i) with h | h
      · rw [Nat.div_eq_of_lt h] at hb; omega
      · exact h
    have h2 := modulus_split (i - 31)
    rw [show i - 31 + 31 = i from by omega] at h2
    have h3 := Nat.xor_lt_two_pow (top_xor h1 ha) h2
    rwa [xor_cancel4] at h3
  · rw [rem_lin, modulus_rem _ (by omega), Nat.xor_zero]
theorem rest_skip {i a : Nat} (ha : a < 2 ^ (i + 1)) (hb : ¬ a / 2 ^ i % 2 = 1) : a < 2 ^ i := by
  have hp := Nat.two_pow_pos i
  have h1 : a / 2 ^ i < 2 := by rw [Nat.div_lt_iff_lt_mul hp]; rw [Nat.pow_succ] at ha; omega
  have h2 : a / 2 ^ i = 0 := by
    generalize a / 2 ^ i = q at *
    omega
  rcases Nat.lt_or_ge a (2 ^ i) with h | h
  · exact h
  · have := Nat.div_pos h hp
    omega
/-- what stands above bit 30 is folded once -/
def fold (p : Nat) : Nat := p % 2147483648 ^^^ p / 2147483648 ^^^ p / 2147483648 * 8
theorem split_xor (p : Nat) : p = p / 2147483648 * 2 ^ 31 ^^^ p % 2147483648 := by
  have h := Nat.two_pow_add_eq_or_of_lt (i := 31) (b := p % 2147483648) (by omega) (p / 2147483648)
  have hx : p / 2147483648 * 2 ^ 31 ^^^ p % 2147483648 = p / 2147483648 * 2 ^ 31 ||| p % 2147483648 := by
    apply Nat.eq_of_testBit_eq
    intro j
    rw [Nat.testBit_xor, Nat.testBit_or, Nat.testBit_mul_two_pow]
    by_cases hj : 31 ≤ j
    · have : (p % 2147483648).testBit j = false := Nat.testBit_lt_two_pow (Nat.lt_of_lt_of_le (Nat.mod_lt p (by omega)) (Nat.pow_le_pow_right (n := 2) (by omega) hj))
      simp [this]
    · simp [hj]
  rw [hx, Nat.mul_comm (p / 2147483648), ← h]
  omega
theorem fold_rem {p : Nat} (hp : p < 2 ^ 64) : rem (fold p) = rem p := by
  have h1 : p / 2147483648 * 2 ^ 31 < 2 ^ 64 := by omega
  have h2 : p / 2147483648 * 2 ^ 3 < 2 ^ 64 := by omega
  have e : rem p = rem (p / 2147483648 * 2 ^ 31) ^^^ rem (p % 2147483648) := by
    conv => lhs; rw [split_xor p]
    exact rem_lin _ _
  rw [e, rem_shift 31 h1, mx31 (rem_lt _), fold, rem_lin, rem_lin, show p / 2147483648 * 8 = p / 2147483648 * 2 ^ 3 from rfl, rem_shift 3 h2]
  rw [Nat.xor_comm (mxk 3 _), Nat.xor_comm _ (rem (p % 2147483648)), Nat.xor_assoc]
theorem fold_lt36 {p : Nat} (hp : p < 18446744073709551616) : fold p < 68719476736 := by
  refine Nat.xor_lt_two_pow (n := 36) (Nat.xor_lt_two_pow (n := 36) ?_ ?_) ?_ <;> omega
theorem fold_lt31 {p : Nat} (hp : p < 68719476736) : fold p < 2147483648 := by
  refine Nat.xor_lt_two_pow (n := 31) (Nat.xor_lt_two_pow (n := 31) ?_ ?_) ?_ <;> omega
/-- how many folds there still are -/
def folds (p : Nat) : Nat := if p < 2147483648 then 0 else if p < 68719476736 then 1 else 2
theorem folds_lt {p : Nat} (hp : p < 18446744073709551616) (h : 2147483648 ≤ p) : folds (fold p) < folds p := by
  by_cases h36 : p < 68719476736
  · have h0 := fold_lt31 h36
    rw [folds, folds, if_pos h0, if_neg (by omega), if_pos h36]; omega
  · have h0 := fold_lt36 hp
    rw [folds, folds, if_neg (by omega : ¬ p < 2147483648), if_neg h36]
    by_cases h1 : fold p < 2147483648
    · rw [if_pos h1]; omega
    · rw [if_neg h1, if_pos h0]; omega

/-! ### Push -/
theorem times_256 {o : Nat} (h : o < 2147483648) : times o 256 = mxk 8 o := by
  rw [times_T (by omega) (by omega), rem_small h, rem_small (a := 256) (by omega)]
  exact T_pow o 8 (by omega)
theorem x120 : mxk 120 1 = 1207959812 := by decide +kernel
theorem times_120 {g : Nat} (h : g < 2147483648) : times g 1207959812 = mxk 120 g := by
  rw [times_T (by omega) (by omega), rem_small h, rem_small (a := 1207959812) (by omega), ← x120, T_mxk_b 120 h (by omega), T_one]
theorem shift8_rem {o : Nat} (h : o < 2147483648) : rem (o * 256) = mxk 8 o := by
  rw [show (256 : Nat) = 2 ^ 8 from rfl, rem_shift 8 (by omega), rem_small h]
/-- the Sum behind a push -/
def pushS (o g b : Nat) : Nat := mxk 8 (o ^^^ mxk 120 g) ^^^ b
theorem pushS_lt {o g b : Nat} (h : o < 2147483648) (hg : g < 256) (hb : b < 256) : pushS o g b < 2147483648 :=
  Nat.xor_lt_two_pow (n := 31) (mxk_lt 8 (Nat.xor_lt_two_pow (n := 31) h (mxk_lt 120 (by omega)))) (by omega)
theorem mxk8_step (k g : Nat) : mxk 8 (mxk (8 * k) g) = mxk (8 * (k + 1)) g := by
  rw [← mxk_add, show 8 + 8 * k = 8 * (k + 1) from by omega]
end Rl
end Go.Proofs.Ytdalpicpkandcab
