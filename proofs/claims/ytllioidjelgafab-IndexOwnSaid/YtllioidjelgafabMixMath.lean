/-
  Plain facts (no Go in here) on the digest's step: it can be undone.
-/
import Derived.WalkKit
import Derived.Laws.BitsAllLaws
import Derived.Lib.Strings
namespace Go.Proofs.Ytllioidjelgafab
namespace Mx

/-- the exclusive or with itself shifted down -/
def xs (k z : Nat) : Nat := z ^^^ (z >>> k)
/-- the product of 64 bits -/
def prod (a b : Nat) : Nat := a * b % 18446744073709551616
def step (x b : Nat) : Nat := xs 32 (prod (xs 29 (prod (x ^^^ b) 11400714819323198485)) 13787848793156543929)
def undo (y b : Nat) : Nat := prod (xs 29 (prod (xs 32 y) 10871156337175269513) ^^^ (prod (xs 32 y) 10871156337175269513) >>> 58) 17428512612931826493 ^^^ b

theorem xor_lt {a b : Nat} (ha : a < 18446744073709551616) (hb : b < 18446744073709551616) : a ^^^ b < 18446744073709551616 :=
  Nat.xor_lt_two_pow (n := 64) ha hb
theorem shr_lt {a : Nat} (k : Nat) (ha : a < 18446744073709551616) : a >>> k < 18446744073709551616 := by
  rw [Nat.shiftRight_eq_div_pow]
  exact Nat.lt_of_le_of_lt (Nat.div_le_self _ _) ha
theorem xs_lt {k z : Nat} (h : z < 18446744073709551616) : xs k z < 18446744073709551616 := xor_lt h (shr_lt k h)
theorem shr_zero {z k : Nat} (h : z < 18446744073709551616) (hk : 64 ≤ k) : z >>> k = 0 := by
  rw [Nat.shiftRight_eq_div_pow]
  exact Nat.div_eq_of_lt (Nat.lt_of_lt_of_le h (Nat.pow_le_pow_right (n := 2) (by omega) hk))
theorem xs_xs32 {z : Nat} (h : z < 18446744073709551616) : xs 32 (xs 32 z) = z := by
  unfold xs
  rw [Nat.shiftRight_xor_distrib, ← Nat.shiftRight_add, shr_zero (k := 32 + 32) h (by omega), Nat.xor_zero, Nat.xor_assoc, Nat.xor_self, Nat.xor_zero]
theorem xs_back29 {z : Nat} (h : z < 18446744073709551616) : xs 29 (xs 29 z) ^^^ (xs 29 z) >>> 58 = z := by
  unfold xs
  rw [Nat.shiftRight_xor_distrib, Nat.shiftRight_xor_distrib, ← Nat.shiftRight_add, ← Nat.shiftRight_add, shr_zero (k := 29 + 58) h (by omega), Nat.xor_zero]
  rw [show z ^^^ z >>> 29 ^^^ (z >>> 29 ^^^ z >>> (29 + 29)) = z ^^^ z >>> 58 from by
    rw [Nat.xor_assoc, ← Nat.xor_assoc (z >>> 29), Nat.xor_self, Nat.zero_xor]]
  rw [Nat.xor_assoc, Nat.xor_self, Nat.xor_zero]
/-- .. and the other way round -/
theorem xs_fore29 {y : Nat} (h : y < 18446744073709551616) : xs 29 (xs 29 y ^^^ y >>> 58) = y := by
  unfold xs
  rw [Nat.shiftRight_xor_distrib, Nat.shiftRight_xor_distrib, ← Nat.shiftRight_add, ← Nat.shiftRight_add, shr_zero (k := 58 + 29) h (by omega), Nat.xor_zero]
  show y ^^^ y >>> 29 ^^^ y >>> 58 ^^^ (y >>> 29 ^^^ y >>> 58) = y
  rw [Nat.xor_assoc y, Nat.xor_assoc y, Nat.xor_self, Nat.xor_zero]
theorem mul_back {a b z : Nat} (hab : a * b % 18446744073709551616 = 1) (h : z < 18446744073709551616) : z * a % 18446744073709551616 * b % 18446744073709551616 = z := by
  rw [Nat.mod_mul_mod, Nat.mul_assoc, ← Nat.mul_mod_mod, hab, Nat.mul_one, Nat.mod_eq_of_lt h]
theorem xor_back (x b : Nat) : x ^^^ b ^^^ b = x := by rw [Nat.xor_assoc, Nat.xor_self, Nat.xor_zero]
theorem mod_lt' (a : Nat) : a % 18446744073709551616 < 18446744073709551616 := Nat.mod_lt _ (by omega)
theorem prod_lt (a b : Nat) : prod a b < 18446744073709551616 := mod_lt' _
theorem step_lt (x b : Nat) : step x b < 18446744073709551616 := xs_lt (mod_lt' _)
theorem undo_step {x b : Nat} (hx : x < 18446744073709551616) (hb : b < 18446744073709551616) : undo (step x b) b = x := by
  unfold undo step prod
  rw [xs_xs32 (mod_lt' _), mul_back (by decide) (xs_lt (mod_lt' _)), xs_back29 (mod_lt' _), mul_back (by decide) (xor_lt hx hb), xor_back]
theorem step_undo {y b : Nat} (hy : y < 18446744073709551616) : step (undo y b) b = y := by
  unfold undo step prod
  rw [xor_back, mul_back (by decide) (xor_lt (xs_lt (mod_lt' _)) (shr_lt _ (mod_lt' _))), xs_fore29 (mod_lt' _), mul_back (by decide) (xs_lt hy), xs_xs32 hy]
theorem undo_lt {y b : Nat} (hb : b < 18446744073709551616) : undo y b < 18446744073709551616 := xor_lt (mod_lt' _) hb
theorem step_inj {x x' b : Nat} (hx : x < 18446744073709551616) (hx' : x' < 18446744073709551616) (hb : b < 18446744073709551616) (h : step x b = step x' b) : x = x' := by
  have := congrArg (fun y => undo y b) h
  simpa only [undo_step hx hb, undo_step hx' hb] using this
theorem step_comm (x b : Nat) : step x b = step b x := by unfold step; rw [Nat.xor_comm]
theorem step_inj_block {x b b' : Nat} (hx : x < 18446744073709551616) (hb : b < 18446744073709551616) (hb' : b' < 18446744073709551616) (h : step x b = step x b') : b = b' := by
  rw [step_comm x b, step_comm x b'] at h
  exact step_inj hb hb' hx h
end Mx
end Go.Proofs.Ytllioidjelgafab
