/-
  What Mul, Pow and Inv of the document's answer (package lumref) answer.
-/
import Derived.Test.YtoeohnknpbdgdaaDoorFdPow
namespace Go.Proofs.YtoeohnknpbdgdaaDoor
open Go.RowKit

theorem xor_i64 (a b : Nat) (ha : a < 9223372036854775808) (hb : b < 9223372036854775808) : bits .xor .i64 (a : Int) (b : Int) = ((a ^^^ b : Nat) : Int) := by
  have hx : a ^^^ b < 2 ^ 63 := Nat.xor_lt_two_pow (by omega) (by omega)
  have e : ∀ c : Nat, c < 9223372036854775808 → (BitVec.ofInt 64 (c : Int)).toNat = c := fun c hc => by
    rw [BitVec.ofInt_natCast, BitVec.toNat_ofNat]; exact Nat.mod_eq_of_lt (by omega)
  show IntKind.i64.wrap ((BitVec.ofInt 64 (a : Int) ^^^ BitVec.ofInt 64 (b : Int)).toNat : Int) = _
  rw [BitVec.toNat_xor, e a ha, e b hb, IntKind.wrap_i64]
  omega
theorem bit_u8 (b k : Nat) (h : b < 256) : bits BinOp.and IntKind.u8 ((b : Int) / 2 ^ k) 1 = ((b / 2 ^ k % 2 : Nat) : Int) := by
  have hl := Nat.div_le_self b (2 ^ k)
  rw [show (b : Int) / 2 ^ k = ((b / 2 ^ k : Nat) : Int) from by simp, and1_u8 _ (by omega)]
theorem bit_i64 (b k : Nat) (h : b < 9223372036854775808) : bits BinOp.and IntKind.i64 ((b : Int) / 2 ^ k) 1 = ((b / 2 ^ k % 2 : Nat) : Int) := by
  have hl := Nat.div_le_self b (2 ^ k)
  rw [show (b : Int) / 2 ^ k = ((b / 2 ^ k : Nat) : Int) from by simp, and1_i64 _ (by omega)]
theorem shl_i64 (a k : Nat) (h : a * 2 ^ k < 9223372036854775808) : wrap64 ((a : Int) * 2 ^ k) = ((a * 2 ^ k : Nat) : Int) := by
  rw [show (a : Int) * 2 ^ k = ((a * 2 ^ k : Nat) : Int) from by simp, wrap64]
  omega
namespace Fd
theorem cl_in {a b k : Nat} (hb : b / 2 ^ k % 2 = 1) : cl (k + 1) a b = cl k a b ^^^ a * 2 ^ k := by
  rw [cl, Nat.testBit_eq_decide_div_mod_eq, if_pos (by simpa using hb)]
theorem cl_out {a b k : Nat} (hb : ¬ b / 2 ^ k % 2 = 1) : cl (k + 1) a b = cl k a b := by
  rw [cl, Nat.testBit_eq_decide_div_mod_eq, if_neg (by simpa using hb), Nat.xor_zero]
theorem sh_lt {a n k m : Nat} (ha : a < 2 ^ n) (hk : n + k ≤ m) : a * 2 ^ k < 2 ^ m := by
  have h1 : a * 2 ^ k < 2 ^ n * 2 ^ k := (Nat.mul_lt_mul_right (Nat.two_pow_pos k)).2 ha
  rw [← Nat.pow_add] at h1
  exact Nat.lt_of_lt_of_le h1 (Nat.pow_le_pow_right (by omega) hk)
theorem cl_lt {a b : Nat} (ha : a < 256) : ∀ k, k ≤ 8 → cl k a b < 65536
  | 0, _ => by show (0 : Nat) < _; omega
  | k + 1, h => by
    rw [cl]
    refine Nat.xor_lt_two_pow (n := 16) (cl_lt ha k (by omega)) ?_
    split
    · exact sh_lt (n := 8) ha (by omega)
    · omega
theorem rs_in {i x : Nat} (h : x / 2 ^ i % 2 = 1) : rs i x = x ^^^ 285 * 2 ^ (i - 8) := by
  rw [rs, Nat.testBit_eq_decide_div_mod_eq, if_pos (by simpa using h)]
theorem rs_out {i x : Nat} (h : ¬ x / 2 ^ i % 2 = 1) : rs i x = x := by
  rw [rs, Nat.testBit_eq_decide_div_mod_eq, if_neg (by simpa using h)]
theorem rs_lt {k x : Nat} (hk : k < 8) (h : x < 65536) : rs (k + 8) x < 65536 := by
  by_cases hb : x / 2 ^ (k + 8) % 2 = 1
  · rw [rs_in hb]
    refine Nat.xor_lt_two_pow (n := 16) h ?_
    exact sh_lt (n := 9) (by omega) (by omega)
  · rw [rs_out hb]; exact h
end Fd
end Go.Proofs.YtoeohnknpbdgdaaDoor
