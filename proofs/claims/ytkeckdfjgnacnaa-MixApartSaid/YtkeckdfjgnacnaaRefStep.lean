/-
  What product and Step of the document's answer (package lumref) answer.
-/
import Derived.Test.YtkeckdfjgnacnaaBase
import Derived.Test.YtkeckdfjgnacnaaMixMath
import Derived.WalkKit
import Derived.WalkSpells
import Derived.WalkLawsBesides
import Derived.WalkSmall
namespace Go.Proofs.Ytkeckdfjgnacnaa
open Go.RowKit

theorem wrap_u64_mod (n : Nat) : IntKind.u64.wrap (n : Int) = ((n % 18446744073709551616 : Nat) : Int) := by
  simp only [IntKind.wrap, IntKind.bits, IntKind.signed]
  simp

/-- a times the lowest i bits of b -/
def part (a b i : Nat) : Nat := a * (b % 2 ^ i) % 18446744073709551616
theorem part_succ (a b i : Nat) : part a b (i + 1) = (part a b i + (if b / 2 ^ i % 2 = 1 then a * 2 ^ i % 18446744073709551616 else 0)) % 18446744073709551616 := by
  unfold part
  rw [Nat.pow_succ, Nat.mod_mul, Nat.mul_add]
  split
  · rename_i h
    rw [h, Nat.mul_one, Nat.add_mod]
  · rename_i h
    have : b / 2 ^ i % 2 = 0 := by omega
    rw [this, Nat.mul_zero, Nat.mul_zero, Nat.add_zero, Nat.add_zero, Nat.mod_mod]
theorem part_all (a b : Nat) (hb : b < 18446744073709551616) : part a b 64 = a * b % 18446744073709551616 := by
  unfold part
  rw [Nat.mod_eq_of_lt (a := b) (b := 2 ^ 64) (by omega)]

theorem part_mod (a b i : Nat) : part a b i % 18446744073709551616 = part a b i := by unfold part; rw [Nat.mod_mod]
theorem shr_int (C k : Nat) : (C : Int) / 2 ^ k = ((C / 2 ^ k : Nat) : Int) := by simp
theorem bit_of (C k : Nat) (h : C < 18446744073709551616) : bits BinOp.and IntKind.u64 ((C : Int) / 2 ^ k) 1 = ((C / 2 ^ k % 2 : Nat) : Int) := by
  have hl := Nat.div_le_self C (2 ^ k)
  rw [shr_int]
  generalize C / 2 ^ k = q at *
  rw [and_one_u64 _ (by omega) (by omega)]
  omega
theorem sum_wrap (p A k : Nat) : IntKind.u64.wrap ((p : Int) + IntKind.u64.wrap ((A : Int) * 2 ^ k)) = (((p + A * 2 ^ k % 18446744073709551616) % 18446744073709551616 : Nat) : Int) := by
  rw [show (A : Int) * 2 ^ k = ((A * 2 ^ k : Nat) : Int) from by simp, wrap_u64_mod, ← Int.natCast_add, wrap_u64_mod]

set_option maxHeartbeats 400000 in
theorem product_any (a b : Int) (w : World) (a0 : 0 ≤ a) (a1 : a ≤ 18446744073709551615) (b0 : 0 ≤ b) (b1 : b ≤ 18446744073709551615) :
    Calls Try.prog 20 #[.int .u64 a, .int .u64 b] w fun e w' => e = .returned (.int .u64 (Mx.prod a.toNat b.toNat : Int)) ∧ w' = w := by
  obtain ⟨A, rfl⟩ := Int.eq_ofNat_of_zero_le a0
  obtain ⟨C, rfl⟩ := Int.eq_ofNat_of_zero_le b0
  simp only [Int.toNat_natCast]
  go_enter Try.func20, Try.ntmps20
  go_wp2
  go_loop [5, 7] (fun o i => ∃ k : Nat, k ≤ 64 ∧ i = .int .i64 k ∧ o = .int .u64 (part A C k)) (fun _ i => 64 - (intOf i).toNat)
  case atStart => exact ⟨0, by omega, rfl, by simp [part, Nat.mod_one]⟩
  case round =>
    obtain ⟨k, hk, rfl, rfl⟩ := hrel
    by_cases hlt : k < 64
    · have hp := part_succ A C k
      by_cases hb : C / 2 ^ k % 2 = 1
      · have hq : (bits BinOp.and IntKind.u64 ((C : Int) / 2 ^ k) 1 == 1) = true := by rw [bit_of C k (by omega), beq_iff_eq]; omega
        rw [if_pos hb] at hp
        have HP : Hid (part A C (k + 1) = (part A C k + A * 2 ^ k % 18446744073709551616) % 18446744073709551616) := hp
        clear hp hb
        go_wp2
        go_round
        case rel => exact ⟨k + 1, by omega, by go_num, int_eq (by rw [HP.out, sum_wrap])⟩
        case measure => simp [intOf]; omega
      · have hq : (bits BinOp.and IntKind.u64 ((C : Int) / 2 ^ k) 1 == 1) = false := by rw [bit_of C k (by omega), beq_eq_false_iff_ne]; omega
        rw [if_neg hb, Nat.add_zero] at hp
        have HP : Hid (part A C (k + 1) = part A C k % 18446744073709551616) := hp
        clear hp hb
        go_wp2
        go_round
        case rel => exact ⟨k + 1, by omega, by go_num, int_eq (by rw [HP.out, part_mod])⟩
        case measure => simp [intOf]; omega
    · go_wp2
      go_ret
      have hp : part A C k = Mx.prod A C := by rw [show k = 64 from by omega, part_all A C (by omega)]; rfl
      refine ⟨?_, rfl⟩
      rw [← hp]
      rfl

theorem xs_int29 (z : Nat) (h : z < 18446744073709551616) : bits .xor .u64 (z : Int) ((z : Int) / 536870912) = (Mx.xs 29 z : Int) := by
  rw [show (z : Int) / 536870912 = ((z / 536870912 : Nat) : Int) from by omega, u64_xor_nat _ _ h (by omega), Mx.xs, Nat.shiftRight_eq_div_pow]
theorem xs_int32 (z : Nat) (h : z < 18446744073709551616) : bits .xor .u64 (z : Int) ((z : Int) / 4294967296) = (Mx.xs 32 z : Int) := by
  rw [show (z : Int) / 4294967296 = ((z / 4294967296 : Nat) : Int) from by omega, u64_xor_nat _ _ h (by omega), Mx.xs, Nat.shiftRight_eq_div_pow]
theorem xor_int (a b : Nat) (ha : a < 18446744073709551616) (hb : b < 18446744073709551616) : bits .xor .u64 (a : Int) (b : Int) = ((a ^^^ b : Nat) : Int) := u64_xor_nat a b ha hb

set_option maxHeartbeats 400000 in
theorem rstep_any (x b : Int) (w : World) (x0 : 0 ≤ x) (x1 : x ≤ 18446744073709551615) (b0 : 0 ≤ b) (b1 : b ≤ 18446744073709551615) :
    Calls Try.prog 10 #[.int .u64 x, .int .u64 b] w fun e w' => e = .returned (.int .u64 (Mx.step x.toNat b.toNat : Int)) ∧ w' = w := by
  obtain ⟨X, rfl⟩ := Int.eq_ofNat_of_zero_le x0
  obtain ⟨C, rfl⟩ := Int.eq_ofNat_of_zero_le b0
  simp only [Int.toNat_natCast]
  have h1 := u64_xor_nat X C (by omega) (by omega)
  have l1 := Mx.xor_lt (a := X) (b := C) (by omega) (by omega)
  go_enter Try.func10, Try.ntmps10
  go_wp2_with fail
  refine (product_any _ _ _ (by omega) (by omega) (by omega) (by omega)).mono ?_
  rintro e w ⟨rfl, rfl⟩
  rw [Int.toNat_natCast, show (11400714819323198485 : Int).toNat = 11400714819323198485 from rfl]
  have l2 := Mx.prod_lt (X ^^^ C) 11400714819323198485
  have h2 := xs_int29 _ l2
  have l3 := Mx.xs_lt (k := 29) l2
  go_wp2_with fail
  refine (product_any _ _ _ (by omega) (by omega) (by omega) (by omega)).mono ?_
  rintro e w ⟨rfl, rfl⟩
  rw [Int.toNat_natCast, show (13787848793156543929 : Int).toNat = 13787848793156543929 from rfl]
  have l4 := Mx.prod_lt (Mx.xs 29 (Mx.prod (X ^^^ C) 11400714819323198485)) 13787848793156543929
  have h4 := xs_int32 _ l4
  clear h1 h2
  go_wp2_with fail
  go_ret
  exact ⟨rfl, rfl⟩
end Go.Proofs.Ytkeckdfjgnacnaa
