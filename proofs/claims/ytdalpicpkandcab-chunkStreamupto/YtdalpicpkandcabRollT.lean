/-
  What product, remainder and Times of package roll answer.
-/
import Derived.Test.YtdalpicpkandcabBase
import Derived.Test.YtdalpicpkandcabRollMath3
import Derived.WalkSmall
import Derived.Laws.BitsAllLaws
namespace Go.Proofs.Ytdalpicpkandcab
open Go.RowKit

theorem wrap_u64_mod (n : Nat) : IntKind.u64.wrap (n : Int) = ((n % 18446744073709551616 : Nat) : Int) := by
  simp only [IntKind.wrap, IntKind.bits, IntKind.signed]
  simp
theorem wrap_u32_mod (n : Nat) : IntKind.u32.wrap (n : Int) = ((n % 4294967296 : Nat) : Int) := by
  simp only [IntKind.wrap, IntKind.bits, IntKind.signed]
  simp
theorem wrap_u32_small (n : Nat) (h : n < 4294967296) : IntKind.u32.wrap (n : Int) = (n : Int) := by
  rw [wrap_u32_mod, Nat.mod_eq_of_lt h]
theorem shr_int (C k : Nat) : (C : Int) / 2 ^ k = ((C / 2 ^ k : Nat) : Int) := by simp
theorem bit_u32 (C k : Nat) (h : C < 4294967296) : bits BinOp.and IntKind.u32 ((C : Int) / 2 ^ k) 1 = ((C / 2 ^ k % 2 : Nat) : Int) := by
  have hl := Nat.div_le_self C (2 ^ k)
  rw [shr_int, show (1 : Int) = ((1 : Nat) : Int) from rfl, u32_and_nat _ _ (by omega) (by omega), Nat.and_one_is_mod]
theorem bit_u64 (C k : Nat) (h : C < 18446744073709551616) : bits BinOp.and IntKind.u64 ((C : Int) / 2 ^ k) 1 = ((C / 2 ^ k % 2 : Nat) : Int) := by
  have hl := Nat.div_le_self C (2 ^ k)
  rw [shr_int, show (1 : Int) = ((1 : Nat) : Int) from rfl, u64_and_nat _ _ (by omega) (by omega), Nat.and_one_is_mod]
theorem testBit_div (b k : Nat) : b.testBit k = decide (b / 2 ^ k % 2 = 1) := Nat.testBit_eq_decide_div_mod_eq
theorem shl_u64 (a k : Nat) (h : a * 2 ^ k < 18446744073709551616) : IntKind.u64.wrap ((a : Int) * 2 ^ k) = ((a * 2 ^ k : Nat) : Int) := by
  rw [show (a : Int) * 2 ^ k = ((a * 2 ^ k : Nat) : Int) from by simp, wrap_u64_mod, Nat.mod_eq_of_lt h]
theorem cl_in {a b k : Nat} (hb : b / 2 ^ k % 2 = 1) : Rl.cl (k + 1) a b = Rl.cl k a b ^^^ a * 2 ^ k := by
  rw [Rl.cl, testBit_div, if_pos (by simpa using hb)]
theorem cl_out {a b k : Nat} (hb : ¬ b / 2 ^ k % 2 = 1) : Rl.cl (k + 1) a b = Rl.cl k a b := by
  rw [Rl.cl, testBit_div, if_neg (by simpa using hb), Nat.xor_zero]
theorem mul_lt64 {a k : Nat} (ha : a < 4294967296) (hk : k < 32) : a * 2 ^ k < 18446744073709551616 := by
  have h1 : 2 ^ k ≤ 2 ^ 31 := Nat.pow_le_pow_right (by omega) (by omega)
  have h2 : a * 2 ^ k ≤ 4294967295 * 2 ^ 31 := Nat.mul_le_mul (by omega) h1
  omega

set_option maxHeartbeats 400000 in
theorem product_any (a b : Nat) (w : World) (ha : a < 4294967296) (hb : b < 4294967296) :
    Calls Try.prog 35 #[.int .u32 a, .int .u32 b] w fun e w' => e = .returned (.int .u64 (Rl.cl 32 a b : Nat)) ∧ w' = w := by
  go_enter Try.func35, Try.ntmps35
  go_wp2
  go_loop [5, 7] (fun p i => ∃ k : Nat, k ≤ 32 ∧ i = .int .i64 k ∧ p = .int .u64 (Rl.cl k a b : Nat)) (fun _ i => 32 - (intOf i).toNat)
  case atStart => exact ⟨0, by omega, rfl, rfl⟩
  case round =>
    obtain ⟨k, hk, rfl, rfl⟩ := hrel
    by_cases hlt : k < 32
    · by_cases hc : b / 2 ^ k % 2 = 1
      · have hq : (bits BinOp.and IntKind.u32 ((b : Int) / 2 ^ k) 1 == 1) = true := by rw [bit_u32 b k hb, beq_iff_eq]; omega
        have hs := shl_u64 a k (mul_lt64 ha hlt)
        have hx := u64_xor_nat (Rl.cl k a b) (a * 2 ^ k) (Rl.cl_lt ha b k hk) (mul_lt64 ha hlt)
        have HC : Hid (Rl.cl (k + 1) a b = Rl.cl k a b ^^^ a * 2 ^ k) := cl_in hc
        have HX : Hid (bits .xor .u64 (Rl.cl k a b : Int) (IntKind.u64.wrap ((a : Int) * 2 ^ k)) = ((Rl.cl (k + 1) a b : Nat) : Int)) := by show _ = _; rw [hs, hx, HC.out]
        clear hs hx hc HC
        go_wp2
        go_round
        case rel => exact ⟨k + 1, by omega, by go_num, int_eq HX.out⟩
        case measure => simp [intOf]; omega
      · have hq : (bits BinOp.and IntKind.u32 ((b : Int) / 2 ^ k) 1 == 1) = false := by rw [bit_u32 b k hb, beq_eq_false_iff_ne]; omega
        have HC : Hid (Rl.cl (k + 1) a b = Rl.cl k a b) := cl_out hc
        clear hc
        go_wp2
        go_round
        case rel => exact ⟨k + 1, by omega, by go_num, by rw [HC.out]⟩
        case measure => simp [intOf]; omega
    · obtain rfl : k = 32 := by omega
      go_wp2
      go_ret
      exact ⟨rfl, rfl⟩

theorem fold_bits (p : Nat) (hp : p < 18446744073709551616) :
    bits .xor .u64 (bits .xor .u64 (bits .and .u64 (p : Int) 2147483647) ((p : Int) / 2147483648)) ((p : Int) / 2147483648 * 8) = (Rl.fold p : Nat) := by
  have h1 : p % 2147483648 ^^^ p / 2147483648 < 18446744073709551616 := Nat.xor_lt_two_pow (n := 64) (by omega) (by omega)
  rw [show (p : Int) / 2147483648 = ((p / 2147483648 : Nat) : Int) from by omega, show ((p / 2147483648 : Nat) : Int) * 8 = ((p / 2147483648 * 8 : Nat) : Int) from by omega,
    show (2147483647 : Int) = ((2 ^ 31 - 1 : Nat) : Int) from rfl, u64_and_nat _ _ hp (by omega), Nat.and_two_pow_sub_one_eq_mod, u64_xor_nat _ _ (by omega) (by omega), u64_xor_nat _ _ h1 (by omega), Rl.fold]

set_option maxHeartbeats 400000 in
theorem remainder_any (p : Nat) (w : World) (hp : p < 18446744073709551616) :
    Calls Try.prog 34 #[.int .u64 p] w fun e w' => e = .returned (.int .u32 (Rl.rem p : Nat)) ∧ w' = w := by
  go_enter Try.func34, Try.ntmps34
  go_wp2
  go_loop [0] (fun v => ∃ q : Nat, q < 18446744073709551616 ∧ v = .int .u64 q ∧ Hid (Rl.rem q = Rl.rem p)) (fun v => Rl.folds (intOf v).toNat)
  case atStart => exact ⟨p, hp, rfl, rfl⟩
  case round =>
    obtain ⟨q, hq, rfl, HR⟩ := hrel
    by_cases hlt : 2147483648 ≤ q
    · have hne : (((q : Int) / 2147483648) != 0) = true := by rw [bne_iff_ne]; omega
      have HX : Hid (bits .xor .u64 (bits .xor .u64 (bits .and .u64 (q : Int) 2147483647) ((q : Int) / 2147483648)) ((q : Int) / 2147483648 * 8) = (Rl.fold q : Nat)) := fold_bits q hq
      have HF : Hid (Rl.folds (Rl.fold q) < Rl.folds q) := Rl.folds_lt hq hlt
      have HL : Hid (Rl.fold q < 68719476736) := Rl.fold_lt36 hq
      have HR2 : Hid (Rl.rem (Rl.fold q) = Rl.rem p) := (Rl.fold_rem hq).trans HR.out
      go_wp2
      go_round
      case rel => exact ⟨Rl.fold q, by have := HL.out; omega, int_eq HX.out, HR2⟩
      case measure =>
        simp only [intOf]
        rw [HX.out, Int.toNat_natCast, Int.toNat_natCast]
        exact HF.out
    · have hne : (((q : Int) / 2147483648) != 0) = false := by
        rw [show (q : Int) / 2147483648 = 0 from by omega]; rfl
      have HE : Hid ((q : Int) = (Rl.rem p : Nat)) := by
        show _ = _
        rw [← HR.out, Rl.rem_small (by omega)]
      go_wp2
      go_ret
      exact ⟨ret_int HE.out, rfl⟩

set_option maxHeartbeats 400000 in
theorem times_any (a b : Nat) (w : World) (ha : a < 4294967296) (hb : b < 4294967296) :
    Calls Try.prog 32 #[.int .u32 a, .int .u32 b] w fun e w' => e = .returned (.int .u32 (Rl.times a b : Nat)) ∧ w' = w := by
  have hl := Rl.cl_lt ha b 32 (by omega)
  go_enter Try.func32, Try.ntmps32
  go_wp2_with fail
  refine (product_any a b _ ha hb).mono ?_
  rintro e w1 ⟨rfl, rfl⟩
  go_wp2_with fail
  refine (remainder_any _ _ hl).mono ?_
  rintro e w2 ⟨rfl, rfl⟩
  go_wp2_with fail
  go_ret
  exact ⟨rfl, rfl⟩
end Go.Proofs.Ytdalpicpkandcab
