/-
  What rest and Times of the document's answer (package lumref) answer.
-/
import Derived.Test.YtdalpicpkandcaaRollT
namespace Go.Proofs.Ytdalpicpkandcaa
open Go.RowKit

theorem mod_shl (i : Nat) (h31 : 31 ≤ i) (hi : i ≤ 63) : 2147483657 * 2 ^ (i - 31) < 18446744073709551616 := by
  have h1 : 2 ^ (i - 31) ≤ 2 ^ 32 := Nat.pow_le_pow_right (by omega) (by omega)
  have h2 : 2147483657 * 2 ^ (i - 31) ≤ 2147483657 * 2 ^ 32 := Nat.mul_le_mul (Nat.le_refl _) h1
  omega
theorem pow_le64 {i : Nat} (h : i ≤ 64) : 2 ^ i ≤ 18446744073709551616 := Nat.pow_le_pow_right (n := 2) (j := 64) (by omega) h

set_option maxHeartbeats 400000 in
theorem rrest_any (p : Nat) (w : World) (hp : p < 18446744073709551616) :
    Calls Try.prog 46 #[.int .u64 p] w fun e w' => e = .returned (.int .u32 (Rl.rem p : Nat)) ∧ w' = w := by
  go_enter Try.func46, Try.ntmps46
  go_wp2
  go_loop [0, 3] (fun v i => ∃ k q : Nat, 30 ≤ k ∧ k ≤ 63 ∧ i = .int .i64 k ∧ v = .int .u64 q ∧ Hid (q < 2 ^ (k + 1)) ∧ Hid (Rl.rem q = Rl.rem p)) (fun _ i => (intOf i).toNat)
  case atStart => exact ⟨63, p, by omega, by omega, rfl, rfl, hp, rfl⟩
  case round =>
    obtain ⟨k, q, h30, hk, rfl, rfl, HL, HR⟩ := hrel
    have hq : q < 18446744073709551616 := Nat.lt_of_lt_of_le HL.out (pow_le64 (by omega))
    by_cases hlt : 31 ≤ k
    · by_cases hc : q / 2 ^ k % 2 = 1
      · have hb : (bits BinOp.and IntKind.u64 ((q : Int) / 2 ^ k) 1 == 1) = true := by rw [bit_u64 q k hq, beq_iff_eq]; omega
        obtain ⟨h1, h2⟩ := Rl.rest_step hlt hk HL.out hc
        have hM := mod_shl k hlt hk
        have HX : Hid (bits .xor .u64 (q : Int) (IntKind.u64.wrap (2147483657 * 2 ^ (k - 31))) = ((q ^^^ 2147483657 * 2 ^ (k - 31) : Nat) : Int)) := by
          show _ = _
          rw [show (2147483657 : Int) = ((2147483657 : Nat) : Int) from rfl, shl_u64 _ _ hM, u64_xor_nat _ _ hq hM]
        have H1 : Hid (q ^^^ 2147483657 * 2 ^ (k - 31) < 2 ^ (k - 1 + 1)) := by show _ < _; rw [show k - 1 + 1 = k from by omega]; exact h1
        have H2 : Hid (Rl.rem (q ^^^ 2147483657 * 2 ^ (k - 31)) = Rl.rem p) := h2.trans HR.out
        clear h1 h2 hM hc
        go_wp2
        go_round
        case rel => exact ⟨k - 1, _, by omega, by omega, int_eq (by omega), int_eq HX.out, H1, H2⟩
        case measure => simp only [intOf]; omega
      · have hb : (bits BinOp.and IntKind.u64 ((q : Int) / 2 ^ k) 1 == 1) = false := by rw [bit_u64 q k hq, beq_eq_false_iff_ne]; omega
        have H1 : Hid (q < 2 ^ (k - 1 + 1)) := by show _ < _; rw [show k - 1 + 1 = k from by omega]; exact Rl.rest_skip HL.out hc
        clear hc
        go_wp2
        go_round
        case rel => exact ⟨k - 1, _, by omega, by omega, int_eq (by omega), rfl, H1, HR⟩
        case measure => simp only [intOf]; omega
    · obtain rfl : k = 30 := by omega
      have HE : Hid ((q : Int) = (Rl.rem p : Nat)) := by
        show _ = _
        rw [← HR.out, Rl.rem_small HL.out]
      have hq31 : q < 2147483648 := HL.out
      go_wp2
      go_ret
      exact ⟨ret_int HE.out, rfl⟩
end Go.Proofs.Ytdalpicpkandcaa
