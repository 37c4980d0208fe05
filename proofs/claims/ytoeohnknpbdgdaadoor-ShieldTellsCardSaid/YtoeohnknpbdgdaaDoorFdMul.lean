/-
  What timesX, Mul, power, Pow and Inv of package field answer.
-/
import Derived.Test.YtoeohnknpbdgdaaDoorBase
import Derived.Test.YtoeohnknpbdgdaaDoorFdPoly
import Derived.WalkSmall
import Derived.Laws.BitsAllLaws
namespace Go.Proofs.YtoeohnknpbdgdaaDoor
open Go.RowKit
set_option maxRecDepth 4000

namespace Fd
theorem mx_low {a : Nat} (h : a < 128) : mx a = 2 * a := by
  rw [mx, if_neg]
  rw [Nat.testBit_eq_decide_div_mod_eq]; simp; omega
theorem mx_high {a : Nat} (h : 128 ≤ a) (h2 : a < 256) : mx a = 2 * a % 256 ^^^ 29 := by
  have k : ∀ a, a < 256 → 128 ≤ a → mx a = 2 * a % 256 ^^^ 29 := by decide +kernel
  exact k a h2 h
theorem tB_in {a b k : Nat} (hb : b / 2 ^ k % 2 = 1) : tB (k + 1) a b = tB k a b ^^^ mxk k a := by
  rw [tB, Nat.testBit_eq_decide_div_mod_eq, if_pos (by simpa using hb)]
theorem tB_out {a b k : Nat} (hb : ¬ b / 2 ^ k % 2 = 1) : tB (k + 1) a b = tB k a b := by
  rw [tB, Nat.testBit_eq_decide_div_mod_eq, if_neg (by simpa using hb), Nat.xor_zero]
theorem tB_done {a b k : Nat} (hb : b / 2 ^ k = 0) : ∀ n, tB (k + n) a b = tB k a b
  | 0 => rfl
  | n + 1 => by
    rw [← Nat.add_assoc, tB_out, tB_done hb n]
    rw [Nat.pow_add, ← Nat.div_div_eq_div_mul, hb]; simp
theorem M_done {a b k : Nat} (hb : b / 2 ^ k = 0) (hk : k ≤ 8) : M a b = tB k a b := by
  have := tB_done (a := a) hb (8 - k)
  rw [show k + (8 - k) = 8 from by omega] at this
  exact this
end Fd

theorem and1_u8 (b : Nat) (h : b < 256) : bits BinOp.and IntKind.u8 (b : Int) 1 = ((b % 2 : Nat) : Int) := by
  rw [show (1 : Int) = ((1 : Nat) : Int) from rfl, u8_and_nat _ _ h (by omega), Nat.and_one_is_mod]
theorem and128_u8 (b : Nat) (h : b < 256) : (bits BinOp.and IntKind.u8 (b : Int) 128 == 0) = decide (b < 128) := by
  have k : ∀ b, b < 256 → (((b &&& 128 : Nat) : Int) == 0) = decide (b < 128) := by decide +kernel
  rw [show (128 : Int) = ((128 : Nat) : Int) from rfl, u8_and_nat _ _ h (by omega), k b h]
theorem wrap_u8_mod (n : Nat) : IntKind.u8.wrap (n : Int) = ((n % 256 : Nat) : Int) := by
  rw [IntKind.wrap_u8']; simp

theorem wf_byte {n : Int} (h : (Lit.int .u8 n).wf = true) : ∃ k : Nat, n = k ∧ k < 256 := by
  have h' : 0 ≤ n ∧ n ≤ 255 := by simpa [Lit.wf, IntKind.min, IntKind.max, IntKind.signed, IntKind.bits] using h
  exact ⟨n.toNat, by omega, by omega⟩

theorem timesX_any (a : Nat) (w : World) (ha : a < 256) :
    Calls Tryd.prog 40 #[.int .u8 a] w fun e w' => e = .returned (.int .u8 (Fd.mx a : Nat)) ∧ w' = w := by
  have hq := and128_u8 a ha
  by_cases h : a < 128
  · rw [decide_eq_true h] at hq
    have HM : Hid (Fd.mx a = 2 * a) := Fd.mx_low h
    go_enter Tryd.func40, Tryd.ntmps40
    go_wp2_with fail
    go_ret
    exact ⟨ret_int (by rw [HM.out]; omega), rfl⟩
  · rw [decide_eq_false h] at hq
    have HM : Hid (Fd.mx a = 2 * a % 256 ^^^ 29) := Fd.mx_high (by omega) ha
    have hx : bits .xor .u8 (IntKind.u8.wrap ((a : Int) * 2)) 29 = ((2 * a % 256 ^^^ 29 : Nat) : Int) := by
      rw [show (a : Int) * 2 = ((2 * a : Nat) : Int) from by omega, wrap_u8_mod, show (29 : Int) = ((29 : Nat) : Int) from rfl, u8_xor_nat _ _ (by omega) (by omega)]
    go_enter Tryd.func40, Tryd.ntmps40
    go_wp2_with fail
    go_ret
    exact ⟨ret_int (by rw [HM.out]; exact hx), rfl⟩

set_option maxHeartbeats 1000000 in
theorem mul_any (a b : Nat) (w : World) (ha : a < 256) (hb : b < 256) :
    Calls Tryd.prog 33 #[.int .u8 a, .int .u8 b] w fun e w' => e = .returned (.int .u8 (Fd.M a b : Nat)) ∧ w' = w := by
  have HA : Hid (∀ k, Fd.mxk k a < 256) := fun k => Fd.mxk_lt k ha
  have HT : Hid (∀ k, Fd.tB k a b < 256) := fun k => Fd.tB_lt k ha b
  go_enter Tryd.func33, Tryd.ntmps33
  go_wp2_with fail
  go_loop [0, 1, 5] (fun x y p => ∃ k c : Nat, k ≤ 8 ∧ Hid (c = b / 2 ^ k) ∧ x = .int .u8 (Fd.mxk k a : Nat) ∧ y = .int .u8 (c : Nat) ∧ p = .int .u8 (Fd.tB k a b : Nat)) (fun _ y _ => (intOf y).toNat)
  case atStart => exact ⟨0, b, by omega, by show _ = _; simp, rfl, rfl, rfl⟩
  case round =>
    obtain ⟨k, c, hk, hc, rfl, rfl, rfl⟩ := hrel
    have hcl : c ≤ b := by rw [hc.out]; exact Nat.div_le_self ..
    have hcn : b / 2 ^ (k + 1) = c / 2 := by rw [hc.out, Nat.pow_succ, Nat.div_div_eq_div_mul]
    by_cases h0 : c = 0
    · have HM : Hid (Fd.M a b = Fd.tB k a b) := Fd.M_done (by rw [← hc.out, h0]) hk
      subst h0
      go_wp2_with fail
      go_ret
      exact ⟨ret_int (by rw [HM.out]), rfl⟩
    · have hk8 : k < 8 := by
        rcases Nat.lt_or_ge k 8 with h | h
        · exact h
        · obtain rfl : k = 8 := by omega
          have := hc.out
          omega
      have hne : ((c : Int) != 0) = true := by rw [bne_iff_ne]; omega
      have hx1 := HA.out k
      have hp1 := HT.out k
      have hand := and1_u8 c (by omega)
      have HN : Hid (c / 2 = b / 2 ^ (k + 1)) := hcn.symm
      have hmx : ∀ W, Calls Tryd.prog 40 #[.int .u8 (Fd.mxk k a : Nat)] W fun e w' => e = .returned (.int .u8 (Fd.mxk (k + 1) a : Nat)) ∧ w' = W := fun W => timesX_any _ W hx1
      by_cases ho : c % 2 = 1
      · have hq : (bits BinOp.and IntKind.u8 (c : Int) 1 == 1) = true := by rw [hand, ho]; rfl
        have hx := u8_xor_nat _ _ hp1 hx1
        have HI : Hid (Fd.tB (k + 1) a b = Fd.tB k a b ^^^ Fd.mxk k a) := Fd.tB_in (by rw [← hc.out]; exact ho)
        generalize Fd.mxk k a = x at *
        generalize Fd.tB k a b = p at *
        clear hand hcn hc
        go_wp2_with fail
        refine (hmx _).mono ?_
        rintro e w1 ⟨rfl, rfl⟩
        go_wp2_with fail
        go_round
        case rel => exact ⟨k + 1, c / 2, by omega, HN, rfl, by go_num, by rw [HI.out, ← hx]⟩
        case measure => simp only [intOf]; omega
      · have hq : (bits BinOp.and IntKind.u8 (c : Int) 1 == 1) = false := by rw [hand, show c % 2 = 0 from by omega]; rfl
        have HI : Hid (Fd.tB (k + 1) a b = Fd.tB k a b) := Fd.tB_out (by rw [← hc.out]; exact ho)
        generalize Fd.mxk k a = x at *
        generalize Fd.tB k a b = p at *
        clear hand hcn hc
        go_wp2_with fail
        refine (hmx _).mono ?_
        rintro e w1 ⟨rfl, rfl⟩
        go_wp2_with fail
        go_round
        case rel => exact ⟨k + 1, c / 2, by omega, HN, rfl, by go_num, by rw [HI.out]⟩
        case measure => simp only [intOf]; omega
end Go.Proofs.YtoeohnknpbdgdaaDoor
