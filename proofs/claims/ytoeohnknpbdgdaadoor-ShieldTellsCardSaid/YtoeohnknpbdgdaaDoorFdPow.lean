/-
  What power, Pow and Inv of package field answer.
-/
import Derived.Test.YtoeohnknpbdgdaaDoorFdMul
namespace Go.Proofs.YtoeohnknpbdgdaaDoor
open Go.RowKit
set_option maxRecDepth 4000

namespace Fd
theorem pow_odd {p c m : Nat} (hp : p < 256) (hc : c < 256) (h : m % 2 = 1) : M (M p c) (P (M c c) (m / 2)) = M p (P c m) := by
  have e : m = 1 + 2 * (m / 2) := by omega
  have h1 : P c m = M c (P (M c c) (m / 2)) := by
    conv => lhs; rw [e]
    rw [P_add hc, P_one hc, P_sq hc]
  rw [h1, M_assoc hp hc (P_lt (M_lt hc c) _)]
theorem pow_even {p c m : Nat} (hc : c < 256) (h : ¬ m % 2 = 1) : M p (P (M c c) (m / 2)) = M p (P c m) := by
  have e : m = 2 * (m / 2) := by omega
  conv => rhs; rw [e]
  rw [P_sq hc]
theorem inv_P {a : Nat} (ha : a < 256) (h0 : a ≠ 0) : P a 254 = inv a := by
  refine inv_only ha (P_lt ha _) ?_
  rw [M_comm ha (P_lt ha _)]
  exact P_255 ha h0
end Fd

theorem and1_i64 (n : Nat) (_h : n < 9223372036854775808) : bits BinOp.and IntKind.i64 (n : Int) 1 = ((n % 2 : Nat) : Int) := by
  have h1 : (BitVec.ofInt 64 1).toNat = 2 ^ 1 - 1 := by decide
  have key : (BitVec.ofInt 64 (n : Int) &&& BitVec.ofInt 64 1).toNat = n % 2 := by
    rw [BitVec.toNat_and, BitVec.toNat_ofInt, h1, Nat.and_two_pow_sub_one_eq_mod]
    omega
  show IntKind.i64.wrap ((BitVec.ofInt 64 (n : Int) &&& BitVec.ofInt 64 1).toNat : Nat) = _
  rw [key, IntKind.wrap_i64]
  omega

set_option maxHeartbeats 1000000 in
theorem power_any (a n : Nat) (w : World) (ha : a < 256) (hn : n < 9223372036854775808) :
    Calls Tryd.prog 38 #[.int .u8 a, .int .i64 n] w fun e w' => e = .returned (.int .u8 (Fd.P a n : Nat)) ∧ w' = w := by
  go_enter Tryd.func38, Tryd.ntmps38
  go_wp2_with fail
  go_loop [0, 1, 5] (fun x y z => ∃ c m p : Nat, c < 256 ∧ p < 256 ∧ m ≤ n ∧ Hid (Fd.M p (Fd.P c m) = Fd.P a n) ∧ x = .int .u8 (c : Nat) ∧ y = .int .i64 (m : Nat) ∧ z = .int .u8 (p : Nat)) (fun _ y _ => (intOf y).toNat)
  case atStart => exact ⟨a, n, 1, ha, by omega, by omega, Fd.one_M (Fd.P_lt ha n), rfl, rfl, rfl⟩
  case round =>
    obtain ⟨c, m, p, hc, hp, hm, HI, rfl, rfl, rfl⟩ := hrel
    by_cases h0 : m = 0
    · subst h0
      have HE : Hid (Fd.P a n = p) := by
        show _ = _
        rw [← HI.out]; exact Fd.M_one hp
      go_wp2_with fail
      go_ret
      exact ⟨ret_int (by rw [HE.out]), rfl⟩
    · have hpos : 0 < m := by omega
      have hand := and1_i64 m (by omega)
      have hsq := fun W => mul_any c c W hc hc
      have hcc := Fd.M_lt hc c
      by_cases ho : m % 2 = 1
      · have hq : (bits BinOp.and IntKind.i64 (m : Int) 1 == 1) = true := by rw [hand, ho]; rfl
        have hpc := fun W => mul_any p c W hp hc
        have hpl := Fd.M_lt hp c
        have HN : Hid (Fd.M (Fd.M p c) (Fd.P (Fd.M c c) (m / 2)) = Fd.P a n) := (Fd.pow_odd hp hc ho).trans HI.out
        generalize Fd.M c c = d at *
        generalize Fd.M p c = q at *
        clear hand HI
        go_wp2_with fail
        refine (hpc _).mono ?_
        rintro e w1 ⟨rfl, rfl⟩
        go_wp2_with fail
        refine (hsq _).mono ?_
        rintro e w1 ⟨rfl, rfl⟩
        go_wp2_with fail
        go_round
        case rel => exact ⟨d, m / 2, q, hcc, hpl, by omega, HN, rfl, by go_num, rfl⟩
        case measure => simp only [intOf]; omega
      · have hq : (bits BinOp.and IntKind.i64 (m : Int) 1 == 1) = false := by rw [hand, show m % 2 = 0 from by omega]; rfl
        have HN : Hid (Fd.M p (Fd.P (Fd.M c c) (m / 2)) = Fd.P a n) := (Fd.pow_even hc ho).trans HI.out
        generalize Fd.M c c = d at *
        clear hand HI
        go_wp2_with fail
        refine (hsq _).mono ?_
        rintro e w1 ⟨rfl, rfl⟩
        go_wp2_with fail
        go_round
        case rel => exact ⟨d, m / 2, p, hcc, hp, by omega, HN, rfl, by go_num, rfl⟩
        case measure => simp only [intOf]; omega

theorem inv_bad (w : World) :
    Calls Tryd.prog 29 #[.int .u8 0] w fun e w' => e = .returned (.tuple #[.int .u8 0, .int .i64 1]) ∧ w' = w := by
  go_enter Tryd.func29, Tryd.ntmps29
  go_wp2_with fail
  go_ret2
  exact ⟨rfl, rfl⟩

theorem inv_any (a : Nat) (w : World) (ha : a < 256) (h0 : a ≠ 0) :
    Calls Tryd.prog 29 #[.int .u8 a] w fun e w' => e = .returned (.tuple #[.int .u8 (Fd.inv a : Nat), .int .i64 0]) ∧ w' = w := by
  have hq : ((a : Int) == 0) = false := by rw [beq_eq_false_iff_ne]; omega
  have hp := fun W => power_any a 254 W ha (by omega)
  rw [Fd.inv_P ha h0] at hp
  generalize Fd.inv a = p at *
  go_enter Tryd.func29, Tryd.ntmps29
  go_wp2_with fail
  refine (hp _).mono ?_
  rintro e w1 ⟨rfl, rfl⟩
  go_wp2_with fail
  go_ret2
  exact ⟨rfl, rfl⟩
end Go.Proofs.YtoeohnknpbdgdaaDoor
