/-
  What bit of package bloom and OnesCount64 of package math/bits answer.
-/
import Derived.Test.YtpagbihebahnnaaBase
import Derived.Test.YtpagbihebahnnaaPopMath
import Derived.Laws.BitsAllLaws
namespace Go.Proofs.Ytpagbihebahnnaa
open Go.RowKit
set_option maxRecDepth 4000

theorem pow_lt64 (k : Nat) : 2 ^ (k % 64) < 18446744073709551616 := Nat.pow_lt_pow_right (a := 2) (n := 64) (by omega) (Nat.mod_lt _ (by omega))
theorem wrap_pow (k : Nat) : IntKind.u64.wrap (2 ^ (k % 64)) = ((2 ^ (k % 64) : Nat) : Int) := by
  have := pow_lt64 k
  rw [show (2 : Int) ^ (k % 64) = ((2 ^ (k % 64) : Nat) : Int) from by simp]
  generalize 2 ^ (k % 64) = n at this ⊢
  exact wrap_u64 _ (by omega) (by omega)
theorem and127_i64 (n : Nat) (_h : n < 9223372036854775808) : bits BinOp.and IntKind.i64 (n : Int) 127 = ((n % 128 : Nat) : Int) := by
  have h1 : (BitVec.ofInt 64 127).toNat = 2 ^ 7 - 1 := by decide
  have key : (BitVec.ofInt 64 (n : Int) &&& BitVec.ofInt 64 127).toNat = n % 128 := by
    rw [BitVec.toNat_and, BitVec.toNat_ofInt, h1, Nat.and_two_pow_sub_one_eq_mod]
    omega
  show IntKind.i64.wrap ((BitVec.ofInt 64 (n : Int) &&& BitVec.ofInt 64 127).toNat : Nat) = _
  rw [key, IntKind.wrap_i64]
  omega

set_option maxHeartbeats 400000 in
theorem bbit_any (k : Nat) (w : World) (hk : k < 1024) :
    Calls Try.prog 14 #[.int .u64 k] w fun e w' => e = .returned (.int .u64 (2 ^ (k % 64) : Nat)) ∧ w' = w := by
  have HW : Hid (IntKind.u64.wrap (2 ^ (k % 64)) = ((2 ^ (k % 64) : Nat) : Int)) := wrap_pow k
  go_enter Try.func14, Try.ntmps14
  go_wp2_with fail
  go_ret
  exact ⟨ret_int HW.out, rfl⟩

set_option maxHeartbeats 400000 in
theorem ones_of (x p1 p2 x1 q1 q2 x2 x3 y1 y2 y3 o : Nat) (w : World) (_hx : x < 18446744073709551616)
    (b1 : p1 ≤ 6148914691236517205) (b2 : p2 ≤ 6148914691236517205) (d1 : q1 ≤ 3689348814741910323) (d2 : q2 ≤ 3689348814741910323) (b3 : x3 ≤ 1085102592571150095)
    (hp1 : bits .and .u64 ((x : Int) / 2) 6148914691236517205 = (p1 : Int)) (hp2 : bits .and .u64 (x : Int) 6148914691236517205 = (p2 : Int)) (e1 : (p1 : Int) + (p2 : Int) = (x1 : Int))
    (hq1 : bits .and .u64 ((x1 : Int) / 4) 3689348814741910323 = (q1 : Int)) (hq2 : bits .and .u64 (x1 : Int) 3689348814741910323 = (q2 : Int)) (e2 : (q1 : Int) + (q2 : Int) = (x2 : Int))
    (h3 : bits .and .u64 ((x2 : Int) / 16 + (x2 : Int)) 1085102592571150095 = (x3 : Int))
    (f1 : (x3 : Int) + (x3 : Int) / 256 = (y1 : Int)) (f2 : (y1 : Int) + (y1 : Int) / 65536 = (y2 : Int)) (f3 : (y2 : Int) + (y2 : Int) / 4294967296 = (y3 : Int)) (ho : bits .and .i64 (y3 : Int) 127 = (o : Int)) :
    Calls Try.prog 16 #[.int .u64 x] w fun e w' => e = .returned (.int .i64 o) ∧ w' = w := by
  have g1 : x1 < 18446744073709551616 := by omega
  have g2 : x2 ≤ 7378697629483820646 := by omega
  have g3 : y3 < 9223372036854775808 := by omega
  have g4 : y2 < 9223372036854775808 := by omega
  have g5 : y1 < 9223372036854775808 := by omega
  go_enter Try.func16, Try.ntmps16
  go_wp2_with fail
  go_ret
  exact ⟨rfl, rfl⟩

theorem ones_any (x : Nat) (w : World) (hx : x < 18446744073709551616) :
    Calls Try.prog 16 #[.int .u64 x] w fun e w' => e = .returned (.int .i64 (Bm.ones x : Nat)) ∧ w' = w := by
  obtain ⟨_, _, _, _, hs, _⟩ := Bm.swar x _ _ _ rfl rfl rfl
  have i1 : (x / 2 &&& 6148914691236517205) ≤ 6148914691236517205 := Nat.and_le_right
  have i2 : (x &&& 6148914691236517205) ≤ 6148914691236517205 := Nat.and_le_right
  obtain ⟨x1, hx1⟩ : ∃ x1, x1 = Bm.s1 (Bm.rep 85 8) x := ⟨_, rfl⟩
  have j1 : (x1 / 4 &&& 3689348814741910323) ≤ 3689348814741910323 := Nat.and_le_right
  have j2 : (x1 &&& 3689348814741910323) ≤ 3689348814741910323 := Nat.and_le_right
  obtain ⟨x2, hx2⟩ : ∃ x2, x2 = Bm.s2 (Bm.rep 51 8) x1 := ⟨_, rfl⟩
  have l1 : x1 = (x / 2 &&& 6148914691236517205) + (x &&& 6148914691236517205) := by rw [hx1, Bm.s1, Bm.rep85]
  have l2 : x2 = (x1 / 4 &&& 3689348814741910323) + (x1 &&& 3689348814741910323) := by rw [hx2, Bm.s2, Bm.rep51]
  have k3 : ((x2 / 16 + x2) &&& 1085102592571150095) ≤ 1085102592571150095 := Nat.and_le_right
  obtain ⟨x3, hx3⟩ : ∃ x3, x3 = Bm.s3 (Bm.rep 15 8) x2 := ⟨_, rfl⟩
  have l3 : x3 = (x2 / 16 + x2) &&& 1085102592571150095 := by rw [hx3, Bm.s3, Bm.rep15]
  have hg : Bm.g 8 x = x3 := by rw [hx3, hx2, hx1]; rfl
  rw [hg] at hs
  rw [← hs]
  clear hs hg hx1 hx2 hx3
  refine ones_of x (x / 2 &&& 6148914691236517205) (x &&& 6148914691236517205) x1 (x1 / 4 &&& 3689348814741910323) (x1 &&& 3689348814741910323) x2 x3 (x3 + x3 / 256) (x3 + x3 / 256 + (x3 + x3 / 256) / 65536) _ _ w hx i1 i2 j1 j2 (by rw [l3]; exact k3) ?_ ?_ ?_ ?_ ?_ ?_ ?_ (by omega) (by omega) (by omega) (and127_i64 _ (by rw [← l3] at k3; omega))
  · rw [← u64_and_nat (x / 2) 6148914691236517205 (by omega) (by omega)]; rfl
  · rw [← u64_and_nat x 6148914691236517205 (by omega) (by omega)]; rfl
  · rw [l1]; omega
  · rw [← u64_and_nat (x1 / 4) 3689348814741910323 (by omega) (by omega)]; rfl
  · rw [← u64_and_nat x1 3689348814741910323 (by omega) (by omega)]; rfl
  · rw [l2]; omega
  · rw [l3, ← u64_and_nat (x2 / 16 + x2) 1085102592571150095 (by omega) (by omega)]; rfl
end Go.Proofs.Ytpagbihebahnnaa
