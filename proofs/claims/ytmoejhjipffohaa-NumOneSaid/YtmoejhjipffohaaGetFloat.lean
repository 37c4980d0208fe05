/-
  What GetFloat of package num answers.
-/
import Derived.Test.YtmoejhjipffohaaFloat
import Derived.Test.YtmoejhjipffohaaGet
namespace Go.Proofs.Ytmoejhjipffohaa
open Go.RowKit

theorem run_frombits (n : Nat) (w : World) : (callFunc 32 #[.int .u64 n]).run Try.prog w = .ok (.value (.float .f64 n)) w := by
  rw [run_callFunc_extern (P := Try.prog) (f := 32) (fn := Try.f32) (e := Extern.MathFloatBits.float64frombits) Try.func32 (by kernel_rfl) (by kernel_rfl) (by kernel_rfl) (by kernel_rfl)]
  rfl

theorem andNot_hi (c : Nat) (h : 9223372036854775808 ≤ c) (h' : c < 18446744073709551616) : bits .andNot .u64 (c : Int) 9223372036854775808 = ((c - 9223372036854775808 : Nat) : Int) := by
  have h1 := u64_andNot_nat c (2 ^ 63) (by omega) (by omega)
  have e : c &&& (18446744073709551615 - 2 ^ 63) = c - 9223372036854775808 := by
    rw [show 18446744073709551615 - 2 ^ 63 = 2 ^ 63 - 1 from by decide, Nat.and_two_pow_sub_one_eq_mod]
    omega
  rw [e] at h1
  exact h1
theorem unflip_lt (n : Nat) (h : n < 18446744073709551616) : Nm.unflip n < 18446744073709551616 := by
  unfold Nm.unflip; split <;> omega
theorem val8_lt (l : List UInt8) : Nm.val (l.take 8) < 18446744073709551616 := by
  have h := Nm.val_lt (l.take 8)
  have hle : (l.take 8).length ≤ 8 := List.length_take_le 8 l
  have hp : 256 ^ (l.take 8).length ≤ 256 ^ 8 := Nat.pow_le_pow_right (by omega) hle
  omega

set_option maxHeartbeats 1000000 in
theorem getF_any (s : ByteArray) (w : World) (hs : s.size ≤ 9223372036854775807) :
    Calls Try.prog 16 #[.string s] w fun e w' =>
      e = .returned (.tuple #[.float .f64 (Nm.getF s.data.toList).1, .int .i64 (Nm.getF s.data.toList).2.1, .int .i64 (Nm.getF s.data.toList).2.2]) ∧ w' = w := by
  by_cases h0 : s.size < 8
  · have hr : Nm.getF s.data.toList = (0, 0, 3) := by rw [Nm.getF, if_pos (by rw [← Lib.size_eq]; exact h0)]
    rw [hr]
    go_enter Try.func16, Try.ntmps16
    go_wp2_with fail
    go_ret3
    exact ⟨rfl, rfl⟩
  have hV := val8_lt s.data.toList
  obtain ⟨V, hVe⟩ : ∃ V, Nm.val (s.data.toList.take 8) = V := ⟨_, rfl⟩
  rw [hVe] at hV
  have hg : Nm.getF s.data.toList = if Nm.nanB (Nm.unflip V) = true ∧ Nm.unflip V ≠ 9221120237041090561 then (0, 0, 4) else (Nm.unflip V, 8, 0) := by
    rw [Nm.getF, if_neg (by rw [← Lib.size_eq]; exact h0), hVe]
  rw [hg]
  have HV : Hid (Nm.val (Nm.tn (0 : Int).toNat (s.extract 0 8).data.toList) = V) := by
    show _ = _
    rw [Lib.extract_data, show (0 : Int).toNat = 0 from rfl, Nm.tn_zero]; simpa using hVe
  clear hg hVe
  by_cases hs8 : V < 9223372036854775808
  · have hu : Nm.unflip V = 18446744073709551615 - V := by rw [Nm.unflip, if_pos hs8]
    have ha := and_lo V hs8
    have ho := not_u64 V hV
    have hf := run_frombits (18446744073709551615 - V)
    rw [hu]
    clear hu
    generalize 18446744073709551615 - V = D at *
    cases hn : Nm.nanB D
    · rw [if_neg (by simp)]
      go_enter Try.func16, Try.ntmps16
      go_wp2_with fail
      refine (join_any _ 0 _ (by simp only [ByteArray.size_extract]; omega) (by omega) (by omega)).mono ?_
      rintro e w' ⟨rfl, rfl⟩
      rw [HV.out]
      go_wp2_with fail
      refine (isnan_any D _).mono ?_
      rintro e w' ⟨rfl, rfl⟩
      rw [hn]
      go_wp2_with fail
      go_ret3
      exact ⟨rfl, rfl⟩
    by_cases hx : D = 9221120237041090561
    · rw [if_neg (by simp [hx])]
      have hq : ((D : Int) != 9221120237041090561) = false := by rw [hx]; decide
      clear hx
      go_enter Try.func16, Try.ntmps16
      go_wp2_with fail
      refine (join_any _ 0 _ (by simp only [ByteArray.size_extract]; omega) (by omega) (by omega)).mono ?_
      rintro e w' ⟨rfl, rfl⟩
      rw [HV.out]
      go_wp2_with fail
      refine (isnan_any D _).mono ?_
      rintro e w' ⟨rfl, rfl⟩
      rw [hn]
      go_wp2_with fail
      go_ret3
      exact ⟨rfl, rfl⟩
    · rw [if_pos ⟨rfl, hx⟩]
      have hq : ((D : Int) != 9221120237041090561) = true := by rw [bne_iff_ne]; omega
      go_enter Try.func16, Try.ntmps16
      go_wp2_with fail
      refine (join_any _ 0 _ (by simp only [ByteArray.size_extract]; omega) (by omega) (by omega)).mono ?_
      rintro e w' ⟨rfl, rfl⟩
      rw [HV.out]
      go_wp2_with fail
      refine (isnan_any D _).mono ?_
      rintro e w' ⟨rfl, rfl⟩
      rw [hn]
      go_wp2_with fail
      go_ret3
      exact ⟨rfl, rfl⟩
  · have hu : Nm.unflip V = V - 9223372036854775808 := by rw [Nm.unflip, if_neg hs8]
    have ha := and_hi V (by omega) hV
    have ho := andNot_hi V (by omega) hV
    have hf := run_frombits (V - 9223372036854775808)
    rw [hu]
    clear hu
    generalize V - 9223372036854775808 = D at *
    cases hn : Nm.nanB D
    · rw [if_neg (by simp)]
      go_enter Try.func16, Try.ntmps16
      go_wp2_with fail
      refine (join_any _ 0 _ (by simp only [ByteArray.size_extract]; omega) (by omega) (by omega)).mono ?_
      rintro e w' ⟨rfl, rfl⟩
      rw [HV.out]
      go_wp2_with fail
      refine (isnan_any D _).mono ?_
      rintro e w' ⟨rfl, rfl⟩
      rw [hn]
      go_wp2_with fail
      go_ret3
      exact ⟨rfl, rfl⟩
    by_cases hx : D = 9221120237041090561
    · rw [if_neg (by simp [hx])]
      have hq : ((D : Int) != 9221120237041090561) = false := by rw [hx]; decide
      clear hx
      go_enter Try.func16, Try.ntmps16
      go_wp2_with fail
      refine (join_any _ 0 _ (by simp only [ByteArray.size_extract]; omega) (by omega) (by omega)).mono ?_
      rintro e w' ⟨rfl, rfl⟩
      rw [HV.out]
      go_wp2_with fail
      refine (isnan_any D _).mono ?_
      rintro e w' ⟨rfl, rfl⟩
      rw [hn]
      go_wp2_with fail
      go_ret3
      exact ⟨rfl, rfl⟩
    · rw [if_pos ⟨rfl, hx⟩]
      have hq : ((D : Int) != 9221120237041090561) = true := by rw [bne_iff_ne]; omega
      go_enter Try.func16, Try.ntmps16
      go_wp2_with fail
      refine (join_any _ 0 _ (by simp only [ByteArray.size_extract]; omega) (by omega) (by omega)).mono ?_
      rintro e w' ⟨rfl, rfl⟩
      rw [HV.out]
      go_wp2_with fail
      refine (isnan_any D _).mono ?_
      rintro e w' ⟨rfl, rfl⟩
      rw [hn]
      go_wp2_with fail
      go_ret3
      exact ⟨rfl, rfl⟩
end Go.Proofs.Ytmoejhjipffohaa
