/-
  Floats: the bits of a float64 and back, IsNaN, PutFloat of package num.
-/
import Derived.Test.YtmoejhjipffohabPut
import Derived.Laws.Externs
import Derived.Laws.Cover2
namespace Go.Proofs.Ytmoejhjipffohab
open Go.RowKit

theorem run_bits (b : Nat) (w : World) : (callFunc 15 #[.float .f64 b]).run Try.prog w = .ok (.value (.int .u64 b)) w := by
  rw [run_callFunc_extern (P := Try.prog) (f := 15) (fn := Try.f15) (e := Extern.MathFloatBits.float64bits) Try.func15 (by kernel_rfl) (by kernel_rfl) (by kernel_rfl) (by kernel_rfl)]
  rfl

theorem order_self (b : Nat) : (FloatKind.f64.format.order b b != some Ordering.eq) = Nm.nanB b := by
  have h1 : Ieee.double.infRung = 9218868437227405312 := by decide +kernel
  have h2 : Ieee.double.signWeight = 9223372036854775808 := by decide +kernel
  have h3 : Ieee.double.binade = 4503599627370496 := by decide +kernel
  have hs : ∀ (s : Bool) (m : Nat) (i : Int), ((Ieee.Datum.number s m i).order (.number s m i) != some Ordering.eq) = false := by
    intro s m i
    simp [Ieee.Datum.order]
  have hi : ∀ (s : Bool), ((Ieee.Datum.infinity s).order (.infinity s) != some Ordering.eq) = false := by
    intro s
    simp [Ieee.Datum.order]
  show ((Ieee.double.read b).order (Ieee.double.read b) != some Ordering.eq) = Nm.nanB b
  unfold Ieee.Format.read Nm.nanB
  simp only [h1, h2, h3]
  by_cases c1 : b % 9223372036854775808 < 4503599627370496
  · rw [if_pos c1, hs, decide_eq_false (by omega)]
  by_cases c2 : b % 9223372036854775808 < 9218868437227405312
  · rw [if_neg c1, if_pos c2, hs, decide_eq_false (by omega)]
  by_cases c3 : b % 9223372036854775808 = 9218868437227405312
  · rw [if_neg c1, if_neg c2, if_pos c3, hi, decide_eq_false (by omega)]
  · rw [if_neg c1, if_neg c2, if_neg c3, decide_eq_true (by omega)]
    rfl

theorem isnan_any (b : Nat) (w : World) : Calls Try.prog 18 #[.float .f64 b] w fun e w' => e = .returned (.bool (Nm.nanB b)) ∧ w' = w := by
  have h := order_self b
  go_enter Try.func18, Try.ntmps18
  go_wp2
  go_ret
  exact ⟨by rw [← h]; rfl, rfl⟩

theorem and_top (c : Nat) : c &&& 2 ^ 63 = if c.testBit 63 then 2 ^ 63 else 0 := by
  apply Nat.eq_of_testBit_eq
  intro i
  rw [Nat.testBit_and, Nat.testBit_two_pow]
  by_cases h : i = 63
  · subst h
    cases hc : c.testBit 63
    · simp
    · rw [if_pos rfl, Nat.testBit_two_pow]; simp
  · have h' : ¬ 63 = i := fun e => h e.symm
    cases hc : c.testBit 63
    · simp [h']
    · rw [if_pos rfl, Nat.testBit_two_pow]; simp [h']
theorem and_lo (c : Nat) (h : c < 9223372036854775808) : bits .and .u64 (c : Int) 9223372036854775808 = 0 := by
  have h1 := u64_and_nat c (2 ^ 63) (by omega) (by omega)
  rw [and_top, Nat.testBit_lt_two_pow (by omega)] at h1
  exact h1
theorem and_hi (c : Nat) (h : 9223372036854775808 ≤ c) (h' : c < 18446744073709551616) : bits .and .u64 (c : Int) 9223372036854775808 = 9223372036854775808 := by
  have h1 := u64_and_nat c (2 ^ 63) (by omega) (by omega)
  have h2 : c.testBit 63 = true := by
    rw [Nat.testBit_eq_decide_div_mod_eq]
    exact decide_eq_true (by omega)
  rw [and_top, h2, if_pos rfl] at h1
  exact h1
theorem or_lo (c : Nat) (h : c < 9223372036854775808) : bits .or .u64 (c : Int) 9223372036854775808 = ((c + 9223372036854775808 : Nat) : Int) := by
  have := u64_or_nat c 9223372036854775808 (by omega) (by omega)
  have e : c ||| 9223372036854775808 = c + 9223372036854775808 := by
    have h1 := Nat.two_pow_add_eq_or_of_lt (i := 63) (b := c) (by omega) 1
    rw [Nat.mul_one] at h1
    rw [Nat.or_comm, show (9223372036854775808 : Nat) = 2 ^ 63 from by decide, ← h1, Nat.add_comm]
  rw [e] at this
  exact this

theorem xor_all (b : Nat) (h : b < 2 ^ 64) : (2 ^ 64 - 1) ^^^ b = 2 ^ 64 - 1 - b := by
  rw [Nat.sub_sub, Nat.add_comm 1 b]
  apply Nat.eq_of_testBit_eq
  intro i
  rw [Nat.testBit_xor, Nat.testBit_two_pow_sub_one, Nat.testBit_two_pow_sub_succ h]
  by_cases hi : i < 64
  · simp [hi]
  · have : b.testBit i = false := Nat.testBit_lt_two_pow (Nat.lt_of_lt_of_le h (Nat.pow_le_pow_right (by omega) (by omega)))
    simp [hi, this]
theorem not_u64 (b : Nat) (h : b < 18446744073709551616) : bits .xor .u64 IntKind.u64.max (b : Int) = ((18446744073709551615 - b : Nat) : Int) := by
  have h1 := u64_xor_nat (2 ^ 64 - 1) b (by omega) (by omega)
  rw [xor_all b (by omega)] at h1
  have e : IntKind.u64.max = ((2 ^ 64 - 1 : Nat) : Int) := by decide +kernel
  rw [e, h1]
theorem or_nan : bits .or .u64 9221120237041090561 9223372036854775808 = 18444492273895866369 := by
  have h := or_lo 9221120237041090561 (by omega)
  rw [show (9221120237041090561 + 9223372036854775808 : Nat) = 18444492273895866369 from by decide] at h
  exact h
theorem and_nan : bits .and .u64 9221120237041090561 9223372036854775808 = 0 := and_lo 9221120237041090561 (by omega)
theorem putF_of {b d : Nat} (hd : Nm.flip (Nm.oneNaN b) = d) : Nm.putF b = [] ++ Nm.tn (0 : Int).toNat (Nm.low (8 : Int).toNat d) := by
  rw [Nm.putF, hd, List.nil_append, show (0 : Int).toNat = 0 from rfl, Nm.tn_zero, show (8 : Int).toNat = 8 from rfl]
theorem flip_nan {b : Nat} (hn : Nm.nanB b = true) : Nm.flip (Nm.oneNaN b) = (18444492273895866369 : Int).toNat := by
  rw [Nm.oneNaN, if_pos hn, Nm.flip, if_pos (by omega)]
  omega

set_option maxHeartbeats 400000 in
theorem putF_nan (b : Nat) (w : World) (hn : Nm.nanB b = true) :
    Calls Try.prog 9 #[.float .f64 b] w fun e w' => e = .returned (.string ⟨(Nm.putF b).toArray⟩) ∧ Below w.heap.size w w' := by
  have hb := run_bits b
  have ha := and_nan
  have ho := or_nan
  have hp : Hid (Nm.putF b = [] ++ Nm.tn (0 : Int).toNat (Nm.low (8 : Int).toNat (18444492273895866369 : Int).toNat)) := putF_of (flip_nan hn)
  go_enter Try.func9, Try.ntmps9
  go_wp2_with (go_at_call 18; refine (isnan_any _ _).mono ?_; rintro e w' ⟨rfl, rfl⟩; rw [hn])
  refine (append_any w'.heap.size _ [] _ 8 0 _ (World.ownsRow_nil _ _ _ _) (Nat.le_refl _) (by simp) (by omega) (by omega) (by omega) (by omega) (by omega) (by omega)).mono ?_
  rintro e w2 ⟨v, rfl, hown, hbel⟩
  rw [← hp.out] at hown
  have hcv := run_str hown
  clear hown ha ho
  go_wp2
  go_ret
  exact ⟨rfl, hbel⟩

set_option maxHeartbeats 400000 in
theorem putF_pos (b : Nat) (w : World) (hn : Nm.nanB b = false) (h : b < 9223372036854775808) :
    Calls Try.prog 9 #[.float .f64 b] w fun e w' => e = .returned (.string ⟨(Nm.putF b).toArray⟩) ∧ Below w.heap.size w w' := by
  have hb := run_bits b
  have ha := and_lo b h
  have ho := or_lo b h
  have hp : Hid (Nm.putF b = [] ++ Nm.tn (0 : Int).toNat (Nm.low (8 : Int).toNat ((b + 9223372036854775808 : Nat) : Int).toNat)) :=
    putF_of (by rw [Nm.oneNaN, if_neg (by rw [hn]; decide), Nm.flip, if_pos h, Int.toNat_natCast])
  have hlt : b + 9223372036854775808 ≤ 18446744073709551615 := by omega
  generalize b + 9223372036854775808 = d at *
  go_enter Try.func9, Try.ntmps9
  go_wp2_with (go_at_call 18; refine (isnan_any _ _).mono ?_; rintro e w' ⟨rfl, rfl⟩; rw [hn])
  refine (append_any w'.heap.size _ [] _ 8 0 _ (World.ownsRow_nil _ _ _ _) (Nat.le_refl _) (by simp) (by omega) (by omega) (by omega) (by omega) (by omega) (by omega)).mono ?_
  rintro e w2 ⟨v, rfl, hown, hbel⟩
  rw [← hp.out] at hown
  have hcv := run_str hown
  clear hown ha ho
  go_wp2
  go_ret
  exact ⟨rfl, hbel⟩

set_option maxHeartbeats 400000 in
theorem putF_neg (b : Nat) (w : World) (hn : Nm.nanB b = false) (h : 9223372036854775808 ≤ b) (h' : b < 18446744073709551616) :
    Calls Try.prog 9 #[.float .f64 b] w fun e w' => e = .returned (.string ⟨(Nm.putF b).toArray⟩) ∧ Below w.heap.size w w' := by
  have hb := run_bits b
  have ha := and_hi b h h'
  have ho := not_u64 b h'
  have hlt : 18446744073709551615 - b ≤ 18446744073709551615 := by omega
  have hp : Hid (Nm.putF b = [] ++ Nm.tn (0 : Int).toNat (Nm.low (8 : Int).toNat ((18446744073709551615 - b : Nat) : Int).toNat)) :=
    putF_of (by rw [Nm.oneNaN, if_neg (by rw [hn]; decide), Nm.flip, if_neg (by omega), Int.toNat_natCast])
  generalize 18446744073709551615 - b = d at *
  go_enter Try.func9, Try.ntmps9
  go_wp2_with (go_at_call 18; refine (isnan_any _ _).mono ?_; rintro e w' ⟨rfl, rfl⟩; rw [hn])
  refine (append_any w'.heap.size _ [] _ 8 0 _ (World.ownsRow_nil _ _ _ _) (Nat.le_refl _) (by simp) (by omega) (by omega) (by omega) (by omega) (by omega) (by omega)).mono ?_
  rintro e w2 ⟨v, rfl, hown, hbel⟩
  rw [← hp.out] at hown
  have hcv := run_str hown
  clear hown ha ho
  go_wp2
  go_ret
  exact ⟨rfl, hbel⟩

theorem putF_any (b : Nat) (w : World) (h' : b < 18446744073709551616) :
    Calls Try.prog 9 #[.float .f64 b] w fun e w' => e = .returned (.string ⟨(Nm.putF b).toArray⟩) ∧ Below w.heap.size w w' := by
  cases hn : Nm.nanB b
  · by_cases h : b < 9223372036854775808
    · exact putF_pos b w hn h
    · exact putF_neg b w hn (by omega) h'
  · exact putF_nan b w hn
end Go.Proofs.Ytmoejhjipffohab
