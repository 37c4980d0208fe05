/-
  The walk of lumkeep.NumFloatOrder: it returns true.
-/
import Derived.Test.YtmoejhjipffohabMathFloat
import Derived.Test.YtmoejhjipffohabFloat
namespace Go.Proofs.Ytmoejhjipffohab
open Go.RowKit

theorem wf_f64 {n : Nat} (h : (Lit.float .f64 n).wf = true) : n < 18446744073709551616 := by
  simpa [Lit.wf] using h
theorem run_frombits (n : Int) (w : World) : (callFunc 19 #[.int .u64 n]).run Try.prog w = .ok (.value (.float .f64 n.toNat)) w := by
  rw [run_callFunc_extern (P := Try.prog) (f := 19) (fn := Try.f19) (e := Extern.MathFloatBits.float64frombits) Try.func19 (by kernel_rfl) (by kernel_rfl) (by kernel_rfl) (by kernel_rfl)]
  rfl
theorem andNot_zero : bits .andNot .u64 0 9223372036854775808 = 0 := by
  have h := u64_andNot_nat 0 (2 ^ 63) (by omega) (by omega)
  rw [Nat.zero_and] at h
  exact h
theorem and_minus : bits .and .u64 13830554455654793216 9223372036854775808 = 9223372036854775808 := and_hi 13830554455654793216 (by omega) (by omega)
theorem or_sign : bits .or .u64 0 9223372036854775808 = 9223372036854775808 := or_lo 0 (by omega)

set_option maxHeartbeats 400000 in
theorem copysign_any (w : World) : Calls Try.prog 10 #[.float .f64 0, .float .f64 13830554455654793216] w fun e w' => e = .returned (.float .f64 9223372036854775808) ∧ w' = w := by
  have r1 := run_bits 0
  have r2 := run_bits 13830554455654793216
  have a1 := andNot_zero
  have a2 := and_minus
  have a3 := or_sign
  have r3 := run_frombits 9223372036854775808
  go_enter Try.func10, Try.ntmps10
  go_wp2
  go_ret
  exact ⟨rfl, rfl⟩

set_option maxHeartbeats 400000 in
theorem inf_any (w : World) : Calls Try.prog 11 #[.int .i64 1] w fun e w' => e = .returned (.float .f64 9218868437227405312) ∧ w' = w := by
  have r3 := run_frombits 9218868437227405312
  go_enter Try.func11, Try.ntmps11
  go_wp2
  go_ret
  exact ⟨rfl, rfl⟩

set_option maxHeartbeats 400000 in
theorem nan_any (w : World) : Calls Try.prog 12 #[] w fun e w' => e = .returned (.float .f64 9221120237041090561) ∧ w' = w := by
  have r3 := run_frombits 9221120237041090561
  go_enter Try.func12, Try.ntmps12
  go_wp2
  go_ret
  exact ⟨rfl, rfl⟩

/-- is the sign's bit 1 -/
def sgnB (b : Nat) : Bool := decide (9223372036854775808 ≤ b)
set_option maxHeartbeats 400000 in
theorem signbit_any (b : Nat) (w : World) (h : b < 18446744073709551616) : Calls Try.prog 13 #[.float .f64 b] w fun e w' => e = .returned (.bool (sgnB b)) ∧ w' = w := by
  have r1 := run_bits b
  have hd : decide (wrap64 (b : Int) < 0) = sgnB b := by
    unfold sgnB
    rw [Bool.eq_iff_iff, decide_eq_true_eq, decide_eq_true_eq]
    unfold wrap64
    omega
  have HD : Hid (decide (wrap64 (b : Int) < 0) = sgnB b) := hd
  clear hd h
  go_enter Try.func13, Try.ntmps13
  go_wp2
  go_ret
  exact ⟨by rw [← HD.out]; rfl, rfl⟩

theorem minus_less : Op.bytesLess (Nm.putF 9223372036854775808) (Nm.putF 0) = true := by
  rw [Nm.less_putF _ _ (by omega) (by omega)]
  exact decide_eq_true (by decide)
theorem inf_less : Op.bytesLess (Nm.putF 9218868437227405312) (Nm.putF 9221120237041090561) = true := by
  rw [Nm.less_putF _ _ (by omega) (by omega)]
  exact decide_eq_true (by decide)
/-- floats of which one is a NaN -/
theorem nan_rule (x y : Nat) (hx : x < 18446744073709551616) (hy : y < 18446744073709551616) (h : (Nm.nanB x || Nm.nanB y) = true) :
    (Op.bytesLess (Nm.putF x) (Nm.putF y) || (Nm.putF x == Nm.putF y)) = Nm.nanB y := by
  rw [Nm.less_putF x y hx hy, Nm.same_putF x y hx hy]
  cases ny : Nm.nanB y
  · have nx : Nm.nanB x = true := by rw [ny] at h; simpa using h
    have := (Nm.nan_top y x hy nx).2 ny
    rw [decide_eq_false (by omega), decide_eq_false (by omega)]
    rfl
  · have := Nm.nan_top x y hx ny
    cases nx : Nm.nanB x
    · rw [decide_eq_true (this.2 nx)]; rfl
    · rw [decide_eq_true (this.1 nx)]; simp

set_option maxRecDepth 100000 in
set_option maxHeartbeats 4000000 in
theorem numFloatOrder_walk (a0 : Nat) (a1 : Nat) (w0 : (Lit.float .f64 a0).wf = true) (w1 : (Lit.float .f64 a1).wf = true) (w : World) :
    Calls Try.prog 4 #[.float .f64 a0, .float .f64 a1] w fun e w' => e = .returned (.bool true) ∧ Below w.heap.size w w' := by
  have f0 := wf_f64 w0
  have f1 := wf_f64 w1
  clear w0 w1
  have z1 := minus_less
  have z2 := inf_less
  go_enter Try.func4, Try.ntmps4
  go_wp2_with fail
  refine (putF_any a0 _ f0).mono ?_
  rintro e u1 ⟨rfl, b1⟩
  go_wp2_with fail
  refine (putF_any a1 _ f1).mono ?_
  rintro e u2 ⟨rfl, b2⟩
  go_wp2_with fail
  refine (copysign_any _).mono ?_
  rintro e u2 ⟨rfl, rfl⟩
  go_wp2_with fail
  refine (putF_any _ _ (by omega)).mono ?_
  rintro e u3 ⟨rfl, b3⟩
  go_wp2_with fail
  refine (putF_any _ _ (by omega)).mono ?_
  rintro e u4 ⟨rfl, b4⟩
  go_wp2_with fail
  refine (inf_any _).mono ?_
  rintro e u4 ⟨rfl, rfl⟩
  go_wp2_with fail
  refine (putF_any _ _ (by omega)).mono ?_
  rintro e u5 ⟨rfl, b5⟩
  go_wp2_with fail
  refine (nan_any _).mono ?_
  rintro e u5 ⟨rfl, rfl⟩
  go_wp2_with fail
  refine (putF_any _ _ (by omega)).mono ?_
  rintro e u6 ⟨rfl, b6⟩
  have hB2 := b1.trans (b2.mono b1.size)
  have hB3 := hB2.trans (b3.mono hB2.size)
  have hB4 := hB3.trans (b4.mono hB3.size)
  have hB5 := hB4.trans (b5.mono hB4.size)
  have hB := hB5.trans (b6.mono hB5.size)
  clear b1 b2 b3 b4 b5 b6 hB2 hB3 hB4 hB5
  have o0 := order_self a0
  have o1 := order_self a1
  cases n0 : Nm.nanB a0
  · rw [n0] at o0
    cases n1 : Nm.nanB a1
    · rw [n1] at o1
      obtain ⟨c, h1, h2, h3⟩ := Nm.order_bits a0 a1 f0 f1 n0 n1
      have l1 := Nm.less_putF a0 a1 f0 f1
      have l2 := Nm.same_putF a0 a1 f0 f1
      rw [Nm.oneNaN_of n0, Nm.oneNaN_of n1] at l1 l2
      cases c
      · rw [decide_eq_true (h2 rfl)] at l1
        clear h2 h3 l2 n0 n1
        go_wp2_with fail
        go_ret
        exact ⟨rfl, hB⟩
      · have hs : ((Nm.putF a0 == Nm.putF a1) == (sgnB a0 == sgnB a1)) = true := by
          rw [l2]
          rcases h3 rfl with rfl | ⟨g1, g2⟩
          · simp
          · unfold sgnB
            have : decide (Nm.flip a0 = Nm.flip a1) = decide (a0 = a1) := by
              rw [Bool.eq_iff_iff, decide_eq_true_eq, decide_eq_true_eq]
              exact ⟨fun h => Nm.flip_inj f0 f1 h, fun h => by rw [h]⟩
            rw [this, beq_iff_eq, Bool.eq_iff_iff, decide_eq_true_eq, beq_iff_eq, Bool.eq_iff_iff, decide_eq_true_eq, decide_eq_true_eq]
            omega
        clear h2 h3 l1 l2 n0 n1
        go_wp2_with fail
        refine (signbit_any a0 _ f0).mono ?_
        rintro e u6 ⟨rfl, rfl⟩
        go_wp2_with fail
        refine (signbit_any a1 _ f1).mono ?_
        rintro e u6 ⟨rfl, rfl⟩
        go_wp2_with fail
        go_ret
        exact ⟨rfl, hB⟩
      · clear h2 h3 l1 l2 n0 n1
        go_wp2_with fail
        go_ret
        exact ⟨rfl, hB⟩
    · rw [n1] at o1
      have hr := nan_rule a0 a1 f0 f1 (by rw [n0, n1]; rfl)
      rw [n1] at hr
      clear n0 n1
      go_wp2_with fail
      go_ret
      exact ⟨rfl, hB⟩
  · rw [n0] at o0
    have hr := nan_rule a0 a1 f0 f1 (by rw [n0]; rfl)
    cases n1 : Nm.nanB a1
    · rw [n1] at o1 hr
      clear n0 n1
      go_wp2_with fail
      go_ret
      exact ⟨rfl, hB⟩
    · rw [n1] at o1 hr
      clear n0 n1
      go_wp2_with fail
      go_ret
      exact ⟨rfl, hB⟩
end Go.Proofs.Ytmoejhjipffohab
