/-
  What Step and Undo of package mix answer.
-/
import Derived.Test.YtkeckdfjgnacnaaRefStep
import Derived.Test.YtkeckdfjgnacnaaMixSpec
namespace Go.Proofs.Ytkeckdfjgnacnaa
open Go.RowKit

theorem mul_wrap (a b : Nat) : IntKind.u64.wrap ((a : Int) * (b : Int)) = (Mx.prod a b : Nat) := by
  rw [← Int.natCast_mul, wrap_u64_mod]; rfl
theorem mul_a (a : Nat) : IntKind.u64.wrap ((a : Int) * 11400714819323198485) = (Mx.prod a 11400714819323198485 : Nat) := mul_wrap a 11400714819323198485
theorem mul_b (a : Nat) : IntKind.u64.wrap ((a : Int) * 13787848793156543929) = (Mx.prod a 13787848793156543929 : Nat) := mul_wrap a 13787848793156543929
theorem mul_ia (a : Nat) : IntKind.u64.wrap ((a : Int) * 17428512612931826493) = (Mx.prod a 17428512612931826493 : Nat) := mul_wrap a 17428512612931826493
theorem mul_ib (a : Nat) : IntKind.u64.wrap ((a : Int) * 10871156337175269513) = (Mx.prod a 10871156337175269513 : Nat) := mul_wrap a 10871156337175269513

theorem shr29_int (z : Nat) : (z : Int) / (536870912 : Int) = ((z >>> 29 : Nat) : Int) := by rw [Nat.shiftRight_eq_div_pow]; omega

set_option maxHeartbeats 400000 in
theorem step_any (x b : Nat) (w : World) (hx : x < 18446744073709551616) (hb : b < 18446744073709551616) :
    Calls Try.prog 9 #[.int .u64 x, .int .u64 b] w fun e w' => e = .returned (.int .u64 (Mx.step x b : Nat)) ∧ Below w.heap.size w w' := by
  have h1 := u64_xor_nat x b hx hb
  go_enter Try.func9, Try.ntmps9
  go_wp2
  go_ret
  refine ⟨ret_int ?_, Below.refl _ _⟩
  rw [mul_a, xs_int29 _ (Mx.prod_lt _ _), mul_b, xs_int32 _ (Mx.prod_lt _ _), Mx.step]

set_option maxHeartbeats 400000 in
theorem unfold_32 (y : Nat) (w : World) (hy : y < 18446744073709551616) :
    Calls Try.prog 21 #[.int .u64 y, .int .i64 32] w fun e w' => e = .returned (.int .u64 (Mx.xs 32 y : Nat)) ∧ w' = w := by
  have h1 := xs_int32 y hy
  go_enter Try.func21, Try.ntmps21
  go_wp2
  go_loop [5, 6] (fun z k => (k = .int .i64 32 ∧ z = .int .u64 y) ∨ (k = .int .i64 64 ∧ z = .int .u64 (Mx.xs 32 y : Nat))) (fun _ k => (64 - intOf k).toNat)
  case atStart => exact .inl ⟨rfl, rfl⟩
  case round =>
    rcases hrel with ⟨rfl, rfl⟩ | ⟨rfl, rfl⟩
    · go_wp2
      go_round
      case rel => exact .inr ⟨rfl, rfl⟩
      case measure => simp only [intOf]; omega
    · go_wp2
      go_ret
      exact ⟨rfl, rfl⟩

set_option maxHeartbeats 400000 in
theorem unfold_29 (y : Nat) (w : World) (hy : y < 18446744073709551616) :
    Calls Try.prog 21 #[.int .u64 y, .int .i64 29] w fun e w' => e = .returned (.int .u64 (Mx.xs 29 y ^^^ y >>> 58 : Nat)) ∧ w' = w := by
  have h1 := xs_int29 y hy
  have h2 : bits .xor .u64 (y : Int) ((Mx.xs 29 y : Int) / 536870912) = ((Mx.xs 29 y ^^^ y >>> 58 : Nat) : Int) := by
    have hs := Mx.shr_lt 29 (Mx.xs_lt (k := 29) hy)
    rw [shr29_int, u64_xor_nat _ _ hy hs, Mx.xs, Nat.shiftRight_xor_distrib, ← Nat.shiftRight_add, Nat.xor_assoc]
  go_enter Try.func21, Try.ntmps21
  go_wp2
  go_loop [5, 6] (fun z k => (k = .int .i64 29 ∧ z = .int .u64 y) ∨ (k = .int .i64 58 ∧ z = .int .u64 (Mx.xs 29 y : Nat)) ∨ (k = .int .i64 87 ∧ z = .int .u64 (Mx.xs 29 y ^^^ y >>> 58 : Nat))) (fun _ k => (87 - intOf k).toNat)
  case atStart => exact .inl ⟨rfl, rfl⟩
  case round =>
    rcases hrel with ⟨rfl, rfl⟩ | ⟨rfl, rfl⟩ | ⟨rfl, rfl⟩
    · go_wp2
      go_round
      case rel => exact .inr (.inl ⟨rfl, rfl⟩)
      case measure => simp only [intOf]; omega
    · go_wp2
      go_round
      case rel => exact .inr (.inr ⟨rfl, rfl⟩)
      case measure => simp only [intOf]; omega
    · go_wp2
      go_ret
      exact ⟨rfl, rfl⟩

set_option maxHeartbeats 400000 in
theorem undo_any (x b : Nat) (w : World) (hx : x < 18446744073709551616) (hb : b < 18446744073709551616) :
    Calls Try.prog 11 #[.int .u64 x, .int .u64 b] w fun e w' => e = .returned (.int .u64 (Mx.undo x b : Nat)) ∧ Below w.heap.size w w' := by
  have hz := Mx.prod_lt (Mx.xs 32 x) 10871156337175269513
  have hm := mul_ib (Mx.xs 32 x)
  have HU : Hid (Mx.prod (Mx.xs 29 (Mx.prod (Mx.xs 32 x) 10871156337175269513) ^^^ Mx.prod (Mx.xs 32 x) 10871156337175269513 >>> 58) 17428512612931826493 ^^^ b = Mx.undo x b) := by show _ = _; rfl
  go_enter Try.func11, Try.ntmps11
  go_wp2_with fail
  refine (unfold_32 x w hx).mono ?_
  rintro e w1 ⟨rfl, rfl⟩
  go_wp2_with fail
  refine (unfold_29 _ _ hz).mono ?_
  rintro e w2 ⟨rfl, rfl⟩
  go_wp2_with fail
  go_ret
  refine ⟨ret_int ?_, Below.refl _ _⟩
  rw [mul_ia, u64_xor_nat _ _ (Mx.prod_lt _ _) hb, HU.out]
end Go.Proofs.Ytkeckdfjgnacnaa
