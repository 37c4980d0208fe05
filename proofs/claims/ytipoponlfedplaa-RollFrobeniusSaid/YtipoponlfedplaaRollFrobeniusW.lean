/-
  The walk of lumkeep.RollFrobenius: it returns true.
-/
import Derived.Test.YtipoponlfedplaaRollT
import Derived.Test.YtipoponlfedplaaWf32
namespace Go.Proofs.Ytipoponlfedplaa
open Go.RowKit

theorem sq_any (x : Nat) (w : World) (hx : x < 4294967296) :
    Calls Try.prog 14 #[.int .u32 x] w fun e w' => e = .returned (.int .u32 (Rl.sq x : Nat)) ∧ w' = w := by
  go_enter Try.func14, Try.ntmps14
  go_wp2_with fail
  refine (times_any x x _ hx hx).mono ?_
  rintro e w1 ⟨rfl, rfl⟩
  go_wp2_with fail
  go_ret
  exact ⟨rfl, rfl⟩

theorem times_22 : Rl.times 2 2 = 4 := by decide +kernel

set_option maxHeartbeats 1000000 in
theorem rollFrobenius_of (a b x c d f : Nat) (ha : a < 4294967296) (hb : b < 4294967296) (hx : x < 2147483648) (hd : d < 2147483648) (hf : f < 2147483648) (hc : c = d ^^^ f) (w : World)
    (h0 : ∀ W, Calls Try.prog 10 #[.int .u32 a, .int .u32 1] W fun e w' => e = .returned (.int .u32 x) ∧ w' = W)
    (h1 : ∀ W, Calls Try.prog 10 #[.int .u32 2, .int .u32 2] W fun e w' => e = .returned (.int .u32 4) ∧ w' = W)
    (h2 : ∀ W, Calls Try.prog 14 #[.int .u32 ((a ^^^ b : Nat) : Int)] W fun e w' => e = .returned (.int .u32 c) ∧ w' = W)
    (h3 : ∀ W, Calls Try.prog 14 #[.int .u32 a] W fun e w' => e = .returned (.int .u32 d) ∧ w' = W)
    (h4 : ∀ W, Calls Try.prog 14 #[.int .u32 b] W fun e w' => e = .returned (.int .u32 f) ∧ w' = W) :
    Calls Try.prog 5 #[.int .u32 a, .int .u32 b] w fun e w' => e = .returned (.bool true) ∧ Below w.heap.size w w' := by
  have hx1 := u32_xor_nat a b ha hb
  have hx2 : bits .xor .u32 (d : Int) (f : Int) = (c : Int) := by rw [u32_xor_nat d f (by omega) (by omega), hc]
  have HL : Hid (∀ k, Rl.sqk k x < 2147483648) := fun k => Rl.sqk_lt k hx
  have HZ : Hid (Rl.sqk 31 x = x) := Rl.sqk_31 hx
  clear hc hx
  go_enter Try.func5, Try.ntmps5
  go_wp2_with fail
  refine (h0 _).mono ?_
  rintro e w1 ⟨rfl, rfl⟩
  go_wp2_with fail
  go_loop [7, 11] (fun y i => ∃ k : Nat, k ≤ 31 ∧ i = .int .i64 k ∧ y = .int .u32 (Rl.sqk k x : Nat)) (fun _ i => 31 - (intOf i).toNat)
  case atStart => exact ⟨0, by omega, rfl, rfl⟩
  case round =>
    obtain ⟨k, hk, rfl, rfl⟩ := hrel
    by_cases hlt : k < 31
    · have hs := sq_any (Rl.sqk k x) w1 (by have := HL.out k; omega)
      go_wp2_with fail
      refine hs.mono ?_
      rintro e w2 ⟨rfl, rfl⟩
      go_wp2_with fail
      go_round
      case rel => exact ⟨k + 1, by omega, by go_num, rfl⟩
      case measure => simp [intOf]; omega
    · obtain rfl : k = 31 := by omega
      rw [HZ.out]
      clear HZ HL
      go_wp2_with fail
      refine (h1 _).mono ?_
      rintro e w2 ⟨rfl, rfl⟩
      go_wp2_with fail
      refine (h2 _).mono ?_
      rintro e w2 ⟨rfl, rfl⟩
      go_wp2_with fail
      refine (h3 _).mono ?_
      rintro e w2 ⟨rfl, rfl⟩
      go_wp2_with fail
      refine (h4 _).mono ?_
      rintro e w2 ⟨rfl, rfl⟩
      go_wp2_with fail
      go_ret
      exact ⟨rfl, Below.refl _ _⟩

theorem rollFrobenius_walk (a0 : Int) (a1 : Int) (w0 : (Lit.int .u32 a0).wf = true) (w1 : (Lit.int .u32 a1).wf = true) (w : World) :
    Calls Try.prog 5 #[.int .u32 a0, .int .u32 a1] w fun e w' => e = .returned (.bool true) ∧ Below w.heap.size w w' := by
  obtain ⟨a, rfl, ha⟩ := wf_u32 w0
  obtain ⟨b, rfl, hb⟩ := wf_u32 w1
  have h0 := fun W => times_any a 1 W ha (by omega)
  have h1 := fun W => times_any 2 2 W (by omega) (by omega)
  rw [times_22] at h1
  exact rollFrobenius_of a b _ _ _ _ ha hb (Rl.times_lt a 1) (Rl.sq_lt a) (Rl.sq_lt b) (Rl.sq_xor ha hb) w h0 h1 (fun W => sq_any (a ^^^ b) W (Rl.xor_lt32 ha hb)) (fun W => sq_any a W ha) (fun W => sq_any b W hb)
end Go.Proofs.Ytipoponlfedplaa
