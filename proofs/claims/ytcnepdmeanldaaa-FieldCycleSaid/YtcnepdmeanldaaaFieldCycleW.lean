/-
  The walk of lumkeep.FieldCycle: it returns true.
-/
import Derived.Test.YtcnepdmeanldaaaFdPow
namespace Go.Proofs.Ytcnepdmeanldaaa
open Go.RowKit
set_option maxRecDepth 4000

theorem M_2_128 : Fd.M 2 128 = 29 := by decide +kernel

theorem cyc_le (a : Nat) : ∀ k, Fd.cyc a k ≤ k
  | 0 => Nat.le_refl _
  | k + 1 => by
    have := cyc_le a k
    rw [Fd.cyc]
    split <;> omega

set_option maxHeartbeats 1000000 in
theorem fieldCycle_of (a : Nat) (w : World) (HE : Hid (∀ N, N = 255 → Fd.cyc a N = if a = 0 then 0 else 1))
    (c0 : ∀ k : Nat, k < 255 → ∀ W, Calls Try.prog 8 #[.int .u8 2, .int .i64 k] W fun e w' => e = .returned (.tuple #[.int .u8 (Fd.P 2 k : Nat), .int .i64 0]) ∧ w' = W)
    (c1 : ∀ W, Calls Try.prog 13 #[.int .u8 2, .int .u8 128] W fun e w' => e = .returned (.int .u8 29) ∧ w' = W) :
    Calls Try.prog 6 #[.int .u8 a] w fun e w' => e = .returned (.bool true) ∧ Below w.heap.size w w' := by
  go_enter Try.func6, Try.ntmps6
  go_wp2_with fail
  go_loop [3, 7] (fun s i => ∃ k : Nat, k ≤ 255 ∧ i = .int .i64 k ∧ s = .int .i64 (Fd.cyc a k : Nat)) (fun _ i => 255 - (intOf i).toNat)
  case atStart => exact ⟨0, by omega, rfl, rfl⟩
  case round =>
    obtain ⟨k, hk, rfl, rfl⟩ := hrel
    have hcl := cyc_le a k
    by_cases hlt : k < 255
    · have hc := c0 k hlt
      by_cases he : Fd.P 2 k = a
      · have HN : Hid (Fd.cyc a (k + 1) = Fd.cyc a k + 1) := by show _ = _; rw [Fd.cyc, if_pos he]
        rw [he] at hc
        generalize Fd.cyc a k = s at *
        clear he
        go_wp2_with fail
        refine (hc _).mono ?_
        rintro e u ⟨rfl, rfl⟩
        go_wp2_with fail
        go_round
        case rel => exact ⟨k + 1, by omega, by go_num, by rw [HN.out]; go_num⟩
        case measure => simp only [intOf]; omega
      · have HN : Hid (Fd.cyc a (k + 1) = Fd.cyc a k) := by show _ = _; rw [Fd.cyc, if_neg he]; rfl
        have hq : ((Fd.P 2 k : Int) == (a : Int)) = false := by rw [beq_eq_false_iff_ne]; omega
        generalize Fd.cyc a k = s at *
        generalize Fd.P 2 k = p at *
        clear he
        go_wp2_with fail
        refine (hc _).mono ?_
        rintro e u ⟨rfl, rfl⟩
        go_wp2_with fail
        go_round
        case rel => exact ⟨k + 1, by omega, by go_num, by rw [HN.out]⟩
        case measure => simp only [intOf]; omega
    · obtain rfl : k = 255 := by omega
      rw [HE.out _ rfl]
      clear HE hcl c0
      by_cases h0 : a = 0
      · rw [if_pos h0]
        have hq : ((a : Int) == 0) = true := by rw [beq_iff_eq]; omega
        go_wp2_with fail
        refine (c1 _).mono ?_
        rintro e u ⟨rfl, rfl⟩
        go_wp2_with fail
        go_ret
        exact ⟨rfl, Below.refl _ _⟩
      · rw [if_neg h0]
        have hq : ((a : Int) != 0) = true := by rw [bne_iff_ne]; omega
        go_wp2_with fail
        go_ret
        exact ⟨rfl, Below.refl _ _⟩

theorem fieldCycle_walk (a0 : Int) (w0 : (Lit.int .u8 a0).wf = true) (w : World) :
    Calls Try.prog 6 #[.int .u8 a0] w fun e w' => e = .returned (.bool true) ∧ Below w.heap.size w w' := by
  obtain ⟨a, rfl, ha⟩ := wf_byte w0
  have c1 := fun W => mul_any 2 128 W (by omega) (by omega)
  rw [M_2_128] at c1
  exact fieldCycle_of a w (fun N h => by rw [h]; exact Fd.cyc_all a ha) (fun k hk W => pow_any 2 k W (by omega) (by omega)) c1
end Go.Proofs.Ytcnepdmeanldaaa
