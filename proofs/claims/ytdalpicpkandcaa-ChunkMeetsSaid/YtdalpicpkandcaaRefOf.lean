/-
  What Of of the document's answer (package lumref) answers.
-/
import Derived.Test.YtdalpicpkandcaaRefT
import Derived.Test.YtdalpicpkandcaaRollOf
import Derived.Test.YtdalpicpkandcaaBytes
namespace Go.Proofs.Ytdalpicpkandcaa
open Go.RowKit

theorem step_bits (o : Nat) (b : UInt8) (ho : o < 2147483648) : bits .xor .u64 ((o : Int) * 256) (b.toNat : Int) = ((o * 256 ^^^ b.toNat : Nat) : Int) := by
  have := Rl.byte_lt b
  rw [show (o : Int) * 256 = ((o * 256 : Nat) : Int) from by omega, u64_xor_nat _ _ (by omega) (by omega)]

set_option maxHeartbeats 1000000 in
theorem rof_small (s : ByteArray) (w : World) (hs : s.size ≤ 16) :
    Calls Try.prog 39 #[.string s] w fun e w' => e = .returned (.int .u32 (Rl.ofA 0 s.data.toList : Nat)) ∧ Below w.heap.size w w' := by
  have hcv := run_bytes_of_string (P := Try.prog) w 9 54 5 s (by kernel_rfl) (by kernel_rfl) (by kernel_rfl)
  have HC : Hid (∀ j (hj : j < s.size), (w.alloc (.cells (bytesRow s (grownCap w s.size 0 5)) 5 ((bytesRow s (grownCap w s.size 0 5)).size, (bytesRow s (grownCap w s.size 0 5)).size + 1))).drew.cell? ⟨w.heap.size, j, none⟩ = some (.int .u8 (s[j].toNat : Int))) := fun j hj => bytes_cell w s _ _ j hj
  have HB : Hid (Below w.heap.size w (w.alloc (.cells (bytesRow s (grownCap w s.size 0 5)) 5 ((bytesRow s (grownCap w s.size 0 5)).size, (bytesRow s (grownCap w s.size 0 5)).size + 1))).drew) := ((Below.refl _ w).alloc (Nat.le_refl _) _).drew
  have hul : s.data.toList.length = s.size := by rw [← Lib.size_eq]
  go_enter Try.func39, Try.ntmps39
  go_wp2_with fail
  clear hcv
  generalize bytesRow s (grownCap w s.size 0 5) = C at *
  generalize grownCap w s.size 0 5 = cap at *
  generalize (w.alloc (.cells C 5 (C.size, C.size + 1))).drew = W1 at *
  go_loop [3, 17] (fun o i => ∃ k : Nat, k ≤ s.size ∧ i = .int .i64 k ∧ o = .int .u32 (Rl.ofA 0 (s.data.toList.take k) : Nat)) (fun _ i => s.size - (intOf i).toNat)
  case atStart => exact ⟨0, by omega, rfl, rfl⟩
  case round =>
    obtain ⟨k, hk, rfl, rfl⟩ := hrel
    by_cases hlt : k < s.size
    · have hc := HC.out k hlt
      have hol := Rl.ofA_lt (o := 0) (by omega) (s.data.toList.take k)
      have hbl := Rl.byte_lt s[k]
      have hx := step_bits (Rl.ofA 0 (s.data.toList.take k)) s[k] hol
      have hr := fun W => rrest_any (Rl.ofA 0 (s.data.toList.take k) * 256 ^^^ s[k].toNat) W (Nat.xor_lt_two_pow (n := 64) (by omega) (by omega))
      have HT : Hid (Rl.mxk 8 (Rl.ofA 0 (s.data.toList.take k)) ^^^ s[k].toNat = Rl.ofA 0 (s.data.toList.take (k + 1))) := (ofA_take _ k (by omega)).symm
      rw [Rl.step_rem hol, HT.out] at hr
      go_wp2_with fail
      refine (hr _).mono ?_
      rintro e w1 ⟨rfl, rfl⟩
      go_wp2_with fail
      go_round
      case rel => exact ⟨k + 1, by omega, by go_num, rfl⟩
      case measure => simp [intOf]; omega
    · obtain rfl : k = s.size := by omega
      rw [List.take_of_length_le (by omega)]
      go_wp2_with fail
      go_ret
      exact ⟨rfl, HB.out⟩

set_option maxHeartbeats 1000000 in
theorem rof_large (s u : ByteArray) (w : World) (hs : 16 < s.size) (hs2 : s.size ≤ 281474976710656) (hu : s.extract ((s.size : Int) - 16).toNat s.size = u) :
    Calls Try.prog 39 #[.string s] w fun e w' => e = .returned (.int .u32 (Rl.ofA 0 u.data.toList : Nat)) ∧ Below w.heap.size w w' := by
  have hcv := run_bytes_of_string (P := Try.prog) w 9 54 5 u (by kernel_rfl) (by kernel_rfl) (by kernel_rfl)
  have HC : Hid (∀ j (hj : j < u.size), (w.alloc (.cells (bytesRow u (grownCap w u.size 0 5)) 5 ((bytesRow u (grownCap w u.size 0 5)).size, (bytesRow u (grownCap w u.size 0 5)).size + 1))).drew.cell? ⟨w.heap.size, j, none⟩ = some (.int .u8 (u[j].toNat : Int))) := fun j hj => bytes_cell w u _ _ j hj
  have HB : Hid (Below w.heap.size w (w.alloc (.cells (bytesRow u (grownCap w u.size 0 5)) 5 ((bytesRow u (grownCap w u.size 0 5)).size, (bytesRow u (grownCap w u.size 0 5)).size + 1))).drew) := ((Below.refl _ w).alloc (Nat.le_refl _) _).drew
  have hul : u.data.toList.length = u.size := by rw [← Lib.size_eq]
  have hub : u.size ≤ 16 := by rw [← hu, ByteArray.size_extract]; omega
  have hsI : decide ((16 : Int) < (s.size : Int)) = true := by rw [decide_eq_true_eq]; omega
  go_enter Try.func39, Try.ntmps39
  go_wp2_with fail
  clear hcv
  generalize bytesRow u (grownCap w u.size 0 5) = C at *
  generalize grownCap w u.size 0 5 = cap at *
  generalize (w.alloc (.cells C 5 (C.size, C.size + 1))).drew = W1 at *
  go_loop [3, 17] (fun o i => ∃ k : Nat, k ≤ u.size ∧ i = .int .i64 k ∧ o = .int .u32 (Rl.ofA 0 (u.data.toList.take k) : Nat)) (fun _ i => u.size - (intOf i).toNat)
  case atStart => exact ⟨0, by omega, rfl, rfl⟩
  case round =>
    obtain ⟨k, hk, rfl, rfl⟩ := hrel
    by_cases hlt : k < u.size
    · have hc := HC.out k hlt
      have hol := Rl.ofA_lt (o := 0) (by omega) (u.data.toList.take k)
      have hbl := Rl.byte_lt u[k]
      have hx := step_bits (Rl.ofA 0 (u.data.toList.take k)) u[k] hol
      have hr := fun W => rrest_any (Rl.ofA 0 (u.data.toList.take k) * 256 ^^^ u[k].toNat) W (Nat.xor_lt_two_pow (n := 64) (by omega) (by omega))
      have HT : Hid (Rl.mxk 8 (Rl.ofA 0 (u.data.toList.take k)) ^^^ u[k].toNat = Rl.ofA 0 (u.data.toList.take (k + 1))) := (ofA_take _ k (by omega)).symm
      rw [Rl.step_rem hol, HT.out] at hr
      go_wp2_with fail
      refine (hr _).mono ?_
      rintro e w1 ⟨rfl, rfl⟩
      go_wp2_with fail
      go_round
      case rel => exact ⟨k + 1, by omega, by go_num, rfl⟩
      case measure => simp [intOf]; omega
    · obtain rfl : k = u.size := by omega
      rw [List.take_of_length_le (by omega)]
      go_wp2_with fail
      go_ret
      exact ⟨rfl, HB.out⟩

theorem rof_any (s : ByteArray) (w : World) (hs : s.size ≤ 281474976710656) :
    Calls Try.prog 39 #[.string s] w fun e w' => e = .returned (.int .u32 (Rl.ofL s.data.toList : Nat)) ∧ Below w.heap.size w w' := by
  have hl : s.data.toList.length = s.size := by rw [← Lib.size_eq]
  by_cases h : s.size ≤ 16
  · have := rof_small s w h
    rwa [show Rl.ofA 0 s.data.toList = Rl.ofL s.data.toList from by rw [Rl.ofL, hl, show s.size - 16 = 0 from by omega, List.drop_zero]] at this
  · obtain ⟨u, hu⟩ : ∃ u, s.extract ((s.size : Int) - 16).toNat s.size = u := ⟨_, rfl⟩
    have := rof_large s u w (by omega) hs hu
    rwa [show Rl.ofA 0 u.data.toList = Rl.ofL s.data.toList from by
      rw [Rl.ofL, ← hu, Lib.extract_data, hl, show ((s.size : Int) - 16).toNat = s.size - 16 from by omega, List.take_of_length_le (by rw [List.length_drop]; omega)]] at this
end Go.Proofs.Ytdalpicpkandcaa
