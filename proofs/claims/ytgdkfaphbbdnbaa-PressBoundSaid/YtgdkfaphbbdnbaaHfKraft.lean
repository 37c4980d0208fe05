/-
  What Kraft of package huff answers.
-/
import Derived.Test.YtgdkfaphbbdnbaaHfInts
namespace Go.Proofs.Ytgdkfaphbbdnbaa
open Go.RowKit

theorem shr_full {n : Nat} (hn : n ≤ 48) : (281474976710656 : Int) / 2 ^ n = ((2 ^ (48 - n) : Nat) : Int) ∧ 2 ^ (48 - n) ≤ 281474976710656 := by
  have e : (281474976710656 : Nat) = 2 ^ n * 2 ^ (48 - n) := by
    rw [← Nat.pow_add, show n + (48 - n) = 48 from by omega]
  have hp := Nat.two_pow_pos n
  constructor
  · have : (281474976710656 : Nat) / 2 ^ n = 2 ^ (48 - n) := by rw [e, Nat.mul_div_cancel_left _ hp]
    rw [← this]
    simp
  · generalize 2 ^ (48 - n) = x at *
    rw [e]
    exact Nat.le_mul_of_pos_left _ hp

set_option maxHeartbeats 1000000 in
theorem kraft_bad (v : Value) (l : List Int) (w : World) (h : Ints w v l) (hl : l.length ≤ 140737488351232) (hb : Hf.sgn 48 l = false) :
    Calls Try.prog 59 #[v] w fun e w' => e = .returned (.tuple #[.int .i64 0, .int .i64 1]) ∧ w' = w := by
  have hs := signs_any v l 48 w h hl
  rw [hb] at hs
  clear hb
  go_enter Try.func59, Try.ntmps59
  go_wp2_with fail
  refine hs.mono ?_
  rintro e w' ⟨rfl, rfl⟩
  go_wp2_with fail
  go_ret2
  exact ⟨rfl, rfl⟩

set_option maxHeartbeats 1000000 in
theorem kraft_any (v : Value) (L : List Nat) (w : World) (h : Ints w v (Hf.up L)) (h1 : 1 ≤ L.length) (h2 : L.length ≤ 256) (h3 : ∀ n ∈ L, n ≤ 48) :
    Calls Try.prog 59 #[v] w fun e w' => e = .returned (.tuple #[.int .i64 (Hf.ksum L : Nat), .int .i64 0]) ∧ w' = w := by
  have hs := signs_any v (Hf.up L) 48 w h (by rw [Hf.up_length]; omega)
  rw [show Hf.sgn 48 (Hf.up L) = true from Hf.sgn_all (by rw [Hf.up_length]; exact h1) (by rw [Hf.up_length]; exact h2) fun j hj => by
    rw [Hf.up_get]; have := Hf.getD_le h3 j; omega] at hs
  obtain ⟨a, c, rfl⟩ := h.slice
  rw [Hf.up_length] at h hs ⊢
  have H3 : Hid (∀ n ∈ L, n ≤ 48) := h3
  clear h3
  go_enter Try.func59, Try.ntmps59
  go_wp2_with fail
  refine hs.mono ?_
  rintro e w' ⟨rfl, rfl⟩
  clear hs
  go_wp2_with fail
  go_loop [4, 12] (fun s i => ∃ k : Nat, k ≤ L.length ∧ i = .int .i64 k ∧ s = .int .i64 (Hf.kto L k : Nat)) (fun _ i => L.length - (intOf i).toNat)
  case atStart => exact ⟨0, by omega, rfl, rfl⟩
  case round =>
    obtain ⟨k, hk, rfl, rfl⟩ := hrel
    by_cases hlt : k < L.length
    · obtain ⟨bk, o, rfl, hbk, c0⟩ := h.getN k hlt
      have hkl := Hf.kto_le L k
      have hn := Hf.getD_le H3.out k
      have HS : Hid (Hf.kto L (k + 1) = Hf.kto L k + if 0 < L.getD k 0 then 2 ^ (48 - L.getD k 0) else 0) := Hf.kto_succ L k
      generalize L.getD k 0 = n at *
      generalize Hf.kto L k = S at *
      clear h
      by_cases hn0 : 0 < n
      · obtain ⟨hsh, hpb⟩ := shr_full hn
        have HP : Hid (Hf.kto L (k + 1) = S + 2 ^ (48 - n)) := by rw [HS.out, if_pos hn0]; rfl
        generalize 2 ^ (48 - n) = p at *
        clear HS
        go_wp2_with fail
        go_round
        case rel => exact ⟨k + 1, by omega, by go_num, by rw [HP.out]; go_num⟩
        case measure => simp only [intOf]; omega
      · go_wp2_with fail
        go_round
        case rel => exact ⟨k + 1, by omega, by go_num, by rw [HS.out, if_neg hn0]; go_num⟩
        case measure => simp only [intOf]; omega
    · obtain rfl : k = L.length := by omega
      go_wp2_with fail
      go_ret2
      exact ⟨by rw [Hf.kto_all]; rfl, rfl⟩
end Go.Proofs.Ytgdkfaphbbdnbaa
