/-
  Plain facts (no Go in here): what was put is got, whatever stands behind.
-/
import Derived.Test.YtcgecafajgoeeaaDoorMath
namespace Go.Proofs.YtcgecafajgoeeaaDoor
namespace Nm

theorem head_tn (t : Nat) (l m : List UInt8) (h : l ≠ []) : (tn t l ++ m).headD 0 ^^^ UInt8.ofNat t = l.headD 0 := by
  cases l with
  | nil => exact absurd rfl h
  | cons b l => simp [tn, UInt8.xor_assoc]
theorem read_dig (n t : Nat) (m : List UInt8) (h : n < 256 ^ 8) : readN (tn t (dig n) ++ m) (dig n).length t = (n, 0) := by
  have hl := dig_length_le n
  have e : (tn t (dig n) ++ m).take (dig n).length = tn t (dig n) := by
    rw [List.take_append_of_le_length (by rw [tn_length]; exact Nat.le_refl _), List.take_of_length_le (by rw [tn_length]; exact Nat.le_refl _)]
  rw [readN, if_neg (by omega), if_neg (by rw [List.length_append, tn_length]; omega), if_neg ?_, e, tn_tn, val_dig n h]
  rintro ⟨h1, h2⟩
  have hne : dig n ≠ [] := by intro e; rw [e] at h1; simp at h1
  rw [head_tn t _ m hne] at h2
  have hn : n ≠ 0 := by intro e; subst e; exact hne rfl
  exact dig_head n hn h h2
theorem get_put (n : Nat) (m : List UInt8) (h : n < 256 ^ 8) : getN (put n ++ m) = (n, (put n).length, 0) := by
  have hl := dig_length_le n
  have hr := read_dig n 0 m h
  rw [tn_zero] at hr
  have hc : (UInt8.ofNat (dig n).length).toNat = (dig n).length := by rw [UInt8.toNat_ofNat']; omega
  rw [getN, if_neg (by simp [put])]
  simp only [put, List.cons_append, List.headD_cons, List.tail_cons, hc, hr]
  simp [Nat.add_comm]
theorem getI_putI (i : Int) (m : List UInt8) (h0 : -9223372036854775808 ≤ i) (h1 : i ≤ 9223372036854775807) : getI (putI i ++ m) = (i, (putI i).length, 0) := by
  by_cases hi : i < 0
  · have hl := dig_length_le (-1 - i).toNat
    have hr := read_dig (-1 - i).toNat 255 m (by omega)
    have hc : (UInt8.ofNat (127 - (dig (-1 - i).toNat).length)).toNat = 127 - (dig (-1 - i).toNat).length := by rw [UInt8.toNat_ofNat']; omega
    have hk : 127 - (127 - (dig (-1 - i).toNat).length) = (dig (-1 - i).toNat).length := by omega
    rw [putI, if_pos hi, getI, if_neg (by simp)]
    simp only [List.cons_append, List.headD_cons, List.tail_cons, hc, hk, hr]
    rw [if_neg (by omega), if_pos trivial, if_neg (by omega), List.length_cons, tn_length]
    simp only [Prod.mk.injEq]
    exact ⟨by omega, by omega, trivial⟩
  · have hl := dig_length_le i.toNat
    have hr := read_dig i.toNat 0 m (by omega)
    rw [tn_zero] at hr
    have hc : (UInt8.ofNat (128 + (dig i.toNat).length)).toNat = 128 + (dig i.toNat).length := by rw [UInt8.toNat_ofNat']; omega
    have hk : 128 + (dig i.toNat).length - 128 = (dig i.toNat).length := by omega
    rw [putI, if_neg hi, getI, if_neg (by simp)]
    simp only [List.cons_append, List.headD_cons, List.tail_cons, hc, hk, hr]
    rw [if_pos (by omega), if_pos trivial, if_neg (by omega), List.length_cons]
    simp only [Prod.mk.injEq]
    exact ⟨by omega, by omega, trivial⟩
theorem putI_length (i : Int) : (putI i).length ≤ 9 := by
  unfold putI
  split
  · have := dig_length_le (-1 - i).toNat; rw [List.length_cons, tn_length]; omega
  · have := dig_length_le i.toNat; rw [List.length_cons]; omega
theorem oneNaN_lt (b : Nat) (h : b < 18446744073709551616) : oneNaN b < 18446744073709551616 := by
  unfold oneNaN; split <;> omega
theorem flip_lt (c : Nat) (h : c < 18446744073709551616) : flip c < 18446744073709551616 := by
  unfold flip; split <;> omega
theorem unflip_flip (c : Nat) (h : c < 18446744073709551616) : unflip (flip c) = c := by
  unfold flip
  split
  · rw [unflip, if_neg (by omega)]; omega
  · rw [unflip, if_pos (by omega)]; omega
theorem putF_length (b : Nat) : (putF b).length = 8 := low_length 8 _
theorem getF_putF (b : Nat) (m : List UInt8) (h : b < 18446744073709551616) : getF (putF b ++ m) = (oneNaN b, 8, 0) := by
  have hf := flip_lt _ (oneNaN_lt b h)
  have e : (putF b ++ m).take 8 = putF b := by
    rw [List.take_append_of_le_length (by rw [putF_length]; exact Nat.le_refl _), List.take_of_length_le (by rw [putF_length]; exact Nat.le_refl _)]
  have hv : val (putF b) = flip (oneNaN b) := by rw [putF, val_low, Nat.mod_eq_of_lt (by omega)]
  rw [getF, if_neg (by rw [List.length_append, putF_length]; omega), e, hv, unflip_flip _ (oneNaN_lt b h), if_neg ?_]
  rintro ⟨h1, h2⟩
  cases hn : nanB b
  · rw [oneNaN, if_neg (by rw [hn]; decide), hn] at h1
    cases h1
  · rw [oneNaN, if_pos hn] at h2
    exact h2 rfl
theorem scan_putT (l : List UInt8) : ∀ (acc m : List UInt8) (p : Nat), acc.length + l.length ≤ 1024 → scanT (esc l ++ ([0, 0] ++ m)) acc p = (acc ++ l, p + (esc l).length + 2, 0) := by
  induction l with
  | nil => intro acc m p h; rw [show esc [] ++ ([0, 0] ++ m) = 0 :: 0 :: m from rfl, scan_zeros]; simp [esc]
  | cons b l ih =>
    intro acc m p h
    rw [List.length_cons] at h
    by_cases hb : b = 0
    · subst hb
      rw [show esc (0 :: l) ++ ([0, 0] ++ m) = 0 :: 255 :: (esc l ++ ([0, 0] ++ m)) from rfl, scan_esc _ _ _ (by omega), ih _ _ _ (by simp; omega)]
      simp [esc]; omega
    · rw [show esc (b :: l) ++ ([0, 0] ++ m) = b :: (esc l ++ ([0, 0] ++ m)) from by simp [esc, hb], scan_byte _ _ _ _ hb (by omega), ih _ _ _ (by simp; omega)]
      simp [esc, hb]; omega
theorem putT_length (l : List UInt8) : (putT l).length ≤ 2 * l.length + 2 := by
  have := esc_length l
  rw [putT, List.length_append]; simp; omega
theorem getT_putT (l m : List UInt8) (h : l.length ≤ 1024) : getT (putT l ++ m) = (l, (putT l).length, 0) := by
  have h1 := scan_putT l [] m 0 (by simpa using h)
  rw [getT, putT, List.append_assoc, h1]
  simp
end Nm
end Go.Proofs.YtcgecafajgoeeaaDoor
