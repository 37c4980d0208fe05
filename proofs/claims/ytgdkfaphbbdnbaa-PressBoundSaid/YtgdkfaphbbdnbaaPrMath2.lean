/-
  Codes (no Go in it): bytes of bits, the last filled up with 0; what is left behind the signs.
-/
import Derived.Test.YtgdkfaphbbdnbaaPrMath
namespace Go.Proofs.Ytgdkfaphbbdnbaa
namespace Pr

/-- the bits of bytes -/
def bitsB (l : List Nat) : List Bool := l.flatMap fun b => wd b 8
theorem bitsB_nil : bitsB [] = [] := rfl
theorem bitsB_cons (b : Nat) (l : List Nat) : bitsB (b :: l) = wd b 8 ++ bitsB l := by simp [bitsB]
theorem bitsB_append (l m : List Nat) : bitsB (l ++ m) = bitsB l ++ bitsB m := by simp [bitsB]
theorem bitsB_length (l : List Nat) : (bitsB l).length = 8 * l.length := by
  induction l with
  | nil => rfl
  | cons b l ih => rw [bitsB_cons, List.length_append, wd_length, ih, List.length_cons]; omega
theorem bitsB_drop (l : List Nat) (k : Nat) : (bitsB l).drop (8 * k) = bitsB (l.drop k) := by
  induction k generalizing l with
  | zero => simp
  | succ k ih =>
    cases l with
    | nil => simp [bitsB]
    | cons b l =>
      rw [bitsB_cons, show 8 * (k + 1) = 8 + 8 * k by omega, ← List.drop_drop, List.drop_left' (wd_length b 8), ih, List.drop_succ_cons]
theorem bitsB_inj {l m : List Nat} (hl : ∀ b ∈ l, b < 256) (hm : ∀ b ∈ m, b < 256) (h : bitsB l = bitsB m) : l = m := by
  induction l generalizing m with
  | nil =>
    have := congrArg List.length h
    rw [bitsB_length, bitsB_length] at this
    exact (List.length_eq_zero_iff.1 (by simp only [List.length_nil] at this; omega)).symm
  | cons b l ih =>
    cases m with
    | nil =>
      have := congrArg List.length h
      rw [bitsB_length, bitsB_length] at this
      simp only [List.length_cons, List.length_nil] at this
      omega
    | cons c m =>
      rw [bitsB_cons, bitsB_cons] at h
      obtain ⟨h1, h2⟩ := List.append_inj h (by rw [wd_length, wd_length])
      rw [wd_inj (hl b List.mem_cons_self) (hm c List.mem_cons_self) h1, ih (fun x hx => hl x (List.mem_cons_of_mem _ hx)) (fun x hx => hm x (List.mem_cons_of_mem _ hx)) h2]
/-- bytes that hold so many bits and are filled up with 0 -/
def zs (n : Nat) : List Bool := List.replicate ((8 - n % 8) % 8) false
theorem zs_length (n : Nat) : (zs n).length = (8 - n % 8) % 8 := by simp [zs]
theorem zs_fill (n : Nat) : (n + (zs n).length) % 8 = 0 := by rw [zs_length]; omega
def bytesN : Nat → List Bool → List Nat
  | 0, _ => []
  | n + 1, b => val (b.take 8) :: bytesN n (b.drop 8)
def bytes (b : List Bool) : List Nat := bytesN ((b.length + 7) / 8) (b ++ zs b.length)
theorem bytesN_length (n : Nat) (b : List Bool) : (bytesN n b).length = n := by
  induction n generalizing b with
  | zero => rfl
  | succ n ih => rw [bytesN, List.length_cons, ih]
theorem bytesN_lt (n : Nat) (b : List Bool) : ∀ x ∈ bytesN n b, x < 256 := by
  induction n generalizing b with
  | zero => exact fun _ h => absurd h List.not_mem_nil
  | succ n ih =>
    intro x hx
    rcases List.mem_cons.1 hx with rfl | hx
    · refine Nat.lt_of_lt_of_le (val_lt _) ?_
      have h8 : (b.take 8).length ≤ 8 := by rw [List.length_take]; omega
      exact Nat.pow_le_pow_right (by omega : 2 > 0) h8
    · exact ih _ x hx
theorem bits_bytesN {n : Nat} {b : List Bool} (h : b.length = 8 * n) : bitsB (bytesN n b) = b := by
  induction n generalizing b with
  | zero => exact (List.length_eq_zero_iff.1 (by omega)).symm
  | succ n ih =>
    have h8 : (b.take 8).length = 8 := by rw [List.length_take]; omega
    have := wd_val (b.take 8)
    rw [h8] at this
    rw [bytesN, bitsB_cons, this, ih (by rw [List.length_drop]; omega), List.take_append_drop]
theorem bytesN_bits {l : List Nat} (h : ∀ b ∈ l, b < 256) : bytesN l.length (bitsB l) = l :=
  bitsB_inj (bytesN_lt _ _) h (bits_bytesN (bitsB_length l))
theorem bytes_length (b : List Bool) : (bytes b).length = (b.length + 7) / 8 := bytesN_length _ _
theorem bytes_lt (b : List Bool) : ∀ x ∈ bytes b, x < 256 := bytesN_lt _ _
theorem bits_bytes (b : List Bool) : bitsB (bytes b) = b ++ zs b.length := by
  refine bits_bytesN ?_
  rw [List.length_append, zs_length]
  omega
/-- the bits that are left are those of the last byte that was read from, and 0 -/
def clean (r : List Bool) : Bool := decide (r.length ≤ 7) && r.all fun b => !b
theorem clean_iff {r : List Bool} : clean r = true ↔ r.length ≤ 7 ∧ r = List.replicate r.length false := by
  simp only [clean, Bool.and_eq_true, decide_eq_true_eq, List.all_eq_true, Bool.not_eq_true', List.eq_replicate_iff, true_and]
theorem clean_zs (n : Nat) : clean (zs n) = true := by
  rw [clean_iff, zs_length]
  exact ⟨by omega, rfl⟩
theorem clean_len {n : Nat} {r : List Bool} (h : clean r = true) (h8 : (n + r.length) % 8 = 0) : r = zs n := by
  obtain ⟨h1, h2⟩ := clean_iff.1 h
  rw [h2, zs, show (8 - n % 8) % 8 = r.length by omega]
/-- what was laid by words, as bytes, is read again and leaves nothing but filling -/
theorem signs_bytes {l : List Nat} (g : Good l) {t : List Nat} (ht : ∀ i ∈ t, i < l.length ∧ 0 < l.getD i 0) :
    signs l t.length (bitsB (bytes (words l t))) = .inr (t, zs (words l t).length) := by
  rw [bits_bytes]
  exact signs_words g ht _
/-- bytes from which signs can be read and which leave nothing but filling are those of the signs' words -/
theorem bytes_signs {l : List Nat} {n : Nat} {B : List Nat} (hB : ∀ b ∈ B, b < 256) {t : List Nat} {r : List Bool} (h : signs l n (bitsB B) = .inr (t, r)) (hr : clean r = true) : B = bytes (words l t) := by
  obtain ⟨_, h2, _⟩ := signs_of h
  have hl := congrArg List.length h2
  rw [bitsB_length, List.length_append] at hl
  have := clean_len (n := (words l t).length) hr (by omega)
  refine bitsB_inj hB (bytes_lt _) ?_
  rw [bits_bytes, h2, this]
end Pr
end Go.Proofs.Ytgdkfaphbbdnbaa
