/-
  Plain facts on digits by 256 (no Go in here): 'dig' the digits of a number, 'val' the number of digits, 'low' the lowest k digits.
-/
import Derived.WalkKit
import Derived.Laws.BitsAllLaws
import Derived.Lib.Strings
namespace Go.Proofs.Ytoibiaikbgkbpaa
namespace Nm

def digF : Nat → Nat → List UInt8
  | 0, _ => []
  | f + 1, n => if n = 0 then [] else digF f (n / 256) ++ [UInt8.ofNat (n % 256)]
def dig (n : Nat) : List UInt8 := digF 8 n
def val (l : List UInt8) : Nat := l.foldl (fun a b => 256 * a + b.toNat) 0
def low : Nat → Nat → List UInt8
  | 0, _ => []
  | k + 1, n => UInt8.ofNat (n / 256 ^ k % 256) :: low k n
/-- each byte turned -/
def tn (t : Nat) (l : List UInt8) : List UInt8 := l.map (fun b => b ^^^ UInt8.ofNat t)

theorem val_nil : val [] = 0 := rfl
theorem val_snoc (l : List UInt8) (b : UInt8) : val (l ++ [b]) = 256 * val l + b.toNat := by simp [val, List.foldl_append]
theorem val_from (l : List UInt8) : ∀ a, l.foldl (fun a b => 256 * a + b.toNat) a = a * 256 ^ l.length + val l := by
  induction l with
  | nil => intro a; simp [val]
  | cons b l ih =>
    intro a
    have h := ih (256 * 0 + b.toNat)
    show List.foldl (fun a b => 256 * a + b.toNat) (256 * a + b.toNat) l = a * 256 ^ (l.length + 1) + List.foldl (fun a b => 256 * a + b.toNat) (256 * 0 + b.toNat) l
    rw [ih, h, Nat.pow_succ, Nat.add_mul, Nat.mul_zero, Nat.zero_add]
    rw [show 256 * a * 256 ^ l.length = a * (256 ^ l.length * 256) from by rw [Nat.mul_comm 256 a, Nat.mul_assoc, Nat.mul_comm 256]]
    omega
theorem val_cons (b : UInt8) (l : List UInt8) : val (b :: l) = b.toNat * 256 ^ l.length + val l := by
  have h := val_from l (256 * 0 + b.toNat)
  simp only [val, List.foldl_cons] at h ⊢
  rw [h]; simp
theorem val_lt (l : List UInt8) : val l < 256 ^ l.length := by
  induction l with
  | nil => simp [val]
  | cons b l ih =>
    rw [val_cons, List.length_cons, Nat.pow_succ]
    have hb := b.toNat_lt
    have : b.toNat * 256 ^ l.length ≤ 255 * 256 ^ l.length := Nat.mul_le_mul_right _ (by omega)
    omega
theorem tn_length (t : Nat) (l : List UInt8) : (tn t l).length = l.length := by simp [tn]
theorem tn_zero (l : List UInt8) : tn 0 l = l := by simp [tn]
theorem tn_append (t : Nat) (l m : List UInt8) : tn t (l ++ m) = tn t l ++ tn t m := by simp [tn]
theorem tn_tn (t : Nat) (l : List UInt8) : tn t (tn t l) = l := by
  simp only [tn, List.map_map]
  have : (fun b : UInt8 => b ^^^ UInt8.ofNat t) ∘ (fun b => b ^^^ UInt8.ofNat t) = id := by
    funext b; simp [UInt8.xor_assoc]
  rw [this, List.map_id]
theorem low_length (k n : Nat) : (low k n).length = k := by
  induction k with
  | zero => rfl
  | succ k ih => simp [low, ih]
theorem low_mod (k n m : Nat) (h : k ≤ m) : low k (n % 256 ^ m) = low k n := by
  induction k with
  | zero => rfl
  | succ k ih =>
    rw [low, low, ih (by omega)]
    congr 2
    obtain ⟨d, rfl⟩ : ∃ d, m = (k + 1) + d := ⟨m - (k + 1), by omega⟩
    rw [← Nat.mod_mul_right_div_self, ← Nat.mod_mul_right_div_self (m := n)]
    rw [← Nat.pow_succ, Nat.mod_mod_of_dvd]
    exact Nat.pow_dvd_pow 256 (by omega)
theorem val_low (k n : Nat) : val (low k n) = n % 256 ^ k := by
  induction k with
  | zero => simp [low, val, Nat.mod_one]
  | succ k ih =>
    rw [low, val_cons, low_length, ih, Nat.pow_succ]
    have : (UInt8.ofNat (n / 256 ^ k % 256)).toNat = n / 256 ^ k % 256 := by
      rw [UInt8.toNat_ofNat']; omega
    rw [this, Nat.mod_mul, Nat.mul_comm]
    omega
theorem low_val (l : List UInt8) : low l.length (val l) = l := by
  induction l with
  | nil => rfl
  | cons b l ih =>
    have hl := val_lt l
    have hp : 0 < 256 ^ l.length := Nat.pow_pos (by omega)
    rw [val_cons, List.length_cons, low]
    have e1 : (b.toNat * 256 ^ l.length + val l) / 256 ^ l.length = b.toNat := by
      rw [Nat.add_comm, Nat.add_mul_div_right _ _ hp, Nat.div_eq_of_lt hl]; omega
    have e2 : low l.length (b.toNat * 256 ^ l.length + val l) = l := by
      rw [← low_mod _ _ l.length (Nat.le_refl _), Nat.mul_add_mod_self_right, Nat.mod_eq_of_lt hl, ih]
    rw [e1, e2]
    have hb := b.toNat_lt
    rw [Nat.mod_eq_of_lt (by omega)]
    simp
theorem low_snoc (k n : Nat) : low (k + 1) n = low k (n / 256) ++ [UInt8.ofNat (n % 256)] := by
  induction k with
  | zero => simp [low]
  | succ k ih =>
    rw [low, ih, low, List.cons_append]
    congr 2
    rw [Nat.div_div_eq_div_mul, Nat.pow_succ, Nat.mul_comm]
theorem digF_length_le (f n : Nat) : (digF f n).length ≤ f := by
  induction f generalizing n with
  | zero => simp [digF]
  | succ f ih =>
    rw [digF]; split
    · simp
    · have := ih (n / 256); simp; omega
theorem digF_low (f n : Nat) : digF f n = low (digF f n).length n := by
  induction f generalizing n with
  | zero => rfl
  | succ f ih =>
    rw [digF]; split
    · rfl
    · rw [List.length_append, List.length_singleton, low_snoc, ← ih]
theorem dig_length_le (n : Nat) : (dig n).length ≤ 8 := digF_length_le 8 n
theorem dig_low (n : Nat) : low (dig n).length n = dig n := (digF_low 8 n).symm
theorem digF_lt (f n : Nat) (h : n < 256 ^ f) : n < 256 ^ (digF f n).length := by
  induction f generalizing n with
  | zero => simpa [digF] using h
  | succ f ih =>
    rw [digF]; split
    · subst_vars; simp
    · rw [List.length_append, List.length_singleton, Nat.pow_succ]
      have := ih (n / 256) (by rw [Nat.pow_succ] at h; omega)
      omega
theorem dig_lt (n : Nat) (h : n < 256 ^ 8) : n < 256 ^ (dig n).length := digF_lt 8 n h
theorem val_dig (n : Nat) (h : n < 256 ^ 8) : val (dig n) = n := by
  rw [← dig_low, val_low, Nat.mod_eq_of_lt (dig_lt n h)]
/-- there are no noughts ahead -/
theorem digF_ge (f n : Nat) (hn : n ≠ 0) (hf : f ≠ 0) : 256 ^ ((digF f n).length - 1) ≤ n ∧ (digF f n).length ≠ 0 := by
  induction f generalizing n with
  | zero => exact absurd rfl hf
  | succ f ih =>
    rw [digF, if_neg hn, List.length_append, List.length_singleton, Nat.add_sub_cancel]
    refine ⟨?_, by omega⟩
    by_cases hf0 : f = 0
    · subst hf0; simp [digF]; omega
    · by_cases h0 : n / 256 = 0
      · rw [h0]
        have : digF f 0 = [] := by cases f <;> simp [digF]
        rw [this]; simp; omega
      · have ⟨h1, h2⟩ := ih (n / 256) h0 hf0
        obtain ⟨m, hm⟩ : ∃ m, (digF f (n / 256)).length = m + 1 := ⟨_, (Nat.succ_pred_eq_of_ne_zero h2).symm⟩
        rw [hm, Nat.add_sub_cancel] at h1
        rw [hm, Nat.pow_succ]; omega
theorem dig_ge (n : Nat) (hn : n ≠ 0) : 256 ^ ((dig n).length - 1) ≤ n ∧ (dig n).length ≠ 0 := digF_ge 8 n hn (by omega)
theorem dig_zero : dig 0 = [] := rfl
/-- k digits without a nought ahead are the digits of their number -/
theorem dig_unique (k n : Nat) (h8 : k ≤ 8) (h1 : n < 256 ^ k) (h2 : k = 0 ∨ 256 ^ (k - 1) ≤ n) : (dig n).length = k := by
  by_cases hn : n = 0
  · subst hn
    rcases h2 with rfl | h2
    · rfl
    · have : 0 < 256 ^ (k - 1) := Nat.pow_pos (by omega)
      omega
  · have ⟨g1, g2⟩ := dig_ge n hn
    have g3 := dig_lt n (Nat.lt_of_lt_of_le h1 (Nat.pow_le_pow_right (by omega) h8))
    have a1 : (dig n).length - 1 < k := (Nat.pow_lt_pow_iff_right (a := 256) (by omega)).1 (Nat.lt_of_le_of_lt g1 h1)
    rcases h2 with rfl | h2
    · simp at h1; omega
    · have a2 : k - 1 < (dig n).length := (Nat.pow_lt_pow_iff_right (a := 256) (by omega)).1 (Nat.lt_of_le_of_lt h2 g3)
      omega
theorem dig_val (l : List UInt8) (h8 : l.length ≤ 8) (h : l = [] ∨ l.headD 0 ≠ 0) : dig (val l) = l := by
  have hk : (dig (val l)).length = l.length := by
    refine dig_unique _ _ h8 (val_lt l) ?_
    rcases h with rfl | h
    · exact .inl rfl
    · cases l with
      | nil => exact .inl rfl
      | cons b l =>
        right
        simp at h
        have hb : b.toNat ≠ 0 := by
          intro e; exact h (UInt8.toNat_inj.1 (by simpa using e))
        rw [val_cons, List.length_cons, Nat.add_sub_cancel]
        have : 1 * 256 ^ l.length ≤ b.toNat * 256 ^ l.length := Nat.mul_le_mul_right _ (by omega)
        omega
  rw [← dig_low, hk, low_val]
theorem dig_head (n : Nat) (hn : n ≠ 0) (h : n < 256 ^ 8) : (dig n).headD 0 ≠ 0 := by
  have ⟨g1, g2⟩ := dig_ge n hn
  intro e
  cases hd : dig n with
  | nil => simp [hd] at g2
  | cons b l =>
    rw [hd] at e g1
    simp at e g1
    have hv := val_dig n h
    rw [hd, val_cons, e] at hv
    have := val_lt l
    simp at hv
    omega
def put (n : Nat) : List UInt8 := UInt8.ofNat (dig n).length :: dig n
theorem put_length (n : Nat) : (put n).length ≤ 9 := by have := dig_length_le n; simp [put]; omega
/-- what k digits at the front say: the number, and what is wrong -/
def readN (l : List UInt8) (k t : Nat) : Nat × Int :=
  if 8 < k then (0, 4) else if l.length < k then (0, 3) else if 0 < k ∧ l.headD 0 ^^^ UInt8.ofNat t = 0 then (0, 4) else (val (tn t (l.take k)), 0)
/-- what Get says: the number, how many bytes, what is wrong -/
def getN (l : List UInt8) : Nat × Nat × Int :=
  if l = [] then (0, 0, 3) else
    let r := readN l.tail (l.headD 0).toNat 0
    if r.2 = 0 then (r.1, 1 + (l.headD 0).toNat, 0) else (0, 0, r.2)
def putI (n : Int) : List UInt8 :=
  if n < 0 then UInt8.ofNat (127 - (dig (-1 - n).toNat).length) :: tn 255 (dig (-1 - n).toNat) else UInt8.ofNat (128 + (dig n.toNat).length) :: dig n.toNat
/-- what GetInt says -/
def getI (l : List UInt8) : Int × Nat × Int :=
  if l = [] then (0, 0, 3) else
    if 128 ≤ (l.headD 0).toNat then
      let r := readN l.tail ((l.headD 0).toNat - 128) 0
      if r.2 = 0 then if 9223372036854775807 < r.1 then (0, 0, 4) else ((r.1 : Int), 1 + ((l.headD 0).toNat - 128), 0) else (0, 0, r.2)
    else
      let r := readN l.tail (127 - (l.headD 0).toNat) 255
      if r.2 = 0 then if 9223372036854775807 < r.1 then (0, 0, 4) else (-1 - (r.1 : Int), 1 + (127 - (l.headD 0).toNat), 0) else (0, 0, r.2)
theorem low_add (j k n : Nat) : low (j + k) n = low j (n / 256 ^ k) ++ low k n := by
  induction j with
  | zero => simp [low]
  | succ j ih =>
    rw [show j + 1 + k = (j + k) + 1 from by omega, low, ih, low, List.cons_append, Nat.div_div_eq_div_mul, ← Nat.pow_add, Nat.add_comm k j]
theorem low_nought (j : Nat) : low j 0 = List.replicate j 0 := by
  induction j with
  | zero => rfl
  | succ j ih => rw [low, ih, List.replicate_succ]; simp
/-- noughts ahead of the digits -/
theorem low_pad (n : Nat) (h : n < 256 ^ 8) : List.replicate (8 - (dig n).length) 0 ++ dig n = low 8 n := by
  have hl := dig_length_le n
  have h1 := low_add (8 - (dig n).length) (dig n).length n
  rw [show 8 - (dig n).length + (dig n).length = 8 from by omega, Nat.div_eq_of_lt (dig_lt n h), low_nought, dig_low] at h1
  exact h1.symm
theorem not_byte (b : UInt8) : (b ^^^ UInt8.ofNat 255).toNat = 255 - b.toNat := by
  have key : ∀ n : Fin 256, ((UInt8.ofNat n.val) ^^^ UInt8.ofNat 255).toNat = 255 - n.val := by decide +kernel
  have := key ⟨b.toNat, b.toNat_lt⟩
  simpa using this
theorem val_not (l : List UInt8) : val (tn 255 l) + val l + 1 = 256 ^ l.length := by
  induction l with
  | nil => simp [tn, val]
  | cons b l ih =>
    rw [show tn 255 (b :: l) = (b ^^^ UInt8.ofNat 255) :: tn 255 l from rfl, val_cons, val_cons, tn_length, not_byte, List.length_cons, Nat.pow_succ]
    have hb := b.toNat_lt
    generalize 256 ^ l.length = P at *
    generalize b.toNat = x at *
    have : (255 - x) * P + x * P = 255 * P := by rw [← Nat.add_mul]; congr 1; omega
    omega
theorem low_not (b : Nat) (h : b < 18446744073709551616) : tn 255 (low 8 b) = low 8 (18446744073709551615 - b) := by
  have h1 := val_not (low 8 b)
  rw [val_low, low_length, Nat.mod_eq_of_lt (by omega)] at h1
  have h2 := low_val (tn 255 (low 8 b))
  rw [tn_length, low_length] at h2
  rw [← h2]
  congr 1
  omega
/-- are the bits a NaN's -/
def nanB (b : Nat) : Bool := decide (9218868437227405312 < b % 9223372036854775808)
/-- the bits, one NaN for all -/
def oneNaN (b : Nat) : Nat := if nanB b then 9221120237041090561 else b
/-- the bits turned so that they keep their order -/
def flip (b : Nat) : Nat := if b < 9223372036854775808 then b + 9223372036854775808 else 18446744073709551615 - b
def putF (b : Nat) : List UInt8 := low 8 (flip (oneNaN b))
/-- and back -/
def unflip (n : Nat) : Nat := if n < 9223372036854775808 then 18446744073709551615 - n else n - 9223372036854775808
/-- what GetFloat says: the bits, how many bytes, what is wrong -/
def getF (l : List UInt8) : Nat × Nat × Int :=
  if l.length < 8 then (0, 0, 3) else
    if nanB (unflip (val (l.take 8))) = true ∧ unflip (val (l.take 8)) ≠ 9221120237041090561 then (0, 0, 4) else (unflip (val (l.take 8)), 8, 0)
/-- a text's bytes, behind each 0 a 255 -/
def esc : List UInt8 → List UInt8
  | [] => []
  | b :: l => (if b = 0 then [0, 255] else [b]) ++ esc l
theorem esc_append (l m : List UInt8) : esc (l ++ m) = esc l ++ esc m := by
  induction l with
  | nil => rfl
  | cons b l ih => rw [List.cons_append, esc, esc, ih, List.append_assoc]
theorem esc_length (l : List UInt8) : (esc l).length ≤ 2 * l.length := by
  induction l with
  | nil => simp [esc]
  | cons b l ih => rw [esc, List.length_append, List.length_cons]; split <;> simp <;> omega
theorem esc_zero (l : List UInt8) : esc (l ++ [0]) = esc l ++ [0] ++ [255] := by rw [esc_append]; simp [esc]
theorem esc_other (l : List UInt8) (b : UInt8) (h : b ≠ 0) : esc (l ++ [b]) = esc l ++ [b] := by rw [esc_append]; simp [esc, h]
def putT (l : List UInt8) : List UInt8 := esc l ++ [0, 0]
/-- what GetText says of the bytes l, when acc was read and p bytes lie ahead: the text, how many bytes, what is wrong -/
def scanT : List UInt8 → List UInt8 → Nat → List UInt8 × Nat × Int
  | [], _, _ => ([], 0, 3)
  | [b], acc, _ => if b = 0 then ([], 0, 3) else if acc.length = 1024 then ([], 0, 2) else ([], 0, 3)
  | b :: d :: r, acc, p =>
    if b = 0 then
      if d = 0 then (acc, p + 2, 0) else if d = 255 then (if acc.length = 1024 then ([], 0, 2) else scanT r (acc ++ [0]) (p + 2)) else ([], 0, 4)
    else if acc.length = 1024 then ([], 0, 2) else scanT (d :: r) (acc ++ [b]) (p + 1)
def getT (l : List UInt8) : List UInt8 × Nat × Int := scanT l [] 0
theorem scan_full (b : UInt8) (r acc : List UInt8) (p : Nat) (h : b ≠ 0) (ha : acc.length = 1024) : scanT (b :: r) acc p = ([], 0, 2) := by
  cases r <;> rw [scanT, if_neg h, if_pos ha]
theorem scan_byte (b : UInt8) (r acc : List UInt8) (p : Nat) (h : b ≠ 0) (ha : acc.length ≠ 1024) : scanT (b :: r) acc p = scanT r (acc ++ [b]) (p + 1) := by
  cases r with
  | nil =>
    have h1 : scanT [b] acc p = ([], 0, 3) := by rw [scanT, if_neg h, if_neg ha]
    rw [h1]; rfl
  | cons d r => rw [scanT, if_neg h, if_neg ha]
theorem scan_end (acc : List UInt8) (p : Nat) : scanT [0] acc p = ([], 0, 3) := by rw [scanT, if_pos rfl]
theorem scan_zeros (r acc : List UInt8) (p : Nat) : scanT (0 :: 0 :: r) acc p = (acc, p + 2, 0) := by rw [scanT, if_pos rfl, if_pos rfl]
theorem scan_bad (d : UInt8) (r acc : List UInt8) (p : Nat) (h0 : d ≠ 0) (h1 : d ≠ 255) : scanT (0 :: d :: r) acc p = ([], 0, 4) := by rw [scanT, if_pos rfl, if_neg h0, if_neg h1]
theorem scan_esc_full (r acc : List UInt8) (p : Nat) (ha : acc.length = 1024) : scanT (0 :: 255 :: r) acc p = ([], 0, 2) := by rw [scanT, if_pos rfl, if_neg (by decide), if_pos rfl, if_pos ha]
theorem scan_esc (r acc : List UInt8) (p : Nat) (ha : acc.length ≠ 1024) : scanT (0 :: 255 :: r) acc p = scanT r (acc ++ [0]) (p + 2) := by rw [scanT, if_pos rfl, if_neg (by decide), if_pos rfl, if_neg ha]
end Nm
end Go.Proofs.Ytoibiaikbgkbpaa
