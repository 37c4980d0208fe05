/-
  Plain facts on digits by 256 (no Go in here): 'dig' the digits of a number, 'val' the number of digits, 'low' the lowest k digits.
  Small facts about bytes, owned rows and strings, over this program.
  What stays: every block of which something holds.
  Plain facts (no Go in here): what was put is got, whatever stands behind.
  Plain facts (no Go in here) on the digest's step: it can be undone.
  Plain facts (no Go in here): the digest of a text, block by block.
  Plain facts (no Go in here): the steps of a text, and: two unlike texts of one narrow sum have unlike steps that end alike.
  Plain facts (no Go in here): texts of one length that are unlike within one block only have unlike sums.
  P27 to P30 (no Go in it): blobs, what a pack of them is, what is read of whatever bytes, and that what is packed is read as it was.
  P28 to P30 (no Go in it): what is packed is listed, found and split as it was; a changed byte is told; what is told has its digest.
  Rows of blobs and of a pack's list as they lie in memory.
  What product and Step of the document's answer (package lumref) answer.
  What Step and Undo of package mix answer.
  What digits of the document's answer (package lumref) answers.
  The library's contracts at this program: strings_Repeat (laid by the guide's own tools, written out in plain words).
  What wide of the document's answer (package lumref) answers: the eight digits of a number.
  What Narrow of the document's answer (package lumref) answers.
  What readBlock, digest, Sum and Narrow of package mix answer.
-/
import Derived.WalkKit
import Derived.Laws.BitsAllLaws
import Derived.Lib.Strings
import Derived.Test.YtkhejelmjkpgfaaProg
import Derived.WalkSpells
import Derived.WalkLawsBesides
import Derived.Below
import Derived.WalkSmall
import Derived.Deep.RegionWith
import Derived.Deep.QuietTactic
import Derived.BigQuiet
import Derived.Shelf.Strings.Repeat

namespace Go.Proofs.Ytkhejelmjkpgfaa
namespace Nm

def digF : Nat → Nat → List UInt8
  | 0, _ => []
  | f + 1, n => if n = 0 then [] else digF f (n / 256) ++ [UInt8.ofNat (n % 256)]
def dig (n : Nat) : List UInt8 := digF 8 n
def val (l : List UInt8) : Nat := l.foldl (fun a b => 256 * a + b.toNat) 0
def low : Nat → Nat → List UInt8
  | 0, _ => []
  | k + 1, n => UInt8.ofNat (n / 256 ^ k % 256) :: low k n
/-- each byte turned -/
def tn (t : Nat) (l : List UInt8) : List UInt8 := l.map (fun b => b ^^^ UInt8.ofNat t)

theorem val_nil : val [] = 0 := rfl
theorem val_snoc (l : List UInt8) (b : UInt8) : val (l ++ [b]) = 256 * val l + b.toNat := by simp [val, List.foldl_append]
theorem val_from (l : List UInt8) : ∀ a, l.foldl (fun a b => 256 * a + b.toNat) a = a * 256 ^ l.length + val l := by
  induction l with
  | nil => intro a; simp [val]
  | cons b l ih =>
    intro a
    have h := ih (256 * 0 + b.toNat)
    show List.foldl (fun a b => 256 * a + b.toNat) (256 * a + b.toNat) l = a * 256 ^ (l.length + 1) + List.foldl (fun a b => 256 * a + b.toNat) (256 * 0 + b.toNat) l
    rw [ih, h, Nat.pow_succ, Nat.add_mul, Nat.mul_zero, Nat.zero_add]
    rw [show 256 * a * 256 ^ l.length = a * (256 ^ l.length * 256) from by rw [Nat.mul_comm 256 a, Nat.mul_assoc, Nat.mul_comm 256]]
    omega
theorem val_cons (b : UInt8) (l : List UInt8) : val (b :: l) = b.toNat * 256 ^ l.length + val l := by
  have h := val_from l (256 * 0 + b.toNat)
  simp only [val, List.foldl_cons] at h ⊢
  rw [h]; simp
theorem val_lt (l : List UInt8) : val l < 256 ^ l.length := by
  induction l with
  | nil => simp [val]
  | cons b l ih =>
    rw [val_cons, List.length_cons, Nat.pow_succ]
    have hb := b.toNat_lt
    have : b.toNat * 256 ^ l.length ≤ 255 * 256 ^ l.length := Nat.mul_le_mul_right _ (by omega)
    omega
theorem tn_length (t : Nat) (l : List UInt8) : (tn t l).length = l.length := by simp [tn]
theorem tn_zero (l : List UInt8) : tn 0 l = l := by simp [tn]
theorem tn_append (t : Nat) (l m : List UInt8) : tn t (l ++ m) = tn t l ++ tn t m := by simp [tn]
theorem tn_tn (t : Nat) (l : List UInt8) : tn t (tn t l) = l := by
  simp only [tn, List.map_map]
  have : (fun b : UInt8 => b ^^^ UInt8.ofNat t) ∘ (fun b => b ^^^ UInt8.ofNat t) = id := by
    funext b; simp [UInt8.xor_assoc]
  rw [this, List.map_id]
theorem low_length (k n : Nat) : (low k n).length = k := by
  induction k with
  | zero => rfl
  | succ k ih => simp [low, ih]
theorem low_mod (k n m : Nat) (h : k ≤ m) : low k (n % 256 ^ m) = low k n := by
  induction k with
  | zero => rfl
  | succ k ih =>
    rw [low, low, ih (by omega)]
    congr 2
    obtain ⟨d, rfl⟩ : ∃ d, m = (k + 1) + d := ⟨m - (k + 1), by omega⟩
    rw [← Nat.mod_mul_right_div_self, ← Nat.mod_mul_right_div_self (m := n)]
    rw [← Nat.pow_succ, Nat.mod_mod_of_dvd]
    exact Nat.pow_dvd_pow 256 (by omega)
theorem val_low (k n : Nat) : val (low k n) = n % 256 ^ k := by
  induction k with
  | zero => simp [low, val, Nat.mod_one]
  | succ k ih =>
    rw [low, val_cons, low_length, ih, Nat.pow_succ]
    have : (UInt8.ofNat (n / 256 ^ k % 256)).toNat = n / 256 ^ k % 256 := by
      rw [UInt8.toNat_ofNat']; omega
    rw [this, Nat.mod_mul, Nat.mul_comm]
    omega
theorem low_val (l : List UInt8) : low l.length (val l) = l := by
  induction l with
  | nil => rfl
  | cons b l ih =>
    have hl := val_lt l
    have hp : 0 < 256 ^ l.length := Nat.pow_pos (by omega)
    rw [val_cons, List.length_cons, low]
    have e1 : (b.toNat * 256 ^ l.length + val l) / 256 ^ l.length = b.toNat := by
      rw [Nat.add_comm, Nat.add_mul_div_right _ _ hp, Nat.div_eq_of_lt hl]; omega
    have e2 : low l.length (b.toNat * 256 ^ l.length + val l) = l := by
      rw [← low_mod _ _ l.length (Nat.le_refl _), Nat.mul_add_mod_self_right, Nat.mod_eq_of_lt hl, ih]
    rw [e1, e2]
    have hb := b.toNat_lt
    rw [Nat.mod_eq_of_lt (by omega)]
    simp
theorem low_snoc (k n : Nat) : low (k + 1) n = low k (n / 256) ++ [UInt8.ofNat (n % 256)] := by
  induction k with
  | zero => simp [low]
  | succ k ih =>
    rw [low, ih, low, List.cons_append]
    congr 2
    rw [Nat.div_div_eq_div_mul, Nat.pow_succ, Nat.mul_comm]
theorem digF_length_le (f n : Nat) : (digF f n).length ≤ f := by
  induction f generalizing n with
  | zero => simp [digF]
  | succ f ih =>
    rw [digF]; split
    · simp
    · have := ih (n / 256); simp; omega
theorem digF_low (f n : Nat) : digF f n = low (digF f n).length n := by
  induction f generalizing n with
  | zero => rfl
  | succ f ih =>
    rw [digF]; split
    · rfl
    · rw [List.length_append, List.length_singleton, low_snoc, ← ih]
theorem dig_length_le (n : Nat) : (dig n).length ≤ 8 := digF_length_le 8 n
theorem dig_low (n : Nat) : low (dig n).length n = dig n := (digF_low 8 n).symm
theorem digF_lt (f n : Nat) (h : n < 256 ^ f) : n < 256 ^ (digF f n).length := by
  induction f generalizing n with
  | zero => simpa [digF] using h
  | succ f ih =>
    rw [digF]; split
    · subst_vars; simp
    · rw [List.length_append, List.length_singleton, Nat.pow_succ]
      have := ih (n / 256) (by rw [Nat.pow_succ] at h; omega)
      omega
theorem dig_lt (n : Nat) (h : n < 256 ^ 8) : n < 256 ^ (dig n).length := digF_lt 8 n h
theorem val_dig (n : Nat) (h : n < 256 ^ 8) : val (dig n) = n := by
  rw [← dig_low, val_low, Nat.mod_eq_of_lt (dig_lt n h)]
/-- there are no noughts ahead -/
theorem digF_ge (f n : Nat) (hn : n ≠ 0) (hf : f ≠ 0) : 256 ^ ((digF f n).length - 1) ≤ n ∧ (digF f n).length ≠ 0 := by
  induction f generalizing n with
  | zero => exact absurd rfl hf
  | succ f ih =>
    rw [digF, if_neg hn, List.length_append, List.length_singleton, Nat.add_sub_cancel]
    refine ⟨?_, by omega⟩
    by_cases hf0 : f = 0
    · subst hf0; simp [digF]; omega
    · by_cases h0 : n / 256 = 0
      · rw [h0]
        have : digF f 0 = [] := by cases f <;> simp [digF]
        rw [this]; simp; omega
      · have ⟨h1, h2⟩ := ih (n / 256) h0 hf0
        obtain ⟨m, hm⟩ : ∃ m, (digF f (n / 256)).length = m + 1 := ⟨_, (Nat.succ_pred_eq_of_ne_zero h2).symm⟩
        rw [hm, Nat.add_sub_cancel] at h1
        rw [hm, Nat.pow_succ]; omega
theorem dig_ge (n : Nat) (hn : n ≠ 0) : 256 ^ ((dig n).length - 1) ≤ n ∧ (dig n).length ≠ 0 := digF_ge 8 n hn (by omega)
theorem dig_zero : dig 0 = [] := rfl
/-- k digits without a nought ahead are the digits of their number -/
theorem dig_unique (k n : Nat) (h8 : k ≤ 8) (h1 : n < 256 ^ k) (h2 : k = 0 ∨ 256 ^ (k - 1) ≤ n) : (dig n).length = k := by
  by_cases hn : n = 0
  · subst hn
    rcases h2 with rfl | h2
    · rfl
    · have : 0 < 256 ^ (k - 1) := Nat.pow_pos (by omega)
      omega
  · have ⟨g1, g2⟩ := dig_ge n hn
    have g3 := dig_lt n (Nat.lt_of_lt_of_le h1 (Nat.pow_le_pow_right (by omega) h8))
    have a1 : (dig n).length - 1 < k := (Nat.pow_lt_pow_iff_right (a := 256) (by omega)).1 (Nat.lt_of_le_of_lt g1 h1)
    rcases h2 with rfl | h2
    · simp at h1; omega
    · have a2 : k - 1 < (dig n).length := (Nat.pow_lt_pow_iff_right (a := 256) (by omega)).1 (Nat.lt_of_le_of_lt h2 g3)
      omega
theorem dig_val (l : List UInt8) (h8 : l.length ≤ 8) (h : l = [] ∨ l.headD 0 ≠ 0) : dig (val l) = l := by
  have hk : (dig (val l)).length = l.length := by
    refine dig_unique _ _ h8 (val_lt l) ?_
    rcases h with rfl | h
    · exact .inl rfl
    · cases l with
      | nil => exact .inl rfl
      | cons b l =>
        right
        simp at h
        have hb : b.toNat ≠ 0 := by
          intro e; exact h (UInt8.toNat_inj.1 (by simpa using e))
        rw [val_cons, List.length_cons, Nat.add_sub_cancel]
        have : 1 * 256 ^ l.length ≤ b.toNat * 256 ^ l.length := Nat.mul_le_mul_right _ (by omega)
        omega
  rw [← dig_low, hk, low_val]
theorem dig_head (n : Nat) (hn : n ≠ 0) (h : n < 256 ^ 8) : (dig n).headD 0 ≠ 0 := by
  have ⟨g1, g2⟩ := dig_ge n hn
  intro e
  cases hd : dig n with
  | nil => simp [hd] at g2
  | cons b l =>
    rw [hd] at e g1
    simp at e g1
    have hv := val_dig n h
    rw [hd, val_cons, e] at hv
    have := val_lt l
    simp at hv
    omega
def put (n : Nat) : List UInt8 := UInt8.ofNat (dig n).length :: dig n
theorem put_length (n : Nat) : (put n).length ≤ 9 := by have := dig_length_le n; simp [put]; omega
/-- what k digits at the front say: the number, and what is wrong -/
def readN (l : List UInt8) (k t : Nat) : Nat × Int :=
  if 8 < k then (0, 4) else if l.length < k then (0, 3) else if 0 < k ∧ l.headD 0 ^^^ UInt8.ofNat t = 0 then (0, 4) else (val (tn t (l.take k)), 0)
/-- what Get says: the number, how many bytes, what is wrong -/
def getN (l : List UInt8) : Nat × Nat × Int :=
  if l = [] then (0, 0, 3) else
    let r := readN l.tail (l.headD 0).toNat 0
    if r.2 = 0 then (r.1, 1 + (l.headD 0).toNat, 0) else (0, 0, r.2)
def putI (n : Int) : List UInt8 :=
  if n < 0 then UInt8.ofNat (127 - (dig (-1 - n).toNat).length) :: tn 255 (dig (-1 - n).toNat) else UInt8.ofNat (128 + (dig n.toNat).length) :: dig n.toNat
/-- what GetInt says -/
def getI (l : List UInt8) : Int × Nat × Int :=
  if l = [] then (0, 0, 3) else
    if 128 ≤ (l.headD 0).toNat then
      let r := readN l.tail ((l.headD 0).toNat - 128) 0
      if r.2 = 0 then if 9223372036854775807 < r.1 then (0, 0, 4) else ((r.1 : Int), 1 + ((l.headD 0).toNat - 128), 0) else (0, 0, r.2)
    else
      let r := readN l.tail (127 - (l.headD 0).toNat) 255
      if r.2 = 0 then if 9223372036854775807 < r.1 then (0, 0, 4) else (-1 - (r.1 : Int), 1 + (127 - (l.headD 0).toNat), 0) else (0, 0, r.2)
theorem low_add (j k n : Nat) : low (j + k) n = low j (n / 256 ^ k) ++ low k n := by
  induction j with
  | zero => simp [low]
  | succ j ih =>
    rw [show j + 1 + k = (j + k) + 1 from by omega, low, ih, low, List.cons_append, Nat.div_div_eq_div_mul, ← Nat.pow_add, Nat.add_comm k j]
theorem low_nought (j : Nat) : low j 0 = List.replicate j 0 := by
  induction j with
  | zero => rfl
  | succ j ih => rw [low, ih, List.replicate_succ]; simp
/-- noughts ahead of the digits -/
theorem low_pad (n : Nat) (h : n < 256 ^ 8) : List.replicate (8 - (dig n).length) 0 ++ dig n = low 8 n := by
  have hl := dig_length_le n
  have h1 := low_add (8 - (dig n).length) (dig n).length n
  rw [show 8 - (dig n).length + (dig n).length = 8 from by omega, Nat.div_eq_of_lt (dig_lt n h), low_nought, dig_low] at h1
  exact h1.symm
theorem not_byte (b : UInt8) : (b ^^^ UInt8.ofNat 255).toNat = 255 - b.toNat := by
  have key : ∀ n : Fin 256, ((UInt8.ofNat n.val) ^^^ UInt8.ofNat 255).toNat = 255 - n.val := by decide +kernel
  have := key ⟨b.toNat, b.toNat_lt⟩
  simpa using this
theorem val_not (l : List UInt8) : val (tn 255 l) + val l + 1 = 256 ^ l.length := by
  induction l with
  | nil => simp [tn, val]
  | cons b l ih =>
    rw [show tn 255 (b :: l) = (b ^^^ UInt8.ofNat 255) :: tn 255 l from rfl, val_cons, val_cons, tn_length, not_byte, List.length_cons, Nat.pow_succ]
    have hb := b.toNat_lt
    generalize 256 ^ l.length = P at *
    generalize b.toNat = x at *
    have : (255 - x) * P + x * P = 255 * P := by rw [← Nat.add_mul]; congr 1; omega
    omega
theorem low_not (b : Nat) (h : b < 18446744073709551616) : tn 255 (low 8 b) = low 8 (18446744073709551615 - b) := by
  have h1 := val_not (low 8 b)
  rw [val_low, low_length, Nat.mod_eq_of_lt (by omega)] at h1
  have h2 := low_val (tn 255 (low 8 b))
  rw [tn_length, low_length] at h2
  rw [← h2]
  congr 1
  omega
/-- are the bits a NaN's -/
def nanB (b : Nat) : Bool := decide (9218868437227405312 < b % 9223372036854775808)
/-- the bits, one NaN for all -/
def oneNaN (b : Nat) : Nat := if nanB b then 9221120237041090561 else b
/-- the bits turned so that they keep their order -/
def flip (b : Nat) : Nat := if b < 9223372036854775808 then b + 9223372036854775808 else 18446744073709551615 - b
def putF (b : Nat) : List UInt8 := low 8 (flip (oneNaN b))
/-- and back -/
def unflip (n : Nat) : Nat := if n < 9223372036854775808 then 18446744073709551615 - n else n - 9223372036854775808
/-- what GetFloat says: the bits, how many bytes, what is wrong -/
def getF (l : List UInt8) : Nat × Nat × Int :=
  if l.length < 8 then (0, 0, 3) else
    if nanB (unflip (val (l.take 8))) = true ∧ unflip (val (l.take 8)) ≠ 9221120237041090561 then (0, 0, 4) else (unflip (val (l.take 8)), 8, 0)
/-- a text's bytes, behind each 0 a 255 -/
def esc : List UInt8 → List UInt8
  | [] => []
  | b :: l => (if b = 0 then [0, 255] else [b]) ++ esc l
theorem esc_append (l m : List UInt8) : esc (l ++ m) = esc l ++ esc m := by
  induction l with
  | nil => rfl
  | cons b l ih => rw [List.cons_append, esc, esc, ih, List.append_assoc]
theorem esc_length (l : List UInt8) : (esc l).length ≤ 2 * l.length := by
  induction l with
  | nil => simp [esc]
  | cons b l ih => rw [esc, List.length_append, List.length_cons]; split <;> simp <;> omega
theorem esc_zero (l : List UInt8) : esc (l ++ [0]) = esc l ++ [0] ++ [255] := by rw [esc_append]; simp [esc]
theorem esc_other (l : List UInt8) (b : UInt8) (h : b ≠ 0) : esc (l ++ [b]) = esc l ++ [b] := by rw [esc_append]; simp [esc, h]
def putT (l : List UInt8) : List UInt8 := esc l ++ [0, 0]
/-- what GetText says of the bytes l, when acc was read and p bytes lie ahead: the text, how many bytes, what is wrong -/
def scanT : List UInt8 → List UInt8 → Nat → List UInt8 × Nat × Int
  | [], _, _ => ([], 0, 3)
  | [b], acc, _ => if b = 0 then ([], 0, 3) else if acc.length = 1024 then ([], 0, 2) else ([], 0, 3)
  | b :: d :: r, acc, p =>
    if b = 0 then
      if d = 0 then (acc, p + 2, 0) else if d = 255 then (if acc.length = 1024 then ([], 0, 2) else scanT r (acc ++ [0]) (p + 2)) else ([], 0, 4)
    else if acc.length = 1024 then ([], 0, 2) else scanT (d :: r) (acc ++ [b]) (p + 1)
def getT (l : List UInt8) : List UInt8 × Nat × Int := scanT l [] 0
theorem scan_full (b : UInt8) (r acc : List UInt8) (p : Nat) (h : b ≠ 0) (ha : acc.length = 1024) : scanT (b :: r) acc p = ([], 0, 2) := by
  cases r <;> rw [scanT, if_neg h, if_pos ha]
theorem scan_byte (b : UInt8) (r acc : List UInt8) (p : Nat) (h : b ≠ 0) (ha : acc.length ≠ 1024) : scanT (b :: r) acc p = scanT r (acc ++ [b]) (p + 1) := by
  cases r with
  | nil =>
    have h1 : scanT [b] acc p = ([], 0, 3) := by rw [scanT, if_neg h, if_neg ha]
    rw [h1]; rfl
  | cons d r => rw [scanT, if_neg h, if_neg ha]
theorem scan_end (acc : List UInt8) (p : Nat) : scanT [0] acc p = ([], 0, 3) := by rw [scanT, if_pos rfl]
theorem scan_zeros (r acc : List UInt8) (p : Nat) : scanT (0 :: 0 :: r) acc p = (acc, p + 2, 0) := by rw [scanT, if_pos rfl, if_pos rfl]
theorem scan_bad (d : UInt8) (r acc : List UInt8) (p : Nat) (h0 : d ≠ 0) (h1 : d ≠ 255) : scanT (0 :: d :: r) acc p = ([], 0, 4) := by rw [scanT, if_pos rfl, if_neg h0, if_neg h1]
theorem scan_esc_full (r acc : List UInt8) (p : Nat) (ha : acc.length = 1024) : scanT (0 :: 255 :: r) acc p = ([], 0, 2) := by rw [scanT, if_pos rfl, if_neg (by decide), if_pos rfl, if_pos ha]
theorem scan_esc (r acc : List UInt8) (p : Nat) (ha : acc.length ≠ 1024) : scanT (0 :: 255 :: r) acc p = scanT r (acc ++ [0]) (p + 2) := by rw [scanT, if_pos rfl, if_neg (by decide), if_pos rfl, if_neg ha]
end Nm
end Go.Proofs.Ytkhejelmjkpgfaa

namespace Go.Proofs.Ytkhejelmjkpgfaa
open Go.RowKit

theorem ret_int {k : IntKind} {a b : Int} (h : a = b) : Ending.returned (.int k a) = .returned (.int k b) := by rw [h]
theorem int_eq {k : IntKind} {a b : Int} (h : a = b) : Value.int k a = .int k b := by rw [h]
theorem take_snoc (s : ByteArray) (k : Nat) (h : k < s.size) : s.data.toList.take (k + 1) = s.data.toList.take k ++ [s[k]] := by
  rw [List.take_succ_eq_append_getElem (by simpa using h)]; rfl
theorem wrap_u64 (n : Int) (h0 : 0 ≤ n) (h1 : n < 18446744073709551616) : IntKind.u64.wrap n = n := by
  simp only [IntKind.wrap, IntKind.bits, IntKind.signed]
  simp; omega
theorem xor_u8 (b : UInt8) (t : Nat) (ht : t < 256) : b.toNat ^^^ t = (b ^^^ UInt8.ofNat t).toNat := by
  rw [UInt8.toNat_xor, UInt8.toNat_ofNat', Nat.mod_eq_of_lt (by simpa using ht)]
/-- a byte as a cell -/
def B (b : UInt8) : Value := .int .u8 b.toNat

theorem info_u8 : (Try.prog.info? 5).map (fun i => (i.zero, i.size, i.bytes)) = some (some (.int .u8 0), 1, 1) := by kernel_rfl
theorem head_byte (s : ByteArray) (h : 0 < s.size) : s.data.toList.headD 0 = s[0] := by
  rw [List.headD_eq_head?_getD, List.head?_eq_getElem?, List.getElem?_eq_getElem (by simpa using h)]
  rfl
/-- 'string(v)', v the call's own bytes. -/
theorem run_str {base : Nat} {v : Value} {l : List UInt8} {w : World} (h : w.ownsRow base 5 1 v l.length (l.map B)) :
    (convert 51 9 v).run Try.prog w = .ok (.string ⟨l.toArray⟩) w := by
  obtain ⟨h1, h2⟩ := h
  rcases h2 with ⟨rfl, h0⟩ | ⟨g, cap, cur, rfl, hb, hg, hle, hm, hs, htk⟩
  · have : l = [] := List.length_eq_zero_iff.1 h0
    subst this
    exact run_convert_bytes_nil w 51 5 (by kernel_rfl) (by kernel_rfl) 0 0 9 (by kernel_rfl)
  · refine run_convert_bytes_back w 51 9 5 ⟨g, 0, none⟩ cap l (by kernel_rfl) (by kernel_rfl) (by kernel_rfl) ?_
    intro j hj
    have := World.ownsRow.cells (w := w) (base := base) (e := 5) (size := 1) (v := .slice (some ⟨g, 0, none⟩) l.length cap) (n := l.length) (xs := l.map B) ⟨h1, .inr ⟨g, cap, cur, rfl, hb, hg, hle, hm, hs, htk⟩⟩ (g := g) rfl j (B l[j]) (by simp [hj])
    simpa [B] using this

theorem owns_one (w : World) (c : Int) (h0 : 0 ≤ c) (h1 : c ≤ 255) :
    (w.alloc (.cells #[.int .u8 c] 5)).ownsRow w.heap.size 5 1 (.slice (some ⟨w.heap.size, 0, none⟩) 1 1) [UInt8.ofNat c.toNat].length ([UInt8.ofNat c.toNat].map B) :=
  ⟨by simp, .inr ⟨w.heap.size, 1, #[.int .u8 c], rfl, Nat.le_refl _, heap_alloc_new w _, Nat.le_refl _, by unfold maxLen; omega, rfl, by simp [B]; omega⟩⟩

/-- one byte more behind an owned row -/
theorem own_more {base : Nat} {w wr w1 : World} {v v1 : Value} {ys : List UInt8} {c : Int} {b : UInt8} {o : Obj} (hown : wr.ownsRow base 5 1 v ys.length (ys.map B))
    (hown1 : w1.ownsRow base 5 1 v1 (ys.length + 1) (ys.map B ++ [.int .u8 c])) (hc : c = b.toNat) (hg : (wr.alloc o).grownBy w1 v.ownBlock) (hbel : Below base w wr) (hbase : base ≤ w.heap.size) :
    w1.ownsRow base 5 1 v1 (ys ++ [b]).length ((ys ++ [b]).map B) ∧ Below base w w1 := by
  subst hc
  refine ⟨by simpa [B] using hown1, ?_⟩
  have hs := hbel.size
  refine (hbel.alloc (by omega) o).grown hg (by simp; omega) ?_
  intro k hk
  exact (hown.lt k hk).1

end Go.Proofs.Ytkhejelmjkpgfaa

namespace Go.Proofs.Ytkhejelmjkpgfaa
open Go.RowKit

/-- every block that was there, and of which p holds, is as it was -/
structure Kept (p : Nat → Prop) (A B : World) : Prop where
  os : B.os = A.os
  tape : B.tape = A.tape
  output : B.output = A.output
  size : A.heap.size ≤ B.heap.size
  block : ∀ k, k < A.heap.size → p k → B.heap[k]? = A.heap[k]?

theorem Kept.refl (p : Nat → Prop) (A : World) : Kept p A A := ⟨rfl, rfl, rfl, Nat.le_refl _, fun _ _ _ => rfl⟩
theorem Kept.trans {p : Nat → Prop} {A B C : World} (h : Kept p A B) (k : Kept p B C) : Kept p A C :=
  ⟨k.os.trans h.os, k.tape.trans h.tape, k.output.trans h.output, Nat.le_trans h.size k.size, fun i hi hp => (k.block i (Nat.lt_of_lt_of_le hi h.size) hp).trans (h.block i hi hp)⟩
theorem Kept.mono {p q : Nat → Prop} {A B : World} (h : Kept p A B) (hpq : ∀ k, q k → p k) : Kept q A B :=
  ⟨h.os, h.tape, h.output, h.size, fun k hk hq => h.block k hk (hpq k hq)⟩
theorem Kept.of_below {p : Nat → Prop} {A B : World} (h : Below A.heap.size A B) : Kept p A B := ⟨h.os, h.tape, h.output, h.size, fun k hk _ => h.block k hk⟩
theorem Kept.of_below_at {p : Nat → Prop} {n : Nat} {A B : World} (h : Below n A B) (hp : ∀ k, p k → k < n) : Kept p A B := ⟨h.os, h.tape, h.output, h.size, fun k _ hk => h.block k (hp k hk)⟩
theorem Kept.below {p : Nat → Prop} {A B : World} (h : Kept p A B) {n : Nat} (hn : n ≤ A.heap.size) (hp : ∀ k, k < n → p k) : Below n A B :=
  ⟨h.os, h.tape, h.output, h.size, fun k hk => h.block k (by omega) (hp k hk)⟩
theorem Kept.alloc {p : Nat → Prop} {A B : World} (h : Kept p A B) (o : Obj) : Kept p A (B.alloc o) :=
  h.trans (Kept.of_below ((Below.refl _ B).alloc (Nat.le_refl _) o))
theorem Kept.drew {p : Nat → Prop} {A B : World} (h : Kept p A B) : Kept p A B.drew := ⟨h.os, h.tape, h.output, h.size, h.block⟩
theorem Kept.setCell {p : Nat → Prop} {A B : World} (h : Kept p A B) {a : Addr} (ha : ¬ p a.block) (v : Value) : Kept p A (B.setCell a v) :=
  h.trans ⟨rfl, rfl, rfl, by simp [World.setCell], fun k _ hk => Below.heap_setCell _ _ _ _ (fun e => ha (by rw [← e]; exact hk))⟩
theorem Kept.grown {p : Nat → Prop} {A B C : World} {row : Option Nat} (h : Kept p A B) (hg : B.grownBy C row) (hr : ∀ k, row = some k → ¬ p k) : Kept p A C :=
  h.trans ⟨hg.os, hg.tape, hg.output, hg.size, fun k hk hp => hg.block k hk (fun e => hr k e.symm hp)⟩
theorem Kept.obj {p : Nat → Prop} {A B : World} (h : Kept p A B) {k : Nat} {o : Obj} (hk : p k) (ho : A.heap[k]? = some o) : B.heap[k]? = some o :=
  (h.block k (Array.getElem?_eq_some_iff.1 ho).1 hk).trans ho
end Go.Proofs.Ytkhejelmjkpgfaa

namespace Go.Proofs.Ytkhejelmjkpgfaa
namespace Nm

theorem head_tn (t : Nat) (l m : List UInt8) (h : l ≠ []) : (tn t l ++ m).headD 0 ^^^ UInt8.ofNat t = l.headD 0 := by
  cases l with
  | nil => exact absurd rfl h
  | cons b l => simp [tn, UInt8.xor_assoc]
theorem read_dig (n t : Nat) (m : List UInt8) (h : n < 256 ^ 8) : readN (tn t (dig n) ++ m) (dig n).length t = (n, 0) := by
  have hl := dig_length_le n
  have e : (tn t (dig n) ++ m).take (dig n).length = tn t (dig n) := by
    rw [List.take_append_of_le_length (by rw [tn_length]; exact Nat.le_refl _), List.take_of_length_le (by rw [tn_length]; exact Nat.le_refl _)]
  rw [readN, if_neg (by omega), if_neg (by rw [List.length_append, tn_length]; omega), if_neg ?_, e, tn_tn, val_dig n h]
  rintro ⟨h1, h2⟩
  have hne : dig n ≠ [] := by intro e; rw [e] at h1; simp at h1
  rw [head_tn t _ m hne] at h2
  have hn : n ≠ 0 := by intro e; subst e; exact hne rfl
  exact dig_head n hn h h2
theorem get_put (n : Nat) (m : List UInt8) (h : n < 256 ^ 8) : getN (put n ++ m) = (n, (put n).length, 0) := by
  have hl := dig_length_le n
  have hr := read_dig n 0 m h
  rw [tn_zero] at hr
  have hc : (UInt8.ofNat (dig n).length).toNat = (dig n).length := by rw [UInt8.toNat_ofNat']; omega
  rw [getN, if_neg (by simp [put])]
  simp only [put, List.cons_append, List.headD_cons, List.tail_cons, hc, hr]
  simp [Nat.add_comm]
theorem getI_putI (i : Int) (m : List UInt8) (h0 : -9223372036854775808 ≤ i) (h1 : i ≤ 9223372036854775807) : getI (putI i ++ m) = (i, (putI i).length, 0) := by
  by_cases hi : i < 0
  · have hl := dig_length_le (-1 - i).toNat
    have hr := read_dig (-1 - i).toNat 255 m (by omega)
    have hc : (UInt8.ofNat (127 - (dig (-1 - i).toNat).length)).toNat = 127 - (dig (-1 - i).toNat).length := by rw [UInt8.toNat_ofNat']; omega
    have hk : 127 - (127 - (dig (-1 - i).toNat).length) = (dig (-1 - i).toNat).length := by omega
    rw [putI, if_pos hi, getI, if_neg (by simp)]
    simp only [List.cons_append, List.headD_cons, List.tail_cons, hc, hk, hr]
    rw [if_neg (by omega), if_pos trivial, if_neg (by omega), List.length_cons, tn_length]
    simp only [Prod.mk.injEq]
    exact ⟨by omega, by omega, trivial⟩
  · have hl := dig_length_le i.toNat
    have hr := read_dig i.toNat 0 m (by omega)
    rw [tn_zero] at hr
    have hc : (UInt8.ofNat (128 + (dig i.toNat).length)).toNat = 128 + (dig i.toNat).length := by rw [UInt8.toNat_ofNat']; omega
    have hk : 128 + (dig i.toNat).length - 128 = (dig i.toNat).length := by omega
    rw [putI, if_neg hi, getI, if_neg (by simp)]
    simp only [List.cons_append, List.headD_cons, List.tail_cons, hc, hk, hr]
    rw [if_pos (by omega), if_pos trivial, if_neg (by omega), List.length_cons]
    simp only [Prod.mk.injEq]
    exact ⟨by omega, by omega, trivial⟩
theorem putI_length (i : Int) : (putI i).length ≤ 9 := by
  unfold putI
  split
  · have := dig_length_le (-1 - i).toNat; rw [List.length_cons, tn_length]; omega
  · have := dig_length_le i.toNat; rw [List.length_cons]; omega
theorem oneNaN_lt (b : Nat) (h : b < 18446744073709551616) : oneNaN b < 18446744073709551616 := by
  unfold oneNaN; split <;> omega
theorem flip_lt (c : Nat) (h : c < 18446744073709551616) : flip c < 18446744073709551616 := by
  unfold flip; split <;> omega
theorem unflip_flip (c : Nat) (h : c < 18446744073709551616) : unflip (flip c) = c := by
  unfold flip
  split
  · rw [unflip, if_neg (by omega)]; omega
  · rw [unflip, if_pos (by omega)]; omega
theorem putF_length (b : Nat) : (putF b).length = 8 := low_length 8 _
theorem getF_putF (b : Nat) (m : List UInt8) (h : b < 18446744073709551616) : getF (putF b ++ m) = (oneNaN b, 8, 0) := by
  have hf := flip_lt _ (oneNaN_lt b h)
  have e : (putF b ++ m).take 8 = putF b := by
    rw [List.take_append_of_le_length (by rw [putF_length]; exact Nat.le_refl _), List.take_of_length_le (by rw [putF_length]; exact Nat.le_refl _)]
  have hv : val (putF b) = flip (oneNaN b) := by rw [putF, val_low, Nat.mod_eq_of_lt (by omega)]
  rw [getF, if_neg (by rw [List.length_append, putF_length]; omega), e, hv, unflip_flip _ (oneNaN_lt b h), if_neg ?_]
  rintro ⟨h1, h2⟩
  cases hn : nanB b
  · rw [oneNaN, if_neg (by rw [hn]; decide), hn] at h1
    cases h1
  · rw [oneNaN, if_pos hn] at h2
    exact h2 rfl
theorem scan_putT (l : List UInt8) : ∀ (acc m : List UInt8) (p : Nat), acc.length + l.length ≤ 1024 → scanT (esc l ++ ([0, 0] ++ m)) acc p = (acc ++ l, p + (esc l).length + 2, 0) := by
  induction l with
  | nil => intro acc m p h; rw [show esc [] ++ ([0, 0] ++ m) = 0 :: 0 :: m from rfl, scan_zeros]; simp [esc]
  | cons b l ih =>
    intro acc m p h
    rw [List.length_cons] at h
    by_cases hb : b = 0
    · subst hb
      rw [show esc (0 :: l) ++ ([0, 0] ++ m) = 0 :: 255 :: (esc l ++ ([0, 0] ++ m)) from rfl, scan_esc _ _ _ (by omega), ih _ _ _ (by simp; omega)]
      simp [esc]; omega
    · rw [show esc (b :: l) ++ ([0, 0] ++ m) = b :: (esc l ++ ([0, 0] ++ m)) from by simp [esc, hb], scan_byte _ _ _ _ hb (by omega), ih _ _ _ (by simp; omega)]
      simp [esc, hb]; omega
theorem putT_length (l : List UInt8) : (putT l).length ≤ 2 * l.length + 2 := by
  have := esc_length l
  rw [putT, List.length_append]; simp; omega
theorem getT_putT (l m : List UInt8) (h : l.length ≤ 1024) : getT (putT l ++ m) = (l, (putT l).length, 0) := by
  have h1 := scan_putT l [] m 0 (by simpa using h)
  rw [getT, putT, List.append_assoc, h1]
  simp
end Nm
end Go.Proofs.Ytkhejelmjkpgfaa

namespace Go.Proofs.Ytkhejelmjkpgfaa
namespace Mx

/-- the exclusive or with itself shifted down -/
def xs (k z : Nat) : Nat := z ^^^ (z >>> k)
/-- the product of 64 bits -/
def prod (a b : Nat) : Nat := a * b % 18446744073709551616
def step (x b : Nat) : Nat := xs 32 (prod (xs 29 (prod (x ^^^ b) 11400714819323198485)) 13787848793156543929)
def undo (y b : Nat) : Nat := prod (xs 29 (prod (xs 32 y) 10871156337175269513) ^^^ (prod (xs 32 y) 10871156337175269513) >>> 58) 17428512612931826493 ^^^ b

theorem xor_lt {a b : Nat} (ha : a < 18446744073709551616) (hb : b < 18446744073709551616) : a ^^^ b < 18446744073709551616 :=
  Nat.xor_lt_two_pow (n := 64) ha hb
theorem shr_lt {a : Nat} (k : Nat) (ha : a < 18446744073709551616) : a >>> k < 18446744073709551616 := by
  rw [Nat.shiftRight_eq_div_pow]
  exact Nat.lt_of_le_of_lt (Nat.div_le_self _ _) ha
theorem xs_lt {k z : Nat} (h : z < 18446744073709551616) : xs k z < 18446744073709551616 := xor_lt h (shr_lt k h)
theorem shr_zero {z k : Nat} (h : z < 18446744073709551616) (hk : 64 ≤ k) : z >>> k = 0 := by
  rw [Nat.shiftRight_eq_div_pow]
  exact Nat.div_eq_of_lt (Nat.lt_of_lt_of_le h (Nat.pow_le_pow_right (n := 2) (by omega) hk))
theorem xs_xs32 {z : Nat} (h : z < 18446744073709551616) : xs 32 (xs 32 z) = z := by
  unfold xs
  rw [Nat.shiftRight_xor_distrib, ← Nat.shiftRight_add, shr_zero (k := 32 + 32) h (by omega), Nat.xor_zero, Nat.xor_assoc, Nat.xor_self, Nat.xor_zero]
theorem xs_back29 {z : Nat} (h : z < 18446744073709551616) : xs 29 (xs 29 z) ^^^ (xs 29 z) >>> 58 = z := by
  unfold xs
  rw [Nat.shiftRight_xor_distrib, Nat.shiftRight_xor_distrib, ← Nat.shiftRight_add, ← Nat.shiftRight_add, shr_zero (k := 29 + 58) h (by omega), Nat.xor_zero]
  rw [show z ^^^ z >>> 29 ^^^ (z >>> 29 ^^^ z >>> (29 + 29)) = z ^^^ z >>> 58 from by
    rw [Nat.xor_assoc, ← Nat.xor_assoc (z >>> 29), Nat.xor_self, Nat.zero_xor]]
  rw [Nat.xor_assoc, Nat.xor_self, Nat.xor_zero]
/-- .. and the other way round -/
theorem xs_fore29 {y : Nat} (h : y < 18446744073709551616) : xs 29 (xs 29 y ^^^ y >>> 58) = y := by
  unfold xs
  rw [Nat.shiftRight_xor_distrib, Nat.shiftRight_xor_distrib, ← Nat.shiftRight_add, ← Nat.shiftRight_add, shr_zero (k := 58 + 29) h (by omega), Nat.xor_zero]
  show y ^^^ y >>> 29 ^^^ y >>> 58 ^^^ (y >>> 29 ^^^ y >>> 58) = y
  rw [Nat.xor_assoc y, Nat.xor_assoc y, Nat.xor_self, Nat.xor_zero]
theorem mul_back {a b z : Nat} (hab : a * b % 18446744073709551616 = 1) (h : z < 18446744073709551616) : z * a % 18446744073709551616 * b % 18446744073709551616 = z := by
  rw [Nat.mod_mul_mod, Nat.mul_assoc, ← Nat.mul_mod_mod, hab, Nat.mul_one, Nat.mod_eq_of_lt h]
theorem xor_back (x b : Nat) : x ^^^ b ^^^ b = x := by rw [Nat.xor_assoc, Nat.xor_self, Nat.xor_zero]
theorem mod_lt' (a : Nat) : a % 18446744073709551616 < 18446744073709551616 := Nat.mod_lt _ (by omega)
theorem prod_lt (a b : Nat) : prod a b < 18446744073709551616 := mod_lt' _
theorem step_lt (x b : Nat) : step x b < 18446744073709551616 := xs_lt (mod_lt' _)
theorem undo_step {x b : Nat} (hx : x < 18446744073709551616) (hb : b < 18446744073709551616) : undo (step x b) b = x := by
  unfold undo step prod
  rw [xs_xs32 (mod_lt' _), mul_back (by decide) (xs_lt (mod_lt' _)), xs_back29 (mod_lt' _), mul_back (by decide) (xor_lt hx hb), xor_back]
theorem step_undo {y b : Nat} (hy : y < 18446744073709551616) : step (undo y b) b = y := by
  unfold undo step prod
  rw [xor_back, mul_back (by decide) (xor_lt (xs_lt (mod_lt' _)) (shr_lt _ (mod_lt' _))), xs_fore29 (mod_lt' _), mul_back (by decide) (xs_lt hy), xs_xs32 hy]
theorem undo_lt {y b : Nat} (hb : b < 18446744073709551616) : undo y b < 18446744073709551616 := xor_lt (mod_lt' _) hb
theorem step_inj {x x' b : Nat} (hx : x < 18446744073709551616) (hx' : x' < 18446744073709551616) (hb : b < 18446744073709551616) (h : step x b = step x' b) : x = x' := by
  have := congrArg (fun y => undo y b) h
  simpa only [undo_step hx hb, undo_step hx' hb] using this
theorem step_comm (x b : Nat) : step x b = step b x := by unfold step; rw [Nat.xor_comm]
theorem step_inj_block {x b b' : Nat} (hx : x < 18446744073709551616) (hb : b < 18446744073709551616) (hb' : b' < 18446744073709551616) (h : step x b = step x b') : b = b' := by
  rw [step_comm x b, step_comm x b'] at h
  exact step_inj hb hb' hx h
end Mx
end Go.Proofs.Ytkhejelmjkpgfaa

namespace Go.Proofs.Ytkhejelmjkpgfaa
namespace Mx

def byteAt (l : List UInt8) (k : Nat) : Nat := (l.getD k 0).toNat
/-- the highest c bytes of block i -/
def hi (l : List UInt8) (i : Nat) : Nat → Nat
  | 0 => 0
  | c + 1 => 256 * hi l i c + byteAt l (8 * i + (7 - c))
/-- block i of a text, the lowest byte first; behind the text there are noughts -/
def blk (l : List UInt8) (i : Nat) : Nat := hi l i 8
/-- the lowest w bits -/
def cut (w y : Nat) : Nat := y % 2 ^ w
/-- behind i blocks -/
def chain (w : Nat) (l : List UInt8) : Nat → Nat
  | 0 => 0
  | i + 1 => cut w (step (chain w l i) (blk l i))
def narrow (w : Nat) (l : List UInt8) : Nat := cut w (step (chain w l ((l.length + 7) / 8)) l.length)

theorem byteAt_lt (l : List UInt8) (k : Nat) : byteAt l k < 256 := UInt8.toNat_lt _
theorem hi_lt (l : List UInt8) (i : Nat) : ∀ c, hi l i c < 256 ^ c
  | 0 => by simp [hi]
  | c + 1 => by
    have h1 := hi_lt l i c
    have h2 := byteAt_lt l (8 * i + (7 - c))
    rw [hi, Nat.pow_succ]
    omega
theorem blk_lt (l : List UInt8) (i : Nat) : blk l i < 18446744073709551616 := hi_lt l i 8
theorem cut_le (w y : Nat) : cut w y ≤ y := Nat.mod_le _ _
theorem cut_lt {w y : Nat} (h : y < 18446744073709551616) : cut w y < 18446744073709551616 := Nat.lt_of_le_of_lt (cut_le w y) h
theorem cut_64 {y : Nat} (h : y < 18446744073709551616) : cut 64 y = y := Nat.mod_eq_of_lt h
theorem chain_lt (w : Nat) (l : List UInt8) (i : Nat) : chain w l i < 18446744073709551616 := by
  cases i with
  | zero => simp [chain]
  | succ i => exact cut_lt (step_lt _ _)
theorem narrow_lt (w : Nat) (l : List UInt8) : narrow w l < 18446744073709551616 := cut_lt (step_lt _ _)
/-- noughts behind make no difference -/
theorem byteAt_pad (l : List UInt8) (n k : Nat) : byteAt (l ++ List.replicate n 0) k = byteAt l k := by
  unfold byteAt
  rw [List.getD_eq_getElem?_getD, List.getD_eq_getElem?_getD]
  by_cases h : k < l.length
  · rw [List.getElem?_append_left h]
  · rw [List.getElem?_append_right (by omega), List.getElem?_eq_none (l := l) (by omega), List.getElem?_replicate]
    split <;> rfl
theorem byteAt_drop (l : List UInt8) (m k : Nat) : byteAt (l.drop m) k = byteAt l (m + k) := by
  unfold byteAt
  rw [List.getD_eq_getElem?_getD, List.getD_eq_getElem?_getD, List.getElem?_drop]
/-- the lowest c bytes of block i -/
def lo (l : List UInt8) (i : Nat) : Nat → Nat
  | 0 => 0
  | c + 1 => lo l i c + byteAt l (8 * i + c) * 256 ^ c
theorem lo_lt (l : List UInt8) (i : Nat) : ∀ c, lo l i c < 256 ^ c
  | 0 => by simp [lo]
  | c + 1 => by
    have h1 := lo_lt l i c
    have h2 := byteAt_lt l (8 * i + c)
    have h3 : byteAt l (8 * i + c) * 256 ^ c ≤ 255 * 256 ^ c := Nat.mul_le_mul_right _ (by omega)
    rw [lo, Nat.pow_succ]
    omega
theorem lo_blk (l : List UInt8) (i : Nat) : lo l i 8 = blk l i := by
  simp only [blk, lo, hi, Nat.reducePow, Nat.reduceSub, Nat.add_zero, Nat.zero_add]
  omega
/-- one byte more, put in by 'or' -/
theorem lo_or (l : List UInt8) (i c : Nat) : lo l i c ||| byteAt l (8 * i + c) * 256 ^ c = lo l i (c + 1) := by
  have h1 : lo l i c < 2 ^ (8 * c) := by rw [Nat.pow_mul]; exact lo_lt l i c
  rw [lo, show (256 : Nat) ^ c = 2 ^ (8 * c) from by rw [Nat.pow_mul], Nat.mul_comm (byteAt _ _), Nat.or_comm, Nat.add_comm (lo l i c), Nat.two_pow_add_eq_or_of_lt h1]
/-- behind the text there is nothing more -/
theorem byteAt_past {l : List UInt8} {k : Nat} (h : l.length ≤ k) : byteAt l k = 0 := by
  unfold byteAt
  rw [List.getD_eq_getElem?_getD, List.getElem?_eq_none h]; rfl
/-- up and down again: the lowest bits -/
theorem cut_shift {w : Nat} (y : Nat) (hw : w ≤ 64) : y * 2 ^ (64 - w) % 18446744073709551616 / 2 ^ (64 - w) = cut w y := by
  have h : (18446744073709551616 : Nat) = 2 ^ w * 2 ^ (64 - w) := by rw [← Nat.pow_add, show w + (64 - w) = 64 from by omega]
  rw [h, Nat.mul_mod_mul_right, Nat.mul_div_cancel _ (Nat.two_pow_pos _), cut]
end Mx
end Go.Proofs.Ytkhejelmjkpgfaa

namespace Go.Proofs.Ytkhejelmjkpgfaa
open Go.RowKit

namespace Mx
/-- what goes in at step i of a text -/
def blkAt (l : List UInt8) (i : Nat) : Nat := if i < (l.length + 7) / 8 then blk l i else l.length
/-- what stands ahead of step i -/
def along (w : Nat) (l : List UInt8) : Nat → Nat
  | 0 => 0
  | i + 1 => cut w (step (along w l i) (blkAt l i))
theorem along_lt (w : Nat) (l : List UInt8) (i : Nat) : along w l i < 18446744073709551616 := by
  cases i with
  | zero => simp [along]
  | succ i => exact cut_lt (step_lt _ _)
theorem along_chain (w : Nat) (l : List UInt8) (i : Nat) (h : i ≤ (l.length + 7) / 8) : along w l i = chain w l i := by
  induction i with
  | zero => rfl
  | succ i ih => rw [along, chain, ih (by omega), blkAt, if_pos (by omega)]
theorem along_narrow (w : Nat) (l : List UInt8) : along w l ((l.length + 7) / 8 + 1) = narrow w l := by
  rw [along, narrow, along_chain w l _ (Nat.le_refl _), blkAt, if_neg (by omega)]
/-- the cells of step i -/
def tri (w : Nat) (l : List UInt8) (i : Nat) : List Value := [.int .u64 (along w l i : Nat), .int .u64 (blkAt l i : Nat), .int .u64 (along w l (i + 1) : Nat)]
/-- the cells of the first m steps -/
def tris (w : Nat) (l : List UInt8) : Nat → List Value
  | 0 => []
  | m + 1 => tris w l m ++ tri w l m
theorem byte_of_blk (l l' : List UInt8) (i : Nat) (h : blk l i = blk l' i) : ∀ j, j < 8 → byteAt l (8 * i + j) = byteAt l' (8 * i + j) := by
  have key : ∀ c, c ≤ 8 → hi l i c = hi l' i c → ∀ j, 8 - c ≤ j → j < 8 → byteAt l (8 * i + j) = byteAt l' (8 * i + j) := by
    intro c
    induction c with
    | zero => intro _ _ j h1 h2; omega
    | succ c ih =>
      intro hc he j h1 h2
      rw [hi, hi] at he
      have b1 := byteAt_lt l (8 * i + (7 - c))
      have b2 := byteAt_lt l' (8 * i + (7 - c))
      by_cases hj : j = 7 - c
      · subst hj; omega
      · exact ih (by omega) (by omega) j (by omega) h2
  intro j hj
  exact key 8 (Nat.le_refl _) h j (by omega) hj
theorem same_of_bytes (l l' : List UInt8) (hl : l.length = l'.length) (h : ∀ k, byteAt l k = byteAt l' k) : l = l' := by
  apply List.ext_getElem hl
  intro k h1 h2
  have := h k
  rw [byteAt, byteAt, List.getD_eq_getElem?_getD, List.getD_eq_getElem?_getD, List.getElem?_eq_getElem h1, List.getElem?_eq_getElem h2] at this
  exact UInt8.toNat_inj.1 this
/-- MERKLE, DAMGARD -/
theorem md (w : Nat) (a b : List UInt8) (hs : narrow w a = narrow w b) (hne : a ≠ b) :
    ∃ i j, i < (a.length + 7) / 8 + 1 ∧ j < (b.length + 7) / 8 + 1 ∧ along w a (i + 1) = along w b (j + 1) ∧ (along w a i ≠ along w b j ∨ blkAt a i ≠ blkAt b j) := by
  refine Classical.byContradiction fun hno => hne ?_
  have key : ∀ i j, i < (a.length + 7) / 8 + 1 → j < (b.length + 7) / 8 + 1 → along w a (i + 1) = along w b (j + 1) → along w a i = along w b j ∧ blkAt a i = blkAt b j := by
    intro i j hi hj he
    refine Classical.byContradiction fun hc => hno ⟨i, j, hi, hj, he, ?_⟩
    by_cases h : along w a i = along w b j
    · exact .inr fun h' => hc ⟨h, h'⟩
    · exact .inl h
  have top := key ((a.length + 7) / 8) ((b.length + 7) / 8) (by omega) (by omega) (by rw [along_narrow, along_narrow, hs])
  have hlen : a.length = b.length := by
    have := top.2
    rwa [blkAt, blkAt, if_neg (by omega), if_neg (by omega)] at this
  have down : ∀ d, d ≤ (a.length + 7) / 8 → along w a ((a.length + 7) / 8 - d) = along w b ((a.length + 7) / 8 - d) ∧ (0 < d → blkAt a ((a.length + 7) / 8 - d) = blkAt b ((a.length + 7) / 8 - d)) := by
    intro d
    induction d with
    | zero => intro _; exact ⟨by have := top.1; rw [← hlen] at this; exact this, fun h => by omega⟩
    | succ d ih =>
      intro hd
      have h1 := (ih (by omega)).1
      have h2 := key ((a.length + 7) / 8 - (d + 1)) ((a.length + 7) / 8 - (d + 1)) (by omega) (by rw [← hlen]; omega) (by rw [show (a.length + 7) / 8 - (d + 1) + 1 = (a.length + 7) / 8 - d from by omega]; exact h1)
      exact ⟨h2.1, fun _ => h2.2⟩
  apply same_of_bytes a b hlen
  intro k
  by_cases hk : k < a.length
  · have hq := (down ((a.length + 7) / 8 - k / 8) (by omega)).2 (by omega)
    rw [show (a.length + 7) / 8 - ((a.length + 7) / 8 - k / 8) = k / 8 from by omega, blkAt, blkAt, if_pos (by omega), if_pos (by rw [← hlen]; omega)] at hq
    have := byte_of_blk a b (k / 8) hq (k % 8) (by omega)
    rwa [show 8 * (k / 8) + k % 8 = k from by omega] at this
  · rw [byteAt_past (by omega), byteAt_past (by omega)]
end Mx
end Go.Proofs.Ytkhejelmjkpgfaa

namespace Go.Proofs.Ytkhejelmjkpgfaa
namespace Mx

theorem blk_same {l l' : List UInt8} {i : Nat} (h : ∀ j, j < 8 → byteAt l (8 * i + j) = byteAt l' (8 * i + j)) : blk l i = blk l' i := by
  have key : ∀ c, c ≤ 8 → hi l i c = hi l' i c := by
    intro c
    induction c with
    | zero => intro _; rfl
    | succ c ih => intro hc; rw [hi, hi, ih (by omega), h (7 - c) (by omega)]
  exact key 8 (Nat.le_refl _)
theorem chain_same {l l' : List UInt8} (w i : Nat) (h : ∀ j, j < i → blk l j = blk l' j) : chain w l i = chain w l' i := by
  induction i with
  | zero => rfl
  | succ i ih => rw [chain, chain, ih (fun j hj => h j (by omega)), h i (by omega)]
/-- MixApart's own: the sums are alike just if the texts are -/
theorem apart (l l' : List UInt8) (b : Nat) (hl : l.length = l'.length) (hsz : l.length < 18446744073709551616) (h : ∀ k, k / 8 ≠ b → byteAt l k = byteAt l' k) (hs : narrow 64 l = narrow 64 l') : l = l' := by
  have hblk : ∀ j, j ≠ b → blk l j = blk l' j := fun j hj => blk_same fun k hk => h _ (by omega)
  have hpre : chain 64 l b = chain 64 l' b := chain_same 64 b fun j hj => hblk j (by omega)
  rw [narrow, narrow, cut_64 (step_lt _ _), cut_64 (step_lt _ _), ← hl] at hs
  have htop := step_inj (chain_lt _ _ _) (chain_lt _ _ _) hsz hs
  have hb : blk l b = blk l' b := by
    by_cases hbn : b < (l.length + 7) / 8
    · have down : ∀ d, d + (b + 1) ≤ (l.length + 7) / 8 → chain 64 l ((l.length + 7) / 8 - d) = chain 64 l' ((l.length + 7) / 8 - d) := by
        intro d
        induction d with
        | zero => intro _; exact htop
        | succ d ih =>
          intro hd
          have h1 := ih (by omega)
          rw [show (l.length + 7) / 8 - d = (l.length + 7) / 8 - (d + 1) + 1 from by omega, chain, chain, cut_64 (step_lt _ _), cut_64 (step_lt _ _), hblk _ (by omega)] at h1
          exact step_inj (chain_lt _ _ _) (chain_lt _ _ _) (blk_lt _ _) h1
      have h1 := down ((l.length + 7) / 8 - (b + 1)) (by omega)
      rw [show (l.length + 7) / 8 - ((l.length + 7) / 8 - (b + 1)) = b + 1 from by omega, chain, chain, cut_64 (step_lt _ _), cut_64 (step_lt _ _), hpre] at h1
      exact step_inj_block (chain_lt _ _ _) (blk_lt _ _) (blk_lt _ _) h1
    · exact blk_same fun j hj => by rw [byteAt_past (by omega), byteAt_past (by omega)]
  apply same_of_bytes l l' hl
  intro k
  by_cases hk : k / 8 = b
  · have := byte_of_blk l l' b hb (k % 8) (by omega)
    rwa [show 8 * b + k % 8 = k from by omega] at this
  · exact h k hk
end Mx

theorem low8_inj {m n : Nat} (hm : m < 18446744073709551616) (hn : n < 18446744073709551616) (h : Nm.low 8 m = Nm.low 8 n) : m = n := by
  have := congrArg Nm.val h
  rw [Nm.val_low, Nm.val_low, Nat.mod_eq_of_lt (by simpa using hm), Nat.mod_eq_of_lt (by simpa using hn)] at this
  exact this
end Go.Proofs.Ytkhejelmjkpgfaa

namespace Go.Proofs.Ytkhejelmjkpgfaa
namespace Pk

abbrev Bs := List UInt8
/-- the eight bytes of a digest -/
def dg (s : Bs) : Bs := Nm.low 8 (Mx.narrow 64 s)
theorem dg_length (s : Bs) : (dg s).length = 8 := Nm.low_length 8 _
/-- a blob: its kind, its bytes -/
abbrev Bl := Int × Bs
/-- a row of a pack's list -/
structure En where
  id : Bs
  kind : Int
  at_ : Int
  len : Int
def kOK (k : Int) : Prop := k = 1 ∨ k = 2 ∨ k = 3
def idB (k : Int) (s : Bs) : Bs := dg (UInt8.ofNat k.toNat :: s)
def bid (b : Bl) : Bs := idB b.1 b.2
theorem bid_length (b : Bl) : (bid b).length = 8 := dg_length _
/-- what is wrong with a blob -/
def bErr (b : Bl) : Int := if b.1 = 1 ∨ b.1 = 2 ∨ b.1 = 3 then (if 4096 < b.2.length then 2 else 0) else 5
theorem bErr_ok {b : Bl} (h : bErr b = 0) : kOK b.1 ∧ b.2.length ≤ 4096 := by
  unfold bErr at h
  split at h
  · rename_i hk
    split at h
    · omega
    · exact ⟨hk, by omega⟩
  · omega
/-- what is wrong with blobs, behind those that were -/
def mErr (was : List Bl) : List Bl → Int
  | [] => 0
  | b :: r => if bErr b ≠ 0 then bErr b else if b ∈ was then 10 else if (bid b) ∈ was.map bid then 11 else mErr (was ++ [b]) r
def makeErr (l : List Bl) : Int := if 40 < l.length then 2 else mErr [] l
/-- a row of the list as bytes: the kind, the digest, how many bytes it has in the body -/
def rowB (b : Bl) (p : Bs) : Bs := UInt8.ofNat b.1.toNat :: ((bid b) ++ Nm.put p.length)
def rowsB : List Bl → List Bs → Bs
  | b :: l, p :: ps => rowB b p ++ rowsB l ps
  | _, _ => []
def listB (l : List Bl) (ps : List Bs) : Bs := Nm.put l.length ++ rowsB l ps
def two (n : Nat) : Bs := [UInt8.ofNat (n % 256), UInt8.ofNat (n / 256)]
/-- a pack but for its digest -/
def allB (l : List Bl) (ps : List Bs) : Bs := ps.flatten ++ (listB l ps ++ two (listB l ps).length)
def packB (l : List Bl) (ps : List Bs) : Bs := allB l ps ++ dg (allB l ps)

/-- the rows that are left of a list (body: how long it is; at_: where the next one begins) -/
def ents (body : Nat) : Nat → Bs → Nat → List En → List En × Int
  | 0, l, at_, out => if l ≠ [] ∨ at_ < body then ([], 4) else (out, 0)
  | m + 1, l, at_, out =>
    if l.length < 9 then ([], 3) else
    let k := (l.headD 0).toNat
    if ¬ (k = 1 ∨ k = 2 ∨ k = 3) then ([], 5) else
    let g := Nm.getN (l.drop 9)
    if g.2.2 ≠ 0 then ([], g.2.2) else
    if 4097 < g.1 then ([], 2) else
    if (l.drop 1).take 8 ∈ out.map En.id then ([], 4) else
    if body < at_ + g.1 then ([], 4) else
    ents body m (l.drop (9 + g.2.1)) (at_ + g.1) (out ++ [⟨(l.drop 1).take 8, k, at_, g.1⟩])
/-- the list, of a body that long -/
def lst (body : Nat) (l : Bs) : List En × Int :=
  let g := Nm.getN l
  if g.2.2 ≠ 0 then ([], g.2.2) else if 40 < g.1 then ([], 2) else ents body g.1 (l.drop g.2.1) 0 []
/-- how long the list says it is -/
def lenL (s : Bs) : Nat := (s.getD (s.length - 10) 0).toNat + 256 * (s.getD (s.length - 9) 0).toNat
/-- what List says -/
def ls (s : Bs) : List En × Int :=
  if s.length < 10 then ([], 3) else
  if dg (s.take (s.length - 8)) ≠ s.drop (s.length - 8) then ([], 6) else
  if s.length - 10 < lenL s then ([], 4) else
  lst (s.length - 10 - lenL s) ((s.take (s.length - 10)).drop (s.length - 10 - lenL s))
/-- what One says (op: what Open says) -/
def one (op : Bs → Bs × Int) (s : Bs) (x : En) : Bl × Int :=
  if x.at_ < 0 ∨ x.len < 0 ∨ (s.length : Int) < x.len ∨ (s.length : Int) - x.len < x.at_ then ((0, []), 1) else
  if ¬ (x.kind = 1 ∨ x.kind = 2 ∨ x.kind = 3) then ((0, []), 5) else
  let o := op ((s.drop x.at_.toNat).take x.len.toNat)
  if o.2 ≠ 0 then ((0, []), o.2) else
  if idB x.kind o.1 ≠ x.id then ((0, []), 6) else ((x.kind, o.1), 0)
/-- one by one -/
def ones (op : Bs → Bs × Int) (s : Bs) : List En → List Bl → List Bl × Int
  | [], out => (out, 0)
  | x :: r, out => if (one op s x).2 ≠ 0 then ([], (one op s x).2) else ones op s r (out ++ [(one op s x).1])
/-- what Split says -/
def split (op : Bs → Bs × Int) (s : Bs) : List Bl × Int := if (ls s).2 ≠ 0 then ([], (ls s).2) else ones op s (ls s).1 []

/-- the rows that a pack's list has -/
def entsOf : List Bl → List Bs → Nat → List En
  | b :: l, p :: ps, at_ => ⟨(bid b), b.1, at_, p.length⟩ :: entsOf l ps (at_ + p.length)
  | _, _, _ => []
theorem entsOf_length : ∀ (l : List Bl) (ps : List Bs) (n : Nat), l.length = ps.length → (entsOf l ps n).length = l.length
  | [], _, _, _ => by simp [entsOf]
  | _ :: l, [], _, h => by simp at h
  | b :: l, p :: ps, n, h => by
    simp only [entsOf, List.length_cons]
    rw [entsOf_length l ps _ (by simpa using h)]
theorem kind_byte {k : Int} (h : kOK k) : (UInt8.ofNat k.toNat).toNat = k.toNat ∧ (k.toNat = 1 ∨ k.toNat = 2 ∨ k.toNat = 3) ∧ (k.toNat : Int) = k := by
  rcases h with rfl | rfl | rfl <;> exact ⟨rfl, by decide, rfl⟩

/-- rows that are written are read -/
theorem ents_rows (body : Nat) : ∀ (l was : List Bl) (ps : List Bs) (at_ : Nat) (out : List En), l.length = ps.length → mErr was l = 0 →
    out.map En.id = was.map bid → (∀ p ∈ ps, p.length ≤ 4097) → at_ + ps.flatten.length = body →
    ents body l.length (rowsB l ps) at_ out = (out ++ entsOf l ps at_, 0)
  | [], _, ps, at_, out, hl, _, _, _, hb => by
    have : ps = [] := List.length_eq_zero_iff.1 hl.symm
    subst this
    simp only [List.length_nil, ents, rowsB, entsOf, List.append_nil]
    rw [if_neg]
    simp only [List.flatten_nil, List.length_nil] at hb
    intro h
    rcases h with h | h
    · exact h rfl
    · omega
  | _ :: _, _, [], _, _, hl, _, _, _, _ => by simp at hl
  | b :: l, was, p :: ps, at_, out, hl, he, ho, hp, hb => by
    rw [mErr] at he
    by_cases e0 : bErr b ≠ 0
    · rw [if_pos e0] at he; exact absurd he e0
    rw [if_neg e0] at he
    have e0' : bErr b = 0 := Classical.not_not.1 e0
    obtain ⟨hk, hlen⟩ := bErr_ok e0'
    by_cases e1 : b ∈ was
    · rw [if_pos e1] at he; omega
    rw [if_neg e1] at he
    by_cases e2 : (bid b) ∈ was.map bid
    · rw [if_pos e2] at he; omega
    rw [if_neg e2] at he
    obtain ⟨k0, k1, k2⟩ := kind_byte hk
    have hpl := hp p (List.mem_cons_self ..)
    have hid := bid_length b
    have hdrop9 : (rowsB (b :: l) (p :: ps)).drop 9 = Nm.put p.length ++ rowsB l ps := by
      rw [rowsB, rowB, List.cons_append, List.append_assoc, List.drop_succ_cons, List.drop_append_of_le_length (by omega), List.drop_of_length_le (by omega), List.nil_append]
    have htake : ((rowsB (b :: l) (p :: ps)).drop 1).take 8 = (bid b) := by
      rw [rowsB, rowB, List.cons_append, List.append_assoc, List.drop_succ_cons, List.drop_zero, List.take_append_of_le_length (by omega), List.take_of_length_le (by omega)]
    have hg := Nm.get_put p.length (rowsB l ps) (by omega)
    have hlong : ¬ (rowsB (b :: l) (p :: ps)).length < 9 := by
      rw [rowsB, rowB, List.cons_append, List.length_cons, List.append_assoc, List.length_append]
      omega
    have hhd : ((rowsB (b :: l) (p :: ps)).headD 0).toNat = b.1.toNat := k0
    have hdrop : (rowsB (b :: l) (p :: ps)).drop (9 + (Nm.put p.length).length) = rowsB l ps := by
      rw [← List.drop_drop, hdrop9, List.drop_append_of_le_length (Nat.le_refl _), List.drop_of_length_le (Nat.le_refl _), List.nil_append]
    have hfl : (p :: ps).flatten.length = p.length + ps.flatten.length := by simp
    rw [hfl] at hb
    rw [List.length_cons, ents, if_neg hlong]
    simp only [hhd, hdrop9, htake, hg]
    rw [if_neg (fun h => h k1), if_neg (fun h => h rfl), if_neg (by omega), if_neg (by rw [ho]; exact e2), if_neg (by omega), hdrop]
    rw [ents_rows body l (was ++ [b]) ps (at_ + p.length) _ (by simpa using hl) he (by rw [List.map_append, List.map_append, ho]; rfl) (fun q hq => hp q (List.mem_cons_of_mem _ hq)) (by omega)]
    rw [entsOf, List.append_assoc, k2]
    rfl
end Pk
end Go.Proofs.Ytkhejelmjkpgfaa

namespace Go.Proofs.Ytkhejelmjkpgfaa
namespace Pk

theorem two_back (n : Nat) (h : n < 65536) : (UInt8.ofNat (n % 256)).toNat + 256 * (UInt8.ofNat (n / 256)).toNat = n := by
  rw [UInt8.toNat_ofNat', UInt8.toNat_ofNat']
  omega
theorem two_length (n : Nat) : (two n).length = 2 := rfl
theorem rowB_length (b : Bl) (p : Bs) : (rowB b p).length ≤ 18 := by
  have h1 := bid_length b
  have h2 := Nm.put_length p.length
  rw [rowB, List.length_cons, List.length_append]
  omega
theorem rowsB_length : ∀ (l : List Bl) (ps : List Bs), (rowsB l ps).length ≤ 18 * l.length
  | [], _ => by simp [rowsB]
  | _ :: _, [] => by simp [rowsB]
  | b :: l, p :: ps => by
    have h1 := rowB_length b p
    have h2 := rowsB_length l ps
    rw [rowsB, List.length_append, List.length_cons]
    omega
theorem listB_length (l : List Bl) (ps : List Bs) (h : l.length ≤ 40) : (listB l ps).length ≤ 729 := by
  have h1 := rowsB_length l ps
  have h2 := Nm.put_length l.length
  rw [listB, List.length_append]
  omega
theorem packB_length (l : List Bl) (ps : List Bs) : (packB l ps).length = ps.flatten.length + (listB l ps).length + 10 := by
  rw [packB, List.length_append, dg_length, allB, List.length_append, List.length_append, two_length]
  omega
theorem flatten_le : ∀ (ps : List Bs), (∀ p ∈ ps, p.length ≤ 4097) → ps.flatten.length ≤ 4097 * ps.length
  | [], _ => by simp
  | p :: ps, h => by
    have h1 := h p (List.mem_cons_self ..)
    have h2 := flatten_le ps fun q hq => h q (List.mem_cons_of_mem _ hq)
    rw [List.flatten_cons, List.length_append, List.length_cons]
    omega

/-- what is packed is listed -/
theorem ls_pack (l : List Bl) (ps : List Bs) (hl : l.length = ps.length) (he : makeErr l = 0) (hp : ∀ p ∈ ps, p.length ≤ 4097) : ls (packB l ps) = (entsOf l ps 0, 0) := by
  unfold makeErr at he
  by_cases h40 : 40 < l.length
  · rw [if_pos h40] at he; omega
  rw [if_neg h40] at he
  have hL := listB_length l ps (by omega)
  have hN := packB_length l ps
  have hA : (allB l ps).length = ps.flatten.length + (listB l ps).length + 2 := by
    rw [allB, List.length_append, List.length_append, two_length]; omega
  have htk : (packB l ps).take ((packB l ps).length - 8) = allB l ps := by
    rw [packB, List.take_append_of_le_length (by rw [← packB]; omega), List.take_of_length_le (by rw [← packB]; omega)]
  have hdr : (packB l ps).drop ((packB l ps).length - 8) = dg (allB l ps) := by
    rw [packB, List.drop_append_of_le_length (by rw [← packB]; omega), List.drop_of_length_le (by rw [← packB]; omega), List.nil_append]
  have hform : packB l ps = (ps.flatten ++ listB l ps) ++ (two (listB l ps).length ++ dg (allB l ps)) := by
    rw [packB]
    generalize dg (allB l ps) = d
    rw [allB]; simp only [List.append_assoc]
  have hpre : (ps.flatten ++ listB l ps).length = (packB l ps).length - 10 := by rw [List.length_append]; omega
  have hb0 : (packB l ps).getD ((packB l ps).length - 10) 0 = UInt8.ofNat ((listB l ps).length % 256) := by
    rw [← hpre, hform, List.getD_eq_getElem?_getD, List.getElem?_append_right (Nat.le_refl _), Nat.sub_self]; rfl
  have hb1 : (packB l ps).getD ((packB l ps).length - 9) 0 = UInt8.ofNat ((listB l ps).length / 256) := by
    rw [show (packB l ps).length - 9 = (ps.flatten ++ listB l ps).length + 1 from by omega, hform, List.getD_eq_getElem?_getD, List.getElem?_append_right (by omega), Nat.add_sub_cancel_left]; rfl
  have hlen : lenL (packB l ps) = (listB l ps).length := by
    unfold lenL
    rw [hb0, hb1]
    exact two_back _ (by omega)
  have hmid : ((packB l ps).take ((packB l ps).length - 10)).drop ((packB l ps).length - 10 - (listB l ps).length) = listB l ps := by
    rw [← hpre, hform, List.take_append_of_le_length (Nat.le_refl _), List.take_of_length_le (Nat.le_refl _), List.length_append, Nat.add_sub_cancel, List.drop_append_of_le_length (Nat.le_refl _), List.drop_of_length_le (Nat.le_refl _), List.nil_append]
  unfold ls
  rw [if_neg (by omega), htk, hdr, if_neg (fun h => h rfl), hlen, if_neg (by omega), hmid, show (packB l ps).length - 10 - (listB l ps).length = ps.flatten.length from by omega]
  have hg := Nm.get_put l.length (rowsB l ps) (by omega)
  have hd : (listB l ps).drop (Nm.put l.length).length = rowsB l ps := by
    rw [listB, List.drop_append_of_le_length (Nat.le_refl _), List.drop_of_length_le (Nat.le_refl _), List.nil_append]
  unfold lst
  rw [show Nm.getN (listB l ps) = (l.length, (Nm.put l.length).length, 0) from hg]
  simp only [hd]
  rw [if_neg (fun h => h rfl), if_neg h40, ents_rows _ l [] ps 0 [] hl he rfl hp (by omega), List.nil_append]

/-- each blob at its place -/
theorem one_of (op : Bs → Bs × Int) (b : Bl) (p pre post : Bs) (hb : bErr b = 0) (hop : op p = (b.2, 0)) :
    one op (pre ++ (p ++ post)) ⟨bid b, b.1, (pre.length : Nat), (p.length : Nat)⟩ = (b, 0) := by
  obtain ⟨hk, _⟩ := bErr_ok hb
  have e : ((pre ++ (p ++ post)).drop pre.length).take p.length = p := by
    rw [List.drop_append_of_le_length (Nat.le_refl _), List.drop_of_length_le (Nat.le_refl _), List.nil_append, List.take_append_of_le_length (Nat.le_refl _), List.take_of_length_le (Nat.le_refl _)]
  unfold one
  rw [if_neg (by simp only [List.length_append]; omega), if_neg (fun h => h hk)]
  simp only [Int.toNat_natCast, e, hop]
  rw [if_neg (fun h => h rfl), if_neg (fun h => h rfl)]
theorem mErr_each : ∀ (l was : List Bl), mErr was l = 0 → ∀ b ∈ l, bErr b = 0
  | [], _, _, _, hb => by simp at hb
  | a :: l, was, h, b, hb => by
    rw [mErr] at h
    by_cases e0 : bErr a ≠ 0
    · rw [if_pos e0] at h; exact absurd h e0
    rw [if_neg e0] at h
    split at h
    · omega
    split at h
    · omega
    rcases List.mem_cons.1 hb with rfl | hb
    · exact Classical.not_not.1 e0
    · exact mErr_each l _ h b hb
/-- blobs and what they are pressed to -/
def Prs (op : Bs → Bs × Int) : List Bl → List Bs → Prop
  | [], [] => True
  | b :: l, p :: ps => op p = (b.2, 0) ∧ p.length ≤ 4097 ∧ Prs op l ps
  | _, _ => False
theorem Prs.length {op : Bs → Bs × Int} : ∀ {l : List Bl} {ps : List Bs}, Prs op l ps → l.length = ps.length
  | [], [], _ => rfl
  | [], _ :: _, h => h.elim
  | _ :: _, [], h => h.elim
  | _ :: l, _ :: ps, h => by rw [List.length_cons, List.length_cons, Prs.length h.2.2]
theorem Prs.le {op : Bs → Bs × Int} : ∀ {l : List Bl} {ps : List Bs}, Prs op l ps → ∀ p ∈ ps, p.length ≤ 4097
  | [], [], _, _, hp => by simp at hp
  | [], _ :: _, h, _, _ => h.elim
  | _ :: _, [], h, _, _ => h.elim
  | _ :: l, q :: ps, h, p, hp => by
    rcases List.mem_cons.1 hp with rfl | hp
    · exact h.2.1
    · exact Prs.le h.2.2 p hp
/-- every row of the list tells its blob -/
theorem one_each (op : Bs → Bs × Int) (s post : Bs) : ∀ (l : List Bl) (ps : List Bs) (pre : Bs), Prs op l ps → (∀ b ∈ l, bErr b = 0) → s = pre ++ (ps.flatten ++ post) →
    ∀ (i : Nat) (h : i < l.length), ∃ x, (entsOf l ps pre.length)[i]? = some x ∧ one op s x = (l[i], 0) ∧ x.id = bid l[i] ∧ x.kind = l[i].1
  | [], _, _, _, _, _, i, h => by simp at h
  | _ :: _, [], _, h, _, _, _, _ => h.elim
  | b :: l, p :: ps, pre, hP, hb, hs, i, h => by
    cases i with
    | zero =>
      refine ⟨_, rfl, ?_, rfl, rfl⟩
      rw [hs, List.flatten_cons, List.append_assoc]
      exact one_of op b p pre _ (hb b (List.mem_cons_self ..)) hP.1
    | succ i =>
      have := one_each op s post l ps (pre ++ p) hP.2.2 (fun a ha => hb a (List.mem_cons_of_mem _ ha)) (by rw [hs, List.flatten_cons]; simp only [List.append_assoc]) i (by simpa using h)
      rw [List.length_append] at this
      exact this
theorem ones_all (op : Bs → Bs × Int) (s post : Bs) : ∀ (l : List Bl) (ps : List Bs) (pre : Bs) (out : List Bl), Prs op l ps → (∀ b ∈ l, bErr b = 0) → s = pre ++ (ps.flatten ++ post) →
    ones op s (entsOf l ps pre.length) out = (out ++ l, 0)
  | [], [], _, out, _, _, _ => by simp [entsOf, ones]
  | [], _ :: _, _, _, h, _, _ => h.elim
  | _ :: _, [], _, _, h, _, _ => h.elim
  | b :: l, p :: ps, pre, out, hP, hb, hs => by
    have h1 : one op s ⟨bid b, b.1, (pre.length : Nat), (p.length : Nat)⟩ = (b, 0) := by
      rw [hs, List.flatten_cons, List.append_assoc]
      exact one_of op b p pre _ (hb b (List.mem_cons_self ..)) hP.1
    have h2 := ones_all op s post l ps (pre ++ p) (out ++ [b]) hP.2.2 (fun a ha => hb a (List.mem_cons_of_mem _ ha)) (by rw [hs, List.flatten_cons]; simp only [List.append_assoc])
    rw [List.length_append] at h2
    rw [entsOf, ones, h1, if_neg (fun h => h rfl), h2, List.append_assoc]
    rfl
theorem packB_form (l : List Bl) (ps : List Bs) : packB l ps = [] ++ (ps.flatten ++ (listB l ps ++ two (listB l ps).length ++ dg (allB l ps))) := by
  rw [packB]
  generalize dg (allB l ps) = d
  rw [allB, List.nil_append, List.append_assoc, List.append_assoc]
theorem makeErr_each {l : List Bl} (h : makeErr l = 0) : ∀ b ∈ l, bErr b = 0 := by
  unfold makeErr at h
  split at h
  · omega
  · exact mErr_each l [] h
/-- PackBack's own -/
theorem split_pack (op : Bs → Bs × Int) (l : List Bl) (ps : List Bs) (he : makeErr l = 0) (hP : Prs op l ps) : split op (packB l ps) = (l, 0) := by
  rw [split, ls_pack l ps hP.length he hP.le, if_neg (fun h => h rfl)]
  exact ones_all op _ _ l ps [] [] hP (makeErr_each he) (packB_form l ps)
theorem one_pack (op : Bs → Bs × Int) (l : List Bl) (ps : List Bs) (he : makeErr l = 0) (hP : Prs op l ps) (i : Nat) (h : i < l.length) :
    ∃ x, (entsOf l ps 0)[i]? = some x ∧ one op (packB l ps) x = (l[i], 0) ∧ x.id = bid l[i] ∧ x.kind = l[i].1 :=
  one_each op _ _ l ps [] hP (makeErr_each he) (packB_form l ps) i h

theorem dg_inj (s t : Bs) (h : dg s = dg t) : Mx.narrow 64 s = Mx.narrow 64 t := by
  unfold dg at h
  exact low8_inj (Mx.narrow_lt 64 s) (Mx.narrow_lt 64 t) h
theorem byte_take (u : Bs) (n j : Nat) : Mx.byteAt (u.take n) j = if j < n then (u.getD j 0).toNat else 0 := by
  unfold Mx.byteAt
  rw [List.getD_eq_getElem?_getD, List.getElem?_take]
  split
  · rw [List.getD_eq_getElem?_getD]
  · rfl
/-- texts of one length that are unlike in one byte have unlike digests -/
theorem dg_other (s t : Bs) (k n : Nat) (hl : s.length = t.length) (hsz : s.length < 18446744073709551616) (hkn : k < n) (hne : s.getD k 0 ≠ t.getD k 0) (hsame : ∀ j, j ≠ k → s.getD j 0 = t.getD j 0) : dg (s.take n) ≠ dg (t.take n) := by
  intro h
  have heq := Mx.apart (s.take n) (t.take n) (k / 8) (by rw [List.length_take, List.length_take, hl]) (by rw [List.length_take]; exact Nat.lt_of_le_of_lt (Nat.min_le_right _ _) hsz) (fun j hj => by
    rw [byte_take, byte_take, hsame j (fun e => hj (by rw [e]))]) (dg_inj _ _ h)
  have h1 := byte_take s n k
  have h2 := byte_take t n k
  rw [if_pos hkn] at h1 h2
  rw [heq] at h1
  exact hne (UInt8.toNat_inj.1 (h1.symm.trans h2))
/-- PackTells' own: of a pack in which one byte was changed nothing is told -/
theorem ls_other (s t : Bs) (k : Nat) (hl : s.length = t.length) (hsz : s.length < 18446744073709551616) (hs : (ls s).2 = 0) (hk : k < s.length) (hne : s.getD k 0 ≠ t.getD k 0) (hsame : ∀ j, j ≠ k → s.getD j 0 = t.getD j 0) : ls t = ([], 6) := by
  unfold ls at hs
  by_cases h10 : s.length < 10
  · rw [if_pos h10] at hs; simp at hs
  rw [if_neg h10] at hs
  by_cases hsum : dg (s.take (s.length - 8)) ≠ s.drop (s.length - 8)
  · rw [if_pos hsum] at hs; simp at hs
  clear hs
  have hsum := Classical.not_not.1 hsum
  unfold ls
  rw [← hl, if_neg h10, if_pos]
  intro ht
  by_cases hlt : k < s.length - 8
  · have hd : s.drop (s.length - 8) = t.drop (s.length - 8) := by
      apply List.ext_getElem?
      intro i
      rw [List.getElem?_drop, List.getElem?_drop]
      by_cases hi : s.length - 8 + i < s.length
      · have := hsame (s.length - 8 + i) (by omega)
        rw [List.getD_eq_getElem?_getD, List.getD_eq_getElem?_getD, List.getElem?_eq_getElem hi, List.getElem?_eq_getElem (by omega)] at this
        rw [List.getElem?_eq_getElem hi, List.getElem?_eq_getElem (by omega)]
        exact congrArg some this
      · rw [List.getElem?_eq_none (by omega), List.getElem?_eq_none (by omega)]
    exact dg_other s t k _ hl hsz hlt hne hsame (by rw [hsum, hd, ht])
  · have htk : s.take (s.length - 8) = t.take (s.length - 8) := by
      apply List.ext_getElem?
      intro i
      rw [List.getElem?_take, List.getElem?_take]
      by_cases hi : i < s.length - 8
      · rw [if_pos hi, if_pos hi]
        have := hsame i (by omega)
        rw [List.getD_eq_getElem?_getD, List.getD_eq_getElem?_getD, List.getElem?_eq_getElem (by omega), List.getElem?_eq_getElem (by omega)] at this
        rw [List.getElem?_eq_getElem (by omega), List.getElem?_eq_getElem (by omega)]
        exact congrArg some this
      · rw [if_neg hi, if_neg hi]
    have hd : s.drop (s.length - 8) = t.drop (s.length - 8) := by rw [← hsum, htk, ht]
    have := congrArg (fun u => u[k - (s.length - 8)]?) hd
    simp only [List.getElem?_drop] at this
    rw [show s.length - 8 + (k - (s.length - 8)) = k from by omega] at this
    apply hne
    rw [List.getD_eq_getElem?_getD, List.getD_eq_getElem?_getD, this]
theorem split_other (op : Bs → Bs × Int) (t : Bs) (h : ls t = ([], 6)) : split op t = ([], 6) := by
  rw [split, h, if_pos (by decide)]

/-- PackTrue's own: a blob that is told has the digest that it was looked for by -/
theorem one_true (op : Bs → Bs × Int) (s : Bs) (x : En) (hop : ∀ u, (op u).2 = 0 → (op u).1.length ≤ 4096) :
    ((one op s x).2 ≠ 0 → (one op s x).1 = (0, [])) ∧ ((one op s x).2 = 0 → bErr (one op s x).1 = 0 ∧ bid (one op s x).1 = x.id ∧ (one op s x).1.1 = x.kind) := by
  unfold one
  split
  · exact ⟨fun _ => rfl, fun h => by simp at h⟩
  split
  · exact ⟨fun _ => rfl, fun h => by simp at h⟩
  rename_i hk
  simp only
  split
  · rename_i h0
    exact ⟨fun _ => rfl, fun h => absurd h h0⟩
  rename_i h0
  split
  · exact ⟨fun _ => rfl, fun h => by simp at h⟩
  rename_i h1
  refine ⟨fun h => absurd rfl h, fun _ => ⟨?_, Classical.not_not.1 h1, rfl⟩⟩
  unfold bErr
  have := hop _ (Classical.not_not.1 h0)
  rw [if_pos (Classical.not_not.1 hk), if_neg (by show ¬ 4096 < (op _).1.length; omega)]
end Pk
end Go.Proofs.Ytkhejelmjkpgfaa

namespace Go.Proofs.Ytkhejelmjkpgfaa
open Go.RowKit

/-- things of k cells each, one behind another -/
structure Rx {α : Type} (k : Nat) (C : α → List Value) (w : World) (v : Value) (l : List α) : Prop where
  at_ : ((∃ a c, v = .slice a 0 c) ∧ l = []) ∨ ∃ bk o cap, v = .slice (some ⟨bk, o, none⟩) l.length cap ∧ bk < w.heap.size ∧
    ∀ j t, l[j]? = some t → ∀ r u, (C t)[r]? = some u → w.cell? ⟨bk, o + j * k + r, none⟩ = some u
  room : ∃ a n c, v = .slice a n c ∧ n ≤ c ∧ c ≤ 9223372036854775807
section
variable {α : Type} {k : Nat} {C : α → List Value}
theorem Rx.slice {w : World} {v : Value} {l : List α} (h : Rx k C w v l) : ∃ a c, v = .slice a l.length c ∧ l.length ≤ c ∧ c ≤ 9223372036854775807 := by
  obtain ⟨a', n', c', e, h1, h2⟩ := h.room
  rcases h.at_ with ⟨⟨a, c, rfl⟩, rfl⟩ | ⟨bk, o, cap, rfl, _⟩
  · rw [Value.slice.injEq] at e
    obtain ⟨rfl, rfl, rfl⟩ := e
    exact ⟨_, _, rfl, h1, h2⟩
  · rw [Value.slice.injEq] at e
    obtain ⟨rfl, rfl, rfl⟩ := e
    exact ⟨_, _, rfl, h1, h2⟩
theorem Rx.kept {p : Nat → Prop} {w w' : World} {v : Value} {l : List α} (h : Rx k C w v l) (hk : Kept p w w') (hp : ∀ a n c, v = .slice (some a) n c → p a.block) : Rx k C w' v l := by
  rcases h.at_ with h' | ⟨bk, o, cap, h1, h3, h4⟩
  · exact ⟨.inl h', h.room⟩
  · refine ⟨.inr ⟨bk, o, cap, h1, Nat.lt_of_lt_of_le h3 hk.size, fun j t hj r u hu => ?_⟩, h.room⟩
    have e := hk.block bk h3 (hp _ _ _ h1)
    have e2 : ∀ q, w'.cell? ⟨bk, q, none⟩ = w.cell? ⟨bk, q, none⟩ := fun q => by simp only [World.cell?, e]
    rw [e2]
    exact h4 j t hj r u hu
theorem Rx.below {w w' : World} {v : Value} {l : List α} (h : Rx k C w v l) (hb : Below w.heap.size w w') : Rx k C w' v l := h.kept (Kept.of_below (p := fun _ => True) hb) fun _ _ _ _ => trivial
theorem Rx.get {w : World} {a : Option Addr} {n c : Nat} {l : List α} (h : Rx k C w (.slice a n c) l) (j : Nat) (t : α) (hj : l[j]? = some t) : ∃ bk o, a = some ⟨bk, o, none⟩ ∧ bk < w.heap.size ∧
    ∀ r u, (C t)[r]? = some u → w.cell? ⟨bk, o + j * k + r, none⟩ = some u := by
  rcases h.at_ with ⟨_, rfl⟩ | ⟨bk, o, cap, h1, h3, h4⟩
  · simp at hj
  · rw [Value.slice.injEq] at h1
    obtain ⟨rfl, rfl, rfl⟩ := h1
    exact ⟨bk, o, rfl, h3, h4 j t hj⟩
/-- the cells of all -/
def rowR (C : α → List Value) (l : List α) : List Value := l.flatMap C
theorem rowR_length (hC : ∀ t, (C t).length = k) (l : List α) : (rowR C l).length = l.length * k := by
  induction l with
  | nil => simp [rowR]
  | cons t l ih => show (C t ++ rowR C l).length = _; rw [List.length_append, ih, List.length_cons, hC, Nat.add_mul, Nat.one_mul, Nat.add_comm]
theorem rowR_more (l : List α) (t : α) : rowR C (l ++ [t]) = rowR C l ++ C t := by simp [rowR]
theorem rowR_get (hC : ∀ t, (C t).length = k) (l : List α) (i r : Nat) (t : α) (hi : l[i]? = some t) (hr : r < k) : (rowR C l)[i * k + r]? = (C t)[r]? := by
  induction l generalizing i with
  | nil => simp at hi
  | cons q l ih =>
    show (C q ++ rowR C l)[i * k + r]? = _
    cases i with
    | zero =>
      obtain rfl : q = t := by simpa using hi
      rw [Nat.zero_mul, Nat.zero_add, List.getElem?_append_left (by rw [hC]; exact hr)]
    | succ i =>
      rw [List.getElem?_append_right (by rw [hC, Nat.add_mul, Nat.one_mul]; omega), hC, show (i + 1) * k + r - k = i * k + r from by rw [Nat.add_mul, Nat.one_mul]; omega, ih i (by simpa using hi)]
theorem rowR_one (hC : ∀ t, ∀ u ∈ C t, u.oneCell' = true) (l : List α) : ∀ u ∈ rowR C l, u.oneCell' = true := by
  intro u hu
  obtain ⟨t, _, ht⟩ := List.mem_flatMap.1 hu
  exact hC t u ht
theorem Rx.of_own {base : Nat} {T : TypeId} {w : World} {v : Value} {l : List α} (hC : ∀ t, (C t).length = k) (h : w.ownsRow base T k v l.length (rowR C l)) : Rx k C w v l := by
  rcases h.2 with ⟨rfl, h0⟩ | ⟨g, cap, cur, rfl, hg, hh, h1, h2, _⟩
  · exact ⟨.inl ⟨⟨_, _, rfl⟩, List.length_eq_zero_iff.1 h0⟩, _, _, _, rfl, Nat.le_refl _, by omega⟩
  · refine ⟨.inr ⟨g, 0, cap, rfl, (Array.getElem?_eq_some_iff.1 hh).1, fun j t hj r u hu => ?_⟩, _, _, _, rfl, h1, by unfold maxLen at h2; omega⟩
    have hr : r < k := by
      have := (List.getElem?_eq_some_iff.1 hu).1
      rwa [hC] at this
    have := World.ownsRow.cells h (g := g) rfl (j * k + r) u (by rw [rowR_get hC l j r t hj hr]; exact hu)
    rw [show (0 : Nat) + j * k + r = j * k + r from by omega]
    rwa [show ((⟨g, 0, none⟩ : Addr).add (j * k + r)) = ⟨g, j * k + r, none⟩ from by unfold Addr.add; split <;> simp_all] at this
/-- one more behind an owned row -/
theorem own_one_more {base : Nat} {T : TypeId} {w1 : World} {v1 : Value} {l : List α} {t : α} (h : w1.ownsRow base T k v1 (l.length + 1) (rowR C l ++ C t)) : w1.ownsRow base T k v1 (l ++ [t]).length (rowR C (l ++ [t])) := by
  rw [rowR_more, List.length_append, List.length_singleton]
  exact h
end

/-- a blob as it is handed in -/
structure Blb where
  kind : Int
  bytes : ByteArray
def Blb.p (b : Blb) : Pk.Bl := (b.kind, b.bytes.data.toList)
theorem Blb.p_inj {a b : Blb} (h : a.p = b.p) : a = b := by
  obtain ⟨k, ⟨⟨s⟩⟩⟩ := a
  obtain ⟨k', ⟨⟨s'⟩⟩⟩ := b
  simp only [Blb.p, Prod.mk.injEq] at h
  obtain ⟨rfl, rfl⟩ := h
  rfl
def blC (b : Blb) : List Value := [.int .i64 b.kind, .string b.bytes]
def blV (b : Blb) : Value := .agg #[.int .i64 b.kind, .string b.bytes]
theorem blC_length (b : Blb) : (blC b).length = 2 := rfl
theorem blC_one (b : Blb) : ∀ u ∈ blC b, u.oneCell' = true := by
  intro u hu
  simp [blC] at hu
  rcases hu with rfl | rfl <;> rfl
/-- a row of a pack's list as it is handed in -/
structure Ent where
  id : List UInt8
  hid : id.length = 8
  kind : Int
  at_ : Int
  len : Int
def Ent.p (e : Ent) : Pk.En := ⟨e.id, e.kind, e.at_, e.len⟩
def enC (e : Ent) : List Value := e.id.map B ++ [.int .i64 e.kind, .int .i64 e.at_, .int .i64 e.len]
def enV (e : Ent) : Value := .agg (enC e).toArray
theorem enC_length (e : Ent) : (enC e).length = 11 := by rw [enC, List.length_append, List.length_map, e.hid]; rfl
theorem enC_one (e : Ent) : ∀ u ∈ enC e, u.oneCell' = true := by
  intro u hu
  rw [enC, List.mem_append] at hu
  rcases hu with hu | hu
  · obtain ⟨b, _, rfl⟩ := List.mem_map.1 hu; rfl
  · simp only [List.mem_cons, List.not_mem_nil, or_false] at hu
    rcases hu with rfl | rfl | rfl <;> rfl
def idV (x : List UInt8) : Value := .agg (x.map B).toArray
def idC (x : List UInt8) : List Value := x.map B
abbrev Bx := Rx 2 blC
abbrev Ex := Rx 11 enC
theorem Rx.blob {w : World} {a : Option Addr} {n c : Nat} {l : List Blb} (h : Bx w (.slice a n c) l) (j : Nat) (t : Blb) (hj : l[j]? = some t) : ∃ bk o, a = some ⟨bk, o, none⟩ ∧ bk < w.heap.size ∧
    w.cell? ⟨bk, o + j * 2, none⟩ = some (.int .i64 t.kind) ∧ w.cell? ⟨bk, o + j * 2 + 1, none⟩ = some (.string t.bytes) := by
  obtain ⟨bk, o, h1, h2, h3⟩ := h.get j t hj
  exact ⟨bk, o, h1, h2, h3 0 _ rfl, h3 1 _ rfl⟩
end Go.Proofs.Ytkhejelmjkpgfaa

namespace Go.Proofs.Ytkhejelmjkpgfaa
open Go.RowKit
set_option maxRecDepth 4000

theorem wrap_u64_mod (n : Nat) : IntKind.u64.wrap (n : Int) = ((n % 18446744073709551616 : Nat) : Int) := by
  simp only [IntKind.wrap, IntKind.bits, IntKind.signed]
  simp

/-- a times the lowest i bits of b -/
def refPart (a b i : Nat) : Nat := a * (b % 2 ^ i) % 18446744073709551616
theorem part_succ (a b i : Nat) : refPart a b (i + 1) = (refPart a b i + (if b / 2 ^ i % 2 = 1 then a * 2 ^ i % 18446744073709551616 else 0)) % 18446744073709551616 := by
  unfold refPart
  rw [Nat.pow_succ, Nat.mod_mul, Nat.mul_add]
  split
  · rename_i h
    rw [h, Nat.mul_one, Nat.add_mod]
  · rename_i h
    have : b / 2 ^ i % 2 = 0 := by omega
    rw [this, Nat.mul_zero, Nat.mul_zero, Nat.add_zero, Nat.add_zero, Nat.mod_mod]
theorem part_all (a b : Nat) (hb : b < 18446744073709551616) : refPart a b 64 = a * b % 18446744073709551616 := by
  unfold refPart
  rw [Nat.mod_eq_of_lt (a := b) (b := 2 ^ 64) (by omega)]

theorem part_mod (a b i : Nat) : refPart a b i % 18446744073709551616 = refPart a b i := by unfold refPart; rw [Nat.mod_mod]
theorem shr_int (C k : Nat) : (C : Int) / 2 ^ k = ((C / 2 ^ k : Nat) : Int) := by simp
theorem bit_of (C k : Nat) (h : C < 18446744073709551616) : bits BinOp.and IntKind.u64 ((C : Int) / 2 ^ k) 1 = ((C / 2 ^ k % 2 : Nat) : Int) := by
  have hl := Nat.div_le_self C (2 ^ k)
  rw [shr_int]
  generalize C / 2 ^ k = q at *
  rw [and_one_u64 _ (by omega) (by omega)]
  omega
theorem sum_wrap (p A k : Nat) : IntKind.u64.wrap ((p : Int) + IntKind.u64.wrap ((A : Int) * 2 ^ k)) = (((p + A * 2 ^ k % 18446744073709551616) % 18446744073709551616 : Nat) : Int) := by
  rw [show (A : Int) * 2 ^ k = ((A * 2 ^ k : Nat) : Int) from by simp, wrap_u64_mod, ← Int.natCast_add, wrap_u64_mod]

set_option maxHeartbeats 400000 in
theorem product_any (a b : Int) (w : World) (a0 : 0 ≤ a) (a1 : a ≤ 18446744073709551615) (b0 : 0 ≤ b) (b1 : b ≤ 18446744073709551615) :
    Calls Try.prog 97 #[.int .u64 a, .int .u64 b] w fun e w' => e = .returned (.int .u64 (Mx.prod a.toNat b.toNat : Int)) ∧ w' = w := by
  obtain ⟨A, rfl⟩ := Int.eq_ofNat_of_zero_le a0
  obtain ⟨C, rfl⟩ := Int.eq_ofNat_of_zero_le b0
  simp only [Int.toNat_natCast]
  go_enter Try.func97, Try.ntmps97
  go_wp2
  go_loop [5, 7] (fun o i => ∃ k : Nat, k ≤ 64 ∧ i = .int .i64 k ∧ o = .int .u64 (refPart A C k)) (fun _ i => 64 - (intOf i).toNat)
  case atStart => exact ⟨0, by omega, rfl, by simp [refPart, Nat.mod_one]⟩
  case round =>
    obtain ⟨k, hk, rfl, rfl⟩ := hrel
    by_cases hlt : k < 64
    · have hp := part_succ A C k
      by_cases hb : C / 2 ^ k % 2 = 1
      · have hq : (bits BinOp.and IntKind.u64 ((C : Int) / 2 ^ k) 1 == 1) = true := by rw [bit_of C k (by omega), beq_iff_eq]; omega
        rw [if_pos hb] at hp
        have HP : Hid (refPart A C (k + 1) = (refPart A C k + A * 2 ^ k % 18446744073709551616) % 18446744073709551616) := hp
        clear hp hb
        go_wp2
        go_round
        case rel => exact ⟨k + 1, by omega, by go_num, int_eq (by rw [HP.out, sum_wrap])⟩
        case measure => simp [intOf]; omega
      · have hq : (bits BinOp.and IntKind.u64 ((C : Int) / 2 ^ k) 1 == 1) = false := by rw [bit_of C k (by omega), beq_eq_false_iff_ne]; omega
        rw [if_neg hb, Nat.add_zero] at hp
        have HP : Hid (refPart A C (k + 1) = refPart A C k % 18446744073709551616) := hp
        clear hp hb
        go_wp2
        go_round
        case rel => exact ⟨k + 1, by omega, by go_num, int_eq (by rw [HP.out, part_mod])⟩
        case measure => simp [intOf]; omega
    · go_wp2
      go_ret
      have hp : refPart A C k = Mx.prod A C := by rw [show k = 64 from by omega, part_all A C (by omega)]; rfl
      refine ⟨?_, rfl⟩
      rw [← hp]
      rfl

theorem xs_int29 (z : Nat) (h : z < 18446744073709551616) : bits .xor .u64 (z : Int) ((z : Int) / 536870912) = (Mx.xs 29 z : Int) := by
  rw [show (z : Int) / 536870912 = ((z / 536870912 : Nat) : Int) from by omega, u64_xor_nat _ _ h (by omega), Mx.xs, Nat.shiftRight_eq_div_pow]
theorem xs_int32 (z : Nat) (h : z < 18446744073709551616) : bits .xor .u64 (z : Int) ((z : Int) / 4294967296) = (Mx.xs 32 z : Int) := by
  rw [show (z : Int) / 4294967296 = ((z / 4294967296 : Nat) : Int) from by omega, u64_xor_nat _ _ h (by omega), Mx.xs, Nat.shiftRight_eq_div_pow]
theorem xor_int (a b : Nat) (ha : a < 18446744073709551616) (hb : b < 18446744073709551616) : bits .xor .u64 (a : Int) (b : Int) = ((a ^^^ b : Nat) : Int) := u64_xor_nat a b ha hb

set_option maxHeartbeats 400000 in
theorem rstep_any (x b : Int) (w : World) (x0 : 0 ≤ x) (x1 : x ≤ 18446744073709551615) (b0 : 0 ≤ b) (b1 : b ≤ 18446744073709551615) :
    Calls Try.prog 66 #[.int .u64 x, .int .u64 b] w fun e w' => e = .returned (.int .u64 (Mx.step x.toNat b.toNat : Int)) ∧ w' = w := by
  obtain ⟨X, rfl⟩ := Int.eq_ofNat_of_zero_le x0
  obtain ⟨C, rfl⟩ := Int.eq_ofNat_of_zero_le b0
  simp only [Int.toNat_natCast]
  have h1 := u64_xor_nat X C (by omega) (by omega)
  have l1 := Mx.xor_lt (a := X) (b := C) (by omega) (by omega)
  go_enter Try.func66, Try.ntmps66
  go_wp2_with fail
  refine (product_any _ _ _ (by omega) (by omega) (by omega) (by omega)).mono ?_
  rintro e w ⟨rfl, rfl⟩
  rw [Int.toNat_natCast, show (11400714819323198485 : Int).toNat = 11400714819323198485 from rfl]
  have l2 := Mx.prod_lt (X ^^^ C) 11400714819323198485
  have h2 := xs_int29 _ l2
  have l3 := Mx.xs_lt (k := 29) l2
  go_wp2_with fail
  refine (product_any _ _ _ (by omega) (by omega) (by omega) (by omega)).mono ?_
  rintro e w ⟨rfl, rfl⟩
  rw [Int.toNat_natCast, show (13787848793156543929 : Int).toNat = 13787848793156543929 from rfl]
  have l4 := Mx.prod_lt (Mx.xs 29 (Mx.prod (X ^^^ C) 11400714819323198485)) 13787848793156543929
  have h4 := xs_int32 _ l4
  clear h1 h2
  go_wp2_with fail
  go_ret
  exact ⟨rfl, rfl⟩
end Go.Proofs.Ytkhejelmjkpgfaa

namespace Go.Proofs.Ytkhejelmjkpgfaa
open Go.RowKit
set_option maxRecDepth 4000

theorem mul_wrap (a b : Nat) : IntKind.u64.wrap ((a : Int) * (b : Int)) = (Mx.prod a b : Nat) := by
  rw [← Int.natCast_mul, wrap_u64_mod]; rfl
theorem mul_a (a : Nat) : IntKind.u64.wrap ((a : Int) * 11400714819323198485) = (Mx.prod a 11400714819323198485 : Nat) := mul_wrap a 11400714819323198485
theorem mul_b (a : Nat) : IntKind.u64.wrap ((a : Int) * 13787848793156543929) = (Mx.prod a 13787848793156543929 : Nat) := mul_wrap a 13787848793156543929
theorem mul_ia (a : Nat) : IntKind.u64.wrap ((a : Int) * 17428512612931826493) = (Mx.prod a 17428512612931826493 : Nat) := mul_wrap a 17428512612931826493
theorem mul_ib (a : Nat) : IntKind.u64.wrap ((a : Int) * 10871156337175269513) = (Mx.prod a 10871156337175269513 : Nat) := mul_wrap a 10871156337175269513

theorem shr29_int (z : Nat) : (z : Int) / (536870912 : Int) = ((z >>> 29 : Nat) : Int) := by rw [Nat.shiftRight_eq_div_pow]; omega

set_option maxHeartbeats 400000 in
theorem step_any (x b : Nat) (w : World) (hx : x < 18446744073709551616) (hb : b < 18446744073709551616) :
    Calls Try.prog 92 #[.int .u64 x, .int .u64 b] w fun e w' => e = .returned (.int .u64 (Mx.step x b : Nat)) ∧ Below w.heap.size w w' := by
  have h1 := u64_xor_nat x b hx hb
  go_enter Try.func92, Try.ntmps92
  go_wp2
  go_ret
  refine ⟨ret_int ?_, Below.refl _ _⟩
  rw [mul_a, xs_int29 _ (Mx.prod_lt _ _), mul_b, xs_int32 _ (Mx.prod_lt _ _), Mx.step]
end Go.Proofs.Ytkhejelmjkpgfaa

namespace Go.Proofs.Ytkhejelmjkpgfaa
open Go.RowKit
set_option maxRecDepth 4000

/-- 'string([]byte{b})' -/
theorem run_str1 (W : World) (a : Addr) (b : Int) (h : W.cell? a = some (.int .u8 b)) (h0 : 0 ≤ b) (h1 : b ≤ 255) (ha : a.spot = none) :
    (convert 51 9 (.slice (some a) 1 1)).run Try.prog W = .ok (.string ⟨#[UInt8.ofNat b.toNat]⟩) W := by
  refine run_convert_bytes_back W 51 9 5 a 1 [UInt8.ofNat b.toNat] (by kernel_rfl) (by kernel_rfl) (by kernel_rfl) ?_
  intro j hj
  have hj0 : j = 0 := by simpa using hj
  subst hj0
  obtain ⟨x, y, z⟩ := a
  simp only at ha
  subst ha
  simp [Addr.add, h]
  omega

theorem str_new (b : Int) (h0 : 0 ≤ b) (h1 : b ≤ 255) (W : World) :
    (convert 51 9 (.slice (some ⟨W.heap.size, 0, none⟩) 1 1)).run Try.prog (W.alloc (.cells #[.int .u8 b] 5)) = .ok (.string ⟨#[UInt8.ofNat b.toNat]⟩) (W.alloc (.cells #[.int .u8 b] 5)) :=
  run_str1 _ _ b (by simp) h0 h1 rfl
theorem str_new_drew (b : Int) (h0 : 0 ≤ b) (h1 : b ≤ 255) (W : World) :
    (convert 51 9 (.slice (some ⟨W.heap.size, 0, none⟩) 1 1)).run Try.prog (W.alloc (.cells #[.int .u8 b] 5)).drew = .ok (.string ⟨#[UInt8.ofNat b.toNat]⟩) (W.alloc (.cells #[.int .u8 b] 5)).drew :=
  run_str1 _ _ b (by simp) h0 h1 rfl
theorem str_kept (w : World) (b : Int) (h0 : 0 ≤ b) (h1 : b ≤ 255) {w' : World} (hb : Below (w.alloc (.cells #[.int .u8 b] 5)).drew.heap.size (w.alloc (.cells #[.int .u8 b] 5)).drew w') :
    (convert 51 9 (.slice (some ⟨w.heap.size, 0, none⟩) 1 1)).run Try.prog w' = .ok (.string ⟨#[UInt8.ofNat b.toNat]⟩) w' :=
  run_str1 _ _ b (by rw [hb.cell (by simp)]; simp) h0 h1 rfl

set_option maxHeartbeats 400000 in
theorem digits_any (k : Nat) : ∀ (n : Int) (w : World), 0 ≤ n → n.toNat < 256 ^ k → k ≤ 8 →
    Calls Try.prog 46 #[.int .u64 n] w fun e w' => e = .returned (.string ⟨(Nm.digF k n.toNat).toArray⟩) ∧ Below w.heap.size w w' := by
  induction k with
  | zero =>
    intro n w h0 h1 _
    have hn : n = 0 := by simp at h1; omega
    subst hn
    go_enter Try.func46, Try.ntmps46
    go_wp2_with fail
    go_ret
    exact ⟨rfl, Below.refl _ _⟩
  | succ k ih =>
    intro n w h0 h1 h8
    by_cases hn : n = 0
    · subst hn
      go_enter Try.func46, Try.ntmps46
      go_wp2_with fail
      go_ret
      exact ⟨rfl, Below.refl _ _⟩
    · have h64 : n ≤ 18446744073709551615 := by
        have : 256 ^ (k + 1) ≤ 256 ^ 8 := Nat.pow_le_pow_right (by omega) h8
        omega
      have hd : Hid (Nm.digF (k + 1) n.toNat = Nm.digF k (n / 256).toNat ++ [UInt8.ofNat (n % 256).toNat]) := by
        show _ = _
        rw [Nm.digF, if_neg (by omega), show (n / 256).toNat = n.toNat / 256 from by omega, show (n % 256).toNat = n.toNat % 256 from by omega]
      have hlt : (n / 256).toNat < 256 ^ k := by rw [Nat.pow_succ] at h1; omega
      have hq : (n == 0) = false := by simpa using hn
      have H1 : Hid ((n / 256).toNat < 256 ^ k) := hlt
      clear h1 hlt hn
      have hw1 : IntKind.u64.wrap (n.tdiv 256) = n / 256 := by rw [Int.tdiv_eq_ediv_of_nonneg h0]; exact wrap_u64 _ (by omega) (by omega)
      have hw2 : n.tmod 256 = n % 256 := Int.tmod_eq_emod_of_nonneg h0
      have hw3 : IntKind.u8.wrap (n % 256) = n % 256 := by simp only [IntKind.wrap, IntKind.bits, IntKind.signed]; simp
      have m0 : 0 ≤ n % 256 := by omega
      have m1 : n % 256 ≤ 255 := by omega
      have hr1 := str_new (n % 256) m0 m1
      have hr2 := str_new_drew (n % 256) m0 m1
      have hcat : ∀ W : World, (Op.stringOp .add ⟨(Nm.digF k (n / 256).toNat).toArray⟩ ⟨#[UInt8.ofNat (n % 256).toNat]⟩).run Try.prog W = .ok (.string ⟨(Nm.digF k (n / 256).toNat ++ [UInt8.ofNat (n % 256).toNat]).toArray⟩) W := fun W =>
        run_string_add_lists W _ [UInt8.ofNat (n % 256).toNat] (by have := Nm.digF_length_le k (n / 256).toNat; omega) (by simp)
      go_enter Try.func46, Try.ntmps46
      go_wp2_with fail
      go_region_with (go_at_call 46; refine (ih (n / 256) _ (by omega) H1.out (by omega)).mono ?_; rintro e w' ⟨rfl, hb⟩; try (have hr3 := str_kept w (n % 256) m0 m1 hb))
      all_goals
        clear hr1 hr2 hcat
        go_wp2_with fail
        go_ret
        refine ⟨by rw [hd.out]; rfl, ?_⟩
        first
          | (have h := hb.size; exact ((Below.refl _ _).drew.trans hb).alloc (by simpa using h) _)
          | exact (((Below.refl _ _).alloc (Nat.le_refl _) _).drew).trans (hb.mono (by simp))
end Go.Proofs.Ytkhejelmjkpgfaa

namespace Go.Proofs
open Go.Shelf
def Try.lays105_ren : Go.Shelf.Ren := ⟨fun | 105 => 64 | 212 => 94 | 99 => 50 | 165 => 95 | 166 => 57 | 170 => 96 | 169 => 58 | 263 => 124 | 264 => 125 | 206 => 81 | 240 => 89 | 241 => 126 | 276 => 121 | 277 => 140 | n => n, fun | 9 => 9 | 3 => 3 | 4 => 4 | 20 => 20 | 0 => 0 | 46 => 72 | 109 => 133 | 5 => 5 | 72 => 89 | 76 => 92 | 51 => 174 | 146 => 175 | 53 => 59 | 148 => 177 | 70 => 87 | 37 => 51 | 75 => 91 | 127 => 128 | 164 => 172 | 80 => 94 | n => n, fun | n => n⟩
theorem Try.lays105 : Go.Proofs.Lays.n105 Try.prog Try.lays105_ren := {
  mixed := by kernel_rfl
  f99 := Try.func50.trans (congrArg some (by kernel_rfl))
  f105 := Try.func64.trans (congrArg some (by kernel_rfl))
  f165 := Try.func95.trans (congrArg some (by kernel_rfl))
  f166 := Try.func57.trans (congrArg some (by kernel_rfl))
  f169 := Try.func58.trans (congrArg some (by kernel_rfl))
  f170 := Try.func96.trans (congrArg some (by kernel_rfl))
  f206 := Try.func81.trans (congrArg some (by kernel_rfl))
  f212 := Try.func94.trans (congrArg some (by kernel_rfl))
  f240 := Try.func89.trans (congrArg some (by kernel_rfl))
  f241 := Try.func126.trans (congrArg some (by kernel_rfl))
  f263 := Try.func124.trans (congrArg some (by kernel_rfl))
  f264 := Try.func125.trans (congrArg some (by kernel_rfl))
  f276 := Try.func121.trans (congrArg some (by kernel_rfl))
  f277 := Try.func140.trans (congrArg some (by kernel_rfl))
  t0 := Try.underlying0
  a0 := Try.isAgg0
  z0 := Try.sizeOf0
  v0 := Try.zeroValue0
  t3 := Try.underlying3
  a3 := Try.isAgg3
  z3 := Try.sizeOf3
  v3 := Try.zeroValue3
  t4 := Try.underlying4
  a4 := Try.isAgg4
  z4 := Try.sizeOf4
  v4 := Try.zeroValue4
  t5 := Try.underlying5
  a5 := Try.isAgg5
  z5 := Try.sizeOf5
  v5 := Try.zeroValue5
  t9 := Try.underlying9
  a9 := Try.isAgg9
  z9 := Try.sizeOf9
  v9 := Try.zeroValue9
  t20 := Try.underlying20
  a20 := Try.isAgg20
  z20 := Try.sizeOf20
  v20 := Try.zeroValue20
  t37 := Try.underlying51
  a37 := Try.isAgg51
  z37 := Try.sizeOf51
  v37 := Try.zeroValue51
  t46 := Try.underlying72
  a46 := Try.isAgg72
  z46 := Try.sizeOf72
  v46 := Try.zeroValue72
  t51 := Try.underlying174
  a51 := Try.isAgg174
  z51 := Try.sizeOf174
  v51 := Try.zeroValue174
  t53 := Try.underlying59
  a53 := Try.isAgg59
  z53 := Try.sizeOf59
  v53 := Try.zeroValue59
  t70 := Try.underlying87
  a70 := Try.isAgg87
  z70 := Try.sizeOf87
  v70 := Try.zeroValue87
  t72 := Try.underlying89
  a72 := Try.isAgg89
  z72 := Try.sizeOf89
  v72 := Try.zeroValue89
  t75 := Try.underlying91
  a75 := Try.isAgg91
  z75 := Try.sizeOf91
  v75 := Try.zeroValue91
  t76 := Try.underlying92
  a76 := Try.isAgg92
  z76 := Try.sizeOf92
  v76 := Try.zeroValue92
  t109 := Try.underlying133
  a109 := Try.isAgg133
  z109 := Try.sizeOf133
  v109 := Try.zeroValue133
  t127 := Try.underlying128
  a127 := Try.isAgg128
  z127 := Try.sizeOf128
  v127 := Try.zeroValue128
  t146 := Try.underlying175
  a146 := Try.isAgg175
  z146 := Try.sizeOf175
  v146 := Try.zeroValue175
  t148 := Try.underlying177
  a148 := Try.isAgg177
  z148 := Try.sizeOf177
  v148 := Try.zeroValue177
  t164 := Try.underlying172
  a164 := Try.isAgg172
  z164 := Try.sizeOf172
  v164 := Try.zeroValue172 }
theorem Try.Builder_Extra_105 : Builder.Extra Try.prog Try.lays105_ren := {
  sizeBuilder := by kernel_rfl
  liesBuilder := by kernel_rfl
  t5 := Try.underlying5
  a5 := Try.isAgg5
  z5 := Try.sizeOf5
  v5 := Try.zeroValue5
  infoByte := by kernel_rfl
  cellsByte := by kernel_rfl
  sizeByte := by kernel_rfl
  neB5 := by decide }
open Go.RowKit Go.Lib in
theorem Try.strings_Repeat (s : ByteArray) (c : Nat) (w : World) (hc : c ≤ 9223372036854775807) (hlen : s.size * c ≤ 140737488355328) :
    Calls Try.prog 64 #[.string s, .int .i64 c] w fun e w' => e = .returned (.string ⟨(Lib.repeatL s.data.toList c).toArray⟩) ∧ Below w.heap.size w w' := Any.strings_Repeat Try.lays105 Try.Builder_Extra_105 s c w hc hlen
end Go.Proofs

namespace Go.Proofs.Ytkhejelmjkpgfaa
open Go.RowKit
set_option maxRecDepth 4000

theorem repeat_nought (c : Nat) : Lib.repeatL [0] c = List.replicate c 0 := by
  induction c with
  | zero => rfl
  | succ c ih => rw [Lib.repeatL, ih, List.replicate_succ]; rfl

set_option maxHeartbeats 400000 in
theorem wide_any (n : Int) (w : World) (n0 : 0 ≤ n) (n1 : n ≤ 18446744073709551615) :
    Calls Try.prog 41 #[.int .u64 n] w fun e w' => e = .returned (.string ⟨(Nm.low 8 n.toNat).toArray⟩) ∧ Below w.heap.size w w' := by
  have hl := Nm.dig_length_le n.toNat
  obtain ⟨c, hc⟩ : ∃ c, c = 8 - (Nm.dig n.toNat).length := ⟨_, rfl⟩
  have hcI : 8 - ((Nm.dig n.toNat).length : Int) = (c : Int) := by omega
  obtain ⟨z, hz⟩ : ∃ z : List UInt8, z = List.replicate c 0 := ⟨_, rfl⟩
  have hcat : ∀ W : World, (Op.stringOp .add ⟨z.toArray⟩ ⟨(Nm.dig n.toNat).toArray⟩).run Try.prog W = .ok (.string ⟨(Nm.low 8 n.toNat).toArray⟩) W := fun W => by
    have := run_string_add_lists (P := Try.prog) W z (Nm.dig n.toNat) (by rw [hz]; simp; omega) (by omega)
    rw [show z ++ Nm.dig n.toNat = Nm.low 8 n.toNat from by rw [hz, hc]; exact Nm.low_pad n.toNat (by omega)] at this
    exact this
  have HZ : Hid (Lib.repeatL ({ data := #[0] } : ByteArray).data.toList c = z) := by show _ = z; rw [hz]; exact repeat_nought c
  clear hz
  have HC : Hid (c = 8 - (Nm.dig n.toNat).length) := hc
  have hc8 : c ≤ 8 := by omega
  clear hc
  go_enter Try.func41, Try.ntmps41
  go_wp2_with fail
  refine (digits_any 8 n _ n0 (by omega) (by omega)).mono ?_
  rintro e w1 ⟨rfl, hb⟩
  rw [show Nm.digF 8 n.toNat = Nm.dig n.toNat from rfl]
  go_wp2_with fail
  refine (Try.strings_Repeat _ c _ (by omega) (by simp [ByteArray.size]; omega)).mono ?_
  rintro e w2 ⟨rfl, hb2⟩
  rw [HZ.out]
  go_wp2_with fail
  go_ret
  exact ⟨rfl, hb.trans (hb2.mono hb.size)⟩

theorem wide_nat (N : Nat) (w : World) (h : N < 18446744073709551616) :
    Calls Try.prog 41 #[.int .u64 N] w fun e w' => e = .returned (.string ⟨(Nm.low 8 N).toArray⟩) ∧ Below w.heap.size w w' := by
  have := wide_any N w (by omega) (by omega)
  rwa [Int.toNat_natCast] at this
end Go.Proofs.Ytkhejelmjkpgfaa

namespace Go.Proofs.Ytkhejelmjkpgfaa
open Go.RowKit
set_option maxRecDepth 4000

theorem pow_lt_64 {w : Nat} (h : w < 64) : 2 ^ w < 18446744073709551616 :=
  Nat.lt_of_lt_of_le (Nat.pow_lt_pow_right (a := 2) (by omega) h) (by decide)

set_option maxHeartbeats 400000 in
/-- the closure that keeps the lowest bits -/
theorem cut_any (y : Nat) (W : Nat) (p : Addr) (w : World) (hp : w.cell? p = some (.int .i64 W)) (hW : W ≤ 64) (hy : y < 18446744073709551616) (ha : p.spot = none) :
    Calls Try.prog 65 #[.int .u64 y, .pointer (some p)] w fun e w' => e = .returned (.int .u64 (Mx.cut W y)) ∧ w' = w := by
  obtain ⟨b, o, q⟩ := p
  simp only at ha
  subst ha
  by_cases h64 : W = 64
  · have hq : ((W : Int) == 64) = true := by rw [beq_iff_eq]; omega
    have HC : Hid (y = Mx.cut W y) := by show _ = _; rw [h64, Mx.cut_64 hy]
    clear h64
    go_enter Try.func65, Try.ntmps65
    go_wp2
    go_ret
    exact ⟨ret_int (by rw [← HC.out]), rfl⟩
  · have hq : ((W : Int) == 64) = false := by rw [beq_eq_false_iff_ne]; omega
    have hpow := pow_lt_64 (w := W) (by omega)
    have hpos := Nat.two_pow_pos W
    have hw : IntKind.u64.wrap (2 ^ W) = ((2 ^ W : Nat) : Int) := by
      rw [show (2 : Int) ^ W = ((2 ^ W : Nat) : Int) from by simp, wrap_u64_mod, Nat.mod_eq_of_lt hpow]
    have hn : ¬ (IntKind.u64.wrap (2 ^ W) = 0) := by rw [hw]; omega
    have HC : Hid ((y : Int) % IntKind.u64.wrap (2 ^ W) = (Mx.cut W y : Nat)) := by
      show _ = _
      rw [hw, Mx.cut, Int.natCast_emod]
    clear h64 hpow hpos hw
    go_enter Try.func65, Try.ntmps65
    go_wp2
    go_ret
    exact ⟨ret_int HC.out, rfl⟩

theorem hi_wrap (l : List UInt8) (i d b : Nat) (hd : d < 8) (hb : b = Mx.byteAt l (8 * i + (7 - d))) :
    IntKind.u64.wrap (IntKind.u64.wrap (256 * (Mx.hi l i d : Int)) + IntKind.u64.wrap (b : Int)) = (Mx.hi l i (d + 1) : Nat) := by
  have h1 := Mx.hi_lt l i (d + 1)
  have h2 : 256 ^ (d + 1) ≤ 256 ^ 8 := Nat.pow_le_pow_right (by omega) (by omega)
  rw [Mx.hi] at *
  rw [← hb] at *
  have h3 : (256 : Nat) ^ 8 = 18446744073709551616 := by decide
  rw [wrap_u64 (256 * (Mx.hi l i d : Int)) (by omega) (by omega), wrap_u64 (b : Int) (by omega) (by omega), wrap_u64 _ (by omega) (by omega)]
  omega

def textSize : Value → Nat | .string t => t.size | _ => 0

set_option maxHeartbeats 400000 in
theorem rnarrow_any (W : Nat) (s : ByteArray) (w : World) (hW : W ≤ 64) (hs : s.size ≤ 140737488351232) :
    Calls Try.prog 42 #[.int .i64 W, .string s] w fun e w' => e = .returned (.int .u64 (Mx.narrow W s.data.toList)) ∧ Below w.heap.size w w' := by
  obtain ⟨c, hc⟩ : ∃ c, c = (8 - s.size % 8) % 8 := ⟨_, rfl⟩
  have hc1 : -((s.size : Int) % 8) % 8 = (c : Int) := by omega
  have hc2 : (8 - (s.size : Int) % 8) % 8 = (c : Int) := by omega
  obtain ⟨z, hz⟩ : ∃ z : List UInt8, z = List.replicate c 0 := ⟨_, rfl⟩
  obtain ⟨f, hf⟩ : ∃ f : ByteArray, f = ⟨(s.data.toList ++ z).toArray⟩ := ⟨_, rfl⟩
  have hzl : z.length = c := by rw [hz]; simp
  have hcat : ∀ V : World, (Op.stringOp .add s ⟨z.toArray⟩).run Try.prog V = .ok (.string f) V := fun V => by
    rw [hf]
    have := run_string_add_sum (P := Try.prog) (w := V) s ⟨z.toArray⟩ (by show s.size + z.toArray.size ≤ _; rw [List.size_toArray]; omega)
    rw [this, show s ++ (⟨z.toArray⟩ : ByteArray) = ⟨(s.data.toList ++ z).toArray⟩ from ByteArray.ext (by rw [ByteArray.data_append]; simp)]
  have hfl : f.data.toList = s.data.toList ++ z := by rw [hf]
  have hfs : f.size = s.size + c := by rw [Lib.size_eq, hfl, List.length_append, ← Lib.size_eq, hzl]
  have HZ : Hid (Lib.repeatL ({ data := #[0] } : ByteArray).data.toList c = z) := by show _ = z; rw [hz]; exact repeat_nought c
  have HB : Hid (∀ k, Mx.byteAt f.data.toList k = Mx.byteAt s.data.toList k) := fun k => by rw [hfl, hz, Mx.byteAt_pad]
  obtain ⟨n, hn⟩ : ∃ n, n = (s.size + 7) / 8 := ⟨_, rfl⟩
  have hfn : f.size = 8 * n := by omega
  have HN : Hid (Mx.narrow W s.data.toList = Mx.cut W (Mx.step (Mx.chain W s.data.toList n) s.size)) := by show _ = _; rw [Mx.narrow, hn, ← Lib.size_eq]
  have hc8 : c ≤ 7 := by omega
  clear hz hf hfl hn hzl hc
  go_enter Try.func42, Try.ntmps42
  go_wp2_with fail
  refine (Try.strings_Repeat _ c _ (by omega) (by simp [ByteArray.size]; omega)).mono ?_
  rintro e w2 ⟨rfl, hb2⟩
  rw [HZ.out]
  have hcell : w2.cell? ⟨w.heap.size, 0, none⟩ = some (.int .i64 W) := (hb2.cell (p := ⟨w.heap.size, 0, none⟩) (by simp)).trans (by simp)
  have HBel : Hid (Below w.heap.size w w2) := ((Below.refl _ w).alloc (Nat.le_refl _) _).trans (hb2.mono (by simp))
  clear hb2
  go_wp2_with fail
  clear HZ
  go_loop [5, 7] (fun x g => ∃ i : Nat, ∃ t : ByteArray, i ≤ n ∧ x = .int .u64 (Mx.chain W s.data.toList i) ∧ g = .string t ∧ t.data.toList = f.data.toList.drop (8 * i) ∧ t.size = 8 * (n - i)) (fun _ g => textSize g)
  case atStart => exact ⟨0, f, by omega, rfl, rfl, by simp, by omega⟩
  case round =>
    obtain ⟨i, t, hi, rfl, rfl, htl, hts⟩ := hrel
    have hlen : t.data.toList.length = 8 * (n - i) := by rw [← Lib.size_eq]; exact hts
    have hX := Mx.chain_lt W s.data.toList i
    by_cases hlt : i < n
    · have hq : t.toList.isEmpty = false := by
        rw [Lib.toList_data, List.isEmpty_eq_false_iff]; intro e; rw [e] at hlen; simp only [List.length_nil] at hlen; omega
      have HA : Hid (∀ k (h : k < t.size), t[k].toNat = Mx.byteAt s.data.toList (8 * i + k)) := fun k h => by
        rw [← HB.out, ← Mx.byteAt_drop, ← htl, Mx.byteAt, List.getD_eq_getElem?_getD, List.getElem?_eq_getElem (by omega)]
        rfl
      clear hlen
      go_wp2_with fail
      go_loop [8, 9] (fun b j => ∃ c : Nat, c ≤ 8 ∧ j = .int .i64 (7 - (c : Int)) ∧ b = .int .u64 (Mx.hi s.data.toList i c)) (fun _ j => (intOf j + 1).toNat)
      case atStart => exact ⟨0, by omega, rfl, rfl⟩
      case round =>
        obtain ⟨d, hd, rfl, rfl⟩ := hrel
        have hh := Mx.hi_lt s.data.toList i d
        by_cases hd8 : d < 8
        · clear hh hc1 hc2
          go_wp2_with fail
          go_round
          case rel => exact ⟨d + 1, by omega, by go_num, int_eq (hi_wrap _ _ _ _ hd8 (HA.out (7 - d) (by omega)))⟩
          case measure => simp only [intOf]; omega
        · obtain rfl : d = 8 := by omega
          clear hc1 hc2 hd hd8
          go_wp2_with fail
          refine (rstep_any _ _ _ (by omega) (by omega) (by omega) (by omega)).mono ?_
          rintro e w3 ⟨rfl, rfl⟩
          rw [Int.toNat_natCast, Int.toNat_natCast]
          go_wp2_with fail
          refine (cut_any _ W _ _ hcell hW (Mx.step_lt _ _) rfl).mono ?_
          rintro e w3 ⟨rfl, rfl⟩
          go_wp2_with fail
          go_round
          case rel =>
            refine ⟨i + 1, _, by omega, rfl, rfl, ?_, ?_⟩
            · rw [Lib.extract_data, htl, List.drop_drop, List.take_of_length_le (by rw [List.length_drop, ← Lib.size_eq]; omega)]
              rfl
            · rw [ByteArray.size_extract]; omega
          case measure => simp only [textSize, ByteArray.size_extract]; omega
    · have hq : t.toList.isEmpty = true := by
        rw [Lib.toList_data, List.isEmpty_iff_length_eq_zero]; omega
      clear hlen
      go_wp2_with fail
      refine (rstep_any _ _ _ (by omega) (by omega) (by omega) (by omega)).mono ?_
      rintro e w3 ⟨rfl, rfl⟩
      rw [Int.toNat_natCast, Int.toNat_natCast]
      go_wp2_with fail
      refine (cut_any _ W _ _ hcell hW (Mx.step_lt _ _) rfl).mono ?_
      rintro e w3 ⟨rfl, rfl⟩
      go_wp2_with fail
      go_ret
      refine ⟨?_, HBel.out⟩
      rw [HN.out, show n = i from by omega]
      rfl
end Go.Proofs.Ytkhejelmjkpgfaa

namespace Go.Proofs.Ytkhejelmjkpgfaa
open Go.RowKit
set_option maxRecDepth 4000

theorem or_hi (a b : Nat) (hb : b < 256) : 256 * a ||| b = 256 * a + b := by
  have h := Nat.two_pow_add_eq_or_of_lt (i := 8) (b := b) (by simpa using hb) a
  simpa using h.symm
theorem hi_or (l : List UInt8) (i c b : Nat) (hc : c < 8) (hb : b = Mx.byteAt l (8 * i + (7 - c))) :
    bits .or .u64 (IntKind.u64.wrap ((Mx.hi l i c : Int) * 256)) (IntKind.u64.wrap (b : Int)) = (Mx.hi l i (c + 1) : Nat) := by
  have h1 := Mx.hi_lt l i (c + 1)
  have h2 : 256 ^ (c + 1) ≤ 256 ^ 8 := Nat.pow_le_pow_right (by omega) (by omega)
  have h3 : (256 : Nat) ^ 8 = 18446744073709551616 := by decide
  have h4 := Mx.byteAt_lt l (8 * i + (7 - c))
  rw [Mx.hi] at *
  rw [← hb] at *
  rw [show (Mx.hi l i c : Int) * 256 = ((256 * Mx.hi l i c : Nat) : Int) from by omega, wrap_u64 _ (by omega) (by omega), wrap_u64 _ (by omega) (by omega), u64_or_nat _ _ (by omega) (by omega), or_hi _ _ (by omega)]
theorem hi_past (l : List UInt8) : ∀ c, c + l.length ≤ 8 → Mx.hi l 0 c = 0
  | 0, _ => rfl
  | c + 1, h => by rw [Mx.hi, hi_past l c (by omega), Mx.byteAt_past (by omega)]
theorem mx_byte_get (t : ByteArray) (k : Nat) (h : k < t.size) : t[k].toNat = Mx.byteAt t.data.toList k := by
  rw [Mx.byteAt, List.getD_eq_getElem?_getD, List.getElem?_eq_getElem (by simpa using h)]
  rfl

set_option maxHeartbeats 400000 in
theorem mx_read_any (t : ByteArray) (w : World) (ht : t.size ≤ 8) :
    Calls Try.prog 93 #[.string t] w fun e w' => e = .returned (.int .u64 (Mx.blk t.data.toList 0 : Nat)) ∧ w' = w := by
  have hl : t.data.toList.length = t.size := by rw [← Lib.size_eq]
  have H0 : Hid (Mx.hi t.data.toList 0 (8 - t.size) = 0) := hi_past _ _ (by omega)
  have HB : Hid (∀ k (h : k < t.size), t[k].toNat = Mx.byteAt t.data.toList k) := mx_byte_get t
  clear hl
  go_enter Try.func93, Try.ntmps93
  go_wp2
  go_loop [3, 4] (fun b i => ∃ d : Nat, d ≤ t.size ∧ i = .int .i64 ((t.size : Int) - 1 - (d : Int)) ∧ b = .int .u64 (Mx.hi t.data.toList 0 (8 - t.size + d) : Nat)) (fun _ i => (intOf i + 1).toNat)
  case atStart => exact ⟨0, by omega, int_eq (by omega), by rw [Nat.add_zero, H0.out]; rfl⟩
  case round =>
    obtain ⟨d, hd, rfl, rfl⟩ := hrel
    by_cases hlt : d < t.size
    · obtain ⟨k, hk⟩ : ∃ k, k = t.size - 1 - d := ⟨_, rfl⟩
      have hkI : (t.size : Int) - 1 - (d : Int) = (k : Int) := by omega
      have hkl : k < t.size := by omega
      have HO : Hid (bits .or .u64 (IntKind.u64.wrap ((Mx.hi t.data.toList 0 (8 - t.size + d) : Int) * 256)) (IntKind.u64.wrap (t[k].toNat : Int)) = (Mx.hi t.data.toList 0 (8 - t.size + d + 1) : Nat)) :=
        hi_or _ 0 _ _ (by omega) (by rw [HB.out k hkl, show 8 * 0 + (7 - (8 - t.size + d)) = k from by omega])
      go_wp2
      go_round
      case rel => subst hk; exact ⟨d + 1, by omega, int_eq (by omega), int_eq HO.out⟩
      case measure => simp only [intOf]; omega
    · obtain rfl : d = t.size := by omega
      go_wp2
      go_ret
      exact ⟨rfl, rfl⟩

theorem blk_of {l l' : List UInt8} {i i' : Nat} (h : ∀ j, j < 8 → Mx.byteAt l (8 * i + j) = Mx.byteAt l' (8 * i' + j)) : Mx.blk l i = Mx.blk l' i' := by
  have key : ∀ c, c ≤ 8 → Mx.hi l i c = Mx.hi l' i' c := by
    intro c
    induction c with
    | zero => intro _; rfl
    | succ c ih => intro hc; rw [Mx.hi, Mx.hi, ih (by omega), h (7 - c) (by omega)]
  exact key 8 (Nat.le_refl _)
theorem blk_extract (s : ByteArray) (i e : Nat) (he : e = min (8 * i + 8) s.size) : Mx.blk (s.extract (8 * i) e).data.toList 0 = Mx.blk s.data.toList i := by
  apply blk_of
  intro j hj
  have hl : s.data.toList.length = s.size := by rw [← Lib.size_eq]
  rw [Lib.extract_data, Nat.mul_zero, Nat.zero_add]
  unfold Mx.byteAt
  rw [List.getD_eq_getElem?_getD, List.getD_eq_getElem?_getD]
  by_cases h : 8 * i + j < s.size
  · rw [List.getElem?_take_of_lt (by omega), List.getElem?_drop]
  · rw [List.getElem?_eq_none (l := s.data.toList) (by omega), List.getElem?_eq_none (by rw [List.length_take]; omega)]
theorem kept_nat (W : Nat) (hW : W ≤ 64) : (18446744073709551615 : Int) / 2 ^ (64 - W) = ((2 ^ W - 1 : Nat) : Int) := by
  have h : (18446744073709551616 : Nat) = 2 ^ W * 2 ^ (64 - W) := by rw [← Nat.pow_add, show W + (64 - W) = 64 from by omega]
  have hp := Nat.two_pow_pos (64 - W)
  have hq := Nat.two_pow_pos W
  rw [show (2 : Int) ^ (64 - W) = ((2 ^ (64 - W) : Nat) : Int) from by simp, show (18446744073709551615 : Int) = ((18446744073709551615 : Nat) : Int) from rfl, ← Int.natCast_ediv]
  congr 1
  generalize 2 ^ (64 - W) = p at *
  generalize 2 ^ W = q at *
  apply Nat.div_eq_of_lt_le
  · rw [Nat.sub_mul, ← h, Nat.one_mul]; omega
  · rw [show q - 1 + 1 = q from by omega, ← h]; omega
theorem and_cut (W y : Nat) (hW : W ≤ 64) (hy : y < 18446744073709551616) : bits .and .u64 (y : Int) ((2 ^ W - 1 : Nat) : Int) = (Mx.cut W y : Nat) := by
  have hq : 2 ^ W ≤ 2 ^ 64 := Nat.pow_le_pow_right (by omega) hW
  have h64 : (2 : Nat) ^ 64 = 18446744073709551616 := by decide
  have hp := Nat.two_pow_pos W
  rw [u64_and_nat _ _ hy (by omega), Nat.and_two_pow_sub_one_eq_mod, Mx.cut]

set_option maxHeartbeats 1000000 in
theorem digest_any (W : Nat) (s : ByteArray) (w : World) (h1 : 1 ≤ W) (hW : W ≤ 64) (hs : s.size ≤ 140737488351232) :
    Calls Try.prog 63 #[.string s, .int .i64 W] w fun e w' => e = .returned (.int .u64 (Mx.narrow W s.data.toList : Nat)) ∧ Below w.heap.size w w' := by
  obtain ⟨n, hn⟩ : ∃ n, n = (s.size + 7) / 8 := ⟨_, rfl⟩
  have HN : Hid (Mx.narrow W s.data.toList = Mx.cut W (Mx.step (Mx.chain W s.data.toList n) s.size)) := by show _ = _; rw [Mx.narrow, hn, ← Lib.size_eq]
  have hk := kept_nat W hW
  have HAC : Hid (∀ y : Nat, y < 18446744073709551616 → bits .and .u64 (y : Int) ((2 ^ W - 1 : Nat) : Int) = (Mx.cut W y : Nat)) := fun y hy => and_cut W y hW hy
  generalize hK : 2 ^ W - 1 = K at *
  clear hK
  go_enter Try.func63, Try.ntmps63
  go_wp2_with fail
  go_loopw [6, 7] (fun x a wr => ∃ i : Nat, i ≤ n ∧ a = .int .i64 (8 * (i : Int)) ∧ x = .int .u64 (Mx.chain W s.data.toList i : Nat) ∧ Below w.heap.size w wr) (fun _ a _ => 8 * n - (intOf a).toNat)
  case atStart => exact ⟨0, by omega, rfl, rfl, Below.refl _ _⟩
  case round =>
    obtain ⟨i, hi, rfl, rfl, hbel⟩ := hrel
    have hX := Mx.chain_lt W s.data.toList i
    by_cases hlt : i < n
    · have hlI : 8 * (i : Int) < (s.size : Int) := by omega
      have hex : (s.extract (8 * i) (min (8 * (i : Int) + 8) (s.size : Int)).toNat).size ≤ 8 := by rw [ByteArray.size_extract]; omega
      have hbk := blk_extract s i (min (8 * (i : Int) + 8) (s.size : Int)).toNat (by omega)
      have hbl := Mx.blk_lt s.data.toList i
      have hac := HAC.out _ (Mx.step_lt (Mx.chain W s.data.toList i) (Mx.blk s.data.toList i))
      rw [← Mx.chain] at hac
      go_wp2_with fail
      refine (mx_read_any _ _ hex).mono ?_
      rintro e w1 ⟨rfl, rfl⟩
      rw [hbk]
      go_wp2_with fail
      refine (step_any _ _ _ hX hbl).mono ?_
      rintro e w2 ⟨rfl, hb2⟩
      have hB2 := hbel.trans (hb2.mono hbel.size)
      clear hb2 hbel
      go_wp2_with fail
      go_round
      case rel => exact ⟨i + 1, by omega, int_eq (by omega), rfl, hB2⟩
      case measure => simp only [intOf]; omega
    · have hac := HAC.out _ (Mx.step_lt (Mx.chain W s.data.toList i) s.size)
      rw [← show Mx.narrow W s.data.toList = Mx.cut W (Mx.step (Mx.chain W s.data.toList i) s.size) from by rw [HN.out, show n = i from by omega]] at hac
      have h8 : (s.size : Int) ≤ 8 * (i : Int) := by omega
      clear hn hlt hi
      have hsl : s.size < 18446744073709551616 := by omega
      go_wp2_with fail
      refine (step_any (Mx.chain W s.data.toList i) s.size wr hX hsl).mono ?_
      rintro e w2 ⟨rfl, hb2⟩
      have hB2 := hbel.trans (hb2.mono hbel.size)
      clear hb2 hbel
      go_wp2_with fail
      go_ret
      exact ⟨rfl, hB2⟩

set_option maxHeartbeats 400000 in
theorem sum_any (s : ByteArray) (w : World) (hs : s.size ≤ 140737488351232) :
    Calls Try.prog 40 #[.string s] w fun e w' => e = .returned (.int .u64 (Mx.narrow 64 s.data.toList : Nat)) ∧ Below w.heap.size w w' := by
  go_enter Try.func40, Try.ntmps40
  go_wp2_with fail
  refine (digest_any 64 s _ (by omega) (by omega) hs).mono ?_
  rintro e w2 ⟨rfl, hb2⟩
  go_wp2_with fail
  go_ret
  exact ⟨rfl, hb2⟩
end Go.Proofs.Ytkhejelmjkpgfaa
