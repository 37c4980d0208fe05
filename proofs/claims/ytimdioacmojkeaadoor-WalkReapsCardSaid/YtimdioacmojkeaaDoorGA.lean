/-
  Plain facts on digits by 256 (no Go in here): 'dig' the digits of a number, 'val' the number of digits, 'low' the lowest k digits.
  Small facts about bytes, owned rows and strings, over this program.
  What stays: every block of which something holds.
  Rows of things of k cells each as they lie in memory; an ID.
  Plain facts (no Go in here): what was put is got, whatever stands behind.
  Plain facts (no Go in here) on the digest's step: it can be undone.
  Plain facts (no Go in here): the digest of a text, block by block.
  Plain facts (no Go in here): the steps of a text, and: two unlike texts of one narrow sum have unlike steps that end alike.
  Plain facts (no Go in here): texts of one length that are unlike within one block only have unlike sums.
  P27 to P30 (no Go in it): blobs, what a pack of them is, what is read of whatever bytes, and that what is packed is read as it was.
  P28 to P30 (no Go in it): what is packed is listed, found and split as it was; a changed byte is told; what is told has its digest.
  Rows of blobs and of a pack's list as they lie in memory.
  Rows of things of k cells each, and an ID, handed in and read as data: opened, and shut.
  Blobs, and a row of a pack's list, handed in and read as data: opened, and shut.
  A map whose keys are IDs: what is there, what is not.
  P36 (no Go in it): the characters of a text, and when it is a name.
  P37 to P39 (no Go in it): names and their path, what is clean, what comes ahead of what.
  P39 (no Go in it): paths have an order, in which all that is in a directory comes at once behind it.
  P46 to P48 (no Go in it): things with paths, in the order of paths, each in a directory that is there: to go down directory by directory tells them all, in that order.
  P46 (no Go in it): worlds, and what is wrong with them; a right world is a tree.
  Plain facts (no Go in here): what was got is put as just those bytes.
  P43 to P45 (no Go in it): nodes of a directory, their text, and what is read back.
  P47, P48 (no Go in it): how a world is planted, and how it is reaped; what was planted is reaped as it was.
  A map of blobs by their IDs: what put leaves, whatever was there.
  What product and Step of the document's answer (package lumref) answer.
  What Step and Undo of package mix answer.
  What digits of the document's answer (package lumref) answers.
  The library's contracts at this program: strings_Repeat (laid by the guide's own tools, written out in plain words).
  What wide of the document's answer (package lumref) answers: the eight digits of a number.
  What Narrow of the document's answer (package lumref) answers.
  What readBlock, digest, Sum and Narrow of package mix answer.
  The bytes of '[]byte(s)'.
  What ID of the document's answer (package lumref) answers.
  What ID of package mix answers.
  When two IDs are equal.
  When two blobs, two rows of a pack's list, two IDs are equal.
  Rows of one's own that stay while what is made later comes and goes.
  What isKind, ID and alike of package pack answer, and what the document's answer (package lumref) says of them.
-/
import Derived.WalkKit
import Derived.Laws.BitsAllLaws
import Derived.Lib.Strings
import Derived.Test.YtimdioacmojkeaaDoorProg
import Derived.WalkSpells
import Derived.WalkLawsBesides
import Derived.Below
import Derived.OpenShut
import Derived.DataShut
import Derived.WideShapes
import Derived.Deep.Strs
import Derived.Lib.SmallJoins
import Derived.Deep.Slices
import Derived.SizedLaws
import Derived.WideKeyArr2
import Derived.DeepKeys4
import Derived.Maps.OwnSet
import Derived.Lib.DecodeN
import Derived.Lib.TrimUEq
import Derived.Lib.MapLaws
import Derived.WalkSmall
import Derived.Deep.RegionWith
import Derived.Deep.QuietTactic
import Derived.BigQuiet
import Derived.Shelf.Strings.Repeat
import Derived.Laws.IdiomStrings
import Derived.Laws.Cover3
import Derived.Stop.BytesEq
import Derived.Laws.StructEq
import Derived.OwnWalk

namespace Go.Proofs.YtimdioacmojkeaaDoor
namespace Nm

def digF : Nat → Nat → List UInt8
  | 0, _ => []
  | f + 1, n => if n = 0 then [] else digF f (n / 256) ++ [UInt8.ofNat (n % 256)]
def dig (n : Nat) : List UInt8 := digF 8 n
def val (l : List UInt8) : Nat := l.foldl (fun a b => 256 * a + b.toNat) 0
def low : Nat → Nat → List UInt8
  | 0, _ => []
  | k + 1, n => UInt8.ofNat (n / 256 ^ k % 256) :: low k n
/-- each byte turned -/
def tn (t : Nat) (l : List UInt8) : List UInt8 := l.map (fun b => b ^^^ UInt8.ofNat t)

theorem val_nil : val [] = 0 := rfl
theorem val_snoc (l : List UInt8) (b : UInt8) : val (l ++ [b]) = 256 * val l + b.toNat := by simp [val, List.foldl_append]
theorem val_from (l : List UInt8) : ∀ a, l.foldl (fun a b => 256 * a + b.toNat) a = a * 256 ^ l.length + val l := by
  induction l with
  | nil => intro a; simp [val]
  | cons b l ih =>
    intro a
    have h := ih (256 * 0 + b.toNat)
    show List.foldl (fun a b => 256 * a + b.toNat) (256 * a + b.toNat) l = a * 256 ^ (l.length + 1) + List.foldl (fun a b => 256 * a + b.toNat) (256 * 0 + b.toNat) l
    rw [ih, h, Nat.pow_succ, Nat.add_mul, Nat.mul_zero, Nat.zero_add]
    rw [show 256 * a * 256 ^ l.length = a * (256 ^ l.length * 256) from by rw [Nat.mul_comm 256 a, Nat.mul_assoc, Nat.mul_comm 256]]
    omega
theorem val_cons (b : UInt8) (l : List UInt8) : val (b :: l) = b.toNat * 256 ^ l.length + val l := by
  have h := val_from l (256 * 0 + b.toNat)
  simp only [val, List.foldl_cons] at h ⊢
  rw [h]; simp
theorem val_lt (l : List UInt8) : val l < 256 ^ l.length := by
  induction l with
  | nil => simp [val]
  | cons b l ih =>
    rw [val_cons, List.length_cons, Nat.pow_succ]
    have hb := b.toNat_lt
    have : b.toNat * 256 ^ l.length ≤ 255 * 256 ^ l.length := Nat.mul_le_mul_right _ (by omega)
    omega
theorem tn_length (t : Nat) (l : List UInt8) : (tn t l).length = l.length := by simp [tn]
theorem tn_zero (l : List UInt8) : tn 0 l = l := by simp [tn]
theorem tn_append (t : Nat) (l m : List UInt8) : tn t (l ++ m) = tn t l ++ tn t m := by simp [tn]
theorem tn_tn (t : Nat) (l : List UInt8) : tn t (tn t l) = l := by
  simp only [tn, List.map_map]
  have : (fun b : UInt8 => b ^^^ UInt8.ofNat t) ∘ (fun b => b ^^^ UInt8.ofNat t) = id := by
    funext b; simp [UInt8.xor_assoc]
  rw [this, List.map_id]
theorem low_length (k n : Nat) : (low k n).length = k := by
  induction k with
  | zero => rfl
  | succ k ih => simp [low, ih]
theorem low_mod (k n m : Nat) (h : k ≤ m) : low k (n % 256 ^ m) = low k n := by
  induction k with
  | zero => rfl
  | succ k ih =>
    rw [low, low, ih (by omega)]
    congr 2
    obtain ⟨d, rfl⟩ : ∃ d, m = (k + 1) + d := ⟨m - (k + 1), by omega⟩
    rw [← Nat.mod_mul_right_div_self, ← Nat.mod_mul_right_div_self (m := n)]
    rw [← Nat.pow_succ, Nat.mod_mod_of_dvd]
    exact Nat.pow_dvd_pow 256 (by omega)
theorem val_low (k n : Nat) : val (low k n) = n % 256 ^ k := by
  induction k with
  | zero => simp [low, val, Nat.mod_one]
  | succ k ih =>
    rw [low, val_cons, low_length, ih, Nat.pow_succ]
    have : (UInt8.ofNat (n / 256 ^ k % 256)).toNat = n / 256 ^ k % 256 := by
      rw [UInt8.toNat_ofNat']; omega
    rw [this, Nat.mod_mul, Nat.mul_comm]
    omega
theorem low_val (l : List UInt8) : low l.length (val l) = l := by
  induction l with
  | nil => rfl
  | cons b l ih =>
    have hl := val_lt l
    have hp : 0 < 256 ^ l.length := Nat.pow_pos (by omega)
    rw [val_cons, List.length_cons, low]
    have e1 : (b.toNat * 256 ^ l.length + val l) / 256 ^ l.length = b.toNat := by
      rw [Nat.add_comm, Nat.add_mul_div_right _ _ hp, Nat.div_eq_of_lt hl]; omega
    have e2 : low l.length (b.toNat * 256 ^ l.length + val l) = l := by
      rw [← low_mod _ _ l.length (Nat.le_refl _), Nat.mul_add_mod_self_right, Nat.mod_eq_of_lt hl, ih]
    rw [e1, e2]
    have hb := b.toNat_lt
    rw [Nat.mod_eq_of_lt (by omega)]
    simp
theorem low_snoc (k n : Nat) : low (k + 1) n = low k (n / 256) ++ [UInt8.ofNat (n % 256)] := by
  induction k with
  | zero => simp [low]
  | succ k ih =>
    rw [low, ih, low, List.cons_append]
    congr 2
    rw [Nat.div_div_eq_div_mul, Nat.pow_succ, Nat.mul_comm]
theorem digF_length_le (f n : Nat) : (digF f n).length ≤ f := by
  induction f generalizing n with
  | zero => simp [digF]
  | succ f ih =>
    rw [digF]; split
    · simp
    · have := ih (n / 256); simp; omega
theorem digF_low (f n : Nat) : digF f n = low (digF f n).length n := by
  induction f generalizing n with
  | zero => rfl
  | succ f ih =>
    rw [digF]; split
    · rfl
    · rw [List.length_append, List.length_singleton, low_snoc, ← ih]
theorem dig_length_le (n : Nat) : (dig n).length ≤ 8 := digF_length_le 8 n
theorem dig_low (n : Nat) : low (dig n).length n = dig n := (digF_low 8 n).symm
theorem digF_lt (f n : Nat) (h : n < 256 ^ f) : n < 256 ^ (digF f n).length := by
  induction f generalizing n with
  | zero => simpa [digF] using h
  | succ f ih =>
    rw [digF]; split
    · subst_vars; simp
    · rw [List.length_append, List.length_singleton, Nat.pow_succ]
      have := ih (n / 256) (by rw [Nat.pow_succ] at h; omega)
      omega
theorem dig_lt (n : Nat) (h : n < 256 ^ 8) : n < 256 ^ (dig n).length := digF_lt 8 n h
theorem val_dig (n : Nat) (h : n < 256 ^ 8) : val (dig n) = n := by
  rw [← dig_low, val_low, Nat.mod_eq_of_lt (dig_lt n h)]
/-- there are no noughts ahead -/
theorem digF_ge (f n : Nat) (hn : n ≠ 0) (hf : f ≠ 0) : 256 ^ ((digF f n).length - 1) ≤ n ∧ (digF f n).length ≠ 0 := by
  induction f generalizing n with
  | zero => exact absurd rfl hf
  | succ f ih =>
    rw [digF, if_neg hn, List.length_append, List.length_singleton, Nat.add_sub_cancel]
    refine ⟨?_, by omega⟩
    by_cases hf0 : f = 0
    · subst hf0; simp [digF]; omega
    · by_cases h0 : n / 256 = 0
      · rw [h0]
        have : digF f 0 = [] := by cases f <;> simp [digF]
        rw [this]; simp; omega
      · have ⟨h1, h2⟩ := ih (n / 256) h0 hf0
        obtain ⟨m, hm⟩ : ∃ m, (digF f (n / 256)).length = m + 1 := ⟨_, (Nat.succ_pred_eq_of_ne_zero h2).symm⟩
        rw [hm, Nat.add_sub_cancel] at h1
        rw [hm, Nat.pow_succ]; omega
theorem dig_ge (n : Nat) (hn : n ≠ 0) : 256 ^ ((dig n).length - 1) ≤ n ∧ (dig n).length ≠ 0 := digF_ge 8 n hn (by omega)
theorem dig_zero : dig 0 = [] := rfl
/-- k digits without a nought ahead are the digits of their number -/
theorem dig_unique (k n : Nat) (h8 : k ≤ 8) (h1 : n < 256 ^ k) (h2 : k = 0 ∨ 256 ^ (k - 1) ≤ n) : (dig n).length = k := by
  by_cases hn : n = 0
  · subst hn
    rcases h2 with rfl | h2
    · rfl
    · have : 0 < 256 ^ (k - 1) := Nat.pow_pos (by omega)
      omega
  · have ⟨g1, g2⟩ := dig_ge n hn
    have g3 := dig_lt n (Nat.lt_of_lt_of_le h1 (Nat.pow_le_pow_right (by omega) h8))
    have a1 : (dig n).length - 1 < k := (Nat.pow_lt_pow_iff_right (a := 256) (by omega)).1 (Nat.lt_of_le_of_lt g1 h1)
    rcases h2 with rfl | h2
    · simp at h1; omega
    · have a2 : k - 1 < (dig n).length := (Nat.pow_lt_pow_iff_right (a := 256) (by omega)).1 (Nat.lt_of_le_of_lt h2 g3)
      omega
theorem dig_val (l : List UInt8) (h8 : l.length ≤ 8) (h : l = [] ∨ l.headD 0 ≠ 0) : dig (val l) = l := by
  have hk : (dig (val l)).length = l.length := by
    refine dig_unique _ _ h8 (val_lt l) ?_
    rcases h with rfl | h
    · exact .inl rfl
    · cases l with
      | nil => exact .inl rfl
      | cons b l =>
        right
        simp at h
        have hb : b.toNat ≠ 0 := by
          intro e; exact h (UInt8.toNat_inj.1 (by simpa using e))
        rw [val_cons, List.length_cons, Nat.add_sub_cancel]
        have : 1 * 256 ^ l.length ≤ b.toNat * 256 ^ l.length := Nat.mul_le_mul_right _ (by omega)
        omega
  rw [← dig_low, hk, low_val]
theorem dig_head (n : Nat) (hn : n ≠ 0) (h : n < 256 ^ 8) : (dig n).headD 0 ≠ 0 := by
  have ⟨g1, g2⟩ := dig_ge n hn
  intro e
  cases hd : dig n with
  | nil => simp [hd] at g2
  | cons b l =>
    rw [hd] at e g1
    simp at e g1
    have hv := val_dig n h
    rw [hd, val_cons, e] at hv
    have := val_lt l
    simp at hv
    omega
def put (n : Nat) : List UInt8 := UInt8.ofNat (dig n).length :: dig n
theorem put_length (n : Nat) : (put n).length ≤ 9 := by have := dig_length_le n; simp [put]; omega
/-- what k digits at the front say: the number, and what is wrong -/
def readN (l : List UInt8) (k t : Nat) : Nat × Int :=
  if 8 < k then (0, 4) else if l.length < k then (0, 3) else if 0 < k ∧ l.headD 0 ^^^ UInt8.ofNat t = 0 then (0, 4) else (val (tn t (l.take k)), 0)
/-- what Get says: the number, how many bytes, what is wrong -/
def getN (l : List UInt8) : Nat × Nat × Int :=
  if l = [] then (0, 0, 3) else
    let r := readN l.tail (l.headD 0).toNat 0
    if r.2 = 0 then (r.1, 1 + (l.headD 0).toNat, 0) else (0, 0, r.2)
def putI (n : Int) : List UInt8 :=
  if n < 0 then UInt8.ofNat (127 - (dig (-1 - n).toNat).length) :: tn 255 (dig (-1 - n).toNat) else UInt8.ofNat (128 + (dig n.toNat).length) :: dig n.toNat
/-- what GetInt says -/
def getI (l : List UInt8) : Int × Nat × Int :=
  if l = [] then (0, 0, 3) else
    if 128 ≤ (l.headD 0).toNat then
      let r := readN l.tail ((l.headD 0).toNat - 128) 0
      if r.2 = 0 then if 9223372036854775807 < r.1 then (0, 0, 4) else ((r.1 : Int), 1 + ((l.headD 0).toNat - 128), 0) else (0, 0, r.2)
    else
      let r := readN l.tail (127 - (l.headD 0).toNat) 255
      if r.2 = 0 then if 9223372036854775807 < r.1 then (0, 0, 4) else (-1 - (r.1 : Int), 1 + (127 - (l.headD 0).toNat), 0) else (0, 0, r.2)
theorem low_add (j k n : Nat) : low (j + k) n = low j (n / 256 ^ k) ++ low k n := by
  induction j with
  | zero => simp [low]
  | succ j ih =>
    rw [show j + 1 + k = (j + k) + 1 from by omega, low, ih, low, List.cons_append, Nat.div_div_eq_div_mul, ← Nat.pow_add, Nat.add_comm k j]
theorem low_nought (j : Nat) : low j 0 = List.replicate j 0 := by
  induction j with
  | zero => rfl
  | succ j ih => rw [low, ih, List.replicate_succ]; simp
/-- noughts ahead of the digits -/
theorem low_pad (n : Nat) (h : n < 256 ^ 8) : List.replicate (8 - (dig n).length) 0 ++ dig n = low 8 n := by
  have hl := dig_length_le n
  have h1 := low_add (8 - (dig n).length) (dig n).length n
  rw [show 8 - (dig n).length + (dig n).length = 8 from by omega, Nat.div_eq_of_lt (dig_lt n h), low_nought, dig_low] at h1
  exact h1.symm
theorem not_byte (b : UInt8) : (b ^^^ UInt8.ofNat 255).toNat = 255 - b.toNat := by
  have key : ∀ n : Fin 256, ((UInt8.ofNat n.val) ^^^ UInt8.ofNat 255).toNat = 255 - n.val := by decide +kernel
  have := key ⟨b.toNat, b.toNat_lt⟩
  simpa using this
theorem val_not (l : List UInt8) : val (tn 255 l) + val l + 1 = 256 ^ l.length := by
  induction l with
  | nil => simp [tn, val]
  | cons b l ih =>
    rw [show tn 255 (b :: l) = (b ^^^ UInt8.ofNat 255) :: tn 255 l from rfl, val_cons, val_cons, tn_length, not_byte, List.length_cons, Nat.pow_succ]
    have hb := b.toNat_lt
    generalize 256 ^ l.length = P at *
    generalize b.toNat = x at *
    have : (255 - x) * P + x * P = 255 * P := by rw [← Nat.add_mul]; congr 1; omega
    omega
theorem low_not (b : Nat) (h : b < 18446744073709551616) : tn 255 (low 8 b) = low 8 (18446744073709551615 - b) := by
  have h1 := val_not (low 8 b)
  rw [val_low, low_length, Nat.mod_eq_of_lt (by omega)] at h1
  have h2 := low_val (tn 255 (low 8 b))
  rw [tn_length, low_length] at h2
  rw [← h2]
  congr 1
  omega
/-- are the bits a NaN's -/
def nanB (b : Nat) : Bool := decide (9218868437227405312 < b % 9223372036854775808)
/-- the bits, one NaN for all -/
def oneNaN (b : Nat) : Nat := if nanB b then 9221120237041090561 else b
/-- the bits turned so that they keep their order -/
def flip (b : Nat) : Nat := if b < 9223372036854775808 then b + 9223372036854775808 else 18446744073709551615 - b
def putF (b : Nat) : List UInt8 := low 8 (flip (oneNaN b))
/-- and back -/
def unflip (n : Nat) : Nat := if n < 9223372036854775808 then 18446744073709551615 - n else n - 9223372036854775808
/-- what GetFloat says: the bits, how many bytes, what is wrong -/
def getF (l : List UInt8) : Nat × Nat × Int :=
  if l.length < 8 then (0, 0, 3) else
    if nanB (unflip (val (l.take 8))) = true ∧ unflip (val (l.take 8)) ≠ 9221120237041090561 then (0, 0, 4) else (unflip (val (l.take 8)), 8, 0)
/-- a text's bytes, behind each 0 a 255 -/
def esc : List UInt8 → List UInt8
  | [] => []
  | b :: l => (if b = 0 then [0, 255] else [b]) ++ esc l
theorem esc_append (l m : List UInt8) : esc (l ++ m) = esc l ++ esc m := by
  induction l with
  | nil => rfl
  | cons b l ih => rw [List.cons_append, esc, esc, ih, List.append_assoc]
theorem esc_length (l : List UInt8) : (esc l).length ≤ 2 * l.length := by
  induction l with
  | nil => simp [esc]
  | cons b l ih => rw [esc, List.length_append, List.length_cons]; split <;> simp <;> omega
theorem esc_zero (l : List UInt8) : esc (l ++ [0]) = esc l ++ [0] ++ [255] := by rw [esc_append]; simp [esc]
theorem esc_other (l : List UInt8) (b : UInt8) (h : b ≠ 0) : esc (l ++ [b]) = esc l ++ [b] := by rw [esc_append]; simp [esc, h]
def putT (l : List UInt8) : List UInt8 := esc l ++ [0, 0]
/-- what GetText says of the bytes l, when acc was read and p bytes lie ahead: the text, how many bytes, what is wrong -/
def scanT : List UInt8 → List UInt8 → Nat → List UInt8 × Nat × Int
  | [], _, _ => ([], 0, 3)
  | [b], acc, _ => if b = 0 then ([], 0, 3) else if acc.length = 1024 then ([], 0, 2) else ([], 0, 3)
  | b :: d :: r, acc, p =>
    if b = 0 then
      if d = 0 then (acc, p + 2, 0) else if d = 255 then (if acc.length = 1024 then ([], 0, 2) else scanT r (acc ++ [0]) (p + 2)) else ([], 0, 4)
    else if acc.length = 1024 then ([], 0, 2) else scanT (d :: r) (acc ++ [b]) (p + 1)
def getT (l : List UInt8) : List UInt8 × Nat × Int := scanT l [] 0
theorem scan_full (b : UInt8) (r acc : List UInt8) (p : Nat) (h : b ≠ 0) (ha : acc.length = 1024) : scanT (b :: r) acc p = ([], 0, 2) := by
  cases r <;> rw [scanT, if_neg h, if_pos ha]
theorem scan_byte (b : UInt8) (r acc : List UInt8) (p : Nat) (h : b ≠ 0) (ha : acc.length ≠ 1024) : scanT (b :: r) acc p = scanT r (acc ++ [b]) (p + 1) := by
  cases r with
  | nil =>
    have h1 : scanT [b] acc p = ([], 0, 3) := by rw [scanT, if_neg h, if_neg ha]
    rw [h1]; rfl
  | cons d r => rw [scanT, if_neg h, if_neg ha]
theorem scan_end (acc : List UInt8) (p : Nat) : scanT [0] acc p = ([], 0, 3) := by rw [scanT, if_pos rfl]
theorem scan_zeros (r acc : List UInt8) (p : Nat) : scanT (0 :: 0 :: r) acc p = (acc, p + 2, 0) := by rw [scanT, if_pos rfl, if_pos rfl]
theorem scan_bad (d : UInt8) (r acc : List UInt8) (p : Nat) (h0 : d ≠ 0) (h1 : d ≠ 255) : scanT (0 :: d :: r) acc p = ([], 0, 4) := by rw [scanT, if_pos rfl, if_neg h0, if_neg h1]
theorem scan_esc_full (r acc : List UInt8) (p : Nat) (ha : acc.length = 1024) : scanT (0 :: 255 :: r) acc p = ([], 0, 2) := by rw [scanT, if_pos rfl, if_neg (by decide), if_pos rfl, if_pos ha]
theorem scan_esc (r acc : List UInt8) (p : Nat) (ha : acc.length ≠ 1024) : scanT (0 :: 255 :: r) acc p = scanT r (acc ++ [0]) (p + 2) := by rw [scanT, if_pos rfl, if_neg (by decide), if_pos rfl, if_neg ha]
end Nm
end Go.Proofs.YtimdioacmojkeaaDoor

namespace Go.Proofs.YtimdioacmojkeaaDoor
open Go.RowKit

theorem ret_int {k : IntKind} {a b : Int} (h : a = b) : Ending.returned (.int k a) = .returned (.int k b) := by rw [h]
theorem int_eq {k : IntKind} {a b : Int} (h : a = b) : Value.int k a = .int k b := by rw [h]
theorem take_snoc (s : ByteArray) (k : Nat) (h : k < s.size) : s.data.toList.take (k + 1) = s.data.toList.take k ++ [s[k]] := by
  rw [List.take_succ_eq_append_getElem (by simpa using h)]; rfl
theorem wrap_u64 (n : Int) (h0 : 0 ≤ n) (h1 : n < 18446744073709551616) : IntKind.u64.wrap n = n := by
  simp only [IntKind.wrap, IntKind.bits, IntKind.signed]
  simp; omega
theorem xor_u8 (b : UInt8) (t : Nat) (ht : t < 256) : b.toNat ^^^ t = (b ^^^ UInt8.ofNat t).toNat := by
  rw [UInt8.toNat_xor, UInt8.toNat_ofNat', Nat.mod_eq_of_lt (by simpa using ht)]
/-- a byte as a cell -/
def B (b : UInt8) : Value := .int .u8 b.toNat

theorem info_u8 : (Tryd.prog.info? 5).map (fun i => (i.zero, i.size, i.bytes)) = some (some (.int .u8 0), 1, 1) := by kernel_rfl
theorem head_byte (s : ByteArray) (h : 0 < s.size) : s.data.toList.headD 0 = s[0] := by
  rw [List.headD_eq_head?_getD, List.head?_eq_getElem?, List.getElem?_eq_getElem (by simpa using h)]
  rfl
/-- 'string(v)', v the call's own bytes. -/
theorem run_str {base : Nat} {v : Value} {l : List UInt8} {w : World} (h : w.ownsRow base 5 1 v l.length (l.map B)) :
    (convert 64 9 v).run Tryd.prog w = .ok (.string ⟨l.toArray⟩) w := by
  obtain ⟨h1, h2⟩ := h
  rcases h2 with ⟨rfl, h0⟩ | ⟨g, cap, cur, rfl, hb, hg, hle, hm, hs, htk⟩
  · have : l = [] := List.length_eq_zero_iff.1 h0
    subst this
    exact run_convert_bytes_nil w 64 5 (by kernel_rfl) (by kernel_rfl) 0 0 9 (by kernel_rfl)
  · refine run_convert_bytes_back w 64 9 5 ⟨g, 0, none⟩ cap l (by kernel_rfl) (by kernel_rfl) (by kernel_rfl) ?_
    intro j hj
    have := World.ownsRow.cells (w := w) (base := base) (e := 5) (size := 1) (v := .slice (some ⟨g, 0, none⟩) l.length cap) (n := l.length) (xs := l.map B) ⟨h1, .inr ⟨g, cap, cur, rfl, hb, hg, hle, hm, hs, htk⟩⟩ (g := g) rfl j (B l[j]) (by simp [hj])
    simpa [B] using this

theorem owns_one (w : World) (c : Int) (h0 : 0 ≤ c) (h1 : c ≤ 255) :
    (w.alloc (.cells #[.int .u8 c] 5)).ownsRow w.heap.size 5 1 (.slice (some ⟨w.heap.size, 0, none⟩) 1 1) [UInt8.ofNat c.toNat].length ([UInt8.ofNat c.toNat].map B) :=
  ⟨by simp, .inr ⟨w.heap.size, 1, #[.int .u8 c], rfl, Nat.le_refl _, heap_alloc_new w _, Nat.le_refl _, by unfold maxLen; omega, rfl, by simp [B]; omega⟩⟩

/-- one byte more behind an owned row -/
theorem own_more {base : Nat} {w wr w1 : World} {v v1 : Value} {ys : List UInt8} {c : Int} {b : UInt8} {o : Obj} (hown : wr.ownsRow base 5 1 v ys.length (ys.map B))
    (hown1 : w1.ownsRow base 5 1 v1 (ys.length + 1) (ys.map B ++ [.int .u8 c])) (hc : c = b.toNat) (hg : (wr.alloc o).grownBy w1 v.ownBlock) (hbel : Below base w wr) (hbase : base ≤ w.heap.size) :
    w1.ownsRow base 5 1 v1 (ys ++ [b]).length ((ys ++ [b]).map B) ∧ Below base w w1 := by
  subst hc
  refine ⟨by simpa [B] using hown1, ?_⟩
  have hs := hbel.size
  refine (hbel.alloc (by omega) o).grown hg (by simp; omega) ?_
  intro k hk
  exact (hown.lt k hk).1

end Go.Proofs.YtimdioacmojkeaaDoor

namespace Go.Proofs.YtimdioacmojkeaaDoor
open Go.RowKit

/-- every block that was there, and of which p holds, is as it was -/
structure Kept (p : Nat → Prop) (A B : World) : Prop where
  os : B.os = A.os
  tape : B.tape = A.tape
  output : B.output = A.output
  size : A.heap.size ≤ B.heap.size
  block : ∀ k, k < A.heap.size → p k → B.heap[k]? = A.heap[k]?

theorem Kept.refl (p : Nat → Prop) (A : World) : Kept p A A := ⟨rfl, rfl, rfl, Nat.le_refl _, fun _ _ _ => rfl⟩
theorem Kept.trans {p : Nat → Prop} {A B C : World} (h : Kept p A B) (k : Kept p B C) : Kept p A C :=
  ⟨k.os.trans h.os, k.tape.trans h.tape, k.output.trans h.output, Nat.le_trans h.size k.size, fun i hi hp => (k.block i (Nat.lt_of_lt_of_le hi h.size) hp).trans (h.block i hi hp)⟩
theorem Kept.mono {p q : Nat → Prop} {A B : World} (h : Kept p A B) (hpq : ∀ k, q k → p k) : Kept q A B :=
  ⟨h.os, h.tape, h.output, h.size, fun k hk hq => h.block k hk (hpq k hq)⟩
theorem Kept.of_below {p : Nat → Prop} {A B : World} (h : Below A.heap.size A B) : Kept p A B := ⟨h.os, h.tape, h.output, h.size, fun k hk _ => h.block k hk⟩
theorem Kept.of_below_at {p : Nat → Prop} {n : Nat} {A B : World} (h : Below n A B) (hp : ∀ k, p k → k < n) : Kept p A B := ⟨h.os, h.tape, h.output, h.size, fun k _ hk => h.block k (hp k hk)⟩
theorem Kept.below {p : Nat → Prop} {A B : World} (h : Kept p A B) {n : Nat} (hn : n ≤ A.heap.size) (hp : ∀ k, k < n → p k) : Below n A B :=
  ⟨h.os, h.tape, h.output, h.size, fun k hk => h.block k (by omega) (hp k hk)⟩
theorem Kept.alloc {p : Nat → Prop} {A B : World} (h : Kept p A B) (o : Obj) : Kept p A (B.alloc o) :=
  h.trans (Kept.of_below ((Below.refl _ B).alloc (Nat.le_refl _) o))
theorem Kept.drew {p : Nat → Prop} {A B : World} (h : Kept p A B) : Kept p A B.drew := ⟨h.os, h.tape, h.output, h.size, h.block⟩
theorem Kept.setCell {p : Nat → Prop} {A B : World} (h : Kept p A B) {a : Addr} (ha : ¬ p a.block) (v : Value) : Kept p A (B.setCell a v) :=
  h.trans ⟨rfl, rfl, rfl, by simp [World.setCell], fun k _ hk => Below.heap_setCell _ _ _ _ (fun e => ha (by rw [← e]; exact hk))⟩
theorem Kept.grown {p : Nat → Prop} {A B C : World} {row : Option Nat} (h : Kept p A B) (hg : B.grownBy C row) (hr : ∀ k, row = some k → ¬ p k) : Kept p A C :=
  h.trans ⟨hg.os, hg.tape, hg.output, hg.size, fun k hk hp => hg.block k hk (fun e => hr k e.symm hp)⟩
theorem Kept.obj {p : Nat → Prop} {A B : World} (h : Kept p A B) {k : Nat} {o : Obj} (hk : p k) (ho : A.heap[k]? = some o) : B.heap[k]? = some o :=
  (h.block k (Array.getElem?_eq_some_iff.1 ho).1 hk).trans ho
end Go.Proofs.YtimdioacmojkeaaDoor

namespace Go.Proofs.YtimdioacmojkeaaDoor
open Go.RowKit

/-- things of k cells each, one behind another -/
structure Rx {α : Type} (k : Nat) (C : α → List Value) (w : World) (v : Value) (l : List α) : Prop where
  at_ : ((∃ a c, v = .slice a 0 c) ∧ l = []) ∨ ∃ bk o cap, v = .slice (some ⟨bk, o, none⟩) l.length cap ∧ bk < w.heap.size ∧
    ∀ j t, l[j]? = some t → ∀ r u, (C t)[r]? = some u → w.cell? ⟨bk, o + j * k + r, none⟩ = some u
  room : ∃ a n c, v = .slice a n c ∧ n ≤ c ∧ c ≤ 9223372036854775807
section
variable {α : Type} {k : Nat} {C : α → List Value}
theorem Rx.slice {w : World} {v : Value} {l : List α} (h : Rx k C w v l) : ∃ a c, v = .slice a l.length c ∧ l.length ≤ c ∧ c ≤ 9223372036854775807 := by
  obtain ⟨a', n', c', e, h1, h2⟩ := h.room
  rcases h.at_ with ⟨⟨a, c, rfl⟩, rfl⟩ | ⟨bk, o, cap, rfl, _⟩
  · rw [Value.slice.injEq] at e
    obtain ⟨rfl, rfl, rfl⟩ := e
    exact ⟨_, _, rfl, h1, h2⟩
  · rw [Value.slice.injEq] at e
    obtain ⟨rfl, rfl, rfl⟩ := e
    exact ⟨_, _, rfl, h1, h2⟩
theorem Rx.kept {p : Nat → Prop} {w w' : World} {v : Value} {l : List α} (h : Rx k C w v l) (hk : Kept p w w') (hp : ∀ a n c, v = .slice (some a) n c → p a.block) : Rx k C w' v l := by
  rcases h.at_ with h' | ⟨bk, o, cap, h1, h3, h4⟩
  · exact ⟨.inl h', h.room⟩
  · refine ⟨.inr ⟨bk, o, cap, h1, Nat.lt_of_lt_of_le h3 hk.size, fun j t hj r u hu => ?_⟩, h.room⟩
    have e := hk.block bk h3 (hp _ _ _ h1)
    have e2 : ∀ q, w'.cell? ⟨bk, q, none⟩ = w.cell? ⟨bk, q, none⟩ := fun q => by simp only [World.cell?, e]
    rw [e2]
    exact h4 j t hj r u hu
theorem Rx.below {w w' : World} {v : Value} {l : List α} (h : Rx k C w v l) (hb : Below w.heap.size w w') : Rx k C w' v l := h.kept (Kept.of_below (p := fun _ => True) hb) fun _ _ _ _ => trivial
theorem Rx.get {w : World} {a : Option Addr} {n c : Nat} {l : List α} (h : Rx k C w (.slice a n c) l) (j : Nat) (t : α) (hj : l[j]? = some t) : ∃ bk o, a = some ⟨bk, o, none⟩ ∧ bk < w.heap.size ∧
    ∀ r u, (C t)[r]? = some u → w.cell? ⟨bk, o + j * k + r, none⟩ = some u := by
  rcases h.at_ with ⟨_, rfl⟩ | ⟨bk, o, cap, h1, h3, h4⟩
  · simp at hj
  · rw [Value.slice.injEq] at h1
    obtain ⟨rfl, rfl, rfl⟩ := h1
    exact ⟨bk, o, rfl, h3, h4 j t hj⟩
/-- the cells of all -/
def rowR (C : α → List Value) (l : List α) : List Value := l.flatMap C
theorem rowR_length (hC : ∀ t, (C t).length = k) (l : List α) : (rowR C l).length = l.length * k := by
  induction l with
  | nil => simp [rowR]
  | cons t l ih => show (C t ++ rowR C l).length = _; rw [List.length_append, ih, List.length_cons, hC, Nat.add_mul, Nat.one_mul, Nat.add_comm]
theorem rowR_more (l : List α) (t : α) : rowR C (l ++ [t]) = rowR C l ++ C t := by simp [rowR]
theorem rowR_get (hC : ∀ t, (C t).length = k) (l : List α) (i r : Nat) (t : α) (hi : l[i]? = some t) (hr : r < k) : (rowR C l)[i * k + r]? = (C t)[r]? := by
  induction l generalizing i with
  | nil => simp at hi
  | cons q l ih =>
    show (C q ++ rowR C l)[i * k + r]? = _
    cases i with
    | zero =>
      obtain rfl : q = t := by simpa using hi
      rw [Nat.zero_mul, Nat.zero_add, List.getElem?_append_left (by rw [hC]; exact hr)]
    | succ i =>
      rw [List.getElem?_append_right (by rw [hC, Nat.add_mul, Nat.one_mul]; omega), hC, show (i + 1) * k + r - k = i * k + r from by rw [Nat.add_mul, Nat.one_mul]; omega, ih i (by simpa using hi)]
theorem rowR_one (hC : ∀ t, ∀ u ∈ C t, u.oneCell' = true) (l : List α) : ∀ u ∈ rowR C l, u.oneCell' = true := by
  intro u hu
  obtain ⟨t, _, ht⟩ := List.mem_flatMap.1 hu
  exact hC t u ht
theorem Rx.of_own {base : Nat} {T : TypeId} {w : World} {v : Value} {l : List α} (hC : ∀ t, (C t).length = k) (h : w.ownsRow base T k v l.length (rowR C l)) : Rx k C w v l := by
  rcases h.2 with ⟨rfl, h0⟩ | ⟨g, cap, cur, rfl, hg, hh, h1, h2, _⟩
  · exact ⟨.inl ⟨⟨_, _, rfl⟩, List.length_eq_zero_iff.1 h0⟩, _, _, _, rfl, Nat.le_refl _, by omega⟩
  · refine ⟨.inr ⟨g, 0, cap, rfl, (Array.getElem?_eq_some_iff.1 hh).1, fun j t hj r u hu => ?_⟩, _, _, _, rfl, h1, by unfold maxLen at h2; omega⟩
    have hr : r < k := by
      have := (List.getElem?_eq_some_iff.1 hu).1
      rwa [hC] at this
    have := World.ownsRow.cells h (g := g) rfl (j * k + r) u (by rw [rowR_get hC l j r t hj hr]; exact hu)
    rw [show (0 : Nat) + j * k + r = j * k + r from by omega]
    rwa [show ((⟨g, 0, none⟩ : Addr).add (j * k + r)) = ⟨g, j * k + r, none⟩ from by unfold Addr.add; split <;> simp_all] at this
/-- one more behind an owned row -/
theorem own_one_more {base : Nat} {T : TypeId} {w1 : World} {v1 : Value} {l : List α} {t : α} (h : w1.ownsRow base T k v1 (l.length + 1) (rowR C l ++ C t)) : w1.ownsRow base T k v1 (l ++ [t]).length (rowR C (l ++ [t])) := by
  rw [rowR_more, List.length_append, List.length_singleton]
  exact h
end

def idV (x : List UInt8) : Value := .agg (x.map B).toArray
def idC (x : List UInt8) : List Value := x.map B
end Go.Proofs.YtimdioacmojkeaaDoor

namespace Go.Proofs.YtimdioacmojkeaaDoor
namespace Nm

theorem head_tn (t : Nat) (l m : List UInt8) (h : l ≠ []) : (tn t l ++ m).headD 0 ^^^ UInt8.ofNat t = l.headD 0 := by
  cases l with
  | nil => exact absurd rfl h
  | cons b l => simp [tn, UInt8.xor_assoc]
theorem read_dig (n t : Nat) (m : List UInt8) (h : n < 256 ^ 8) : readN (tn t (dig n) ++ m) (dig n).length t = (n, 0) := by
  have hl := dig_length_le n
  have e : (tn t (dig n) ++ m).take (dig n).length = tn t (dig n) := by
    rw [List.take_append_of_le_length (by rw [tn_length]; exact Nat.le_refl _), List.take_of_length_le (by rw [tn_length]; exact Nat.le_refl _)]
  rw [readN, if_neg (by omega), if_neg (by rw [List.length_append, tn_length]; omega), if_neg ?_, e, tn_tn, val_dig n h]
  rintro ⟨h1, h2⟩
  have hne : dig n ≠ [] := by intro e; rw [e] at h1; simp at h1
  rw [head_tn t _ m hne] at h2
  have hn : n ≠ 0 := by intro e; subst e; exact hne rfl
  exact dig_head n hn h h2
theorem get_put (n : Nat) (m : List UInt8) (h : n < 256 ^ 8) : getN (put n ++ m) = (n, (put n).length, 0) := by
  have hl := dig_length_le n
  have hr := read_dig n 0 m h
  rw [tn_zero] at hr
  have hc : (UInt8.ofNat (dig n).length).toNat = (dig n).length := by rw [UInt8.toNat_ofNat']; omega
  rw [getN, if_neg (by simp [put])]
  simp only [put, List.cons_append, List.headD_cons, List.tail_cons, hc, hr]
  simp [Nat.add_comm]
theorem getI_putI (i : Int) (m : List UInt8) (h0 : -9223372036854775808 ≤ i) (h1 : i ≤ 9223372036854775807) : getI (putI i ++ m) = (i, (putI i).length, 0) := by
  by_cases hi : i < 0
  · have hl := dig_length_le (-1 - i).toNat
    have hr := read_dig (-1 - i).toNat 255 m (by omega)
    have hc : (UInt8.ofNat (127 - (dig (-1 - i).toNat).length)).toNat = 127 - (dig (-1 - i).toNat).length := by rw [UInt8.toNat_ofNat']; omega
    have hk : 127 - (127 - (dig (-1 - i).toNat).length) = (dig (-1 - i).toNat).length := by omega
    rw [putI, if_pos hi, getI, if_neg (by simp)]
    simp only [List.cons_append, List.headD_cons, List.tail_cons, hc, hk, hr]
    rw [if_neg (by omega), if_pos trivial, if_neg (by omega), List.length_cons, tn_length]
    simp only [Prod.mk.injEq]
    exact ⟨by omega, by omega, trivial⟩
  · have hl := dig_length_le i.toNat
    have hr := read_dig i.toNat 0 m (by omega)
    rw [tn_zero] at hr
    have hc : (UInt8.ofNat (128 + (dig i.toNat).length)).toNat = 128 + (dig i.toNat).length := by rw [UInt8.toNat_ofNat']; omega
    have hk : 128 + (dig i.toNat).length - 128 = (dig i.toNat).length := by omega
    rw [putI, if_neg hi, getI, if_neg (by simp)]
    simp only [List.cons_append, List.headD_cons, List.tail_cons, hc, hk, hr]
    rw [if_pos (by omega), if_pos trivial, if_neg (by omega), List.length_cons]
    simp only [Prod.mk.injEq]
    exact ⟨by omega, by omega, trivial⟩
theorem putI_length (i : Int) : (putI i).length ≤ 9 := by
  unfold putI
  split
  · have := dig_length_le (-1 - i).toNat; rw [List.length_cons, tn_length]; omega
  · have := dig_length_le i.toNat; rw [List.length_cons]; omega
theorem oneNaN_lt (b : Nat) (h : b < 18446744073709551616) : oneNaN b < 18446744073709551616 := by
  unfold oneNaN; split <;> omega
theorem flip_lt (c : Nat) (h : c < 18446744073709551616) : flip c < 18446744073709551616 := by
  unfold flip; split <;> omega
theorem unflip_flip (c : Nat) (h : c < 18446744073709551616) : unflip (flip c) = c := by
  unfold flip
  split
  · rw [unflip, if_neg (by omega)]; omega
  · rw [unflip, if_pos (by omega)]; omega
theorem putF_length (b : Nat) : (putF b).length = 8 := low_length 8 _
theorem getF_putF (b : Nat) (m : List UInt8) (h : b < 18446744073709551616) : getF (putF b ++ m) = (oneNaN b, 8, 0) := by
  have hf := flip_lt _ (oneNaN_lt b h)
  have e : (putF b ++ m).take 8 = putF b := by
    rw [List.take_append_of_le_length (by rw [putF_length]; exact Nat.le_refl _), List.take_of_length_le (by rw [putF_length]; exact Nat.le_refl _)]
  have hv : val (putF b) = flip (oneNaN b) := by rw [putF, val_low, Nat.mod_eq_of_lt (by omega)]
  rw [getF, if_neg (by rw [List.length_append, putF_length]; omega), e, hv, unflip_flip _ (oneNaN_lt b h), if_neg ?_]
  rintro ⟨h1, h2⟩
  cases hn : nanB b
  · rw [oneNaN, if_neg (by rw [hn]; decide), hn] at h1
    cases h1
  · rw [oneNaN, if_pos hn] at h2
    exact h2 rfl
theorem scan_putT (l : List UInt8) : ∀ (acc m : List UInt8) (p : Nat), acc.length + l.length ≤ 1024 → scanT (esc l ++ ([0, 0] ++ m)) acc p = (acc ++ l, p + (esc l).length + 2, 0) := by
  induction l with
  | nil => intro acc m p h; rw [show esc [] ++ ([0, 0] ++ m) = 0 :: 0 :: m from rfl, scan_zeros]; simp [esc]
  | cons b l ih =>
    intro acc m p h
    rw [List.length_cons] at h
    by_cases hb : b = 0
    · subst hb
      rw [show esc (0 :: l) ++ ([0, 0] ++ m) = 0 :: 255 :: (esc l ++ ([0, 0] ++ m)) from rfl, scan_esc _ _ _ (by omega), ih _ _ _ (by simp; omega)]
      simp [esc]; omega
    · rw [show esc (b :: l) ++ ([0, 0] ++ m) = b :: (esc l ++ ([0, 0] ++ m)) from by simp [esc, hb], scan_byte _ _ _ _ hb (by omega), ih _ _ _ (by simp; omega)]
      simp [esc, hb]; omega
theorem putT_length (l : List UInt8) : (putT l).length ≤ 2 * l.length + 2 := by
  have := esc_length l
  rw [putT, List.length_append]; simp; omega
theorem getT_putT (l m : List UInt8) (h : l.length ≤ 1024) : getT (putT l ++ m) = (l, (putT l).length, 0) := by
  have h1 := scan_putT l [] m 0 (by simpa using h)
  rw [getT, putT, List.append_assoc, h1]
  simp
end Nm
end Go.Proofs.YtimdioacmojkeaaDoor

namespace Go.Proofs.YtimdioacmojkeaaDoor
namespace Mx

/-- the exclusive or with itself shifted down -/
def xs (k z : Nat) : Nat := z ^^^ (z >>> k)
/-- the product of 64 bits -/
def prod (a b : Nat) : Nat := a * b % 18446744073709551616
def step (x b : Nat) : Nat := xs 32 (prod (xs 29 (prod (x ^^^ b) 11400714819323198485)) 13787848793156543929)
def undo (y b : Nat) : Nat := prod (xs 29 (prod (xs 32 y) 10871156337175269513) ^^^ (prod (xs 32 y) 10871156337175269513) >>> 58) 17428512612931826493 ^^^ b

theorem xor_lt {a b : Nat} (ha : a < 18446744073709551616) (hb : b < 18446744073709551616) : a ^^^ b < 18446744073709551616 :=
  Nat.xor_lt_two_pow (n := 64) ha hb
theorem shr_lt {a : Nat} (k : Nat) (ha : a < 18446744073709551616) : a >>> k < 18446744073709551616 := by
  rw [Nat.shiftRight_eq_div_pow]
  exact Nat.lt_of_le_of_lt (Nat.div_le_self _ _) ha
theorem xs_lt {k z : Nat} (h : z < 18446744073709551616) : xs k z < 18446744073709551616 := xor_lt h (shr_lt k h)
theorem shr_zero {z k : Nat} (h : z < 18446744073709551616) (hk : 64 ≤ k) : z >>> k = 0 := by
  rw [Nat.shiftRight_eq_div_pow]
  exact Nat.div_eq_of_lt (Nat.lt_of_lt_of_le h (Nat.pow_le_pow_right (n := 2) (by omega) hk))
theorem xs_xs32 {z : Nat} (h : z < 18446744073709551616) : xs 32 (xs 32 z) = z := by
  unfold xs
  rw [Nat.shiftRight_xor_distrib, ← Nat.shiftRight_add, shr_zero (k := 32 + 32) h (by omega), Nat.xor_zero, Nat.xor_assoc, Nat.xor_self, Nat.xor_zero]
theorem xs_back29 {z : Nat} (h : z < 18446744073709551616) : xs 29 (xs 29 z) ^^^ (xs 29 z) >>> 58 = z := by
  unfold xs
  rw [Nat.shiftRight_xor_distrib, Nat.shiftRight_xor_distrib, ← Nat.shiftRight_add, ← Nat.shiftRight_add, shr_zero (k := 29 + 58) h (by omega), Nat.xor_zero]
  rw [show z ^^^ z >>> 29 ^^^ (z >>> 29 ^^^ z >>> (29 + 29)) = z ^^^ z >>> 58 from by
    rw [Nat.xor_assoc, ← Nat.xor_assoc (z >>> 29), Nat.xor_self, Nat.zero_xor]]
  rw [Nat.xor_assoc, Nat.xor_self, Nat.xor_zero]
/-- .. and the other way round -/
theorem xs_fore29 {y : Nat} (h : y < 18446744073709551616) : xs 29 (xs 29 y ^^^ y >>> 58) = y := by
  unfold xs
  rw [Nat.shiftRight_xor_distrib, Nat.shiftRight_xor_distrib, ← Nat.shiftRight_add, ← Nat.shiftRight_add, shr_zero (k := 58 + 29) h (by omega), Nat.xor_zero]
  show y ^^^ y >>> 29 ^^^ y >>> 58 ^^^ (y >>> 29 ^^^ y >>> 58) = y
  rw [Nat.xor_assoc y, Nat.xor_assoc y, Nat.xor_self, Nat.xor_zero]
theorem mul_back {a b z : Nat} (hab : a * b % 18446744073709551616 = 1) (h : z < 18446744073709551616) : z * a % 18446744073709551616 * b % 18446744073709551616 = z := by
  rw [Nat.mod_mul_mod, Nat.mul_assoc, ← Nat.mul_mod_mod, hab, Nat.mul_one, Nat.mod_eq_of_lt h]
theorem xor_back (x b : Nat) : x ^^^ b ^^^ b = x := by rw [Nat.xor_assoc, Nat.xor_self, Nat.xor_zero]
theorem mod_lt' (a : Nat) : a % 18446744073709551616 < 18446744073709551616 := Nat.mod_lt _ (by omega)
theorem prod_lt (a b : Nat) : prod a b < 18446744073709551616 := mod_lt' _
theorem step_lt (x b : Nat) : step x b < 18446744073709551616 := xs_lt (mod_lt' _)
theorem undo_step {x b : Nat} (hx : x < 18446744073709551616) (hb : b < 18446744073709551616) : undo (step x b) b = x := by
  unfold undo step prod
  rw [xs_xs32 (mod_lt' _), mul_back (by decide) (xs_lt (mod_lt' _)), xs_back29 (mod_lt' _), mul_back (by decide) (xor_lt hx hb), xor_back]
theorem step_undo {y b : Nat} (hy : y < 18446744073709551616) : step (undo y b) b = y := by
  unfold undo step prod
  rw [xor_back, mul_back (by decide) (xor_lt (xs_lt (mod_lt' _)) (shr_lt _ (mod_lt' _))), xs_fore29 (mod_lt' _), mul_back (by decide) (xs_lt hy), xs_xs32 hy]
theorem undo_lt {y b : Nat} (hb : b < 18446744073709551616) : undo y b < 18446744073709551616 := xor_lt (mod_lt' _) hb
theorem step_inj {x x' b : Nat} (hx : x < 18446744073709551616) (hx' : x' < 18446744073709551616) (hb : b < 18446744073709551616) (h : step x b = step x' b) : x = x' := by
  have := congrArg (fun y => undo y b) h
  simpa only [undo_step hx hb, undo_step hx' hb] using this
theorem step_comm (x b : Nat) : step x b = step b x := by unfold step; rw [Nat.xor_comm]
theorem step_inj_block {x b b' : Nat} (hx : x < 18446744073709551616) (hb : b < 18446744073709551616) (hb' : b' < 18446744073709551616) (h : step x b = step x b') : b = b' := by
  rw [step_comm x b, step_comm x b'] at h
  exact step_inj hb hb' hx h
end Mx
end Go.Proofs.YtimdioacmojkeaaDoor

namespace Go.Proofs.YtimdioacmojkeaaDoor
namespace Mx

def byteAt (l : List UInt8) (k : Nat) : Nat := (l.getD k 0).toNat
/-- the highest c bytes of block i -/
def hi (l : List UInt8) (i : Nat) : Nat → Nat
  | 0 => 0
  | c + 1 => 256 * hi l i c + byteAt l (8 * i + (7 - c))
/-- block i of a text, the lowest byte first; behind the text there are noughts -/
def blk (l : List UInt8) (i : Nat) : Nat := hi l i 8
/-- the lowest w bits -/
def cut (w y : Nat) : Nat := y % 2 ^ w
/-- behind i blocks -/
def chain (w : Nat) (l : List UInt8) : Nat → Nat
  | 0 => 0
  | i + 1 => cut w (step (chain w l i) (blk l i))
def narrow (w : Nat) (l : List UInt8) : Nat := cut w (step (chain w l ((l.length + 7) / 8)) l.length)

theorem byteAt_lt (l : List UInt8) (k : Nat) : byteAt l k < 256 := UInt8.toNat_lt _
theorem hi_lt (l : List UInt8) (i : Nat) : ∀ c, hi l i c < 256 ^ c
  | 0 => by simp [hi]
  | c + 1 => by
    have h1 := hi_lt l i c
    have h2 := byteAt_lt l (8 * i + (7 - c))
    rw [hi, Nat.pow_succ]
    omega
theorem blk_lt (l : List UInt8) (i : Nat) : blk l i < 18446744073709551616 := hi_lt l i 8
theorem cut_le (w y : Nat) : cut w y ≤ y := Nat.mod_le _ _
theorem cut_lt {w y : Nat} (h : y < 18446744073709551616) : cut w y < 18446744073709551616 := Nat.lt_of_le_of_lt (cut_le w y) h
theorem cut_64 {y : Nat} (h : y < 18446744073709551616) : cut 64 y = y := Nat.mod_eq_of_lt h
theorem chain_lt (w : Nat) (l : List UInt8) (i : Nat) : chain w l i < 18446744073709551616 := by
  cases i with
  | zero => simp [chain]
  | succ i => exact cut_lt (step_lt _ _)
theorem narrow_lt (w : Nat) (l : List UInt8) : narrow w l < 18446744073709551616 := cut_lt (step_lt _ _)
/-- noughts behind make no difference -/
theorem byteAt_pad (l : List UInt8) (n k : Nat) : byteAt (l ++ List.replicate n 0) k = byteAt l k := by
  unfold byteAt
  rw [List.getD_eq_getElem?_getD, List.getD_eq_getElem?_getD]
  by_cases h : k < l.length
  · rw [List.getElem?_append_left h]
  · rw [List.getElem?_append_right (by omega), List.getElem?_eq_none (l := l) (by omega), List.getElem?_replicate]
    split <;> rfl
theorem byteAt_drop (l : List UInt8) (m k : Nat) : byteAt (l.drop m) k = byteAt l (m + k) := by
  unfold byteAt
  rw [List.getD_eq_getElem?_getD, List.getD_eq_getElem?_getD, List.getElem?_drop]
/-- the lowest c bytes of block i -/
def lo (l : List UInt8) (i : Nat) : Nat → Nat
  | 0 => 0
  | c + 1 => lo l i c + byteAt l (8 * i + c) * 256 ^ c
theorem lo_lt (l : List UInt8) (i : Nat) : ∀ c, lo l i c < 256 ^ c
  | 0 => by simp [lo]
  | c + 1 => by
    have h1 := lo_lt l i c
    have h2 := byteAt_lt l (8 * i + c)
    have h3 : byteAt l (8 * i + c) * 256 ^ c ≤ 255 * 256 ^ c := Nat.mul_le_mul_right _ (by omega)
    rw [lo, Nat.pow_succ]
    omega
theorem lo_blk (l : List UInt8) (i : Nat) : lo l i 8 = blk l i := by
  simp only [blk, lo, hi, Nat.reducePow, Nat.reduceSub, Nat.add_zero, Nat.zero_add]
  omega
/-- one byte more, put in by 'or' -/
theorem lo_or (l : List UInt8) (i c : Nat) : lo l i c ||| byteAt l (8 * i + c) * 256 ^ c = lo l i (c + 1) := by
  have h1 : lo l i c < 2 ^ (8 * c) := by rw [Nat.pow_mul]; exact lo_lt l i c
  rw [lo, show (256 : Nat) ^ c = 2 ^ (8 * c) from by rw [Nat.pow_mul], Nat.mul_comm (byteAt _ _), Nat.or_comm, Nat.add_comm (lo l i c), Nat.two_pow_add_eq_or_of_lt h1]
/-- behind the text there is nothing more -/
theorem byteAt_past {l : List UInt8} {k : Nat} (h : l.length ≤ k) : byteAt l k = 0 := by
  unfold byteAt
  rw [List.getD_eq_getElem?_getD, List.getElem?_eq_none h]; rfl
/-- up and down again: the lowest bits -/
theorem cut_shift {w : Nat} (y : Nat) (hw : w ≤ 64) : y * 2 ^ (64 - w) % 18446744073709551616 / 2 ^ (64 - w) = cut w y := by
  have h : (18446744073709551616 : Nat) = 2 ^ w * 2 ^ (64 - w) := by rw [← Nat.pow_add, show w + (64 - w) = 64 from by omega]
  rw [h, Nat.mul_mod_mul_right, Nat.mul_div_cancel _ (Nat.two_pow_pos _), cut]
end Mx
end Go.Proofs.YtimdioacmojkeaaDoor

namespace Go.Proofs.YtimdioacmojkeaaDoor
open Go.RowKit

namespace Mx
/-- what goes in at step i of a text -/
def blkAt (l : List UInt8) (i : Nat) : Nat := if i < (l.length + 7) / 8 then blk l i else l.length
/-- what stands ahead of step i -/
def along (w : Nat) (l : List UInt8) : Nat → Nat
  | 0 => 0
  | i + 1 => cut w (step (along w l i) (blkAt l i))
theorem along_lt (w : Nat) (l : List UInt8) (i : Nat) : along w l i < 18446744073709551616 := by
  cases i with
  | zero => simp [along]
  | succ i => exact cut_lt (step_lt _ _)
theorem along_chain (w : Nat) (l : List UInt8) (i : Nat) (h : i ≤ (l.length + 7) / 8) : along w l i = chain w l i := by
  induction i with
  | zero => rfl
  | succ i ih => rw [along, chain, ih (by omega), blkAt, if_pos (by omega)]
theorem along_narrow (w : Nat) (l : List UInt8) : along w l ((l.length + 7) / 8 + 1) = narrow w l := by
  rw [along, narrow, along_chain w l _ (Nat.le_refl _), blkAt, if_neg (by omega)]
/-- the cells of step i -/
def tri (w : Nat) (l : List UInt8) (i : Nat) : List Value := [.int .u64 (along w l i : Nat), .int .u64 (blkAt l i : Nat), .int .u64 (along w l (i + 1) : Nat)]
/-- the cells of the first m steps -/
def tris (w : Nat) (l : List UInt8) : Nat → List Value
  | 0 => []
  | m + 1 => tris w l m ++ tri w l m
theorem byte_of_blk (l l' : List UInt8) (i : Nat) (h : blk l i = blk l' i) : ∀ j, j < 8 → byteAt l (8 * i + j) = byteAt l' (8 * i + j) := by
  have key : ∀ c, c ≤ 8 → hi l i c = hi l' i c → ∀ j, 8 - c ≤ j → j < 8 → byteAt l (8 * i + j) = byteAt l' (8 * i + j) := by
    intro c
    induction c with
    | zero => intro _ _ j h1 h2; omega
    | succ c ih =>
      intro hc he j h1 h2
      rw [hi, hi] at he
      have b1 := byteAt_lt l (8 * i + (7 - c))
      have b2 := byteAt_lt l' (8 * i + (7 - c))
      by_cases hj : j = 7 - c
      · subst hj; omega
      · exact ih (by omega) (by omega) j (by omega) h2
  intro j hj
  exact key 8 (Nat.le_refl _) h j (by omega) hj
theorem same_of_bytes (l l' : List UInt8) (hl : l.length = l'.length) (h : ∀ k, byteAt l k = byteAt l' k) : l = l' := by
  apply List.ext_getElem hl
  intro k h1 h2
  have := h k
  rw [byteAt, byteAt, List.getD_eq_getElem?_getD, List.getD_eq_getElem?_getD, List.getElem?_eq_getElem h1, List.getElem?_eq_getElem h2] at this
  exact UInt8.toNat_inj.1 this
/-- MERKLE, DAMGARD -/
theorem md (w : Nat) (a b : List UInt8) (hs : narrow w a = narrow w b) (hne : a ≠ b) :
    ∃ i j, i < (a.length + 7) / 8 + 1 ∧ j < (b.length + 7) / 8 + 1 ∧ along w a (i + 1) = along w b (j + 1) ∧ (along w a i ≠ along w b j ∨ blkAt a i ≠ blkAt b j) := by
  refine Classical.byContradiction fun hno => hne ?_
  have key : ∀ i j, i < (a.length + 7) / 8 + 1 → j < (b.length + 7) / 8 + 1 → along w a (i + 1) = along w b (j + 1) → along w a i = along w b j ∧ blkAt a i = blkAt b j := by
    intro i j hi hj he
    refine Classical.byContradiction fun hc => hno ⟨i, j, hi, hj, he, ?_⟩
    by_cases h : along w a i = along w b j
    · exact .inr fun h' => hc ⟨h, h'⟩
    · exact .inl h
  have top := key ((a.length + 7) / 8) ((b.length + 7) / 8) (by omega) (by omega) (by rw [along_narrow, along_narrow, hs])
  have hlen : a.length = b.length := by
    have := top.2
    rwa [blkAt, blkAt, if_neg (by omega), if_neg (by omega)] at this
  have down : ∀ d, d ≤ (a.length + 7) / 8 → along w a ((a.length + 7) / 8 - d) = along w b ((a.length + 7) / 8 - d) ∧ (0 < d → blkAt a ((a.length + 7) / 8 - d) = blkAt b ((a.length + 7) / 8 - d)) := by
    intro d
    induction d with
    | zero => intro _; exact ⟨by have := top.1; rw [← hlen] at this; exact this, fun h => by omega⟩
    | succ d ih =>
      intro hd
      have h1 := (ih (by omega)).1
      have h2 := key ((a.length + 7) / 8 - (d + 1)) ((a.length + 7) / 8 - (d + 1)) (by omega) (by rw [← hlen]; omega) (by rw [show (a.length + 7) / 8 - (d + 1) + 1 = (a.length + 7) / 8 - d from by omega]; exact h1)
      exact ⟨h2.1, fun _ => h2.2⟩
  apply same_of_bytes a b hlen
  intro k
  by_cases hk : k < a.length
  · have hq := (down ((a.length + 7) / 8 - k / 8) (by omega)).2 (by omega)
    rw [show (a.length + 7) / 8 - ((a.length + 7) / 8 - k / 8) = k / 8 from by omega, blkAt, blkAt, if_pos (by omega), if_pos (by rw [← hlen]; omega)] at hq
    have := byte_of_blk a b (k / 8) hq (k % 8) (by omega)
    rwa [show 8 * (k / 8) + k % 8 = k from by omega] at this
  · rw [byteAt_past (by omega), byteAt_past (by omega)]
end Mx
end Go.Proofs.YtimdioacmojkeaaDoor

namespace Go.Proofs.YtimdioacmojkeaaDoor
namespace Mx

theorem blk_same {l l' : List UInt8} {i : Nat} (h : ∀ j, j < 8 → byteAt l (8 * i + j) = byteAt l' (8 * i + j)) : blk l i = blk l' i := by
  have key : ∀ c, c ≤ 8 → hi l i c = hi l' i c := by
    intro c
    induction c with
    | zero => intro _; rfl
    | succ c ih => intro hc; rw [hi, hi, ih (by omega), h (7 - c) (by omega)]
  exact key 8 (Nat.le_refl _)
theorem chain_same {l l' : List UInt8} (w i : Nat) (h : ∀ j, j < i → blk l j = blk l' j) : chain w l i = chain w l' i := by
  induction i with
  | zero => rfl
  | succ i ih => rw [chain, chain, ih (fun j hj => h j (by omega)), h i (by omega)]
/-- MixApart's own: the sums are alike just if the texts are -/
theorem apart (l l' : List UInt8) (b : Nat) (hl : l.length = l'.length) (hsz : l.length < 18446744073709551616) (h : ∀ k, k / 8 ≠ b → byteAt l k = byteAt l' k) (hs : narrow 64 l = narrow 64 l') : l = l' := by
  have hblk : ∀ j, j ≠ b → blk l j = blk l' j := fun j hj => blk_same fun k hk => h _ (by omega)
  have hpre : chain 64 l b = chain 64 l' b := chain_same 64 b fun j hj => hblk j (by omega)
  rw [narrow, narrow, cut_64 (step_lt _ _), cut_64 (step_lt _ _), ← hl] at hs
  have htop := step_inj (chain_lt _ _ _) (chain_lt _ _ _) hsz hs
  have hb : blk l b = blk l' b := by
    by_cases hbn : b < (l.length + 7) / 8
    · have down : ∀ d, d + (b + 1) ≤ (l.length + 7) / 8 → chain 64 l ((l.length + 7) / 8 - d) = chain 64 l' ((l.length + 7) / 8 - d) := by
        intro d
        induction d with
        | zero => intro _; exact htop
        | succ d ih =>
          intro hd
          have h1 := ih (by omega)
          rw [show (l.length + 7) / 8 - d = (l.length + 7) / 8 - (d + 1) + 1 from by omega, chain, chain, cut_64 (step_lt _ _), cut_64 (step_lt _ _), hblk _ (by omega)] at h1
          exact step_inj (chain_lt _ _ _) (chain_lt _ _ _) (blk_lt _ _) h1
      have h1 := down ((l.length + 7) / 8 - (b + 1)) (by omega)
      rw [show (l.length + 7) / 8 - ((l.length + 7) / 8 - (b + 1)) = b + 1 from by omega, chain, chain, cut_64 (step_lt _ _), cut_64 (step_lt _ _), hpre] at h1
      exact step_inj_block (chain_lt _ _ _) (blk_lt _ _) (blk_lt _ _) h1
    · exact blk_same fun j hj => by rw [byteAt_past (by omega), byteAt_past (by omega)]
  apply same_of_bytes l l' hl
  intro k
  by_cases hk : k / 8 = b
  · have := byte_of_blk l l' b hb (k % 8) (by omega)
    rwa [show 8 * b + k % 8 = k from by omega] at this
  · exact h k hk
end Mx

theorem low8_inj {m n : Nat} (hm : m < 18446744073709551616) (hn : n < 18446744073709551616) (h : Nm.low 8 m = Nm.low 8 n) : m = n := by
  have := congrArg Nm.val h
  rw [Nm.val_low, Nm.val_low, Nat.mod_eq_of_lt (by simpa using hm), Nat.mod_eq_of_lt (by simpa using hn)] at this
  exact this
end Go.Proofs.YtimdioacmojkeaaDoor

namespace Go.Proofs.YtimdioacmojkeaaDoor
namespace Pk

abbrev Bs := List UInt8
/-- the eight bytes of a digest -/
def dg (s : Bs) : Bs := Nm.low 8 (Mx.narrow 64 s)
theorem dg_length (s : Bs) : (dg s).length = 8 := Nm.low_length 8 _
/-- a blob: its kind, its bytes -/
abbrev Bl := Int × Bs
/-- a row of a pack's list -/
structure En where
  id : Bs
  kind : Int
  at_ : Int
  len : Int
def kOK (k : Int) : Prop := k = 1 ∨ k = 2 ∨ k = 3
def idB (k : Int) (s : Bs) : Bs := dg (UInt8.ofNat k.toNat :: s)
def bid (b : Bl) : Bs := idB b.1 b.2
theorem bid_length (b : Bl) : (bid b).length = 8 := dg_length _
/-- what is wrong with a blob -/
def bErr (b : Bl) : Int := if b.1 = 1 ∨ b.1 = 2 ∨ b.1 = 3 then (if 4096 < b.2.length then 2 else 0) else 5
theorem bErr_ok {b : Bl} (h : bErr b = 0) : kOK b.1 ∧ b.2.length ≤ 4096 := by
  unfold bErr at h
  split at h
  · rename_i hk
    split at h
    · omega
    · exact ⟨hk, by omega⟩
  · omega
/-- what is wrong with blobs, behind those that were -/
def mErr (was : List Bl) : List Bl → Int
  | [] => 0
  | b :: r => if bErr b ≠ 0 then bErr b else if b ∈ was then 10 else if (bid b) ∈ was.map bid then 11 else mErr (was ++ [b]) r
def makeErr (l : List Bl) : Int := if 40 < l.length then 2 else mErr [] l
/-- a row of the list as bytes: the kind, the digest, how many bytes it has in the body -/
def rowB (b : Bl) (p : Bs) : Bs := UInt8.ofNat b.1.toNat :: ((bid b) ++ Nm.put p.length)
def rowsB : List Bl → List Bs → Bs
  | b :: l, p :: ps => rowB b p ++ rowsB l ps
  | _, _ => []
def listB (l : List Bl) (ps : List Bs) : Bs := Nm.put l.length ++ rowsB l ps
def two (n : Nat) : Bs := [UInt8.ofNat (n % 256), UInt8.ofNat (n / 256)]
/-- a pack but for its digest -/
def allB (l : List Bl) (ps : List Bs) : Bs := ps.flatten ++ (listB l ps ++ two (listB l ps).length)
def packB (l : List Bl) (ps : List Bs) : Bs := allB l ps ++ dg (allB l ps)

/-- the rows that are left of a list (body: how long it is; at_: where the next one begins) -/
def ents (body : Nat) : Nat → Bs → Nat → List En → List En × Int
  | 0, l, at_, out => if l ≠ [] ∨ at_ < body then ([], 4) else (out, 0)
  | m + 1, l, at_, out =>
    if l.length < 9 then ([], 3) else
    let k := (l.headD 0).toNat
    if ¬ (k = 1 ∨ k = 2 ∨ k = 3) then ([], 5) else
    let g := Nm.getN (l.drop 9)
    if g.2.2 ≠ 0 then ([], g.2.2) else
    if 4097 < g.1 then ([], 2) else
    if (l.drop 1).take 8 ∈ out.map En.id then ([], 4) else
    if body < at_ + g.1 then ([], 4) else
    ents body m (l.drop (9 + g.2.1)) (at_ + g.1) (out ++ [⟨(l.drop 1).take 8, k, at_, g.1⟩])
/-- the list, of a body that long -/
def lst (body : Nat) (l : Bs) : List En × Int :=
  let g := Nm.getN l
  if g.2.2 ≠ 0 then ([], g.2.2) else if 40 < g.1 then ([], 2) else ents body g.1 (l.drop g.2.1) 0 []
/-- how long the list says it is -/
def lenL (s : Bs) : Nat := (s.getD (s.length - 10) 0).toNat + 256 * (s.getD (s.length - 9) 0).toNat
/-- what List says -/
def ls (s : Bs) : List En × Int :=
  if s.length < 10 then ([], 3) else
  if dg (s.take (s.length - 8)) ≠ s.drop (s.length - 8) then ([], 6) else
  if s.length - 10 < lenL s then ([], 4) else
  lst (s.length - 10 - lenL s) ((s.take (s.length - 10)).drop (s.length - 10 - lenL s))
/-- what One says (op: what Open says) -/
def one (op : Bs → Bs × Int) (s : Bs) (x : En) : Bl × Int :=
  if x.at_ < 0 ∨ x.len < 0 ∨ (s.length : Int) < x.len ∨ (s.length : Int) - x.len < x.at_ then ((0, []), 1) else
  if ¬ (x.kind = 1 ∨ x.kind = 2 ∨ x.kind = 3) then ((0, []), 5) else
  let o := op ((s.drop x.at_.toNat).take x.len.toNat)
  if o.2 ≠ 0 then ((0, []), o.2) else
  if idB x.kind o.1 ≠ x.id then ((0, []), 6) else ((x.kind, o.1), 0)
/-- one by one -/
def ones (op : Bs → Bs × Int) (s : Bs) : List En → List Bl → List Bl × Int
  | [], out => (out, 0)
  | x :: r, out => if (one op s x).2 ≠ 0 then ([], (one op s x).2) else ones op s r (out ++ [(one op s x).1])
/-- what Split says -/
def split (op : Bs → Bs × Int) (s : Bs) : List Bl × Int := if (ls s).2 ≠ 0 then ([], (ls s).2) else ones op s (ls s).1 []

/-- the rows that a pack's list has -/
def entsOf : List Bl → List Bs → Nat → List En
  | b :: l, p :: ps, at_ => ⟨(bid b), b.1, at_, p.length⟩ :: entsOf l ps (at_ + p.length)
  | _, _, _ => []
theorem entsOf_length : ∀ (l : List Bl) (ps : List Bs) (n : Nat), l.length = ps.length → (entsOf l ps n).length = l.length
  | [], _, _, _ => by simp [entsOf]
  | _ :: l, [], _, h => by simp at h
  | b :: l, p :: ps, n, h => by
    simp only [entsOf, List.length_cons]
    rw [entsOf_length l ps _ (by simpa using h)]
theorem kind_byte {k : Int} (h : kOK k) : (UInt8.ofNat k.toNat).toNat = k.toNat ∧ (k.toNat = 1 ∨ k.toNat = 2 ∨ k.toNat = 3) ∧ (k.toNat : Int) = k := by
  rcases h with rfl | rfl | rfl <;> exact ⟨rfl, by decide, rfl⟩

/-- rows that are written are read -/
theorem ents_rows (body : Nat) : ∀ (l was : List Bl) (ps : List Bs) (at_ : Nat) (out : List En), l.length = ps.length → mErr was l = 0 →
    out.map En.id = was.map bid → (∀ p ∈ ps, p.length ≤ 4097) → at_ + ps.flatten.length = body →
    ents body l.length (rowsB l ps) at_ out = (out ++ entsOf l ps at_, 0)
  | [], _, ps, at_, out, hl, _, _, _, hb => by
    have : ps = [] := List.length_eq_zero_iff.1 hl.symm
    subst this
    simp only [List.length_nil, ents, rowsB, entsOf, List.append_nil]
    rw [if_neg]
    simp only [List.flatten_nil, List.length_nil] at hb
    intro h
    rcases h with h | h
    · exact h rfl
    · omega
  | _ :: _, _, [], _, _, hl, _, _, _, _ => by simp at hl
  | b :: l, was, p :: ps, at_, out, hl, he, ho, hp, hb => by
    rw [mErr] at he
    by_cases e0 : bErr b ≠ 0
    · rw [if_pos e0] at he; exact absurd he e0
    rw [if_neg e0] at he
    have e0' : bErr b = 0 := Classical.not_not.1 e0
    obtain ⟨hk, hlen⟩ := bErr_ok e0'
    by_cases e1 : b ∈ was
    · rw [if_pos e1] at he; omega
    rw [if_neg e1] at he
    by_cases e2 : (bid b) ∈ was.map bid
    · rw [if_pos e2] at he; omega
    rw [if_neg e2] at he
    obtain ⟨k0, k1, k2⟩ := kind_byte hk
    have hpl := hp p (List.mem_cons_self ..)
    have hid := bid_length b
    have hdrop9 : (rowsB (b :: l) (p :: ps)).drop 9 = Nm.put p.length ++ rowsB l ps := by
      rw [rowsB, rowB, List.cons_append, List.append_assoc, List.drop_succ_cons, List.drop_append_of_le_length (by omega), List.drop_of_length_le (by omega), List.nil_append]
    have htake : ((rowsB (b :: l) (p :: ps)).drop 1).take 8 = (bid b) := by
      rw [rowsB, rowB, List.cons_append, List.append_assoc, List.drop_succ_cons, List.drop_zero, List.take_append_of_le_length (by omega), List.take_of_length_le (by omega)]
    have hg := Nm.get_put p.length (rowsB l ps) (by omega)
    have hlong : ¬ (rowsB (b :: l) (p :: ps)).length < 9 := by
      rw [rowsB, rowB, List.cons_append, List.length_cons, List.append_assoc, List.length_append]
      omega
    have hhd : ((rowsB (b :: l) (p :: ps)).headD 0).toNat = b.1.toNat := k0
    have hdrop : (rowsB (b :: l) (p :: ps)).drop (9 + (Nm.put p.length).length) = rowsB l ps := by
      rw [← List.drop_drop, hdrop9, List.drop_append_of_le_length (Nat.le_refl _), List.drop_of_length_le (Nat.le_refl _), List.nil_append]
    have hfl : (p :: ps).flatten.length = p.length + ps.flatten.length := by simp
    rw [hfl] at hb
    rw [List.length_cons, ents, if_neg hlong]
    simp only [hhd, hdrop9, htake, hg]
    rw [if_neg (fun h => h k1), if_neg (fun h => h rfl), if_neg (by omega), if_neg (by rw [ho]; exact e2), if_neg (by omega), hdrop]
    rw [ents_rows body l (was ++ [b]) ps (at_ + p.length) _ (by simpa using hl) he (by rw [List.map_append, List.map_append, ho]; rfl) (fun q hq => hp q (List.mem_cons_of_mem _ hq)) (by omega)]
    rw [entsOf, List.append_assoc, k2]
    rfl
end Pk
end Go.Proofs.YtimdioacmojkeaaDoor

namespace Go.Proofs.YtimdioacmojkeaaDoor
namespace Pk

theorem two_back (n : Nat) (h : n < 65536) : (UInt8.ofNat (n % 256)).toNat + 256 * (UInt8.ofNat (n / 256)).toNat = n := by
  rw [UInt8.toNat_ofNat', UInt8.toNat_ofNat']
  omega
theorem two_length (n : Nat) : (two n).length = 2 := rfl
theorem rowB_length (b : Bl) (p : Bs) : (rowB b p).length ≤ 18 := by
  have h1 := bid_length b
  have h2 := Nm.put_length p.length
  rw [rowB, List.length_cons, List.length_append]
  omega
theorem rowsB_length : ∀ (l : List Bl) (ps : List Bs), (rowsB l ps).length ≤ 18 * l.length
  | [], _ => by simp [rowsB]
  | _ :: _, [] => by simp [rowsB]
  | b :: l, p :: ps => by
    have h1 := rowB_length b p
    have h2 := rowsB_length l ps
    rw [rowsB, List.length_append, List.length_cons]
    omega
theorem listB_length (l : List Bl) (ps : List Bs) (h : l.length ≤ 40) : (listB l ps).length ≤ 729 := by
  have h1 := rowsB_length l ps
  have h2 := Nm.put_length l.length
  rw [listB, List.length_append]
  omega
theorem packB_length (l : List Bl) (ps : List Bs) : (packB l ps).length = ps.flatten.length + (listB l ps).length + 10 := by
  rw [packB, List.length_append, dg_length, allB, List.length_append, List.length_append, two_length]
  omega
theorem flatten_le : ∀ (ps : List Bs), (∀ p ∈ ps, p.length ≤ 4097) → ps.flatten.length ≤ 4097 * ps.length
  | [], _ => by simp
  | p :: ps, h => by
    have h1 := h p (List.mem_cons_self ..)
    have h2 := flatten_le ps fun q hq => h q (List.mem_cons_of_mem _ hq)
    rw [List.flatten_cons, List.length_append, List.length_cons]
    omega

/-- what is packed is listed -/
theorem ls_pack (l : List Bl) (ps : List Bs) (hl : l.length = ps.length) (he : makeErr l = 0) (hp : ∀ p ∈ ps, p.length ≤ 4097) : ls (packB l ps) = (entsOf l ps 0, 0) := by
  unfold makeErr at he
  by_cases h40 : 40 < l.length
  · rw [if_pos h40] at he; omega
  rw [if_neg h40] at he
  have hL := listB_length l ps (by omega)
  have hN := packB_length l ps
  have hA : (allB l ps).length = ps.flatten.length + (listB l ps).length + 2 := by
    rw [allB, List.length_append, List.length_append, two_length]; omega
  have htk : (packB l ps).take ((packB l ps).length - 8) = allB l ps := by
    rw [packB, List.take_append_of_le_length (by rw [← packB]; omega), List.take_of_length_le (by rw [← packB]; omega)]
  have hdr : (packB l ps).drop ((packB l ps).length - 8) = dg (allB l ps) := by
    rw [packB, List.drop_append_of_le_length (by rw [← packB]; omega), List.drop_of_length_le (by rw [← packB]; omega), List.nil_append]
  have hform : packB l ps = (ps.flatten ++ listB l ps) ++ (two (listB l ps).length ++ dg (allB l ps)) := by
    rw [packB]
    generalize dg (allB l ps) = d
    rw [allB]; simp only [List.append_assoc]
  have hpre : (ps.flatten ++ listB l ps).length = (packB l ps).length - 10 := by rw [List.length_append]; omega
  have hb0 : (packB l ps).getD ((packB l ps).length - 10) 0 = UInt8.ofNat ((listB l ps).length % 256) := by
    rw [← hpre, hform, List.getD_eq_getElem?_getD, List.getElem?_append_right (Nat.le_refl _), Nat.sub_self]; rfl
  have hb1 : (packB l ps).getD ((packB l ps).length - 9) 0 = UInt8.ofNat ((listB l ps).length / 256) := by
    rw [show (packB l ps).length - 9 = (ps.flatten ++ listB l ps).length + 1 from by omega, hform, List.getD_eq_getElem?_getD, List.getElem?_append_right (by omega), Nat.add_sub_cancel_left]; rfl
  have hlen : lenL (packB l ps) = (listB l ps).length := by
    unfold lenL
    rw [hb0, hb1]
    exact two_back _ (by omega)
  have hmid : ((packB l ps).take ((packB l ps).length - 10)).drop ((packB l ps).length - 10 - (listB l ps).length) = listB l ps := by
    rw [← hpre, hform, List.take_append_of_le_length (Nat.le_refl _), List.take_of_length_le (Nat.le_refl _), List.length_append, Nat.add_sub_cancel, List.drop_append_of_le_length (Nat.le_refl _), List.drop_of_length_le (Nat.le_refl _), List.nil_append]
  unfold ls
  rw [if_neg (by omega), htk, hdr, if_neg (fun h => h rfl), hlen, if_neg (by omega), hmid, show (packB l ps).length - 10 - (listB l ps).length = ps.flatten.length from by omega]
  have hg := Nm.get_put l.length (rowsB l ps) (by omega)
  have hd : (listB l ps).drop (Nm.put l.length).length = rowsB l ps := by
    rw [listB, List.drop_append_of_le_length (Nat.le_refl _), List.drop_of_length_le (Nat.le_refl _), List.nil_append]
  unfold lst
  rw [show Nm.getN (listB l ps) = (l.length, (Nm.put l.length).length, 0) from hg]
  simp only [hd]
  rw [if_neg (fun h => h rfl), if_neg h40, ents_rows _ l [] ps 0 [] hl he rfl hp (by omega), List.nil_append]

/-- each blob at its place -/
theorem one_of (op : Bs → Bs × Int) (b : Bl) (p pre post : Bs) (hb : bErr b = 0) (hop : op p = (b.2, 0)) :
    one op (pre ++ (p ++ post)) ⟨bid b, b.1, (pre.length : Nat), (p.length : Nat)⟩ = (b, 0) := by
  obtain ⟨hk, _⟩ := bErr_ok hb
  have e : ((pre ++ (p ++ post)).drop pre.length).take p.length = p := by
    rw [List.drop_append_of_le_length (Nat.le_refl _), List.drop_of_length_le (Nat.le_refl _), List.nil_append, List.take_append_of_le_length (Nat.le_refl _), List.take_of_length_le (Nat.le_refl _)]
  unfold one
  rw [if_neg (by simp only [List.length_append]; omega), if_neg (fun h => h hk)]
  simp only [Int.toNat_natCast, e, hop]
  rw [if_neg (fun h => h rfl), if_neg (fun h => h rfl)]
theorem mErr_each : ∀ (l was : List Bl), mErr was l = 0 → ∀ b ∈ l, bErr b = 0
  | [], _, _, _, hb => by simp at hb
  | a :: l, was, h, b, hb => by
    rw [mErr] at h
    by_cases e0 : bErr a ≠ 0
    · rw [if_pos e0] at h; exact absurd h e0
    rw [if_neg e0] at h
    split at h
    · omega
    split at h
    · omega
    rcases List.mem_cons.1 hb with rfl | hb
    · exact Classical.not_not.1 e0
    · exact mErr_each l _ h b hb
/-- blobs and what they are pressed to -/
def Prs (op : Bs → Bs × Int) : List Bl → List Bs → Prop
  | [], [] => True
  | b :: l, p :: ps => op p = (b.2, 0) ∧ p.length ≤ 4097 ∧ Prs op l ps
  | _, _ => False
theorem Prs.length {op : Bs → Bs × Int} : ∀ {l : List Bl} {ps : List Bs}, Prs op l ps → l.length = ps.length
  | [], [], _ => rfl
  | [], _ :: _, h => h.elim
  | _ :: _, [], h => h.elim
  | _ :: l, _ :: ps, h => by rw [List.length_cons, List.length_cons, Prs.length h.2.2]
theorem Prs.le {op : Bs → Bs × Int} : ∀ {l : List Bl} {ps : List Bs}, Prs op l ps → ∀ p ∈ ps, p.length ≤ 4097
  | [], [], _, _, hp => by simp at hp
  | [], _ :: _, h, _, _ => h.elim
  | _ :: _, [], h, _, _ => h.elim
  | _ :: l, q :: ps, h, p, hp => by
    rcases List.mem_cons.1 hp with rfl | hp
    · exact h.2.1
    · exact Prs.le h.2.2 p hp
/-- every row of the list tells its blob -/
theorem one_each (op : Bs → Bs × Int) (s post : Bs) : ∀ (l : List Bl) (ps : List Bs) (pre : Bs), Prs op l ps → (∀ b ∈ l, bErr b = 0) → s = pre ++ (ps.flatten ++ post) →
    ∀ (i : Nat) (h : i < l.length), ∃ x, (entsOf l ps pre.length)[i]? = some x ∧ one op s x = (l[i], 0) ∧ x.id = bid l[i] ∧ x.kind = l[i].1
  | [], _, _, _, _, _, i, h => by simp at h
  | _ :: _, [], _, h, _, _, _, _ => h.elim
  | b :: l, p :: ps, pre, hP, hb, hs, i, h => by
    cases i with
    | zero =>
      refine ⟨_, rfl, ?_, rfl, rfl⟩
      rw [hs, List.flatten_cons, List.append_assoc]
      exact one_of op b p pre _ (hb b (List.mem_cons_self ..)) hP.1
    | succ i =>
      have := one_each op s post l ps (pre ++ p) hP.2.2 (fun a ha => hb a (List.mem_cons_of_mem _ ha)) (by rw [hs, List.flatten_cons]; simp only [List.append_assoc]) i (by simpa using h)
      rw [List.length_append] at this
      exact this
theorem ones_all (op : Bs → Bs × Int) (s post : Bs) : ∀ (l : List Bl) (ps : List Bs) (pre : Bs) (out : List Bl), Prs op l ps → (∀ b ∈ l, bErr b = 0) → s = pre ++ (ps.flatten ++ post) →
    ones op s (entsOf l ps pre.length) out = (out ++ l, 0)
  | [], [], _, out, _, _, _ => by simp [entsOf, ones]
  | [], _ :: _, _, _, h, _, _ => h.elim
  | _ :: _, [], _, _, h, _, _ => h.elim
  | b :: l, p :: ps, pre, out, hP, hb, hs => by
    have h1 : one op s ⟨bid b, b.1, (pre.length : Nat), (p.length : Nat)⟩ = (b, 0) := by
      rw [hs, List.flatten_cons, List.append_assoc]
      exact one_of op b p pre _ (hb b (List.mem_cons_self ..)) hP.1
    have h2 := ones_all op s post l ps (pre ++ p) (out ++ [b]) hP.2.2 (fun a ha => hb a (List.mem_cons_of_mem _ ha)) (by rw [hs, List.flatten_cons]; simp only [List.append_assoc])
    rw [List.length_append] at h2
    rw [entsOf, ones, h1, if_neg (fun h => h rfl), h2, List.append_assoc]
    rfl
theorem packB_form (l : List Bl) (ps : List Bs) : packB l ps = [] ++ (ps.flatten ++ (listB l ps ++ two (listB l ps).length ++ dg (allB l ps))) := by
  rw [packB]
  generalize dg (allB l ps) = d
  rw [allB, List.nil_append, List.append_assoc, List.append_assoc]
theorem makeErr_each {l : List Bl} (h : makeErr l = 0) : ∀ b ∈ l, bErr b = 0 := by
  unfold makeErr at h
  split at h
  · omega
  · exact mErr_each l [] h
/-- PackBack's own -/
theorem split_pack (op : Bs → Bs × Int) (l : List Bl) (ps : List Bs) (he : makeErr l = 0) (hP : Prs op l ps) : split op (packB l ps) = (l, 0) := by
  rw [split, ls_pack l ps hP.length he hP.le, if_neg (fun h => h rfl)]
  exact ones_all op _ _ l ps [] [] hP (makeErr_each he) (packB_form l ps)
theorem one_pack (op : Bs → Bs × Int) (l : List Bl) (ps : List Bs) (he : makeErr l = 0) (hP : Prs op l ps) (i : Nat) (h : i < l.length) :
    ∃ x, (entsOf l ps 0)[i]? = some x ∧ one op (packB l ps) x = (l[i], 0) ∧ x.id = bid l[i] ∧ x.kind = l[i].1 :=
  one_each op _ _ l ps [] hP (makeErr_each he) (packB_form l ps) i h

theorem dg_inj (s t : Bs) (h : dg s = dg t) : Mx.narrow 64 s = Mx.narrow 64 t := by
  unfold dg at h
  exact low8_inj (Mx.narrow_lt 64 s) (Mx.narrow_lt 64 t) h
theorem byte_take (u : Bs) (n j : Nat) : Mx.byteAt (u.take n) j = if j < n then (u.getD j 0).toNat else 0 := by
  unfold Mx.byteAt
  rw [List.getD_eq_getElem?_getD, List.getElem?_take]
  split
  · rw [List.getD_eq_getElem?_getD]
  · rfl
/-- texts of one length that are unlike in one byte have unlike digests -/
theorem dg_other (s t : Bs) (k n : Nat) (hl : s.length = t.length) (hsz : s.length < 18446744073709551616) (hkn : k < n) (hne : s.getD k 0 ≠ t.getD k 0) (hsame : ∀ j, j ≠ k → s.getD j 0 = t.getD j 0) : dg (s.take n) ≠ dg (t.take n) := by
  intro h
  have heq := Mx.apart (s.take n) (t.take n) (k / 8) (by rw [List.length_take, List.length_take, hl]) (by rw [List.length_take]; exact Nat.lt_of_le_of_lt (Nat.min_le_right _ _) hsz) (fun j hj => by
    rw [byte_take, byte_take, hsame j (fun e => hj (by rw [e]))]) (dg_inj _ _ h)
  have h1 := byte_take s n k
  have h2 := byte_take t n k
  rw [if_pos hkn] at h1 h2
  rw [heq] at h1
  exact hne (UInt8.toNat_inj.1 (h1.symm.trans h2))
/-- PackTells' own: of a pack in which one byte was changed nothing is told -/
theorem ls_other (s t : Bs) (k : Nat) (hl : s.length = t.length) (hsz : s.length < 18446744073709551616) (hs : (ls s).2 = 0) (hk : k < s.length) (hne : s.getD k 0 ≠ t.getD k 0) (hsame : ∀ j, j ≠ k → s.getD j 0 = t.getD j 0) : ls t = ([], 6) := by
  unfold ls at hs
  by_cases h10 : s.length < 10
  · rw [if_pos h10] at hs; simp at hs
  rw [if_neg h10] at hs
  by_cases hsum : dg (s.take (s.length - 8)) ≠ s.drop (s.length - 8)
  · rw [if_pos hsum] at hs; simp at hs
  clear hs
  have hsum := Classical.not_not.1 hsum
  unfold ls
  rw [← hl, if_neg h10, if_pos]
  intro ht
  by_cases hlt : k < s.length - 8
  · have hd : s.drop (s.length - 8) = t.drop (s.length - 8) := by
      apply List.ext_getElem?
      intro i
      rw [List.getElem?_drop, List.getElem?_drop]
      by_cases hi : s.length - 8 + i < s.length
      · have := hsame (s.length - 8 + i) (by omega)
        rw [List.getD_eq_getElem?_getD, List.getD_eq_getElem?_getD, List.getElem?_eq_getElem hi, List.getElem?_eq_getElem (by omega)] at this
        rw [List.getElem?_eq_getElem hi, List.getElem?_eq_getElem (by omega)]
        exact congrArg some this
      · rw [List.getElem?_eq_none (by omega), List.getElem?_eq_none (by omega)]
    exact dg_other s t k _ hl hsz hlt hne hsame (by rw [hsum, hd, ht])
  · have htk : s.take (s.length - 8) = t.take (s.length - 8) := by
      apply List.ext_getElem?
      intro i
      rw [List.getElem?_take, List.getElem?_take]
      by_cases hi : i < s.length - 8
      · rw [if_pos hi, if_pos hi]
        have := hsame i (by omega)
        rw [List.getD_eq_getElem?_getD, List.getD_eq_getElem?_getD, List.getElem?_eq_getElem (by omega), List.getElem?_eq_getElem (by omega)] at this
        rw [List.getElem?_eq_getElem (by omega), List.getElem?_eq_getElem (by omega)]
        exact congrArg some this
      · rw [if_neg hi, if_neg hi]
    have hd : s.drop (s.length - 8) = t.drop (s.length - 8) := by rw [← hsum, htk, ht]
    have := congrArg (fun u => u[k - (s.length - 8)]?) hd
    simp only [List.getElem?_drop] at this
    rw [show s.length - 8 + (k - (s.length - 8)) = k from by omega] at this
    apply hne
    rw [List.getD_eq_getElem?_getD, List.getD_eq_getElem?_getD, this]
theorem split_other (op : Bs → Bs × Int) (t : Bs) (h : ls t = ([], 6)) : split op t = ([], 6) := by
  rw [split, h, if_pos (by decide)]

/-- PackTrue's own: a blob that is told has the digest that it was looked for by -/
theorem one_true (op : Bs → Bs × Int) (s : Bs) (x : En) (hop : ∀ u, (op u).2 = 0 → (op u).1.length ≤ 4096) :
    ((one op s x).2 ≠ 0 → (one op s x).1 = (0, [])) ∧ ((one op s x).2 = 0 → bErr (one op s x).1 = 0 ∧ bid (one op s x).1 = x.id ∧ (one op s x).1.1 = x.kind) := by
  unfold one
  split
  · exact ⟨fun _ => rfl, fun h => by simp at h⟩
  split
  · exact ⟨fun _ => rfl, fun h => by simp at h⟩
  rename_i hk
  simp only
  split
  · rename_i h0
    exact ⟨fun _ => rfl, fun h => absurd h h0⟩
  rename_i h0
  split
  · exact ⟨fun _ => rfl, fun h => by simp at h⟩
  rename_i h1
  refine ⟨fun h => absurd rfl h, fun _ => ⟨?_, Classical.not_not.1 h1, rfl⟩⟩
  unfold bErr
  have := hop _ (Classical.not_not.1 h0)
  rw [if_pos (Classical.not_not.1 hk), if_neg (by show ¬ 4096 < (op _).1.length; omega)]
end Pk
end Go.Proofs.YtimdioacmojkeaaDoor

namespace Go.Proofs.YtimdioacmojkeaaDoor
open Go.RowKit

/-- a blob as it is handed in -/
structure Blb where
  kind : Int
  bytes : ByteArray

def Blb.p (b : Blb) : Pk.Bl := (b.kind, b.bytes.data.toList)

theorem Blb.p_inj {a b : Blb} (h : a.p = b.p) : a = b := by
  obtain ⟨k, ⟨⟨s⟩⟩⟩ := a
  obtain ⟨k', ⟨⟨s'⟩⟩⟩ := b
  simp only [Blb.p, Prod.mk.injEq] at h
  obtain ⟨rfl, rfl⟩ := h
  rfl

def blC (b : Blb) : List Value := [.int .i64 b.kind, .string b.bytes]

def blV (b : Blb) : Value := .agg #[.int .i64 b.kind, .string b.bytes]

theorem blC_length (b : Blb) : (blC b).length = 2 := rfl

theorem blC_one (b : Blb) : ∀ u ∈ blC b, u.oneCell' = true := by
  intro u hu
  simp [blC] at hu
  rcases hu with rfl | rfl <;> rfl

/-- a row of a pack's list as it is handed in -/
structure Ent where
  id : List UInt8
  hid : id.length = 8
  kind : Int
  at_ : Int
  len : Int

def Ent.p (e : Ent) : Pk.En := ⟨e.id, e.kind, e.at_, e.len⟩

def enC (e : Ent) : List Value := e.id.map B ++ [.int .i64 e.kind, .int .i64 e.at_, .int .i64 e.len]

def enV (e : Ent) : Value := .agg (enC e).toArray

theorem enC_length (e : Ent) : (enC e).length = 11 := by rw [enC, List.length_append, List.length_map, e.hid]; rfl

theorem enC_one (e : Ent) : ∀ u ∈ enC e, u.oneCell' = true := by
  intro u hu
  rw [enC, List.mem_append] at hu
  rcases hu with hu | hu
  · obtain ⟨b, _, rfl⟩ := List.mem_map.1 hu; rfl
  · simp only [List.mem_cons, List.not_mem_nil, or_false] at hu
    rcases hu with rfl | rfl | rfl <;> rfl

abbrev Bx := Rx 2 blC

abbrev Ex := Rx 11 enC

theorem Rx.blob {w : World} {a : Option Addr} {n c : Nat} {l : List Blb} (h : Bx w (.slice a n c) l) (j : Nat) (t : Blb) (hj : l[j]? = some t) : ∃ bk o, a = some ⟨bk, o, none⟩ ∧ bk < w.heap.size ∧
    w.cell? ⟨bk, o + j * 2, none⟩ = some (.int .i64 t.kind) ∧ w.cell? ⟨bk, o + j * 2 + 1, none⟩ = some (.string t.bytes) := by
  obtain ⟨bk, o, h1, h2, h3⟩ := h.get j t hj
  exact ⟨bk, o, h1, h2, h3 0 _ rfl, h3 1 _ rfl⟩

end Go.Proofs.YtimdioacmojkeaaDoor

namespace Go.Proofs.YtimdioacmojkeaaDoor
open Go.RowKit Go.ChangeShapes Go.WideShapes Go.Deep Go.Joins
set_option maxRecDepth 20000

section
variable {H : Type} {enc : TypeId × Value → H} {w : World} {base : Nat} {spare : Nat → Bool} {held : Bool}

theorem choose_row {α : Type} {q : Nat → α → Prop} : ∀ (n : Nat), (∀ i, i < n → ∃ t, q i t) → ∃ l : List α, l.length = n ∧ ∀ i t, l[i]? = some t → q i t
  | 0, _ => ⟨[], rfl, fun i t h => by simp at h⟩
  | n + 1, h => by
    obtain ⟨l, hl, hq⟩ := choose_row n fun i hi => h i (by omega)
    obtain ⟨t, ht⟩ := h n (by omega)
    refine ⟨l ++ [t], by simp [hl], fun i u hu => ?_⟩
    by_cases hi : i < n
    · rw [List.getElem?_append_left (by omega)] at hu
      exact hq i u hu
    · have : i = n := by
        have := (List.getElem?_eq_some_iff.1 hu).1
        simp at this
        omega
      subst this
      rw [List.getElem?_append_right (by omega), hl] at hu
      obtain rfl : t = u := by simpa using hu
      exact ht

theorem trod_arr_mk {P : Program} {t e : TypeId} {n m : Nat} {cs : List Value} {xs : List (DataW H × List MemPlace)} (ht : P.underlying t = some (.array n e)) (hl : cs.length = P.cellsOf t) (hx : xs.length = n)
    (h : ∀ i, i < n → DataW.trod enc P w base spare held m e ((cs.drop (i * P.cellsOf e)).take (P.cellsOf e)) = xs[i]?) : DataW.trod enc P w base spare held (m + 1) t cs = some (.agg (xs.map (·.1)), xs.flatMap (·.2)) := by
  unfold DataW.trod
  rw [ht]
  simp only [hl, if_true]
  rw [mapM_some_of_get (List.range n) xs (by rw [List.length_range, hx]) (fun i x hix => by
    obtain ⟨hi, rfl⟩ := List.getElem?_eq_some_iff.1 hix
    rw [List.getElem_range]
    exact h i (by simpa using hi))]
  rfl

def byD (H : Type) (b : UInt8) : DataW H := .lit (.int .u8 (b.toNat : Int))

theorem ce_id : Tryd.prog.cellsOf 24 = 8 := by kernel_rfl

theorem ce_u8 : Tryd.prog.cellsOf 5 = 1 := by kernel_rfl

theorem ce_int : Tryd.prog.cellsOf 3 = 1 := by kernel_rfl

theorem wf_by {n : Int} (h : (Lit.int .u8 n).wf = true) : ∃ b : UInt8, n = (b.toNat : Int) := by
  simp [Lit.wf, IntKind.min, IntKind.max, IntKind.signed, IntKind.bits] at h
  refine ⟨UInt8.ofNat n.toNat, ?_⟩
  rw [UInt8.toNat_ofNat']
  omega

theorem by_opened : ∀ (cs : List Value) (xs : List (DataW H × List MemPlace)), xs.length = cs.length →
    (∀ j, j < cs.length → ∃ m, DataW.trod enc Tryd.prog w base spare held m 5 ((cs.drop j).take 1) = xs[j]?) → ∃ l : List UInt8, cs = l.map B ∧ xs = l.map (fun b => (byD H b, []))
  | [], [], _, _ => ⟨[], rfl, rfl⟩
  | c :: cs, x :: xs, hl, h => by
    obtain ⟨m, h0⟩ := h 0 (by simp)
    obtain ⟨n, hc, hx, hw⟩ := DataW.trod_int Tryd.underlying5 (show DataW.trod enc Tryd.prog w base spare held m 5 [c] = some x from by simpa using h0)
    obtain ⟨b, rfl⟩ := wf_by hw
    obtain ⟨l, hcs, hxs⟩ := by_opened cs xs (by simpa using hl) (fun j hj => by
      obtain ⟨m, hm⟩ := h (j + 1) (by simpa using hj)
      exact ⟨m, by simpa using hm⟩)
    refine ⟨b :: l, ?_, ?_⟩
    · rw [List.map_cons, ← hcs]
      have : c = .int .u8 (b.toNat : Int) := by simpa using hc
      rw [this]; rfl
    · rw [List.map_cons, ← hxs, hx]; rfl

theorem trod_id {l : List UInt8} (hl : l.length = 8) : DataW.trod enc Tryd.prog w base spare held 2 24 (l.map B) = some (.agg (l.map (byD H)), []) := by
  have hb : ∀ b : UInt8, (Lit.int .u8 (b.toNat : Int)).wf = true := fun b => by
    have := b.toNat_lt
    simp [Lit.wf, IntKind.min, IntKind.max, IntKind.signed, IntKind.bits]; omega
  have hlm : (l.map B).length = 8 := by rw [List.length_map, hl]
  have := trod_arr_mk (enc := enc) (w := w) (base := base) (spare := spare) (held := held) (m := 1) (xs := l.map (fun b => (byD H b, ([] : List MemPlace)))) (show Tryd.prog.underlying 24 = some (.array 8 5) from by kernel_rfl) (by rw [ce_id, hlm]) (by rw [List.length_map, hl]) (fun j hj => by
    rw [ce_u8, Nat.mul_one]
    have hjl : j < l.length := by omega
    rw [List.getElem?_map, List.getElem?_eq_getElem hjl]
    have hd : ((l.map B).drop j).take 1 = [B l[j]] := by
      rw [List.drop_eq_getElem_cons (by rw [List.length_map]; exact hjl), List.getElem_map]; rfl
    rw [hd]
    exact trod_int_mk 0 Tryd.underlying5 (hb l[j]))
  rw [this, List.map_map]
  simp [Function.comp_def]

/-- eight bytes of an ID -/
theorem open_id8 {n : Nat} {cs : List Value} {x : DataW H × List MemPlace} (hc : cs.length = 8) (h : DataW.trod enc Tryd.prog w base spare held n 24 cs = some x) :
    ∃ l : List UInt8, l.length = 8 ∧ cs = l.map B ∧ x = (.agg (l.map (byD H)), []) := by
  obtain ⟨xs, m, rfl, hx, _, hxl, hxs⟩ := DataW.trod_array (show Tryd.prog.underlying 24 = some (.array 8 5) from by kernel_rfl) h
  simp only [ce_u8, Nat.mul_one] at hxs
  obtain ⟨l, hl, hxl2⟩ := by_opened (enc := enc) (w := w) (base := base) (spare := spare) (held := held) cs xs (by rw [hxl, hc]) (fun j hj => ⟨m, hxs j (by omega)⟩)
  refine ⟨l, by rw [← List.length_map (f := B), ← hl]; exact hc, hl, ?_⟩
  rw [hx, hxl2]
  simp [List.map_map, Function.comp_def]

/-- rows of things of k cells each -/
theorem open_rows {α : Type} {k : Nat} {C : α → List Value} {q : α → Prop} {T E : TypeId} (hu : Tryd.prog.underlying T = some (.slice E)) (hk : Tryd.prog.cellsOf E = k) (hk0 : 0 < k) (hC : ∀ t, (C t).length = k)
    (ho : ∀ n cs (x : DataW H × List MemPlace), cs.length = k → DataW.trod enc Tryd.prog w base spare held n E cs = some x → ∃ t, cs = C t ∧ q t)
    {fuel : Nat} {sa : Option Addr} {len cap : Nat} {x : DataW H × List MemPlace} (h : DataW.trod enc Tryd.prog w base spare held fuel T [.slice sa len cap] = some x) (hlt : ∀ y ∈ x.2, y.block < w.heap.size) :
    ∃ l : List α, Rx k C w (.slice sa len cap) l ∧ (∀ b ∈ l, q b) ∧ (l.length = 0 ∨ ∃ elems sp, x.1 = .slice elems sp ∧ l.length = elems.length) := by
  rcases open_slice hu h with ⟨hcs, hx⟩ | ⟨a, len', cap', m, n, D, Pl, hcs, _, hl, hm, hmm, hx, hall⟩
  · simp at hcs
    obtain ⟨rfl, rfl, rfl⟩ := hcs
    exact ⟨[], ⟨.inl ⟨⟨_, _, rfl⟩, rfl⟩, _, _, _, rfl, Nat.le_refl _, by omega⟩, (fun b hb => by simp at hb), .inl rfl⟩
  · simp at hcs
    obtain ⟨rfl, rfl, rfl⟩ := hcs
    have hlm : len ≤ m := by rw [hmm]; split <;> omega
    rw [hk] at hall
    obtain ⟨L, hL, hT⟩ := choose_row (q := fun i t => w.cells? base (a.add (i * k)) k = some (C t) ∧ q t) len (fun i hi => by
      obtain ⟨cs', h1, h2⟩ := hall i (by omega)
      obtain ⟨_, hlen, _⟩ := World.cells?_some h1
      obtain ⟨t, rfl, h3⟩ := ho _ _ _ hlen h2
      exact ⟨t, h1, h3⟩)
    subst hx
    have hm' : cap ≤ 9223372036854775807 := by unfold maxLen at hm; omega
    have hok : ∀ b ∈ L, q b := fun b hb => by
      obtain ⟨i, hi, rfl⟩ := List.getElem_of_mem hb
      exact (hT i _ (List.getElem?_eq_getElem hi)).2
    refine ⟨L, ?_, hok, .inr ⟨_, _, rfl, by simp [hL]⟩⟩
    by_cases hc0 : len = 0
    · subst hc0
      exact ⟨.inl ⟨⟨_, _, rfl⟩, List.length_eq_zero_iff.1 hL⟩, _, _, _, rfl, hl, hm'⟩
    · have hcell : ∀ j t, L[j]? = some t → ∀ r v, (C t)[r]? = some v → w.cell? (a.add (j * k + r)) = some v := fun j t hj r v hv => by
        obtain ⟨_, hlen, hc⟩ := World.cells?_some (hT j t hj).1
        have hr : r < k := by
          have := (List.getElem?_eq_some_iff.1 hv).1
          rwa [hC] at this
        have := hc r hr
        rw [add_add, hv] at this
        exact this
      obtain ⟨b, off, spot⟩ := a
      have hspot : spot = none := by
        have h0 : ((C (L[0]'(by omega)))[0]?) = some ((C (L[0]'(by omega)))[0]'(by rw [hC]; exact hk0)) := List.getElem?_eq_getElem _
        simpa [Addr.add] using World.cell?_spot (hcell 0 _ (List.getElem?_eq_getElem (by omega)) 0 _ h0)
      subst hspot
      have hpos : 0 < m * k := Nat.mul_pos (by omega) hk0
      have hbW : b < w.heap.size := hlt (.cell b off) (List.mem_append_left _ (MemPlace.mem_row.2 ⟨0, by rw [hk]; exact hpos, by simp⟩))
      refine ⟨.inr ⟨b, off, cap, by rw [hL], hbW, fun j t hj r u hu => ?_⟩, _, _, _, rfl, hl, hm'⟩
      have e := hcell j t hj r u hu
      rw [add_plain] at e
      rw [Nat.add_assoc]
      exact e

theorem okWide_arr {P : Program} {r : Reach} {b0 : Nat} {t e : TypeId} {n : Nat} {v : Value} (ht : P.underlying t = some (.array n e)) (h : Value.okWide P w r b0 t v) : ∃ cs, v = .agg cs ∧ cs.size = P.cellsOf t := by
  simp only [Value.okWide, ht] at h
  obtain ⟨cs, h1, h2, _⟩ := h
  exact ⟨cs, h1, h2⟩

theorem open_idv {r : Reach} {b0 : Nat} {v : Value} {d : DataW H} {p : List MemPlace} (hv : Value.okWide Tryd.prog w r b0 24 v) (h : DataW.Trod enc Tryd.prog w base spare held 24 v d p) :
    ∃ l : List UInt8, v = idV l ∧ d = .agg (l.map (byD H)) ∧ p = [] ∧ l.length = 8 := by
  obtain ⟨cs, rfl, hsz⟩ := okWide_arr (show Tryd.prog.underlying 24 = some (.array 8 5) from by kernel_rfl) hv
  rw [ce_id] at hsz
  obtain ⟨fuel, hf⟩ := h
  obtain ⟨l, hl, hcs, hx⟩ := open_id8 (cs := cs.toList) (by simpa using hsz) hf
  obtain ⟨rfl, rfl⟩ := Prod.mk.inj hx
  refine ⟨l, ?_, rfl, rfl, hl⟩
  have : cs.toList = l.map B := hcs
  rw [idV, ← this]

theorem shut_idv {l : List UInt8} (hl : l.length = 8) : DataW.Trod enc Tryd.prog w base spare held 24 (idV l) (.agg (l.map (byD H))) [] :=
  ⟨2, trod_id hl⟩

end

end Go.Proofs.YtimdioacmojkeaaDoor

namespace Go.Proofs.YtimdioacmojkeaaDoor
open Go.RowKit Go.ChangeShapes Go.WideShapes Go.Deep Go.Joins
set_option maxRecDepth 20000

/-- what is sure of blobs that come in -/
def BOk (l : List Blb) : Prop := ∀ b ∈ l, (Lit.int .i64 b.kind).wf = true ∧ b.bytes.size ≤ 9223372036854775807

def EOk (e : Ent) : Prop := (Lit.int .i64 e.kind).wf = true ∧ (Lit.int .i64 e.at_).wf = true ∧ (Lit.int .i64 e.len).wf = true

section
variable {H : Type} {enc : TypeId × Value → H} {w : World} {base : Nat} {spare : Nat → Bool} {held : Bool}

theorem bl_fields : ∃ f0 f1, Tryd.prog.underlying 34 = some (.struct #[f0, f1]) ∧ f0.type = 3 ∧ f0.offset = 0 ∧ f1.type = 9 ∧ f1.offset = 1 :=
  ⟨_, _, Tryd.underlying34, rfl, rfl, rfl, rfl⟩

theorem open_blob {n : Nat} {cs : List Value} {x : DataW H × List MemPlace} (hc : cs.length = 2) (h : DataW.trod enc Tryd.prog w base spare held n 34 cs = some x) : ∃ t : Blb, cs = blC t ∧ (Lit.int .i64 t.kind).wf = true ∧ t.bytes.size ≤ 9223372036854775807 := by
  obtain ⟨f0, f1, hu, t0, o0, t1, o1⟩ := bl_fields
  have k0 : Tryd.prog.cellsOf 3 = 1 := by kernel_rfl
  have k1 : Tryd.prog.cellsOf 9 = 1 := by kernel_rfl
  obtain ⟨y0, y1, m, _, _, g0, g1⟩ := trod_struct2 hu h
  match cs, hc with
  | [v0, v1], _ =>
    simp only [t0, o0, k0, t1, o1, k1] at g0 g1
    obtain ⟨a, ha, _, hw⟩ := DataW.trod_int Tryd.underlying3 g0
    obtain ⟨b, hb, _, hs⟩ := DataW.trod_string Tryd.underlying9 g1
    obtain rfl : v0 = .int .i64 a := by simpa using ha
    obtain rfl : v1 = .string b := by simpa using hb
    exact ⟨⟨a, b⟩, rfl, hw, by unfold maxLen at hs; exact hs⟩

theorem open_blobs {fuel : Nat} {sa : Option Addr} {len cap : Nat} {x : DataW H × List MemPlace} (h : DataW.trod enc Tryd.prog w base spare held fuel 22 [.slice sa len cap] = some x) (hlt : ∀ y ∈ x.2, y.block < w.heap.size) :
    ∃ l : List Blb, Bx w (.slice sa len cap) l ∧ BOk l ∧ (l.length = 0 ∨ ∃ elems sp, x.1 = .slice elems sp ∧ l.length = elems.length) := by
  rcases open_slice Tryd.underlying22 h with ⟨hcs, hx⟩ | ⟨a, len', cap', m, n, D, Pl, hcs, _, hl, hm, hmm, hx, hall⟩
  · simp at hcs
    obtain ⟨rfl, rfl, rfl⟩ := hcs
    exact ⟨[], ⟨.inl ⟨⟨_, _, rfl⟩, rfl⟩, _, _, _, rfl, Nat.le_refl _, by omega⟩, (fun b hb => by simp at hb), .inl rfl⟩
  · simp at hcs
    obtain ⟨rfl, rfl, rfl⟩ := hcs
    have hlm : len ≤ m := by rw [hmm]; split <;> omega
    have k3 : Tryd.prog.cellsOf 34 = 2 := by kernel_rfl
    rw [k3] at hall
    obtain ⟨L, hL, hT⟩ := choose_row (q := fun i t => w.cells? base (a.add (i * 2)) 2 = some (blC t) ∧ (Lit.int .i64 t.kind).wf = true ∧ t.bytes.size ≤ 9223372036854775807) len (fun i hi => by
      obtain ⟨cs', h1, h2⟩ := hall i (by omega)
      obtain ⟨_, hlen, _⟩ := World.cells?_some h1
      obtain ⟨t, rfl, h3⟩ := open_blob hlen h2
      exact ⟨t, h1, h3⟩)
    subst hx
    have hm' : cap ≤ 9223372036854775807 := by unfold maxLen at hm; omega
    have hok : BOk L := fun b hb => by
      obtain ⟨i, hi, rfl⟩ := List.getElem_of_mem hb
      exact (hT i _ (List.getElem?_eq_getElem hi)).2
    refine ⟨L, ?_, hok, .inr ⟨_, _, rfl, by simp [hL]⟩⟩
    by_cases hc0 : len = 0
    · subst hc0
      exact ⟨.inl ⟨⟨_, _, rfl⟩, List.length_eq_zero_iff.1 hL⟩, _, _, _, rfl, hl, hm'⟩
    · have hcell : ∀ j t, L[j]? = some t → ∀ r v, (blC t)[r]? = some v → w.cell? (a.add (j * 2 + r)) = some v := fun j t hj r v hv => by
        obtain ⟨_, hlen, hc⟩ := World.cells?_some (hT j t hj).1
        have hr : r < 2 := by
          have := (List.getElem?_eq_some_iff.1 hv).1
          simpa [blC] using this
        have := hc r hr
        rw [add_add, hv] at this
        exact this
      obtain ⟨b, off, spot⟩ := a
      have hspot : spot = none := by simpa [Addr.add] using World.cell?_spot (hcell 0 _ (List.getElem?_eq_getElem (by omega)) 0 _ rfl)
      subst hspot
      have hbW : b < w.heap.size := hlt (.cell b off) (List.mem_append_left _ (MemPlace.mem_row.2 ⟨0, by rw [k3]; omega, by simp⟩))
      refine ⟨.inr ⟨b, off, cap, by rw [hL], hbW, fun j t hj r u hu => ?_⟩, _, _, _, rfl, hl, hm'⟩
      have e := hcell j t hj r u hu
      rw [add_plain] at e
      rw [Nat.add_assoc]
      exact e

def entD (H : Type) (e : Ent) : DataW H := .agg [.agg (e.id.map (byD H)), .lit (.int .i64 e.kind), .lit (.int .i64 e.at_), .lit (.int .i64 e.len)]

end

end Go.Proofs.YtimdioacmojkeaaDoor

namespace Go.Proofs.YtimdioacmojkeaaDoor
open Go.RowKit Go.WideMaps
open Go.Maps (Keyed IsMap)
set_option maxRecDepth 20000

theorem laid_out : laidOutB Tryd.prog = true := by kernel_rfl

theorem id_row : (24 : TypeId) < Tryd.prog.types.size := of_decide_eq_true (by kernel_rfl)

theorem id_under : Tryd.prog.underlying 24 = some (.array 8 5) := by kernel_rfl

theorem id_wide : (match Tryd.prog.underlying 24 with | some (.array _ _) | some (.struct _) => true | _ => false) = true := by rw [id_under]

theorem id_law : KeyLaw Tryd.prog 24 := deep_law_laid laid_out (m := 2) (by omega) id_row (by kernel_rfl) id_wide

theorem id_keyed : Keyed Tryd.prog 24 := Keyed.of_law id_law

theorem id_arr : ArrKey Tryd.prog 24 5 8 := ⟨id_under, by kernel_rfl, by kernel_rfl, ce_id⟩

theorem some_types : ∃ m, Tryd.prog.types.size = m + 1 := ⟨_, (Nat.succ_pred_eq_of_pos (Nat.lt_of_le_of_lt (Nat.zero_le _) id_row)).symm⟩

theorem key_there {x : List UInt8} (hx : x.length = 8) : ∃ l, keyOf Tryd.prog 24 (.agg (x.map B).toArray) = some l := by
  obtain ⟨ls, _, _, h⟩ := open_arr (H := Unit) (enc := fun _ => ()) (W := World.settled Tryd.prog default) (base := 0) (sp := fun _ => true) (held := true) id_arr Tryd.underlying5 some_types (xs := (x.map B).toArray) (by simp [hx]) ⟨2, by
    have := trod_id (H := Unit) (enc := fun _ => ()) (w := World.settled Tryd.prog default) (base := 0) (spare := fun _ => true) (held := true) hx
    simpa [Value.cells] using this⟩
  exact ⟨_, h⟩

def kl (P : Program) (x : List UInt8) : Lit := (keyOf P 24 (.agg (x.map B).toArray)).getD (.bool false)

theorem kl_key {x : List UInt8} (hx : x.length = 8) : keyOf Tryd.prog 24 (.agg (x.map B).toArray) = some (kl Tryd.prog x) := by
  obtain ⟨l, h⟩ := key_there hx
  rw [kl, h]; rfl

theorem B_inj {a b : UInt8} (h : B a = B b) : a = b := by
  simp only [B, Value.int.injEq, true_and] at h
  exact UInt8.toNat_inj.1 (by exact_mod_cast h)

theorem idV_inj {x y : List UInt8} (h : (Value.agg (x.map B).toArray) = .agg (y.map B).toArray) : x = y := by
  have h := congrArg Array.toList (Value.agg.inj h)
  have h : x.map B = y.map B := h
  exact (List.map_inj_right fun _ _ => B_inj).1 h

theorem kl_inj {x y : List UInt8} (hx : x.length = 8) (hy : y.length = 8) (h : kl Tryd.prog x = kl Tryd.prog y) : x = y := by
  have h1 := kl_key hx
  have h2 := kl_key hy
  rw [h] at h1
  exact idV_inj (id_keyed.inj h1 h2)

/-- an element as it is -/
def heldE (v : Value) : Option (DataW Value × List MemPlace) := some (.held v, [])

theorem heldE_inv {v z : Value} {ps : List MemPlace} (h : heldE v = some (.held z, ps)) : v = z := by
  simp only [heldE, Option.some.injEq, Prod.mk.injEq, DataW.held.injEq] at h
  exact h.1

/-- block b is a map of at most n entries: these keys and what stands at them -/
def Mp (w : World) (b n : Nat) (l : List (List UInt8 × Value)) : Prop :=
  ∃ D, w.ownsMap Tryd.prog 24 heldE b n D ∧ (∀ x, x.length = 8 → x ∉ l.map (·.1) → Maps.has D (kl Tryd.prog x) = false) ∧ ∀ p ∈ l, p.1.length = 8 ∧ Maps.has D (kl Tryd.prog p.1) = true ∧ ∀ z, D.atKey (kl Tryd.prog p.1) z = .held p.2

theorem Mp.new (w : World) : Mp (w.alloc (.map #[] 0)) w.heap.size 0 [] :=
  ⟨_, World.ownsMap_made w Tryd.prog 24 heldE, fun _ _ _ => rfl, fun p hp => by simp at hp⟩

theorem Mp.lt {w : World} {b n : Nat} {l : List (List UInt8 × Value)} (h : Mp w b n l) : b < w.heap.size := by
  obtain ⟨D, h, _⟩ := h
  exact h.lt

theorem Mp.kept {p : Nat → Prop} {w w' : World} {b n : Nat} {l : List (List UInt8 × Value)} (h : Mp w b n l) (hk : Kept p w w') (hp : p b) : Mp w' b n l := by
  obtain ⟨D, h, h2⟩ := h
  have hlt := h.lt
  obtain ⟨es, clock, hb, F, hs, hD⟩ := h
  exact ⟨D, ⟨es, clock, (hk.block b hlt hp).trans hb, F, hs, hD⟩, h2⟩

theorem Mp.below {w w' : World} {b n : Nat} {l : List (List UInt8 × Value)} (h : Mp w b n l) (hb : Below w.heap.size w w') : Mp w' b n l := h.kept (Kept.of_below (p := fun _ => True) hb) trivial

theorem Mp.miss {w : World} {b n : Nat} {l : List (List UInt8 × Value)} (h : Mp w b n l) {t e : TypeId} (ht : Tryd.prog.underlying t = some (.map 24 e)) {z : Value} (hz : (zeroValue e).run Tryd.prog w = .ok z w) {x : List UInt8} (hx : x.length = 8) (hn : x ∉ l.map (·.1)) :
    (Instr.lookup t (.map (some b)) (.agg (x.map B).toArray) true).run Tryd.prog w = .ok (.tuple #[z, .bool false]) w := by
  obtain ⟨D, h, h1, h2⟩ := h
  obtain ⟨v, ps, hr, hv⟩ := h.look_ok id_keyed ht hz (zd := .held z) (zp := []) rfl (kl_key hx)
  rw [h1 x hx hn] at hr
  rw [Maps.atKey_of_not_has (h1 x hx hn)] at hv
  rw [hr, heldE_inv hv]

theorem Mp.hit {w : World} {b n : Nat} {l : List (List UInt8 × Value)} (h : Mp w b n l) {t e : TypeId} (ht : Tryd.prog.underlying t = some (.map 24 e)) {z : Value} (hz : (zeroValue e).run Tryd.prog w = .ok z w) {p : List UInt8 × Value} (hp : p ∈ l) :
    (Instr.lookup t (.map (some b)) (.agg (p.1.map B).toArray) true).run Tryd.prog w = .ok (.tuple #[p.2, .bool true]) w := by
  obtain ⟨D, h, h1, h2⟩ := h
  obtain ⟨hx, h3, h4⟩ := h2 p hp
  obtain ⟨v, ps, hr, hv⟩ := h.look_ok id_keyed ht hz (zd := .held z) (zp := []) rfl (kl_key hx)
  rw [h3] at hr
  rw [h4] at hv
  rw [hr, heldE_inv hv]

theorem Mp.put {w : World} {b n : Nat} {l : List (List UInt8 × Value)} (h : Mp w b n l) {t e : TypeId} (ht : Tryd.prog.underlying t = some (.map 24 e)) {x : List UInt8} (hx : x.length = 8) (hn : x ∉ l.map (·.1)) (hm : n < 1000) (v : Value) :
    ∃ w', (Instr.mapUpdate t (.map (some b)) (.agg (x.map B).toArray) v).run Tryd.prog w = .ok () w' ∧ Mp w' b (n + 1) (l ++ [(x, v)]) ∧ w.grownBy w' (some b) := by
  obtain ⟨D, h, h1, h2⟩ := h
  have hI := h.isMap
  obtain ⟨w', hr, ho, hg⟩ := h.update id_keyed ht (by unfold maxLen; omega) (d := .held v) (ps := []) (kl_key hx) rfl
  refine ⟨w', hr, ⟨_, ho, fun y hy hny => ?_, fun p hp => ?_⟩, hg⟩
  · rw [List.map_append, List.mem_append, not_or] at hny
    have hne : y ≠ x := fun e => hny.2 (by simp [e])
    rw [Maps.has_put_other (fun e => hne (kl_inj hy hx e))]
    exact h1 y hy hny.1
  · rcases List.mem_append.1 hp with hp | hp
    · obtain ⟨q1, q2, q3⟩ := h2 p hp
      have hne : p.1 ≠ x := fun e => hn (by rw [← e]; exact List.mem_map_of_mem hp)
      have hk : kl Tryd.prog p.1 ≠ kl Tryd.prog x := fun e => hne (kl_inj q1 hx e)
      exact ⟨q1, by rw [Maps.has_put_other hk]; exact q2, fun z => by rw [Maps.atKey_put_other hk]; exact q3 z⟩
    · obtain rfl : p = (x, v) := by simpa using hp
      exact ⟨hx, Maps.has_put_same hI (id_keyed.key (kl_key hx)) _, fun z => Maps.atKey_put_same hI (id_keyed.key (kl_key hx)) _ z⟩

end Go.Proofs.YtimdioacmojkeaaDoor

namespace Go.Proofs.YtimdioacmojkeaaDoor
namespace Nn
open Go.Lib

/-- how a character ends, by its least number and its bytes -/
def fin (low c n : Nat) : Nat × Nat := if c < low ∨ 1114111 < c ∨ (55296 ≤ c ∧ c < 57344) then (0, 0) else (c, n)
/-- a character by the ranges of its bytes; 0 bytes: none -/
def chrR (n b0 b1 b2 b3 : Nat) : Nat × Nat :=
  if b0 < 128 then (b0, 1)
  else if 194 ≤ b0 ∧ b0 < 224 then
    (if n < 2 ∨ (b1 < 128 ∨ 191 < b1) then (0, 0) else fin 128 (64 * (b0 - 192) + b1 - 128) 2)
  else if 224 ≤ b0 ∧ b0 < 240 then
    (if n < 3 ∨ (b1 < 128 ∨ 191 < b1) ∨ (b2 < 128 ∨ 191 < b2) then (0, 0) else fin 2048 (64 * (64 * (b0 - 224) + b1 - 128) + b2 - 128) 3)
  else if 240 ≤ b0 ∧ b0 < 245 then
    (if n < 4 ∨ (b1 < 128 ∨ 191 < b1) ∨ (b2 < 128 ∨ 191 < b2) ∨ (b3 < 128 ∨ 191 < b3) then (0, 0) else fin 65536 (64 * (64 * (64 * (b0 - 240) + b1 - 128) + b2 - 128) + b3 - 128) 4)
  else (0, 0)
theorem chr_two (n b0 b1 b2 b3 : Nat) (h1 : b1 < 256) (hb : 194 ≤ b0 ∧ b0 < 224) : chrR n b0 b1 b2 b3 = if decodeN n b0 b1 b2 b3 = (65533, 1) then (0, 0) else decodeN n b0 b1 b2 b3 := by
  unfold chrR decodeN
  rw [if_neg (by omega), if_pos hb, if_neg (show ¬ b0 < 128 by omega)]
  by_cases c : n < 2 ∨ (b1 < 128 ∨ 191 < b1)
  · rw [if_pos c, if_neg (show ¬ (b0 / 32 = 6 ∧ (1 < n ∧ b1 / 64 = 2)) by omega), if_neg (show ¬ (b0 / 16 = 14 ∧ (1 < n ∧ b1 / 64 = 2) ∧ (2 < n ∧ b2 / 64 = 2)) by omega), if_neg (show ¬ (b0 / 8 = 30 ∧ (1 < n ∧ b1 / 64 = 2) ∧ (2 < n ∧ b2 / 64 = 2) ∧ (3 < n ∧ b3 / 64 = 2)) by omega), if_pos rfl]
  · rw [if_neg c, if_pos (show b0 / 32 = 6 ∧ (1 < n ∧ b1 / 64 = 2) by omega), if_pos (show b0 % 32 * 64 + b1 % 64 ≥ 128 by omega), if_neg (by simp only [Prod.mk.injEq]; omega), fin, if_neg (by omega)]
    simp only [Prod.mk.injEq, and_true]
    omega
theorem chr_three (n b0 b1 b2 b3 : Nat) (h1 : b1 < 256) (h2 : b2 < 256) (hb : 224 ≤ b0 ∧ b0 < 240) : chrR n b0 b1 b2 b3 = if decodeN n b0 b1 b2 b3 = (65533, 1) then (0, 0) else decodeN n b0 b1 b2 b3 := by
  unfold chrR decodeN
  rw [if_neg (by omega), if_neg (by omega), if_pos hb, if_neg (show ¬ b0 < 128 by omega), if_neg (show ¬ (b0 / 32 = 6 ∧ (1 < n ∧ b1 / 64 = 2)) by omega)]
  by_cases c : n < 3 ∨ (b1 < 128 ∨ 191 < b1) ∨ (b2 < 128 ∨ 191 < b2)
  · rw [if_pos c, if_neg (show ¬ (b0 / 16 = 14 ∧ (1 < n ∧ b1 / 64 = 2) ∧ (2 < n ∧ b2 / 64 = 2)) by omega), if_neg (show ¬ (b0 / 8 = 30 ∧ (1 < n ∧ b1 / 64 = 2) ∧ (2 < n ∧ b2 / 64 = 2) ∧ (3 < n ∧ b3 / 64 = 2)) by omega), if_pos rfl]
  · rw [if_neg c, if_pos (show b0 / 16 = 14 ∧ (1 < n ∧ b1 / 64 = 2) ∧ (2 < n ∧ b2 / 64 = 2) by omega)]
    have e : 64 * (64 * (b0 - 224) + b1 - 128) + b2 - 128 = b0 % 16 * 4096 + b1 % 64 * 64 + b2 % 64 := by omega
    rw [e]
    generalize b0 % 16 * 4096 + b1 % 64 * 64 + b2 % 64 = v
    unfold fin
    by_cases d : v ≥ 2048 ∧ (v < 55296 ∨ (57344 ≤ v ∧ v ≤ 1114111))
    · rw [if_pos d, if_neg (by omega), if_neg (by simp only [Prod.mk.injEq]; omega)]
    · rw [if_neg d, if_pos (by omega), if_pos rfl]
theorem chr_four (n b0 b1 b2 b3 : Nat) (h1 : b1 < 256) (h2 : b2 < 256) (h3 : b3 < 256) (hb : 240 ≤ b0 ∧ b0 < 245) : chrR n b0 b1 b2 b3 = if decodeN n b0 b1 b2 b3 = (65533, 1) then (0, 0) else decodeN n b0 b1 b2 b3 := by
  unfold chrR decodeN
  rw [if_neg (by omega), if_neg (by omega), if_neg (by omega), if_pos hb, if_neg (show ¬ b0 < 128 by omega), if_neg (show ¬ (b0 / 32 = 6 ∧ (1 < n ∧ b1 / 64 = 2)) by omega), if_neg (show ¬ (b0 / 16 = 14 ∧ (1 < n ∧ b1 / 64 = 2) ∧ (2 < n ∧ b2 / 64 = 2)) by omega)]
  by_cases c : n < 4 ∨ (b1 < 128 ∨ 191 < b1) ∨ (b2 < 128 ∨ 191 < b2) ∨ (b3 < 128 ∨ 191 < b3)
  · rw [if_pos c, if_neg (show ¬ (b0 / 8 = 30 ∧ (1 < n ∧ b1 / 64 = 2) ∧ (2 < n ∧ b2 / 64 = 2) ∧ (3 < n ∧ b3 / 64 = 2)) by omega), if_pos rfl]
  · rw [if_neg c, if_pos (show b0 / 8 = 30 ∧ (1 < n ∧ b1 / 64 = 2) ∧ (2 < n ∧ b2 / 64 = 2) ∧ (3 < n ∧ b3 / 64 = 2) by omega)]
    have e : 64 * (64 * (64 * (b0 - 240) + b1 - 128) + b2 - 128) + b3 - 128 = b0 % 8 * 262144 + b1 % 64 * 4096 + b2 % 64 * 64 + b3 % 64 := by omega
    rw [e]
    generalize b0 % 8 * 262144 + b1 % 64 * 4096 + b2 % 64 * 64 + b3 % 64 = v
    unfold fin
    by_cases d : v ≥ 65536 ∧ (v < 55296 ∨ (57344 ≤ v ∧ v ≤ 1114111))
    · rw [if_pos d, if_neg (by omega), if_neg (by simp only [Prod.mk.injEq]; omega)]
    · rw [if_neg d, if_pos (by omega), if_pos rfl]
theorem chrR_dec (n b0 b1 b2 b3 : Nat) (h0 : b0 < 256) (h1 : b1 < 256) (h2 : b2 < 256) (h3 : b3 < 256) :
    chrR n b0 b1 b2 b3 = if decodeN n b0 b1 b2 b3 = (65533, 1) then (0, 0) else decodeN n b0 b1 b2 b3 := by
  by_cases c1 : b0 < 128
  · have e : decodeN n b0 b1 b2 b3 = (b0, 1) := by unfold decodeN; rw [if_pos c1]
    rw [e, if_neg (by simp only [Prod.mk.injEq]; omega)]
    unfold chrR; rw [if_pos c1]
  by_cases c2 : 194 ≤ b0 ∧ b0 < 224
  · exact chr_two n b0 b1 b2 b3 h1 c2
  by_cases c3 : 224 ≤ b0 ∧ b0 < 240
  · exact chr_three n b0 b1 b2 b3 h1 h2 c3
  by_cases c4 : 240 ≤ b0 ∧ b0 < 245
  · exact chr_four n b0 b1 b2 b3 h1 h2 h3 c4
  have e : decodeN n b0 b1 b2 b3 = (65533, 1) := by
    unfold decodeN
    rw [if_neg c1]
    by_cases d : b0 / 32 = 6 ∧ (1 < n ∧ b1 / 64 = 2)
    · rw [if_pos d, if_neg (by omega)]
    · rw [if_neg d, if_neg (by omega)]
      by_cases f : b0 / 8 = 30 ∧ (1 < n ∧ b1 / 64 = 2) ∧ (2 < n ∧ b2 / 64 = 2) ∧ (3 < n ∧ b3 / 64 = 2)
      · rw [if_pos f, if_neg (by omega)]
      · rw [if_neg f]
  rw [e, if_pos rfl]
  unfold chrR
  rw [if_neg c1, if_neg c2, if_neg c3, if_neg c4]
/-- the character at the front of a text -/
def chr (l : List UInt8) : Nat × Nat := if l = [] then (0, 0) else if decodeL l = (65533, 1) then (0, 0) else decodeL l
theorem chr_R (l : List UInt8) (h : l ≠ []) : chr l = chrR l.length (l.getD 0 0).toNat (l.getD 1 0).toNat (l.getD 2 0).toNat (l.getD 3 0).toNat := by
  rw [chr, if_neg h, chrR_dec _ _ _ _ _ (UInt8.toNat_lt _) (UInt8.toNat_lt _) (UInt8.toNat_lt _) (UInt8.toNat_lt _), ← decodeL_N]
theorem chr_le (l : List UInt8) : (chr l).2 ≤ l.length := by
  unfold chr
  split
  · exact Nat.zero_le _
  · rename_i h
    split
    · exact Nat.zero_le _
    · exact decodeL_le l h
theorem chr_ascii (b : UInt8) (l : List UInt8) (h : b.toNat < 128) : chr (b :: l) = (b.toNat, 1) := by
  rw [chr_R _ (by simp), chrR, if_pos (by simpa using h)]
  simp
theorem fin_two {low c n : Nat} (h : (fin low c n).2 ≠ 0) : fin low c n = (c, n) := by
  unfold fin at h ⊢
  split
  · rename_i q; rw [if_pos q] at h; exact absurd rfl h
  · rfl
theorem chrR_bytes {n b0 b1 b2 b3 : Nat} (hn : (chrR n b0 b1 b2 b3).2 ≠ 0) : (b0 < 128 ∧ chrR n b0 b1 b2 b3 = (b0, 1)) ∨ ((chrR n b0 b1 b2 b3).2 = 2 ∧ 128 ≤ b0 ∧ 128 ≤ b1) ∨
    ((chrR n b0 b1 b2 b3).2 = 3 ∧ 128 ≤ b0 ∧ 128 ≤ b1 ∧ 128 ≤ b2) ∨ ((chrR n b0 b1 b2 b3).2 = 4 ∧ 128 ≤ b0 ∧ 128 ≤ b1 ∧ 128 ≤ b2 ∧ 128 ≤ b3) := by
  unfold chrR at hn ⊢
  by_cases c1 : b0 < 128
  · rw [if_pos c1]; exact .inl ⟨c1, rfl⟩
  rw [if_neg c1] at hn ⊢
  right
  by_cases c2 : 194 ≤ b0 ∧ b0 < 224
  · rw [if_pos c2] at hn ⊢
    by_cases d : n < 2 ∨ (b1 < 128 ∨ 191 < b1)
    · rw [if_pos d] at hn; exact absurd rfl hn
    · rw [if_neg d] at hn ⊢
      rw [fin_two hn]
      exact .inl ⟨rfl, by omega, by omega⟩
  rw [if_neg c2] at hn ⊢
  by_cases c3 : 224 ≤ b0 ∧ b0 < 240
  · rw [if_pos c3] at hn ⊢
    by_cases d : n < 3 ∨ (b1 < 128 ∨ 191 < b1) ∨ (b2 < 128 ∨ 191 < b2)
    · rw [if_pos d] at hn; exact absurd rfl hn
    · rw [if_neg d] at hn ⊢
      rw [fin_two hn]
      exact .inr (.inl ⟨rfl, by omega, by omega, by omega⟩)
  rw [if_neg c3] at hn ⊢
  by_cases c4 : 240 ≤ b0 ∧ b0 < 245
  · rw [if_pos c4] at hn ⊢
    by_cases d : n < 4 ∨ (b1 < 128 ∨ 191 < b1) ∨ (b2 < 128 ∨ 191 < b2) ∨ (b3 < 128 ∨ 191 < b3)
    · rw [if_pos d] at hn; exact absurd rfl hn
    · rw [if_neg d] at hn ⊢
      rw [fin_two hn]
      exact .inr (.inr ⟨rfl, by omega, by omega, by omega, by omega⟩)
  rw [if_neg c4] at hn
  exact absurd rfl hn
/-- a character of one byte is that byte; of all others each byte is 128 or more -/
theorem chr_bytes (l : List UInt8) (h : l ≠ []) (hn : (chr l).2 ≠ 0) : ((chr l).2 = 1 ∧ (chr l).1 = (l.getD 0 0).toNat ∧ (l.getD 0 0).toNat < 128) ∨ (2 ≤ (chr l).2 ∧ ∀ j, j < (chr l).2 → 128 ≤ (l.getD j 0).toNat) := by
  have hr := chr_R l h
  rw [hr] at hn ⊢
  rcases chrR_bytes hn with ⟨h1, e⟩ | ⟨e, h1, h2⟩ | ⟨e, h1, h2, h3⟩ | ⟨e, h1, h2, h3, h4⟩
  · rw [e]; exact .inl ⟨rfl, rfl, h1⟩
  · refine .inr ⟨by omega, fun j hj => ?_⟩
    rw [e] at hj
    match j, hj with
    | 0, _ => exact h1
    | 1, _ => exact h2
  · refine .inr ⟨by omega, fun j hj => ?_⟩
    rw [e] at hj
    match j, hj with
    | 0, _ => exact h1
    | 1, _ => exact h2
    | 2, _ => exact h3
  · refine .inr ⟨by omega, fun j hj => ?_⟩
    rw [e] at hj
    match j, hj with
    | 0, _ => exact h1
    | 1, _ => exact h2
    | 2, _ => exact h3
    | 3, _ => exact h4
/-- the characters of a text; none: it is not UTF-8 -/
def charsF : Nat → List UInt8 → Option (List Nat)
  | 0, l => if l = [] then some [] else none
  | k + 1, l => if l = [] then some [] else if (chr l).2 = 0 then none else (charsF k (l.drop (chr l).2)).map ((chr l).1 :: ·)
def chars (l : List UInt8) : Option (List Nat) := charsF l.length l
theorem charsF_more : ∀ (k m : Nat) (l : List UInt8), l.length ≤ k → l.length ≤ m → charsF k l = charsF m l
  | k, m, [], _, _ => by cases k <;> cases m <;> simp [charsF]
  | 0, _, b :: l, h, _ => by simp at h
  | _, 0, b :: l, _, h => by simp at h
  | k + 1, m + 1, b :: l, h1, h2 => by
    have q : ¬ (b :: l = []) := by simp
    by_cases c : (chr (b :: l)).2 = 0
    · simp only [charsF, if_neg q, if_pos c]
    · simp only [charsF, if_neg q, if_neg c]
      congr 1
      have hd : ((b :: l).drop (chr (b :: l)).2).length ≤ l.length := by rw [List.length_drop, List.length_cons]; omega
      simp only [List.length_cons] at h1 h2
      exact charsF_more k m _ (by omega) (by omega)
theorem chars_nil : chars [] = some [] := rfl
theorem chars_step (l : List UInt8) (h : l ≠ []) : chars l = if (chr l).2 = 0 then none else (chars (l.drop (chr l).2)).map ((chr l).1 :: ·) := by
  obtain ⟨b, r, rfl⟩ : ∃ b r, l = b :: r := by
    cases l with
    | nil => exact absurd rfl h
    | cons b r => exact ⟨b, r, rfl⟩
  rw [chars, List.length_cons, charsF, if_neg (by simp)]
  by_cases c : (chr (b :: r)).2 = 0
  · rw [if_pos c, if_pos c]
  · rw [if_neg c, if_neg c]
    congr 1
    refine charsF_more _ _ _ ?_ (Nat.le_refl _)
    rw [List.length_drop, List.length_cons]
    omega
theorem chars_ind {p : List UInt8 → Prop} (h0 : p []) (hs : ∀ l, l ≠ [] → ((chr l).2 ≠ 0 → p (l.drop (chr l).2)) → p l) (l : List UInt8) : p l := by
  have key : ∀ (k : Nat) (l : List UInt8), l.length ≤ k → p l := by
    intro k
    induction k with
    | zero => intro l hl; rw [List.length_eq_zero_iff.1 (Nat.le_zero.1 hl)]; exact h0
    | succ k ih =>
      intro l hl
      by_cases e : l = []
      · rw [e]; exact h0
      · exact hs l e fun hn => ih _ (by rw [List.length_drop]; have := List.length_pos_iff.2 e; omega)
  exact key _ l (Nat.le_refl _)
/-- a byte below 128 is a character -/
theorem chars_byte (b : UInt8) (hb : b.toNat < 128) : ∀ (l : List UInt8) (cs : List Nat), chars l = some cs → b ∈ l → b.toNat ∈ cs := by
  intro l
  induction l using chars_ind with
  | h0 => intro cs _ h; simp at h
  | hs l hne ih =>
    intro cs hc hm
    rw [chars_step l hne] at hc
    by_cases c : (chr l).2 = 0
    · rw [if_pos c] at hc; cases hc
    rw [if_neg c] at hc
    obtain ⟨ds, hd, rfl⟩ := Option.map_eq_some_iff.1 hc
    rw [← List.take_append_drop (chr l).2 l] at hm
    rcases List.mem_append.1 hm with hm | hm
    · obtain ⟨j, hj, e⟩ := List.getElem_of_mem hm
      rw [List.length_take] at hj
      rw [List.getElem_take] at e
      have hg : l.getD j 0 = b := by rw [List.getD_eq_getElem?_getD, List.getElem?_eq_getElem (by omega), e]; rfl
      rcases chr_bytes l hne c with ⟨h1, h2, _⟩ | ⟨_, h2⟩
      · obtain rfl : j = 0 := by omega
        rw [hg] at h2
        rw [h2]; exact List.mem_cons_self
      · have := h2 j (by omega)
        rw [hg] at this
        omega
    · exact List.mem_cons_of_mem _ (ih c ds hd hm)
theorem chars_empty (l : List UInt8) : chars l = some [] ↔ l = [] := by
  constructor
  · intro h
    by_cases e : l = []
    · exact e
    · rw [chars_step l e] at h
      split at h
      · cases h
      · obtain ⟨_, _, q⟩ := Option.map_eq_some_iff.1 h
        cases q
  · rintro rfl; rfl
/-- P36 -/
def nm (s : List UInt8) : Int :=
  match chars s with
  | none => 8
  | some l => if l = [] ∨ s = [46] ∨ s = [46, 46] then 8 else if l.any (fun c => decide (c = 47 ∨ c < 32 ∨ c = 127)) then 8 else if 24 < l.length then 2 else 0
theorem nm_ok {s : List UInt8} (h : nm s = 0) : s ≠ [] ∧ s ≠ [46] ∧ s ≠ [46, 46] ∧ (47 : UInt8) ∉ s := by
  unfold nm at h
  cases hc : chars s with
  | none => rw [hc] at h; simp at h
  | some l =>
    rw [hc] at h
    dsimp only at h
    split at h
    · simp at h
    rename_i q
    split at h
    · simp at h
    rename_i r
    simp only [not_or] at q
    refine ⟨fun e => q.1 (Option.some.inj (hc.symm.trans ((chars_empty s).2 e))), q.2.1, q.2.2, fun hm => ?_⟩
    have := chars_byte 47 (by decide) s l hc hm
    exact r (List.any_eq_true.2 ⟨47, this, by simp⟩)
theorem fin_le {low c n : Nat} (hn : n ≤ 4) : (fin low c n).2 ≤ 4 := by
  unfold fin; split
  · exact Nat.zero_le _
  · exact hn
theorem chrR_four (n b0 b1 b2 b3 : Nat) : (chrR n b0 b1 b2 b3).2 ≤ 4 := by
  unfold chrR
  repeat' split
  all_goals first | exact fin_le (by omega) | simp
theorem chr_four_le (l : List UInt8) : (chr l).2 ≤ 4 := by
  by_cases h : l = []
  · subst h; decide
  · rw [chr_R l h]; exact chrR_four ..
theorem chars_long (l : List UInt8) : ∀ cs, chars l = some cs → l.length ≤ 4 * cs.length := by
  induction l using chars_ind with
  | h0 => intro cs _; simp
  | hs l hne ih =>
    intro cs h
    rw [chars_step l hne] at h
    split at h
    · cases h
    rename_i hz
    obtain ⟨r, h2, rfl⟩ := Option.map_eq_some_iff.1 h
    have := ih hz r h2
    have h4 := chr_four_le l
    rw [List.length_drop] at this
    simp only [List.length_cons]
    omega
theorem nm_long {s : List UInt8} (h : nm s = 0) : s.length ≤ 96 := by
  unfold nm at h
  cases hc : chars s with
  | none => rw [hc] at h; simp at h
  | some l =>
    rw [hc] at h
    dsimp only at h
    split at h
    · simp at h
    split at h
    · simp at h
    split at h
    · simp at h
    have := chars_long s l hc
    omega
end Nn
end Go.Proofs.YtimdioacmojkeaaDoor

namespace Go.Proofs.YtimdioacmojkeaaDoor
namespace Nn

abbrev Name := List UInt8
/-- cut at each slash -/
def cut : List UInt8 → List Name
  | [] => [[]]
  | b :: l => if b = 47 then [] :: cut l else (b :: (cut l).headD []) :: (cut l).tail
theorem cut_ne (l : List UInt8) : cut l ≠ [] := by
  cases l with
  | nil => simp [cut]
  | cons b l => rw [cut]; split <;> simp
theorem cut_slash (a b : List UInt8) : cut (a ++ 47 :: b) = cut a ++ cut b := by
  induction a with
  | nil => simp [cut]
  | cons c a ih =>
    rw [List.cons_append, cut, cut, ih]
    by_cases h : c = 47
    · rw [if_pos h, if_pos h, List.cons_append]
    · rw [if_neg h, if_neg h]
      obtain ⟨x, r, e⟩ : ∃ x r, cut a = x :: r := by
        cases q : cut a with
        | nil => exact absurd q (cut_ne a)
        | cons x r => exact ⟨x, r, rfl⟩
      rw [e]
      rfl
theorem cut_plain {a : List UInt8} (h : (47 : UInt8) ∉ a) : cut a = [a] := by
  induction a with
  | nil => rfl
  | cons c a ih =>
    have h1 : c ≠ 47 := fun e => h (by rw [e]; exact List.mem_cons_self)
    rw [cut, if_neg h1, ih fun q => h (List.mem_cons_of_mem _ q)]
    rfl
/-- the names behind their slashes -/
def tails (l : List Name) : List UInt8 := l.flatMap (47 :: ·)
theorem tails_cut : ∀ (p : List UInt8), tails (cut p) = 47 :: p
  | [] => rfl
  | b :: l => by
    have ih := tails_cut l
    rw [cut]
    by_cases h : b = 47
    · rw [if_pos h, tails, List.flatMap_cons, ← tails, ih, h]; rfl
    · rw [if_neg h]
      obtain ⟨x, r, e⟩ : ∃ x r, cut l = x :: r := by
        cases q : cut l with
        | nil => exact absurd q (cut_ne l)
        | cons x r => exact ⟨x, r, rfl⟩
      rw [e] at ih ⊢
      rw [tails, List.flatMap_cons, ← tails] at ih ⊢
      have : x ++ tails r = l := by simpa using ih
      rw [← this]
      rfl
theorem cut_tails {l : List Name} (h : ∀ s ∈ l, (47 : UInt8) ∉ s) : cut (tails l) = [] :: l := by
  induction l with
  | nil => rfl
  | cons s l ih =>
    have h1 := h s List.mem_cons_self
    have h2 := ih fun x hx => h x (List.mem_cons_of_mem _ hx)
    cases l with
    | nil =>
      show cut (47 :: (s ++ [])) = _
      rw [List.append_nil, cut, if_pos rfl, cut_plain h1]
    | cons t l =>
      have e : tails (s :: t :: l) = 47 :: (s ++ tails (t :: l)) := rfl
      have e2 : tails (t :: l) = 47 :: (t ++ tails l) := rfl
      rw [e, e2, cut, if_pos rfl, cut_slash, cut_plain h1]
      rw [e2, cut, if_pos rfl] at h2
      rw [(List.cons.inj h2).2]
      rfl
/-- the first error of names, behind i others -/
def errsF : Nat → List Name → Int
  | _, [] => 0
  | i, s :: l => if 8 ≤ i then 14 else if nm s ≠ 0 then nm s else errsF (i + 1) l
def errs (l : List Name) : Int := errsF 0 l
theorem errsF_ok : ∀ (l : List Name) (i : Nat), errsF i l = 0 → ∀ s ∈ l, nm s = 0
  | [], _, _, s, h => by simp at h
  | t :: l, i, h, s, hs => by
    rw [errsF] at h
    split at h
    · simp at h
    · split at h
      · rename_i q; exact absurd h q
      · rename_i q
        rcases List.mem_cons.1 hs with e | e
        · rw [e]; simpa using q
        · exact errsF_ok l (i + 1) h s e
theorem errs_ok {l : List Name} (h : errs l = 0) : ∀ s ∈ l, nm s = 0 := errsF_ok l 0 h
/-- P37 -/
def joinB (l : List Name) : List UInt8 := if l = [] then [47] else tails l
def join (l : List Name) : List UInt8 × Int := if errs l ≠ 0 then ([], errs l) else (joinB l, 0)
def split (p : List UInt8) : List Name × Int :=
  if p.head? ≠ some 47 then ([], 8) else if p = [47] then ([], 0) else if errs (cut p.tail) ≠ 0 then ([], errs (cut p.tail)) else (cut p.tail, 0)
theorem split_join {p : List UInt8} {m : List Name} (h : split p = (m, 0)) : join m = (p, 0) := by
  unfold split at h
  split at h
  · cases h
  rename_i q
  simp only [ne_eq, Classical.not_not] at q
  split at h
  · rename_i e
    obtain ⟨rfl, _⟩ := Prod.mk.inj h
    rw [e]; rfl
  rename_i e
  split at h
  · rename_i f
    obtain ⟨_, h2⟩ := Prod.mk.inj h
    exact absurd h2 f
  rename_i f
  obtain ⟨rfl, _⟩ := Prod.mk.inj h
  have f' : errs (cut p.tail) = 0 := by simpa using f
  unfold join
  rw [if_neg (by rw [f']; simp), joinB, if_neg (cut_ne _), tails_cut]
  congr 1
  cases p with
  | nil => simp at q
  | cons b r =>
    obtain rfl : b = 47 := by simpa using q
    rfl
theorem noslash {l : List Name} (h : errs l = 0) : ∀ s ∈ l, (47 : UInt8) ∉ s := fun s hs => (nm_ok (errs_ok h s hs)).2.2.2
theorem join_ok {l : List Name} {q : List UInt8} (h : join l = (q, 0)) : errs l = 0 ∧ q = joinB l := by
  unfold join at h
  split at h
  · rename_i e
    obtain ⟨_, h2⟩ := Prod.mk.inj h
    exact absurd h2 e
  · rename_i e
    exact ⟨by simpa using e, (Prod.mk.inj h).1.symm⟩
theorem join_bad {l : List Name} {q : List UInt8} {e : Int} (h : join l = (q, e)) (he : e ≠ 0) : q = [] := by
  unfold join at h
  split at h
  · exact (Prod.mk.inj h).1.symm
  · exact absurd (Prod.mk.inj h).2.symm he
theorem join_split {l : List Name} {q : List UInt8} (h : join l = (q, 0)) : split q = (l, 0) := by
  obtain ⟨he, rfl⟩ := join_ok h
  cases l with
  | nil => rfl
  | cons s l =>
    have hc : cut (joinB (s :: l)) = [] :: s :: l := by
      rw [joinB, if_neg (by simp)]
      exact cut_tails (noslash he)
    have e : joinB (s :: l) = 47 :: (s ++ tails l) := by rw [joinB, if_neg (by simp)]; rfl
    rw [e, cut, if_pos rfl] at hc
    have hs := (nm_ok (errs_ok he s List.mem_cons_self)).1
    unfold split
    rw [e, if_neg (by simp), if_neg (by intro q; have := (List.cons.inj q).2; exact hs (List.append_eq_nil_iff.1 this).1), List.tail_cons, (List.cons.inj hc).2, if_neg (by rw [he]; simp)]
/-- two paths of the same names are one -/
theorem split_inj {p q : List UInt8} {m : List Name} (h : split p = (m, 0)) (k : split q = (m, 0)) : p = q := by
  have := (split_join h).symm.trans (split_join k)
  exact (Prod.mk.inj this).1

/-- P38: what is kept -/
def stk : List Name → List Name → Option (List Name)
  | st, [] => some st
  | st, s :: r => if s = [46, 46] then (if st = [] then none else stk st.dropLast r) else if s = [] ∨ s = [46] then stk st r else stk (st ++ [s]) r
def clean (p : List UInt8) : List UInt8 × Int :=
  match stk [] (cut p) with
  | none => ([], 8)
  | some l => join l
theorem stk_app : ∀ (r r' st : List Name), stk st (r ++ r') = (stk st r).bind fun st' => stk st' r'
  | [], r', st => rfl
  | s :: r, r', st => by
    rw [List.cons_append, stk, stk]
    by_cases h : s = [46, 46]
    · rw [if_pos h, if_pos h]
      by_cases q : st = []
      · rw [if_pos q, if_pos q]; rfl
      · rw [if_neg q, if_neg q]; exact stk_app r r' _
    · rw [if_neg h, if_neg h]
      by_cases q : s = [] ∨ s = [46]
      · rw [if_pos q, if_pos q]; exact stk_app r r' st
      · rw [if_neg q, if_neg q]; exact stk_app r r' _
theorem stk_names : ∀ (l st : List Name), (∀ s ∈ l, nm s = 0) → stk st l = some (st ++ l)
  | [], st, _ => by simp [stk]
  | s :: l, st, h => by
    obtain ⟨h1, h2, h3, _⟩ := nm_ok (h s List.mem_cons_self)
    rw [stk, if_neg h3, if_neg (by simp [h1, h2]), stk_names l _ fun x hx => h x (List.mem_cons_of_mem _ hx), List.append_assoc]
    rfl
theorem clean_ok {p q : List UInt8} (h : clean p = (q, 0)) : ∃ l, stk [] (cut p) = some l ∧ errs l = 0 ∧ q = joinB l := by
  unfold clean at h
  cases hs : stk [] (cut p) with
  | none => rw [hs] at h; cases h
  | some l =>
    rw [hs] at h
    obtain ⟨h1, h2⟩ := join_ok h
    exact ⟨l, rfl, h1, h2⟩
theorem clean_bad {p q : List UInt8} {e : Int} (h : clean p = (q, e)) (he : e ≠ 0) : q = [] := by
  unfold clean at h
  split at h
  · exact (Prod.mk.inj h).1.symm
  · exact join_bad h he
theorem clean_of {p : List UInt8} {l : List Name} (hs : stk [] (cut p) = some l) (he : errs l = 0) : clean p = (joinB l, 0) := by
  unfold clean
  rw [hs]
  show join l = _
  unfold join
  rw [if_neg (by rw [he]; simp)]
/-- what is clean stays so -/
theorem clean_again {p q : List UInt8} (h : clean p = (q, 0)) : clean q = (q, 0) := by
  obtain ⟨l, _, he, rfl⟩ := clean_ok h
  refine clean_of ?_ he
  cases l with
  | nil => rfl
  | cons s l =>
    rw [joinB, if_neg (by simp), cut_tails (noslash he)]
    show stk [] ([[]] ++ (s :: l)) = _
    rw [stk_app]
    show stk [] (s :: l) = _
    rw [stk_names _ _ (errs_ok he)]
    rfl
/-- a dot, a slash more -/
theorem clean_dots {p q : List UInt8} (hp : p.head? = some 47) (h : clean p = (q, 0)) : clean ([47, 46] ++ p ++ [47, 47, 46]) = (q, 0) := by
  obtain ⟨l, hs, he, rfl⟩ := clean_ok h
  refine clean_of ?_ he
  obtain ⟨r, rfl⟩ : ∃ r, p = 47 :: r := by
    cases p with
    | nil => simp at hp
    | cons b r => obtain rfl : b = 47 := by simpa using hp
                  exact ⟨r, rfl⟩
  have e : [47, 46] ++ 47 :: r ++ [47, 47, 46] = [] ++ 47 :: ([46] ++ 47 :: (r ++ 47 :: ([] ++ 47 :: [46]))) := by simp
  rw [e, cut_slash, cut_slash, cut_slash, cut_slash, cut_plain (a := []) (by simp), cut_plain (a := [46]) (by decide)]
  have hs' : stk [] ([[]] ++ cut r) = some l := by
    rw [show 47 :: r = [] ++ 47 :: r from rfl, cut_slash] at hs
    exact hs
  rw [stk_app] at hs' ⊢
  have hs2 : stk [] (cut r) = some l := hs'
  show ((stk [] [[]]).bind fun st' => stk st' ([[46]] ++ (cut r ++ ([[]] ++ [[46]])))) = _
  show stk [] ([[46]] ++ (cut r ++ ([[]] ++ [[46]]))) = _
  rw [stk_app]
  show stk [] (cut r ++ ([[]] ++ [[46]])) = _
  rw [stk_app, hs2]
  rfl
/-- a name that is taken back -/
theorem clean_back {p q s : List UInt8} (hn : nm s = 0) (h : clean p = (q, 0)) : clean (p ++ [47] ++ s ++ [47, 46, 46]) = (q, 0) := by
  obtain ⟨l, hs, he, rfl⟩ := clean_ok h
  refine clean_of ?_ he
  obtain ⟨h1, h2, h3, h4⟩ := nm_ok hn
  have e : p ++ [47] ++ s ++ [47, 46, 46] = p ++ 47 :: (s ++ 47 :: [46, 46]) := by simp
  rw [e, cut_slash, cut_slash, cut_plain h4, cut_plain (a := [46, 46]) (by decide), stk_app, hs]
  show stk l ([s] ++ [[46, 46]]) = _
  show stk l (s :: [[46, 46]]) = _
  rw [stk, if_neg h3, if_neg (by simp [h1, h2]), stk, if_pos rfl, if_neg (by simp), List.dropLast_concat]
  rfl
end Nn
end Go.Proofs.YtimdioacmojkeaaDoor

namespace Go.Proofs.YtimdioacmojkeaaDoor
namespace Nn

theorem bl_nil (x : List UInt8) : Op.bytesLess x [] = false := by cases x <;> rfl
theorem bl_cons (a b : UInt8) (x y : List UInt8) : Op.bytesLess (a :: x) (b :: y) = (decide (a < b) || (a == b && Op.bytesLess x y)) := rfl
theorem bl_irr : ∀ x : List UInt8, Op.bytesLess x x = false
  | [] => rfl
  | a :: x => by
    rw [bl_cons, bl_irr x, decide_eq_false (by rw [UInt8.lt_iff_toNat_lt]; omega)]
    simp
theorem bl_tri : ∀ x y : List UInt8, x ≠ y → Op.bytesLess x y = !Op.bytesLess y x
  | [], [], h => absurd rfl h
  | [], b :: y, _ => by rw [bl_nil]; rfl
  | a :: x, [], _ => by rw [bl_nil]; rfl
  | a :: x, b :: y, h => by
    rw [bl_cons, bl_cons]
    by_cases e : a = b
    · subst e
      have hne : x ≠ y := fun q => h (by rw [q])
      rw [decide_eq_false (by rw [UInt8.lt_iff_toNat_lt]; omega), bl_tri x y hne]
      simp
    · have hn : a.toNat ≠ b.toNat := fun q => e (UInt8.toNat_inj.1 q)
      rw [show (a == b) = false from beq_eq_false_iff_ne.2 e, show (b == a) = false from beq_eq_false_iff_ne.2 (Ne.symm e)]
      simp only [Bool.false_and, Bool.or_false]
      by_cases c : a < b
      · have : ¬ b < a := by rw [UInt8.lt_iff_toNat_lt] at *; omega
        rw [decide_eq_true c, decide_eq_false this]; rfl
      · have : b < a := by rw [UInt8.lt_iff_toNat_lt] at *; omega
        rw [decide_eq_false c, decide_eq_true this]; rfl
theorem bl_trans : ∀ x y z : List UInt8, Op.bytesLess x y = true → Op.bytesLess y z = true → Op.bytesLess x z = true
  | _, [], _, h, _ => by rw [bl_nil] at h; cases h
  | _, _ :: _, [], _, h => by rw [bl_nil] at h; cases h
  | [], _ :: _, _ :: _, _, _ => rfl
  | a :: x, b :: y, c :: z, h1, h2 => by
    rw [bl_cons, Bool.or_eq_true, decide_eq_true_eq, Bool.and_eq_true, beq_iff_eq] at *
    rcases h1 with h1 | ⟨rfl, h1⟩
    · rcases h2 with h2 | ⟨rfl, _⟩
      · left; rw [UInt8.lt_iff_toNat_lt] at *; omega
      · exact .inl h1
    · rcases h2 with h2 | ⟨rfl, h2⟩
      · exact .inl h2
      · exact .inr ⟨rfl, bl_trans x y z h1 h2⟩
/-- do names come ahead of others? -/
def ahead : List Name → List Name → Bool
  | _, [] => false
  | [], _ :: _ => true
  | s :: l, t :: m => if s = t then ahead l m else Op.bytesLess s t
theorem ahead_irr : ∀ l : List Name, ahead l l = false
  | [] => rfl
  | s :: l => by rw [ahead, if_pos rfl]; exact ahead_irr l
theorem ahead_tri : ∀ l m : List Name, l ≠ m → ahead l m = !ahead m l
  | [], [], h => absurd rfl h
  | [], _ :: _, _ => rfl
  | _ :: _, [], _ => rfl
  | s :: l, t :: m, h => by
    rw [ahead, ahead]
    by_cases e : s = t
    · subst e
      rw [if_pos rfl, if_pos rfl]
      exact ahead_tri l m fun q => h (by rw [q])
    · rw [if_neg e, if_neg (Ne.symm e)]
      exact bl_tri s t e
theorem ahead_trans : ∀ l m n : List Name, ahead l m = true → ahead m n = true → ahead l n = true
  | l, [], _, h, _ => by cases l <;> cases h
  | _, m, [], _, h => by cases m <;> cases h
  | [], _ :: _, _ :: _, _, _ => rfl
  | s :: l, t :: m, u :: n, h1, h2 => by
    rw [ahead] at *
    by_cases e : s = t
    · subst e
      rw [if_pos rfl] at h1
      by_cases f : s = u
      · subst f
        rw [if_pos rfl] at h2 ⊢
        exact ahead_trans l m n h1 h2
      · rw [if_neg f] at h2 ⊢; exact h2
    · rw [if_neg e] at h1
      by_cases f : t = u
      · subst f
        rw [if_neg e]; exact h1
      · rw [if_neg f] at h2
        have h3 := bl_trans _ _ _ h1 h2
        by_cases g : s = u
        · subst g; rw [bl_irr] at h3; cases h3
        · rw [if_neg g]; exact h3
/-- a beginning comes ahead -/
theorem ahead_front : ∀ (l r : List Name), r ≠ [] → ahead l (l ++ r) = true
  | [], r, h => by
    cases r with
    | nil => exact absurd rfl h
    | cons _ _ => rfl
  | s :: l, r, h => by rw [List.cons_append, ahead, if_pos rfl]; exact ahead_front l r h
/-- between a directory and what is in it there is only what is in it -/
theorem ahead_mid : ∀ (l m r : List Name), ahead l m = true → ahead m (l ++ r) = true → ∃ r', m = l ++ r'
  | [], m, _, _, _ => ⟨m, rfl⟩
  | s :: l, [], _, h, _ => by cases h
  | s :: l, t :: m, r, h1, h2 => by
    rw [List.cons_append, ahead] at h2
    rw [ahead] at h1
    by_cases e : s = t
    · subst e
      rw [if_pos rfl] at h1 h2
      obtain ⟨r', e⟩ := ahead_mid l m r h1 h2
      exact ⟨r', by rw [e]; rfl⟩
    · rw [if_neg e] at h1
      rw [if_neg (Ne.symm e)] at h2
      rw [bl_tri s t e, h2] at h1
      cases h1
/-- P39 -/
def less (a b : List UInt8) : Bool × Int :=
  if (split a).2 ≠ 0 then (false, (split a).2) else if (split b).2 ≠ 0 then (false, (split b).2) else (ahead (split a).1 (split b).1, 0)
/-- a path of names begins with another one and a slash just if the names begin so -/
theorem tails_front {l m : List Name} (hl : ∀ s ∈ l, (47 : UInt8) ∉ s) (hm : ∀ s ∈ m, (47 : UInt8) ∉ s) : (∃ x, tails m = tails l ++ 47 :: x) ↔ ∃ r, r ≠ [] ∧ m = l ++ r := by
  constructor
  · rintro ⟨x, e⟩
    have h1 := cut_tails hm
    rw [e, cut_slash, cut_tails hl] at h1
    refine ⟨cut x, cut_ne x, ?_⟩
    exact (List.cons.inj h1).2.symm
  · rintro ⟨r, hr, rfl⟩
    cases r with
    | nil => exact absurd rfl hr
    | cons t r => exact ⟨t ++ tails r, by simp [tails]⟩
/-- is a path another one's, or in it? -/
theorem beneath_iff {p d : List UInt8} {m l : List Name} (hp : split p = (m, 0)) (hd : split d = (l, 0)) : (p = d ∨ d = [47] ∨ ∃ x, p = d ++ 47 :: x) ↔ ∃ r, m = l ++ r := by
  obtain ⟨ep, jp⟩ := join_ok (split_join hp)
  obtain ⟨ed, jd⟩ := join_ok (split_join hd)
  by_cases hl : l = []
  · subst hl
    have : d = [47] := jd
    exact ⟨fun _ => ⟨m, rfl⟩, fun _ => .inr (.inl this)⟩
  rw [joinB, if_neg hl] at jd
  constructor
  · rintro (e | e | ⟨x, e⟩)
    · refine ⟨[], ?_⟩
      rw [List.append_nil]
      subst e
      rw [hp] at hd
      exact (Prod.mk.inj hd).1
    · exfalso
      rw [e] at hd
      have : ([] : List Name) = l := (Prod.mk.inj (show (([] : List Name), (0 : Int)) = (l, 0) from hd)).1
      exact hl this.symm
    · by_cases hm : m = []
      · exfalso
        subst hm
        rw [jp, jd] at e
        have h2 := congrArg List.length e
        have hpos : 0 < (tails l).length := by
          cases l with
          | nil => exact absurd rfl hl
          | cons s l => simp [tails]
        simp [joinB] at h2
        omega
      · rw [joinB, if_neg hm] at jp
        rw [jp, jd] at e
        obtain ⟨r, _, q⟩ := (tails_front (noslash ed) (noslash ep)).1 ⟨x, e⟩
        exact ⟨r, q⟩
  · rintro ⟨r, rfl⟩
    by_cases hr : r = []
    · subst hr
      rw [List.append_nil] at hp
      exact .inl (split_inj hp hd)
    · have hm : l ++ r ≠ [] := fun q => hr (List.append_eq_nil_iff.1 q).2
      rw [joinB, if_neg hm] at jp
      obtain ⟨x, e⟩ := (tails_front (noslash ed) (noslash ep)).2 ⟨r, hr, rfl⟩
      exact .inr (.inr ⟨x, by rw [jp, jd]; exact e⟩)
end Nn
end Go.Proofs.YtimdioacmojkeaaDoor

namespace Go.Proofs.YtimdioacmojkeaaDoor
namespace Wk
open Nn (Name)

theorem ahead_app : ∀ (p a b : List Name), Nn.ahead (p ++ a) (p ++ b) = Nn.ahead a b
  | [], _, _ => rfl
  | s :: p, a, b => by rw [List.cons_append, List.cons_append, Nn.ahead, if_pos rfl]; exact ahead_app p a b

theorem ahead_other {s t : Name} (a b : List Name) (h : s ≠ t) : Nn.ahead (s :: a) (t :: b) = Op.bytesLess s t := by rw [Nn.ahead, if_neg h]

/-- two lists of one order with the same things are one -/
theorem sorted_eq {α : Type} {R : α → α → Prop} (hR : ∀ a b, R a b → ¬ R b a) : ∀ {x y : List α}, x.Pairwise R → y.Pairwise R → (∀ a, a ∈ x ↔ a ∈ y) → x = y
  | [], [], _, _, _ => rfl
  | [], b :: y, _, _, h => absurd ((h b).2 List.mem_cons_self) List.not_mem_nil
  | a :: x, [], _, _, h => absurd ((h a).1 List.mem_cons_self) List.not_mem_nil
  | a :: x, b :: y, hx, hy, h => by
    obtain ⟨hx1, hx2⟩ := List.pairwise_cons.1 hx
    obtain ⟨hy1, hy2⟩ := List.pairwise_cons.1 hy
    have irr : ∀ c, ¬ R c c := fun c q => hR c c q q
    have e : a = b := by
      rcases List.mem_cons.1 ((h a).1 List.mem_cons_self) with q | q
      · exact q
      · rcases List.mem_cons.1 ((h b).2 List.mem_cons_self) with r | r
        · exact r.symm
        · exact absurd (hx1 b r) (hR b a (hy1 a q))
    subst e
    congr 1
    refine sorted_eq hR hx2 hy2 fun c => ⟨fun hc => ?_, fun hc => ?_⟩
    · rcases List.mem_cons.1 ((h c).1 (List.mem_cons_of_mem _ hc)) with q | q
      · subst q; exact absurd (hx1 c hc) (irr c)
      · exact q
    · rcases List.mem_cons.1 ((h c).2 (List.mem_cons_of_mem _ hc)) with q | q
      · subst q; exact absurd (hy1 c hc) (irr c)
      · exact q

section
variable {α : Type} (pt : α → List Name) (dir : α → Bool) (W : List α)
/-- what lies in a directory, at once -/
def kids (p : List Name) : List α := W.filter fun x => decide (pt x ≠ [] ∧ (pt x).dropLast = p)

/-- all that lies in a directory, directory by directory -/
def dfs : Nat → List Name → List α
  | 0, _ => []
  | k + 1, p => (kids pt W p).flatMap fun x => x :: (if dir x then dfs k (pt x) else [])

/-- each comes behind the one ahead -/
def Sorted : Prop := W.Pairwise fun a b => Nn.ahead (pt a) (pt b) = true

/-- each lies in a directory that is there (the root is) -/
def Closed : Prop := ∀ x ∈ W, pt x ≠ [] ∧ ((pt x).dropLast = [] ∨ ∃ y ∈ W, pt y = (pt x).dropLast ∧ dir y = true)

variable {pt dir W}
theorem mem_kids {p : List Name} {x : α} : x ∈ kids pt W p ↔ x ∈ W ∧ ∃ s, pt x = p ++ [s] := by
  unfold kids
  rw [List.mem_filter, decide_eq_true_eq]
  refine and_congr_right fun _ => ⟨fun ⟨h1, h2⟩ => ⟨(pt x).getLast h1, ?_⟩, fun ⟨s, e⟩ => ?_⟩
  · rw [← h2, List.dropLast_concat_getLast]
  · rw [e]; simp

theorem asym (a b : α) (h : Nn.ahead (pt a) (pt b) = true) : ¬ Nn.ahead (pt b) (pt a) = true := fun q => by
  have := Nn.ahead_trans _ _ _ h q
  rw [Nn.ahead_irr] at this
  cases this

/-- an ancestor is there -/
theorem Closed.anc (h : Closed pt dir W) : ∀ (n : Nat) (r q : List Name) (x : α), r.length = n → x ∈ W → pt x = q ++ r → q ≠ [] → r ≠ [] → ∃ y ∈ W, pt y = q ∧ dir y = true
  | 0, r, q, x, hn, _, _, _, hr => absurd (List.length_eq_zero_iff.1 hn) hr
  | n + 1, r, q, x, hn, hx, e, hq, hr => by
    obtain ⟨_, h2⟩ := h x hx
    have hd : (pt x).dropLast = q ++ r.dropLast := by rw [e, List.dropLast_append_of_ne_nil hr]
    rcases h2 with h2 | ⟨y, hy, ey, hdir⟩
    · rw [hd] at h2
      exact absurd (List.append_eq_nil_iff.1 h2).1 hq
    · by_cases hr1 : r.dropLast = []
      · exact ⟨y, hy, by rw [ey, hd, hr1, List.append_nil], hdir⟩
      · exact Closed.anc h n r.dropLast q y (by rw [List.length_dropLast]; omega) hy (by rw [ey, hd]) hq hr1

theorem mem_dfs (hc : Closed pt dir W) : ∀ (k : Nat) (p : List Name), (∀ x ∈ W, (pt x).length ≤ p.length + k) → ∀ x, x ∈ dfs pt dir W k p ↔ x ∈ W ∧ ∃ r, r ≠ [] ∧ pt x = p ++ r
  | 0, p, hk, x => by
    refine ⟨fun h => absurd h List.not_mem_nil, fun ⟨hx, r, hr, e⟩ => ?_⟩
    have := hk x hx
    rw [e, List.length_append] at this
    exact absurd (List.length_eq_zero_iff.1 (by omega)) hr
  | k + 1, p, hk, x => by
    rw [dfs, List.mem_flatMap]
    constructor
    · rintro ⟨y, hy, hx⟩
      obtain ⟨hyW, s, es⟩ := mem_kids.1 hy
      rcases List.mem_cons.1 hx with rfl | hx
      · exact ⟨hyW, [s], by simp, es⟩
      · split at hx
        · obtain ⟨hxW, r, hr, er⟩ := (mem_dfs hc k (pt y) (fun z hz => by have := hk z hz; rw [es, List.length_append, List.length_singleton]; omega) x).1 hx
          exact ⟨hxW, s :: r, by simp, by rw [er, es, List.append_assoc]; rfl⟩
        · exact absurd hx List.not_mem_nil
    · rintro ⟨hxW, r, hr, er⟩
      cases r with
      | nil => exact absurd rfl hr
      | cons s r =>
        by_cases hr2 : r = []
        · subst hr2
          exact ⟨x, mem_kids.2 ⟨hxW, s, er⟩, List.mem_cons_self⟩
        · obtain ⟨y, hyW, ey, hdy⟩ := hc.anc r.length r (p ++ [s]) x rfl hxW (by rw [er, List.append_assoc]; rfl) (by simp) hr2
          refine ⟨y, mem_kids.2 ⟨hyW, s, ey⟩, List.mem_cons_of_mem _ ?_⟩
          rw [if_pos hdy]
          exact (mem_dfs hc k (pt y) (fun z hz => by have := hk z hz; rw [ey, List.length_append, List.length_singleton]; omega) x).2 ⟨hxW, r, hr2, by rw [er, ey, List.append_assoc]; rfl⟩

theorem kids_sorted (hs : Sorted pt W) (p : List Name) : Sorted pt (kids pt W p) := List.Pairwise.filter _ hs

theorem dfs_beneath : ∀ (k : Nat) (p : List Name) (x : α), x ∈ dfs pt dir W k p → ∃ r, r ≠ [] ∧ pt x = p ++ r
  | 0, _, _, h => absurd h List.not_mem_nil
  | k + 1, p, x, h => by
    rw [dfs, List.mem_flatMap] at h
    obtain ⟨y, hy, hx⟩ := h
    obtain ⟨_, s, es⟩ := mem_kids.1 hy
    rcases List.mem_cons.1 hx with rfl | hx
    · exact ⟨[s], by simp, es⟩
    · split at hx
      · obtain ⟨r, _, er⟩ := dfs_beneath k (pt y) x hx
        exact ⟨s :: r, by simp, by rw [er, es, List.append_assoc]; rfl⟩
      · exact absurd hx List.not_mem_nil

theorem dfs_sorted (hs : Sorted pt W) : ∀ (k : Nat) (p : List Name), Sorted pt (dfs pt dir W k p)
  | 0, _ => List.Pairwise.nil
  | k + 1, p => by
    unfold Sorted
    rw [dfs, List.pairwise_flatMap]
    refine ⟨fun x hx => ?_, ?_⟩
    · refine List.pairwise_cons.2 ⟨fun y hy => ?_, ?_⟩
      · split at hy
        · obtain ⟨r, hr, er⟩ := dfs_beneath k (pt x) y hy
          rw [er]; exact Nn.ahead_front _ _ hr
        · exact absurd hy List.not_mem_nil
      · split
        · exact dfs_sorted hs k (pt x)
        · exact List.Pairwise.nil
    · refine List.Pairwise.imp_of_mem ?_ (kids_sorted hs p)
      intro a b ha hb hab u hu v hv
      obtain ⟨_, s, es⟩ := mem_kids.1 ha
      obtain ⟨_, t, et⟩ := mem_kids.1 hb
      have hst : s ≠ t := fun q => by
        rw [es, et, q, Nn.ahead_irr] at hab
        cases hab
      have hl : Op.bytesLess s t = true := by
        rw [es, et, ahead_app, ahead_other _ _ hst] at hab
        exact hab
      have block : ∀ {c w : α}, w ∈ c :: (if dir c then dfs pt dir W k (pt c) else []) → ∃ r, pt w = pt c ++ r := fun {c w} h => by
        rcases List.mem_cons.1 h with rfl | h
        · exact ⟨[], by simp⟩
        · split at h
          · obtain ⟨r, _, er⟩ := dfs_beneath k (pt c) w h
            exact ⟨r, er⟩
          · exact absurd h List.not_mem_nil
      obtain ⟨ru, eu⟩ := block hu
      obtain ⟨rv, ev⟩ := block hv
      rw [eu, ev, es, et, List.append_assoc, List.append_assoc, ahead_app]
      show Nn.ahead (s :: ru) (t :: rv) = true
      rw [ahead_other _ _ hst]
      exact hl

/-- directory by directory all are told, in their order -/
theorem dfs_all (hs : Sorted pt W) (hc : Closed pt dir W) (k : Nat) (hk : ∀ x ∈ W, (pt x).length ≤ k) : dfs pt dir W k [] = W := by
  refine sorted_eq (R := fun a b => Nn.ahead (pt a) (pt b) = true) asym (dfs_sorted hs k []) hs fun x => ?_
  rw [mem_dfs hc k [] (fun z hz => by have := hk z hz; simpa using this)]
  exact ⟨fun h => h.1, fun h => ⟨h, pt x, (hc x h).1, by simp⟩⟩

end

end Wk

end Go.Proofs.YtimdioacmojkeaaDoor

namespace Go.Proofs.YtimdioacmojkeaaDoor
namespace Wk
open Nn (Name)

abbrev Bs := List UInt8

structure It where
  path : Bs
  kind : Int
  mode : Int
  time : Int
  bytes : Bs

def It.nms (x : It) : List Name := (Nn.split x.path).1

def It.dir (x : It) : Bool := decide (x.kind = 2)

/-- the error of one item -/
def iErr (x : It) : Int :=
  if (Nn.split x.path).2 ≠ 0 then (Nn.split x.path).2
  else if x.nms = [] then 8
  else if x.kind ≠ 1 ∧ x.kind ≠ 2 ∧ x.kind ≠ 3 then 5
  else if x.mode < 0 ∨ 511 < x.mode then 1
  else if (x.kind = 1 ∧ 4096 < x.bytes.length) ∨ (x.kind = 2 ∧ x.bytes ≠ []) ∨ (x.kind = 3 ∧ 1024 < x.bytes.length) then 2
  else if x.kind = 3 ∧ x.bytes = [] then 4 else 0

structure Ok1 (x : It) : Prop where
  spl : (Nn.split x.path).2 = 0
  ne : x.nms ≠ []
  kind : x.kind = 1 ∨ x.kind = 2 ∨ x.kind = 3
  mode : 0 ≤ x.mode ∧ x.mode ≤ 511
  file : x.kind = 1 → x.bytes.length ≤ 4096
  nodir : x.kind = 2 → x.bytes = []
  link : x.kind = 3 → x.bytes.length ≤ 1024 ∧ x.bytes ≠ []

theorem iErr_ok {x : It} (h : iErr x = 0) : Ok1 x := by
  unfold iErr at h
  split at h
  · rename_i q; exact absurd h q
  rename_i q0
  split at h
  · cases h
  rename_i q1
  split at h
  · cases h
  rename_i q2
  split at h
  · cases h
  rename_i q3
  split at h
  · cases h
  rename_i q4
  split at h
  · cases h
  rename_i q5
  refine ⟨Decidable.not_not.mp q0, q1, by omega, by omega, fun k => ?_, fun k => ?_, fun k => ⟨?_, fun e => q5 ⟨k, e⟩⟩⟩
  · exact Nat.le_of_not_lt fun l => q4 (.inl ⟨k, l⟩)
  · exact Decidable.not_not.mp fun l => q4 (.inr (.inl ⟨k, l⟩))
  · exact Nat.le_of_not_lt fun l => q4 (.inr (.inr ⟨k, l⟩))

/-- the path of the directory it lies in -/
def up (x : It) : Bs := Nn.joinB x.nms.dropLast

/-- does it not come behind the one ahead? -/
def late (done : List It) (x : It) : Bool := match done.getLast? with | none => false | some y => !(Nn.less y.path x.path).1

/-- is its directory there? -/
def lies (done : List It) (x : It) : Bool := decide (up x = [47]) || done.any fun y => decide (y.path = up x) && y.dir

def wErrF : List It → List It → Int
  | _, [] => 0
  | done, x :: r => if iErr x ≠ 0 then iErr x else if late done x = true then 4 else if lies done x = false then 9 else wErrF (done ++ [x]) r

/-- P46 -/
def world (w : List It) : Int := if 100 < w.length then 2 else wErrF [] w

theorem split_eq {x : It} (h : Ok1 x) : Nn.split x.path = (x.nms, 0) := Prod.ext rfl h.spl

theorem errs_nms {x : It} (h : Ok1 x) : Nn.errs x.nms = 0 := (Nn.join_ok (Nn.split_join (split_eq h))).1

theorem path_eq {x : It} (h : Ok1 x) : x.path = Nn.joinB x.nms := (Nn.join_ok (Nn.split_join (split_eq h))).2

theorem errsF_front : ∀ (l r : List Name) (i : Nat), Nn.errsF i (l ++ r) = 0 → Nn.errsF i l = 0
  | [], _, _, _ => rfl
  | s :: l, r, i, h => by
    rw [List.cons_append, Nn.errsF] at h
    rw [Nn.errsF]
    split at h
    · rename_i q; rw [if_pos q]; exact h
    · rename_i q
      rw [if_neg q]
      split at h
      · rename_i p; rw [if_pos p]; exact h
      · rename_i p
        rw [if_neg p]
        exact errsF_front l r (i + 1) h

theorem errs_up {x : It} (h : Ok1 x) : Nn.errs x.nms.dropLast = 0 := by
  have := errs_nms h
  rw [← List.dropLast_concat_getLast h.ne] at this
  exact errsF_front _ _ 0 this

theorem joinB_root {l : List Name} (h : Nn.errs l = 0) (e : Nn.joinB l = [47]) : l = [] := by
  have hs : Nn.split (Nn.joinB l) = (l, 0) := Nn.join_split (by unfold Nn.join; rw [if_neg (by simpa using h)])
  rw [e] at hs
  have : Nn.split [47] = ([], 0) := rfl
  rw [this] at hs
  exact (congrArg Prod.fst hs).symm

theorem split_joinB {l : List Name} (h : Nn.errs l = 0) : Nn.split (Nn.joinB l) = (l, 0) := Nn.join_split (by unfold Nn.join; rw [if_neg (by simpa using h)])

/-- what a right world is -/
structure Right (w : List It) : Prop where
  each : ∀ x ∈ w, iErr x = 0
  sorted : Sorted It.nms w
  closed : Closed It.nms It.dir w

theorem right_more : ∀ (r done : List It), Right done → wErrF done r = 0 → Right (done ++ r)
  | [], done, h, _ => by rw [List.append_nil]; exact h
  | x :: r, done, h, he => by
    rw [wErrF] at he
    split at he
    · rename_i q; exact absurd he q
    rename_i q0
    split at he
    · cases he
    rename_i q1
    split at he
    · cases he
    rename_i q2
    have hx := iErr_ok (Decidable.not_not.mp q0)
    have hlast : ∀ y ∈ done, Nn.ahead y.nms x.nms = true := by
      cases hd : done.getLast? with
      | none =>
        rw [List.getLast?_eq_none_iff.1 hd]
        exact fun y hy => absurd hy List.not_mem_nil
      | some z =>
        have hz : Nn.ahead z.nms x.nms = true := by
          have hzl : z ∈ done := List.mem_of_getLast? hd
          have hzo := iErr_ok (h.each z hzl)
          rw [late, hd] at q1
          have q1 : (Nn.less z.path x.path).1 = true := by simpa using q1
          rw [Nn.less, if_neg (by simpa using hzo.spl), if_neg (by simpa using hx.spl)] at q1
          exact q1
        intro y hy
        obtain ⟨pre, rfl⟩ := List.getLast?_eq_some_iff.1 hd
        rcases List.mem_append.1 hy with k | k
        · exact Nn.ahead_trans _ _ _ ((List.pairwise_append.1 h.sorted).2.2 y k z List.mem_cons_self) hz
        · rw [List.mem_singleton.1 k]; exact hz
    have h1 : Right (done ++ [x]) := by
      refine ⟨fun y hy => ?_, ?_, fun y hy => ?_⟩
      · rcases List.mem_append.1 hy with k | k
        · exact h.each y k
        · rw [List.mem_singleton.1 k]; exact Decidable.not_not.mp q0
      · unfold Sorted
        rw [List.pairwise_append]
        exact ⟨h.sorted, List.pairwise_singleton _ _, fun a ha b hb => by rw [List.mem_singleton.1 hb]; exact hlast a ha⟩
      · rcases List.mem_append.1 hy with k | k
        · obtain ⟨c1, c2⟩ := h.closed y k
          refine ⟨c1, c2.imp id fun ⟨z, hz, e⟩ => ⟨z, List.mem_append_left _ hz, e⟩⟩
        · rw [List.mem_singleton.1 k]
          refine ⟨hx.ne, ?_⟩
          have hl : lies done x = true := by simpa using q2
          rw [lies, Bool.or_eq_true, decide_eq_true_eq, List.any_eq_true] at hl
          rcases hl with hl | ⟨z, hz, e⟩
          · exact .inl (joinB_root (errs_up hx) hl)
          · rw [Bool.and_eq_true, decide_eq_true_eq] at e
            refine .inr ⟨z, List.mem_append_left _ hz, ?_, e.2⟩
            unfold It.nms
            rw [e.1, up, split_joinB (errs_up hx)]
            rfl
    have := right_more r (done ++ [x]) h1 he
    rwa [List.append_assoc] at this

theorem world_ok {w : List It} (h : world w = 0) : w.length ≤ 100 ∧ Right w := by
  unfold world at h
  split at h
  · cases h
  · exact ⟨by omega, right_more w [] ⟨fun x hx => absurd hx List.not_mem_nil, List.Pairwise.nil, fun x hx => absurd hx List.not_mem_nil⟩ h⟩

theorem errsF_few : ∀ (l : List Name) (i : Nat), Nn.errsF i l = 0 → i ≤ 8 → i + l.length ≤ 8
  | [], i, _, h => by simpa using h
  | s :: l, i, h, hi => by
    rw [Nn.errsF] at h
    split at h
    · rename_i q; first | (cases h) | exact absurd h q
    · rename_i q
      split at h
      · rename_i p; first | (cases h) | exact absurd h p
      · have := errsF_few l (i + 1) h (by omega)
        rw [List.length_cons]
        omega

/-- directory by directory all items are told, in their order -/
theorem dfs_world {w : List It} (h : world w = 0) : dfs It.nms It.dir w 8 [] = w := by
  obtain ⟨_, hr⟩ := world_ok h
  refine dfs_all hr.sorted hr.closed 8 fun x hx => ?_
  have := errsF_few _ 0 (errs_nms (iErr_ok (hr.each x hx))) (by omega)
  omega

end Wk

end Go.Proofs.YtimdioacmojkeaaDoor

namespace Go.Proofs.YtimdioacmojkeaaDoor
namespace Nm

theorem read_some {l : List UInt8} {k t n : Nat} (h : readN l k t = (n, 0)) : k ≤ 8 ∧ k ≤ l.length ∧ n < 256 ^ 8 ∧ tn t (dig n) = l.take k ∧ (dig n).length = k := by
  unfold readN at h
  split at h
  · cases h
  split at h
  · cases h
  split at h
  · cases h
  rename_i h8 hl hd
  obtain ⟨rfl, _⟩ := Prod.mk.inj h
  have hlen : (l.take k).length = k := by rw [List.length_take]; omega
  have hv := val_lt (tn t (l.take k))
  rw [tn_length, hlen] at hv
  have hp : 256 ^ k ≤ 256 ^ 8 := Nat.pow_le_pow_right (by omega) (by omega)
  have hdv : dig (val (tn t (l.take k))) = tn t (l.take k) := by
    refine dig_val _ (by rw [tn_length, hlen]; omega) ?_
    by_cases hk : k = 0
    · left; subst hk; rfl
    · right
      intro e
      apply hd
      refine ⟨by omega, ?_⟩
      cases l with
      | nil => simp at hl; omega
      | cons b l =>
        cases k with
        | zero => exact absurd rfl hk
        | succ k => simpa [tn] using e
  exact ⟨by omega, by omega, by omega, by rw [hdv, tn_tn], by rw [hdv, tn_length, hlen]⟩
theorem cons_of {l : List UInt8} (h : l ≠ []) : ∃ b r, l = b :: r := by
  cases l with
  | nil => exact absurd rfl h
  | cons b r => exact ⟨b, r, rfl⟩
theorem getN_cons (b : UInt8) (r : List UInt8) : getN (b :: r) = if (readN r b.toNat 0).2 = 0 then ((readN r b.toNat 0).1, 1 + b.toNat, (0 : Int)) else ((0 : Nat), (0 : Nat), (readN r b.toNat 0).2) := by
  rw [getN, if_neg (by simp)]; rfl
theorem getI_hi (b : UInt8) (r : List UInt8) (h : 128 ≤ b.toNat) : getI (b :: r) = if (readN r (b.toNat - 128) 0).2 = 0 then (if 9223372036854775807 < (readN r (b.toNat - 128) 0).1 then ((0 : Int), (0 : Nat), (4 : Int)) else (((readN r (b.toNat - 128) 0).1 : Int), 1 + (b.toNat - 128), (0 : Int))) else ((0 : Int), (0 : Nat), (readN r (b.toNat - 128) 0).2) := by
  rw [getI, if_neg (by simp), if_pos (show 128 ≤ ((b :: r).headD 0).toNat from h)]; rfl
theorem getI_lo (b : UInt8) (r : List UInt8) (h : ¬ 128 ≤ b.toNat) : getI (b :: r) = if (readN r (127 - b.toNat) 255).2 = 0 then (if 9223372036854775807 < (readN r (127 - b.toNat) 255).1 then ((0 : Int), (0 : Nat), (4 : Int)) else (-1 - ((readN r (127 - b.toNat) 255).1 : Int), 1 + (127 - b.toNat), (0 : Int))) else ((0 : Int), (0 : Nat), (readN r (127 - b.toNat) 255).2) := by
  rw [getI, if_neg (by simp), if_neg (show ¬ 128 ≤ ((b :: r).headD 0).toNat from h)]; rfl
theorem get_one {l : List UInt8} {n k : Nat} (h : getN l = (n, k, 0)) : k ≤ l.length ∧ n < 256 ^ 8 ∧ put n = l.take k := by
  have hne : l ≠ [] := by intro e; subst e; cases h
  obtain ⟨b, r, rfl⟩ := cons_of hne
  rw [getN_cons] at h
  generalize hr : readN r b.toNat 0 = x at h
  obtain ⟨x1, x2⟩ := x
  simp only at h
  split at h
  · rename_i h0
    subst h0
    obtain ⟨rfl, h2⟩ := Prod.mk.inj h
    obtain ⟨rfl, _⟩ := Prod.mk.inj h2
    obtain ⟨g1, g2, g3, g4, g5⟩ := read_some hr
    rw [tn_zero] at g4
    refine ⟨by rw [List.length_cons]; omega, g3, ?_⟩
    rw [put, Nat.add_comm 1, List.take_succ_cons, ← g4, g5]
    simp
  · rename_i h0
    obtain ⟨_, h2⟩ := Prod.mk.inj h
    obtain ⟨_, h3⟩ := Prod.mk.inj h2
    exact absurd h3 h0
theorem getI_one {l : List UInt8} {n : Int} {k : Nat} (h : getI l = (n, k, 0)) : k ≤ l.length ∧ -9223372036854775808 ≤ n ∧ n ≤ 9223372036854775807 ∧ putI n = l.take k := by
  have hne : l ≠ [] := by intro e; subst e; cases h
  obtain ⟨b, r, rfl⟩ := cons_of hne
  have hb := b.toNat_lt
  by_cases hc : 128 ≤ b.toNat
  · rw [getI_hi b r hc] at h
    generalize hr : readN r (b.toNat - 128) 0 = x at h
    obtain ⟨x1, x2⟩ := x
    simp only at h
    split at h
    · rename_i h0
      subst h0
      split at h
      · cases h
      rename_i hm
      obtain ⟨rfl, h2⟩ := Prod.mk.inj h
      obtain ⟨rfl, _⟩ := Prod.mk.inj h2
      obtain ⟨g1, g2, g3, g4, g5⟩ := read_some hr
      rw [tn_zero] at g4
      refine ⟨by rw [List.length_cons]; omega, by omega, by omega, ?_⟩
      rw [putI, if_neg (by omega), Int.toNat_natCast, Nat.add_comm 1, List.take_succ_cons, ← g4, g5, show 128 + (b.toNat - 128) = b.toNat from by omega]
      simp
    · rename_i h0
      obtain ⟨_, h2⟩ := Prod.mk.inj h
      obtain ⟨_, h3⟩ := Prod.mk.inj h2
      exact absurd h3 h0
  · rw [getI_lo b r hc] at h
    generalize hr : readN r (127 - b.toNat) 255 = x at h
    obtain ⟨x1, x2⟩ := x
    simp only at h
    split at h
    · rename_i h0
      subst h0
      split at h
      · cases h
      rename_i hm
      obtain ⟨rfl, h2⟩ := Prod.mk.inj h
      obtain ⟨rfl, _⟩ := Prod.mk.inj h2
      obtain ⟨g1, g2, g3, g4, g5⟩ := read_some hr
      refine ⟨by rw [List.length_cons]; omega, by omega, by omega, ?_⟩
      rw [putI, if_pos (by omega), show (-1 - (-1 - (x1 : Int))).toNat = x1 from by omega, Nat.add_comm 1, List.take_succ_cons, ← g4, g5, show 127 - (127 - b.toNat) = b.toNat from by omega]
      simp
    · rename_i h0
      obtain ⟨_, h2⟩ := Prod.mk.inj h
      obtain ⟨_, h3⟩ := Prod.mk.inj h2
      exact absurd h3 h0
theorem flip_unflip (n : Nat) (h : n < 18446744073709551616) : flip (unflip n) = n := by
  unfold unflip
  split
  · rw [flip, if_neg (by omega)]; omega
  · rw [flip, if_pos (by omega)]; omega
theorem getF_one {l : List UInt8} {b k : Nat} (h : getF l = (b, k, 0)) : k = 8 ∧ k ≤ l.length ∧ b < 18446744073709551616 ∧ putF b = l.take k := by
  unfold getF at h
  split at h
  · cases h
  rename_i hl
  split at h
  · cases h
  rename_i hn
  obtain ⟨rfl, h2⟩ := Prod.mk.inj h
  obtain ⟨rfl, _⟩ := Prod.mk.inj h2
  have hlen : (l.take 8).length = 8 := by rw [List.length_take]; omega
  have hv := val_lt (l.take 8)
  rw [hlen] at hv
  have hone : oneNaN (unflip (val (l.take 8))) = unflip (val (l.take 8)) := by
    unfold oneNaN
    split
    · rename_i h1
      by_cases he : unflip (val (l.take 8)) = 9221120237041090561
      · exact he.symm
      · exact absurd ⟨h1, he⟩ hn
    · rfl
  refine ⟨rfl, by omega, ?_, ?_⟩
  · unfold unflip; split <;> omega
  · rw [putF, hone, flip_unflip _ (by omega)]
    have := low_val (l.take 8)
    rw [hlen] at this
    exact this
theorem scan_one : ∀ (n : Nat) (l acc : List UInt8) (p : Nat) (t : List UInt8) (k : Nat), l.length ≤ n → acc.length ≤ 1024 → scanT l acc p = (t, k, 0) →
    ∃ u, t = acc ++ u ∧ t.length ≤ 1024 ∧ k = p + (putT u).length ∧ (putT u).length ≤ l.length ∧ putT u = l.take (putT u).length := by
  intro n
  induction n with
  | zero =>
    intro l acc p t k hl _ h
    have : l = [] := List.length_eq_zero_iff.1 (by omega)
    subst this
    cases h
  | succ n ih =>
    intro l acc p t k hl ha h
    cases l with
    | nil => cases h
    | cons b r =>
      rw [List.length_cons] at hl
      by_cases hb : b = 0
      · subst hb
        cases r with
        | nil => rw [scan_end] at h; cases h
        | cons d r =>
          rw [List.length_cons] at hl
          by_cases hd0 : d = 0
          · subst hd0
            rw [scan_zeros] at h
            obtain ⟨rfl, h2⟩ := Prod.mk.inj h
            obtain ⟨rfl, _⟩ := Prod.mk.inj h2
            exact ⟨[], by simp, ha, rfl, by simp [putT, esc], rfl⟩
          · by_cases hd1 : d = 255
            · subst hd1
              by_cases hf : acc.length = 1024
              · rw [scan_esc_full _ _ _ hf] at h; cases h
              · rw [scan_esc _ _ _ hf] at h
                obtain ⟨u, g1, g2, g3, g4, g5⟩ := ih r _ _ _ _ (by omega) (by simp; omega) h
                refine ⟨0 :: u, by rw [g1]; simp, g2, ?_, ?_, ?_⟩
                · rw [g3]; simp [putT, esc]; omega
                · have e : (putT (0 :: u)).length = (putT u).length + 2 := by simp [putT, esc]
                  rw [e, List.length_cons, List.length_cons]; omega
                · have e : putT (0 :: u) = 0 :: 255 :: putT u := rfl
                  rw [e, List.length_cons, List.length_cons, List.take_succ_cons, List.take_succ_cons, ← g5]
            · rw [scan_bad _ _ _ _ hd0 hd1] at h; cases h
      · by_cases hf : acc.length = 1024
        · rw [scan_full _ _ _ _ hb hf] at h; cases h
        · rw [scan_byte _ _ _ _ hb hf] at h
          obtain ⟨u, g1, g2, g3, g4, g5⟩ := ih r _ _ _ _ (by omega) (by simp; omega) h
          have e : putT (b :: u) = b :: putT u := by simp [putT, esc, hb]
          refine ⟨b :: u, by rw [g1]; simp, g2, ?_, ?_, ?_⟩
          · rw [g3, e, List.length_cons]; omega
          · rw [e, List.length_cons, List.length_cons]; omega
          · rw [e, List.length_cons, List.take_succ_cons, ← g5]
theorem getT_one {l t : List UInt8} {k : Nat} (h : getT l = (t, k, 0)) : k ≤ l.length ∧ t.length ≤ 1024 ∧ putT t = l.take k := by
  obtain ⟨u, g1, g2, g3, g4, g5⟩ := scan_one l.length l [] 0 t k (Nat.le_refl _) (by simp) h
  rw [List.nil_append] at g1
  subst g1
  rw [Nat.zero_add] at g3
  subst g3
  exact ⟨g4, g2, g5⟩
theorem scan_err : ∀ (n : Nat) (l acc : List UInt8) (p : Nat), l.length ≤ n → (scanT l acc p).2.2 = 0 ∨ (scanT l acc p).1 = [] := by
  intro n
  induction n with
  | zero =>
    intro l acc p hl
    have : l = [] := List.length_eq_zero_iff.1 (by omega)
    subst this
    right; rfl
  | succ n ih =>
    intro l acc p hl
    cases l with
    | nil => right; rfl
    | cons b r =>
      rw [List.length_cons] at hl
      by_cases hb : b = 0
      · subst hb
        cases r with
        | nil => rw [scan_end]; right; rfl
        | cons d r =>
          rw [List.length_cons] at hl
          by_cases hd0 : d = 0
          · subst hd0; rw [scan_zeros]; left; rfl
          · by_cases hd1 : d = 255
            · subst hd1
              by_cases hf : acc.length = 1024
              · rw [scan_esc_full _ _ _ hf]; right; rfl
              · rw [scan_esc _ _ _ hf]; exact ih _ _ _ (by omega)
            · rw [scan_bad _ _ _ _ hd0 hd1]; right; rfl
      · by_cases hf : acc.length = 1024
        · rw [scan_full _ _ _ _ hb hf]; right; rfl
        · rw [scan_byte _ _ _ _ hb hf]; exact ih _ _ _ (by omega)
theorem getT_err (l : List UInt8) (h : (getT l).2.2 ≠ 0) : (getT l).1 = [] := (scan_err l.length l [] 0 (Nat.le_refl _)).resolve_left h
end Nm
end Go.Proofs.YtimdioacmojkeaaDoor

namespace Go.Proofs.YtimdioacmojkeaaDoor
namespace Td

abbrev Bs := List UInt8
/-- a node: its parts are IDs of eight bytes each -/
structure Nd where
  name : Bs
  kind : Int
  mode : Int
  time : Int
  size : Int
  parts : List Bs
  link : Bs
/-- the error of one node -/
def nErr (n : Nd) : Int :=
  if Nn.nm n.name ≠ 0 then Nn.nm n.name
  else if n.mode < 0 ∨ 511 < n.mode ∨ n.size < 0 ∨ 4096 < n.size ∨ 300 < n.parts.length then 1
  else if n.kind < 1 ∨ 3 < n.kind then 5
  else if (n.kind = 1 ∧ n.link ≠ []) ∨ (1 < n.kind ∧ n.size ≠ 0) ∨ (n.kind = 2 ∧ (n.parts.length ≠ 1 ∨ n.link ≠ [])) ∨ (n.kind = 3 ∧ (n.parts.length ≠ 0 ∨ n.link = [])) then 4
  else if 1024 < n.link.length then 2 else 0
theorem nErr_ok {n : Nd} (h : nErr n = 0) : Nn.nm n.name = 0 ∧ 0 ≤ n.mode ∧ n.mode ≤ 511 ∧ 0 ≤ n.size ∧ n.size ≤ 4096 ∧ n.parts.length ≤ 300 ∧ 1 ≤ n.kind ∧ n.kind ≤ 3 ∧ n.link.length ≤ 1024 := by
  unfold nErr at h
  split at h
  · rename_i q; exact absurd h q
  · rename_i q0
    split at h
    · cases h
    · rename_i q1
      split at h
      · cases h
      · rename_i q2
        split at h
        · cases h
        · split at h
          · cases h
          · rename_i q4
            have := Decidable.not_not.mp q0
            exact ⟨this, by omega, by omega, by omega, by omega, by omega, by omega, by omega, by omega⟩
/-- a name that is not above the one ahead -/
def low (p : Option Bs) (s : Bs) : Bool := match p with | none => false | some b => !Op.bytesLess b s
/-- node by node: the first error -/
def ckB : Option Bs → List Nd → Int
  | _, [] => 0
  | p, n :: l => if nErr n ≠ 0 then nErr n else if low p n.name = true then 4 else ckB (some n.name) l
def check (l : List Nd) : Int := if 64 < l.length then 2 else ckB none l
theorem ckB_each : ∀ {l : List Nd} {p : Option Bs}, ckB p l = 0 → ∀ n ∈ l, nErr n = 0
  | [], _, _, n, hn => absurd hn List.not_mem_nil
  | m :: l, p, h, n, hn => by
    rw [ckB] at h
    split at h
    · rename_i q; exact absurd h q
    · rename_i q
      split at h
      · cases h
      · rcases List.mem_cons.1 hn with e | hn
        · rw [e]; exact Decidable.not_not.mp q
        · exact ckB_each h n hn
theorem check_ok {l : List Nd} (h : check l = 0) : l.length ≤ 64 ∧ ∀ n ∈ l, nErr n = 0 := by
  unfold check at h
  split at h
  · cases h
  · exact ⟨by omega, ckB_each h⟩
/-- where a name stands -/
def find (l : List Nd) (s : Bs) : Nat × Int :=
  if check l ≠ 0 then (0, check l) else match l.findIdx? (fun n => n.name == s) with
  | none => (0, 9)
  | some k => (k, 0)
/-- a node as bytes -/
def rowT (n : Nd) : Bs := Nm.putT n.name ++ (UInt8.ofNat n.kind.toNat :: (Nm.put n.mode.toNat ++ (Nm.putI n.time ++ (Nm.put n.size.toNat ++ (Nm.put n.parts.length ++ (n.parts.flatten ++ Nm.putT n.link))))))
def rowsT (l : List Nd) : Bs := (l.map rowT).flatten
def textB (l : List Nd) : Bs := Nm.put l.length ++ rowsT l
/-- what Write says -/
def write (l : List Nd) : Bs × Int := if check l ≠ 0 then ([], check l) else if 4096 < (textB l).length then ([], 2) else (textB l, 0)
/-- a number that may not be above -/
def num (most : Nat) (s : Bs) : Nat × Bs × Int :=
  let g := Nm.getN s
  if g.2.2 ≠ 0 then (0, [], g.2.2) else if most < g.1 then (0, [], 2) else (g.1, s.drop g.2.1, 0)
/-- a text cut into eights -/
def eights : Nat → Bs → List Bs
  | 0, _ => []
  | k + 1, s => s.take 8 :: eights k (s.drop 8)
def nd0 : Nd := ⟨[], 0, 0, 0, 0, [], []⟩
/-- one node, and what is behind it -/
def rdOne (s : Bs) : Nd × Bs × Int :=
  let t := Nm.getT s
  if t.2.2 ≠ 0 then (nd0, [], t.2.2) else
  let s1 := s.drop t.2.1
  if s1 = [] then (nd0, [], 3) else
  let m := num 511 s1.tail
  if m.2.2 ≠ 0 then (nd0, [], m.2.2) else
  let i := Nm.getI m.2.1
  if i.2.2 ≠ 0 then (nd0, [], i.2.2) else
  let z := num 4096 (m.2.1.drop i.2.1)
  if z.2.2 ≠ 0 then (nd0, [], z.2.2) else
  let p := num 300 z.2.1
  if p.2.2 ≠ 0 then (nd0, [], p.2.2) else
  if p.2.1.length < 8 * p.1 then (nd0, [], 3) else
  let k := Nm.getT (p.2.1.drop (8 * p.1))
  if k.2.2 ≠ 0 then (nd0, [], k.2.2) else
  (⟨t.1, (s1.headD 0).toNat, m.1, i.1, z.1, eights p.1 p.2.1, k.1⟩, (p.2.1.drop (8 * p.1)).drop k.2.1, 0)
/-- so many nodes -/
def rdAll : Nat → Bs → List Nd → List Nd × Int
  | 0, s, out => if s ≠ [] then ([], 4) else if check out ≠ 0 then ([], check out) else (out, 0)
  | m + 1, s, out => let r := rdOne s; if r.2.2 ≠ 0 then ([], r.2.2) else rdAll m r.2.1 (out ++ [r.1])
/-- what Read says -/
def read (s : Bs) : List Nd × Int :=
  if 4096 < s.length then ([], 2) else
  let g := num 64 s
  if g.2.2 ≠ 0 then ([], g.2.2) else rdAll g.1 g.2.1 []
/-- a node as a machine has it: a time of 64 bits, IDs of eight bytes -/
structure Wn (n : Nd) : Prop where
  lo : -9223372036854775808 ≤ n.time
  hi : n.time ≤ 9223372036854775807
  ids : ∀ p ∈ n.parts, p.length = 8

theorem num_put {most n : Nat} (hm : most < 256 ^ 8) (h : n ≤ most) (m : Bs) : num most (Nm.put n ++ m) = (n, m, 0) := by
  unfold num
  rw [Nm.get_put n m (by omega)]
  simp only [ne_eq, not_true, if_false, List.drop_left]
  rw [if_neg (by omega)]
theorem num_one {most : Nat} {s : Bs} {n : Nat} {r : Bs} (h : num most s = (n, r, 0)) : n ≤ most ∧ Nm.put n ++ r = s := by
  unfold num at h
  rcases hg : Nm.getN s with ⟨a, k, e⟩
  rw [hg] at h
  simp only at h
  split at h
  · rename_i hn; exact absurd (congrArg (fun q => q.2.2) h) hn
  · rename_i h0
    split at h
    · exact absurd (congrArg (fun q => q.2.2) h) (by simp)
    · obtain rfl : a = n := congrArg (fun q => q.1) h
      obtain rfl : s.drop k = r := congrArg (fun q => q.2.1) h
      obtain ⟨_, _, e1⟩ := Nm.get_one (hg.trans (by rw [Decidable.not_not.mp h0]))
      exact ⟨by omega, by rw [e1, List.take_append_drop]⟩
theorem flat8 : ∀ {l : List Bs}, (∀ p ∈ l, p.length = 8) → l.flatten.length = 8 * l.length
  | [], _ => rfl
  | p :: l, h => by
    rw [List.flatten_cons, List.length_append, h p List.mem_cons_self, flat8 fun q hq => h q (List.mem_cons_of_mem _ hq), List.length_cons]
    omega
theorem eights_flat : ∀ {l : List Bs} (m : Bs), (∀ p ∈ l, p.length = 8) → eights l.length (l.flatten ++ m) = l
  | [], _, _ => rfl
  | p :: l, m, h => by
    have h8 := h p List.mem_cons_self
    rw [List.length_cons, eights, List.flatten_cons, List.append_assoc, ← h8, List.take_left, List.drop_left, eights_flat m fun q hq => h q (List.mem_cons_of_mem _ hq)]
theorem flat_eights : ∀ {k : Nat} {s : Bs}, 8 * k ≤ s.length → (eights k s).flatten = s.take (8 * k) ∧ (eights k s).length = k ∧ ∀ p ∈ eights k s, p.length = 8
  | 0, s, _ => by simp [eights]
  | k + 1, s, h => by
    have h1 : 8 * k ≤ (s.drop 8).length := by rw [List.length_drop]; omega
    obtain ⟨a, b, c⟩ := flat_eights h1
    refine ⟨?_, by rw [eights, List.length_cons, b], fun p hp => ?_⟩
    · rw [eights, List.flatten_cons, a, show 8 * (k + 1) = 8 + 8 * k from by omega, List.take_add]
    · rw [eights] at hp
      rcases List.mem_cons.1 hp with e | hp
      · rw [e, List.length_take]; omega
      · exact c p hp
theorem rdOne_row {n : Nd} (hw : Wn n) (h : nErr n = 0) (m : Bs) : rdOne (rowT n ++ m) = (n, m, 0) := by
  obtain ⟨hn, m0, m1, z0, z1, hp, k0, k1, hl⟩ := nErr_ok h
  have hnl : n.name.length ≤ 1024 := by have := Nn.nm_long hn; omega
  have e0 : rowT n ++ m = Nm.putT n.name ++ (UInt8.ofNat n.kind.toNat :: (Nm.put n.mode.toNat ++ (Nm.putI n.time ++ (Nm.put n.size.toNat ++ (Nm.put n.parts.length ++ (n.parts.flatten ++ (Nm.putT n.link ++ m))))))) := by
    unfold rowT
    simp only [List.append_assoc, List.cons_append]
  unfold rdOne
  rw [e0, Nm.getT_putT _ _ hnl]
  have n0 : ¬ ((0 : Int) ≠ 0) := fun k => k rfl
  have hf := flat8 hw.ids
  have hlt : ¬ (n.parts.flatten ++ (Nm.putT n.link ++ m)).length < n.parts.flatten.length := by rw [List.length_append]; omega
  simp only [if_neg n0, List.drop_left, List.tail_cons, num_put (show 511 < 256 ^ 8 by decide) (show n.mode.toNat ≤ 511 by omega), Nm.getI_putI _ _ hw.lo hw.hi,
    num_put (show 4096 < 256 ^ 8 by decide) (show n.size.toNat ≤ 4096 by omega), num_put (show 300 < 256 ^ 8 by decide) hp, reduceCtorEq, if_false, List.headD_cons, ← hf, if_neg hlt, eights_flat _ hw.ids, Nm.getT_putT _ _ hl]
  have kb : ((UInt8.ofNat n.kind.toNat).toNat : Int) = n.kind := by
    rw [UInt8.toNat_ofNat']; omega
  rw [kb, Int.toNat_of_nonneg m0, Int.toNat_of_nonneg z0]
theorem rdOne_one {s r : Bs} {n : Nd} (h : rdOne s = (n, r, 0)) : Wn n ∧ rowT n ++ r = s := by
  unfold rdOne at h
  rcases ht : Nm.getT s with ⟨t, kt, et⟩
  rw [ht] at h
  simp only at h
  split at h
  · rename_i q; exact absurd (congrArg (fun q => q.2.2) h) q
  rename_i q1
  split at h
  · exact absurd (congrArg (fun q => q.2.2) h) (by simp)
  rename_i q2
  rcases hm : num 511 (s.drop kt).tail with ⟨m, s2, em⟩
  rw [hm] at h
  simp only at h
  split at h
  · rename_i q; exact absurd (congrArg (fun q => q.2.2) h) q
  rename_i q3
  rcases hi : Nm.getI s2 with ⟨i, ki, ei⟩
  rw [hi] at h
  simp only at h
  split at h
  · rename_i q; exact absurd (congrArg (fun q => q.2.2) h) q
  rename_i q4
  rcases hz : num 4096 (s2.drop ki) with ⟨z, s3, ez⟩
  rw [hz] at h
  simp only at h
  split at h
  · rename_i q; exact absurd (congrArg (fun q => q.2.2) h) q
  rename_i q5
  rcases hp : num 300 s3 with ⟨p, s4, ep⟩
  rw [hp] at h
  simp only at h
  split at h
  · rename_i q; exact absurd (congrArg (fun q => q.2.2) h) q
  rename_i q6
  split at h
  · exact absurd (congrArg (fun q => q.2.2) h) (by simp)
  rename_i q7
  rcases hk : Nm.getT (s4.drop (8 * p)) with ⟨k, kk, ek⟩
  rw [hk] at h
  simp only at h
  split at h
  · rename_i q; exact absurd (congrArg (fun q => q.2.2) h) q
  rename_i q8
  obtain ⟨_, _, et1⟩ := Nm.getT_one (ht.trans (by rw [Decidable.not_not.mp q1]))
  obtain ⟨_, em1⟩ := num_one (hm.trans (by rw [Decidable.not_not.mp q3]))
  obtain ⟨_, ei1, ei2, ei3⟩ := Nm.getI_one (hi.trans (by rw [Decidable.not_not.mp q4]))
  obtain ⟨_, ez1⟩ := num_one (hz.trans (by rw [Decidable.not_not.mp q5]))
  obtain ⟨_, ep1⟩ := num_one (hp.trans (by rw [Decidable.not_not.mp q6]))
  obtain ⟨_, _, ek1⟩ := Nm.getT_one (hk.trans (by rw [Decidable.not_not.mp q8]))
  obtain ⟨f1, f2, f3⟩ := flat_eights (k := p) (s := s4) (by omega)
  obtain rfl : (s4.drop (8 * p)).drop kk = r := congrArg (fun q => q.2.1) h
  have hn : (⟨t, ((s.drop kt).headD 0).toNat, m, i, z, eights p s4, k⟩ : Nd) = n := congrArg (fun q => q.1) h
  subst hn
  refine ⟨⟨ei1, ei2, f3⟩, ?_⟩
  unfold rowT
  simp only [Int.toNat_natCast, UInt8.ofNat_toNat, List.append_assoc, List.cons_append, f1, f2, ek1, List.take_append_drop, ep1, ez1, ei3, em1, et1]
  have : (s.drop kt).headD 0 :: (s.drop kt).tail = s.drop kt := by
    cases hq : s.drop kt with
    | nil => exact absurd hq q2
    | cons a b => rfl
  rw [this, List.take_append_drop]
theorem rdAll_rows {x : List Nd} : ∀ {out : List Nd}, (∀ n ∈ x, Wn n) → check (out ++ x) = 0 → rdAll x.length (rowsT x) out = (out ++ x, 0) := by
  induction x with
  | nil =>
    intro out _ h
    rw [List.append_nil] at h ⊢
    rw [List.length_nil, rdAll, if_neg (fun k => k rfl), if_neg (fun k => k h)]
  | cons p x ih =>
    intro out hi h
    have hp : nErr p = 0 := (check_ok h).2 p (List.mem_append_right _ List.mem_cons_self)
    have e : rowsT (p :: x) = rowT p ++ rowsT x := rfl
    rw [List.length_cons, rdAll, e, rdOne_row (hi p List.mem_cons_self) hp]
    simp only [ne_eq, not_true, if_false]
    have e2 : out ++ p :: x = (out ++ [p]) ++ x := by rw [List.append_assoc]; rfl
    rw [e2] at h ⊢
    exact ih (fun q hq => hi q (List.mem_cons_of_mem _ hq)) h
/-- nodes are read as they were written -/
theorem read_write {x : List Nd} {s : Bs} (hi : ∀ n ∈ x, Wn n) (h : write x = (s, 0)) : read s = (x, 0) := by
  unfold write at h
  split at h
  · rename_i q; exact absurd (congrArg (fun q => q.2) h) q
  rename_i q
  have hc := Decidable.not_not.mp q
  split at h
  · exact absurd (congrArg (fun q => q.2) h) (by simp)
  rename_i q2
  obtain rfl : textB x = s := congrArg (fun q => q.1) h
  have hl := (check_ok hc).1
  unfold read
  rw [if_neg q2]
  unfold textB
  rw [num_put (by decide) hl]
  simp only [ne_eq, not_true, if_false]
  exact rdAll_rows hi hc
theorem rdAll_one : ∀ {m : Nat} {s : Bs} {out x : List Nd}, (∀ n ∈ out, Wn n) → rdAll m s out = (x, 0) → ∃ y, x = out ++ y ∧ y.length = m ∧ rowsT y = s ∧ (∀ n ∈ x, Wn n) ∧ check x = 0
  | 0, s, out, x, hi, h => by
    rw [rdAll] at h
    split at h
    · exact absurd (congrArg (fun q => q.2) h) (by simp)
    · rename_i hs
      split at h
      · rename_i hn; exact absurd (congrArg (fun q => q.2) h) hn
      · rename_i hc
        obtain rfl : out = x := congrArg (fun q => q.1) h
        exact ⟨[], by rw [List.append_nil], rfl, by rw [Decidable.not_not.mp hs]; rfl, hi, Decidable.not_not.mp hc⟩
  | m + 1, s, out, x, hi, h => by
    rw [rdAll] at h
    rcases hr : rdOne s with ⟨p, r, e⟩
    rw [hr] at h
    simp only at h
    split at h
    · rename_i hn; exact absurd (congrArg (fun q => q.2) h) hn
    · rename_i h0
      obtain ⟨h8, es⟩ := rdOne_one (hr.trans (by rw [Decidable.not_not.mp h0]))
      obtain ⟨y, e1, e2, e3, e4⟩ := rdAll_one (fun q hq => by
        rcases List.mem_append.1 hq with k | k
        · exact hi q k
        · rw [List.mem_singleton.mp k]; exact h8) h
      refine ⟨p :: y, by rw [e1, List.append_assoc]; rfl, by rw [List.length_cons, e2], ?_, e4⟩
      rw [← es, ← e3]
      rfl
/-- what is read is written as just those bytes -/
theorem write_read {s : Bs} {x : List Nd} (h : read s = (x, 0)) : (∀ n ∈ x, Wn n) ∧ check x = 0 ∧ write x = (s, 0) := by
  unfold read at h
  split at h
  · exact absurd (congrArg (fun q => q.2) h) (by simp)
  rename_i q0
  rcases hg : num 64 s with ⟨n, k, e⟩
  rw [hg] at h
  simp only at h
  split at h
  · rename_i hn; exact absurd (congrArg (fun q => q.2) h) hn
  · rename_i h0
    obtain ⟨_, e1⟩ := num_one (hg.trans (by rw [Decidable.not_not.mp h0]))
    obtain ⟨y, e2, e3, e4, e5, e6⟩ := rdAll_one (fun _ hq => absurd hq List.not_mem_nil) h
    rw [List.nil_append] at e2
    subst e2
    refine ⟨e5, e6, ?_⟩
    have et : textB x = s := by
      unfold textB
      rw [e3, e4, e1]
    unfold write
    rw [if_neg (fun q => q e6), et, if_neg q0]
theorem rdAll_bad : ∀ {m : Nat} {s : Bs} {out : List Nd}, (rdAll m s out).2 ≠ 0 → (rdAll m s out).1 = []
  | 0, s, out, h => by
    rw [rdAll] at h ⊢
    split
    · rfl
    · split
      · rfl
      · rename_i a b; rw [if_neg a, if_neg b] at h; exact absurd rfl h
  | m + 1, s, out, h => by
    rw [rdAll] at h ⊢
    split
    · rfl
    · rename_i a; rw [if_neg a] at h; exact rdAll_bad h
theorem read_bad {s : Bs} (h : (read s).2 ≠ 0) : (read s).1 = [] := by
  unfold read at h ⊢
  simp only at h ⊢
  split
  · rfl
  · split
    · rfl
    · rename_i a b; rw [if_neg a, if_neg b] at h; exact rdAll_bad h
theorem write_bad {x : List Nd} (h : (write x).2 ≠ 0) : (write x).1 = [] := by
  unfold write at h ⊢
  split
  · rfl
  · split
    · rfl
    · rename_i a b; rw [if_neg a, if_neg b] at h; exact absurd rfl h
theorem read_none : read [0] = ([], 0) := rfl
end Td
end Go.Proofs.YtimdioacmojkeaaDoor

namespace Go.Proofs.YtimdioacmojkeaaDoor
namespace Wk
open Nn (Name)
open Pk (Bl)

/-- a blob into a list, unless it is there -/
def into (l : List Bl) (b : Bl) : List Bl × Bs × Int :=
  if Pk.bErr b ≠ 0 then (l, [], Pk.bErr b) else match l.find? (fun x => Pk.bid x == Pk.bid b) with
  | none => (l ++ [b], Pk.bid b, 0)
  | some x => if x = b then (l, Pk.bid b, 0) else (l, Pk.bid b, 11)

/-- pieces into a list -/
def pieces : List Bs → List Bl → List Bl × List Bs × Int
  | [], l => (l, [], 0)
  | p :: ps, l => let r := into l (1, p); if r.2.2 ≠ 0 then ([], [], r.2.2) else
    let q := pieces ps r.1; (q.1, r.2.1 :: q.2.1, q.2.2)

/-- the node of an item -/
def node (x : It) (ids : List Bs) : Td.Nd := ⟨x.nms.getLastD [], x.kind, x.mode, x.time, if x.kind = 1 then x.bytes.length else 0, ids, if x.kind = 3 then x.bytes else []⟩

/-- what one item makes -/
def thing (cutf : Bs → List Bs) (sub : List Name → List Bl → List Bl × Bs × Int) (x : It) (l : List Bl) : List Bl × List Bs × Int :=
  if x.kind = 1 then pieces (cutf x.bytes) l else if x.kind = 2 then (let s := sub x.nms l; (s.1, [s.2.1], s.2.2)) else (l, [], 0)

def things (cutf : Bs → List Bs) (sub : List Name → List Bl → List Bl × Bs × Int) : List It → List Bl → List Bl × List Td.Nd × Int
  | [], l => (l, [], 0)
  | x :: r, l => let t := thing cutf sub x l; if t.2.2 ≠ 0 then ([], [], t.2.2) else
    let q := things cutf sub r t.1; (q.1, node x t.2.1 :: q.2.1, q.2.2)

/-- the blobs of a directory, behind others -/
def plantDir (cutf : Bs → List Bs) (w : List It) : Nat → List Name → List Bl → List Bl × Bs × Int
  | 0, _, l => (l, [], 3)
  | k + 1, p, l => let t := things cutf (plantDir cutf w k) (kids It.nms w p) l; if t.2.2 ≠ 0 then ([], [], t.2.2) else
    let s := Td.write t.2.1; if s.2 ≠ 0 then ([], [], s.2) else into t.1 (2, s.1)

/-- a blob by its ID -/
def blobOf (l : List Bl) (id : Bs) (kind : Int) : Bs × Int := match l.find? (fun b => Pk.bid b == id) with
  | none => ([], 9)
  | some b => if b.1 ≠ kind then ([], 5) else (b.2, 0)

def reapFile (l : List Bl) (size : Int) : List Bs → Bs → Bs × Int
  | [], out => if (out.length : Int) ≠ size then ([], 4) else (out, 0)
  | id :: r, out => let s := blobOf l id 1; if s.2 ≠ 0 then ([], s.2) else if size < ((out ++ s.1).length : Int) then ([], 4) else reapFile l size r (out ++ s.1)

/-- the item of a node -/
def item (path : List Name) (n : Td.Nd) (bytes : Bs) : It := ⟨Nn.joinB (path ++ [n.name]), n.kind, n.mode, n.time, bytes⟩

def reapNodes (l : List Bl) (sub : Bs → List Name → List It → List It × Int) (path : List Name) : List Td.Nd → List It → List It × Int
  | [], w => (w, 0)
  | n :: r, w =>
    if 8 ≤ path.length then ([], 14) else if 100 ≤ w.length then ([], 2) else
    let f := if n.kind = 1 then reapFile l n.size n.parts [] else (n.link, 0)
    if f.2 ≠ 0 then ([], f.2) else
    let w1 := w ++ [item path n f.1]
    let s := if n.kind = 2 then sub (n.parts.headD []) (path ++ [n.name]) w1 else (w1, 0)
    if s.2 ≠ 0 then ([], s.2) else reapNodes l sub path r s.1

def reapDir (l : List Bl) : Nat → Bs → List Name → List It → List It × Int
  | 0, _, _, _ => ([], 3)
  | k + 1, id, path, w => let s := blobOf l id 2; if s.2 ≠ 0 then ([], s.2) else
    let n := Td.read s.1; if n.2 ≠ 0 then ([], n.2) else reapNodes l (reapDir l k) path n.1 w

/-- blobs that are right, no two unlike ones with one ID -/
structure Fine (l : List Bl) : Prop where
  ok : ∀ b ∈ l, Pk.bErr b = 0
  one : ∀ a ∈ l, ∀ b ∈ l, Pk.bid a = Pk.bid b → a = b

theorem into_ok {l l' : List Bl} {b : Bl} {id : Bs} (h : into l b = (l', id, 0)) : Pk.bErr b = 0 ∧ id = Pk.bid b ∧ b ∈ l' ∧ (∀ x ∈ l, x ∈ l') ∧ (Fine l → Fine l') ∧ (l' = l ∨ l' = l ++ [b]) := by
  unfold into at h
  split at h
  · rename_i q; exact absurd (congrArg (fun z => z.2.2) h) q
  rename_i q
  have hb := Decidable.not_not.mp q
  cases hf : l.find? (fun x => Pk.bid x == Pk.bid b) with
  | none =>
    rw [hf] at h
    obtain rfl : l ++ [b] = l' := congrArg (fun z => z.1) h
    obtain rfl : Pk.bid b = id := congrArg (fun z => z.2.1) h
    refine ⟨hb, rfl, by simp, fun x hx => List.mem_append_left _ hx, fun hF => ⟨fun x hx => ?_, fun x hx y hy e => ?_⟩, .inr rfl⟩
    · rcases List.mem_append.1 hx with k | k
      · exact hF.ok x k
      · rw [List.mem_singleton.1 k]; exact hb
    · have hno : ∀ z ∈ l, Pk.bid z ≠ Pk.bid b := fun z hz e => by
        have := List.find?_eq_none.1 hf z hz
        simp [e] at this
      rcases List.mem_append.1 hx with k | k
      · rcases List.mem_append.1 hy with j | j
        · exact hF.one x k y j e
        · rw [List.mem_singleton.1 j] at e; exact absurd e (hno x k)
      · rw [List.mem_singleton.1 k] at e ⊢
        rcases List.mem_append.1 hy with j | j
        · exact absurd e.symm (hno y j)
        · exact (List.mem_singleton.1 j).symm
  | some x =>
    rw [hf] at h
    simp only at h
    split at h
    · rename_i e
      subst e
      obtain rfl : l = l' := congrArg (fun z => z.1) h
      obtain rfl : Pk.bid x = id := congrArg (fun z => z.2.1) h
      exact ⟨hb, rfl, List.mem_of_find?_eq_some hf, fun _ k => k, fun k => k, .inl rfl⟩
    · exact absurd (congrArg (fun z => z.2.2) h) (by simp)

theorem blobOf_in {l : List Bl} (hF : Fine l) {b : Bl} (hb : b ∈ l) : blobOf l (Pk.bid b) b.1 = (b.2, 0) := by
  unfold blobOf
  cases hf : l.find? (fun x => Pk.bid x == Pk.bid b) with
  | none =>
    have := List.find?_eq_none.1 hf b hb
    simp at this
  | some x =>
    have hx : Pk.bid x = Pk.bid b := by simpa using List.find?_some hf
    obtain rfl := hF.one x (List.mem_of_find?_eq_some hf) b hb hx
    simp

/-- what pieces leave: their IDs, in order -/
theorem pieces_ok : ∀ (ps : List Bs) (l l' : List Bl) (ids : List Bs), pieces ps l = (l', ids, 0) → ids = ps.map (fun p => Pk.bid (1, p)) ∧ (∀ p ∈ ps, ((1, p) : Bl) ∈ l') ∧ (∀ x ∈ l, x ∈ l') ∧ (Fine l → Fine l')
  | [], l, l', ids, h => by
    cases h
    exact ⟨rfl, fun _ k => absurd k List.not_mem_nil, fun _ k => k, fun k => k⟩
  | p :: ps, l, l', ids, h => by
    rw [pieces] at h
    rcases hi : into l (1, p) with ⟨l1, id, e⟩
    rw [hi] at h
    simp only at h
    split at h
    · rename_i q; exact absurd (congrArg (fun z => z.2.2) h) q
    rename_i q
    obtain rfl := Decidable.not_not.mp q
    obtain ⟨_, rfl, h3, h4, h5, _⟩ := into_ok hi
    rcases hp : pieces ps l1 with ⟨l2, ids2, e2⟩
    rw [hp] at h
    obtain rfl : l2 = l' := congrArg (fun z => z.1) h
    obtain rfl : Pk.bid (1, p) :: ids2 = ids := congrArg (fun z => z.2.1) h
    obtain rfl : e2 = 0 := congrArg (fun z => z.2.2) h
    obtain ⟨r1, r2, r3, r4⟩ := pieces_ok ps l1 l2 ids2 hp
    refine ⟨by rw [r1]; rfl, fun x hx => ?_, fun x hx => r3 x (h4 x hx), fun k => r4 (h5 k)⟩
    rcases List.mem_cons.1 hx with e | hx
    · rw [e]; exact r3 _ h3
    · exact r2 x hx

theorem reapFile_ok {L : List Bl} (hF : Fine L) : ∀ (ps : List Bs) (out : Bs) (size : Int), (∀ p ∈ ps, ((1, p) : Bl) ∈ L) → ((out ++ ps.flatten).length : Int) = size → reapFile L size (ps.map fun p => Pk.bid (1, p)) out = (out ++ ps.flatten, 0)
  | [], out, size, _, hs => by
    rw [List.flatten_nil, List.append_nil] at hs ⊢
    rw [List.map_nil, reapFile, if_neg (fun q => q hs)]
  | p :: ps, out, size, hp, hs => by
    have hb := blobOf_in hF (hp p List.mem_cons_self)
    rw [List.flatten_cons, ← List.append_assoc] at hs ⊢
    rw [List.map_cons, reapFile, hb]
    simp only [ne_eq, not_true, if_false]
    rw [if_neg (by rw [List.length_append] at hs; omega)]
    exact reapFile_ok hF ps (out ++ p) size (fun x hx => hp x (List.mem_cons_of_mem _ hx)) hs

end Wk

end Go.Proofs.YtimdioacmojkeaaDoor

namespace Go.Proofs.YtimdioacmojkeaaDoor
open Go.RowKit Go.WideMaps
open Go.Maps (Keyed IsMap)
set_option maxRecDepth 20000

/-- set, be it there already (as it is) or not -/
theorem Mp.set {w : World} {b n : Nat} {l l' : List (List UInt8 × Value)} (h : Mp w b n l) {t e : TypeId} (ht : Tryd.prog.underlying t = some (.map 24 e)) {x : List UInt8} (hx : x.length = 8) (hm : n < 1000000000) (v : Value)
    (hl : (x ∉ l.map (·.1) ∧ l' = l ++ [(x, v)]) ∨ ((x, v) ∈ l ∧ l' = l)) :
    ∃ w', (Instr.mapUpdate t (.map (some b)) (.agg (x.map B).toArray) v).run Tryd.prog w = .ok () w' ∧ Mp w' b (n + 1) l' ∧ w.grownBy w' (some b) := by
  obtain ⟨D, h, h1, h2⟩ := h
  have hI := h.isMap
  obtain ⟨w', hr, ho, hg⟩ := h.update id_keyed ht (by unfold maxLen; omega) (d := .held v) (ps := []) (kl_key hx) rfl
  refine ⟨w', hr, ⟨_, ho, fun y hy hny => ?_, fun p hp => ?_⟩, hg⟩
  · have hne : y ≠ x := by
      rintro rfl
      rcases hl with ⟨_, rfl⟩ | ⟨hm, rfl⟩
      · exact hny (by simp)
      · exact hny (List.mem_map_of_mem hm)
    rw [Maps.has_put_other (fun e => hne (kl_inj hy hx e))]
    refine h1 y hy ?_
    rcases hl with ⟨_, rfl⟩ | ⟨hm, rfl⟩
    · intro hm
      exact hny (by rw [List.map_append]; exact List.mem_append_left _ hm)
    · exact hny
  · by_cases e : p.1 = x
    · have hpv : p.2 = v := by
        rcases hl with ⟨hn, rfl⟩ | ⟨hm, rfl⟩
        · rcases List.mem_append.1 hp with hp | hp
          · exact absurd (by rw [← e]; exact List.mem_map_of_mem hp) hn
          · rw [List.mem_singleton.1 hp]
        · have a1 := (h2 p hp).2.2 (.held v)
          have a2 := (h2 _ hm).2.2 (.held v)
          rw [e] at a1
          have := a1.symm.trans a2
          exact DataW.held.inj this
      rw [e, hpv]
      exact ⟨hx, Maps.has_put_same hI (id_keyed.key (kl_key hx)) _, fun z => Maps.atKey_put_same hI (id_keyed.key (kl_key hx)) _ z⟩
    · have hp' : p ∈ l := by
        rcases hl with ⟨hn, rfl⟩ | ⟨hm, rfl⟩
        · rcases List.mem_append.1 hp with hp | hp
          · exact hp
          · exact absurd (congrArg Prod.fst (List.mem_singleton.1 hp)) e
        · exact hp
      obtain ⟨q1, q2, q3⟩ := h2 p hp'
      have hk : kl Tryd.prog p.1 ≠ kl Tryd.prog x := fun f => e (kl_inj q1 hx f)
      exact ⟨q1, by rw [Maps.has_put_other hk]; exact q2, fun z => by rw [Maps.atKey_put_other hk]; exact q3 z⟩

theorem Mp.obj {w W : World} {b n : Nat} {l : List (List UInt8 × Value)} (h : Mp w b n l) (ho : ∀ es c, w.heap[b]? = some (.map es c) → W.heap[b]? = some (.map es c)) : Mp W b n l := by
  obtain ⟨D, h, h2⟩ := h
  obtain ⟨es, clock, hb, F, hs, hD⟩ := h
  exact ⟨D, ⟨es, clock, ho es clock hb, F, hs, hD⟩, h2⟩

theorem Mp.isMap {w : World} {b n : Nat} {l : List (List UInt8 × Value)} (h : Mp w b n l) : ∃ es c, w.heap[b]? = some (.map es c) := by
  obtain ⟨D, ⟨es, clock, hb, F, hs, hD⟩, h2⟩ := h
  exact ⟨es, clock, hb⟩

/-- blobs by their IDs -/
def mpB (bs : List Blb) : List (List UInt8 × Value) := bs.map fun x => (Pk.bid x.p, blV x)

theorem mpB_keys (bs : List Blb) : (mpB bs).map (·.1) = (bs.map Blb.p).map Pk.bid := by simp [mpB]

def pl (bs : List Blb) : List Pk.Bl := bs.map Blb.p

theorem pl_snoc (bs : List Blb) (b : Blb) : pl (bs ++ [b]) = pl bs ++ [b.p] := by simp [pl]

theorem mpB_snoc (bs : List Blb) (b : Blb) : mpB (bs ++ [b]) = mpB bs ++ [(Pk.bid b.p, blV b)] := by simp [mpB]

/-- what stands at an ID -/
theorem find_bid (bs : List Blb) (id : List UInt8) :
    ((pl bs).find? (fun x => Pk.bid x == id) = none ∧ id ∉ (mpB bs).map (·.1)) ∨ ∃ o ∈ bs, (pl bs).find? (fun x => Pk.bid x == id) = some o.p ∧ (id, blV o) ∈ mpB bs := by
  cases h : (pl bs).find? (fun x => Pk.bid x == id) with
  | none =>
    refine .inl ⟨rfl, fun hm => ?_⟩
    rw [mpB_keys] at hm
    obtain ⟨x, hx, e⟩ := List.mem_map.1 hm
    have := List.find?_eq_none.1 h x hx
    simp [e] at this
  | some x =>
    have hx := List.mem_of_find?_eq_some h
    have he : Pk.bid x = id := by simpa using List.find?_some h
    obtain ⟨o, ho, rfl⟩ := List.mem_map.1 hx
    refine .inr ⟨o, ho, rfl, ?_⟩
    rw [← he]
    exact List.mem_map_of_mem ho

end Go.Proofs.YtimdioacmojkeaaDoor

namespace Go.Proofs.YtimdioacmojkeaaDoor
open Go.RowKit
set_option maxRecDepth 4000

theorem wrap_u64_mod (n : Nat) : IntKind.u64.wrap (n : Int) = ((n % 18446744073709551616 : Nat) : Int) := by
  simp only [IntKind.wrap, IntKind.bits, IntKind.signed]
  simp

/-- a times the lowest i bits of b -/
def refPart (a b i : Nat) : Nat := a * (b % 2 ^ i) % 18446744073709551616
theorem part_succ (a b i : Nat) : refPart a b (i + 1) = (refPart a b i + (if b / 2 ^ i % 2 = 1 then a * 2 ^ i % 18446744073709551616 else 0)) % 18446744073709551616 := by
  unfold refPart
  rw [Nat.pow_succ, Nat.mod_mul, Nat.mul_add]
  split
  · rename_i h
    rw [h, Nat.mul_one, Nat.add_mod]
  · rename_i h
    have : b / 2 ^ i % 2 = 0 := by omega
    rw [this, Nat.mul_zero, Nat.mul_zero, Nat.add_zero, Nat.add_zero, Nat.mod_mod]
theorem part_all (a b : Nat) (hb : b < 18446744073709551616) : refPart a b 64 = a * b % 18446744073709551616 := by
  unfold refPart
  rw [Nat.mod_eq_of_lt (a := b) (b := 2 ^ 64) (by omega)]

theorem part_mod (a b i : Nat) : refPart a b i % 18446744073709551616 = refPart a b i := by unfold refPart; rw [Nat.mod_mod]
theorem shr_int (C k : Nat) : (C : Int) / 2 ^ k = ((C / 2 ^ k : Nat) : Int) := by simp
theorem bit_of (C k : Nat) (h : C < 18446744073709551616) : bits BinOp.and IntKind.u64 ((C : Int) / 2 ^ k) 1 = ((C / 2 ^ k % 2 : Nat) : Int) := by
  have hl := Nat.div_le_self C (2 ^ k)
  rw [shr_int]
  generalize C / 2 ^ k = q at *
  rw [and_one_u64 _ (by omega) (by omega)]
  omega
theorem sum_wrap (p A k : Nat) : IntKind.u64.wrap ((p : Int) + IntKind.u64.wrap ((A : Int) * 2 ^ k)) = (((p + A * 2 ^ k % 18446744073709551616) % 18446744073709551616 : Nat) : Int) := by
  rw [show (A : Int) * 2 ^ k = ((A * 2 ^ k : Nat) : Int) from by simp, wrap_u64_mod, ← Int.natCast_add, wrap_u64_mod]

set_option maxHeartbeats 400000 in
theorem product_any (a b : Int) (w : World) (a0 : 0 ≤ a) (a1 : a ≤ 18446744073709551615) (b0 : 0 ≤ b) (b1 : b ≤ 18446744073709551615) :
    Calls Tryd.prog 78 #[.int .u64 a, .int .u64 b] w fun e w' => e = .returned (.int .u64 (Mx.prod a.toNat b.toNat : Int)) ∧ w' = w := by
  obtain ⟨A, rfl⟩ := Int.eq_ofNat_of_zero_le a0
  obtain ⟨C, rfl⟩ := Int.eq_ofNat_of_zero_le b0
  simp only [Int.toNat_natCast]
  go_enter Tryd.func78, Tryd.ntmps78
  go_wp2
  go_loop [5, 7] (fun o i => ∃ k : Nat, k ≤ 64 ∧ i = .int .i64 k ∧ o = .int .u64 (refPart A C k)) (fun _ i => 64 - (intOf i).toNat)
  case atStart => exact ⟨0, by omega, rfl, by simp [refPart, Nat.mod_one]⟩
  case round =>
    obtain ⟨k, hk, rfl, rfl⟩ := hrel
    by_cases hlt : k < 64
    · have hp := part_succ A C k
      by_cases hb : C / 2 ^ k % 2 = 1
      · have hq : (bits BinOp.and IntKind.u64 ((C : Int) / 2 ^ k) 1 == 1) = true := by rw [bit_of C k (by omega), beq_iff_eq]; omega
        rw [if_pos hb] at hp
        have HP : Hid (refPart A C (k + 1) = (refPart A C k + A * 2 ^ k % 18446744073709551616) % 18446744073709551616) := hp
        clear hp hb
        go_wp2
        go_round
        case rel => exact ⟨k + 1, by omega, by go_num, int_eq (by rw [HP.out, sum_wrap])⟩
        case measure => simp [intOf]; omega
      · have hq : (bits BinOp.and IntKind.u64 ((C : Int) / 2 ^ k) 1 == 1) = false := by rw [bit_of C k (by omega), beq_eq_false_iff_ne]; omega
        rw [if_neg hb, Nat.add_zero] at hp
        have HP : Hid (refPart A C (k + 1) = refPart A C k % 18446744073709551616) := hp
        clear hp hb
        go_wp2
        go_round
        case rel => exact ⟨k + 1, by omega, by go_num, int_eq (by rw [HP.out, part_mod])⟩
        case measure => simp [intOf]; omega
    · go_wp2
      go_ret
      have hp : refPart A C k = Mx.prod A C := by rw [show k = 64 from by omega, part_all A C (by omega)]; rfl
      refine ⟨?_, rfl⟩
      rw [← hp]
      rfl

theorem xs_int29 (z : Nat) (h : z < 18446744073709551616) : bits .xor .u64 (z : Int) ((z : Int) / 536870912) = (Mx.xs 29 z : Int) := by
  rw [show (z : Int) / 536870912 = ((z / 536870912 : Nat) : Int) from by omega, u64_xor_nat _ _ h (by omega), Mx.xs, Nat.shiftRight_eq_div_pow]
theorem xs_int32 (z : Nat) (h : z < 18446744073709551616) : bits .xor .u64 (z : Int) ((z : Int) / 4294967296) = (Mx.xs 32 z : Int) := by
  rw [show (z : Int) / 4294967296 = ((z / 4294967296 : Nat) : Int) from by omega, u64_xor_nat _ _ h (by omega), Mx.xs, Nat.shiftRight_eq_div_pow]
theorem xor_int (a b : Nat) (ha : a < 18446744073709551616) (hb : b < 18446744073709551616) : bits .xor .u64 (a : Int) (b : Int) = ((a ^^^ b : Nat) : Int) := u64_xor_nat a b ha hb

set_option maxHeartbeats 400000 in
theorem rstep_any (x b : Int) (w : World) (x0 : 0 ≤ x) (x1 : x ≤ 18446744073709551615) (b0 : 0 ≤ b) (b1 : b ≤ 18446744073709551615) :
    Calls Tryd.prog 57 #[.int .u64 x, .int .u64 b] w fun e w' => e = .returned (.int .u64 (Mx.step x.toNat b.toNat : Int)) ∧ w' = w := by
  obtain ⟨X, rfl⟩ := Int.eq_ofNat_of_zero_le x0
  obtain ⟨C, rfl⟩ := Int.eq_ofNat_of_zero_le b0
  simp only [Int.toNat_natCast]
  have h1 := u64_xor_nat X C (by omega) (by omega)
  have l1 := Mx.xor_lt (a := X) (b := C) (by omega) (by omega)
  go_enter Tryd.func57, Tryd.ntmps57
  go_wp2_with fail
  refine (product_any _ _ _ (by omega) (by omega) (by omega) (by omega)).mono ?_
  rintro e w ⟨rfl, rfl⟩
  rw [Int.toNat_natCast, show (11400714819323198485 : Int).toNat = 11400714819323198485 from rfl]
  have l2 := Mx.prod_lt (X ^^^ C) 11400714819323198485
  have h2 := xs_int29 _ l2
  have l3 := Mx.xs_lt (k := 29) l2
  go_wp2_with fail
  refine (product_any _ _ _ (by omega) (by omega) (by omega) (by omega)).mono ?_
  rintro e w ⟨rfl, rfl⟩
  rw [Int.toNat_natCast, show (13787848793156543929 : Int).toNat = 13787848793156543929 from rfl]
  have l4 := Mx.prod_lt (Mx.xs 29 (Mx.prod (X ^^^ C) 11400714819323198485)) 13787848793156543929
  have h4 := xs_int32 _ l4
  clear h1 h2
  go_wp2_with fail
  go_ret
  exact ⟨rfl, rfl⟩
end Go.Proofs.YtimdioacmojkeaaDoor

namespace Go.Proofs.YtimdioacmojkeaaDoor
open Go.RowKit
set_option maxRecDepth 4000

theorem mul_wrap (a b : Nat) : IntKind.u64.wrap ((a : Int) * (b : Int)) = (Mx.prod a b : Nat) := by
  rw [← Int.natCast_mul, wrap_u64_mod]; rfl
theorem mul_a (a : Nat) : IntKind.u64.wrap ((a : Int) * 11400714819323198485) = (Mx.prod a 11400714819323198485 : Nat) := mul_wrap a 11400714819323198485
theorem mul_b (a : Nat) : IntKind.u64.wrap ((a : Int) * 13787848793156543929) = (Mx.prod a 13787848793156543929 : Nat) := mul_wrap a 13787848793156543929
theorem mul_ia (a : Nat) : IntKind.u64.wrap ((a : Int) * 17428512612931826493) = (Mx.prod a 17428512612931826493 : Nat) := mul_wrap a 17428512612931826493
theorem mul_ib (a : Nat) : IntKind.u64.wrap ((a : Int) * 10871156337175269513) = (Mx.prod a 10871156337175269513 : Nat) := mul_wrap a 10871156337175269513

theorem shr29_int (z : Nat) : (z : Int) / (536870912 : Int) = ((z >>> 29 : Nat) : Int) := by rw [Nat.shiftRight_eq_div_pow]; omega

set_option maxHeartbeats 400000 in
theorem step_any (x b : Nat) (w : World) (hx : x < 18446744073709551616) (hb : b < 18446744073709551616) :
    Calls Tryd.prog 81 #[.int .u64 x, .int .u64 b] w fun e w' => e = .returned (.int .u64 (Mx.step x b : Nat)) ∧ Below w.heap.size w w' := by
  have h1 := u64_xor_nat x b hx hb
  go_enter Tryd.func81, Tryd.ntmps81
  go_wp2
  go_ret
  refine ⟨ret_int ?_, Below.refl _ _⟩
  rw [mul_a, xs_int29 _ (Mx.prod_lt _ _), mul_b, xs_int32 _ (Mx.prod_lt _ _), Mx.step]
end Go.Proofs.YtimdioacmojkeaaDoor

namespace Go.Proofs.YtimdioacmojkeaaDoor
open Go.RowKit
set_option maxRecDepth 4000

/-- 'string([]byte{b})' -/
theorem run_str1 (W : World) (a : Addr) (b : Int) (h : W.cell? a = some (.int .u8 b)) (h0 : 0 ≤ b) (h1 : b ≤ 255) (ha : a.spot = none) :
    (convert 64 9 (.slice (some a) 1 1)).run Tryd.prog W = .ok (.string ⟨#[UInt8.ofNat b.toNat]⟩) W := by
  refine run_convert_bytes_back W 64 9 5 a 1 [UInt8.ofNat b.toNat] (by kernel_rfl) (by kernel_rfl) (by kernel_rfl) ?_
  intro j hj
  have hj0 : j = 0 := by simpa using hj
  subst hj0
  obtain ⟨x, y, z⟩ := a
  simp only at ha
  subst ha
  simp [Addr.add, h]
  omega

theorem str_new (b : Int) (h0 : 0 ≤ b) (h1 : b ≤ 255) (W : World) :
    (convert 64 9 (.slice (some ⟨W.heap.size, 0, none⟩) 1 1)).run Tryd.prog (W.alloc (.cells #[.int .u8 b] 5)) = .ok (.string ⟨#[UInt8.ofNat b.toNat]⟩) (W.alloc (.cells #[.int .u8 b] 5)) :=
  run_str1 _ _ b (by simp) h0 h1 rfl
theorem str_new_drew (b : Int) (h0 : 0 ≤ b) (h1 : b ≤ 255) (W : World) :
    (convert 64 9 (.slice (some ⟨W.heap.size, 0, none⟩) 1 1)).run Tryd.prog (W.alloc (.cells #[.int .u8 b] 5)).drew = .ok (.string ⟨#[UInt8.ofNat b.toNat]⟩) (W.alloc (.cells #[.int .u8 b] 5)).drew :=
  run_str1 _ _ b (by simp) h0 h1 rfl
theorem str_kept (w : World) (b : Int) (h0 : 0 ≤ b) (h1 : b ≤ 255) {w' : World} (hb : Below (w.alloc (.cells #[.int .u8 b] 5)).drew.heap.size (w.alloc (.cells #[.int .u8 b] 5)).drew w') :
    (convert 64 9 (.slice (some ⟨w.heap.size, 0, none⟩) 1 1)).run Tryd.prog w' = .ok (.string ⟨#[UInt8.ofNat b.toNat]⟩) w' :=
  run_str1 _ _ b (by rw [hb.cell (by simp)]; simp) h0 h1 rfl

set_option maxHeartbeats 400000 in
theorem digits_any (k : Nat) : ∀ (n : Int) (w : World), 0 ≤ n → n.toNat < 256 ^ k → k ≤ 8 →
    Calls Tryd.prog 54 #[.int .u64 n] w fun e w' => e = .returned (.string ⟨(Nm.digF k n.toNat).toArray⟩) ∧ Below w.heap.size w w' := by
  induction k with
  | zero =>
    intro n w h0 h1 _
    have hn : n = 0 := by simp at h1; omega
    subst hn
    go_enter Tryd.func54, Tryd.ntmps54
    go_wp2_with fail
    go_ret
    exact ⟨rfl, Below.refl _ _⟩
  | succ k ih =>
    intro n w h0 h1 h8
    by_cases hn : n = 0
    · subst hn
      go_enter Tryd.func54, Tryd.ntmps54
      go_wp2_with fail
      go_ret
      exact ⟨rfl, Below.refl _ _⟩
    · have h64 : n ≤ 18446744073709551615 := by
        have : 256 ^ (k + 1) ≤ 256 ^ 8 := Nat.pow_le_pow_right (by omega) h8
        omega
      have hd : Hid (Nm.digF (k + 1) n.toNat = Nm.digF k (n / 256).toNat ++ [UInt8.ofNat (n % 256).toNat]) := by
        show _ = _
        rw [Nm.digF, if_neg (by omega), show (n / 256).toNat = n.toNat / 256 from by omega, show (n % 256).toNat = n.toNat % 256 from by omega]
      have hlt : (n / 256).toNat < 256 ^ k := by rw [Nat.pow_succ] at h1; omega
      have hq : (n == 0) = false := by simpa using hn
      have H1 : Hid ((n / 256).toNat < 256 ^ k) := hlt
      clear h1 hlt hn
      have hw1 : IntKind.u64.wrap (n.tdiv 256) = n / 256 := by rw [Int.tdiv_eq_ediv_of_nonneg h0]; exact wrap_u64 _ (by omega) (by omega)
      have hw2 : n.tmod 256 = n % 256 := Int.tmod_eq_emod_of_nonneg h0
      have hw3 : IntKind.u8.wrap (n % 256) = n % 256 := by simp only [IntKind.wrap, IntKind.bits, IntKind.signed]; simp
      have m0 : 0 ≤ n % 256 := by omega
      have m1 : n % 256 ≤ 255 := by omega
      have hr1 := str_new (n % 256) m0 m1
      have hr2 := str_new_drew (n % 256) m0 m1
      have hcat : ∀ W : World, (Op.stringOp .add ⟨(Nm.digF k (n / 256).toNat).toArray⟩ ⟨#[UInt8.ofNat (n % 256).toNat]⟩).run Tryd.prog W = .ok (.string ⟨(Nm.digF k (n / 256).toNat ++ [UInt8.ofNat (n % 256).toNat]).toArray⟩) W := fun W =>
        run_string_add_lists W _ [UInt8.ofNat (n % 256).toNat] (by have := Nm.digF_length_le k (n / 256).toNat; omega) (by simp)
      go_enter Tryd.func54, Tryd.ntmps54
      go_wp2_with fail
      go_region_with (go_at_call 54; refine (ih (n / 256) _ (by omega) H1.out (by omega)).mono ?_; rintro e w' ⟨rfl, hb⟩; try (have hr3 := str_kept w (n % 256) m0 m1 hb))
      all_goals
        clear hr1 hr2 hcat
        go_wp2_with fail
        go_ret
        refine ⟨by rw [hd.out]; rfl, ?_⟩
        first
          | (have h := hb.size; exact ((Below.refl _ _).drew.trans hb).alloc (by simpa using h) _)
          | exact (((Below.refl _ _).alloc (Nat.le_refl _) _).drew).trans (hb.mono (by simp))
end Go.Proofs.YtimdioacmojkeaaDoor

namespace Go.Proofs
open Go.Shelf
def Tryd.lays105_ren : Go.Shelf.Ren := ⟨fun | 105 => 55 | 212 => 76 | 99 => 71 | 165 => 40 | 166 => 41 | 170 => 77 | 169 => 42 | 263 => 95 | 264 => 96 | 206 => 89 | 240 => 58 | 241 => 59 | 276 => 79 | 277 => 80 | n => n, fun | 9 => 9 | 3 => 3 | 4 => 4 | 20 => 20 | 0 => 0 | 46 => 95 | 109 => 121 | 5 => 5 | 72 => 87 | 76 => 91 | 51 => 135 | 146 => 136 | 53 => 77 | 148 => 138 | 70 => 85 | 37 => 64 | 75 => 90 | 127 => 111 | 164 => 123 | 80 => 93 | n => n, fun | n => n⟩
theorem Tryd.lays105 : Go.Proofs.Lays.n105 Tryd.prog Tryd.lays105_ren := {
  mixed := by kernel_rfl
  f99 := Tryd.func71.trans (congrArg some (by kernel_rfl))
  f105 := Tryd.func55.trans (congrArg some (by kernel_rfl))
  f165 := Tryd.func40.trans (congrArg some (by kernel_rfl))
  f166 := Tryd.func41.trans (congrArg some (by kernel_rfl))
  f169 := Tryd.func42.trans (congrArg some (by kernel_rfl))
  f170 := Tryd.func77.trans (congrArg some (by kernel_rfl))
  f206 := Tryd.func89.trans (congrArg some (by kernel_rfl))
  f212 := Tryd.func76.trans (congrArg some (by kernel_rfl))
  f240 := Tryd.func58.trans (congrArg some (by kernel_rfl))
  f241 := Tryd.func59.trans (congrArg some (by kernel_rfl))
  f263 := Tryd.func95.trans (congrArg some (by kernel_rfl))
  f264 := Tryd.func96.trans (congrArg some (by kernel_rfl))
  f276 := Tryd.func79.trans (congrArg some (by kernel_rfl))
  f277 := Tryd.func80.trans (congrArg some (by kernel_rfl))
  t0 := Tryd.underlying0
  a0 := Tryd.isAgg0
  z0 := Tryd.sizeOf0
  v0 := Tryd.zeroValue0
  t3 := Tryd.underlying3
  a3 := Tryd.isAgg3
  z3 := Tryd.sizeOf3
  v3 := Tryd.zeroValue3
  t4 := Tryd.underlying4
  a4 := Tryd.isAgg4
  z4 := Tryd.sizeOf4
  v4 := Tryd.zeroValue4
  t5 := Tryd.underlying5
  a5 := Tryd.isAgg5
  z5 := Tryd.sizeOf5
  v5 := Tryd.zeroValue5
  t9 := Tryd.underlying9
  a9 := Tryd.isAgg9
  z9 := Tryd.sizeOf9
  v9 := Tryd.zeroValue9
  t20 := Tryd.underlying20
  a20 := Tryd.isAgg20
  z20 := Tryd.sizeOf20
  v20 := Tryd.zeroValue20
  t37 := Tryd.underlying64
  a37 := Tryd.isAgg64
  z37 := Tryd.sizeOf64
  v37 := Tryd.zeroValue64
  t46 := Tryd.underlying95
  a46 := Tryd.isAgg95
  z46 := Tryd.sizeOf95
  v46 := Tryd.zeroValue95
  t51 := Tryd.underlying135
  a51 := Tryd.isAgg135
  z51 := Tryd.sizeOf135
  v51 := Tryd.zeroValue135
  t53 := Tryd.underlying77
  a53 := Tryd.isAgg77
  z53 := Tryd.sizeOf77
  v53 := Tryd.zeroValue77
  t70 := Tryd.underlying85
  a70 := Tryd.isAgg85
  z70 := Tryd.sizeOf85
  v70 := Tryd.zeroValue85
  t72 := Tryd.underlying87
  a72 := Tryd.isAgg87
  z72 := Tryd.sizeOf87
  v72 := Tryd.zeroValue87
  t75 := Tryd.underlying90
  a75 := Tryd.isAgg90
  z75 := Tryd.sizeOf90
  v75 := Tryd.zeroValue90
  t76 := Tryd.underlying91
  a76 := Tryd.isAgg91
  z76 := Tryd.sizeOf91
  v76 := Tryd.zeroValue91
  t109 := Tryd.underlying121
  a109 := Tryd.isAgg121
  z109 := Tryd.sizeOf121
  v109 := Tryd.zeroValue121
  t127 := Tryd.underlying111
  a127 := Tryd.isAgg111
  z127 := Tryd.sizeOf111
  v127 := Tryd.zeroValue111
  t146 := Tryd.underlying136
  a146 := Tryd.isAgg136
  z146 := Tryd.sizeOf136
  v146 := Tryd.zeroValue136
  t148 := Tryd.underlying138
  a148 := Tryd.isAgg138
  z148 := Tryd.sizeOf138
  v148 := Tryd.zeroValue138
  t164 := Tryd.underlying123
  a164 := Tryd.isAgg123
  z164 := Tryd.sizeOf123
  v164 := Tryd.zeroValue123 }
theorem Tryd.Builder_Extra_105 : Builder.Extra Tryd.prog Tryd.lays105_ren := {
  sizeBuilder := by kernel_rfl
  liesBuilder := by kernel_rfl
  t5 := Tryd.underlying5
  a5 := Tryd.isAgg5
  z5 := Tryd.sizeOf5
  v5 := Tryd.zeroValue5
  infoByte := by kernel_rfl
  cellsByte := by kernel_rfl
  sizeByte := by kernel_rfl
  neB5 := by decide }
open Go.RowKit Go.Lib in
theorem Tryd.strings_Repeat (s : ByteArray) (c : Nat) (w : World) (hc : c ≤ 9223372036854775807) (hlen : s.size * c ≤ 140737488355328) :
    Calls Tryd.prog 55 #[.string s, .int .i64 c] w fun e w' => e = .returned (.string ⟨(Lib.repeatL s.data.toList c).toArray⟩) ∧ Below w.heap.size w w' := Any.strings_Repeat Tryd.lays105 Tryd.Builder_Extra_105 s c w hc hlen
end Go.Proofs

namespace Go.Proofs.YtimdioacmojkeaaDoor
open Go.RowKit
set_option maxRecDepth 4000

theorem repeat_nought (c : Nat) : Lib.repeatL [0] c = List.replicate c 0 := by
  induction c with
  | zero => rfl
  | succ c ih => rw [Lib.repeatL, ih, List.replicate_succ]; rfl

set_option maxHeartbeats 400000 in
theorem wide_any (n : Int) (w : World) (n0 : 0 ≤ n) (n1 : n ≤ 18446744073709551615) :
    Calls Tryd.prog 38 #[.int .u64 n] w fun e w' => e = .returned (.string ⟨(Nm.low 8 n.toNat).toArray⟩) ∧ Below w.heap.size w w' := by
  have hl := Nm.dig_length_le n.toNat
  obtain ⟨c, hc⟩ : ∃ c, c = 8 - (Nm.dig n.toNat).length := ⟨_, rfl⟩
  have hcI : 8 - ((Nm.dig n.toNat).length : Int) = (c : Int) := by omega
  obtain ⟨z, hz⟩ : ∃ z : List UInt8, z = List.replicate c 0 := ⟨_, rfl⟩
  have hcat : ∀ W : World, (Op.stringOp .add ⟨z.toArray⟩ ⟨(Nm.dig n.toNat).toArray⟩).run Tryd.prog W = .ok (.string ⟨(Nm.low 8 n.toNat).toArray⟩) W := fun W => by
    have := run_string_add_lists (P := Tryd.prog) W z (Nm.dig n.toNat) (by rw [hz]; simp; omega) (by omega)
    rw [show z ++ Nm.dig n.toNat = Nm.low 8 n.toNat from by rw [hz, hc]; exact Nm.low_pad n.toNat (by omega)] at this
    exact this
  have HZ : Hid (Lib.repeatL ({ data := #[0] } : ByteArray).data.toList c = z) := by show _ = z; rw [hz]; exact repeat_nought c
  clear hz
  have HC : Hid (c = 8 - (Nm.dig n.toNat).length) := hc
  have hc8 : c ≤ 8 := by omega
  clear hc
  go_enter Tryd.func38, Tryd.ntmps38
  go_wp2_with fail
  refine (digits_any 8 n _ n0 (by omega) (by omega)).mono ?_
  rintro e w1 ⟨rfl, hb⟩
  rw [show Nm.digF 8 n.toNat = Nm.dig n.toNat from rfl]
  go_wp2_with fail
  refine (Tryd.strings_Repeat _ c _ (by omega) (by simp [ByteArray.size]; omega)).mono ?_
  rintro e w2 ⟨rfl, hb2⟩
  rw [HZ.out]
  go_wp2_with fail
  go_ret
  exact ⟨rfl, hb.trans (hb2.mono hb.size)⟩

theorem wide_nat (N : Nat) (w : World) (h : N < 18446744073709551616) :
    Calls Tryd.prog 38 #[.int .u64 N] w fun e w' => e = .returned (.string ⟨(Nm.low 8 N).toArray⟩) ∧ Below w.heap.size w w' := by
  have := wide_any N w (by omega) (by omega)
  rwa [Int.toNat_natCast] at this
end Go.Proofs.YtimdioacmojkeaaDoor

namespace Go.Proofs.YtimdioacmojkeaaDoor
open Go.RowKit
set_option maxRecDepth 4000

theorem pow_lt_64 {w : Nat} (h : w < 64) : 2 ^ w < 18446744073709551616 :=
  Nat.lt_of_lt_of_le (Nat.pow_lt_pow_right (a := 2) (by omega) h) (by decide)

set_option maxHeartbeats 400000 in
/-- the closure that keeps the lowest bits -/
theorem cut_any (y : Nat) (W : Nat) (p : Addr) (w : World) (hp : w.cell? p = some (.int .i64 W)) (hW : W ≤ 64) (hy : y < 18446744073709551616) (ha : p.spot = none) :
    Calls Tryd.prog 56 #[.int .u64 y, .pointer (some p)] w fun e w' => e = .returned (.int .u64 (Mx.cut W y)) ∧ w' = w := by
  obtain ⟨b, o, q⟩ := p
  simp only at ha
  subst ha
  by_cases h64 : W = 64
  · have hq : ((W : Int) == 64) = true := by rw [beq_iff_eq]; omega
    have HC : Hid (y = Mx.cut W y) := by show _ = _; rw [h64, Mx.cut_64 hy]
    clear h64
    go_enter Tryd.func56, Tryd.ntmps56
    go_wp2
    go_ret
    exact ⟨ret_int (by rw [← HC.out]), rfl⟩
  · have hq : ((W : Int) == 64) = false := by rw [beq_eq_false_iff_ne]; omega
    have hpow := pow_lt_64 (w := W) (by omega)
    have hpos := Nat.two_pow_pos W
    have hw : IntKind.u64.wrap (2 ^ W) = ((2 ^ W : Nat) : Int) := by
      rw [show (2 : Int) ^ W = ((2 ^ W : Nat) : Int) from by simp, wrap_u64_mod, Nat.mod_eq_of_lt hpow]
    have hn : ¬ (IntKind.u64.wrap (2 ^ W) = 0) := by rw [hw]; omega
    have HC : Hid ((y : Int) % IntKind.u64.wrap (2 ^ W) = (Mx.cut W y : Nat)) := by
      show _ = _
      rw [hw, Mx.cut, Int.natCast_emod]
    clear h64 hpow hpos hw
    go_enter Tryd.func56, Tryd.ntmps56
    go_wp2
    go_ret
    exact ⟨ret_int HC.out, rfl⟩

theorem hi_wrap (l : List UInt8) (i d b : Nat) (hd : d < 8) (hb : b = Mx.byteAt l (8 * i + (7 - d))) :
    IntKind.u64.wrap (IntKind.u64.wrap (256 * (Mx.hi l i d : Int)) + IntKind.u64.wrap (b : Int)) = (Mx.hi l i (d + 1) : Nat) := by
  have h1 := Mx.hi_lt l i (d + 1)
  have h2 : 256 ^ (d + 1) ≤ 256 ^ 8 := Nat.pow_le_pow_right (by omega) (by omega)
  rw [Mx.hi] at *
  rw [← hb] at *
  have h3 : (256 : Nat) ^ 8 = 18446744073709551616 := by decide
  rw [wrap_u64 (256 * (Mx.hi l i d : Int)) (by omega) (by omega), wrap_u64 (b : Int) (by omega) (by omega), wrap_u64 _ (by omega) (by omega)]
  omega

def textSize : Value → Nat | .string t => t.size | _ => 0

set_option maxHeartbeats 400000 in
theorem rnarrow_any (W : Nat) (s : ByteArray) (w : World) (hW : W ≤ 64) (hs : s.size ≤ 140737488351232) :
    Calls Tryd.prog 39 #[.int .i64 W, .string s] w fun e w' => e = .returned (.int .u64 (Mx.narrow W s.data.toList)) ∧ Below w.heap.size w w' := by
  obtain ⟨c, hc⟩ : ∃ c, c = (8 - s.size % 8) % 8 := ⟨_, rfl⟩
  have hc1 : -((s.size : Int) % 8) % 8 = (c : Int) := by omega
  have hc2 : (8 - (s.size : Int) % 8) % 8 = (c : Int) := by omega
  obtain ⟨z, hz⟩ : ∃ z : List UInt8, z = List.replicate c 0 := ⟨_, rfl⟩
  obtain ⟨f, hf⟩ : ∃ f : ByteArray, f = ⟨(s.data.toList ++ z).toArray⟩ := ⟨_, rfl⟩
  have hzl : z.length = c := by rw [hz]; simp
  have hcat : ∀ V : World, (Op.stringOp .add s ⟨z.toArray⟩).run Tryd.prog V = .ok (.string f) V := fun V => by
    rw [hf]
    have := run_string_add_sum (P := Tryd.prog) (w := V) s ⟨z.toArray⟩ (by show s.size + z.toArray.size ≤ _; rw [List.size_toArray]; omega)
    rw [this, show s ++ (⟨z.toArray⟩ : ByteArray) = ⟨(s.data.toList ++ z).toArray⟩ from ByteArray.ext (by rw [ByteArray.data_append]; simp)]
  have hfl : f.data.toList = s.data.toList ++ z := by rw [hf]
  have hfs : f.size = s.size + c := by rw [Lib.size_eq, hfl, List.length_append, ← Lib.size_eq, hzl]
  have HZ : Hid (Lib.repeatL ({ data := #[0] } : ByteArray).data.toList c = z) := by show _ = z; rw [hz]; exact repeat_nought c
  have HB : Hid (∀ k, Mx.byteAt f.data.toList k = Mx.byteAt s.data.toList k) := fun k => by rw [hfl, hz, Mx.byteAt_pad]
  obtain ⟨n, hn⟩ : ∃ n, n = (s.size + 7) / 8 := ⟨_, rfl⟩
  have hfn : f.size = 8 * n := by omega
  have HN : Hid (Mx.narrow W s.data.toList = Mx.cut W (Mx.step (Mx.chain W s.data.toList n) s.size)) := by show _ = _; rw [Mx.narrow, hn, ← Lib.size_eq]
  have hc8 : c ≤ 7 := by omega
  clear hz hf hfl hn hzl hc
  go_enter Tryd.func39, Tryd.ntmps39
  go_wp2_with fail
  refine (Tryd.strings_Repeat _ c _ (by omega) (by simp [ByteArray.size]; omega)).mono ?_
  rintro e w2 ⟨rfl, hb2⟩
  rw [HZ.out]
  have hcell : w2.cell? ⟨w.heap.size, 0, none⟩ = some (.int .i64 W) := (hb2.cell (p := ⟨w.heap.size, 0, none⟩) (by simp)).trans (by simp)
  have HBel : Hid (Below w.heap.size w w2) := ((Below.refl _ w).alloc (Nat.le_refl _) _).trans (hb2.mono (by simp))
  clear hb2
  go_wp2_with fail
  clear HZ
  go_loop [5, 7] (fun x g => ∃ i : Nat, ∃ t : ByteArray, i ≤ n ∧ x = .int .u64 (Mx.chain W s.data.toList i) ∧ g = .string t ∧ t.data.toList = f.data.toList.drop (8 * i) ∧ t.size = 8 * (n - i)) (fun _ g => textSize g)
  case atStart => exact ⟨0, f, by omega, rfl, rfl, by simp, by omega⟩
  case round =>
    obtain ⟨i, t, hi, rfl, rfl, htl, hts⟩ := hrel
    have hlen : t.data.toList.length = 8 * (n - i) := by rw [← Lib.size_eq]; exact hts
    have hX := Mx.chain_lt W s.data.toList i
    by_cases hlt : i < n
    · have hq : t.toList.isEmpty = false := by
        rw [Lib.toList_data, List.isEmpty_eq_false_iff]; intro e; rw [e] at hlen; simp only [List.length_nil] at hlen; omega
      have HA : Hid (∀ k (h : k < t.size), t[k].toNat = Mx.byteAt s.data.toList (8 * i + k)) := fun k h => by
        rw [← HB.out, ← Mx.byteAt_drop, ← htl, Mx.byteAt, List.getD_eq_getElem?_getD, List.getElem?_eq_getElem (by omega)]
        rfl
      clear hlen
      go_wp2_with fail
      go_loop [8, 9] (fun b j => ∃ c : Nat, c ≤ 8 ∧ j = .int .i64 (7 - (c : Int)) ∧ b = .int .u64 (Mx.hi s.data.toList i c)) (fun _ j => (intOf j + 1).toNat)
      case atStart => exact ⟨0, by omega, rfl, rfl⟩
      case round =>
        obtain ⟨d, hd, rfl, rfl⟩ := hrel
        have hh := Mx.hi_lt s.data.toList i d
        by_cases hd8 : d < 8
        · clear hh hc1 hc2
          go_wp2_with fail
          go_round
          case rel => exact ⟨d + 1, by omega, by go_num, int_eq (hi_wrap _ _ _ _ hd8 (HA.out (7 - d) (by omega)))⟩
          case measure => simp only [intOf]; omega
        · obtain rfl : d = 8 := by omega
          clear hc1 hc2 hd hd8
          go_wp2_with fail
          refine (rstep_any _ _ _ (by omega) (by omega) (by omega) (by omega)).mono ?_
          rintro e w3 ⟨rfl, rfl⟩
          rw [Int.toNat_natCast, Int.toNat_natCast]
          go_wp2_with fail
          refine (cut_any _ W _ _ hcell hW (Mx.step_lt _ _) rfl).mono ?_
          rintro e w3 ⟨rfl, rfl⟩
          go_wp2_with fail
          go_round
          case rel =>
            refine ⟨i + 1, _, by omega, rfl, rfl, ?_, ?_⟩
            · rw [Lib.extract_data, htl, List.drop_drop, List.take_of_length_le (by rw [List.length_drop, ← Lib.size_eq]; omega)]
              rfl
            · rw [ByteArray.size_extract]; omega
          case measure => simp only [textSize, ByteArray.size_extract]; omega
    · have hq : t.toList.isEmpty = true := by
        rw [Lib.toList_data, List.isEmpty_iff_length_eq_zero]; omega
      clear hlen
      go_wp2_with fail
      refine (rstep_any _ _ _ (by omega) (by omega) (by omega) (by omega)).mono ?_
      rintro e w3 ⟨rfl, rfl⟩
      rw [Int.toNat_natCast, Int.toNat_natCast]
      go_wp2_with fail
      refine (cut_any _ W _ _ hcell hW (Mx.step_lt _ _) rfl).mono ?_
      rintro e w3 ⟨rfl, rfl⟩
      go_wp2_with fail
      go_ret
      refine ⟨?_, HBel.out⟩
      rw [HN.out, show n = i from by omega]
      rfl
end Go.Proofs.YtimdioacmojkeaaDoor

namespace Go.Proofs.YtimdioacmojkeaaDoor
open Go.RowKit
set_option maxRecDepth 4000

theorem or_hi (a b : Nat) (hb : b < 256) : 256 * a ||| b = 256 * a + b := by
  have h := Nat.two_pow_add_eq_or_of_lt (i := 8) (b := b) (by simpa using hb) a
  simpa using h.symm
theorem hi_or (l : List UInt8) (i c b : Nat) (hc : c < 8) (hb : b = Mx.byteAt l (8 * i + (7 - c))) :
    bits .or .u64 (IntKind.u64.wrap ((Mx.hi l i c : Int) * 256)) (IntKind.u64.wrap (b : Int)) = (Mx.hi l i (c + 1) : Nat) := by
  have h1 := Mx.hi_lt l i (c + 1)
  have h2 : 256 ^ (c + 1) ≤ 256 ^ 8 := Nat.pow_le_pow_right (by omega) (by omega)
  have h3 : (256 : Nat) ^ 8 = 18446744073709551616 := by decide
  have h4 := Mx.byteAt_lt l (8 * i + (7 - c))
  rw [Mx.hi] at *
  rw [← hb] at *
  rw [show (Mx.hi l i c : Int) * 256 = ((256 * Mx.hi l i c : Nat) : Int) from by omega, wrap_u64 _ (by omega) (by omega), wrap_u64 _ (by omega) (by omega), u64_or_nat _ _ (by omega) (by omega), or_hi _ _ (by omega)]
theorem hi_past (l : List UInt8) : ∀ c, c + l.length ≤ 8 → Mx.hi l 0 c = 0
  | 0, _ => rfl
  | c + 1, h => by rw [Mx.hi, hi_past l c (by omega), Mx.byteAt_past (by omega)]
theorem mx_byte_get (t : ByteArray) (k : Nat) (h : k < t.size) : t[k].toNat = Mx.byteAt t.data.toList k := by
  rw [Mx.byteAt, List.getD_eq_getElem?_getD, List.getElem?_eq_getElem (by simpa using h)]
  rfl

set_option maxHeartbeats 400000 in
theorem mx_read_any (t : ByteArray) (w : World) (ht : t.size ≤ 8) :
    Calls Tryd.prog 82 #[.string t] w fun e w' => e = .returned (.int .u64 (Mx.blk t.data.toList 0 : Nat)) ∧ w' = w := by
  have hl : t.data.toList.length = t.size := by rw [← Lib.size_eq]
  have H0 : Hid (Mx.hi t.data.toList 0 (8 - t.size) = 0) := hi_past _ _ (by omega)
  have HB : Hid (∀ k (h : k < t.size), t[k].toNat = Mx.byteAt t.data.toList k) := mx_byte_get t
  clear hl
  go_enter Tryd.func82, Tryd.ntmps82
  go_wp2
  go_loop [3, 4] (fun b i => ∃ d : Nat, d ≤ t.size ∧ i = .int .i64 ((t.size : Int) - 1 - (d : Int)) ∧ b = .int .u64 (Mx.hi t.data.toList 0 (8 - t.size + d) : Nat)) (fun _ i => (intOf i + 1).toNat)
  case atStart => exact ⟨0, by omega, int_eq (by omega), by rw [Nat.add_zero, H0.out]; rfl⟩
  case round =>
    obtain ⟨d, hd, rfl, rfl⟩ := hrel
    by_cases hlt : d < t.size
    · obtain ⟨k, hk⟩ : ∃ k, k = t.size - 1 - d := ⟨_, rfl⟩
      have hkI : (t.size : Int) - 1 - (d : Int) = (k : Int) := by omega
      have hkl : k < t.size := by omega
      have HO : Hid (bits .or .u64 (IntKind.u64.wrap ((Mx.hi t.data.toList 0 (8 - t.size + d) : Int) * 256)) (IntKind.u64.wrap (t[k].toNat : Int)) = (Mx.hi t.data.toList 0 (8 - t.size + d + 1) : Nat)) :=
        hi_or _ 0 _ _ (by omega) (by rw [HB.out k hkl, show 8 * 0 + (7 - (8 - t.size + d)) = k from by omega])
      go_wp2
      go_round
      case rel => subst hk; exact ⟨d + 1, by omega, int_eq (by omega), int_eq HO.out⟩
      case measure => simp only [intOf]; omega
    · obtain rfl : d = t.size := by omega
      go_wp2
      go_ret
      exact ⟨rfl, rfl⟩

theorem blk_of {l l' : List UInt8} {i i' : Nat} (h : ∀ j, j < 8 → Mx.byteAt l (8 * i + j) = Mx.byteAt l' (8 * i' + j)) : Mx.blk l i = Mx.blk l' i' := by
  have key : ∀ c, c ≤ 8 → Mx.hi l i c = Mx.hi l' i' c := by
    intro c
    induction c with
    | zero => intro _; rfl
    | succ c ih => intro hc; rw [Mx.hi, Mx.hi, ih (by omega), h (7 - c) (by omega)]
  exact key 8 (Nat.le_refl _)
theorem blk_extract (s : ByteArray) (i e : Nat) (he : e = min (8 * i + 8) s.size) : Mx.blk (s.extract (8 * i) e).data.toList 0 = Mx.blk s.data.toList i := by
  apply blk_of
  intro j hj
  have hl : s.data.toList.length = s.size := by rw [← Lib.size_eq]
  rw [Lib.extract_data, Nat.mul_zero, Nat.zero_add]
  unfold Mx.byteAt
  rw [List.getD_eq_getElem?_getD, List.getD_eq_getElem?_getD]
  by_cases h : 8 * i + j < s.size
  · rw [List.getElem?_take_of_lt (by omega), List.getElem?_drop]
  · rw [List.getElem?_eq_none (l := s.data.toList) (by omega), List.getElem?_eq_none (by rw [List.length_take]; omega)]
theorem kept_nat (W : Nat) (hW : W ≤ 64) : (18446744073709551615 : Int) / 2 ^ (64 - W) = ((2 ^ W - 1 : Nat) : Int) := by
  have h : (18446744073709551616 : Nat) = 2 ^ W * 2 ^ (64 - W) := by rw [← Nat.pow_add, show W + (64 - W) = 64 from by omega]
  have hp := Nat.two_pow_pos (64 - W)
  have hq := Nat.two_pow_pos W
  rw [show (2 : Int) ^ (64 - W) = ((2 ^ (64 - W) : Nat) : Int) from by simp, show (18446744073709551615 : Int) = ((18446744073709551615 : Nat) : Int) from rfl, ← Int.natCast_ediv]
  congr 1
  generalize 2 ^ (64 - W) = p at *
  generalize 2 ^ W = q at *
  apply Nat.div_eq_of_lt_le
  · rw [Nat.sub_mul, ← h, Nat.one_mul]; omega
  · rw [show q - 1 + 1 = q from by omega, ← h]; omega
theorem and_cut (W y : Nat) (hW : W ≤ 64) (hy : y < 18446744073709551616) : bits .and .u64 (y : Int) ((2 ^ W - 1 : Nat) : Int) = (Mx.cut W y : Nat) := by
  have hq : 2 ^ W ≤ 2 ^ 64 := Nat.pow_le_pow_right (by omega) hW
  have h64 : (2 : Nat) ^ 64 = 18446744073709551616 := by decide
  have hp := Nat.two_pow_pos W
  rw [u64_and_nat _ _ hy (by omega), Nat.and_two_pow_sub_one_eq_mod, Mx.cut]

set_option maxHeartbeats 1000000 in
theorem digest_any (W : Nat) (s : ByteArray) (w : World) (h1 : 1 ≤ W) (hW : W ≤ 64) (hs : s.size ≤ 140737488351232) :
    Calls Tryd.prog 60 #[.string s, .int .i64 W] w fun e w' => e = .returned (.int .u64 (Mx.narrow W s.data.toList : Nat)) ∧ Below w.heap.size w w' := by
  obtain ⟨n, hn⟩ : ∃ n, n = (s.size + 7) / 8 := ⟨_, rfl⟩
  have HN : Hid (Mx.narrow W s.data.toList = Mx.cut W (Mx.step (Mx.chain W s.data.toList n) s.size)) := by show _ = _; rw [Mx.narrow, hn, ← Lib.size_eq]
  have hk := kept_nat W hW
  have HAC : Hid (∀ y : Nat, y < 18446744073709551616 → bits .and .u64 (y : Int) ((2 ^ W - 1 : Nat) : Int) = (Mx.cut W y : Nat)) := fun y hy => and_cut W y hW hy
  generalize hK : 2 ^ W - 1 = K at *
  clear hK
  go_enter Tryd.func60, Tryd.ntmps60
  go_wp2_with fail
  go_loopw [6, 7] (fun x a wr => ∃ i : Nat, i ≤ n ∧ a = .int .i64 (8 * (i : Int)) ∧ x = .int .u64 (Mx.chain W s.data.toList i : Nat) ∧ Below w.heap.size w wr) (fun _ a _ => 8 * n - (intOf a).toNat)
  case atStart => exact ⟨0, by omega, rfl, rfl, Below.refl _ _⟩
  case round =>
    obtain ⟨i, hi, rfl, rfl, hbel⟩ := hrel
    have hX := Mx.chain_lt W s.data.toList i
    by_cases hlt : i < n
    · have hlI : 8 * (i : Int) < (s.size : Int) := by omega
      have hex : (s.extract (8 * i) (min (8 * (i : Int) + 8) (s.size : Int)).toNat).size ≤ 8 := by rw [ByteArray.size_extract]; omega
      have hbk := blk_extract s i (min (8 * (i : Int) + 8) (s.size : Int)).toNat (by omega)
      have hbl := Mx.blk_lt s.data.toList i
      have hac := HAC.out _ (Mx.step_lt (Mx.chain W s.data.toList i) (Mx.blk s.data.toList i))
      rw [← Mx.chain] at hac
      go_wp2_with fail
      refine (mx_read_any _ _ hex).mono ?_
      rintro e w1 ⟨rfl, rfl⟩
      rw [hbk]
      go_wp2_with fail
      refine (step_any _ _ _ hX hbl).mono ?_
      rintro e w2 ⟨rfl, hb2⟩
      have hB2 := hbel.trans (hb2.mono hbel.size)
      clear hb2 hbel
      go_wp2_with fail
      go_round
      case rel => exact ⟨i + 1, by omega, int_eq (by omega), rfl, hB2⟩
      case measure => simp only [intOf]; omega
    · have hac := HAC.out _ (Mx.step_lt (Mx.chain W s.data.toList i) s.size)
      rw [← show Mx.narrow W s.data.toList = Mx.cut W (Mx.step (Mx.chain W s.data.toList i) s.size) from by rw [HN.out, show n = i from by omega]] at hac
      have h8 : (s.size : Int) ≤ 8 * (i : Int) := by omega
      clear hn hlt hi
      have hsl : s.size < 18446744073709551616 := by omega
      go_wp2_with fail
      refine (step_any (Mx.chain W s.data.toList i) s.size wr hX hsl).mono ?_
      rintro e w2 ⟨rfl, hb2⟩
      have hB2 := hbel.trans (hb2.mono hbel.size)
      clear hb2 hbel
      go_wp2_with fail
      go_ret
      exact ⟨rfl, hB2⟩

set_option maxHeartbeats 400000 in
theorem sum_any (s : ByteArray) (w : World) (hs : s.size ≤ 140737488351232) :
    Calls Tryd.prog 43 #[.string s] w fun e w' => e = .returned (.int .u64 (Mx.narrow 64 s.data.toList : Nat)) ∧ Below w.heap.size w w' := by
  go_enter Tryd.func43, Tryd.ntmps43
  go_wp2_with fail
  refine (digest_any 64 s _ (by omega) (by omega) hs).mono ?_
  rintro e w2 ⟨rfl, hb2⟩
  go_wp2_with fail
  go_ret
  exact ⟨rfl, hb2⟩
end Go.Proofs.YtimdioacmojkeaaDoor

namespace Go.Proofs.YtimdioacmojkeaaDoor
open Go.RowKit

theorem bytes_cell (w : World) (s : ByteArray) (cap : Nat) (z : Nat × Nat) (j : Nat) (hj : j < s.size) :
    (w.alloc (.cells (bytesRow s cap) 5 z)).drew.cell? ⟨w.heap.size, j, none⟩ = some (.int .u8 (s[j].toNat : Int)) := by
  have hh : (w.alloc (.cells (bytesRow s cap) 5 z)).drew.heap[w.heap.size]? = some (.cells (bytesRow s cap) 5 z) := heap_alloc_new w _
  rw [cell_of_row _ w.heap.size j _ _ _ hh]
  have hsz : j < s.data.size := hj
  rw [bytesRow, Array.getElem?_append_left (by simpa using hsz), Array.getElem?_map, Array.getElem?_eq_getElem hsz]
  rfl
theorem bytes_free (w : World) (s : ByteArray) (cap : Nat) (j : Nat) (hj : j < s.size) :
    (w.alloc (.cells (bytesRow s cap) 5 ((bytesRow s cap).size, (bytesRow s cap).size + 1))).drew.frozen? ⟨w.heap.size, j, none⟩ = false := by
  have hh : (w.alloc (.cells (bytesRow s cap) 5 ((bytesRow s cap).size, (bytesRow s cap).size + 1))).drew.heap[w.heap.size]? = some (.cells (bytesRow s cap) 5 ((bytesRow s cap).size, (bytesRow s cap).size + 1)) := heap_alloc_new w _
  have hsz : j < s.data.size := hj
  simp only [World.frozen?, hh]
  simp [bytesRow]
  omega
end Go.Proofs.YtimdioacmojkeaaDoor

namespace Go.Proofs.YtimdioacmojkeaaDoor
open Go.RowKit
set_option maxRecDepth 4000

theorem eight {α : Type} (l : List α) (h : l.length = 8) : ∃ a b c d e f g k, l = [a, b, c, d, e, f, g, k] := by
  match l, h with
  | [a, b, c, d, e, f, g, k], _ => exact ⟨a, b, c, d, e, f, g, k, rfl⟩

/-- '[]byte(s)' of eight bytes -/
theorem bytes8 (b0 b1 b2 b3 b4 b5 b6 b7 : UInt8) (w : World) : ∃ cap W,
    (convert 9 64 (.string ⟨#[b0, b1, b2, b3, b4, b5, b6, b7]⟩)).run Tryd.prog w = .ok (.slice (some ⟨w.heap.size, 0, none⟩) 8 cap) W ∧
    (∀ j (h : j < 8), W.cell? ⟨w.heap.size, j, none⟩ = some (.int .u8 ([b0, b1, b2, b3, b4, b5, b6, b7][j].toNat : Int))) ∧ Below w.heap.size w W := by
  refine ⟨_, _, run_bytes_of_string (P := Tryd.prog) w 9 64 5 ⟨#[b0, b1, b2, b3, b4, b5, b6, b7]⟩ (by kernel_rfl) (by kernel_rfl) (by kernel_rfl), ?_, ?_⟩
  · intro j h
    exact bytes_cell w ⟨#[b0, b1, b2, b3, b4, b5, b6, b7]⟩ _ _ j h
  · exact (Below.refl _ w).drew.alloc (Nat.le_refl _) _

set_option maxHeartbeats 1000000 in
theorem rid_of (N : Nat) (b0 b1 b2 b3 b4 b5 b6 b7 : UInt8) (s : ByteArray) (w : World) (hN : N < 18446744073709551616) (hL : Nm.low 8 N = [b0, b1, b2, b3, b4, b5, b6, b7])
    (hn : ∀ W, Calls Tryd.prog 39 #[.int .i64 64, .string s] W fun e w' => e = .returned (.int .u64 N) ∧ Below W.heap.size W w') :
    Calls Tryd.prog 23 #[.string s] w fun e w' => e = .returned (.agg #[B b0, B b1, B b2, B b3, B b4, B b5, B b6, B b7]) ∧ Below w.heap.size w w' := by
  have hwd := fun W => wide_nat N W hN
  rw [hL] at hwd
  have hat : ∀ (W : World) (cap : Nat) (a : Option Addr), (Instr.arrayAt 24 (.slice a 8 cap)).run Tryd.prog W = .ok (.pointer a) W := fun W cap a => run_arrayAt (P := Tryd.prog) W 24 5 8 a 8 cap (by kernel_rfl) (by omega)
  go_enter Tryd.func23, Tryd.ntmps23
  go_wp2_with fail
  refine (hn _).mono ?_
  rintro e w1 ⟨rfl, hb1⟩
  go_wp2_with fail
  refine (hwd _).mono ?_
  rintro e w2 ⟨rfl, hb2⟩
  have hb12 : Below (w.heap.size + 1) _ w2 := (show Below (w.heap.size + 1) _ w1 by simpa using hb1).trans (hb2.mono (by have := hb1.size; simpa using this))
  have hsz : w.heap.size < w2.heap.size := by have h1 := hb1.size; have h2 := hb2.size; simp at h1; omega
  obtain ⟨cap, W3, hcw, hcl, hb3⟩ := bytes8 b0 b1 b2 b3 b4 b5 b6 b7 w2
  have HB : Hid (Below w.heap.size w W3) := ((Below.refl _ w).alloc (Nat.le_refl _) _).trans ((hb12.mono (by omega)).trans (hb3.mono (by omega)))
  have hb4 := hb12.trans (hb3.mono (by omega))
  have c0 := hcl 0 (by omega)
  have d0 : W3.cell? ⟨w.heap.size, 0, none⟩ = some (.int .u8 0) := (hb4.cell (p := ⟨w.heap.size, 0, none⟩) (by simp)).trans (by simp)
  have f0 : W3.frozen? ⟨w.heap.size, 0, none⟩ = false := (hb4.frozen (p := ⟨w.heap.size, 0, none⟩) (by simp)).trans (by simp)
  have c1 := hcl 1 (by omega)
  have d1 : W3.cell? ⟨w.heap.size, 1, none⟩ = some (.int .u8 0) := (hb4.cell (p := ⟨w.heap.size, 1, none⟩) (by simp)).trans (by simp)
  have f1 : W3.frozen? ⟨w.heap.size, 1, none⟩ = false := (hb4.frozen (p := ⟨w.heap.size, 1, none⟩) (by simp)).trans (by simp)
  have c2 := hcl 2 (by omega)
  have d2 : W3.cell? ⟨w.heap.size, 2, none⟩ = some (.int .u8 0) := (hb4.cell (p := ⟨w.heap.size, 2, none⟩) (by simp)).trans (by simp)
  have f2 : W3.frozen? ⟨w.heap.size, 2, none⟩ = false := (hb4.frozen (p := ⟨w.heap.size, 2, none⟩) (by simp)).trans (by simp)
  have c3 := hcl 3 (by omega)
  have d3 : W3.cell? ⟨w.heap.size, 3, none⟩ = some (.int .u8 0) := (hb4.cell (p := ⟨w.heap.size, 3, none⟩) (by simp)).trans (by simp)
  have f3 : W3.frozen? ⟨w.heap.size, 3, none⟩ = false := (hb4.frozen (p := ⟨w.heap.size, 3, none⟩) (by simp)).trans (by simp)
  have c4 := hcl 4 (by omega)
  have d4 : W3.cell? ⟨w.heap.size, 4, none⟩ = some (.int .u8 0) := (hb4.cell (p := ⟨w.heap.size, 4, none⟩) (by simp)).trans (by simp)
  have f4 : W3.frozen? ⟨w.heap.size, 4, none⟩ = false := (hb4.frozen (p := ⟨w.heap.size, 4, none⟩) (by simp)).trans (by simp)
  have c5 := hcl 5 (by omega)
  have d5 : W3.cell? ⟨w.heap.size, 5, none⟩ = some (.int .u8 0) := (hb4.cell (p := ⟨w.heap.size, 5, none⟩) (by simp)).trans (by simp)
  have f5 : W3.frozen? ⟨w.heap.size, 5, none⟩ = false := (hb4.frozen (p := ⟨w.heap.size, 5, none⟩) (by simp)).trans (by simp)
  have c6 := hcl 6 (by omega)
  have d6 : W3.cell? ⟨w.heap.size, 6, none⟩ = some (.int .u8 0) := (hb4.cell (p := ⟨w.heap.size, 6, none⟩) (by simp)).trans (by simp)
  have f6 : W3.frozen? ⟨w.heap.size, 6, none⟩ = false := (hb4.frozen (p := ⟨w.heap.size, 6, none⟩) (by simp)).trans (by simp)
  have c7 := hcl 7 (by omega)
  have d7 : W3.cell? ⟨w.heap.size, 7, none⟩ = some (.int .u8 0) := (hb4.cell (p := ⟨w.heap.size, 7, none⟩) (by simp)).trans (by simp)
  have f7 : W3.frozen? ⟨w.heap.size, 7, none⟩ = false := (hb4.frozen (p := ⟨w.heap.size, 7, none⟩) (by simp)).trans (by simp)
  simp only [List.getElem_cons_zero, List.getElem_cons_succ] at c0 c1 c2 c3 c4 c5 c6 c7
  clear hcl hb4 hb3 hb12 hb2 hb1 hn hwd hL
  go_wp2_with fail
  refine bodyPost_ret (v := .agg #[B b0, B b1, B b2, B b3, B b4, B b5, B b6, B b7]) ?_ rfl ⟨rfl, ?_⟩
  · have hres : Tryd.f23.results = #[.cell 2 24] := by kernel_rfl
    simp only [results, hres]
    go_simp
    exact ⟨rfl, rfl, rfl, rfl, rfl, rfl, rfl, rfl⟩
  · have hk : w.heap.size ≤ w.heap.size := Nat.le_refl _
    exact (((((((HB.out.setCell hk _).setCell hk _).setCell hk _).setCell hk _).setCell hk _).setCell hk _).setCell hk _).setCell hk _

theorem rid_any (s : ByteArray) (w : World) (hs : s.size ≤ 140737488351232) :
    Calls Tryd.prog 23 #[.string s] w fun e w' => e = .returned (.agg ((Nm.low 8 (Mx.narrow 64 s.data.toList)).map B).toArray) ∧ Below w.heap.size w w' := by
  obtain ⟨b0, b1, b2, b3, b4, b5, b6, b7, hL⟩ := eight _ (Nm.low_length 8 (Mx.narrow 64 s.data.toList))
  rw [hL]
  exact rid_of _ b0 b1 b2 b3 b4 b5 b6 b7 s w (Mx.narrow_lt _ _) hL fun W => rnarrow_any 64 s W (by omega) hs
end Go.Proofs.YtimdioacmojkeaaDoor

namespace Go.Proofs.YtimdioacmojkeaaDoor
open Go.RowKit
set_option maxRecDepth 4000

/-- what lies in cell j when d bytes, the last ones first, have been written -/
def idAt (l : List UInt8) (d j : Nat) : Int := if 8 - d ≤ j then ((l.getD j 0).toNat : Int) else 0
theorem low8_get (N d : Nat) (hd : d < 8) : (Nm.low 8 N).getD (7 - d) 0 = UInt8.ofNat (N / 256 ^ d % 256) := by
  match d, hd with
  | 0, _ => rfl
  | 1, _ => rfl
  | 2, _ => rfl
  | 3, _ => rfl
  | 4, _ => rfl
  | 5, _ => rfl
  | 6, _ => rfl
  | 7, _ => rfl
theorem idAt_new (N d : Nat) (hd : d < 8) : ((N / 256 ^ d : Nat) : Int) % 256 = idAt (Nm.low 8 N) (d + 1) (7 - d) := by
  rw [idAt, if_pos (by omega), low8_get N d hd, UInt8.toNat_ofNat']
  omega
theorem id_step {l : List UInt8} {d G : Nat} {w : World} {c : Int} (hd : d < 8) (hc : c = idAt l (d + 1) (7 - d)) (h : ∀ j, j < 8 → w.cell? ⟨G, j, none⟩ = some (.int .u8 (idAt l d j))) :
    ∀ j, j < 8 → (w.setCell ⟨G, 7 - d, none⟩ (.int .u8 c)).cell? ⟨G, j, none⟩ = some (.int .u8 (idAt l (d + 1) j)) := by
  intro j hj
  by_cases e : j = 7 - d
  · subst e
    rw [World.cell?_setCell_same _ _ _ (h _ hj), hc]
  · rw [World.cell?_setCell_other _ _ _ _ (by intro h; exact e (congrArg Addr.off h).symm), h j hj, idAt, idAt]
    by_cases hjk : 8 - d ≤ j
    · rw [if_pos hjk, if_pos (by omega)]
    · rw [if_neg hjk, if_neg (by omega)]

set_option maxHeartbeats 1000000 in
theorem id_of (N : Nat) (b0 b1 b2 b3 b4 b5 b6 b7 : UInt8) (s : ByteArray) (w : World) (hL : Nm.low 8 N = [b0, b1, b2, b3, b4, b5, b6, b7])
    (hn : ∀ W, Calls Tryd.prog 43 #[.string s] W fun e w' => e = .returned (.int .u64 N) ∧ Below W.heap.size W w') :
    Calls Tryd.prog 29 #[.string s] w fun e w' => e = .returned (.agg #[B b0, B b1, B b2, B b3, B b4, B b5, B b6, B b7]) ∧ Below w.heap.size w w' := by
  have HW : Hid (∀ d, d < 8 → ((N / 256 ^ d : Nat) : Int) % 256 = idAt (Nm.low 8 N) (d + 1) (7 - d)) := idAt_new N
  rw [hL] at HW
  clear hL
  go_enter Tryd.func29, Tryd.ntmps29
  go_wp2_with fail
  refine (hn _).mono ?_
  rintro e w1 ⟨rfl, hb1⟩
  have HB1 : Hid (Below w.heap.size w w1) := ((((Below.refl _ w).alloc (Nat.le_refl _) _).alloc (by simp) _)).trans (hb1.mono (by simp; omega))
  have HC : Hid (∀ j, j < 8 → w1.cell? ⟨w.heap.size + 1, j, none⟩ = some (.int .u8 (idAt [b0, b1, b2, b3, b4, b5, b6, b7] 0 j))) := fun j hj => by
    rw [idAt, if_neg (by omega)]
    refine (hb1.cell (p := ⟨w.heap.size + 1, j, none⟩) (by simp)).trans ?_
    match j, hj with
    | 0, _ => simp
    | 1, _ => simp
    | 2, _ => simp
    | 3, _ => simp
    | 4, _ => simp
    | 5, _ => simp
    | 6, _ => simp
    | 7, _ => simp
  have HF : Hid (∀ j, j < 8 → w1.frozen? ⟨w.heap.size + 1, j, none⟩ = false) := fun j hj =>
    (hb1.frozen (p := ⟨w.heap.size + 1, j, none⟩) (by simp)).trans (by simp)
  have HC0 : Hid (∀ j, j < 8 → w1.cell? ⟨w.heap.size, j, none⟩ = some (.int .u8 0)) := fun j hj => by
    refine (hb1.cell (p := ⟨w.heap.size, j, none⟩) (by simp; omega)).trans ?_
    match j, hj with
    | 0, _ => simp
    | 1, _ => simp
    | 2, _ => simp
    | 3, _ => simp
    | 4, _ => simp
    | 5, _ => simp
    | 6, _ => simp
    | 7, _ => simp
  have HF0 : Hid (∀ j, j < 8 → w1.frozen? ⟨w.heap.size, j, none⟩ = false) := fun j hj =>
    (hb1.frozen (p := ⟨w.heap.size, j, none⟩) (by simp; omega)).trans (by simp)
  clear hb1 hn
  go_wp2_with fail
  go_loopw [4, 5] (fun n i wr => ∃ d : Nat, d ≤ 8 ∧ n = .int .u64 ((N / 256 ^ d : Nat) : Int) ∧ i = .int .i64 (7 - (d : Int)) ∧ Hid (∀ j, j < 8 → wr.cell? ⟨w.heap.size + 1, j, none⟩ = some (.int .u8 (idAt [b0, b1, b2, b3, b4, b5, b6, b7] d j))) ∧
      Hid (∀ j, j < 8 → wr.frozen? ⟨w.heap.size + 1, j, none⟩ = false) ∧ Hid (∀ j, j < 8 → wr.cell? ⟨w.heap.size, j, none⟩ = some (.int .u8 0)) ∧ Hid (∀ j, j < 8 → wr.frozen? ⟨w.heap.size, j, none⟩ = false) ∧ Hid (Below w.heap.size w wr)) (fun _ i _ => (intOf i + 1).toNat)
  case atStart => exact ⟨0, by omega, by simp, rfl, HC, HF, HC0, HF0, HB1⟩
  case round =>
    obtain ⟨d, hd, rfl, rfl, hc, hf, hc0, hf0, hb⟩ := hrel
    clear HC HF HC0 HF0 HB1
    by_cases hlt : d < 8
    · have hst := id_step (G := w.heap.size + 1) (w := wr) hlt (HW.out d hlt) hc.out
      have HS : Hid (∀ j, j < 8 → (wr.setCell ⟨w.heap.size + 1, 7 - d, none⟩ (.int .u8 (((N / 256 ^ d : Nat) : Int) % 256))).cell? ⟨w.heap.size + 1, j, none⟩ = some (.int .u8 (idAt [b0, b1, b2, b3, b4, b5, b6, b7] (d + 1) j))) := hst
      clear hst
      have hq : ((N / 256 ^ d : Nat) : Int) / 256 = ((N / 256 ^ (d + 1) : Nat) : Int) := by
        rw [Nat.pow_succ, ← Nat.div_div_eq_div_mul]; omega
      have HQ : Hid (((N / 256 ^ d : Nat) : Int) / 256 = ((N / 256 ^ (d + 1) : Nat) : Int)) := hq
      clear hq
      have hkI : 7 - (d : Int) = ((7 - d : Nat) : Int) := by omega
      have hck := hc.out (7 - d) (by omega)
      have hfk := hf.out (7 - d) (by omega)
      generalize N / 256 ^ d = M at *
      go_wp2_with fail
      go_round
      case rel =>
        refine ⟨d + 1, by omega, int_eq HQ.out, int_eq (by omega), HS, ?_, ?_, ?_, ?_⟩
        · intro j hj
          simpa using hf.out j hj
        · intro j hj
          rw [World.cell?_setCell_other _ _ _ _ (by intro h; have := congrArg Addr.block h; simp at this)]
          exact hc0.out j hj
        · intro j hj
          simpa using hf0.out j hj
        · exact hb.out.setCell (by simp) _
      case measure => simp only [intOf]; omega
    · obtain rfl : d = 8 := by omega
      have c0 : wr.cell? ⟨w.heap.size + 1, 0, none⟩ = some (.int .u8 (b0.toNat : Int)) := hc.out 0 (by omega)
      have d0 := hc0.out 0 (by omega)
      have f0 := hf0.out 0 (by omega)
      have c1 : wr.cell? ⟨w.heap.size + 1, 1, none⟩ = some (.int .u8 (b1.toNat : Int)) := hc.out 1 (by omega)
      have d1 := hc0.out 1 (by omega)
      have f1 := hf0.out 1 (by omega)
      have c2 : wr.cell? ⟨w.heap.size + 1, 2, none⟩ = some (.int .u8 (b2.toNat : Int)) := hc.out 2 (by omega)
      have d2 := hc0.out 2 (by omega)
      have f2 := hf0.out 2 (by omega)
      have c3 : wr.cell? ⟨w.heap.size + 1, 3, none⟩ = some (.int .u8 (b3.toNat : Int)) := hc.out 3 (by omega)
      have d3 := hc0.out 3 (by omega)
      have f3 := hf0.out 3 (by omega)
      have c4 : wr.cell? ⟨w.heap.size + 1, 4, none⟩ = some (.int .u8 (b4.toNat : Int)) := hc.out 4 (by omega)
      have d4 := hc0.out 4 (by omega)
      have f4 := hf0.out 4 (by omega)
      have c5 : wr.cell? ⟨w.heap.size + 1, 5, none⟩ = some (.int .u8 (b5.toNat : Int)) := hc.out 5 (by omega)
      have d5 := hc0.out 5 (by omega)
      have f5 := hf0.out 5 (by omega)
      have c6 : wr.cell? ⟨w.heap.size + 1, 6, none⟩ = some (.int .u8 (b6.toNat : Int)) := hc.out 6 (by omega)
      have d6 := hc0.out 6 (by omega)
      have f6 := hf0.out 6 (by omega)
      have c7 : wr.cell? ⟨w.heap.size + 1, 7, none⟩ = some (.int .u8 (b7.toNat : Int)) := hc.out 7 (by omega)
      have d7 := hc0.out 7 (by omega)
      have f7 := hf0.out 7 (by omega)
      generalize N / 256 ^ 8 = M at *
      clear hc hf hc0 hf0 hd hlt HW
      go_wp2_with fail
      refine bodyPost_ret (v := .agg #[B b0, B b1, B b2, B b3, B b4, B b5, B b6, B b7]) ?_ rfl ⟨rfl, ?_⟩
      · have hres : Tryd.f29.results = #[.cell 2 24] := by kernel_rfl
        simp only [results, hres]
        go_simp
        exact ⟨rfl, rfl, rfl, rfl, rfl, rfl, rfl, rfl⟩
      · have hk : w.heap.size ≤ w.heap.size := Nat.le_refl _
        exact (((((((hb.out.setCell hk _).setCell hk _).setCell hk _).setCell hk _).setCell hk _).setCell hk _).setCell hk _).setCell hk _

theorem id_any (s : ByteArray) (w : World) (hs : s.size ≤ 140737488351232) :
    Calls Tryd.prog 29 #[.string s] w fun e w' => e = .returned (.agg ((Nm.low 8 (Mx.narrow 64 s.data.toList)).map B).toArray) ∧ Below w.heap.size w w' := by
  obtain ⟨b0, b1, b2, b3, b4, b5, b6, b7, hL⟩ := eight _ (Nm.low_length 8 (Mx.narrow 64 s.data.toList))
  rw [hL]
  exact id_of _ b0 b1 b2 b3 b4 b5 b6 b7 s w hL fun W => sum_any s W hs
end Go.Proofs.YtimdioacmojkeaaDoor

namespace Go.Proofs.YtimdioacmojkeaaDoor
open Go.RowKit

theorem id_eq (W : World) (xs ys : List UInt8) (hx : xs.length = 8) (hy : ys.length = 8) :
    (Op.equalIn 10000 24 (.agg (xs.map B).toArray) (.agg (ys.map B).toArray)).run Tryd.prog W = .ok (xs == ys) W :=
  run_equalIn_bytes (P := Tryd.prog) W 9998 24 5 8 (by kernel_rfl) (by kernel_rfl) (fun w => by go_simp) xs ys hx hy
end Go.Proofs.YtimdioacmojkeaaDoor

namespace Go.Proofs.YtimdioacmojkeaaDoor
open Go.RowKit

theorem eq_fields2 {P : Program} (W : World) (d : Nat) (xs ys : Array Value) (f0 f1 : Field) (v0 v1 u0 u1 : Value) (a b : Bool) (n0 : f0.name ≠ "_") (n1 : f1.name ≠ "_")
    (p0 : (part f0.type xs f0.offset).run P W = .ok v0 W) (p1 : (part f1.type xs f1.offset).run P W = .ok v1 W) (q0 : (part f0.type ys f0.offset).run P W = .ok u0 W) (q1 : (part f1.type ys f1.offset).run P W = .ok u1 W)
    (e0 : (Op.equalIn d f0.type v0 u0).run P W = .ok a W) (e1 : (Op.equalIn d f1.type v1 u1).run P W = .ok b W) :
    (Op.eqFields d xs ys [f0, f1]).run P W = .ok (a && b) W := by
  cases a <;> cases b <;> simp only [Op.eqFields, if_pos n0, if_pos n1, Sem.run_bind, p0, p1, q0, q1, Result.andThen_ok, e0, e1, Bool.not_true, Bool.not_false, Bool.false_eq_true, if_false, if_true, Sem.run_pure, Bool.and_true, Bool.and_false, Bool.and_self]

theorem eq_fields4 {P : Program} (W : World) (d : Nat) (xs : Array Value) (f0 f1 f2 f3 : Field) (v0 v1 v2 v3 : Value) (n0 : f0.name ≠ "_") (n1 : f1.name ≠ "_") (n2 : f2.name ≠ "_") (n3 : f3.name ≠ "_")
    (p0 : (part f0.type xs f0.offset).run P W = .ok v0 W) (p1 : (part f1.type xs f1.offset).run P W = .ok v1 W) (p2 : (part f2.type xs f2.offset).run P W = .ok v2 W) (p3 : (part f3.type xs f3.offset).run P W = .ok v3 W)
    (e0 : (Op.equalIn d f0.type v0 v0).run P W = .ok true W) (e1 : (Op.equalIn d f1.type v1 v1).run P W = .ok true W) (e2 : (Op.equalIn d f2.type v2 v2).run P W = .ok true W) (e3 : (Op.equalIn d f3.type v3 v3).run P W = .ok true W) :
    (Op.eqFields d xs xs [f0, f1, f2, f3]).run P W = .ok true W := by
  simp only [Op.eqFields, if_pos n0, if_pos n1, if_pos n2, if_pos n3, Sem.run_bind, p0, p1, p2, p3, Result.andThen_ok, e0, e1, e2, e3, Bool.not_true, Bool.false_eq_true, if_false, Sem.run_pure]

theorem fields_bl : ∃ f0 f1, (Tryd.prog.fieldsOf 34).toList = [f0, f1] ∧ f0.type = 3 ∧ f0.offset = 0 ∧ f0.name ≠ "_" ∧ f1.type = 9 ∧ f1.offset = 1 ∧ f1.name ≠ "_" := by
  rw [show (Tryd.prog.fieldsOf 34) = _ from by unfold Program.fieldsOf; rw [Tryd.underlying34]]
  exact ⟨_, _, rfl, rfl, rfl, by decide, rfl, rfl, by decide⟩

/-- are two blobs the same? -/
def blSame (a b : Blb) : Bool := (a.kind == b.kind) && (a.bytes.toList == b.bytes.toList)

theorem blSame_self (a : Blb) : blSame a a = true := by simp [blSame]

theorem blSame_iff {a b : Blb} : blSame a b = true ↔ a = b := by
  constructor
  · intro h
    simp only [blSame, Bool.and_eq_true, beq_iff_eq, Lib.toList_data] at h
    exact Blb.p_inj (Prod.ext h.1 h.2)
  · rintro rfl
    exact blSame_self a

theorem bl_cmp_at (d : Nat) (W : World) (a b : Blb) :
    (Op.equalIn (d + 1 + 1) 34 (.agg #[.int .i64 a.kind, .string a.bytes]) (.agg #[.int .i64 b.kind, .string b.bytes])).run Tryd.prog W = .ok (blSame a b) W := by
  have hp : Tryd.prog.stoodInHeld 34 = false := by kernel_rfl
  have hf : Tryd.prog.underlying 34 = some (.struct (Tryd.prog.fieldsOf 34)) := by kernel_rfl
  obtain ⟨f0, f1, hfs, t0, o0, n0, t1, o1, n1⟩ := fields_bl
  have h0 : (Op.equalIn (d + 1) 3 (.int .i64 a.kind) (.int .i64 b.kind)).run Tryd.prog W = .ok (a.kind == b.kind) W := run_equalIn_int W d 3 .i64 .i64 a.kind b.kind (by kernel_rfl)
  have h1 : (Op.equalIn (d + 1) 9 (.string a.bytes) (.string b.bytes)).run Tryd.prog W = .ok (a.bytes.toList == b.bytes.toList) W := run_equalIn_string (P := Tryd.prog) W d 9 a.bytes b.bytes (by kernel_rfl)
  rw [run_equalIn_struct W (d + 1) 34 _ _ hf hp, hfs]
  exact eq_fields2 W (d + 1) _ _ f0 f1 (.int .i64 a.kind) (.string a.bytes) (.int .i64 b.kind) (.string b.bytes) _ _ n0 n1 (by rw [t0, o0]; simp [part, go_sem]) (by rw [t1, o1]; simp [part, go_sem]) (by rw [t0, o0]; simp [part, go_sem]) (by rw [t1, o1]; simp [part, go_sem]) (by rw [t0]; exact h0) (by rw [t1]; exact h1)

theorem bl_cmp (W : World) (a b : Blb) :
    (Op.equalIn 10000 34 (.agg #[.int .i64 a.kind, .string a.bytes]) (.agg #[.int .i64 b.kind, .string b.bytes])).run Tryd.prog W = .ok (blSame a b) W := bl_cmp_at 9998 W a b

theorem part_id (W : World) (e : Ent) : (part 24 (enC e).toArray 0).run Tryd.prog W = .ok (.agg (e.id.map B).toArray) W := by
  have h : List.take 8 (enC e) = List.map B e.id := by
    rw [enC, List.take_append_of_le_length (by rw [List.length_map, e.hid]; omega), List.take_of_length_le (by rw [List.length_map, e.hid]; omega)]
  simp [part, go_sem, h]

theorem enC_8 (e : Ent) : (enC e)[8]? = some (.int .i64 e.kind) := by
  rw [enC, List.getElem?_append_right (by simp [e.hid]), List.length_map, e.hid]; rfl

theorem enC_9 (e : Ent) : (enC e)[9]? = some (.int .i64 e.at_) := by
  rw [enC, List.getElem?_append_right (by simp [e.hid]), List.length_map, e.hid]; rfl

theorem enC_10 (e : Ent) : (enC e)[10]? = some (.int .i64 e.len) := by
  rw [enC, List.getElem?_append_right (by simp [e.hid]), List.length_map, e.hid]; rfl

theorem part_kind (W : World) (e : Ent) : (part 3 (enC e).toArray 8).run Tryd.prog W = .ok (.int .i64 e.kind) W := by
  have h := enC_8 e
  simp [part, go_sem, h]

theorem part_at_ (W : World) (e : Ent) : (part 3 (enC e).toArray 9).run Tryd.prog W = .ok (.int .i64 e.at_) W := by
  have h := enC_9 e
  simp [part, go_sem, h]

theorem part_len (W : World) (e : Ent) : (part 3 (enC e).toArray 10).run Tryd.prog W = .ok (.int .i64 e.len) W := by
  have h := enC_10 e
  simp [part, go_sem, h]

theorem id_eq_at (W : World) (d : Nat) (xs ys : List UInt8) (hx : xs.length = 8) (hy : ys.length = 8) :
    (Op.equalIn (d + 2) 24 (.agg (xs.map B).toArray) (.agg (ys.map B).toArray)).run Tryd.prog W = .ok (xs == ys) W :=
  run_equalIn_bytes (P := Tryd.prog) W d 24 5 8 (by kernel_rfl) (by kernel_rfl) (fun w => by go_simp) xs ys hx hy
end Go.Proofs.YtimdioacmojkeaaDoor

namespace Go.Proofs.YtimdioacmojkeaaDoor
open Go.RowKit

theorem own_below {base : Nat} {e : TypeId} {k : Nat} {v : Value} {n : Nat} {xs : List Value} {w w' : World} (h : w.ownsRow base e k v n xs) (hb : Below w.heap.size w w') : w'.ownsRow base e k v n xs := by
  obtain ⟨h1, h2⟩ := h
  refine ⟨h1, ?_⟩
  rcases h2 with h2 | ⟨g, cap, cur, hv, hg, hh, r⟩
  · exact .inl h2
  · refine .inr ⟨g, cap, cur, hv, hg, ?_, r⟩
    rw [hb.block g ?_, hh]
    exact (Array.getElem?_eq_some_iff.1 hh).1
theorem own_lower {base base' : Nat} {e : TypeId} {k : Nat} {v : Value} {n : Nat} {xs : List Value} {w : World} (h : w.ownsRow base e k v n xs) (hb : base' ≤ base) : w.ownsRow base' e k v n xs := by
  obtain ⟨h1, h2⟩ := h
  refine ⟨h1, ?_⟩
  rcases h2 with h2 | ⟨g, cap, cur, hv, hg, r⟩
  · exact .inl h2
  · exact .inr ⟨g, cap, cur, hv, by omega, r⟩
theorem own_form {base : Nat} {e : TypeId} {k n : Nat} {w : World} {v : Value} {xs : List Value} (h : w.ownsRow base e k v n xs) : ∃ a c, v = .slice a n c := by
  rcases h.2 with ⟨rfl, h0⟩ | ⟨g, cap, cur, rfl, _⟩
  · exact ⟨_, _, by rw [h0]⟩
  · exact ⟨_, _, rfl⟩
theorem below_past {w w' : World} {o : Obj} (h : Below (w.alloc o).heap.size (w.alloc o) w') : Below w.heap.size w w' :=
  ((Below.refl _ w).alloc (Nat.le_refl _) o).trans (h.mono (by simp))
end Go.Proofs.YtimdioacmojkeaaDoor

namespace Go.Proofs.YtimdioacmojkeaaDoor
open Go.RowKit
set_option maxRecDepth 4000

def kB (k : Int) : Bool := decide (k = 1 ∨ k = 2 ∨ k = 3)

theorem kB_of {k : Int} : kB k = true ↔ Pk.kOK k := by simp [kB, Pk.kOK]

theorem isKind_any (k : Int) (w : World) :
    Calls Tryd.prog 28 #[.int .i64 k] w fun e w' => e = .returned (.bool (kB k)) ∧ w' = w := by
  by_cases h1 : k = 1
  · subst h1
    go_enter Tryd.func28, Tryd.ntmps28
    go_wp2_with fail
    go_ret
    exact ⟨rfl, rfl⟩
  by_cases h2 : k = 2
  · subst h2
    go_enter Tryd.func28, Tryd.ntmps28
    go_wp2_with fail
    go_ret
    exact ⟨rfl, rfl⟩
  by_cases h3 : k = 3
  · subst h3
    go_enter Tryd.func28, Tryd.ntmps28
    go_wp2_with fail
    go_ret
    exact ⟨rfl, rfl⟩
  have HE : Hid (kB k = false) := decide_eq_false fun h => by omega
  have e1 : (k == 1) = false := beq_eq_false_iff_ne.2 h1
  have e2 : (k == 2) = false := beq_eq_false_iff_ne.2 h2
  have e3 : (k == 3) = false := beq_eq_false_iff_ne.2 h3
  go_enter Tryd.func28, Tryd.ntmps28
  go_wp2_with fail
  go_ret
  exact ⟨by rw [HE.out]; rfl, rfl⟩

theorem rkind_any (k : Int) (w : World) :
    Calls Tryd.prog 22 #[.int .i64 k] w fun e w' => e = .returned (.bool (kB k)) ∧ w' = w := by
  by_cases h1 : k = 1
  · subst h1
    go_enter Tryd.func22, Tryd.ntmps22
    go_wp2_with fail
    go_ret
    exact ⟨rfl, rfl⟩
  by_cases h2 : k = 2
  · subst h2
    go_enter Tryd.func22, Tryd.ntmps22
    go_wp2_with fail
    go_ret
    exact ⟨rfl, rfl⟩
  by_cases h3 : k = 3
  · subst h3
    go_enter Tryd.func22, Tryd.ntmps22
    go_wp2_with fail
    go_ret
    exact ⟨rfl, rfl⟩
  have HE : Hid (kB k = false) := decide_eq_false fun h => by omega
  have e1 : (k == 1) = false := beq_eq_false_iff_ne.2 h1
  have e2 : (k == 2) = false := beq_eq_false_iff_ne.2 h2
  have e3 : (k == 3) = false := beq_eq_false_iff_ne.2 h3
  go_enter Tryd.func22, Tryd.ntmps22
  go_wp2_with fail
  go_ret
  exact ⟨by rw [HE.out]; rfl, rfl⟩

/-- what ID hands back -/
def idOr (b : Blb) : List UInt8 := if Pk.bErr b.p = 0 then Pk.bid b.p else List.replicate 8 0

theorem idOr_length (b : Blb) : (idOr b).length = 8 := by
  unfold idOr; split
  · exact Pk.bid_length _
  · simp

abbrev Z8 : Array Value := #[.int .u8 0, .int .u8 0, .int .u8 0, .int .u8 0, .int .u8 0, .int .u8 0, .int .u8 0, .int .u8 0]

theorem id8_cell (w : World) (t : TypeId) (j : Nat) (hj : j < 8) : (w.alloc (.cells Z8 t)).cell? ⟨w.heap.size, j, none⟩ = some (.int .u8 0) := by
  rw [cell_of_row _ w.heap.size j _ _ _ (heap_alloc_new w _)]
  match j, hj with
  | 0, _ => rfl
  | 1, _ => rfl
  | 2, _ => rfl
  | 3, _ => rfl
  | 4, _ => rfl
  | 5, _ => rfl
  | 6, _ => rfl
  | 7, _ => rfl

theorem id8_free (w : World) (t : TypeId) (j : Nat) : (w.alloc (.cells Z8 t)).frozen? ⟨w.heap.size, j, none⟩ = false := by
  simp

/-- eight cells, all of which may be written -/
structure I8 (W : World) (G : Nat) (x : List UInt8) : Prop where
  len : x.length = 8
  at_ : ∀ j, j < 8 → W.cell? ⟨G, j, none⟩ = some (.int .u8 ((x.getD j 0).toNat : Int))
  fz : ∀ j, j < 8 → W.frozen? ⟨G, j, none⟩ = false
  lt : G < W.heap.size

theorem I8.below {W W' : World} {G B : Nat} {x : List UInt8} (h : I8 W G x) (hb : Below B W W') (hg : G < B) : I8 W' G x :=
  ⟨h.len, fun j hj => (hb.cell (p := ⟨G, j, none⟩) hg).trans (h.at_ j hj), fun j hj => (hb.frozen (p := ⟨G, j, none⟩) hg).trans (h.fz j hj), Nat.lt_of_lt_of_le h.lt hb.size⟩

theorem I8.new (w : World) (t : TypeId) : I8 (w.alloc (.cells Z8 t)) w.heap.size (List.replicate 8 0) :=
  ⟨by simp, fun j hj => by rw [id8_cell w t j hj]; rw [List.getD_eq_getElem?_getD, List.getElem?_replicate, if_pos hj]; rfl, fun j _ => id8_free w t j, by simp⟩

theorem I8.cells {W : World} {G : Nat} {b0 b1 b2 b3 b4 b5 b6 b7 : UInt8} (h : I8 W G [b0, b1, b2, b3, b4, b5, b6, b7]) :
    W.cell? ⟨G, 0, none⟩ = some (.int .u8 (b0.toNat : Int)) ∧ W.cell? ⟨G, 1, none⟩ = some (.int .u8 (b1.toNat : Int)) ∧ W.cell? ⟨G, 2, none⟩ = some (.int .u8 (b2.toNat : Int)) ∧ W.cell? ⟨G, 3, none⟩ = some (.int .u8 (b3.toNat : Int)) ∧
    W.cell? ⟨G, 4, none⟩ = some (.int .u8 (b4.toNat : Int)) ∧ W.cell? ⟨G, 5, none⟩ = some (.int .u8 (b5.toNat : Int)) ∧ W.cell? ⟨G, 6, none⟩ = some (.int .u8 (b6.toNat : Int)) ∧ W.cell? ⟨G, 7, none⟩ = some (.int .u8 (b7.toNat : Int)) :=
  ⟨h.at_ 0 (by omega), h.at_ 1 (by omega), h.at_ 2 (by omega), h.at_ 3 (by omega), h.at_ 4 (by omega), h.at_ 5 (by omega), h.at_ 6 (by omega), h.at_ 7 (by omega)⟩

theorem I8.free {W : World} {G : Nat} {x : List UInt8} (h : I8 W G x) :
    W.frozen? ⟨G, 0, none⟩ = false ∧ W.frozen? ⟨G, 1, none⟩ = false ∧ W.frozen? ⟨G, 2, none⟩ = false ∧ W.frozen? ⟨G, 3, none⟩ = false ∧ W.frozen? ⟨G, 4, none⟩ = false ∧ W.frozen? ⟨G, 5, none⟩ = false ∧ W.frozen? ⟨G, 6, none⟩ = false ∧ W.frozen? ⟨G, 7, none⟩ = false :=
  ⟨h.fz 0 (by omega), h.fz 1 (by omega), h.fz 2 (by omega), h.fz 3 (by omega), h.fz 4 (by omega), h.fz 5 (by omega), h.fz 6 (by omega), h.fz 7 (by omega)⟩

/-- eight cells written -/
def set8 (W : World) (G : Nat) (b0 b1 b2 b3 b4 b5 b6 b7 : UInt8) : World :=
  (((((((W.setCell ⟨G, 0, none⟩ (B b0)).setCell ⟨G, 1, none⟩ (B b1)).setCell ⟨G, 2, none⟩ (B b2)).setCell ⟨G, 3, none⟩ (B b3)).setCell ⟨G, 4, none⟩ (B b4)).setCell ⟨G, 5, none⟩ (B b5)).setCell ⟨G, 6, none⟩ (B b6)).setCell ⟨G, 7, none⟩ (B b7)

theorem I8.set1 {W : World} {G : Nat} {x : List UInt8} (h : I8 W G x) (k : Nat) (hk : k < 8) (b : UInt8) : I8 (W.setCell ⟨G, k, none⟩ (B b)) G (x.set k b) := by
  refine ⟨by rw [List.length_set]; exact h.len, fun j hj => ?_, fun j hj => by simpa using h.fz j hj, by simpa using h.lt⟩
  by_cases e : j = k
  · subst e
    rw [World.cell?_setCell_same _ _ _ (h.at_ j hj), List.getD_eq_getElem?_getD, List.getElem?_set_self (by rw [h.len]; exact hj)]
    rfl
  · rw [World.cell?_setCell_other _ _ _ _ (by intro q; exact e (congrArg Addr.off q).symm), h.at_ j hj, List.getD_eq_getElem?_getD, List.getD_eq_getElem?_getD, List.getElem?_set_ne (by omega)]

theorem I8.store {W : World} {G : Nat} {x : List UInt8} (h : I8 W G x) (b0 b1 b2 b3 b4 b5 b6 b7 : UInt8) : I8 (set8 W G b0 b1 b2 b3 b4 b5 b6 b7) G [b0, b1, b2, b3, b4, b5, b6, b7] := by
  have := (((((((h.set1 0 (by omega) b0).set1 1 (by omega) b1).set1 2 (by omega) b2).set1 3 (by omega) b3).set1 4 (by omega) b4).set1 5 (by omega) b5).set1 6 (by omega) b6).set1 7 (by omega) b7
  obtain ⟨c0, c1, c2, c3, c4, c5, c6, c7, rfl⟩ := eight x h.len
  exact this

theorem below_set8 {B' : Nat} {w W : World} {G : Nat} (h : Below B' w W) (hg : B' ≤ G) (b0 b1 b2 b3 b4 b5 b6 b7 : UInt8) : Below B' w (set8 W G b0 b1 b2 b3 b4 b5 b6 b7) :=
  (((((((h.setCell hg _).setCell hg _).setCell hg _).setCell hg _).setCell hg _).setCell hg _).setCell hg _).setCell hg _

set_option maxHeartbeats 1000000 in
theorem pid_of (b0 b1 b2 b3 b4 b5 b6 b7 : UInt8) (k : Nat) (s : ByteArray) (w : World) (hk : kB (k : Int) = true) (hk3 : k ≤ 3) (hs : s.size ≤ 4096)
    (hn : ∀ W, Calls Tryd.prog 29 #[.string ⟨(UInt8.ofNat k :: s.data.toList).toArray⟩] W fun e w' => e = .returned (.agg #[B b0, B b1, B b2, B b3, B b4, B b5, B b6, B b7]) ∧ Below W.heap.size W w') :
    Calls Tryd.prog 15 #[.agg #[.int .i64 k, .string s]] w fun e w' => e = .returned (.tuple #[.agg #[B b0, B b1, B b2, B b3, B b4, B b5, B b6, B b7], .int .i64 0]) ∧ Below w.heap.size w w' := by
  obtain ⟨i0, hi, hz0, hz1, hz2⟩ := info_parts info_u8
  simp only [B] at hn
  have hisk := fun W => isKind_any (k : Int) W
  rw [hk] at hisk
  clear hk
  obtain ⟨W2, hW2⟩ : ∃ W2, W2 = (w.alloc (.cells #[.int .i64 k, .string s] 34)).alloc (.cells Z8 24) := ⟨_, rfl⟩
  have hsz : W2.heap.size = w.heap.size + 2 := by rw [hW2]; simp
  have hX : I8 W2 (w.heap.size + 1) (List.replicate 8 0) := by
    rw [hW2]
    have := I8.new (w.alloc (.cells #[.int .i64 k, .string s] 34)) 24
    rwa [World.size_alloc] at this
  have hB2 : Below w.heap.size w W2 := by rw [hW2]; exact ((Below.refl _ w).alloc (Nat.le_refl _) _).alloc (by simp) _
  have c0 : W2.cell? ⟨w.heap.size, 0, none⟩ = some (.int .i64 k) := by rw [hW2]; simp
  have c1 : W2.cell? ⟨w.heap.size, 1, none⟩ = some (.string s) := by rw [hW2]; simp
  have hone := owns_one W2 (k : Int) (by omega) (by omega)
  rw [Int.toNat_natCast, hsz] at hone
  dsimp only [Z8] at hW2
  go_enter Tryd.func15, Tryd.ntmps15
  go_wp2_with fail
  rw [← hW2]
  clear hW2
  refine (hisk _).mono ?_
  rintro e u ⟨rfl, hu⟩
  obtain rfl := hu.symm
  clear hu hisk
  go_wp2_with (at_builtin; refine Lib.wpList_append_own_string _ rfl (.tmp 17) (.tmp 19) 64 9 rfl (w.heap.size + 2) 5 i0 Tryd.underlying64 Tryd.underlying9 hi hz0 hz1 hz2 _ _ _ rfl hone s rfl ?c3 ?c4 ?c5 ?_)
  case c3 => unfold maxLen; simp only [List.length_cons, List.length_nil]; omega
  case c4 => simp only [List.length_cons, List.length_nil]; omega
  case c5 => simp; omega
  intro v1 w1 hown1 hgrow _
  have hb1 : Below (w.heap.size + 2) W2 w1 := (((Below.refl _ W2).alloc (by omega) _)).grown hgrow (by simp; omega) fun j hj => (hone.lt j hj).1
  have hrow : w1.ownsRow (w.heap.size + 2) 5 1 v1 (UInt8.ofNat k :: s.data.toList).length ((UInt8.ofNat k :: s.data.toList).map B) := by
    have e : (UInt8.ofNat k :: s.data.toList).length = 1 + s.size := by rw [Lib.size_eq]; simp only [List.length_cons]; omega
    rw [e]
    exact hown1
  have hstr := run_str hrow
  have hX1 := hX.below hb1 (by omega)
  have HB1 : Hid (Below w.heap.size w w1) := hB2.trans (hb1.mono (by omega))
  obtain ⟨a1, q1, rfl⟩ := own_form hown1
  clear hown1 hgrow hone hrow hX hb1 hB2 c0 c1
  go_wp2_with fail
  refine (hn _).mono ?_
  rintro e w2 ⟨rfl, hb2⟩
  have hX2 := hX1.below hb2 hX1.lt
  obtain ⟨e0, e1, e2, e3, e4, e5, e6, e7⟩ := I8.cells (b0 := 0) (b1 := 0) (b2 := 0) (b3 := 0) (b4 := 0) (b5 := 0) (b6 := 0) (b7 := 0) hX2
  obtain ⟨f0, f1, f2, f3, f4, f5, f6, f7⟩ := hX2.free
  have HB2 : Hid (Below w.heap.size w (set8 w2 (w.heap.size + 1) b0 b1 b2 b3 b4 b5 b6 b7)) := below_set8 (HB1.out.trans (hb2.mono HB1.out.size)) (by omega) _ _ _ _ _ _ _ _
  clear hX1 hX2 hb2 hn hstr HB1
  go_wp2_with fail
  refine bodyPost_ret (v := .tuple #[.agg #[B b0, B b1, B b2, B b3, B b4, B b5, B b6, B b7], .int .i64 0]) ?_ rfl ⟨rfl, HB2.out⟩
  have hres : Tryd.f15.results = #[.cell 2 24, .tmp 3] := by kernel_rfl
  simp only [results, hres]
  go_simp
  exact ⟨rfl, rfl, rfl, rfl, rfl, rfl, rfl, rfl⟩

set_option maxHeartbeats 1000000 in
theorem pid_kind (k : Int) (s : ByteArray) (w : World) (hk : kB k = false) :
    Calls Tryd.prog 15 #[.agg #[.int .i64 k, .string s]] w fun e w' => e = .returned (.tuple #[.agg ((List.replicate 8 0).map B).toArray, .int .i64 5]) ∧ Below w.heap.size w w' := by
  have hisk := fun W => isKind_any k W
  rw [hk] at hisk
  clear hk
  obtain ⟨W2, hW2⟩ : ∃ W2, W2 = (w.alloc (.cells #[.int .i64 k, .string s] 34)).alloc (.cells Z8 24) := ⟨_, rfl⟩
  have hX : I8 W2 (w.heap.size + 1) (List.replicate 8 0) := by
    rw [hW2]
    have := I8.new (w.alloc (.cells #[.int .i64 k, .string s] 34)) 24
    rwa [World.size_alloc] at this
  have hB2 : Below w.heap.size w W2 := by rw [hW2]; exact ((Below.refl _ w).alloc (Nat.le_refl _) _).alloc (by simp) _
  have c0 : W2.cell? ⟨w.heap.size, 0, none⟩ = some (.int .i64 k) := by rw [hW2]; simp
  have c1 : W2.cell? ⟨w.heap.size, 1, none⟩ = some (.string s) := by rw [hW2]; simp
  dsimp only [Z8] at hW2
  obtain ⟨e0, e1, e2, e3, e4, e5, e6, e7⟩ := I8.cells (b0 := 0) (b1 := 0) (b2 := 0) (b3 := 0) (b4 := 0) (b5 := 0) (b6 := 0) (b7 := 0) hX
  obtain ⟨f0, f1, f2, f3, f4, f5, f6, f7⟩ := hX.free
  have HB2 : Hid (Below w.heap.size w (set8 W2 (w.heap.size + 1) 0 0 0 0 0 0 0 0)) := below_set8 hB2 (by omega) _ _ _ _ _ _ _ _
  clear hX hB2
  go_enter Tryd.func15, Tryd.ntmps15
  go_wp2_with fail
  rw [← hW2]
  clear hW2
  refine (hisk _).mono ?_
  rintro e u ⟨rfl, hu⟩
  obtain rfl := hu.symm
  clear hu hisk
  go_wp2_with fail
  refine bodyPost_ret (v := .tuple #[.agg #[B 0, B 0, B 0, B 0, B 0, B 0, B 0, B 0], .int .i64 5]) ?_ rfl ⟨rfl, HB2.out⟩
  have hres : Tryd.f15.results = #[.cell 2 24, .tmp 3] := by kernel_rfl
  simp only [results, hres]
  go_simp
  rfl

set_option maxHeartbeats 1000000 in
theorem pid_large (k : Int) (s : ByteArray) (w : World) (hk : kB k = true) (hs : 4096 < s.size) (hs2 : s.size ≤ 9223372036854775807) :
    Calls Tryd.prog 15 #[.agg #[.int .i64 k, .string s]] w fun e w' => e = .returned (.tuple #[.agg ((List.replicate 8 0).map B).toArray, .int .i64 2]) ∧ Below w.heap.size w w' := by
  have hisk := fun W => isKind_any k W
  rw [hk] at hisk
  clear hk
  obtain ⟨W2, hW2⟩ : ∃ W2, W2 = (w.alloc (.cells #[.int .i64 k, .string s] 34)).alloc (.cells Z8 24) := ⟨_, rfl⟩
  have hX : I8 W2 (w.heap.size + 1) (List.replicate 8 0) := by
    rw [hW2]
    have := I8.new (w.alloc (.cells #[.int .i64 k, .string s] 34)) 24
    rwa [World.size_alloc] at this
  have hB2 : Below w.heap.size w W2 := by rw [hW2]; exact ((Below.refl _ w).alloc (Nat.le_refl _) _).alloc (by simp) _
  have c0 : W2.cell? ⟨w.heap.size, 0, none⟩ = some (.int .i64 k) := by rw [hW2]; simp
  have c1 : W2.cell? ⟨w.heap.size, 1, none⟩ = some (.string s) := by rw [hW2]; simp
  dsimp only [Z8] at hW2
  obtain ⟨e0, e1, e2, e3, e4, e5, e6, e7⟩ := I8.cells (b0 := 0) (b1 := 0) (b2 := 0) (b3 := 0) (b4 := 0) (b5 := 0) (b6 := 0) (b7 := 0) hX
  obtain ⟨f0, f1, f2, f3, f4, f5, f6, f7⟩ := hX.free
  have HB2 : Hid (Below w.heap.size w (set8 W2 (w.heap.size + 1) 0 0 0 0 0 0 0 0)) := below_set8 hB2 (by omega) _ _ _ _ _ _ _ _
  clear hX hB2
  go_enter Tryd.func15, Tryd.ntmps15
  go_wp2_with fail
  rw [← hW2]
  clear hW2
  refine (hisk _).mono ?_
  rintro e u ⟨rfl, hu⟩
  obtain rfl := hu.symm
  clear hu hisk
  go_wp2_with fail
  refine bodyPost_ret (v := .tuple #[.agg #[B 0, B 0, B 0, B 0, B 0, B 0, B 0, B 0], .int .i64 2]) ?_ rfl ⟨rfl, HB2.out⟩
  have hres : Tryd.f15.results = #[.cell 2 24, .tmp 3] := by kernel_rfl
  simp only [results, hres]
  go_simp
  rfl

/-- what ID answers -/
theorem pid_any (b : Blb) (w : World) (hb : b.bytes.size ≤ 9223372036854775807) :
    Calls Tryd.prog 15 #[blV b] w fun e w' => e = .returned (.tuple #[.agg ((idOr b).map B).toArray, .int .i64 (Pk.bErr b.p)]) ∧ Below w.heap.size w w' := by
  obtain ⟨k, s⟩ := b
  have hsz : s.data.toList.length = s.size := (Lib.size_eq s).symm
  by_cases hk : kB k = true
  · have hk' : k = 1 ∨ k = 2 ∨ k = 3 := kB_of.1 hk
    by_cases hs : s.size ≤ 4096
    · have he : Pk.bErr (Blb.p ⟨k, s⟩) = 0 := by
        show (if k = 1 ∨ k = 2 ∨ k = 3 then (if 4096 < s.data.toList.length then (2 : Int) else 0) else 5) = 0
        rw [if_pos hk', if_neg (by omega)]
      have hi : idOr ⟨k, s⟩ = Nm.low 8 (Mx.narrow 64 (UInt8.ofNat k.toNat :: s.data.toList)) := by rw [idOr, if_pos he]; rfl
      obtain ⟨b0, b1, b2, b3, b4, b5, b6, b7, hL⟩ := eight _ (idOr_length ⟨k, s⟩)
      obtain ⟨n, rfl⟩ : ∃ n : Nat, k = (n : Int) := ⟨k.toNat, by rcases hk' with rfl | rfl | rfl <;> rfl⟩
      have hn3 : n ≤ 3 := by rcases hk' with h | h | h <;> omega
      rw [he, hL]
      refine pid_of b0 b1 b2 b3 b4 b5 b6 b7 n s w hk hn3 hs fun W => ?_
      have := id_any ⟨(UInt8.ofNat n :: s.data.toList).toArray⟩ W (by rw [Lib.size_eq]; simp only [List.length_cons]; omega)
      rw [show Nm.low 8 (Mx.narrow 64 (⟨(UInt8.ofNat n :: s.data.toList).toArray⟩ : ByteArray).data.toList) = [b0, b1, b2, b3, b4, b5, b6, b7] from by rw [← hL, hi]; rfl] at this
      exact this
    · have he : Pk.bErr (Blb.p ⟨k, s⟩) = 2 := by
        show (if k = 1 ∨ k = 2 ∨ k = 3 then (if 4096 < s.data.toList.length then (2 : Int) else 0) else 5) = 2
        rw [if_pos hk', if_pos (by omega)]
      rw [idOr, if_neg (by omega), he]
      exact pid_large k s w hk (by omega) hb
  · have he : Pk.bErr (Blb.p ⟨k, s⟩) = 5 := by
      show (if k = 1 ∨ k = 2 ∨ k = 3 then (if 4096 < s.data.toList.length then (2 : Int) else 0) else 5) = 5
      rw [if_neg (fun h : k = 1 ∨ k = 2 ∨ k = 3 => hk (kB_of.2 h))]
    rw [idOr, if_neg (by omega), he]
    exact pid_kind k s w (by simpa using hk)

end Go.Proofs.YtimdioacmojkeaaDoor
