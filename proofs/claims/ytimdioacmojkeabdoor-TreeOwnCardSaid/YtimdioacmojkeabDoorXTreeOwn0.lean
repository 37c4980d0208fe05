/-
  Plain facts on digits by 256 (no Go in here): 'dig' the digits of a number, 'val' the number of digits, 'low' the lowest k digits.
  Plain facts (no Go in here): what was put is got, whatever stands behind.
  Plain facts (no Go in here): what was got is put as just those bytes.
  P36 (no Go in it): the characters of a text, and when it is a name.
  P43 to P45 (no Go in it): nodes of a directory, their text, and what is read back.
  P45 (no Go in it): a reader that keeps its first error reads what Td.read says.
  Small facts about bytes, owned rows and strings, over this program.
  The bytes of '[]byte(s)'.
  lumref: what char answers: the character at the front of a text.
  P36: what mayStand and Check of package names answer.
  Rows of one's own that stay while what is made later comes and goes.
  What stays: every block of which something holds.
  Rows of one's own that stay; texts as they lie in memory.
  lumref: what Chars and Name answer.
  Rows of things of k cells each as they lie in memory; an ID.
  Rows of things that themselves have rows: what lies in memory, by a relation; what stays while rows of one type grow.
  Nodes as they lie in memory: rows of things that have rows themselves, in blocks that stay.
  lumref: what nodeErr answers.
  A region that draws its order, whose operations only read (what is read out of memory too) and whose callees leave what was there: one walk, in the order of the text, over the worlds that are as the first one was below a block.
  lumref: what Nodes answers.
  slices.IndexFunc over nodes, by a name.
  A structure of the library's at this program (laid by the guide's own tools, written out in plain words).
  unicode/utf8.ValidString and Check of package names in any world in which unicode/utf8's tables are as they are laid.
  What Check and Find of package tree answer.
  The library's contracts at this program: bits_Len64 (laid by the guide's own tools, written out in plain words).
  What countDigits and appendDigits of package num answer (contracts over the model's calls), and small facts.
  What joinDigits and readDigits of package num answer.
  What Get, GetInt of package num answer.
  What GetInt of package num answers.
  What PutText of package num answers.
  What GetText of package num answers.
  What the reader of package tree answers: numbers, texts, bytes.
  What the reader of package tree answers: IDs.
  What digits of the document's answer (package lumref) answers.
  What number, turned of the document's answer (package lumref) answer.
  What number of the document's answer (package lumref) answers: see RNum.
  Nothing is laid here: this program has none of it.
  What Put and Get of the document's answer (package lumref) answer.
  lumref: what numberAt answers.
  Nothing is laid here: this program has none of it.
  What PutText and GetText of the document's answer (package lumref) answer.
  What turned of the document's answer (package lumref) answers: each byte b as 255 - b.
  What GetInt of the document's answer (package lumref) answers.
  What GetInt of the document's answer (package lumref) answers, at every string.
  lumref: what nodeRead answers.
  lumref: what TreeRead answers.
  What the reader of package tree answers: nodes; what Read answers.
  What Put, PutInt, PutFloat of package num answer.
-/
import Derived.WalkKit
import Derived.Laws.BitsAllLaws
import Derived.Lib.Strings
import Derived.Lib.DecodeN
import Derived.Lib.TrimUEq
import Derived.Lib.MapLaws
import Derived.Test.YtimdioacmojkeabDoorProg
import Derived.WalkSpells
import Derived.WalkLawsBesides
import Derived.Laws.IdiomStrings
import Derived.Below
import Derived.Lib.IndexBytes
import Derived.Lib.ValidU
import Derived.Lib.ValidLaws
import Derived.Laws.RangeAny
import Derived.Shelf.Unicode.DecodeSlow
import Derived.Deep.LoopGhost
import Derived.Laws.AppendOwn
import Derived.BigQuiet
import Derived.Deep.CutBlock
import Derived.Deep.DeepCutAuto
import Derived.Deep.RegionWith
import Derived.Shelf.Unicode.ValidAny
import Derived.Shelf.Strconv.Itoa0
import Derived.Lib.BitFns
import Derived.Lib.LazyBuf
import Derived.Deep.QuietTactic
import Derived.WalkSmall
import Derived.Shelf.Strings.Prefix
import Derived.Shelf.Strings.Replace
import Derived.Lib.ReplaceLaws
import Derived.Deep.RegionLaw
import Derived.Deep.AppendLies
import Derived.Laws.Cover3
import Derived.Lib.SliceRun
import Derived.OwnWalk

namespace Go.Proofs.YtimdioacmojkeabDoor
namespace Nm

def digF : Nat → Nat → List UInt8
  | 0, _ => []
  | f + 1, n => if n = 0 then [] else digF f (n / 256) ++ [UInt8.ofNat (n % 256)]
def dig (n : Nat) : List UInt8 := digF 8 n
def val (l : List UInt8) : Nat := l.foldl (fun a b => 256 * a + b.toNat) 0
def low : Nat → Nat → List UInt8
  | 0, _ => []
  | k + 1, n => UInt8.ofNat (n / 256 ^ k % 256) :: low k n
/-- each byte turned -/
def tn (t : Nat) (l : List UInt8) : List UInt8 := l.map (fun b => b ^^^ UInt8.ofNat t)

theorem val_nil : val [] = 0 := rfl
theorem val_snoc (l : List UInt8) (b : UInt8) : val (l ++ [b]) = 256 * val l + b.toNat := by simp [val, List.foldl_append]
theorem val_from (l : List UInt8) : ∀ a, l.foldl (fun a b => 256 * a + b.toNat) a = a * 256 ^ l.length + val l := by
  induction l with
  | nil => intro a; simp [val]
  | cons b l ih =>
    intro a
    have h := ih (256 * 0 + b.toNat)
    show List.foldl (fun a b => 256 * a + b.toNat) (256 * a + b.toNat) l = a * 256 ^ (l.length + 1) + List.foldl (fun a b => 256 * a + b.toNat) (256 * 0 + b.toNat) l
    rw [ih, h, Nat.pow_succ, Nat.add_mul, Nat.mul_zero, Nat.zero_add]
    rw [show 256 * a * 256 ^ l.length = a * (256 ^ l.length * 256) from by rw [Nat.mul_comm 256 a, Nat.mul_assoc, Nat.mul_comm 256]]
    omega
theorem val_cons (b : UInt8) (l : List UInt8) : val (b :: l) = b.toNat * 256 ^ l.length + val l := by
  have h := val_from l (256 * 0 + b.toNat)
  simp only [val, List.foldl_cons] at h ⊢
  rw [h]; simp
theorem val_lt (l : List UInt8) : val l < 256 ^ l.length := by
  induction l with
  | nil => simp [val]
  | cons b l ih =>
    rw [val_cons, List.length_cons, Nat.pow_succ]
    have hb := b.toNat_lt
    have : b.toNat * 256 ^ l.length ≤ 255 * 256 ^ l.length := Nat.mul_le_mul_right _ (by omega)
    omega
theorem tn_length (t : Nat) (l : List UInt8) : (tn t l).length = l.length := by simp [tn]
theorem tn_zero (l : List UInt8) : tn 0 l = l := by simp [tn]
theorem tn_append (t : Nat) (l m : List UInt8) : tn t (l ++ m) = tn t l ++ tn t m := by simp [tn]
theorem tn_tn (t : Nat) (l : List UInt8) : tn t (tn t l) = l := by
  simp only [tn, List.map_map]
  have : (fun b : UInt8 => b ^^^ UInt8.ofNat t) ∘ (fun b => b ^^^ UInt8.ofNat t) = id := by
    funext b; simp [UInt8.xor_assoc]
  rw [this, List.map_id]
theorem low_length (k n : Nat) : (low k n).length = k := by
  induction k with
  | zero => rfl
  | succ k ih => simp [low, ih]
theorem low_mod (k n m : Nat) (h : k ≤ m) : low k (n % 256 ^ m) = low k n := by
  induction k with
  | zero => rfl
  | succ k ih =>
    rw [low, low, ih (by omega)]
    congr 2
    obtain ⟨d, rfl⟩ : ∃ d, m = (k + 1) + d := ⟨m - (k + 1), by omega⟩
    rw [← Nat.mod_mul_right_div_self, ← Nat.mod_mul_right_div_self (m := n)]
    rw [← Nat.pow_succ, Nat.mod_mod_of_dvd]
    exact Nat.pow_dvd_pow 256 (by omega)
theorem val_low (k n : Nat) : val (low k n) = n % 256 ^ k := by
  induction k with
  | zero => simp [low, val, Nat.mod_one]
  | succ k ih =>
    rw [low, val_cons, low_length, ih, Nat.pow_succ]
    have : (UInt8.ofNat (n / 256 ^ k % 256)).toNat = n / 256 ^ k % 256 := by
      rw [UInt8.toNat_ofNat']; omega
    rw [this, Nat.mod_mul, Nat.mul_comm]
    omega
theorem low_val (l : List UInt8) : low l.length (val l) = l := by
  induction l with
  | nil => rfl
  | cons b l ih =>
    have hl := val_lt l
    have hp : 0 < 256 ^ l.length := Nat.pow_pos (by omega)
    rw [val_cons, List.length_cons, low]
    have e1 : (b.toNat * 256 ^ l.length + val l) / 256 ^ l.length = b.toNat := by
      rw [Nat.add_comm, Nat.add_mul_div_right _ _ hp, Nat.div_eq_of_lt hl]; omega
    have e2 : low l.length (b.toNat * 256 ^ l.length + val l) = l := by
      rw [← low_mod _ _ l.length (Nat.le_refl _), Nat.mul_add_mod_self_right, Nat.mod_eq_of_lt hl, ih]
    rw [e1, e2]
    have hb := b.toNat_lt
    rw [Nat.mod_eq_of_lt (by omega)]
    simp
theorem low_snoc (k n : Nat) : low (k + 1) n = low k (n / 256) ++ [UInt8.ofNat (n % 256)] := by
  induction k with
  | zero => simp [low]
  | succ k ih =>
    rw [low, ih, low, List.cons_append]
    congr 2
    rw [Nat.div_div_eq_div_mul, Nat.pow_succ, Nat.mul_comm]
theorem digF_length_le (f n : Nat) : (digF f n).length ≤ f := by
  induction f generalizing n with
  | zero => simp [digF]
  | succ f ih =>
    rw [digF]; split
    · simp
    · have := ih (n / 256); simp; omega
theorem digF_low (f n : Nat) : digF f n = low (digF f n).length n := by
  induction f generalizing n with
  | zero => rfl
  | succ f ih =>
    rw [digF]; split
    · rfl
    · rw [List.length_append, List.length_singleton, low_snoc, ← ih]
theorem dig_length_le (n : Nat) : (dig n).length ≤ 8 := digF_length_le 8 n
theorem dig_low (n : Nat) : low (dig n).length n = dig n := (digF_low 8 n).symm
theorem digF_lt (f n : Nat) (h : n < 256 ^ f) : n < 256 ^ (digF f n).length := by
  induction f generalizing n with
  | zero => simpa [digF] using h
  | succ f ih =>
    rw [digF]; split
    · subst_vars; simp
    · rw [List.length_append, List.length_singleton, Nat.pow_succ]
      have := ih (n / 256) (by rw [Nat.pow_succ] at h; omega)
      omega
theorem dig_lt (n : Nat) (h : n < 256 ^ 8) : n < 256 ^ (dig n).length := digF_lt 8 n h
theorem val_dig (n : Nat) (h : n < 256 ^ 8) : val (dig n) = n := by
  rw [← dig_low, val_low, Nat.mod_eq_of_lt (dig_lt n h)]
/-- there are no noughts ahead -/
theorem digF_ge (f n : Nat) (hn : n ≠ 0) (hf : f ≠ 0) : 256 ^ ((digF f n).length - 1) ≤ n ∧ (digF f n).length ≠ 0 := by
  induction f generalizing n with
  | zero => exact absurd rfl hf
  | succ f ih =>
    rw [digF, if_neg hn, List.length_append, List.length_singleton, Nat.add_sub_cancel]
    refine ⟨?_, by omega⟩
    by_cases hf0 : f = 0
    · subst hf0; simp [digF]; omega
    · by_cases h0 : n / 256 = 0
      · rw [h0]
        have : digF f 0 = [] := by cases f <;> simp [digF]
        rw [this]; simp; omega
      · have ⟨h1, h2⟩ := ih (n / 256) h0 hf0
        obtain ⟨m, hm⟩ : ∃ m, (digF f (n / 256)).length = m + 1 := ⟨_, (Nat.succ_pred_eq_of_ne_zero h2).symm⟩
        rw [hm, Nat.add_sub_cancel] at h1
        rw [hm, Nat.pow_succ]; omega
theorem dig_ge (n : Nat) (hn : n ≠ 0) : 256 ^ ((dig n).length - 1) ≤ n ∧ (dig n).length ≠ 0 := digF_ge 8 n hn (by omega)
theorem dig_zero : dig 0 = [] := rfl
/-- k digits without a nought ahead are the digits of their number -/
theorem dig_unique (k n : Nat) (h8 : k ≤ 8) (h1 : n < 256 ^ k) (h2 : k = 0 ∨ 256 ^ (k - 1) ≤ n) : (dig n).length = k := by
  by_cases hn : n = 0
  · subst hn
    rcases h2 with rfl | h2
    · rfl
    · have : 0 < 256 ^ (k - 1) := Nat.pow_pos (by omega)
      omega
  · have ⟨g1, g2⟩ := dig_ge n hn
    have g3 := dig_lt n (Nat.lt_of_lt_of_le h1 (Nat.pow_le_pow_right (by omega) h8))
    have a1 : (dig n).length - 1 < k := (Nat.pow_lt_pow_iff_right (a := 256) (by omega)).1 (Nat.lt_of_le_of_lt g1 h1)
    rcases h2 with rfl | h2
    · simp at h1; omega
    · have a2 : k - 1 < (dig n).length := (Nat.pow_lt_pow_iff_right (a := 256) (by omega)).1 (Nat.lt_of_le_of_lt h2 g3)
      omega
theorem dig_val (l : List UInt8) (h8 : l.length ≤ 8) (h : l = [] ∨ l.headD 0 ≠ 0) : dig (val l) = l := by
  have hk : (dig (val l)).length = l.length := by
    refine dig_unique _ _ h8 (val_lt l) ?_
    rcases h with rfl | h
    · exact .inl rfl
    · cases l with
      | nil => exact .inl rfl
      | cons b l =>
        right
        simp at h
        have hb : b.toNat ≠ 0 := by
          intro e; exact h (UInt8.toNat_inj.1 (by simpa using e))
        rw [val_cons, List.length_cons, Nat.add_sub_cancel]
        have : 1 * 256 ^ l.length ≤ b.toNat * 256 ^ l.length := Nat.mul_le_mul_right _ (by omega)
        omega
  rw [← dig_low, hk, low_val]
theorem dig_head (n : Nat) (hn : n ≠ 0) (h : n < 256 ^ 8) : (dig n).headD 0 ≠ 0 := by
  have ⟨g1, g2⟩ := dig_ge n hn
  intro e
  cases hd : dig n with
  | nil => simp [hd] at g2
  | cons b l =>
    rw [hd] at e g1
    simp at e g1
    have hv := val_dig n h
    rw [hd, val_cons, e] at hv
    have := val_lt l
    simp at hv
    omega
def put (n : Nat) : List UInt8 := UInt8.ofNat (dig n).length :: dig n
theorem put_length (n : Nat) : (put n).length ≤ 9 := by have := dig_length_le n; simp [put]; omega
/-- what k digits at the front say: the number, and what is wrong -/
def readN (l : List UInt8) (k t : Nat) : Nat × Int :=
  if 8 < k then (0, 4) else if l.length < k then (0, 3) else if 0 < k ∧ l.headD 0 ^^^ UInt8.ofNat t = 0 then (0, 4) else (val (tn t (l.take k)), 0)
/-- what Get says: the number, how many bytes, what is wrong -/
def getN (l : List UInt8) : Nat × Nat × Int :=
  if l = [] then (0, 0, 3) else
    let r := readN l.tail (l.headD 0).toNat 0
    if r.2 = 0 then (r.1, 1 + (l.headD 0).toNat, 0) else (0, 0, r.2)
def putI (n : Int) : List UInt8 :=
  if n < 0 then UInt8.ofNat (127 - (dig (-1 - n).toNat).length) :: tn 255 (dig (-1 - n).toNat) else UInt8.ofNat (128 + (dig n.toNat).length) :: dig n.toNat
/-- what GetInt says -/
def getI (l : List UInt8) : Int × Nat × Int :=
  if l = [] then (0, 0, 3) else
    if 128 ≤ (l.headD 0).toNat then
      let r := readN l.tail ((l.headD 0).toNat - 128) 0
      if r.2 = 0 then if 9223372036854775807 < r.1 then (0, 0, 4) else ((r.1 : Int), 1 + ((l.headD 0).toNat - 128), 0) else (0, 0, r.2)
    else
      let r := readN l.tail (127 - (l.headD 0).toNat) 255
      if r.2 = 0 then if 9223372036854775807 < r.1 then (0, 0, 4) else (-1 - (r.1 : Int), 1 + (127 - (l.headD 0).toNat), 0) else (0, 0, r.2)
theorem low_add (j k n : Nat) : low (j + k) n = low j (n / 256 ^ k) ++ low k n := by
  induction j with
  | zero => simp [low]
  | succ j ih =>
    rw [show j + 1 + k = (j + k) + 1 from by omega, low, ih, low, List.cons_append, Nat.div_div_eq_div_mul, ← Nat.pow_add, Nat.add_comm k j]
theorem low_nought (j : Nat) : low j 0 = List.replicate j 0 := by
  induction j with
  | zero => rfl
  | succ j ih => rw [low, ih, List.replicate_succ]; simp
/-- noughts ahead of the digits -/
theorem low_pad (n : Nat) (h : n < 256 ^ 8) : List.replicate (8 - (dig n).length) 0 ++ dig n = low 8 n := by
  have hl := dig_length_le n
  have h1 := low_add (8 - (dig n).length) (dig n).length n
  rw [show 8 - (dig n).length + (dig n).length = 8 from by omega, Nat.div_eq_of_lt (dig_lt n h), low_nought, dig_low] at h1
  exact h1.symm
theorem not_byte (b : UInt8) : (b ^^^ UInt8.ofNat 255).toNat = 255 - b.toNat := by
  have key : ∀ n : Fin 256, ((UInt8.ofNat n.val) ^^^ UInt8.ofNat 255).toNat = 255 - n.val := by decide +kernel
  have := key ⟨b.toNat, b.toNat_lt⟩
  simpa using this
theorem val_not (l : List UInt8) : val (tn 255 l) + val l + 1 = 256 ^ l.length := by
  induction l with
  | nil => simp [tn, val]
  | cons b l ih =>
    rw [show tn 255 (b :: l) = (b ^^^ UInt8.ofNat 255) :: tn 255 l from rfl, val_cons, val_cons, tn_length, not_byte, List.length_cons, Nat.pow_succ]
    have hb := b.toNat_lt
    generalize 256 ^ l.length = P at *
    generalize b.toNat = x at *
    have : (255 - x) * P + x * P = 255 * P := by rw [← Nat.add_mul]; congr 1; omega
    omega
theorem low_not (b : Nat) (h : b < 18446744073709551616) : tn 255 (low 8 b) = low 8 (18446744073709551615 - b) := by
  have h1 := val_not (low 8 b)
  rw [val_low, low_length, Nat.mod_eq_of_lt (by omega)] at h1
  have h2 := low_val (tn 255 (low 8 b))
  rw [tn_length, low_length] at h2
  rw [← h2]
  congr 1
  omega
/-- are the bits a NaN's -/
def nanB (b : Nat) : Bool := decide (9218868437227405312 < b % 9223372036854775808)
/-- the bits, one NaN for all -/
def oneNaN (b : Nat) : Nat := if nanB b then 9221120237041090561 else b
/-- the bits turned so that they keep their order -/
def flip (b : Nat) : Nat := if b < 9223372036854775808 then b + 9223372036854775808 else 18446744073709551615 - b
def putF (b : Nat) : List UInt8 := low 8 (flip (oneNaN b))
/-- and back -/
def unflip (n : Nat) : Nat := if n < 9223372036854775808 then 18446744073709551615 - n else n - 9223372036854775808
/-- what GetFloat says: the bits, how many bytes, what is wrong -/
def getF (l : List UInt8) : Nat × Nat × Int :=
  if l.length < 8 then (0, 0, 3) else
    if nanB (unflip (val (l.take 8))) = true ∧ unflip (val (l.take 8)) ≠ 9221120237041090561 then (0, 0, 4) else (unflip (val (l.take 8)), 8, 0)
/-- a text's bytes, behind each 0 a 255 -/
def esc : List UInt8 → List UInt8
  | [] => []
  | b :: l => (if b = 0 then [0, 255] else [b]) ++ esc l
theorem esc_append (l m : List UInt8) : esc (l ++ m) = esc l ++ esc m := by
  induction l with
  | nil => rfl
  | cons b l ih => rw [List.cons_append, esc, esc, ih, List.append_assoc]
theorem esc_length (l : List UInt8) : (esc l).length ≤ 2 * l.length := by
  induction l with
  | nil => simp [esc]
  | cons b l ih => rw [esc, List.length_append, List.length_cons]; split <;> simp <;> omega
theorem esc_zero (l : List UInt8) : esc (l ++ [0]) = esc l ++ [0] ++ [255] := by rw [esc_append]; simp [esc]
theorem esc_other (l : List UInt8) (b : UInt8) (h : b ≠ 0) : esc (l ++ [b]) = esc l ++ [b] := by rw [esc_append]; simp [esc, h]
def putT (l : List UInt8) : List UInt8 := esc l ++ [0, 0]
/-- what GetText says of the bytes l, when acc was read and p bytes lie ahead: the text, how many bytes, what is wrong -/
def scanT : List UInt8 → List UInt8 → Nat → List UInt8 × Nat × Int
  | [], _, _ => ([], 0, 3)
  | [b], acc, _ => if b = 0 then ([], 0, 3) else if acc.length = 1024 then ([], 0, 2) else ([], 0, 3)
  | b :: d :: r, acc, p =>
    if b = 0 then
      if d = 0 then (acc, p + 2, 0) else if d = 255 then (if acc.length = 1024 then ([], 0, 2) else scanT r (acc ++ [0]) (p + 2)) else ([], 0, 4)
    else if acc.length = 1024 then ([], 0, 2) else scanT (d :: r) (acc ++ [b]) (p + 1)
def getT (l : List UInt8) : List UInt8 × Nat × Int := scanT l [] 0
theorem scan_full (b : UInt8) (r acc : List UInt8) (p : Nat) (h : b ≠ 0) (ha : acc.length = 1024) : scanT (b :: r) acc p = ([], 0, 2) := by
  cases r <;> rw [scanT, if_neg h, if_pos ha]
theorem scan_byte (b : UInt8) (r acc : List UInt8) (p : Nat) (h : b ≠ 0) (ha : acc.length ≠ 1024) : scanT (b :: r) acc p = scanT r (acc ++ [b]) (p + 1) := by
  cases r with
  | nil =>
    have h1 : scanT [b] acc p = ([], 0, 3) := by rw [scanT, if_neg h, if_neg ha]
    rw [h1]; rfl
  | cons d r => rw [scanT, if_neg h, if_neg ha]
theorem scan_end (acc : List UInt8) (p : Nat) : scanT [0] acc p = ([], 0, 3) := by rw [scanT, if_pos rfl]
theorem scan_zeros (r acc : List UInt8) (p : Nat) : scanT (0 :: 0 :: r) acc p = (acc, p + 2, 0) := by rw [scanT, if_pos rfl, if_pos rfl]
theorem scan_bad (d : UInt8) (r acc : List UInt8) (p : Nat) (h0 : d ≠ 0) (h1 : d ≠ 255) : scanT (0 :: d :: r) acc p = ([], 0, 4) := by rw [scanT, if_pos rfl, if_neg h0, if_neg h1]
theorem scan_esc_full (r acc : List UInt8) (p : Nat) (ha : acc.length = 1024) : scanT (0 :: 255 :: r) acc p = ([], 0, 2) := by rw [scanT, if_pos rfl, if_neg (by decide), if_pos rfl, if_pos ha]
theorem scan_esc (r acc : List UInt8) (p : Nat) (ha : acc.length ≠ 1024) : scanT (0 :: 255 :: r) acc p = scanT r (acc ++ [0]) (p + 2) := by rw [scanT, if_pos rfl, if_neg (by decide), if_pos rfl, if_neg ha]
end Nm
end Go.Proofs.YtimdioacmojkeabDoor

namespace Go.Proofs.YtimdioacmojkeabDoor
namespace Nm

theorem head_tn (t : Nat) (l m : List UInt8) (h : l ≠ []) : (tn t l ++ m).headD 0 ^^^ UInt8.ofNat t = l.headD 0 := by
  cases l with
  | nil => exact absurd rfl h
  | cons b l => simp [tn, UInt8.xor_assoc]
theorem read_dig (n t : Nat) (m : List UInt8) (h : n < 256 ^ 8) : readN (tn t (dig n) ++ m) (dig n).length t = (n, 0) := by
  have hl := dig_length_le n
  have e : (tn t (dig n) ++ m).take (dig n).length = tn t (dig n) := by
    rw [List.take_append_of_le_length (by rw [tn_length]; exact Nat.le_refl _), List.take_of_length_le (by rw [tn_length]; exact Nat.le_refl _)]
  rw [readN, if_neg (by omega), if_neg (by rw [List.length_append, tn_length]; omega), if_neg ?_, e, tn_tn, val_dig n h]
  rintro ⟨h1, h2⟩
  have hne : dig n ≠ [] := by intro e; rw [e] at h1; simp at h1
  rw [head_tn t _ m hne] at h2
  have hn : n ≠ 0 := by intro e; subst e; exact hne rfl
  exact dig_head n hn h h2
theorem get_put (n : Nat) (m : List UInt8) (h : n < 256 ^ 8) : getN (put n ++ m) = (n, (put n).length, 0) := by
  have hl := dig_length_le n
  have hr := read_dig n 0 m h
  rw [tn_zero] at hr
  have hc : (UInt8.ofNat (dig n).length).toNat = (dig n).length := by rw [UInt8.toNat_ofNat']; omega
  rw [getN, if_neg (by simp [put])]
  simp only [put, List.cons_append, List.headD_cons, List.tail_cons, hc, hr]
  simp [Nat.add_comm]
theorem getI_putI (i : Int) (m : List UInt8) (h0 : -9223372036854775808 ≤ i) (h1 : i ≤ 9223372036854775807) : getI (putI i ++ m) = (i, (putI i).length, 0) := by
  by_cases hi : i < 0
  · have hl := dig_length_le (-1 - i).toNat
    have hr := read_dig (-1 - i).toNat 255 m (by omega)
    have hc : (UInt8.ofNat (127 - (dig (-1 - i).toNat).length)).toNat = 127 - (dig (-1 - i).toNat).length := by rw [UInt8.toNat_ofNat']; omega
    have hk : 127 - (127 - (dig (-1 - i).toNat).length) = (dig (-1 - i).toNat).length := by omega
    rw [putI, if_pos hi, getI, if_neg (by simp)]
    simp only [List.cons_append, List.headD_cons, List.tail_cons, hc, hk, hr]
    rw [if_neg (by omega), if_pos trivial, if_neg (by omega), List.length_cons, tn_length]
    simp only [Prod.mk.injEq]
    exact ⟨by omega, by omega, trivial⟩
  · have hl := dig_length_le i.toNat
    have hr := read_dig i.toNat 0 m (by omega)
    rw [tn_zero] at hr
    have hc : (UInt8.ofNat (128 + (dig i.toNat).length)).toNat = 128 + (dig i.toNat).length := by rw [UInt8.toNat_ofNat']; omega
    have hk : 128 + (dig i.toNat).length - 128 = (dig i.toNat).length := by omega
    rw [putI, if_neg hi, getI, if_neg (by simp)]
    simp only [List.cons_append, List.headD_cons, List.tail_cons, hc, hk, hr]
    rw [if_pos (by omega), if_pos trivial, if_neg (by omega), List.length_cons]
    simp only [Prod.mk.injEq]
    exact ⟨by omega, by omega, trivial⟩
theorem putI_length (i : Int) : (putI i).length ≤ 9 := by
  unfold putI
  split
  · have := dig_length_le (-1 - i).toNat; rw [List.length_cons, tn_length]; omega
  · have := dig_length_le i.toNat; rw [List.length_cons]; omega
theorem oneNaN_lt (b : Nat) (h : b < 18446744073709551616) : oneNaN b < 18446744073709551616 := by
  unfold oneNaN; split <;> omega
theorem flip_lt (c : Nat) (h : c < 18446744073709551616) : flip c < 18446744073709551616 := by
  unfold flip; split <;> omega
theorem unflip_flip (c : Nat) (h : c < 18446744073709551616) : unflip (flip c) = c := by
  unfold flip
  split
  · rw [unflip, if_neg (by omega)]; omega
  · rw [unflip, if_pos (by omega)]; omega
theorem putF_length (b : Nat) : (putF b).length = 8 := low_length 8 _
theorem getF_putF (b : Nat) (m : List UInt8) (h : b < 18446744073709551616) : getF (putF b ++ m) = (oneNaN b, 8, 0) := by
  have hf := flip_lt _ (oneNaN_lt b h)
  have e : (putF b ++ m).take 8 = putF b := by
    rw [List.take_append_of_le_length (by rw [putF_length]; exact Nat.le_refl _), List.take_of_length_le (by rw [putF_length]; exact Nat.le_refl _)]
  have hv : val (putF b) = flip (oneNaN b) := by rw [putF, val_low, Nat.mod_eq_of_lt (by omega)]
  rw [getF, if_neg (by rw [List.length_append, putF_length]; omega), e, hv, unflip_flip _ (oneNaN_lt b h), if_neg ?_]
  rintro ⟨h1, h2⟩
  cases hn : nanB b
  · rw [oneNaN, if_neg (by rw [hn]; decide), hn] at h1
    cases h1
  · rw [oneNaN, if_pos hn] at h2
    exact h2 rfl
theorem scan_putT (l : List UInt8) : ∀ (acc m : List UInt8) (p : Nat), acc.length + l.length ≤ 1024 → scanT (esc l ++ ([0, 0] ++ m)) acc p = (acc ++ l, p + (esc l).length + 2, 0) := by
  induction l with
  | nil => intro acc m p h; rw [show esc [] ++ ([0, 0] ++ m) = 0 :: 0 :: m from rfl, scan_zeros]; simp [esc]
  | cons b l ih =>
    intro acc m p h
    rw [List.length_cons] at h
    by_cases hb : b = 0
    · subst hb
      rw [show esc (0 :: l) ++ ([0, 0] ++ m) = 0 :: 255 :: (esc l ++ ([0, 0] ++ m)) from rfl, scan_esc _ _ _ (by omega), ih _ _ _ (by simp; omega)]
      simp [esc]; omega
    · rw [show esc (b :: l) ++ ([0, 0] ++ m) = b :: (esc l ++ ([0, 0] ++ m)) from by simp [esc, hb], scan_byte _ _ _ _ hb (by omega), ih _ _ _ (by simp; omega)]
      simp [esc, hb]; omega
theorem putT_length (l : List UInt8) : (putT l).length ≤ 2 * l.length + 2 := by
  have := esc_length l
  rw [putT, List.length_append]; simp; omega
theorem getT_putT (l m : List UInt8) (h : l.length ≤ 1024) : getT (putT l ++ m) = (l, (putT l).length, 0) := by
  have h1 := scan_putT l [] m 0 (by simpa using h)
  rw [getT, putT, List.append_assoc, h1]
  simp
end Nm
end Go.Proofs.YtimdioacmojkeabDoor

namespace Go.Proofs.YtimdioacmojkeabDoor
namespace Nm

theorem read_some {l : List UInt8} {k t n : Nat} (h : readN l k t = (n, 0)) : k ≤ 8 ∧ k ≤ l.length ∧ n < 256 ^ 8 ∧ tn t (dig n) = l.take k ∧ (dig n).length = k := by
  unfold readN at h
  split at h
  · cases h
  split at h
  · cases h
  split at h
  · cases h
  rename_i h8 hl hd
  obtain ⟨rfl, _⟩ := Prod.mk.inj h
  have hlen : (l.take k).length = k := by rw [List.length_take]; omega
  have hv := val_lt (tn t (l.take k))
  rw [tn_length, hlen] at hv
  have hp : 256 ^ k ≤ 256 ^ 8 := Nat.pow_le_pow_right (by omega) (by omega)
  have hdv : dig (val (tn t (l.take k))) = tn t (l.take k) := by
    refine dig_val _ (by rw [tn_length, hlen]; omega) ?_
    by_cases hk : k = 0
    · left; subst hk; rfl
    · right
      intro e
      apply hd
      refine ⟨by omega, ?_⟩
      cases l with
      | nil => simp at hl; omega
      | cons b l =>
        cases k with
        | zero => exact absurd rfl hk
        | succ k => simpa [tn] using e
  exact ⟨by omega, by omega, by omega, by rw [hdv, tn_tn], by rw [hdv, tn_length, hlen]⟩
theorem cons_of {l : List UInt8} (h : l ≠ []) : ∃ b r, l = b :: r := by
  cases l with
  | nil => exact absurd rfl h
  | cons b r => exact ⟨b, r, rfl⟩
theorem getN_cons (b : UInt8) (r : List UInt8) : getN (b :: r) = if (readN r b.toNat 0).2 = 0 then ((readN r b.toNat 0).1, 1 + b.toNat, (0 : Int)) else ((0 : Nat), (0 : Nat), (readN r b.toNat 0).2) := by
  rw [getN, if_neg (by simp)]; rfl
theorem getI_hi (b : UInt8) (r : List UInt8) (h : 128 ≤ b.toNat) : getI (b :: r) = if (readN r (b.toNat - 128) 0).2 = 0 then (if 9223372036854775807 < (readN r (b.toNat - 128) 0).1 then ((0 : Int), (0 : Nat), (4 : Int)) else (((readN r (b.toNat - 128) 0).1 : Int), 1 + (b.toNat - 128), (0 : Int))) else ((0 : Int), (0 : Nat), (readN r (b.toNat - 128) 0).2) := by
  rw [getI, if_neg (by simp), if_pos (show 128 ≤ ((b :: r).headD 0).toNat from h)]; rfl
theorem getI_lo (b : UInt8) (r : List UInt8) (h : ¬ 128 ≤ b.toNat) : getI (b :: r) = if (readN r (127 - b.toNat) 255).2 = 0 then (if 9223372036854775807 < (readN r (127 - b.toNat) 255).1 then ((0 : Int), (0 : Nat), (4 : Int)) else (-1 - ((readN r (127 - b.toNat) 255).1 : Int), 1 + (127 - b.toNat), (0 : Int))) else ((0 : Int), (0 : Nat), (readN r (127 - b.toNat) 255).2) := by
  rw [getI, if_neg (by simp), if_neg (show ¬ 128 ≤ ((b :: r).headD 0).toNat from h)]; rfl
theorem get_one {l : List UInt8} {n k : Nat} (h : getN l = (n, k, 0)) : k ≤ l.length ∧ n < 256 ^ 8 ∧ put n = l.take k := by
  have hne : l ≠ [] := by intro e; subst e; cases h
  obtain ⟨b, r, rfl⟩ := cons_of hne
  rw [getN_cons] at h
  generalize hr : readN r b.toNat 0 = x at h
  obtain ⟨x1, x2⟩ := x
  simp only at h
  split at h
  · rename_i h0
    subst h0
    obtain ⟨rfl, h2⟩ := Prod.mk.inj h
    obtain ⟨rfl, _⟩ := Prod.mk.inj h2
    obtain ⟨g1, g2, g3, g4, g5⟩ := read_some hr
    rw [tn_zero] at g4
    refine ⟨by rw [List.length_cons]; omega, g3, ?_⟩
    rw [put, Nat.add_comm 1, List.take_succ_cons, ← g4, g5]
    simp
  · rename_i h0
    obtain ⟨_, h2⟩ := Prod.mk.inj h
    obtain ⟨_, h3⟩ := Prod.mk.inj h2
    exact absurd h3 h0
theorem getI_one {l : List UInt8} {n : Int} {k : Nat} (h : getI l = (n, k, 0)) : k ≤ l.length ∧ -9223372036854775808 ≤ n ∧ n ≤ 9223372036854775807 ∧ putI n = l.take k := by
  have hne : l ≠ [] := by intro e; subst e; cases h
  obtain ⟨b, r, rfl⟩ := cons_of hne
  have hb := b.toNat_lt
  by_cases hc : 128 ≤ b.toNat
  · rw [getI_hi b r hc] at h
    generalize hr : readN r (b.toNat - 128) 0 = x at h
    obtain ⟨x1, x2⟩ := x
    simp only at h
    split at h
    · rename_i h0
      subst h0
      split at h
      · cases h
      rename_i hm
      obtain ⟨rfl, h2⟩ := Prod.mk.inj h
      obtain ⟨rfl, _⟩ := Prod.mk.inj h2
      obtain ⟨g1, g2, g3, g4, g5⟩ := read_some hr
      rw [tn_zero] at g4
      refine ⟨by rw [List.length_cons]; omega, by omega, by omega, ?_⟩
      rw [putI, if_neg (by omega), Int.toNat_natCast, Nat.add_comm 1, List.take_succ_cons, ← g4, g5, show 128 + (b.toNat - 128) = b.toNat from by omega]
      simp
    · rename_i h0
      obtain ⟨_, h2⟩ := Prod.mk.inj h
      obtain ⟨_, h3⟩ := Prod.mk.inj h2
      exact absurd h3 h0
  · rw [getI_lo b r hc] at h
    generalize hr : readN r (127 - b.toNat) 255 = x at h
    obtain ⟨x1, x2⟩ := x
    simp only at h
    split at h
    · rename_i h0
      subst h0
      split at h
      · cases h
      rename_i hm
      obtain ⟨rfl, h2⟩ := Prod.mk.inj h
      obtain ⟨rfl, _⟩ := Prod.mk.inj h2
      obtain ⟨g1, g2, g3, g4, g5⟩ := read_some hr
      refine ⟨by rw [List.length_cons]; omega, by omega, by omega, ?_⟩
      rw [putI, if_pos (by omega), show (-1 - (-1 - (x1 : Int))).toNat = x1 from by omega, Nat.add_comm 1, List.take_succ_cons, ← g4, g5, show 127 - (127 - b.toNat) = b.toNat from by omega]
      simp
    · rename_i h0
      obtain ⟨_, h2⟩ := Prod.mk.inj h
      obtain ⟨_, h3⟩ := Prod.mk.inj h2
      exact absurd h3 h0
theorem flip_unflip (n : Nat) (h : n < 18446744073709551616) : flip (unflip n) = n := by
  unfold unflip
  split
  · rw [flip, if_neg (by omega)]; omega
  · rw [flip, if_pos (by omega)]; omega
theorem getF_one {l : List UInt8} {b k : Nat} (h : getF l = (b, k, 0)) : k = 8 ∧ k ≤ l.length ∧ b < 18446744073709551616 ∧ putF b = l.take k := by
  unfold getF at h
  split at h
  · cases h
  rename_i hl
  split at h
  · cases h
  rename_i hn
  obtain ⟨rfl, h2⟩ := Prod.mk.inj h
  obtain ⟨rfl, _⟩ := Prod.mk.inj h2
  have hlen : (l.take 8).length = 8 := by rw [List.length_take]; omega
  have hv := val_lt (l.take 8)
  rw [hlen] at hv
  have hone : oneNaN (unflip (val (l.take 8))) = unflip (val (l.take 8)) := by
    unfold oneNaN
    split
    · rename_i h1
      by_cases he : unflip (val (l.take 8)) = 9221120237041090561
      · exact he.symm
      · exact absurd ⟨h1, he⟩ hn
    · rfl
  refine ⟨rfl, by omega, ?_, ?_⟩
  · unfold unflip; split <;> omega
  · rw [putF, hone, flip_unflip _ (by omega)]
    have := low_val (l.take 8)
    rw [hlen] at this
    exact this
theorem scan_one : ∀ (n : Nat) (l acc : List UInt8) (p : Nat) (t : List UInt8) (k : Nat), l.length ≤ n → acc.length ≤ 1024 → scanT l acc p = (t, k, 0) →
    ∃ u, t = acc ++ u ∧ t.length ≤ 1024 ∧ k = p + (putT u).length ∧ (putT u).length ≤ l.length ∧ putT u = l.take (putT u).length := by
  intro n
  induction n with
  | zero =>
    intro l acc p t k hl _ h
    have : l = [] := List.length_eq_zero_iff.1 (by omega)
    subst this
    cases h
  | succ n ih =>
    intro l acc p t k hl ha h
    cases l with
    | nil => cases h
    | cons b r =>
      rw [List.length_cons] at hl
      by_cases hb : b = 0
      · subst hb
        cases r with
        | nil => rw [scan_end] at h; cases h
        | cons d r =>
          rw [List.length_cons] at hl
          by_cases hd0 : d = 0
          · subst hd0
            rw [scan_zeros] at h
            obtain ⟨rfl, h2⟩ := Prod.mk.inj h
            obtain ⟨rfl, _⟩ := Prod.mk.inj h2
            exact ⟨[], by simp, ha, rfl, by simp [putT, esc], rfl⟩
          · by_cases hd1 : d = 255
            · subst hd1
              by_cases hf : acc.length = 1024
              · rw [scan_esc_full _ _ _ hf] at h; cases h
              · rw [scan_esc _ _ _ hf] at h
                obtain ⟨u, g1, g2, g3, g4, g5⟩ := ih r _ _ _ _ (by omega) (by simp; omega) h
                refine ⟨0 :: u, by rw [g1]; simp, g2, ?_, ?_, ?_⟩
                · rw [g3]; simp [putT, esc]; omega
                · have e : (putT (0 :: u)).length = (putT u).length + 2 := by simp [putT, esc]
                  rw [e, List.length_cons, List.length_cons]; omega
                · have e : putT (0 :: u) = 0 :: 255 :: putT u := rfl
                  rw [e, List.length_cons, List.length_cons, List.take_succ_cons, List.take_succ_cons, ← g5]
            · rw [scan_bad _ _ _ _ hd0 hd1] at h; cases h
      · by_cases hf : acc.length = 1024
        · rw [scan_full _ _ _ _ hb hf] at h; cases h
        · rw [scan_byte _ _ _ _ hb hf] at h
          obtain ⟨u, g1, g2, g3, g4, g5⟩ := ih r _ _ _ _ (by omega) (by simp; omega) h
          have e : putT (b :: u) = b :: putT u := by simp [putT, esc, hb]
          refine ⟨b :: u, by rw [g1]; simp, g2, ?_, ?_, ?_⟩
          · rw [g3, e, List.length_cons]; omega
          · rw [e, List.length_cons, List.length_cons]; omega
          · rw [e, List.length_cons, List.take_succ_cons, ← g5]
theorem getT_one {l t : List UInt8} {k : Nat} (h : getT l = (t, k, 0)) : k ≤ l.length ∧ t.length ≤ 1024 ∧ putT t = l.take k := by
  obtain ⟨u, g1, g2, g3, g4, g5⟩ := scan_one l.length l [] 0 t k (Nat.le_refl _) (by simp) h
  rw [List.nil_append] at g1
  subst g1
  rw [Nat.zero_add] at g3
  subst g3
  exact ⟨g4, g2, g5⟩
theorem scan_err : ∀ (n : Nat) (l acc : List UInt8) (p : Nat), l.length ≤ n → (scanT l acc p).2.2 = 0 ∨ (scanT l acc p).1 = [] := by
  intro n
  induction n with
  | zero =>
    intro l acc p hl
    have : l = [] := List.length_eq_zero_iff.1 (by omega)
    subst this
    right; rfl
  | succ n ih =>
    intro l acc p hl
    cases l with
    | nil => right; rfl
    | cons b r =>
      rw [List.length_cons] at hl
      by_cases hb : b = 0
      · subst hb
        cases r with
        | nil => rw [scan_end]; right; rfl
        | cons d r =>
          rw [List.length_cons] at hl
          by_cases hd0 : d = 0
          · subst hd0; rw [scan_zeros]; left; rfl
          · by_cases hd1 : d = 255
            · subst hd1
              by_cases hf : acc.length = 1024
              · rw [scan_esc_full _ _ _ hf]; right; rfl
              · rw [scan_esc _ _ _ hf]; exact ih _ _ _ (by omega)
            · rw [scan_bad _ _ _ _ hd0 hd1]; right; rfl
      · by_cases hf : acc.length = 1024
        · rw [scan_full _ _ _ _ hb hf]; right; rfl
        · rw [scan_byte _ _ _ _ hb hf]; exact ih _ _ _ (by omega)
theorem getT_err (l : List UInt8) (h : (getT l).2.2 ≠ 0) : (getT l).1 = [] := (scan_err l.length l [] 0 (Nat.le_refl _)).resolve_left h
end Nm
end Go.Proofs.YtimdioacmojkeabDoor

namespace Go.Proofs.YtimdioacmojkeabDoor
namespace Nn
open Go.Lib

/-- how a character ends, by its least number and its bytes -/
def fin (low c n : Nat) : Nat × Nat := if c < low ∨ 1114111 < c ∨ (55296 ≤ c ∧ c < 57344) then (0, 0) else (c, n)
/-- a character by the ranges of its bytes; 0 bytes: none -/
def chrR (n b0 b1 b2 b3 : Nat) : Nat × Nat :=
  if b0 < 128 then (b0, 1)
  else if 194 ≤ b0 ∧ b0 < 224 then
    (if n < 2 ∨ (b1 < 128 ∨ 191 < b1) then (0, 0) else fin 128 (64 * (b0 - 192) + b1 - 128) 2)
  else if 224 ≤ b0 ∧ b0 < 240 then
    (if n < 3 ∨ (b1 < 128 ∨ 191 < b1) ∨ (b2 < 128 ∨ 191 < b2) then (0, 0) else fin 2048 (64 * (64 * (b0 - 224) + b1 - 128) + b2 - 128) 3)
  else if 240 ≤ b0 ∧ b0 < 245 then
    (if n < 4 ∨ (b1 < 128 ∨ 191 < b1) ∨ (b2 < 128 ∨ 191 < b2) ∨ (b3 < 128 ∨ 191 < b3) then (0, 0) else fin 65536 (64 * (64 * (64 * (b0 - 240) + b1 - 128) + b2 - 128) + b3 - 128) 4)
  else (0, 0)
theorem chr_two (n b0 b1 b2 b3 : Nat) (h1 : b1 < 256) (hb : 194 ≤ b0 ∧ b0 < 224) : chrR n b0 b1 b2 b3 = if decodeN n b0 b1 b2 b3 = (65533, 1) then (0, 0) else decodeN n b0 b1 b2 b3 := by
  unfold chrR decodeN
  rw [if_neg (by omega), if_pos hb, if_neg (show ¬ b0 < 128 by omega)]
  by_cases c : n < 2 ∨ (b1 < 128 ∨ 191 < b1)
  · rw [if_pos c, if_neg (show ¬ (b0 / 32 = 6 ∧ (1 < n ∧ b1 / 64 = 2)) by omega), if_neg (show ¬ (b0 / 16 = 14 ∧ (1 < n ∧ b1 / 64 = 2) ∧ (2 < n ∧ b2 / 64 = 2)) by omega), if_neg (show ¬ (b0 / 8 = 30 ∧ (1 < n ∧ b1 / 64 = 2) ∧ (2 < n ∧ b2 / 64 = 2) ∧ (3 < n ∧ b3 / 64 = 2)) by omega), if_pos rfl]
  · rw [if_neg c, if_pos (show b0 / 32 = 6 ∧ (1 < n ∧ b1 / 64 = 2) by omega), if_pos (show b0 % 32 * 64 + b1 % 64 ≥ 128 by omega), if_neg (by simp only [Prod.mk.injEq]; omega), fin, if_neg (by omega)]
    simp only [Prod.mk.injEq, and_true]
    omega
theorem chr_three (n b0 b1 b2 b3 : Nat) (h1 : b1 < 256) (h2 : b2 < 256) (hb : 224 ≤ b0 ∧ b0 < 240) : chrR n b0 b1 b2 b3 = if decodeN n b0 b1 b2 b3 = (65533, 1) then (0, 0) else decodeN n b0 b1 b2 b3 := by
  unfold chrR decodeN
  rw [if_neg (by omega), if_neg (by omega), if_pos hb, if_neg (show ¬ b0 < 128 by omega), if_neg (show ¬ (b0 / 32 = 6 ∧ (1 < n ∧ b1 / 64 = 2)) by omega)]
  by_cases c : n < 3 ∨ (b1 < 128 ∨ 191 < b1) ∨ (b2 < 128 ∨ 191 < b2)
  · rw [if_pos c, if_neg (show ¬ (b0 / 16 = 14 ∧ (1 < n ∧ b1 / 64 = 2) ∧ (2 < n ∧ b2 / 64 = 2)) by omega), if_neg (show ¬ (b0 / 8 = 30 ∧ (1 < n ∧ b1 / 64 = 2) ∧ (2 < n ∧ b2 / 64 = 2) ∧ (3 < n ∧ b3 / 64 = 2)) by omega), if_pos rfl]
  · rw [if_neg c, if_pos (show b0 / 16 = 14 ∧ (1 < n ∧ b1 / 64 = 2) ∧ (2 < n ∧ b2 / 64 = 2) by omega)]
    have e : 64 * (64 * (b0 - 224) + b1 - 128) + b2 - 128 = b0 % 16 * 4096 + b1 % 64 * 64 + b2 % 64 := by omega
    rw [e]
    generalize b0 % 16 * 4096 + b1 % 64 * 64 + b2 % 64 = v
    unfold fin
    by_cases d : v ≥ 2048 ∧ (v < 55296 ∨ (57344 ≤ v ∧ v ≤ 1114111))
    · rw [if_pos d, if_neg (by omega), if_neg (by simp only [Prod.mk.injEq]; omega)]
    · rw [if_neg d, if_pos (by omega), if_pos rfl]
theorem chr_four (n b0 b1 b2 b3 : Nat) (h1 : b1 < 256) (h2 : b2 < 256) (h3 : b3 < 256) (hb : 240 ≤ b0 ∧ b0 < 245) : chrR n b0 b1 b2 b3 = if decodeN n b0 b1 b2 b3 = (65533, 1) then (0, 0) else decodeN n b0 b1 b2 b3 := by
  unfold chrR decodeN
  rw [if_neg (by omega), if_neg (by omega), if_neg (by omega), if_pos hb, if_neg (show ¬ b0 < 128 by omega), if_neg (show ¬ (b0 / 32 = 6 ∧ (1 < n ∧ b1 / 64 = 2)) by omega), if_neg (show ¬ (b0 / 16 = 14 ∧ (1 < n ∧ b1 / 64 = 2) ∧ (2 < n ∧ b2 / 64 = 2)) by omega)]
  by_cases c : n < 4 ∨ (b1 < 128 ∨ 191 < b1) ∨ (b2 < 128 ∨ 191 < b2) ∨ (b3 < 128 ∨ 191 < b3)
  · rw [if_pos c, if_neg (show ¬ (b0 / 8 = 30 ∧ (1 < n ∧ b1 / 64 = 2) ∧ (2 < n ∧ b2 / 64 = 2) ∧ (3 < n ∧ b3 / 64 = 2)) by omega), if_pos rfl]
  · rw [if_neg c, if_pos (show b0 / 8 = 30 ∧ (1 < n ∧ b1 / 64 = 2) ∧ (2 < n ∧ b2 / 64 = 2) ∧ (3 < n ∧ b3 / 64 = 2) by omega)]
    have e : 64 * (64 * (64 * (b0 - 240) + b1 - 128) + b2 - 128) + b3 - 128 = b0 % 8 * 262144 + b1 % 64 * 4096 + b2 % 64 * 64 + b3 % 64 := by omega
    rw [e]
    generalize b0 % 8 * 262144 + b1 % 64 * 4096 + b2 % 64 * 64 + b3 % 64 = v
    unfold fin
    by_cases d : v ≥ 65536 ∧ (v < 55296 ∨ (57344 ≤ v ∧ v ≤ 1114111))
    · rw [if_pos d, if_neg (by omega), if_neg (by simp only [Prod.mk.injEq]; omega)]
    · rw [if_neg d, if_pos (by omega), if_pos rfl]
theorem chrR_dec (n b0 b1 b2 b3 : Nat) (h0 : b0 < 256) (h1 : b1 < 256) (h2 : b2 < 256) (h3 : b3 < 256) :
    chrR n b0 b1 b2 b3 = if decodeN n b0 b1 b2 b3 = (65533, 1) then (0, 0) else decodeN n b0 b1 b2 b3 := by
  by_cases c1 : b0 < 128
  · have e : decodeN n b0 b1 b2 b3 = (b0, 1) := by unfold decodeN; rw [if_pos c1]
    rw [e, if_neg (by simp only [Prod.mk.injEq]; omega)]
    unfold chrR; rw [if_pos c1]
  by_cases c2 : 194 ≤ b0 ∧ b0 < 224
  · exact chr_two n b0 b1 b2 b3 h1 c2
  by_cases c3 : 224 ≤ b0 ∧ b0 < 240
  · exact chr_three n b0 b1 b2 b3 h1 h2 c3
  by_cases c4 : 240 ≤ b0 ∧ b0 < 245
  · exact chr_four n b0 b1 b2 b3 h1 h2 h3 c4
  have e : decodeN n b0 b1 b2 b3 = (65533, 1) := by
    unfold decodeN
    rw [if_neg c1]
    by_cases d : b0 / 32 = 6 ∧ (1 < n ∧ b1 / 64 = 2)
    · rw [if_pos d, if_neg (by omega)]
    · rw [if_neg d, if_neg (by omega)]
      by_cases f : b0 / 8 = 30 ∧ (1 < n ∧ b1 / 64 = 2) ∧ (2 < n ∧ b2 / 64 = 2) ∧ (3 < n ∧ b3 / 64 = 2)
      · rw [if_pos f, if_neg (by omega)]
      · rw [if_neg f]
  rw [e, if_pos rfl]
  unfold chrR
  rw [if_neg c1, if_neg c2, if_neg c3, if_neg c4]
/-- the character at the front of a text -/
def chr (l : List UInt8) : Nat × Nat := if l = [] then (0, 0) else if decodeL l = (65533, 1) then (0, 0) else decodeL l
theorem chr_R (l : List UInt8) (h : l ≠ []) : chr l = chrR l.length (l.getD 0 0).toNat (l.getD 1 0).toNat (l.getD 2 0).toNat (l.getD 3 0).toNat := by
  rw [chr, if_neg h, chrR_dec _ _ _ _ _ (UInt8.toNat_lt _) (UInt8.toNat_lt _) (UInt8.toNat_lt _) (UInt8.toNat_lt _), ← decodeL_N]
theorem chr_le (l : List UInt8) : (chr l).2 ≤ l.length := by
  unfold chr
  split
  · exact Nat.zero_le _
  · rename_i h
    split
    · exact Nat.zero_le _
    · exact decodeL_le l h
theorem chr_ascii (b : UInt8) (l : List UInt8) (h : b.toNat < 128) : chr (b :: l) = (b.toNat, 1) := by
  rw [chr_R _ (by simp), chrR, if_pos (by simpa using h)]
  simp
theorem fin_two {low c n : Nat} (h : (fin low c n).2 ≠ 0) : fin low c n = (c, n) := by
  unfold fin at h ⊢
  split
  · rename_i q; rw [if_pos q] at h; exact absurd rfl h
  · rfl
theorem chrR_bytes {n b0 b1 b2 b3 : Nat} (hn : (chrR n b0 b1 b2 b3).2 ≠ 0) : (b0 < 128 ∧ chrR n b0 b1 b2 b3 = (b0, 1)) ∨ ((chrR n b0 b1 b2 b3).2 = 2 ∧ 128 ≤ b0 ∧ 128 ≤ b1) ∨
    ((chrR n b0 b1 b2 b3).2 = 3 ∧ 128 ≤ b0 ∧ 128 ≤ b1 ∧ 128 ≤ b2) ∨ ((chrR n b0 b1 b2 b3).2 = 4 ∧ 128 ≤ b0 ∧ 128 ≤ b1 ∧ 128 ≤ b2 ∧ 128 ≤ b3) := by
  unfold chrR at hn ⊢
  by_cases c1 : b0 < 128
  · rw [if_pos c1]; exact .inl ⟨c1, rfl⟩
  rw [if_neg c1] at hn ⊢
  right
  by_cases c2 : 194 ≤ b0 ∧ b0 < 224
  · rw [if_pos c2] at hn ⊢
    by_cases d : n < 2 ∨ (b1 < 128 ∨ 191 < b1)
    · rw [if_pos d] at hn; exact absurd rfl hn
    · rw [if_neg d] at hn ⊢
      rw [fin_two hn]
      exact .inl ⟨rfl, by omega, by omega⟩
  rw [if_neg c2] at hn ⊢
  by_cases c3 : 224 ≤ b0 ∧ b0 < 240
  · rw [if_pos c3] at hn ⊢
    by_cases d : n < 3 ∨ (b1 < 128 ∨ 191 < b1) ∨ (b2 < 128 ∨ 191 < b2)
    · rw [if_pos d] at hn; exact absurd rfl hn
    · rw [if_neg d] at hn ⊢
      rw [fin_two hn]
      exact .inr (.inl ⟨rfl, by omega, by omega, by omega⟩)
  rw [if_neg c3] at hn ⊢
  by_cases c4 : 240 ≤ b0 ∧ b0 < 245
  · rw [if_pos c4] at hn ⊢
    by_cases d : n < 4 ∨ (b1 < 128 ∨ 191 < b1) ∨ (b2 < 128 ∨ 191 < b2) ∨ (b3 < 128 ∨ 191 < b3)
    · rw [if_pos d] at hn; exact absurd rfl hn
    · rw [if_neg d] at hn ⊢
      rw [fin_two hn]
      exact .inr (.inr ⟨rfl, by omega, by omega, by omega, by omega⟩)
  rw [if_neg c4] at hn
  exact absurd rfl hn
/-- a character of one byte is that byte; of all others each byte is 128 or more -/
theorem chr_bytes (l : List UInt8) (h : l ≠ []) (hn : (chr l).2 ≠ 0) : ((chr l).2 = 1 ∧ (chr l).1 = (l.getD 0 0).toNat ∧ (l.getD 0 0).toNat < 128) ∨ (2 ≤ (chr l).2 ∧ ∀ j, j < (chr l).2 → 128 ≤ (l.getD j 0).toNat) := by
  have hr := chr_R l h
  rw [hr] at hn ⊢
  rcases chrR_bytes hn with ⟨h1, e⟩ | ⟨e, h1, h2⟩ | ⟨e, h1, h2, h3⟩ | ⟨e, h1, h2, h3, h4⟩
  · rw [e]; exact .inl ⟨rfl, rfl, h1⟩
  · refine .inr ⟨by omega, fun j hj => ?_⟩
    rw [e] at hj
    match j, hj with
    | 0, _ => exact h1
    | 1, _ => exact h2
  · refine .inr ⟨by omega, fun j hj => ?_⟩
    rw [e] at hj
    match j, hj with
    | 0, _ => exact h1
    | 1, _ => exact h2
    | 2, _ => exact h3
  · refine .inr ⟨by omega, fun j hj => ?_⟩
    rw [e] at hj
    match j, hj with
    | 0, _ => exact h1
    | 1, _ => exact h2
    | 2, _ => exact h3
    | 3, _ => exact h4
/-- the characters of a text; none: it is not UTF-8 -/
def charsF : Nat → List UInt8 → Option (List Nat)
  | 0, l => if l = [] then some [] else none
  | k + 1, l => if l = [] then some [] else if (chr l).2 = 0 then none else (charsF k (l.drop (chr l).2)).map ((chr l).1 :: ·)
def chars (l : List UInt8) : Option (List Nat) := charsF l.length l
theorem charsF_more : ∀ (k m : Nat) (l : List UInt8), l.length ≤ k → l.length ≤ m → charsF k l = charsF m l
  | k, m, [], _, _ => by cases k <;> cases m <;> simp [charsF]
  | 0, _, b :: l, h, _ => by simp at h
  | _, 0, b :: l, _, h => by simp at h
  | k + 1, m + 1, b :: l, h1, h2 => by
    have q : ¬ (b :: l = []) := by simp
    by_cases c : (chr (b :: l)).2 = 0
    · simp only [charsF, if_neg q, if_pos c]
    · simp only [charsF, if_neg q, if_neg c]
      congr 1
      have hd : ((b :: l).drop (chr (b :: l)).2).length ≤ l.length := by rw [List.length_drop, List.length_cons]; omega
      simp only [List.length_cons] at h1 h2
      exact charsF_more k m _ (by omega) (by omega)
theorem chars_nil : chars [] = some [] := rfl
theorem chars_step (l : List UInt8) (h : l ≠ []) : chars l = if (chr l).2 = 0 then none else (chars (l.drop (chr l).2)).map ((chr l).1 :: ·) := by
  obtain ⟨b, r, rfl⟩ : ∃ b r, l = b :: r := by
    cases l with
    | nil => exact absurd rfl h
    | cons b r => exact ⟨b, r, rfl⟩
  rw [chars, List.length_cons, charsF, if_neg (by simp)]
  by_cases c : (chr (b :: r)).2 = 0
  · rw [if_pos c, if_pos c]
  · rw [if_neg c, if_neg c]
    congr 1
    refine charsF_more _ _ _ ?_ (Nat.le_refl _)
    rw [List.length_drop, List.length_cons]
    omega
theorem chars_ind {p : List UInt8 → Prop} (h0 : p []) (hs : ∀ l, l ≠ [] → ((chr l).2 ≠ 0 → p (l.drop (chr l).2)) → p l) (l : List UInt8) : p l := by
  have key : ∀ (k : Nat) (l : List UInt8), l.length ≤ k → p l := by
    intro k
    induction k with
    | zero => intro l hl; rw [List.length_eq_zero_iff.1 (Nat.le_zero.1 hl)]; exact h0
    | succ k ih =>
      intro l hl
      by_cases e : l = []
      · rw [e]; exact h0
      · exact hs l e fun hn => ih _ (by rw [List.length_drop]; have := List.length_pos_iff.2 e; omega)
  exact key _ l (Nat.le_refl _)
/-- a byte below 128 is a character -/
theorem chars_byte (b : UInt8) (hb : b.toNat < 128) : ∀ (l : List UInt8) (cs : List Nat), chars l = some cs → b ∈ l → b.toNat ∈ cs := by
  intro l
  induction l using chars_ind with
  | h0 => intro cs _ h; simp at h
  | hs l hne ih =>
    intro cs hc hm
    rw [chars_step l hne] at hc
    by_cases c : (chr l).2 = 0
    · rw [if_pos c] at hc; cases hc
    rw [if_neg c] at hc
    obtain ⟨ds, hd, rfl⟩ := Option.map_eq_some_iff.1 hc
    rw [← List.take_append_drop (chr l).2 l] at hm
    rcases List.mem_append.1 hm with hm | hm
    · obtain ⟨j, hj, e⟩ := List.getElem_of_mem hm
      rw [List.length_take] at hj
      rw [List.getElem_take] at e
      have hg : l.getD j 0 = b := by rw [List.getD_eq_getElem?_getD, List.getElem?_eq_getElem (by omega), e]; rfl
      rcases chr_bytes l hne c with ⟨h1, h2, _⟩ | ⟨_, h2⟩
      · obtain rfl : j = 0 := by omega
        rw [hg] at h2
        rw [h2]; exact List.mem_cons_self
      · have := h2 j (by omega)
        rw [hg] at this
        omega
    · exact List.mem_cons_of_mem _ (ih c ds hd hm)
theorem chars_empty (l : List UInt8) : chars l = some [] ↔ l = [] := by
  constructor
  · intro h
    by_cases e : l = []
    · exact e
    · rw [chars_step l e] at h
      split at h
      · cases h
      · obtain ⟨_, _, q⟩ := Option.map_eq_some_iff.1 h
        cases q
  · rintro rfl; rfl
/-- P36 -/
def nm (s : List UInt8) : Int :=
  match chars s with
  | none => 8
  | some l => if l = [] ∨ s = [46] ∨ s = [46, 46] then 8 else if l.any (fun c => decide (c = 47 ∨ c < 32 ∨ c = 127)) then 8 else if 24 < l.length then 2 else 0
theorem nm_ok {s : List UInt8} (h : nm s = 0) : s ≠ [] ∧ s ≠ [46] ∧ s ≠ [46, 46] ∧ (47 : UInt8) ∉ s := by
  unfold nm at h
  cases hc : chars s with
  | none => rw [hc] at h; simp at h
  | some l =>
    rw [hc] at h
    dsimp only at h
    split at h
    · simp at h
    rename_i q
    split at h
    · simp at h
    rename_i r
    simp only [not_or] at q
    refine ⟨fun e => q.1 (Option.some.inj (hc.symm.trans ((chars_empty s).2 e))), q.2.1, q.2.2, fun hm => ?_⟩
    have := chars_byte 47 (by decide) s l hc hm
    exact r (List.any_eq_true.2 ⟨47, this, by simp⟩)
theorem fin_le {low c n : Nat} (hn : n ≤ 4) : (fin low c n).2 ≤ 4 := by
  unfold fin; split
  · exact Nat.zero_le _
  · exact hn
theorem chrR_four (n b0 b1 b2 b3 : Nat) : (chrR n b0 b1 b2 b3).2 ≤ 4 := by
  unfold chrR
  repeat' split
  all_goals first | exact fin_le (by omega) | simp
theorem chr_four_le (l : List UInt8) : (chr l).2 ≤ 4 := by
  by_cases h : l = []
  · subst h; decide
  · rw [chr_R l h]; exact chrR_four ..
theorem chars_long (l : List UInt8) : ∀ cs, chars l = some cs → l.length ≤ 4 * cs.length := by
  induction l using chars_ind with
  | h0 => intro cs _; simp
  | hs l hne ih =>
    intro cs h
    rw [chars_step l hne] at h
    split at h
    · cases h
    rename_i hz
    obtain ⟨r, h2, rfl⟩ := Option.map_eq_some_iff.1 h
    have := ih hz r h2
    have h4 := chr_four_le l
    rw [List.length_drop] at this
    simp only [List.length_cons]
    omega
theorem nm_long {s : List UInt8} (h : nm s = 0) : s.length ≤ 96 := by
  unfold nm at h
  cases hc : chars s with
  | none => rw [hc] at h; simp at h
  | some l =>
    rw [hc] at h
    dsimp only at h
    split at h
    · simp at h
    split at h
    · simp at h
    split at h
    · simp at h
    have := chars_long s l hc
    omega
end Nn
end Go.Proofs.YtimdioacmojkeabDoor

namespace Go.Proofs.YtimdioacmojkeabDoor
namespace Td

abbrev Bs := List UInt8
/-- a node: its parts are IDs of eight bytes each -/
structure Nd where
  name : Bs
  kind : Int
  mode : Int
  time : Int
  size : Int
  parts : List Bs
  link : Bs
/-- the error of one node -/
def nErr (n : Nd) : Int :=
  if Nn.nm n.name ≠ 0 then Nn.nm n.name
  else if n.mode < 0 ∨ 511 < n.mode ∨ n.size < 0 ∨ 4096 < n.size ∨ 300 < n.parts.length then 1
  else if n.kind < 1 ∨ 3 < n.kind then 5
  else if (n.kind = 1 ∧ n.link ≠ []) ∨ (1 < n.kind ∧ n.size ≠ 0) ∨ (n.kind = 2 ∧ (n.parts.length ≠ 1 ∨ n.link ≠ [])) ∨ (n.kind = 3 ∧ (n.parts.length ≠ 0 ∨ n.link = [])) then 4
  else if 1024 < n.link.length then 2 else 0
theorem nErr_ok {n : Nd} (h : nErr n = 0) : Nn.nm n.name = 0 ∧ 0 ≤ n.mode ∧ n.mode ≤ 511 ∧ 0 ≤ n.size ∧ n.size ≤ 4096 ∧ n.parts.length ≤ 300 ∧ 1 ≤ n.kind ∧ n.kind ≤ 3 ∧ n.link.length ≤ 1024 := by
  unfold nErr at h
  split at h
  · rename_i q; exact absurd h q
  · rename_i q0
    split at h
    · cases h
    · rename_i q1
      split at h
      · cases h
      · rename_i q2
        split at h
        · cases h
        · split at h
          · cases h
          · rename_i q4
            have := Decidable.not_not.mp q0
            exact ⟨this, by omega, by omega, by omega, by omega, by omega, by omega, by omega, by omega⟩
/-- a name that is not above the one ahead -/
def low (p : Option Bs) (s : Bs) : Bool := match p with | none => false | some b => !Op.bytesLess b s
/-- node by node: the first error -/
def ckB : Option Bs → List Nd → Int
  | _, [] => 0
  | p, n :: l => if nErr n ≠ 0 then nErr n else if low p n.name = true then 4 else ckB (some n.name) l
def check (l : List Nd) : Int := if 64 < l.length then 2 else ckB none l
theorem ckB_each : ∀ {l : List Nd} {p : Option Bs}, ckB p l = 0 → ∀ n ∈ l, nErr n = 0
  | [], _, _, n, hn => absurd hn List.not_mem_nil
  | m :: l, p, h, n, hn => by
    rw [ckB] at h
    split at h
    · rename_i q; exact absurd h q
    · rename_i q
      split at h
      · cases h
      · rcases List.mem_cons.1 hn with e | hn
        · rw [e]; exact Decidable.not_not.mp q
        · exact ckB_each h n hn
theorem check_ok {l : List Nd} (h : check l = 0) : l.length ≤ 64 ∧ ∀ n ∈ l, nErr n = 0 := by
  unfold check at h
  split at h
  · cases h
  · exact ⟨by omega, ckB_each h⟩
/-- where a name stands -/
def find (l : List Nd) (s : Bs) : Nat × Int :=
  if check l ≠ 0 then (0, check l) else match l.findIdx? (fun n => n.name == s) with
  | none => (0, 9)
  | some k => (k, 0)
/-- a node as bytes -/
def rowT (n : Nd) : Bs := Nm.putT n.name ++ (UInt8.ofNat n.kind.toNat :: (Nm.put n.mode.toNat ++ (Nm.putI n.time ++ (Nm.put n.size.toNat ++ (Nm.put n.parts.length ++ (n.parts.flatten ++ Nm.putT n.link))))))
def rowsT (l : List Nd) : Bs := (l.map rowT).flatten
def textB (l : List Nd) : Bs := Nm.put l.length ++ rowsT l
/-- what Write says -/
def write (l : List Nd) : Bs × Int := if check l ≠ 0 then ([], check l) else if 4096 < (textB l).length then ([], 2) else (textB l, 0)
/-- a number that may not be above -/
def num (most : Nat) (s : Bs) : Nat × Bs × Int :=
  let g := Nm.getN s
  if g.2.2 ≠ 0 then (0, [], g.2.2) else if most < g.1 then (0, [], 2) else (g.1, s.drop g.2.1, 0)
/-- a text cut into eights -/
def eights : Nat → Bs → List Bs
  | 0, _ => []
  | k + 1, s => s.take 8 :: eights k (s.drop 8)
def nd0 : Nd := ⟨[], 0, 0, 0, 0, [], []⟩
/-- one node, and what is behind it -/
def rdOne (s : Bs) : Nd × Bs × Int :=
  let t := Nm.getT s
  if t.2.2 ≠ 0 then (nd0, [], t.2.2) else
  let s1 := s.drop t.2.1
  if s1 = [] then (nd0, [], 3) else
  let m := num 511 s1.tail
  if m.2.2 ≠ 0 then (nd0, [], m.2.2) else
  let i := Nm.getI m.2.1
  if i.2.2 ≠ 0 then (nd0, [], i.2.2) else
  let z := num 4096 (m.2.1.drop i.2.1)
  if z.2.2 ≠ 0 then (nd0, [], z.2.2) else
  let p := num 300 z.2.1
  if p.2.2 ≠ 0 then (nd0, [], p.2.2) else
  if p.2.1.length < 8 * p.1 then (nd0, [], 3) else
  let k := Nm.getT (p.2.1.drop (8 * p.1))
  if k.2.2 ≠ 0 then (nd0, [], k.2.2) else
  (⟨t.1, (s1.headD 0).toNat, m.1, i.1, z.1, eights p.1 p.2.1, k.1⟩, (p.2.1.drop (8 * p.1)).drop k.2.1, 0)
/-- so many nodes -/
def rdAll : Nat → Bs → List Nd → List Nd × Int
  | 0, s, out => if s ≠ [] then ([], 4) else if check out ≠ 0 then ([], check out) else (out, 0)
  | m + 1, s, out => let r := rdOne s; if r.2.2 ≠ 0 then ([], r.2.2) else rdAll m r.2.1 (out ++ [r.1])
/-- what Read says -/
def read (s : Bs) : List Nd × Int :=
  if 4096 < s.length then ([], 2) else
  let g := num 64 s
  if g.2.2 ≠ 0 then ([], g.2.2) else rdAll g.1 g.2.1 []
/-- a node as a machine has it: a time of 64 bits, IDs of eight bytes -/
structure Wn (n : Nd) : Prop where
  lo : -9223372036854775808 ≤ n.time
  hi : n.time ≤ 9223372036854775807
  ids : ∀ p ∈ n.parts, p.length = 8

theorem num_put {most n : Nat} (hm : most < 256 ^ 8) (h : n ≤ most) (m : Bs) : num most (Nm.put n ++ m) = (n, m, 0) := by
  unfold num
  rw [Nm.get_put n m (by omega)]
  simp only [ne_eq, not_true, if_false, List.drop_left]
  rw [if_neg (by omega)]
theorem num_one {most : Nat} {s : Bs} {n : Nat} {r : Bs} (h : num most s = (n, r, 0)) : n ≤ most ∧ Nm.put n ++ r = s := by
  unfold num at h
  rcases hg : Nm.getN s with ⟨a, k, e⟩
  rw [hg] at h
  simp only at h
  split at h
  · rename_i hn; exact absurd (congrArg (fun q => q.2.2) h) hn
  · rename_i h0
    split at h
    · exact absurd (congrArg (fun q => q.2.2) h) (by simp)
    · obtain rfl : a = n := congrArg (fun q => q.1) h
      obtain rfl : s.drop k = r := congrArg (fun q => q.2.1) h
      obtain ⟨_, _, e1⟩ := Nm.get_one (hg.trans (by rw [Decidable.not_not.mp h0]))
      exact ⟨by omega, by rw [e1, List.take_append_drop]⟩
theorem flat8 : ∀ {l : List Bs}, (∀ p ∈ l, p.length = 8) → l.flatten.length = 8 * l.length
  | [], _ => rfl
  | p :: l, h => by
    rw [List.flatten_cons, List.length_append, h p List.mem_cons_self, flat8 fun q hq => h q (List.mem_cons_of_mem _ hq), List.length_cons]
    omega
theorem eights_flat : ∀ {l : List Bs} (m : Bs), (∀ p ∈ l, p.length = 8) → eights l.length (l.flatten ++ m) = l
  | [], _, _ => rfl
  | p :: l, m, h => by
    have h8 := h p List.mem_cons_self
    rw [List.length_cons, eights, List.flatten_cons, List.append_assoc, ← h8, List.take_left, List.drop_left, eights_flat m fun q hq => h q (List.mem_cons_of_mem _ hq)]
theorem flat_eights : ∀ {k : Nat} {s : Bs}, 8 * k ≤ s.length → (eights k s).flatten = s.take (8 * k) ∧ (eights k s).length = k ∧ ∀ p ∈ eights k s, p.length = 8
  | 0, s, _ => by simp [eights]
  | k + 1, s, h => by
    have h1 : 8 * k ≤ (s.drop 8).length := by rw [List.length_drop]; omega
    obtain ⟨a, b, c⟩ := flat_eights h1
    refine ⟨?_, by rw [eights, List.length_cons, b], fun p hp => ?_⟩
    · rw [eights, List.flatten_cons, a, show 8 * (k + 1) = 8 + 8 * k from by omega, List.take_add]
    · rw [eights] at hp
      rcases List.mem_cons.1 hp with e | hp
      · rw [e, List.length_take]; omega
      · exact c p hp
theorem rdOne_row {n : Nd} (hw : Wn n) (h : nErr n = 0) (m : Bs) : rdOne (rowT n ++ m) = (n, m, 0) := by
  obtain ⟨hn, m0, m1, z0, z1, hp, k0, k1, hl⟩ := nErr_ok h
  have hnl : n.name.length ≤ 1024 := by have := Nn.nm_long hn; omega
  have e0 : rowT n ++ m = Nm.putT n.name ++ (UInt8.ofNat n.kind.toNat :: (Nm.put n.mode.toNat ++ (Nm.putI n.time ++ (Nm.put n.size.toNat ++ (Nm.put n.parts.length ++ (n.parts.flatten ++ (Nm.putT n.link ++ m))))))) := by
    unfold rowT
    simp only [List.append_assoc, List.cons_append]
  unfold rdOne
  rw [e0, Nm.getT_putT _ _ hnl]
  have n0 : ¬ ((0 : Int) ≠ 0) := fun k => k rfl
  have hf := flat8 hw.ids
  have hlt : ¬ (n.parts.flatten ++ (Nm.putT n.link ++ m)).length < n.parts.flatten.length := by rw [List.length_append]; omega
  simp only [if_neg n0, List.drop_left, List.tail_cons, num_put (show 511 < 256 ^ 8 by decide) (show n.mode.toNat ≤ 511 by omega), Nm.getI_putI _ _ hw.lo hw.hi,
    num_put (show 4096 < 256 ^ 8 by decide) (show n.size.toNat ≤ 4096 by omega), num_put (show 300 < 256 ^ 8 by decide) hp, reduceCtorEq, if_false, List.headD_cons, ← hf, if_neg hlt, eights_flat _ hw.ids, Nm.getT_putT _ _ hl]
  have kb : ((UInt8.ofNat n.kind.toNat).toNat : Int) = n.kind := by
    rw [UInt8.toNat_ofNat']; omega
  rw [kb, Int.toNat_of_nonneg m0, Int.toNat_of_nonneg z0]
theorem rdOne_one {s r : Bs} {n : Nd} (h : rdOne s = (n, r, 0)) : Wn n ∧ rowT n ++ r = s := by
  unfold rdOne at h
  rcases ht : Nm.getT s with ⟨t, kt, et⟩
  rw [ht] at h
  simp only at h
  split at h
  · rename_i q; exact absurd (congrArg (fun q => q.2.2) h) q
  rename_i q1
  split at h
  · exact absurd (congrArg (fun q => q.2.2) h) (by simp)
  rename_i q2
  rcases hm : num 511 (s.drop kt).tail with ⟨m, s2, em⟩
  rw [hm] at h
  simp only at h
  split at h
  · rename_i q; exact absurd (congrArg (fun q => q.2.2) h) q
  rename_i q3
  rcases hi : Nm.getI s2 with ⟨i, ki, ei⟩
  rw [hi] at h
  simp only at h
  split at h
  · rename_i q; exact absurd (congrArg (fun q => q.2.2) h) q
  rename_i q4
  rcases hz : num 4096 (s2.drop ki) with ⟨z, s3, ez⟩
  rw [hz] at h
  simp only at h
  split at h
  · rename_i q; exact absurd (congrArg (fun q => q.2.2) h) q
  rename_i q5
  rcases hp : num 300 s3 with ⟨p, s4, ep⟩
  rw [hp] at h
  simp only at h
  split at h
  · rename_i q; exact absurd (congrArg (fun q => q.2.2) h) q
  rename_i q6
  split at h
  · exact absurd (congrArg (fun q => q.2.2) h) (by simp)
  rename_i q7
  rcases hk : Nm.getT (s4.drop (8 * p)) with ⟨k, kk, ek⟩
  rw [hk] at h
  simp only at h
  split at h
  · rename_i q; exact absurd (congrArg (fun q => q.2.2) h) q
  rename_i q8
  obtain ⟨_, _, et1⟩ := Nm.getT_one (ht.trans (by rw [Decidable.not_not.mp q1]))
  obtain ⟨_, em1⟩ := num_one (hm.trans (by rw [Decidable.not_not.mp q3]))
  obtain ⟨_, ei1, ei2, ei3⟩ := Nm.getI_one (hi.trans (by rw [Decidable.not_not.mp q4]))
  obtain ⟨_, ez1⟩ := num_one (hz.trans (by rw [Decidable.not_not.mp q5]))
  obtain ⟨_, ep1⟩ := num_one (hp.trans (by rw [Decidable.not_not.mp q6]))
  obtain ⟨_, _, ek1⟩ := Nm.getT_one (hk.trans (by rw [Decidable.not_not.mp q8]))
  obtain ⟨f1, f2, f3⟩ := flat_eights (k := p) (s := s4) (by omega)
  obtain rfl : (s4.drop (8 * p)).drop kk = r := congrArg (fun q => q.2.1) h
  have hn : (⟨t, ((s.drop kt).headD 0).toNat, m, i, z, eights p s4, k⟩ : Nd) = n := congrArg (fun q => q.1) h
  subst hn
  refine ⟨⟨ei1, ei2, f3⟩, ?_⟩
  unfold rowT
  simp only [Int.toNat_natCast, UInt8.ofNat_toNat, List.append_assoc, List.cons_append, f1, f2, ek1, List.take_append_drop, ep1, ez1, ei3, em1, et1]
  have : (s.drop kt).headD 0 :: (s.drop kt).tail = s.drop kt := by
    cases hq : s.drop kt with
    | nil => exact absurd hq q2
    | cons a b => rfl
  rw [this, List.take_append_drop]
theorem rdAll_rows {x : List Nd} : ∀ {out : List Nd}, (∀ n ∈ x, Wn n) → check (out ++ x) = 0 → rdAll x.length (rowsT x) out = (out ++ x, 0) := by
  induction x with
  | nil =>
    intro out _ h
    rw [List.append_nil] at h ⊢
    rw [List.length_nil, rdAll, if_neg (fun k => k rfl), if_neg (fun k => k h)]
  | cons p x ih =>
    intro out hi h
    have hp : nErr p = 0 := (check_ok h).2 p (List.mem_append_right _ List.mem_cons_self)
    have e : rowsT (p :: x) = rowT p ++ rowsT x := rfl
    rw [List.length_cons, rdAll, e, rdOne_row (hi p List.mem_cons_self) hp]
    simp only [ne_eq, not_true, if_false]
    have e2 : out ++ p :: x = (out ++ [p]) ++ x := by rw [List.append_assoc]; rfl
    rw [e2] at h ⊢
    exact ih (fun q hq => hi q (List.mem_cons_of_mem _ hq)) h
/-- nodes are read as they were written -/
theorem read_write {x : List Nd} {s : Bs} (hi : ∀ n ∈ x, Wn n) (h : write x = (s, 0)) : read s = (x, 0) := by
  unfold write at h
  split at h
  · rename_i q; exact absurd (congrArg (fun q => q.2) h) q
  rename_i q
  have hc := Decidable.not_not.mp q
  split at h
  · exact absurd (congrArg (fun q => q.2) h) (by simp)
  rename_i q2
  obtain rfl : textB x = s := congrArg (fun q => q.1) h
  have hl := (check_ok hc).1
  unfold read
  rw [if_neg q2]
  unfold textB
  rw [num_put (by decide) hl]
  simp only [ne_eq, not_true, if_false]
  exact rdAll_rows hi hc
theorem rdAll_one : ∀ {m : Nat} {s : Bs} {out x : List Nd}, (∀ n ∈ out, Wn n) → rdAll m s out = (x, 0) → ∃ y, x = out ++ y ∧ y.length = m ∧ rowsT y = s ∧ (∀ n ∈ x, Wn n) ∧ check x = 0
  | 0, s, out, x, hi, h => by
    rw [rdAll] at h
    split at h
    · exact absurd (congrArg (fun q => q.2) h) (by simp)
    · rename_i hs
      split at h
      · rename_i hn; exact absurd (congrArg (fun q => q.2) h) hn
      · rename_i hc
        obtain rfl : out = x := congrArg (fun q => q.1) h
        exact ⟨[], by rw [List.append_nil], rfl, by rw [Decidable.not_not.mp hs]; rfl, hi, Decidable.not_not.mp hc⟩
  | m + 1, s, out, x, hi, h => by
    rw [rdAll] at h
    rcases hr : rdOne s with ⟨p, r, e⟩
    rw [hr] at h
    simp only at h
    split at h
    · rename_i hn; exact absurd (congrArg (fun q => q.2) h) hn
    · rename_i h0
      obtain ⟨h8, es⟩ := rdOne_one (hr.trans (by rw [Decidable.not_not.mp h0]))
      obtain ⟨y, e1, e2, e3, e4⟩ := rdAll_one (fun q hq => by
        rcases List.mem_append.1 hq with k | k
        · exact hi q k
        · rw [List.mem_singleton.mp k]; exact h8) h
      refine ⟨p :: y, by rw [e1, List.append_assoc]; rfl, by rw [List.length_cons, e2], ?_, e4⟩
      rw [← es, ← e3]
      rfl
/-- what is read is written as just those bytes -/
theorem write_read {s : Bs} {x : List Nd} (h : read s = (x, 0)) : (∀ n ∈ x, Wn n) ∧ check x = 0 ∧ write x = (s, 0) := by
  unfold read at h
  split at h
  · exact absurd (congrArg (fun q => q.2) h) (by simp)
  rename_i q0
  rcases hg : num 64 s with ⟨n, k, e⟩
  rw [hg] at h
  simp only at h
  split at h
  · rename_i hn; exact absurd (congrArg (fun q => q.2) h) hn
  · rename_i h0
    obtain ⟨_, e1⟩ := num_one (hg.trans (by rw [Decidable.not_not.mp h0]))
    obtain ⟨y, e2, e3, e4, e5, e6⟩ := rdAll_one (fun _ hq => absurd hq List.not_mem_nil) h
    rw [List.nil_append] at e2
    subst e2
    refine ⟨e5, e6, ?_⟩
    have et : textB x = s := by
      unfold textB
      rw [e3, e4, e1]
    unfold write
    rw [if_neg (fun q => q e6), et, if_neg q0]
theorem rdAll_bad : ∀ {m : Nat} {s : Bs} {out : List Nd}, (rdAll m s out).2 ≠ 0 → (rdAll m s out).1 = []
  | 0, s, out, h => by
    rw [rdAll] at h ⊢
    split
    · rfl
    · split
      · rfl
      · rename_i a b; rw [if_neg a, if_neg b] at h; exact absurd rfl h
  | m + 1, s, out, h => by
    rw [rdAll] at h ⊢
    split
    · rfl
    · rename_i a; rw [if_neg a] at h; exact rdAll_bad h
theorem read_bad {s : Bs} (h : (read s).2 ≠ 0) : (read s).1 = [] := by
  unfold read at h ⊢
  simp only at h ⊢
  split
  · rfl
  · split
    · rfl
    · rename_i a b; rw [if_neg a, if_neg b] at h; exact rdAll_bad h
theorem write_bad {x : List Nd} (h : (write x).2 ≠ 0) : (write x).1 = [] := by
  unfold write at h ⊢
  split
  · rfl
  · split
    · rfl
    · rename_i a b; rw [if_neg a, if_neg b] at h; exact absurd rfl h
theorem read_none : read [0] = ([], 0) := rfl
end Td
end Go.Proofs.YtimdioacmojkeabDoor

namespace Go.Proofs.YtimdioacmojkeabDoor
namespace Td

/-- what is left, and the first error -/
abbrev St := Bs × Int

def tk (k : Nat) (e : Int) (x : St) : Bool × St := if x.2 ≠ 0 then (false, x) else if e ≠ 0 then (false, (x.1, e)) else (true, (x.1.drop k, 0))

def nuE (most : Nat) (s : Bs) : Int := if (Nm.getN s).2.2 = 0 ∧ most < (Nm.getN s).1 then 2 else (Nm.getN s).2.2

def sNum (most : Nat) (x : St) : Nat × St := (if (tk (Nm.getN x.1).2.1 (nuE most x.1) x).1 = true then (Nm.getN x.1).1 else 0, (tk (Nm.getN x.1).2.1 (nuE most x.1) x).2)

def sInt (x : St) : Int × St := (if (tk (Nm.getI x.1).2.1 (Nm.getI x.1).2.2 x).1 = true then (Nm.getI x.1).1 else 0, (tk (Nm.getI x.1).2.1 (Nm.getI x.1).2.2 x).2)

def sTxt (x : St) : Bs × St := (if (tk (Nm.getT x.1).2.1 (Nm.getT x.1).2.2 x).1 = true then (Nm.getT x.1).1 else [], (tk (Nm.getT x.1).2.1 (Nm.getT x.1).2.2 x).2)

def shE (k : Nat) (s : Bs) : Int := if s.length < k then 3 else 0

def sByt (k : Nat) (x : St) : Bs × St := (if (tk k (shE k x.1) x).1 = true then x.1.take k else [], (tk k (shE k x.1) x).2)

def sKind (x : St) : Nat × St := (((sByt 1 x).1.headD 0).toNat, (sByt 1 x).2)

def eight (s : Bs) : Bs := s ++ List.replicate (8 - s.length) 0

def sIds : Nat → St → List Bs × St
  | 0, x => ([], x)
  | j + 1, x => ((sIds j x).1 ++ [eight (sByt 8 (sIds j x).2).1], (sByt 8 (sIds j x).2).2)

def sParts (x : St) : List Bs × St := sIds (sNum 300 x).1 (sNum 300 x).2

def sNode (x : St) : Nd × St :=
  let a := sTxt x
  let b := sKind a.2
  let c := sNum 511 b.2
  let d := sInt c.2
  let e := sNum 4096 d.2
  let f := sParts e.2
  let g := sTxt f.2
  (⟨a.1, b.1, c.1, d.1, e.1, f.1, g.1⟩, g.2)

def sAll : Nat → St → List Nd × St
  | 0, x => ([], x)
  | j + 1, x => ((sAll j x).1 ++ [(sNode (sAll j x).2).1], (sNode (sAll j x).2).2)

/-! what has an error stays -/
theorem tk_stay {k : Nat} {e : Int} {x : St} (h : x.2 ≠ 0) : tk k e x = (false, x) := by unfold tk; rw [if_pos h]

theorem tk_err {k : Nat} {e : Int} {s : Bs} (h : e ≠ 0) : tk k e (s, 0) = (false, (s, e)) := by unfold tk; rw [if_neg (fun q => q rfl), if_pos h]

theorem tk_ok {k : Nat} {s : Bs} : tk k 0 (s, 0) = (true, (s.drop k, 0)) := by unfold tk; rw [if_neg (fun q => q rfl), if_neg (fun q => q rfl)]

theorem sNum_stay {m : Nat} {x : St} (h : x.2 ≠ 0) : sNum m x = (0, x) := by unfold sNum; rw [tk_stay h]; rfl

theorem sInt_stay {x : St} (h : x.2 ≠ 0) : sInt x = (0, x) := by unfold sInt; rw [tk_stay h]; rfl

theorem sTxt_stay {x : St} (h : x.2 ≠ 0) : sTxt x = ([], x) := by unfold sTxt; rw [tk_stay h]; rfl

theorem sByt_stay {k : Nat} {x : St} (h : x.2 ≠ 0) : sByt k x = ([], x) := by unfold sByt; rw [tk_stay h]; rfl

theorem sKind_stay {x : St} (h : x.2 ≠ 0) : sKind x = (0, x) := by unfold sKind; rw [sByt_stay h]; rfl

theorem sIds_stay {x : St} (h : x.2 ≠ 0) : ∀ j, (sIds j x).2 = x
  | 0 => rfl
  | j + 1 => by
    have i := sIds_stay h j
    show (sByt 8 (sIds j x).2).2 = x
    rw [i, sByt_stay h]

theorem sParts_stay {x : St} (h : x.2 ≠ 0) : (sParts x).2 = x := by unfold sParts; rw [sNum_stay h]; rfl

theorem sNode_stay {x : St} (h : x.2 ≠ 0) : (sNode x).2 = x := by
  unfold sNode
  simp only [sTxt_stay h, sKind_stay h, sNum_stay h, sInt_stay h, sParts_stay h]

theorem sAll_stay {x : St} (h : x.2 ≠ 0) : ∀ j, (sAll j x).2 = x
  | 0 => rfl
  | j + 1 => by
    have i := sAll_stay h j
    show (sNode (sAll j x).2).2 = x
    rw [i, sNode_stay h]

/-! as the plain reading says -/
theorem sNum_ok {m n : Nat} {s r : Bs} (h : num m s = (n, r, 0)) : sNum m (s, 0) = (n, (r, 0)) := by
  unfold num at h
  simp only at h
  split at h
  · rename_i q; exact absurd (congrArg (fun q => q.2.2) h) q
  · rename_i q
    split at h
    · exact absurd (congrArg (fun q => q.2.2) h) (by simp)
    · rename_i q2
      have e1 : (Nm.getN s).1 = n := congrArg (fun q => q.1) h
      have e2 : s.drop (Nm.getN s).2.1 = r := congrArg (fun q => q.2.1) h
      have e3 : nuE m s = 0 := by unfold nuE; rw [if_neg (fun k => q2 k.2)]; exact Decidable.not_not.mp q
      unfold sNum
      simp only [e3, tk_ok, e1, e2, if_true]

theorem sNum_err {m n : Nat} {s r : Bs} {e : Int} (h : num m s = (n, r, e)) (he : e ≠ 0) : (sNum m (s, 0)).2 = (s, e) := by
  have : nuE m s = e := by
    unfold num at h
    simp only at h
    split at h
    · rename_i q
      unfold nuE
      rw [if_neg (fun k => q k.1)]
      exact congrArg (fun q => q.2.2) h
    · rename_i q
      split at h
      · rename_i q2
        unfold nuE
        rw [if_pos ⟨Decidable.not_not.mp q, q2⟩]
        exact congrArg (fun q => q.2.2) h
      · exact absurd (congrArg (fun q => q.2.2) h).symm he
  unfold sNum
  simp only [this, tk_err he]

theorem sInt_ok {k : Nat} {i : Int} {s : Bs} (h : Nm.getI s = (i, k, 0)) : sInt (s, 0) = (i, (s.drop k, 0)) := by
  unfold sInt; simp only [h, tk_ok, if_true]

theorem sInt_err {k : Nat} {i e : Int} {s : Bs} (h : Nm.getI s = (i, k, e)) (he : e ≠ 0) : (sInt (s, 0)).2 = (s, e) := by
  unfold sInt; simp only [h, tk_err he]

theorem sTxt_ok {k : Nat} {t s : Bs} (h : Nm.getT s = (t, k, 0)) : sTxt (s, 0) = (t, (s.drop k, 0)) := by
  unfold sTxt; simp only [h, tk_ok, if_true]

theorem sTxt_err {k : Nat} {e : Int} {t s : Bs} (h : Nm.getT s = (t, k, e)) (he : e ≠ 0) : (sTxt (s, 0)).2 = (s, e) := by
  unfold sTxt; simp only [h, tk_err he]

theorem sByt_ok {k : Nat} {s : Bs} (h : k ≤ s.length) : sByt k (s, 0) = (s.take k, (s.drop k, 0)) := by
  have : shE k s = 0 := by unfold shE; rw [if_neg (by omega)]
  unfold sByt; simp only [this, tk_ok, if_true]

theorem sByt_err {k : Nat} {s : Bs} (h : s.length < k) : (sByt k (s, 0)).2 = (s, 3) := by
  have : shE k s = 3 := by unfold shE; rw [if_pos h]
  unfold sByt; simp only [this, tk_err (show (3 : Int) ≠ 0 by decide)]

theorem sKind_ok {s : Bs} (h : s ≠ []) : sKind (s, 0) = ((s.headD 0).toNat, (s.tail, 0)) := by
  unfold sKind
  cases s with
  | nil => exact absurd rfl h
  | cons a b => rw [sByt_ok (by simp)]; simp

theorem sKind_err : (sKind ([], 0)).2 = ([], 3) := by unfold sKind; rw [sByt_err (by simp)]

theorem eights_snoc : ∀ (j : Nat) (l : Bs), eights (j + 1) l = eights j l ++ [(l.drop (8 * j)).take 8]
  | 0, l => rfl
  | j + 1, l => by
    rw [eights, eights_snoc j (l.drop 8), List.drop_drop, show 8 + 8 * j = 8 * (j + 1) from by omega]
    rfl

theorem eight_id {s : Bs} (h : s.length = 8) : eight s = s := by unfold eight; rw [h]; simp

theorem sIds_ok {s : Bs} : ∀ {j : Nat}, 8 * j ≤ s.length → sIds j (s, 0) = (eights j s, (s.drop (8 * j), 0))
  | 0, _ => rfl
  | j + 1, h => by
    have i := sIds_ok (s := s) (j := j) (by omega)
    have l8 : 8 ≤ (s.drop (8 * j)).length := by rw [List.length_drop]; omega
    rw [sIds, i]
    simp only
    rw [sByt_ok l8, eights_snoc, eight_id (by rw [List.length_take]; omega), List.drop_drop, show 8 * j + 8 = 8 * (j + 1) from by omega]

theorem sIds_err {s : Bs} : ∀ {j : Nat}, s.length < 8 * j → (sIds j (s, 0)).2.2 = 3
  | 0, h => absurd h (by omega)
  | j + 1, h => by
    show (sByt 8 (sIds j (s, 0)).2).2.2 = 3
    by_cases q : s.length < 8 * j
    · have i := sIds_err q
      rw [sByt_stay (by rw [i]; decide)]
      exact i
    · rw [sIds_ok (by omega)]
      simp only
      rw [sByt_err (by rw [List.length_drop]; omega)]

theorem sNode_rd (s : Bs) : ((rdOne s).2.2 = 0 → sNode (s, 0) = ((rdOne s).1, ((rdOne s).2.1, 0))) ∧ ((rdOne s).2.2 ≠ 0 → (sNode (s, 0)).2.2 = (rdOne s).2.2) := by
  unfold rdOne sNode
  rcases ht : Nm.getT s with ⟨t, kt, et⟩
  simp only
  by_cases q1 : et ≠ 0
  · rw [if_pos q1]
    have k := sTxt_err ht q1
    have z : (sTxt (s, 0)).2.2 ≠ 0 := by rw [k]; exact q1
    simp only [sKind_stay z, sNum_stay z, sInt_stay z, sParts_stay z, sTxt_stay z]
    exact ⟨fun h => absurd h q1, fun _ => by rw [k]⟩
  obtain rfl := Decidable.not_not.mp q1
  rw [if_neg q1, sTxt_ok ht]
  simp only
  by_cases q2 : s.drop kt = []
  · rw [if_pos q2, q2]
    have k := sKind_err
    have z : (sKind ([], 0)).2.2 ≠ 0 := by rw [k]; decide
    simp only [sNum_stay z, sInt_stay z, sParts_stay z, sTxt_stay z]
    exact ⟨fun h => absurd h (by decide), fun _ => by rw [k]⟩
  rw [if_neg q2, sKind_ok q2]
  simp only
  rcases hm : num 511 (s.drop kt).tail with ⟨m, s2, em⟩
  simp only
  by_cases q3 : em ≠ 0
  · rw [if_pos q3]
    have k := sNum_err hm q3
    have z : (sNum 511 ((s.drop kt).tail, 0)).2.2 ≠ 0 := by rw [k]; exact q3
    simp only [sNum_stay z, sInt_stay z, sParts_stay z, sTxt_stay z]
    exact ⟨fun h => absurd h q3, fun _ => by rw [k]⟩
  obtain rfl := Decidable.not_not.mp q3
  rw [if_neg q3, sNum_ok hm]
  simp only
  rcases hi : Nm.getI s2 with ⟨i, ki, ei⟩
  simp only
  by_cases q4 : ei ≠ 0
  · rw [if_pos q4]
    have k := sInt_err hi q4
    have z : (sInt (s2, 0)).2.2 ≠ 0 := by rw [k]; exact q4
    simp only [sNum_stay z, sParts_stay z, sTxt_stay z]
    exact ⟨fun h => absurd h q4, fun _ => by rw [k]⟩
  obtain rfl := Decidable.not_not.mp q4
  rw [if_neg q4, sInt_ok hi]
  simp only
  rcases hz : num 4096 (s2.drop ki) with ⟨z, s3, ez⟩
  simp only
  by_cases q5 : ez ≠ 0
  · rw [if_pos q5]
    have k := sNum_err hz q5
    have z : (sNum 4096 (s2.drop ki, 0)).2.2 ≠ 0 := by rw [k]; exact q5
    simp only [sParts_stay z, sTxt_stay z]
    exact ⟨fun h => absurd h q5, fun _ => by rw [k]⟩
  obtain rfl := Decidable.not_not.mp q5
  rw [if_neg q5, sNum_ok hz]
  simp only
  rcases hp : num 300 s3 with ⟨p, s4, ep⟩
  simp only
  by_cases q6 : ep ≠ 0
  · rw [if_pos q6]
    have k := sNum_err hp q6
    have z : (sParts (s3, 0)).2 = (s3, ep) := by
      unfold sParts
      rw [sIds_stay (by rw [k]; exact q6), k]
    have z2 : (sParts (s3, 0)).2.2 ≠ 0 := by rw [z]; exact q6
    simp only [sTxt_stay z2]
    exact ⟨fun h => absurd h q6, fun _ => by rw [z]⟩
  obtain rfl := Decidable.not_not.mp q6
  rw [if_neg q6]
  have hsp : sParts (s3, 0) = sIds p (s4, 0) := by unfold sParts; rw [sNum_ok hp]
  rw [hsp]
  by_cases q7 : s4.length < 8 * p
  · rw [if_pos q7]
    have k := sIds_err q7
    have z : (sIds p (s4, 0)).2.2 ≠ 0 := by rw [k]; decide
    simp only [sTxt_stay z]
    exact ⟨fun h => absurd h (by decide), fun _ => k⟩
  rw [if_neg q7, sIds_ok (by omega)]
  simp only
  rcases hk : Nm.getT (s4.drop (8 * p)) with ⟨k, kk, ek⟩
  simp only
  by_cases q8 : ek ≠ 0
  · rw [if_pos q8]
    have k := sTxt_err hk q8
    exact ⟨fun h => absurd h q8, fun _ => by rw [k]⟩
  obtain rfl := Decidable.not_not.mp q8
  rw [if_neg q8, sTxt_ok hk]
  exact ⟨fun _ => rfl, fun h => absurd rfl h⟩

theorem sAll_rd (s : Bs) (m : Nat) : ∀ j, j ≤ m → ((sAll j (s, 0)).2.2 = 0 → rdAll m s [] = rdAll (m - j) (sAll j (s, 0)).2.1 (sAll j (s, 0)).1) ∧ ((sAll j (s, 0)).2.2 ≠ 0 → rdAll m s [] = ([], (sAll j (s, 0)).2.2))
  | 0, _ => ⟨fun _ => rfl, fun h => absurd rfl h⟩
  | j + 1, hj => by
    obtain ⟨i1, i2⟩ := sAll_rd s m j (by omega)
    have e2 : (sAll (j + 1) (s, 0)).2 = (sNode (sAll j (s, 0)).2).2 := rfl
    have e1 : (sAll (j + 1) (s, 0)).1 = (sAll j (s, 0)).1 ++ [(sNode (sAll j (s, 0)).2).1] := rfl
    rw [e2, e1]
    generalize sAll j (s, 0) = A at *
    obtain ⟨L, r, e⟩ := A
    simp only at i1 i2 ⊢
    by_cases he : e ≠ 0
    · rw [sNode_stay (x := (r, e)) he]
      exact ⟨fun h => absurd h he, fun _ => i2 he⟩
    obtain rfl := Decidable.not_not.mp he
    rw [i1 rfl, show m - j = (m - (j + 1)) + 1 from by omega, rdAll]
    obtain ⟨n1, n2⟩ := sNode_rd r
    by_cases h1 : (rdOne r).2.2 = 0
    · rw [n1 h1]
      simp only
      rw [if_neg (fun k => k h1)]
      exact ⟨fun _ => rfl, fun h => absurd rfl h⟩
    · rw [n2 h1]
      exact ⟨fun h => absurd h h1, fun _ => by rw [if_pos h1]⟩

/-- what Read says, by such a reader -/
theorem read_st {s : Bs} (h : ¬ 4096 < s.length) {L : List Nd} {r : Bs} {e : Int} (hA : sAll (sNum 64 (s, 0)).1 (sNum 64 (s, 0)).2 = (L, (r, e))) :
    read s = if e ≠ 0 then ([], e) else if r ≠ [] then ([], 4) else if check L ≠ 0 then ([], check L) else (L, 0) := by
  unfold read
  rw [if_neg h]
  rcases hg : num 64 s with ⟨n, k, eg⟩
  simp only
  by_cases hq : eg ≠ 0
  · rw [if_pos hq]
    have z := sNum_err hg hq
    have y := sAll_stay (x := (sNum 64 (s, 0)).2) (by rw [z]; exact hq) (sNum 64 (s, 0)).1
    rw [hA, z] at y
    obtain rfl : e = eg := congrArg (fun q => q.2) y
    rw [if_pos hq]
  · rw [if_neg hq]
    obtain rfl := Decidable.not_not.mp hq
    rw [sNum_ok hg] at hA
    obtain ⟨a1, a2⟩ := sAll_rd k n n (Nat.le_refl _)
    simp only at hA
    rw [hA] at a1 a2
    simp only at a1 a2
    by_cases he : e ≠ 0
    · rw [if_pos he, a2 he]
    · rw [if_neg he, a1 (Decidable.not_not.mp he), Nat.sub_self, rdAll]

/-! bounds -/
theorem tk_len (k : Nat) (e : Int) (x : St) : (tk k e x).2.1.length ≤ x.1.length := by
  unfold tk; split
  · exact Nat.le_refl _
  · split
    · exact Nat.le_refl _
    · simp

theorem tk_true {k : Nat} {e : Int} {x : St} (h : (tk k e x).1 = true) : x.2 = 0 ∧ e = 0 := by
  unfold tk at h
  split at h
  · cases h
  · rename_i q
    split at h
    · cases h
    · rename_i q2
      exact ⟨Decidable.not_not.mp q, Decidable.not_not.mp q2⟩

theorem sNum_most (m : Nat) (x : St) : (sNum m x).1 ≤ m := by
  unfold sNum
  simp only
  split
  · rename_i h
    have := (tk_true h).2
    unfold nuE at this
    split at this
    · cases this
    · rename_i q
      by_cases h2 : m < (Nm.getN x.1).1
      · exact absurd ⟨this, h2⟩ q
      · omega
  · exact Nat.zero_le _

theorem sNum_len (m : Nat) (x : St) : (sNum m x).2.1.length ≤ x.1.length := tk_len _ _ _

theorem sInt_len (x : St) : (sInt x).2.1.length ≤ x.1.length := tk_len _ _ _

theorem sTxt_len (x : St) : (sTxt x).2.1.length ≤ x.1.length := tk_len _ _ _

theorem sByt_len (k : Nat) (x : St) : (sByt k x).2.1.length ≤ x.1.length := tk_len _ _ _

theorem sKind_len (x : St) : (sKind x).2.1.length ≤ x.1.length := tk_len _ _ _

theorem sIds_len (x : St) : ∀ j, (sIds j x).2.1.length ≤ x.1.length
  | 0 => Nat.le_refl _
  | j + 1 => Nat.le_trans (sByt_len 8 _) (sIds_len x j)

theorem sParts_len (x : St) : (sParts x).2.1.length ≤ x.1.length := Nat.le_trans (sIds_len _ _) (sNum_len _ _)

theorem sInt_bd (x : St) : -9223372036854775808 ≤ (sInt x).1 ∧ (sInt x).1 ≤ 9223372036854775807 := by
  unfold sInt
  simp only
  split
  · rename_i h
    rcases hg : Nm.getI x.1 with ⟨i, k, e⟩
    rw [hg] at h
    have he := (tk_true h).2
    simp only at he
    subst he
    obtain ⟨_, a, b, _⟩ := Nm.getI_one hg
    exact ⟨a, b⟩
  · exact ⟨by decide, by decide⟩

theorem sTxt_bd (x : St) : (sTxt x).1.length ≤ 1024 := by
  unfold sTxt
  simp only
  split
  · rename_i h
    rcases hg : Nm.getT x.1 with ⟨t, k, e⟩
    rw [hg] at h
    have he := (tk_true h).2
    simp only at he
    subst he
    exact (Nm.getT_one hg).2.1
  · simp

theorem sByt_bd (k : Nat) (x : St) : (sByt k x).1.length ≤ k := by
  unfold sByt
  simp only
  split
  · rw [List.length_take]; omega
  · simp

theorem eight_len {s : Bs} (h : s.length ≤ 8) : (eight s).length = 8 := by unfold eight; rw [List.length_append, List.length_replicate]; omega

theorem sIds_bd (x : St) : ∀ j, (sIds j x).1.length = j ∧ ∀ p ∈ (sIds j x).1, p.length = 8
  | 0 => ⟨rfl, fun p h => absurd h List.not_mem_nil⟩
  | j + 1 => by
    obtain ⟨a, b⟩ := sIds_bd x j
    refine ⟨by show ((sIds j x).1 ++ [_]).length = _; rw [List.length_append, a]; rfl, fun p hp => ?_⟩
    rcases List.mem_append.1 (show p ∈ (sIds j x).1 ++ [eight (sByt 8 (sIds j x).2).1] from hp) with h | h
    · exact b p h
    · rw [List.mem_singleton.1 h]; exact eight_len (sByt_bd _ _)

theorem sParts_bd (x : St) : (sParts x).1.length ≤ 300 ∧ ∀ p ∈ (sParts x).1, p.length = 8 := by
  obtain ⟨a, b⟩ := sIds_bd (sNum 300 x).2 (sNum 300 x).1
  exact ⟨by show (sIds _ _).1.length ≤ _; rw [a]; exact sNum_most _ _, b⟩

theorem sKind_bd (x : St) : (sKind x).1 ≤ 255 := by
  unfold sKind
  simp only
  have := ((sByt 1 x).1.headD 0).toNat_lt
  omega

theorem sNode_len (x : St) : (sNode x).2.1.length ≤ x.1.length := by
  unfold sNode
  simp only
  exact Nat.le_trans (sTxt_len _) (Nat.le_trans (sParts_len _) (Nat.le_trans (sNum_len _ _) (Nat.le_trans (sInt_len _) (Nat.le_trans (sNum_len _ _) (Nat.le_trans (sKind_len _) (sTxt_len _))))))

theorem sAll_len (x : St) : ∀ j, (sAll j x).2.1.length ≤ x.1.length ∧ (sAll j x).1.length = j
  | 0 => ⟨Nat.le_refl _, rfl⟩
  | j + 1 => by
    obtain ⟨a, b⟩ := sAll_len x j
    refine ⟨Nat.le_trans (sNode_len _) a, ?_⟩
    show ((sAll j x).1 ++ [_]).length = _
    rw [List.length_append, b]
    rfl

end Td

end Go.Proofs.YtimdioacmojkeabDoor

namespace Go.Proofs.YtimdioacmojkeabDoor
open Go.RowKit

theorem ret_int {k : IntKind} {a b : Int} (h : a = b) : Ending.returned (.int k a) = .returned (.int k b) := by rw [h]
theorem int_eq {k : IntKind} {a b : Int} (h : a = b) : Value.int k a = .int k b := by rw [h]
theorem take_snoc (s : ByteArray) (k : Nat) (h : k < s.size) : s.data.toList.take (k + 1) = s.data.toList.take k ++ [s[k]] := by
  rw [List.take_succ_eq_append_getElem (by simpa using h)]; rfl
theorem wrap_u64 (n : Int) (h0 : 0 ≤ n) (h1 : n < 18446744073709551616) : IntKind.u64.wrap n = n := by
  simp only [IntKind.wrap, IntKind.bits, IntKind.signed]
  simp; omega
theorem xor_u8 (b : UInt8) (t : Nat) (ht : t < 256) : b.toNat ^^^ t = (b ^^^ UInt8.ofNat t).toNat := by
  rw [UInt8.toNat_xor, UInt8.toNat_ofNat', Nat.mod_eq_of_lt (by simpa using ht)]
/-- a byte as a cell -/
def B (b : UInt8) : Value := .int .u8 b.toNat

theorem info_u8 : (Tryd.prog.info? 5).map (fun i => (i.zero, i.size, i.bytes)) = some (some (.int .u8 0), 1, 1) := by kernel_rfl
theorem head_byte (s : ByteArray) (h : 0 < s.size) : s.data.toList.headD 0 = s[0] := by
  rw [List.headD_eq_head?_getD, List.head?_eq_getElem?, List.getElem?_eq_getElem (by simpa using h)]
  rfl
/-- 'string(v)', v the call's own bytes. -/
theorem run_str {base : Nat} {v : Value} {l : List UInt8} {w : World} (h : w.ownsRow base 5 1 v l.length (l.map B)) :
    (convert 45 9 v).run Tryd.prog w = .ok (.string ⟨l.toArray⟩) w := by
  obtain ⟨h1, h2⟩ := h
  rcases h2 with ⟨rfl, h0⟩ | ⟨g, cap, cur, rfl, hb, hg, hle, hm, hs, htk⟩
  · have : l = [] := List.length_eq_zero_iff.1 h0
    subst this
    exact run_convert_bytes_nil w 45 5 (by kernel_rfl) (by kernel_rfl) 0 0 9 (by kernel_rfl)
  · refine run_convert_bytes_back w 45 9 5 ⟨g, 0, none⟩ cap l (by kernel_rfl) (by kernel_rfl) (by kernel_rfl) ?_
    intro j hj
    have := World.ownsRow.cells (w := w) (base := base) (e := 5) (size := 1) (v := .slice (some ⟨g, 0, none⟩) l.length cap) (n := l.length) (xs := l.map B) ⟨h1, .inr ⟨g, cap, cur, rfl, hb, hg, hle, hm, hs, htk⟩⟩ (g := g) rfl j (B l[j]) (by simp [hj])
    simpa [B] using this

theorem owns_one (w : World) (c : Int) (h0 : 0 ≤ c) (h1 : c ≤ 255) :
    (w.alloc (.cells #[.int .u8 c] 5)).ownsRow w.heap.size 5 1 (.slice (some ⟨w.heap.size, 0, none⟩) 1 1) [UInt8.ofNat c.toNat].length ([UInt8.ofNat c.toNat].map B) :=
  ⟨by simp, .inr ⟨w.heap.size, 1, #[.int .u8 c], rfl, Nat.le_refl _, heap_alloc_new w _, Nat.le_refl _, by unfold maxLen; omega, rfl, by simp [B]; omega⟩⟩

/-- one byte more behind an owned row -/
theorem own_more {base : Nat} {w wr w1 : World} {v v1 : Value} {ys : List UInt8} {c : Int} {b : UInt8} {o : Obj} (hown : wr.ownsRow base 5 1 v ys.length (ys.map B))
    (hown1 : w1.ownsRow base 5 1 v1 (ys.length + 1) (ys.map B ++ [.int .u8 c])) (hc : c = b.toNat) (hg : (wr.alloc o).grownBy w1 v.ownBlock) (hbel : Below base w wr) (hbase : base ≤ w.heap.size) :
    w1.ownsRow base 5 1 v1 (ys ++ [b]).length ((ys ++ [b]).map B) ∧ Below base w w1 := by
  subst hc
  refine ⟨by simpa [B] using hown1, ?_⟩
  have hs := hbel.size
  refine (hbel.alloc (by omega) o).grown hg (by simp; omega) ?_
  intro k hk
  exact (hown.lt k hk).1

end Go.Proofs.YtimdioacmojkeabDoor

namespace Go.Proofs.YtimdioacmojkeabDoor
open Go.RowKit

theorem bytes_cell (w : World) (s : ByteArray) (cap : Nat) (z : Nat × Nat) (j : Nat) (hj : j < s.size) :
    (w.alloc (.cells (bytesRow s cap) 5 z)).drew.cell? ⟨w.heap.size, j, none⟩ = some (.int .u8 (s[j].toNat : Int)) := by
  have hh : (w.alloc (.cells (bytesRow s cap) 5 z)).drew.heap[w.heap.size]? = some (.cells (bytesRow s cap) 5 z) := heap_alloc_new w _
  rw [cell_of_row _ w.heap.size j _ _ _ hh]
  have hsz : j < s.data.size := hj
  rw [bytesRow, Array.getElem?_append_left (by simpa using hsz), Array.getElem?_map, Array.getElem?_eq_getElem hsz]
  rfl
theorem bytes_free (w : World) (s : ByteArray) (cap : Nat) (j : Nat) (hj : j < s.size) :
    (w.alloc (.cells (bytesRow s cap) 5 ((bytesRow s cap).size, (bytesRow s cap).size + 1))).drew.frozen? ⟨w.heap.size, j, none⟩ = false := by
  have hh : (w.alloc (.cells (bytesRow s cap) 5 ((bytesRow s cap).size, (bytesRow s cap).size + 1))).drew.heap[w.heap.size]? = some (.cells (bytesRow s cap) 5 ((bytesRow s cap).size, (bytesRow s cap).size + 1)) := heap_alloc_new w _
  have hsz : j < s.data.size := hj
  simp only [World.frozen?, hh]
  simp [bytesRow]
  omega
end Go.Proofs.YtimdioacmojkeabDoor

namespace Go.Proofs.YtimdioacmojkeabDoor
open Go.RowKit

namespace Nn
/-- the bytes that follow, one by one -/
def run : Nat → List Nat → Option Nat
  | c, [] => some c
  | c, b :: l => if b < 128 ∨ 191 < b then none else run (64 * c + b - 128) l
/-- how a character of n bytes ends -/
def done (low n : Nat) : Option Nat → Nat × Nat
  | none => (0, 0)
  | some c => fin low c n
theorem done_none (low n : Nat) : done low n none = (0, 0) := rfl
theorem done_bad {low n c : Nat} (h : c < low ∨ 1114111 < c ∨ (55296 ≤ c ∧ c < 57344)) : done low n (some c) = (0, 0) := by
  show fin low c n = _
  unfold fin; rw [if_pos h]
theorem done_good {low n c : Nat} (h : ¬ (c < low ∨ 1114111 < c ∨ (55296 ≤ c ∧ c < 57344))) : done low n (some c) = (c, n) := by
  show fin low c n = _
  unfold fin; rw [if_neg h]
theorem run_two (n b0 b1 b2 b3 : Nat) (hb : 194 ≤ b0 ∧ b0 < 224) (hn : ¬ n < 2) : chrR n b0 b1 b2 b3 = done 128 2 (run (b0 - 192) [b1]) := by
  unfold chrR
  rw [if_neg (by omega), if_pos hb, run]
  by_cases c : b1 < 128 ∨ 191 < b1
  · rw [if_pos (.inr c), if_pos c]; rfl
  · rw [if_neg (by omega), if_neg c]; rfl
theorem run_three (n b0 b1 b2 b3 : Nat) (hb : 224 ≤ b0 ∧ b0 < 240) (hn : ¬ n < 3) : chrR n b0 b1 b2 b3 = done 2048 3 (run (b0 - 224) [b1, b2]) := by
  unfold chrR
  rw [if_neg (by omega), if_neg (by omega), if_pos hb, run]
  by_cases c : b1 < 128 ∨ 191 < b1
  · rw [if_pos (.inr (.inl c)), if_pos c]; rfl
  · rw [if_neg c, run]
    by_cases d : b2 < 128 ∨ 191 < b2
    · rw [if_pos (.inr (.inr d)), if_pos d]; rfl
    · rw [if_neg (by omega), if_neg d]; rfl
theorem run_four (n b0 b1 b2 b3 : Nat) (hb : 240 ≤ b0 ∧ b0 < 245) (hn : ¬ n < 4) : chrR n b0 b1 b2 b3 = done 65536 4 (run (b0 - 240) [b1, b2, b3]) := by
  unfold chrR
  rw [if_neg (by omega), if_neg (by omega), if_neg (by omega), if_pos hb, run]
  by_cases c : b1 < 128 ∨ 191 < b1
  · rw [if_pos (.inr (.inl c)), if_pos c]; rfl
  · rw [if_neg c, run]
    by_cases d : b2 < 128 ∨ 191 < b2
    · rw [if_pos (.inr (.inr (.inl d))), if_pos d]; rfl
    · rw [if_neg d, run]
      by_cases f : b3 < 128 ∨ 191 < b3
      · rw [if_pos (.inr (.inr (.inr f))), if_pos f]; rfl
      · rw [if_neg (by omega), if_neg f]; rfl
theorem run_short (n b0 b1 b2 b3 : Nat) (h : (194 ≤ b0 ∧ b0 < 224 ∧ n < 2) ∨ (224 ≤ b0 ∧ b0 < 240 ∧ n < 3) ∨ (240 ≤ b0 ∧ b0 < 245 ∧ n < 4)) : chrR n b0 b1 b2 b3 = (0, 0) := by
  unfold chrR
  rcases h with ⟨h1, h2, h3⟩ | ⟨h1, h2, h3⟩ | ⟨h1, h2, h3⟩
  · rw [if_neg (by omega), if_pos ⟨h1, h2⟩, if_pos (.inl h3)]
  · rw [if_neg (by omega), if_neg (by omega), if_pos ⟨h1, h2⟩, if_pos (.inl h3)]
  · rw [if_neg (by omega), if_neg (by omega), if_neg (by omega), if_pos ⟨h1, h2⟩, if_pos (.inl h3)]
theorem run_no (n b0 b1 b2 b3 : Nat) (h1 : 128 ≤ b0) (h : b0 < 194 ∨ 245 ≤ b0) : chrR n b0 b1 b2 b3 = (0, 0) := by
  unfold chrR
  rw [if_neg (by omega), if_neg (by omega), if_neg (by omega), if_neg (by omega)]
theorem run_drop (c : Nat) (bs : List Nat) (j : Nat) (hj : j < bs.length) : run c (bs.drop j) = if bs.getD j 0 < 128 ∨ 191 < bs.getD j 0 then none else run (64 * c + bs.getD j 0 - 128) (bs.drop (j + 1)) := by
  rw [List.drop_eq_getElem_cons hj, run, List.getD_eq_getElem?_getD, List.getElem?_eq_getElem hj]
  rfl
end Nn

/-- '[]byte(s)': its cells -/
theorem conv_by (w : World) (s : ByteArray) : ∃ W1 cap, (convert 9 45 (.string s)).run Tryd.prog w = .ok (.slice (some ⟨w.heap.size, 0, none⟩) s.size cap) W1 ∧
    (∀ k (hk : k < s.size), W1.cell? ⟨w.heap.size, k, none⟩ = some (.int .u8 (s[k].toNat : Nat))) ∧ Below w.heap.size w W1 := by
  have hcv := run_bytes_of_string (P := Tryd.prog) w 9 45 5 s (by kernel_rfl) (by kernel_rfl) (by kernel_rfl)
  exact ⟨_, _, hcv, fun k hk => bytes_cell w s _ _ k hk, ((Below.refl _ w).alloc (Nat.le_refl _) _).drew⟩
/-- the bytes of a text from the second on -/
theorem ext_get (s : ByteArray) (n k : Nat) (hn : n ≤ s.size) (hk : k < (s.extract 1 n).size) : ((s.extract 1 n)[k].toNat) = (s.data.toList.getD (k + 1) 0).toNat := by
  rw [ByteArray.size_extract] at hk
  rw [ByteArray.getElem_extract, Nat.add_comm k 1, List.getD_eq_getElem?_getD, Lib.data_getElem? s (1 + k) (by omega)]
  rfl
theorem first_get (s : ByteArray) (h : 0 < s.size) : (s[0].toNat) = (s.data.toList.getD 0 0).toNat := by
  rw [List.getD_eq_getElem?_getD, List.getElem?_eq_getElem (by rw [← Lib.size_eq]; omega)]
  rfl

def ChOut (s : ByteArray) (w : World) (e : Ending) (w' : World) : Prop :=
  e = .returned (.tuple #[.int .i64 (Nn.chr s.data.toList).1, .int .i64 (Nn.chr s.data.toList).2]) ∧ Below w.heap.size w w'
end Go.Proofs.YtimdioacmojkeabDoor

namespace Go.Proofs.YtimdioacmojkeabDoor
open Go.RowKit
set_option maxRecDepth 4000

namespace Nn
open Go.Lib
/-- a text has characters just if it is UTF-8 -/
theorem chars_valid (l : List UInt8) : validD l = (chars l).isSome := by
  induction l using chars_ind with
  | h0 => rfl
  | hs l hne ih =>
    rw [validD_step l hne, chars_step l hne]
    by_cases c : decodeL l = (65533, 1)
    · have e : (chr l).2 = 0 := by rw [chr, if_neg hne, if_pos c]
      rw [if_pos (by rw [c]; exact ⟨rfl, rfl⟩), if_pos e]
      rfl
    · have e : chr l = decodeL l := by rw [chr, if_neg hne, if_neg c]
      have h1 := decodeL_width l
      rw [if_neg (fun q => c (Prod.ext q.1 q.2)), if_neg (by rw [e]; omega), ← e, ih (by rw [e]; omega)]
      cases chars (l.drop (chr l).2) <;> rfl
/-- may a name have that character? -/
def may (c : Nat) : Bool := decide (32 ≤ c ∧ c ≠ 127 ∧ c ≠ 47)
theorem may_any_iff (l : List Nat) : l.any (fun c => decide (c = 47 ∨ c < 32 ∨ c = 127)) = !l.all may := by
  induction l with
  | nil => rfl
  | cons c l ih =>
    rw [List.any_cons, List.all_cons, ih, Bool.not_and]
    congr 1
    unfold may
    by_cases h : c = 47 ∨ c < 32 ∨ c = 127
    · rw [decide_eq_true h, decide_eq_false (by omega)]; rfl
    · rw [decide_eq_false h, decide_eq_true (by omega)]; rfl
/-- P36 of a text that has characters -/
theorem nm_some {s : List UInt8} {l : List Nat} (h : chars s = some l) (h0 : s ≠ []) (h1 : s ≠ [46]) (h2 : s ≠ [46, 46]) : nm s = if l.all may = false then 8 else if 24 < l.length then 2 else 0 := by
  have hl : l ≠ [] := fun e => h0 ((chars_empty s).1 (by rw [h, e]))
  unfold nm
  rw [h]
  dsimp only
  rw [if_neg (by simp only [not_or]; exact ⟨hl, h1, h2⟩), may_any_iff]
  cases l.all may <;> simp
theorem nm_none {s : List UInt8} (h : chars s = none) : nm s = 8 := by unfold nm; rw [h]
theorem nm_few {s : List UInt8} (h : s = [] ∨ s = [46] ∨ s = [46, 46]) : nm s = 8 := by
  rcases h with rfl | rfl | rfl <;> decide +kernel
/-- a step of ranging -/
theorem chars_head {l : List UInt8} {r : List Nat} (h : chars l = some r) (hne : l ≠ []) : decodeL l = chr l ∧ 1 ≤ (chr l).2 ∧ ∃ r', r = (chr l).1 :: r' ∧ chars (l.drop (chr l).2) = some r' := by
  rw [chars_step l hne] at h
  by_cases c : (chr l).2 = 0
  · rw [if_pos c] at h; cases h
  rw [if_neg c] at h
  obtain ⟨r', h1, rfl⟩ := Option.map_eq_some_iff.1 h
  refine ⟨?_, by omega, r', rfl, h1⟩
  unfold chr at c ⊢
  rw [if_neg hne] at c ⊢
  split at c
  · exact absurd rfl c
  · rename_i q; rw [if_neg q]
end Nn

theorem may_any (c : Nat) (w : World) :
    Calls Tryd.prog 44 #[.int .i32 c] w fun e w' => e = .returned (.bool (Nn.may c)) ∧ w' = w := by
  by_cases h1 : 32 ≤ c
  · by_cases h2 : c = 127
    · have HE : Hid (Nn.may c = false) := decide_eq_false (by omega)
      have hq : ((c : Int) != 127) = false := by rw [bne_eq_false_iff_eq]; omega
      clear h2
      go_enter Tryd.func44, Tryd.ntmps44
      go_wp2_with fail
      go_ret
      exact ⟨by rw [HE.out]; rfl, rfl⟩
    · have hq : ((c : Int) != 127) = true := by rw [bne_iff_ne]; omega
      by_cases h3 : c = 47
      · have HE : Hid (Nn.may c = false) := decide_eq_false (by omega)
        have hr : ((c : Int) != 47) = false := by rw [bne_eq_false_iff_eq]; omega
        clear h2 h3
        go_enter Tryd.func44, Tryd.ntmps44
        go_wp2_with fail
        go_ret
        exact ⟨by rw [HE.out]; rfl, rfl⟩
      · have HE : Hid (Nn.may c = true) := decide_eq_true (by omega)
        have hr : ((c : Int) != 47) = true := by rw [bne_iff_ne]; omega
        clear h2 h3
        go_enter Tryd.func44, Tryd.ntmps44
        go_wp2_with fail
        go_ret
        exact ⟨by rw [HE.out]; rfl, rfl⟩
  · have HE : Hid (Nn.may c = false) := decide_eq_false (by omega)
    go_enter Tryd.func44, Tryd.ntmps44
    go_wp2_with fail
    go_ret
    exact ⟨by rw [HE.out]; rfl, rfl⟩

/-- unicode/utf8's tables as they are laid -/
def Tabs (w : World) : Prop := Lib.Utf8Tabs 0 1 w
theorem Tabs.below {w w' : World} (h : Tabs w) (hb : Below w.heap.size w w') : Tabs w' := Utf8Tabs_below h hb

theorem data_ne {s : ByteArray} {l : List UInt8} (h : s.data.toList ≠ l) : (s.toList == l) = false := by
  rw [beq_eq_false_iff_ne, Lib.toList_data]
  exact h
theorem of_data {s : ByteArray} {l : List UInt8} (h : s.data.toList = l) : s = ⟨l.toArray⟩ := by
  apply ByteArray.ext
  apply Array.toList_inj.1
  simpa using h

set_option maxHeartbeats 1000000 in
theorem check_few (s : ByteArray) (w : World) (h : s.data.toList = [] ∨ s.data.toList = [46] ∨ s.data.toList = [46, 46]) :
    Calls Tryd.prog 29 #[.string s] w fun e w' => e = .returned (.int .i64 8) ∧ Below w.heap.size w w' := by
  rcases h with h | h | h
  all_goals
    obtain rfl := of_data h
    clear h
    go_enter Tryd.func29, Tryd.ntmps29
    go_wp2_with fail
    go_ret
    exact ⟨rfl, Below.refl _ _⟩

set_option maxHeartbeats 1000000 in
theorem check_of (s : ByteArray) (w : World) (hs : s.size ≤ 9223372036854775807)
    (hV : Calls Tryd.prog 43 #[.string s] w fun e w' => e = .returned (.bool (Lib.validD s.data.toList)) ∧ Below w.heap.size w w') :
    Calls Tryd.prog 29 #[.string s] w fun e w' => e = .returned (.int .i64 (Nn.nm s.data.toList)) ∧ Below w.heap.size w w' := by
  by_cases h : s.data.toList = [] ∨ s.data.toList = [46] ∨ s.data.toList = [46, 46]
  · rw [Nn.nm_few h]
    exact check_few s w h
  simp only [not_or] at h
  have e0 : (s.toList == []) = false := data_ne h.1
  have e0' : s.toList.isEmpty = false := by
    rw [Lib.toList_data]
    cases hx : s.data.toList with
    | nil => exact absurd hx h.1
    | cons a b => rfl
  have e1 : (s.toList == [46]) = false := data_ne h.2.1
  have e2 : (s.toList == [46, 46]) = false := data_ne h.2.2
  cases hc : Nn.chars s.data.toList with
  | none =>
    rw [Nn.chars_valid, hc] at hV
    have HE : Hid (Nn.nm s.data.toList = 8) := Nn.nm_none hc
    clear hc h
    go_enter Tryd.func29, Tryd.ntmps29
    go_wp2_with fail
    refine hV.mono ?_
    rintro e w1 ⟨rfl, b1⟩
    go_wp2_with fail
    go_ret
    exact ⟨by rw [HE.out]; rfl, b1⟩
  | some L =>
    rw [Nn.chars_valid, hc] at hV
    have HE : Hid (Nn.nm s.data.toList = if L.all Nn.may = false then 8 else if 24 < L.length then 2 else 0) := Nn.nm_some hc h.1 h.2.1 h.2.2
    have HC : Hid (Nn.chars (s.data.toList.drop 0) = some L) := hc
    clear hc h
    go_enter Tryd.func29, Tryd.ntmps29
    go_wp2_with fail
    refine hV.mono ?_
    rintro e w1 ⟨rfl, b1⟩
    have HB : Hid (Below w.heap.size w w1) := b1
    clear b1 hV
    go_wp2_with fail
    go_loopw [3] (fun c wr => ∃ (pos : Nat) (ds rs : List Nat), c = .int .i64 ds.length ∧ wr = w1.iter s pos ∧ Hid (Nn.chars (s.data.toList.drop pos) = some rs) ∧ Hid (ds.all Nn.may = true) ∧ Hid (L = ds ++ rs) ∧ pos ≤ s.size ∧ ds.length ≤ pos) (fun _ wr => s.size - wr.iterPos w1.heap.size)
    case atStart => exact ⟨0, [], L, rfl, rfl, HC, rfl, rfl, by omega, by simp⟩
    case round =>
      clear HC
      obtain ⟨pos, ds, rs, rfl, rfl, HC, HM, HL, hp, hd⟩ := hrel
      by_cases hlt : pos < s.size
      · have hne : s.data.toList.drop pos ≠ [] := by
          intro e
          have := List.drop_eq_nil_iff.1 e
          rw [← Lib.size_eq] at this
          omega
        obtain ⟨x1, x2, r', x3, x4⟩ := Nn.chars_head HC.out hne
        have x5 := Nn.chr_le (s.data.toList.drop pos)
        rw [List.length_drop, ← Lib.size_eq] at x5
        rw [Lib.decodeL_drop] at x1
        rw [List.drop_drop] at x4
        have hnx : ∀ ty, (Instr.next (.pointer (some ⟨w1.heap.size, 0, none⟩)) true ty).run Tryd.prog (w1.iter s pos) = _ := fun ty => run_next_any w1 s pos ty hlt
        rw [x1] at hnx
        generalize Nn.chr (s.data.toList.drop pos) = D at *
        obtain ⟨r, n⟩ := D
        dsimp only at *
        have HX4 : Hid (Nn.chars (s.data.toList.drop (pos + n)) = some r') := x4
        have HL2 : Hid (L = ds ++ r :: r') := by rw [← x3]; exact HL.out
        clear x1 x3 x4 HC HL hne
        by_cases hm : Nn.may r = true
        · have hq := may_any r (w1.iter s (pos + n))
          rw [hm] at hq
          go_wp2_with fail
          refine hq.mono ?_
          rintro e u ⟨rfl, rfl⟩
          go_wp2_with fail
          go_roundw
          case rel =>
            refine ⟨pos + n, ds ++ [r], r', by simp, rfl, HX4, ?_, ?_, by omega, by simp; omega⟩
            · show _ = _
              rw [List.all_append, HM.out]; simp [hm]
            · show _ = _
              rw [HL2.out]; simp
          case measure => simp only [World.iterPos_iter]; omega
        · have hm := Bool.eq_false_iff.2 hm
          have hq := may_any r (w1.iter s (pos + n))
          rw [hm] at hq
          have HZ : Hid (Nn.nm s.data.toList = 8) := by
            show _ = _
            rw [HE.out, HL2.out, if_pos (by simp [hm])]
          go_wp2_with fail
          refine hq.mono ?_
          rintro e u ⟨rfl, hu⟩
          obtain rfl := hu.symm
          go_wp2_with fail
          go_ret
          exact ⟨by rw [HZ.out]; rfl, HB.out.alloc HB.out.size _⟩
      · obtain rfl : pos = s.size := by omega
        have hr : rs = [] := by
          have := HC.out
          rw [List.drop_eq_nil_of_le (by rw [← Lib.size_eq]; omega), Nn.chars_nil] at this
          exact (Option.some.inj this).symm
        have hnx : ∀ ty, (Instr.next (.pointer (some ⟨w1.heap.size, 0, none⟩)) true ty).run Tryd.prog (w1.iter s s.size) = _ := fun ty => run_next_end w1 s s.size ty hlt
        have HZ : Hid (Nn.nm s.data.toList = if 24 < ds.length then 2 else 0) := by
          show _ = _
          rw [HE.out, HL.out, hr, List.append_nil, if_neg (by rw [HM.out]; simp)]
        clear HC HL hr hlt hp
        by_cases hq : 24 < ds.length
        · go_wp2_with fail
          go_ret
          exact ⟨by rw [HZ.out, if_pos hq]; rfl, HB.out.alloc HB.out.size _⟩
        · go_wp2_with fail
          go_ret
          exact ⟨by rw [HZ.out, if_neg hq]; rfl, HB.out.alloc HB.out.size _⟩
end Go.Proofs.YtimdioacmojkeabDoor

namespace Go.Proofs.YtimdioacmojkeabDoor
open Go.RowKit

theorem own_below {base : Nat} {e : TypeId} {k : Nat} {v : Value} {n : Nat} {xs : List Value} {w w' : World} (h : w.ownsRow base e k v n xs) (hb : Below w.heap.size w w') : w'.ownsRow base e k v n xs := by
  obtain ⟨h1, h2⟩ := h
  refine ⟨h1, ?_⟩
  rcases h2 with h2 | ⟨g, cap, cur, hv, hg, hh, r⟩
  · exact .inl h2
  · refine .inr ⟨g, cap, cur, hv, hg, ?_, r⟩
    rw [hb.block g ?_, hh]
    exact (Array.getElem?_eq_some_iff.1 hh).1
theorem own_lower {base base' : Nat} {e : TypeId} {k : Nat} {v : Value} {n : Nat} {xs : List Value} {w : World} (h : w.ownsRow base e k v n xs) (hb : base' ≤ base) : w.ownsRow base' e k v n xs := by
  obtain ⟨h1, h2⟩ := h
  refine ⟨h1, ?_⟩
  rcases h2 with h2 | ⟨g, cap, cur, hv, hg, r⟩
  · exact .inl h2
  · exact .inr ⟨g, cap, cur, hv, by omega, r⟩
theorem own_form {base : Nat} {e : TypeId} {k n : Nat} {w : World} {v : Value} {xs : List Value} (h : w.ownsRow base e k v n xs) : ∃ a c, v = .slice a n c := by
  rcases h.2 with ⟨rfl, h0⟩ | ⟨g, cap, cur, rfl, _⟩
  · exact ⟨_, _, by rw [h0]⟩
  · exact ⟨_, _, rfl⟩
theorem below_past {w w' : World} {o : Obj} (h : Below (w.alloc o).heap.size (w.alloc o) w') : Below w.heap.size w w' :=
  ((Below.refl _ w).alloc (Nat.le_refl _) o).trans (h.mono (by simp))
end Go.Proofs.YtimdioacmojkeabDoor

namespace Go.Proofs.YtimdioacmojkeabDoor
open Go.RowKit

/-- every block that was there, and of which p holds, is as it was -/
structure Kept (p : Nat → Prop) (A B : World) : Prop where
  os : B.os = A.os
  tape : B.tape = A.tape
  output : B.output = A.output
  size : A.heap.size ≤ B.heap.size
  block : ∀ k, k < A.heap.size → p k → B.heap[k]? = A.heap[k]?

theorem Kept.refl (p : Nat → Prop) (A : World) : Kept p A A := ⟨rfl, rfl, rfl, Nat.le_refl _, fun _ _ _ => rfl⟩
theorem Kept.trans {p : Nat → Prop} {A B C : World} (h : Kept p A B) (k : Kept p B C) : Kept p A C :=
  ⟨k.os.trans h.os, k.tape.trans h.tape, k.output.trans h.output, Nat.le_trans h.size k.size, fun i hi hp => (k.block i (Nat.lt_of_lt_of_le hi h.size) hp).trans (h.block i hi hp)⟩
theorem Kept.mono {p q : Nat → Prop} {A B : World} (h : Kept p A B) (hpq : ∀ k, q k → p k) : Kept q A B :=
  ⟨h.os, h.tape, h.output, h.size, fun k hk hq => h.block k hk (hpq k hq)⟩
theorem Kept.of_below {p : Nat → Prop} {A B : World} (h : Below A.heap.size A B) : Kept p A B := ⟨h.os, h.tape, h.output, h.size, fun k hk _ => h.block k hk⟩
theorem Kept.of_below_at {p : Nat → Prop} {n : Nat} {A B : World} (h : Below n A B) (hp : ∀ k, p k → k < n) : Kept p A B := ⟨h.os, h.tape, h.output, h.size, fun k _ hk => h.block k (hp k hk)⟩
theorem Kept.below {p : Nat → Prop} {A B : World} (h : Kept p A B) {n : Nat} (hn : n ≤ A.heap.size) (hp : ∀ k, k < n → p k) : Below n A B :=
  ⟨h.os, h.tape, h.output, h.size, fun k hk => h.block k (by omega) (hp k hk)⟩
theorem Kept.alloc {p : Nat → Prop} {A B : World} (h : Kept p A B) (o : Obj) : Kept p A (B.alloc o) :=
  h.trans (Kept.of_below ((Below.refl _ B).alloc (Nat.le_refl _) o))
theorem Kept.drew {p : Nat → Prop} {A B : World} (h : Kept p A B) : Kept p A B.drew := ⟨h.os, h.tape, h.output, h.size, h.block⟩
theorem Kept.setCell {p : Nat → Prop} {A B : World} (h : Kept p A B) {a : Addr} (ha : ¬ p a.block) (v : Value) : Kept p A (B.setCell a v) :=
  h.trans ⟨rfl, rfl, rfl, by simp [World.setCell], fun k _ hk => Below.heap_setCell _ _ _ _ (fun e => ha (by rw [← e]; exact hk))⟩
theorem Kept.grown {p : Nat → Prop} {A B C : World} {row : Option Nat} (h : Kept p A B) (hg : B.grownBy C row) (hr : ∀ k, row = some k → ¬ p k) : Kept p A C :=
  h.trans ⟨hg.os, hg.tape, hg.output, hg.size, fun k hk hp => hg.block k hk (fun e => hr k e.symm hp)⟩
theorem Kept.obj {p : Nat → Prop} {A B : World} (h : Kept p A B) {k : Nat} {o : Obj} (hk : p k) (ho : A.heap[k]? = some o) : B.heap[k]? = some o :=
  (h.block k (Array.getElem?_eq_some_iff.1 ho).1 hk).trans ho
end Go.Proofs.YtimdioacmojkeabDoor

namespace Go.Proofs.YtimdioacmojkeabDoor
open Go.RowKit

theorem own_kept {p : Nat → Prop} {base : Nat} {e : TypeId} {k : Nat} {v : Value} {n : Nat} {xs : List Value} {w w' : World} (h : w.ownsRow base e k v n xs) (hk : Kept p w w') (hp : ∀ g, v.ownBlock = some g → p g) : w'.ownsRow base e k v n xs := by
  obtain ⟨h1, h2⟩ := h
  refine ⟨h1, ?_⟩
  rcases h2 with h2 | ⟨g, cap, cur, hv, hg, hh, r⟩
  · exact .inl h2
  · refine .inr ⟨g, cap, cur, hv, hg, ?_, r⟩
    rw [hk.block g (Array.getElem?_eq_some_iff.1 hh).1 (hp g (by rw [hv]; rfl)), hh]
theorem own_block {base : Nat} {e : TypeId} {k : Nat} {v : Value} {n : Nat} {xs : List Value} {w : World} (h : w.ownsRow base e k v n xs) {g : Nat} (hg : v.ownBlock = some g) : ∃ cur, w.heap[g]? = some (.cells cur e (0, 0)) ∧ base ≤ g ∧ g < w.heap.size := by
  rcases h.2 with ⟨rfl, _⟩ | ⟨g', cap, cur, rfl, hb, hh, _⟩
  · simp [Value.ownBlock] at hg
  · simp [Value.ownBlock] at hg
    subst hg
    exact ⟨cur, hh, hb, (Array.getElem?_eq_some_iff.1 hh).1⟩
/-- rows of unlike cells are no one block -/
theorem own_unlike {b1 b2 : Nat} {e1 e2 : TypeId} {k1 k2 : Nat} {v1 v2 : Value} {n1 n2 : Nat} {x1 x2 : List Value} {w : World} (h1 : w.ownsRow b1 e1 k1 v1 n1 x1) (h2 : w.ownsRow b2 e2 k2 v2 n2 x2) (hne : e1 ≠ e2) : ∀ g, v1.ownBlock = some g → v2.ownBlock ≠ some g := by
  intro g hg hg2
  obtain ⟨c1, a1, _⟩ := own_block h1 hg
  obtain ⟨c2, a2, _⟩ := own_block h2 hg2
  rw [a1] at a2
  simp at a2
  exact hne a2.2
theorem own_len {base : Nat} {e : TypeId} {k : Nat} {v : Value} {n : Nat} {xs : List Value} {w : World} (h : w.ownsRow base e k v n xs) : ∃ a c, v = .slice a n c := by
  rcases h.2 with ⟨rfl, h0⟩ | ⟨g, cap, cur, rfl, _⟩
  · exact ⟨_, _, by rw [h0]⟩
  · exact ⟨_, _, rfl⟩
theorem own_some {base : Nat} {e : TypeId} {k : Nat} {v : Value} {n : Nat} {xs : List Value} {w : World} (h : w.ownsRow base e k v n xs) (hn : 0 < n) : ∃ g c, v = .slice (some ⟨g, 0, none⟩) n c ∧ base ≤ g ∧ g < w.heap.size := by
  rcases h.2 with ⟨rfl, h0⟩ | ⟨g, cap, cur, rfl, hb, hh, _⟩
  · omega
  · exact ⟨_, _, rfl, hb, (Array.getElem?_eq_some_iff.1 hh).1⟩

/-- texts that lie in memory -/
structure Tx (w : World) (v : Value) (l : List ByteArray) : Prop where
  at_ : ((∃ a c, v = .slice a 0 c) ∧ l = []) ∨ ∃ bk o cap, v = .slice (some ⟨bk, o, none⟩) l.length cap ∧ bk < w.heap.size ∧
    ∀ j, j < l.length → w.cell? ⟨bk, o + j, none⟩ = some (.string (l.getD j ByteArray.empty))
theorem Tx.slice {w : World} {v : Value} {l : List ByteArray} (h : Tx w v l) : ∃ a c, v = .slice a l.length c := by
  rcases h.at_ with ⟨⟨a, c, rfl⟩, rfl⟩ | ⟨bk, o, cap, rfl, _⟩
  · exact ⟨_, _, rfl⟩
  · exact ⟨_, _, rfl⟩
theorem Tx.kept {p : Nat → Prop} {w w' : World} {v : Value} {l : List ByteArray} (h : Tx w v l) (hk : Kept p w w') (hp : ∀ a n c, v = .slice (some a) n c → p a.block) : Tx w' v l := by
  rcases h.at_ with h | ⟨bk, o, cap, h1, h3, h4⟩
  · exact ⟨.inl h⟩
  · refine ⟨.inr ⟨bk, o, cap, h1, Nat.lt_of_lt_of_le h3 hk.size, fun j hj => ?_⟩⟩
    have e := hk.block bk h3 (hp _ _ _ h1)
    rw [show w'.cell? ⟨bk, o + j, none⟩ = w.cell? ⟨bk, o + j, none⟩ from by simp only [World.cell?, e]]
    exact h4 j hj
theorem Tx.below {w w' : World} {v : Value} {l : List ByteArray} (h : Tx w v l) (hb : Below w.heap.size w w') : Tx w' v l := h.kept (Kept.of_below (p := fun _ => True) hb) fun _ _ _ _ => trivial
/-- what is below a block stays -/
theorem Tx.under {B : Nat} {w w' : World} {v : Value} {l : List ByteArray} (h : Tx w v l) (hB : w.heap.size ≤ B) (hb : Below B w w') : Tx w' v l := h.below (hb.mono hB)
theorem Tx.get {w : World} {a : Option Addr} {n c : Nat} {l : List ByteArray} (h : Tx w (.slice a n c) l) (j : Nat) (hj : j < l.length) : ∃ bk o, a = some ⟨bk, o, none⟩ ∧ bk < w.heap.size ∧
    w.cell? ⟨bk, o + j, none⟩ = some (.string (l.getD j ByteArray.empty)) := by
  rcases h.at_ with ⟨_, rfl⟩ | ⟨bk, o, cap, h1, h3, h4⟩
  · simp at hj
  · simp at h1
    obtain ⟨rfl, rfl, rfl⟩ := h1
    exact ⟨bk, o, rfl, h3, h4 j hj⟩
def Tv (s : ByteArray) : Value := .string s
theorem Tx.of_own {base : Nat} {w : World} {v : Value} {l : List ByteArray} (h : w.ownsRow base 9 1 v l.length (l.map Tv)) : Tx w v l := by
  rcases h.2 with ⟨rfl, h0⟩ | ⟨g, cap, cur, rfl, hg, hh, _⟩
  · exact ⟨.inl ⟨⟨_, _, rfl⟩, List.length_eq_zero_iff.1 h0⟩⟩
  · refine ⟨.inr ⟨g, 0, cap, rfl, (Array.getElem?_eq_some_iff.1 hh).1, fun j hj => ?_⟩⟩
    rw [Nat.zero_add, h.cellAt j (by omega), List.getElem?_map, List.getD_eq_getElem?_getD, List.getElem?_eq_getElem hj]
    rfl
/-- one's own texts: another block than that of bytes -/
theorem Tx.zero {w : World} {a : Option Addr} {n c : Nat} {l : List ByteArray} (h : Tx w (.slice a n c) l) (hl : 0 < l.length) : ∃ bk o, a = some ⟨bk, o, none⟩ ∧ bk < w.heap.size ∧
    w.cell? ⟨bk, o, none⟩ = some (.string (l.getD 0 ByteArray.empty)) := by
  obtain ⟨bk, o, h1, h2, h3⟩ := h.get 0 hl
  exact ⟨bk, o, h1, h2, h3⟩

theorem text_ne {s t : ByteArray} (h : ¬ s = t) : (s.toList == t.toList) = false := by
  rw [beq_eq_false_iff_ne]
  intro h'
  rw [Lib.toList_data, Lib.toList_data] at h'
  exact h (ByteArray.ext (Array.toList_inj.1 h'))
theorem tv_one (l : List ByteArray) : ∀ u ∈ l.map Tv, u.oneCell' = true := by
  intro u hu
  obtain ⟨x, _, rfl⟩ := List.mem_map.1 hu
  rfl
theorem add_at (g o j : Nat) : (⟨g, o, none⟩ : Addr).add j = ⟨g, o + j, none⟩ := by unfold Addr.add; split <;> simp_all
theorem Tx.src {w : World} {a : Option Addr} {n c : Nat} {l : List ByteArray} (h : Tx w (.slice a n c) l) : (a = none → l.length = 0) ∧ ∀ ad, a = some ad → ∀ j u, (l.map Tv)[j]? = some u → w.cell? (ad.add j) = some u := by
  rcases h.at_ with ⟨_, rfl⟩ | ⟨bk, o, cap, h1, h3, h4⟩
  · exact ⟨fun _ => rfl, fun ad _ j u hj => by simp at hj⟩
  · simp at h1
    obtain ⟨rfl, rfl, rfl⟩ := h1
    refine ⟨fun e => by simp at e, fun ad e j u hj => ?_⟩
    obtain rfl := Option.some.inj e
    have hjl : j < l.length := by
      have := (List.getElem?_eq_some_iff.1 hj).1
      simpa using this
    rw [add_at, h4 j hjl, ← hj, List.getElem?_map, List.getD_eq_getElem?_getD, List.getElem?_eq_getElem hjl]
    rfl

def txTo (f : Nat → ByteArray) (p k : Nat) : List ByteArray := (List.range p).map fun j => if j < k then f j else ByteArray.empty
theorem txTo_length (f : Nat → ByteArray) (p k : Nat) : (txTo f p k).length = p := by simp [txTo]
theorem txTo_set (f : Nat → ByteArray) (p k : Nat) : txTo f p (k + 1) = (txTo f p k).set k (f k) := by
  refine List.ext_getElem (by simp [txTo]) fun i h1 h2 => ?_
  simp only [txTo, List.getElem_map, List.getElem_range, List.getElem_set]
  by_cases e : k = i
  · subst e; rw [if_pos (by omega), if_pos rfl]
  · rw [if_neg e]
    by_cases h : i < k
    · rw [if_pos h, if_pos (by omega)]
    · rw [if_neg h, if_neg (by omega)]
theorem txTo_all (f : Nat → ByteArray) (p : Nat) : txTo f p p = (List.range p).map f :=
  List.map_congr_left fun i hi => by rw [if_pos (List.mem_range.1 hi)]
theorem txTo_zero (f : Nat → ByteArray) (p : Nat) : txTo f p 0 = List.replicate p ByteArray.empty := by
  refine List.ext_getElem (by simp [txTo]) fun i h1 h2 => ?_
  simp [txTo]
theorem made_tx {base g n : Nat} {w : World} (h : w.ownsRow base 9 1 (.slice (some ⟨g, 0, none⟩) n n) n (madeCells (Value.string ⟨#[]⟩).cells (n * 1)).toList) :
    w.ownsRow base 9 1 (.slice (some ⟨g, 0, none⟩) n n) n ((List.replicate n ByteArray.empty).map Tv) := by
  have e : (madeCells (Value.string ⟨#[]⟩).cells (n * 1)).toList = (List.replicate n ByteArray.empty).map Tv := by
    rw [Nat.mul_one]
    refine List.ext_getElem (by simp [size_madeCells]) fun i h1 h2 => ?_
    simp [madeCells, Value.cells, Tv, Nat.mod_one]
    rfl
  rw [← e]
  exact h
/-- a text stored in a row of one's own -/
theorem tx_store {base g n cap : Nat} {w : World} {l : List ByteArray} (h : w.ownsRow base 9 1 (.slice (some ⟨g, 0, none⟩) n cap) n (l.map Tv)) (k : Nat) (x : ByteArray) :
    (w.setCell ⟨g, k, none⟩ (.string x)).ownsRow base 9 1 (.slice (some ⟨g, 0, none⟩) n cap) n ((l.set k x).map Tv) := by
  have := (h.stored k (.string x)).1
  rw [List.map_set]
  exact this
theorem tx_cell {base g n cap : Nat} {w : World} {l : List ByteArray} (h : w.ownsRow base 9 1 (.slice (some ⟨g, 0, none⟩) n cap) n (l.map Tv)) (k : Nat) (hk : k < n) :
    ∃ x, w.cell? ⟨g, k, none⟩ = some (.string x) := by
  have hn : l.length = n := by have := h.1; simpa using this
  rw [h.cellAt k (by omega), List.getElem?_map, List.getElem?_eq_getElem (by omega)]
  exact ⟨_, rfl⟩
end Go.Proofs.YtimdioacmojkeabDoor

namespace Go.Proofs.YtimdioacmojkeabDoor
open Go.RowKit

/-- a number as a cell -/
def Nv (n : Nat) : Value := .int .i64 n
theorem info_int : (Tryd.prog.info? 3).map (fun i => (i.zero, i.size, i.bytes)) = some (some (.int .i64 0), 1, 8) := by kernel_rfl
theorem info_of' {P : Program} {e : TypeId} {z : Option Value} {s b : Nat} (h : (P.info? e).map (fun i => (i.zero, i.size, i.bytes)) = some (z, s, b)) : ∃ i, P.info? e = some i ∧ i.zero = z ∧ i.size = s ∧ i.bytes = b := by
  cases hi : P.info? e with
  | none => rw [hi] at h; cases h
  | some i =>
    rw [hi] at h
    simp only [Option.map_some, Option.some.injEq, Prod.mk.injEq] at h
    exact ⟨i, rfl, h.1, h.2.1, h.2.2⟩
theorem own_num {base : Nat} {w wr w1 : World} {v v1 : Value} {l : List Nat} {t : Nat} {o : Obj} (hown : wr.ownsRow base 3 1 v l.length (l.map Nv))
    (hown1 : w1.ownsRow base 3 1 v1 (l.length + 1) (l.map Nv ++ [.int .i64 t])) (hg : (wr.alloc o).grownBy w1 v.ownBlock) (hbel : Below base w wr) (hbase : base ≤ w.heap.size) :
    w1.ownsRow base 3 1 v1 (l ++ [t]).length ((l ++ [t]).map Nv) ∧ Below base w w1 := by
  refine ⟨by simpa [Nv] using hown1, ?_⟩
  have hs := hbel.size
  refine (hbel.alloc (by omega) o).grown hg (by simp; omega) ?_
  intro k hk
  exact (hown.lt k hk).1
/-- what Chars answers -/
def CharsOut (s : ByteArray) (w : World) (e : Ending) (w' : World) : Prop :=
  Below w.heap.size w w' ∧ ((Nn.chars s.data.toList = none ∧ e = .returned (.tuple #[.slice none 0 0, .bool false])) ∨
    ∃ l v, Nn.chars s.data.toList = some l ∧ e = .returned (.tuple #[v, .bool true]) ∧ w'.ownsRow w.heap.size 3 1 v l.length (l.map Nv))
theorem Nn.chars_count : ∀ (l : List UInt8) (cs : List Nat), Nn.chars l = some cs → cs.length ≤ l.length := by
  intro l
  induction l using Nn.chars_ind with
  | h0 => intro cs h; rw [Nn.chars_nil] at h; cases h; simp
  | hs l hne ih =>
    intro cs h
    obtain ⟨_, h1, r, rfl, h2⟩ := Nn.chars_head h hne
    have := ih (by omega) r h2
    have hl := List.length_pos_iff.2 hne
    rw [List.length_drop] at this
    simp only [List.length_cons]
    omega
theorem Nn.ext_drop' (s : ByteArray) (i : Nat) : (s.extract i s.size).data.toList = s.data.toList.drop i := by
  rw [ByteArray.data_extract, Array.toList_extract, List.extract_eq_take_drop]
  exact List.take_of_length_le (by rw [List.length_drop, ← Lib.size_eq]; omega)
/-- how far Chars is -/
structure ChS (Z : Option (List Nat)) (n : Nat) (ds : List Nat) (t : ByteArray) : Prop where
  val : (Nn.chars t.data.toList).map (ds ++ ·) = Z
  len : ds.length + t.size ≤ n

theorem num_cell {base : Nat} {w : World} {g n cap : Nat} {l : List Nat} (h : w.ownsRow base 3 1 (.slice (some ⟨g, 0, none⟩) n cap) n (l.map Nv)) (k : Nat) (hk : k < n) :
    w.cell? ⟨g, k, none⟩ = some (.int .i64 (l.getD k 0 : Nat)) := by
  have hn : l.length = n := by have := h.1; simpa using this
  rw [h.cellAt k (by omega), List.getElem?_map, List.getD_eq_getElem?_getD, List.getElem?_eq_getElem (by omega)]
  rfl
theorem Nn.all_drop (l : List Nat) (k : Nat) (hk : k < l.length) : (l.drop k).all Nn.may = (Nn.may (l.getD k 0) && (l.drop (k + 1)).all Nn.may) := by
  rw [List.drop_eq_getElem_cons hk, List.all_cons, List.getD_eq_getElem?_getD, List.getElem?_eq_getElem hk]
  rfl
end Go.Proofs.YtimdioacmojkeabDoor

namespace Go.Proofs.YtimdioacmojkeabDoor
open Go.RowKit

/-- things of k cells each, one behind another -/
structure Rx {α : Type} (k : Nat) (C : α → List Value) (w : World) (v : Value) (l : List α) : Prop where
  at_ : ((∃ a c, v = .slice a 0 c) ∧ l = []) ∨ ∃ bk o cap, v = .slice (some ⟨bk, o, none⟩) l.length cap ∧ bk < w.heap.size ∧
    ∀ j t, l[j]? = some t → ∀ r u, (C t)[r]? = some u → w.cell? ⟨bk, o + j * k + r, none⟩ = some u
  room : ∃ a n c, v = .slice a n c ∧ n ≤ c ∧ c ≤ 9223372036854775807
section
variable {α : Type} {k : Nat} {C : α → List Value}
theorem Rx.slice {w : World} {v : Value} {l : List α} (h : Rx k C w v l) : ∃ a c, v = .slice a l.length c ∧ l.length ≤ c ∧ c ≤ 9223372036854775807 := by
  obtain ⟨a', n', c', e, h1, h2⟩ := h.room
  rcases h.at_ with ⟨⟨a, c, rfl⟩, rfl⟩ | ⟨bk, o, cap, rfl, _⟩
  · rw [Value.slice.injEq] at e
    obtain ⟨rfl, rfl, rfl⟩ := e
    exact ⟨_, _, rfl, h1, h2⟩
  · rw [Value.slice.injEq] at e
    obtain ⟨rfl, rfl, rfl⟩ := e
    exact ⟨_, _, rfl, h1, h2⟩
theorem Rx.kept {p : Nat → Prop} {w w' : World} {v : Value} {l : List α} (h : Rx k C w v l) (hk : Kept p w w') (hp : ∀ a n c, v = .slice (some a) n c → p a.block) : Rx k C w' v l := by
  rcases h.at_ with h' | ⟨bk, o, cap, h1, h3, h4⟩
  · exact ⟨.inl h', h.room⟩
  · refine ⟨.inr ⟨bk, o, cap, h1, Nat.lt_of_lt_of_le h3 hk.size, fun j t hj r u hu => ?_⟩, h.room⟩
    have e := hk.block bk h3 (hp _ _ _ h1)
    have e2 : ∀ q, w'.cell? ⟨bk, q, none⟩ = w.cell? ⟨bk, q, none⟩ := fun q => by simp only [World.cell?, e]
    rw [e2]
    exact h4 j t hj r u hu
theorem Rx.below {w w' : World} {v : Value} {l : List α} (h : Rx k C w v l) (hb : Below w.heap.size w w') : Rx k C w' v l := h.kept (Kept.of_below (p := fun _ => True) hb) fun _ _ _ _ => trivial
theorem Rx.get {w : World} {a : Option Addr} {n c : Nat} {l : List α} (h : Rx k C w (.slice a n c) l) (j : Nat) (t : α) (hj : l[j]? = some t) : ∃ bk o, a = some ⟨bk, o, none⟩ ∧ bk < w.heap.size ∧
    ∀ r u, (C t)[r]? = some u → w.cell? ⟨bk, o + j * k + r, none⟩ = some u := by
  rcases h.at_ with ⟨_, rfl⟩ | ⟨bk, o, cap, h1, h3, h4⟩
  · simp at hj
  · rw [Value.slice.injEq] at h1
    obtain ⟨rfl, rfl, rfl⟩ := h1
    exact ⟨bk, o, rfl, h3, h4 j t hj⟩
/-- the cells of all -/
def rowR (C : α → List Value) (l : List α) : List Value := l.flatMap C
theorem rowR_length (hC : ∀ t, (C t).length = k) (l : List α) : (rowR C l).length = l.length * k := by
  induction l with
  | nil => simp [rowR]
  | cons t l ih => show (C t ++ rowR C l).length = _; rw [List.length_append, ih, List.length_cons, hC, Nat.add_mul, Nat.one_mul, Nat.add_comm]
theorem rowR_more (l : List α) (t : α) : rowR C (l ++ [t]) = rowR C l ++ C t := by simp [rowR]
theorem rowR_get (hC : ∀ t, (C t).length = k) (l : List α) (i r : Nat) (t : α) (hi : l[i]? = some t) (hr : r < k) : (rowR C l)[i * k + r]? = (C t)[r]? := by
  induction l generalizing i with
  | nil => simp at hi
  | cons q l ih =>
    show (C q ++ rowR C l)[i * k + r]? = _
    cases i with
    | zero =>
      obtain rfl : q = t := by simpa using hi
      rw [Nat.zero_mul, Nat.zero_add, List.getElem?_append_left (by rw [hC]; exact hr)]
    | succ i =>
      rw [List.getElem?_append_right (by rw [hC, Nat.add_mul, Nat.one_mul]; omega), hC, show (i + 1) * k + r - k = i * k + r from by rw [Nat.add_mul, Nat.one_mul]; omega, ih i (by simpa using hi)]
theorem rowR_one (hC : ∀ t, ∀ u ∈ C t, u.oneCell' = true) (l : List α) : ∀ u ∈ rowR C l, u.oneCell' = true := by
  intro u hu
  obtain ⟨t, _, ht⟩ := List.mem_flatMap.1 hu
  exact hC t u ht
theorem Rx.of_own {base : Nat} {T : TypeId} {w : World} {v : Value} {l : List α} (hC : ∀ t, (C t).length = k) (h : w.ownsRow base T k v l.length (rowR C l)) : Rx k C w v l := by
  rcases h.2 with ⟨rfl, h0⟩ | ⟨g, cap, cur, rfl, hg, hh, h1, h2, _⟩
  · exact ⟨.inl ⟨⟨_, _, rfl⟩, List.length_eq_zero_iff.1 h0⟩, _, _, _, rfl, Nat.le_refl _, by omega⟩
  · refine ⟨.inr ⟨g, 0, cap, rfl, (Array.getElem?_eq_some_iff.1 hh).1, fun j t hj r u hu => ?_⟩, _, _, _, rfl, h1, by unfold maxLen at h2; omega⟩
    have hr : r < k := by
      have := (List.getElem?_eq_some_iff.1 hu).1
      rwa [hC] at this
    have := World.ownsRow.cells h (g := g) rfl (j * k + r) u (by rw [rowR_get hC l j r t hj hr]; exact hu)
    rw [show (0 : Nat) + j * k + r = j * k + r from by omega]
    rwa [show ((⟨g, 0, none⟩ : Addr).add (j * k + r)) = ⟨g, j * k + r, none⟩ from by unfold Addr.add; split <;> simp_all] at this
/-- one more behind an owned row -/
theorem own_one_more {base : Nat} {T : TypeId} {w1 : World} {v1 : Value} {l : List α} {t : α} (h : w1.ownsRow base T k v1 (l.length + 1) (rowR C l ++ C t)) : w1.ownsRow base T k v1 (l ++ [t]).length (rowR C (l ++ [t])) := by
  rw [rowR_more, List.length_append, List.length_singleton]
  exact h
end

def idV (x : List UInt8) : Value := .agg (x.map B).toArray
def idC (x : List UInt8) : List Value := x.map B
end Go.Proofs.YtimdioacmojkeabDoor

namespace Go.Proofs.YtimdioacmojkeabDoor
open Go.RowKit

/-- every block that was there is as it was, but those of one type -/
structure Kt (T : TypeId) (A B : World) : Prop where
  os : B.os = A.os
  tape : B.tape = A.tape
  output : B.output = A.output
  size : A.heap.size ≤ B.heap.size
  obj : ∀ (k : Nat) (o : Obj), A.heap[k]? = some o → (¬ ∃ cur fr, o = .cells cur T fr) → B.heap[k]? = some o

section
variable {T T' : TypeId} {A B C : World}
theorem Kt.refl (T : TypeId) (A : World) : Kt T A A := ⟨rfl, rfl, rfl, Nat.le_refl _, fun _ _ h _ => h⟩

theorem Kt.trans (h : Kt T A B) (k : Kt T B C) : Kt T A C :=
  ⟨k.os.trans h.os, k.tape.trans h.tape, k.output.trans h.output, Nat.le_trans h.size k.size, fun i _ ho hn => k.obj i _ (h.obj i _ ho hn) hn⟩

theorem Kt.of_below (h : Below A.heap.size A B) : Kt T A B := ⟨h.os, h.tape, h.output, h.size, fun k _ ho _ => (h.block k (Array.getElem?_eq_some_iff.1 ho).1).trans ho⟩

theorem Kt.of_grown {row : Option Nat} (h : A.grownBy B row) (hr : ∀ g, row = some g → ∃ cur fr, A.heap[g]? = some (.cells cur T fr)) : Kt T A B :=
  ⟨h.os, h.tape, h.output, h.size, fun k _ ho hn => (h.block k (Array.getElem?_eq_some_iff.1 ho).1 (fun e => by
    obtain ⟨cur, fr, hc⟩ := hr k e.symm
    rw [hc] at ho
    cases ho
    exact hn ⟨_, _, rfl⟩)).trans ho⟩

theorem Kt.alloc (h : Kt T A B) (o : Obj) : Kt T A (B.alloc o) := h.trans (Kt.of_below ((Below.refl _ B).alloc (Nat.le_refl _) o))

theorem Kt.drew (h : Kt T A B) : Kt T A B.drew := ⟨h.os, h.tape, h.output, h.size, h.obj⟩

theorem Kt.set {g : Nat} {cur : Array Value} {fr : Nat × Nat} (h : B.heap[g]? = some (.cells cur T fr)) (j : Nat) (x : Value) : Kt T B (B.setCell ⟨g, j, none⟩ x) :=
  ⟨rfl, rfl, rfl, by simp [World.setCell], fun k _ ho hn => (Below.heap_setCell _ _ _ _ (fun e => by
    have e : k = g := e
    subst e
    rw [h] at ho
    cases ho
    exact hn ⟨_, _, rfl⟩)).trans ho⟩

theorem Kt.cell (h : Kt T A B) {k : Nat} {cur : Array Value} {fr : Nat × Nat} (ho : A.heap[k]? = some (.cells cur T' fr)) (hne : T' ≠ T) : B.heap[k]? = some (.cells cur T' fr) :=
  h.obj k _ ho (fun ⟨_, _, e⟩ => by cases e; exact hne rfl)

end

/-- things of k cells each, whose cells are as R says -/
structure Ry {α : Type} (k : Nat) (T : TypeId) (R : World → α → List Value → Prop) (w : World) (v : Value) (l : List α) : Prop where
  at_ : ((∃ a c, v = .slice a 0 c) ∧ l = []) ∨ ∃ bk o cap, v = .slice (some ⟨bk, o, none⟩) l.length cap ∧ l.length ≤ cap ∧ (∃ cur fr, w.heap[bk]? = some (.cells cur T fr)) ∧
    ∀ j t, l[j]? = some t → ∃ c : List Value, c.length = k ∧ R w t c ∧ ∀ r u, c[r]? = some u → w.cell? ⟨bk, o + j * k + r, none⟩ = some u

section
variable {α : Type} {k : Nat} {T : TypeId} {R : World → α → List Value → Prop} {w W : World} {v : Value} {l : List α}
theorem Ry.nil (a : Option Addr) (c : Nat) : Ry k T R w (.slice a 0 c) [] := ⟨.inl ⟨⟨_, _, rfl⟩, rfl⟩⟩

theorem Ry.slice (h : Ry k T R w v l) : ∃ a c, v = .slice a l.length c := by
  rcases h.at_ with ⟨⟨a, c, rfl⟩, rfl⟩ | ⟨bk, o, cap, rfl, _⟩
  · exact ⟨_, _, rfl⟩
  · exact ⟨_, _, rfl⟩

theorem Ry.room {a : Option Addr} {n c : Nat} (h : Ry k T R w (.slice a n c) l) (hn : 0 < l.length) : l.length ≤ c ∧ n = l.length := by
  rcases h.at_ with ⟨_, rfl⟩ | ⟨bk, o, cap, e, h1, _⟩
  · simp at hn
  · cases e; exact ⟨h1, rfl⟩

theorem Ry.obj (h : Ry k T R w v l) (hR : ∀ t c, R w t c → R W t c) (ho : ∀ (g : Nat) cur fr, w.heap[g]? = some (.cells cur T fr) → W.heap[g]? = some (.cells cur T fr)) : Ry k T R W v l := by
  rcases h.at_ with h | ⟨bk, o, cap, h1, h2, ⟨cur, fr, h3⟩, h4⟩
  · exact ⟨.inl h⟩
  · have e := ho bk cur fr h3
    refine ⟨.inr ⟨bk, o, cap, h1, h2, ⟨cur, fr, e⟩, fun j t hj => ?_⟩⟩
    obtain ⟨c, c1, c2, c3⟩ := h4 j t hj
    refine ⟨c, c1, hR t c c2, fun r u hu => ?_⟩
    rw [← c3 r u hu]
    simp only [World.cell?, h3, e]

theorem Ry.kt {T' : TypeId} (h : Ry k T R w v l) (hk : Kt T' w W) (hne : T ≠ T') (hR : ∀ t c, R w t c → R W t c) : Ry k T R W v l := h.obj hR fun _ _ _ ho => hk.cell ho hne

theorem Ry.below (h : Ry k T R w v l) (hb : Below w.heap.size w W) (hR : ∀ t c, R w t c → R W t c) : Ry k T R W v l :=
  h.obj hR fun g _ _ ho => (hb.block g (Array.getElem?_eq_some_iff.1 ho).1).trans ho

theorem Ry.get {a : Option Addr} {n c : Nat} (h : Ry k T R w (.slice a n c) l) (j : Nat) (t : α) (hj : l[j]? = some t) : ∃ bk o cs, a = some ⟨bk, o, none⟩ ∧ bk < w.heap.size ∧ cs.length = k ∧ R w t cs ∧
    ∀ r u, cs[r]? = some u → w.cell? ⟨bk, o + j * k + r, none⟩ = some u := by
  rcases h.at_ with ⟨_, rfl⟩ | ⟨bk, o, cap, h1, h2, ⟨cur, fr, h3⟩, h4⟩
  · simp at hj
  · rw [Value.slice.injEq] at h1
    obtain ⟨rfl, rfl, rfl⟩ := h1
    obtain ⟨cs, c1, c2, c3⟩ := h4 j t hj
    exact ⟨bk, o, cs, rfl, (Array.getElem?_eq_some_iff.1 h3).1, c1, c2, c3⟩

end

/-- a row of one's own of such things -/
def Oy {α : Type} (k : Nat) (T : TypeId) (R : World → α → List Value → Prop) (base : Nat) (w : World) (v : Value) (l : List α) : Prop :=
  ∃ cs : List (List Value), w.ownsRow base T k v l.length cs.flatten ∧ (∀ c ∈ cs, c.length = k) ∧ cs.length = l.length ∧ ∀ (j : Nat) t c, l[j]? = some t → cs[j]? = some c → R w t c

theorem flat_get {k : Nat} : ∀ (cs : List (List Value)), (∀ c ∈ cs, c.length = k) → ∀ (i r : Nat) (c : List Value), cs[i]? = some c → r < k → cs.flatten[i * k + r]? = c[r]?
  | [], _, i, r, c, hi, _ => by simp at hi
  | q :: cs, h, i, r, c, hi, hr => by
    have hq := h q (by simp)
    rw [List.flatten_cons]
    cases i with
    | zero =>
      obtain rfl : q = c := by simpa using hi
      rw [Nat.zero_mul, Nat.zero_add, List.getElem?_append_left (by rw [hq]; exact hr)]
    | succ i =>
      rw [List.getElem?_append_right (by rw [hq, Nat.add_mul, Nat.one_mul]; omega), hq, show (i + 1) * k + r - k = i * k + r from by rw [Nat.add_mul, Nat.one_mul]; omega]
      exact flat_get cs (fun c hc => h c (by simp [hc])) i r c (by simpa using hi) hr

section
variable {α : Type} {k : Nat} {T : TypeId} {R : World → α → List Value → Prop} {base : Nat} {w W : World} {v : Value} {l : List α}
theorem Oy.nil : Oy k T R base w (.slice none 0 0) ([] : List α) := ⟨[], World.ownsRow_nil w _ _ _, by simp, rfl, fun j t c h => by simp at h⟩

theorem Oy.ry (h : Oy k T R base w v l) : Ry k T R w v l := by
  obtain ⟨cs, h1, h2, h3, h4⟩ := h
  rcases h1.2 with ⟨rfl, h0⟩ | ⟨g, cap, cur, rfl, hg, hh, hle, _⟩
  · have : l = [] := List.length_eq_zero_iff.1 h0
    subst this
    exact Ry.nil _ _
  · refine ⟨.inr ⟨g, 0, cap, rfl, hle, ⟨cur, _, hh⟩, fun j t hj => ?_⟩⟩
    have hjl := (List.getElem?_eq_some_iff.1 hj).1
    have hc : cs[j]? = some (cs[j]'(by omega)) := List.getElem?_eq_getElem (by omega)
    generalize cs[j]'(by omega) = c at hc
    have hck := h2 c (List.mem_of_getElem? hc)
    refine ⟨c, hck, h4 j t c hj hc, fun r u hu => ?_⟩
    have hr : r < k := by
      have := (List.getElem?_eq_some_iff.1 hu).1
      omega
    have := World.ownsRow.cells h1 (g := g) rfl (j * k + r) u (by rw [flat_get cs h2 j r c hc hr]; exact hu)
    rw [show (0 : Nat) + j * k + r = j * k + r from by omega]
    rwa [show ((⟨g, 0, none⟩ : Addr).add (j * k + r)) = ⟨g, j * k + r, none⟩ from by unfold Addr.add; split <;> simp_all] at this

theorem Oy.obj (h : Oy k T R base w v l) (hR : ∀ t c, R w t c → R W t c) (ho : ∀ (g : Nat) cur fr, w.heap[g]? = some (.cells cur T fr) → W.heap[g]? = some (.cells cur T fr)) : Oy k T R base W v l := by
  obtain ⟨cs, h1, h2, h3, h4⟩ := h
  refine ⟨cs, ⟨h1.1, ?_⟩, h2, h3, fun j t c a b => hR t c (h4 j t c a b)⟩
  rcases h1.2 with h | ⟨g, cap, cur, hv, hg, hh, r⟩
  · exact .inl h
  · exact .inr ⟨g, cap, cur, hv, hg, ho g _ _ hh, r⟩

theorem Oy.below (h : Oy k T R base w v l) (hb : Below w.heap.size w W) (hR : ∀ t c, R w t c → R W t c) : Oy k T R base W v l :=
  h.obj hR fun g _ _ ho => (hb.block g (Array.getElem?_eq_some_iff.1 ho).1).trans ho

theorem Oy.kt {T' : TypeId} (h : Oy k T R base w v l) (hk : Kt T' w W) (hne : T ≠ T') (hR : ∀ t c, R w t c → R W t c) : Oy k T R base W v l := h.obj hR fun _ _ _ ho => hk.cell ho hne

/-- one more behind it -/
theorem Oy.more {cs : List (List Value)} {c : List Value} {t : α} {v1 : Value} (h2 : ∀ c ∈ cs, c.length = k) (h3 : cs.length = l.length) (h4 : ∀ (j : Nat) t c, l[j]? = some t → cs[j]? = some c → R W t c)
    (h : W.ownsRow base T k v1 (l.length + 1) (cs.flatten ++ c)) (hc : c.length = k) (hR : R W t c) : Oy k T R base W v1 (l ++ [t]) := by
  refine ⟨cs ++ [c], ?_, fun x hx => ?_, by simp [h3], fun j t' c' hj hc' => ?_⟩
  · rw [List.length_append, List.length_singleton, List.flatten_append, List.flatten_singleton]; exact h
  · rcases List.mem_append.1 hx with hx | hx
    · exact h2 x hx
    · rw [List.mem_singleton.1 hx]; exact hc
  · rcases Nat.lt_or_ge j l.length with q | q
    · rw [List.getElem?_append_left q] at hj
      rw [List.getElem?_append_left (by omega)] at hc'
      exact h4 j t' c' hj hc'
    · have hjl := (List.getElem?_eq_some_iff.1 hj).1
      rw [List.length_append, List.length_singleton] at hjl
      obtain rfl : j = l.length := by omega
      rw [List.getElem?_append_right (Nat.le_refl _), Nat.sub_self] at hj
      rw [List.getElem?_append_right (by omega), h3, Nat.sub_self] at hc'
      simp at hj hc'
      subst hj; subst hc'
      exact hR

theorem Oy.own (h : Oy k T R base w v l) {g : Nat} (hg : v.ownBlock = some g) : (∃ cur fr, w.heap[g]? = some (.cells cur T fr)) ∧ base ≤ g := by
  obtain ⟨cs, h1, _⟩ := h
  obtain ⟨cur, a, b, _⟩ := own_block h1 hg
  exact ⟨⟨cur, _, a⟩, b⟩

/-- what an append of one leaves: all but the rows of its type stands -/
theorem Oy.grown {base : Nat} {v : Value} {l : List α} (h : Oy k T R base w v l) (hg : w.grownBy W v.ownBlock) : Kt T w W := Kt.of_grown hg fun _ hgv => (h.own hgv).1

end

end Go.Proofs.YtimdioacmojkeabDoor

namespace Go.Proofs.YtimdioacmojkeabDoor
open Go.RowKit

/-- things of k cells each, whose cells are as R says, in a block of whatever type -/
structure Rw {α : Type} (k : Nat) (R : World → α → List Value → Prop) (w : World) (v : Value) (l : List α) : Prop where
  at_ : ((∃ a c, v = .slice a 0 c) ∧ l = []) ∨ ∃ bk o cap, v = .slice (some ⟨bk, o, none⟩) l.length cap ∧ l.length ≤ cap ∧ bk < w.heap.size ∧
    ∀ j t, l[j]? = some t → ∃ c : List Value, c.length = k ∧ R w t c ∧ ∀ r u, c[r]? = some u → w.cell? ⟨bk, o + j * k + r, none⟩ = some u

section
variable {α : Type} {k : Nat} {R : World → α → List Value → Prop} {w W : World} {v : Value} {l : List α}
theorem Rw.nil (a : Option Addr) (c : Nat) : Rw k R w (.slice a 0 c) ([] : List α) := ⟨.inl ⟨⟨_, _, rfl⟩, rfl⟩⟩

theorem Rw.slice (h : Rw k R w v l) : ∃ a c, v = .slice a l.length c := by
  rcases h.at_ with ⟨⟨a, c, rfl⟩, rfl⟩ | ⟨bk, o, cap, rfl, _⟩
  · exact ⟨_, _, rfl⟩
  · exact ⟨_, _, rfl⟩

theorem Rw.below (h : Rw k R w v l) (hb : Below w.heap.size w W) (hR : ∀ t c, R w t c → R W t c) : Rw k R W v l := by
  rcases h.at_ with h | ⟨bk, o, cap, h1, h2, h3, h4⟩
  · exact ⟨.inl h⟩
  · refine ⟨.inr ⟨bk, o, cap, h1, h2, Nat.lt_of_lt_of_le h3 hb.size, fun j t hj => ?_⟩⟩
    obtain ⟨c, c1, c2, c3⟩ := h4 j t hj
    refine ⟨c, c1, hR t c c2, fun r u hu => ?_⟩
    exact (Below.cell hb (p := ⟨bk, o + j * k + r, none⟩) h3).trans (c3 r u hu)

theorem Rw.get {a : Option Addr} {n c : Nat} (h : Rw k R w (.slice a n c) l) (j : Nat) (t : α) (hj : l[j]? = some t) : ∃ bk o cs, a = some ⟨bk, o, none⟩ ∧ bk < w.heap.size ∧ cs.length = k ∧ R w t cs ∧
    ∀ r u, cs[r]? = some u → w.cell? ⟨bk, o + j * k + r, none⟩ = some u := by
  rcases h.at_ with ⟨_, rfl⟩ | ⟨bk, o, cap, h1, h2, h3, h4⟩
  · simp at hj
  · rw [Value.slice.injEq] at h1
    obtain ⟨rfl, rfl, rfl⟩ := h1
    obtain ⟨cs, c1, c2, c3⟩ := h4 j t hj
    exact ⟨bk, o, cs, rfl, h3, c1, c2, c3⟩

theorem Rw.of_ry {T : TypeId} (h : Ry k T R w v l) : Rw k R w v l := by
  rcases h.at_ with h | ⟨bk, o, cap, h1, h2, ⟨cur, fr, h3⟩, h4⟩
  · exact ⟨.inl h⟩
  · exact ⟨.inr ⟨bk, o, cap, h1, h2, (Array.getElem?_eq_some_iff.1 h3).1, h4⟩⟩

end

/-- a node -/
structure Nod where
  name : ByteArray
  kind : Int
  mode : Int
  time : Int
  size : Int
  parts : List (List UInt8)
  link : ByteArray

def Nod.nd (n : Nod) : Td.Nd := ⟨n.name.data.toList, n.kind, n.mode, n.time, n.size, n.parts, n.link.data.toList⟩

def nds (l : List Nod) : List Td.Nd := l.map Nod.nd

theorem nds_length (l : List Nod) : (nds l).length = l.length := List.length_map _

/-- its cells, v its parts -/
abbrev ndC (n : Nod) (v : Value) : List Value := [.string n.name, .int .i64 n.kind, .int .i64 n.mode, .int .i64 n.time, .int .i64 n.size, v, .string n.link]

/-- what is sure of a node that comes in, or is made -/
structure Nod.Ok (n : Nod) : Prop where
  kind : (Lit.int .i64 n.kind).wf = true
  mode : (Lit.int .i64 n.mode).wf = true
  time : (Lit.int .i64 n.time).wf = true
  size : (Lit.int .i64 n.size).wf = true
  name : n.name.size ≤ 9223372036854775807
  link : n.link.size ≤ 9223372036854775807
  ids : ∀ p ∈ n.parts, p.length = 8

theorem Nod.Ok.wn {n : Nod} (h : n.Ok) : Td.Wn n.nd := by
  have ht := h.time
  simp [Lit.wf, IntKind.min, IntKind.max, IntKind.signed, IntKind.bits] at ht
  exact ⟨ht.1, ht.2, h.ids⟩

def NdR (w : World) (n : Nod) (c : List Value) : Prop := ∃ v, c = ndC n v ∧ Rx 8 idC w v n.parts ∧ n.Ok

theorem NdR.below {w W : World} {n : Nod} {c : List Value} (h : NdR w n c) (hb : Below w.heap.size w W) : NdR W n c := by
  obtain ⟨v, e, q, r⟩ := h
  exact ⟨v, e, q.below hb, r⟩

/-- nodes that lie in memory -/
abbrev Nds (w : World) (v : Value) (l : List Nod) : Prop := Rw 7 NdR w v l

theorem Nds.below {w W : World} {v : Value} {l : List Nod} (h : Nds w v l) (hb : Below w.heap.size w W) : Nds W v l := Rw.below h hb fun _ _ q => q.below hb

end Go.Proofs.YtimdioacmojkeabDoor

namespace Go.Proofs.YtimdioacmojkeabDoor
open Go.RowKit

/-- a node by value, v its parts -/
abbrev ndV (n : Nod) (v : Value) : Value := .agg (ndC n v).toArray

/-- a node's cells in a block of its own -/
theorem seven_at {w : World} {b : Nat} {T : TypeId} {fr : Nat × Nat} {x0 x1 x2 x3 x4 x5 x6 : Value} (h : w.heap[b]? = some (.cells #[x0, x1, x2, x3, x4, x5, x6] T fr)) :
    w.cell? ⟨b, 0, none⟩ = some x0 ∧ w.cell? ⟨b, 1, none⟩ = some x1 ∧ w.cell? ⟨b, 2, none⟩ = some x2 ∧ w.cell? ⟨b, 3, none⟩ = some x3 ∧ w.cell? ⟨b, 4, none⟩ = some x4 ∧ w.cell? ⟨b, 5, none⟩ = some x5 ∧ w.cell? ⟨b, 6, none⟩ = some x6 := by
  simp only [World.cell?, h]
  exact ⟨rfl, rfl, rfl, rfl, rfl, rfl, rfl⟩
end Go.Proofs.YtimdioacmojkeabDoor

namespace Go.Proofs.YtimdioacmojkeabDoor
open Go.RowKit

/-- the worlds that are as W0 was below block B -/
structure Since (B : Nat) (W0 : World) where
  val : World
  property : Below B W0 val
theorem wp_region_since {P : Program} {id : Nat} {Q : Exit → Act → World → Prop} {a : Act} {w : World} {l : List Oper} {B : Nat} {W0 : World} (hm : P.follows .mixedOrders = true) (hB : Region.lexB .any l.toArray = true) (hw : Below B W0 w)
    (h : wpQuiet P l.toArray (fun w' => ∃ X : Since B W0, w' = X.val) (fun a' => ∀ w', (∃ X : Since B W0, w' = X.val) → Q .normal a' w') l a) : (Code.region id l.toArray true).wp P Q a w :=
  wp_region_quiet (C := fun w' => ∃ X : Since B W0, w' = X.val) hm hB ⟨⟨_, hw.drew⟩, rfl⟩ h
/-- a callee that leaves what was there, met in such a world -/
theorem quiet_since {P : Program} {f : FuncId} {args : Array Value} {W0 : World} {v : Value} (X : Since W0.heap.size W0) (h : Calls P f args X.val fun e w' => e = .returned v ∧ Below X.val.heap.size X.val w') :
    Calls P f args X.val fun e w'' => e = .returned v ∧ ∃ Y : Since W0.heap.size W0, w'' = Y.val :=
  h.mono fun _ w' ⟨he, hb⟩ => ⟨he, ⟨w', X.property.trans (hb.mono X.property.size)⟩, rfl⟩
end Go.Proofs.YtimdioacmojkeabDoor

namespace Go.Proofs.YtimdioacmojkeabDoor
open Go.RowKit

/-- the name ahead of place k -/
def prv (l : List Nod) : Nat → Option (List UInt8)
  | 0 => none
  | j + 1 => (l[j]?).map fun n => n.name.data.toList

theorem Td.ckB_cons (p : Option Td.Bs) (n : Td.Nd) (l : List Td.Nd) : Td.ckB p (n :: l) = if Td.nErr n ≠ 0 then Td.nErr n else if Td.low p n.name = true then 4 else Td.ckB (some n.name) l := rfl

theorem nds_drop (l : List Nod) (k : Nat) (h : k < l.length) : nds (l.drop k) = l[k].nd :: nds (l.drop (k + 1)) := by
  rw [List.drop_eq_getElem_cons h]; rfl
end Go.Proofs.YtimdioacmojkeabDoor

namespace Go.Proofs.YtimdioacmojkeabDoor
open Go.RowKit

/-- where the first node of that name stands, or -1 -/
def ixOf (l : List Td.Nd) (s : List UInt8) : Int := match l.findIdx? (fun n => n.name == s) with
  | none => -1
  | some k => k

theorem ixOf_le (l : List Td.Nd) (s : List UInt8) {n : Nat} (h : l.length ≤ n) : ixOf l s ≤ n := by
  unfold ixOf
  cases hk : l.findIdx? fun n => n.name == s with
  | none => show (-1 : Int) ≤ n; omega
  | some k =>
    have := (List.findIdx?_eq_some_iff_getElem.1 hk).1
    show (k : Int) ≤ n
    omega

theorem findIdx_none {l : List Td.Nd} {s : List UInt8} (h : ∀ n ∈ l, (n.name == s) = false) : ixOf l s = -1 := by
  unfold ixOf
  rw [List.findIdx?_eq_none_iff.2 h]

theorem findIdx_at {l : List Td.Nd} {s : List UInt8} {k : Nat} (hk : k < l.length) (h : ∀ j (hj : j < k), (l[j].name == s) = false) (hs : (l[k].name == s) = true) : ixOf l s = k := by
  unfold ixOf
  rw [List.findIdx?_eq_some_iff_getElem.2 ⟨hk, hs, fun j hj => by rw [h j hj]; simp⟩]
end Go.Proofs.YtimdioacmojkeabDoor

namespace Go.Proofs
open Go.Shelf
def Tryd.laysValid_ren : Go.Shelf.Ren := ⟨fun | 196 => 43 | 259 => 51 | n => n, fun | 9 => 9 | 4 => 4 | 3 => 3 | 5 => 5 | 12 => 12 | 119 => 89 | 0 => 0 | 46 => 78 | 139 => 92 | 138 => 91 | 53 => 57 | n => n, fun | 3 => 0 | 4 => 1 | n => n⟩
theorem Tryd.laysValid : Go.Proofs.Lays.n196 Tryd.prog Tryd.laysValid_ren := {
  mixed := by kernel_rfl
  f196 := Tryd.func43.trans (congrArg some (by kernel_rfl))
  f259 := Tryd.func51.trans (congrArg some (by kernel_rfl))
  t0 := Tryd.underlying0
  a0 := Tryd.isAgg0
  z0 := Tryd.sizeOf0
  v0 := Tryd.zeroValue0
  t3 := Tryd.underlying3
  a3 := Tryd.isAgg3
  z3 := Tryd.sizeOf3
  v3 := Tryd.zeroValue3
  t4 := Tryd.underlying4
  a4 := Tryd.isAgg4
  z4 := Tryd.sizeOf4
  v4 := Tryd.zeroValue4
  t5 := Tryd.underlying5
  a5 := Tryd.isAgg5
  z5 := Tryd.sizeOf5
  v5 := Tryd.zeroValue5
  t9 := Tryd.underlying9
  a9 := Tryd.isAgg9
  z9 := Tryd.sizeOf9
  v9 := Tryd.zeroValue9
  t12 := Tryd.underlying12
  a12 := Tryd.isAgg12
  z12 := Tryd.sizeOf12
  v12 := Tryd.zeroValue12
  t46 := Tryd.underlying78
  a46 := Tryd.isAgg78
  z46 := Tryd.sizeOf78
  v46 := Tryd.zeroValue78
  t53 := Tryd.underlying57
  a53 := Tryd.isAgg57
  z53 := Tryd.sizeOf57
  v53 := Tryd.zeroValue57
  t119 := Tryd.underlying89
  a119 := Tryd.isAgg89
  z119 := Tryd.sizeOf89
  t138 := Tryd.underlying91
  a138 := Tryd.isAgg91
  z138 := Tryd.sizeOf91
  v138 := Tryd.zeroValue91
  t139 := Tryd.underlying92
  a139 := Tryd.isAgg92
  z139 := Tryd.sizeOf92
  v139 := Tryd.zeroValue92
  g3 := by kernel_rfl
  g4 := by kernel_rfl }
end Go.Proofs

namespace Go.Proofs.YtimdioacmojkeabDoor
open Go.RowKit

theorem valid_any (s : ByteArray) (w : World) (hs : s.size ≤ 9223372036854775807) (hT : Tabs w) :
    Calls Tryd.prog 43 #[.string s] w fun e w' => e = .returned (.bool (Lib.validD s.data.toList)) ∧ Below w.heap.size w w' :=
  Any.utf8_ValidString Tryd.laysValid s w hs hT
theorem check_any (s : ByteArray) (w : World) (hs : s.size ≤ 9223372036854775807) (hT : Tabs w) :
    Calls Tryd.prog 29 #[.string s] w fun e w' => e = .returned (.int .i64 (Nn.nm s.data.toList)) ∧ Below w.heap.size w w' :=
  check_of s w hs (valid_any s w hs hT)
end Go.Proofs.YtimdioacmojkeabDoor

namespace Go.Proofs.YtimdioacmojkeabDoor
open Go.RowKit
set_option maxRecDepth 4000

/-- a node that is not as its kind asks -/
def Td.Bad (n : Td.Nd) : Prop := (n.kind = 1 ∧ n.link ≠ []) ∨ (1 < n.kind ∧ n.size ≠ 0) ∨ (n.kind = 2 ∧ (n.parts.length ≠ 1 ∨ n.link ≠ [])) ∨ (n.kind = 3 ∧ (n.parts.length ≠ 0 ∨ n.link = []))

theorem upto_any (n m : Int) (b : Bool) (w : World) (hb : decide (0 ≤ n ∧ n ≤ m) = b) : Calls Tryd.prog 30 #[.int .i64 n, .int .i64 m] w fun e w' => e = .returned (.bool b) ∧ w' = w := by
  by_cases h0 : 0 ≤ n
  · by_cases h1 : n ≤ m
    · obtain rfl : b = true := by rw [← hb]; exact decide_eq_true ⟨h0, h1⟩
      clear hb
      go_enter Tryd.func30, Tryd.ntmps30
      go_wp2_with fail
      go_ret
      exact ⟨rfl, rfl⟩
    · obtain rfl : b = false := by rw [← hb]; exact decide_eq_false (fun q => h1 q.2)
      clear hb
      go_enter Tryd.func30, Tryd.ntmps30
      go_wp2_with fail
      go_ret
      exact ⟨rfl, rfl⟩
  · obtain rfl : b = false := by rw [← hb]; exact decide_eq_false (fun q => h0 q.1)
    clear hb
    go_enter Tryd.func30, Tryd.ntmps30
    go_wp2_with fail
    go_ret
    exact ⟨rfl, rfl⟩

theorem iskind_any (n : Int) (b : Bool) (w : World) (hb : decide (1 ≤ n ∧ n ≤ 3) = b) : Calls Tryd.prog 31 #[.int .i64 n] w fun e w' => e = .returned (.bool b) ∧ w' = w := by
  subst hb
  by_cases h1 : n = 1
  · subst h1
    go_enter Tryd.func31, Tryd.ntmps31
    go_wp2_with fail
    go_ret
    exact ⟨by simp, rfl⟩
  by_cases h2 : n = 2
  · subst h2
    go_enter Tryd.func31, Tryd.ntmps31
    go_wp2_with fail
    go_ret
    exact ⟨by simp, rfl⟩
  by_cases h3 : n = 3
  · subst h3
    go_enter Tryd.func31, Tryd.ntmps31
    go_wp2_with fail
    go_ret
    exact ⟨by simp, rfl⟩
  have q1 : (n == 1) = false := beq_eq_false_iff_ne.2 h1
  have q2 : (n == 2) = false := beq_eq_false_iff_ne.2 h2
  have q3 : (n == 3) = false := beq_eq_false_iff_ne.2 h3
  have hr : decide (1 ≤ n ∧ n ≤ 3) = false := decide_eq_false (by omega)
  rw [hr]
  clear hr h1 h2 h3
  go_enter Tryd.func31, Tryd.ntmps31
  go_wp2_with fail
  go_ret
  exact ⟨by simp, rfl⟩

set_option maxHeartbeats 2000000 in
set_option maxRecDepth 10000 in
theorem asks_any (n : Nod) (a : Option Addr) (c : Nat) (b : Bool) (w : World) (hk : n.kind = 1 ∨ n.kind = 2 ∨ n.kind = 3) (hb : b = true ↔ ¬ Td.Bad n.nd) :
    Calls Tryd.prog 32 #[ndV n (.slice a n.parts.length c)] w fun e w' => e = .returned (.bool b) ∧ Below w.heap.size w w' := by
  unfold Td.Bad at hb
  have HBd : Hid (b = true ↔ ¬ ((n.kind = 1 ∧ n.link.data.toList ≠ []) ∨ (1 < n.kind ∧ n.size ≠ 0) ∨ (n.kind = 2 ∧ (n.parts.length ≠ 1 ∨ n.link.data.toList ≠ [])) ∨ (n.kind = 3 ∧ (n.parts.length ≠ 0 ∨ n.link.data.toList = [])))) := hb
  have HF : ∀ {P : Prop}, (b = true ↔ ¬ P) → P → b = false := fun h p => by cases b with | false => rfl | true => exact absurd p (h.1 rfl)
  obtain ⟨W1, hW1⟩ : ∃ W1, W1 = w.alloc (.cells (ndC n (.slice a n.parts.length c)).toArray 29) := ⟨_, rfl⟩
  have HB : Hid (Below w.heap.size w W1) := by rw [hW1]; exact (Below.refl _ w).alloc (Nat.le_refl _) _
  have HM1 : Hid (W1.heap[w.heap.size]? = some (.cells (ndC n (.slice a n.parts.length c)).toArray 29 (0, 0))) := by rw [hW1]; exact heap_alloc_new w _
  clear hb
  generalize n.parts.length = P at *
  obtain ⟨name, kind, mode, time, size, parts, link⟩ := n
  dsimp only at *
  go_enter Tryd.func32, Tryd.ntmps32
  go_upto_region 1 with fail
  rw [← hW1]
  obtain ⟨m0, m1, m2, m3, m4, m5, m6⟩ := seven_at HM1.out
  clear hW1 HM1 m0 m2 m3
  obtain ⟨bk, hbk⟩ : ∃ bk, bk = w.heap.size := ⟨_, rfl⟩
  rw [← hbk] at m1 m4 m5 m6 ⊢
  clear hbk
  obtain rfl | rfl | rfl : kind = 1 ∨ kind = 2 ∨ kind = 3 := by omega
  · by_cases hl : link.data.toList = []
    · obtain rfl := of_data hl
      have HR : Hid (b = true) := HBd.out.2 (by simp)
      clear HBd HF
      go_wp2_with fail
      go_ret
      exact ⟨by rw [HR.out]; rfl, HB.out⟩
    · have e1 : (link.toList == []) = false := data_ne hl
      have HR : Hid (b = false) := HF HBd.out (.inl ⟨rfl, hl⟩)
      clear HBd HF
      go_wp2_with fail
      go_ret
      exact ⟨by rw [HR.out]; rfl, HB.out⟩
  · by_cases hz : size = 0
    · subst hz
      by_cases hp : P = 1
      · subst hp
        by_cases hl : link.data.toList = []
        · obtain rfl := of_data hl
          have HR : Hid (b = true) := HBd.out.2 (by simp)
          clear HBd HF
          go_wp2_with fail
          go_ret
          exact ⟨by rw [HR.out]; rfl, HB.out⟩
        · have e1 : (link.toList == []) = false := data_ne hl
          have HR : Hid (b = false) := HF HBd.out (.inr (.inr (.inl ⟨rfl, .inr hl⟩)))
          clear HBd HF
          go_wp2_with fail
          go_ret
          exact ⟨by rw [HR.out]; rfl, HB.out⟩
      · have gp : ((P : Int) == 1) = false := by rw [beq_eq_false_iff_ne]; omega
        have HR : Hid (b = false) := HF HBd.out (.inr (.inr (.inl ⟨rfl, .inl hp⟩)))
        clear HBd HF hp
        go_wp2_with fail
        go_ret
        exact ⟨by rw [HR.out]; rfl, HB.out⟩
    · have gz : (size == 0) = false := by rw [beq_eq_false_iff_ne]; exact hz
      have HR : Hid (b = false) := HF HBd.out (.inr (.inl ⟨by omega, hz⟩))
      clear HBd HF hz
      go_wp2_with fail
      go_ret
      exact ⟨by rw [HR.out]; rfl, HB.out⟩
  · by_cases hz : size = 0
    · subst hz
      by_cases hp : P = 0
      · subst hp
        by_cases hl : link.data.toList = []
        · obtain rfl := of_data hl
          have HR : Hid (b = false) := HF HBd.out (.inr (.inr (.inr ⟨rfl, .inr hl⟩)))
          clear HBd HF
          go_wp2_with fail
          go_ret
          exact ⟨by rw [HR.out]; rfl, HB.out⟩
        · have e1 : (link.toList == []) = false := data_ne hl
          have HR : Hid (b = true) := HBd.out.2 (by simp [hl])
          clear HBd HF
          go_wp2_with fail
          go_ret
          exact ⟨by rw [HR.out]; rfl, HB.out⟩
      · have gp : ((P : Int) == 0) = false := by rw [beq_eq_false_iff_ne]; omega
        have HR : Hid (b = false) := HF HBd.out (.inr (.inr (.inr ⟨rfl, .inl hp⟩)))
        clear HBd HF hp
        go_wp2_with fail
        go_ret
        exact ⟨by rw [HR.out]; rfl, HB.out⟩
    · have gz : (size == 0) = false := by rw [beq_eq_false_iff_ne]; exact hz
      have HR : Hid (b = false) := HF HBd.out (.inr (.inl ⟨by omega, hz⟩))
      clear HBd HF hz
      go_wp2_with fail
      go_ret
      exact ⟨by rw [HR.out]; rfl, HB.out⟩

set_option maxHeartbeats 2000000 in
set_option maxRecDepth 10000 in
theorem cnode_any (n : Nod) (a : Option Addr) (c : Nat) (w : World) (hn : n.name.size ≤ 9223372036854775807) (hl : n.link.size ≤ 9223372036854775807) (hT : Tabs w) :
    Calls Tryd.prog 20 #[ndV n (.slice a n.parts.length c)] w fun e w' => e = .returned (.int .i64 (Td.nErr n.nd)) ∧ Below w.heap.size w w' := by
  have HT : Hid (Td.nErr n.nd = if Nn.nm n.name.data.toList ≠ 0 then Nn.nm n.name.data.toList
    else if n.mode < 0 ∨ 511 < n.mode ∨ n.size < 0 ∨ 4096 < n.size ∨ 300 < n.parts.length then 1
    else if n.kind < 1 ∨ 3 < n.kind then 5
    else if (n.kind = 1 ∧ n.link.data.toList ≠ []) ∨ (1 < n.kind ∧ n.size ≠ 0) ∨ (n.kind = 2 ∧ (n.parts.length ≠ 1 ∨ n.link.data.toList ≠ [])) ∨ (n.kind = 3 ∧ (n.parts.length ≠ 0 ∨ n.link.data.toList = [])) then 4
    else if 1024 < n.link.data.toList.length then 2 else 0) := rfl
  obtain ⟨W1, hW1⟩ : ∃ W1, W1 = w.alloc (.cells (ndC n (.slice a n.parts.length c)).toArray 29) := ⟨_, rfl⟩
  have HB1 : Hid (Below w.heap.size w W1) := by rw [hW1]; exact (Below.refl _ w).alloc (Nat.le_refl _) _
  have HM1 : Hid (W1.heap[w.heap.size]? = some (.cells (ndC n (.slice a n.parts.length c)).toArray 29 (0, 0))) := by rw [hW1]; exact heap_alloc_new w _
  have hr := check_any n.name W1 hn (hT.below HB1.out)
  have HAs : Hid (∀ b W, (n.kind = 1 ∨ n.kind = 2 ∨ n.kind = 3) → (b = true ↔ ¬ Td.Bad n.nd) → Calls Tryd.prog 32 #[ndV n (.slice a n.parts.length c)] W fun e w' => e = .returned (.bool b) ∧ Below W.heap.size W w') := fun b W => asks_any n a c b W
  have HBd : Hid (Td.Bad n.nd ↔ ((n.kind = 1 ∧ n.link.data.toList ≠ []) ∨ (1 < n.kind ∧ n.size ≠ 0) ∨ (n.kind = 2 ∧ (n.parts.length ≠ 1 ∨ n.link.data.toList ≠ [])) ∨ (n.kind = 3 ∧ (n.parts.length ≠ 0 ∨ n.link.data.toList = [])))) := Iff.rfl
  generalize Td.nErr n.nd = R at *
  generalize Td.Bad n.nd = BAD at *
  generalize Nn.nm n.name.data.toList = E at *
  generalize n.parts.length = P at *
  obtain ⟨name, kind, mode, time, size, parts, link⟩ := n
  dsimp only at *
  clear hT
  go_enter Tryd.func20, Tryd.ntmps20
  go_upto_region 1 with fail
  rw [← hW1]
  obtain ⟨m0, _⟩ := seven_at HM1.out
  clear hW1
  go_wp2_with fail
  refine hr.mono ?_
  rintro e w2 ⟨rfl, b2⟩
  have HB : Hid (Below w.heap.size w w2) := HB1.out.trans (b2.mono HB1.out.size)
  obtain ⟨m0, m1, m2, m3, m4, m5, m6⟩ := seven_at ((b2.block _ (Array.getElem?_eq_some_iff.1 HM1.out).1).trans HM1.out)
  have HM2 : Hid (w2.heap[w.heap.size]? = some (.cells #[.string name, .int .i64 kind, .int .i64 mode, .int .i64 time, .int .i64 size, .slice a P c, .string link] 29 (0, 0))) := (b2.block _ (Array.getElem?_eq_some_iff.1 HM1.out).1).trans HM1.out
  clear HB1 HM1 hr b2 hn
  obtain ⟨bk, hbk⟩ : ∃ bk, bk = w.heap.size := ⟨_, rfl⟩
  rw [← hbk] at HM2 m0 m1 m2 m3 m4 m5 m6 ⊢
  clear hbk
  by_cases hE : ¬ E = 0
  · have hqn : (E != 0) = true := by rw [bne_iff_ne]; exact hE
    have HR : Hid (R = E) := by
      have := HT.out
      rwa [if_pos hE] at this
    clear HT HAs HBd
    go_wp2_with fail
    go_ret
    exact ⟨by rw [HR.out]; rfl, HB.out⟩
  obtain rfl := Decidable.not_not.mp hE
  clear hE
  rw [if_neg (by simp)] at HT
  by_cases h1 : ¬ (0 ≤ mode ∧ mode ≤ 511)
  · have HR : Hid (R = 1) := by
      have := HT.out
      rwa [if_pos (by omega)] at this
    have k1 : decide (0 ≤ mode ∧ mode ≤ 511) = false := decide_eq_false h1
    clear HT HAs HBd h1
    go_wp2_with (go_at_call 30; refine (upto_any mode 511 false _ k1).mono ?_; rintro e w3 ⟨rfl, rfl⟩)
    go_ret
    exact ⟨by rw [HR.out]; rfl, HB.out⟩
  replace h1 := Decidable.not_not.mp h1
  have k1 : decide (0 ≤ mode ∧ mode ≤ 511) = true := decide_eq_true h1
  by_cases h2 : ¬ (0 ≤ size ∧ size ≤ 4096)
  · have HR : Hid (R = 1) := by
      have := HT.out
      rwa [if_pos (by omega)] at this
    have k2 : decide (0 ≤ size ∧ size ≤ 4096) = false := decide_eq_false h2
    clear HT HAs HBd h1 h2
    go_wp2_with (first | (go_at_call 30; with_reducible refine (upto_any mode 511 true _ k1).mono ?_; rintro e w3 ⟨rfl, hw⟩; obtain rfl := hw.symm) | (go_at_call 30; with_reducible refine (upto_any size 4096 false _ k2).mono ?_; rintro e w3 ⟨rfl, hw⟩; obtain rfl := hw.symm))
    go_ret
    exact ⟨by rw [HR.out]; rfl, HB.out⟩
  replace h2 := Decidable.not_not.mp h2
  have k2 : decide (0 ≤ size ∧ size ≤ 4096) = true := decide_eq_true h2
  by_cases h5 : 300 < P
  · have g5 : (300 : Int) < (P : Int) := by omega
    have HR : Hid (R = 1) := by
      have := HT.out
      rwa [if_pos (by omega)] at this
    clear HT HAs HBd h1 h2
    go_wp2_with (first | (go_at_call 30; with_reducible refine (upto_any mode 511 true _ k1).mono ?_; rintro e w3 ⟨rfl, hw⟩; obtain rfl := hw.symm) | (go_at_call 30; with_reducible refine (upto_any size 4096 true _ k2).mono ?_; rintro e w3 ⟨rfl, hw⟩; obtain rfl := hw.symm))
    go_ret
    exact ⟨by rw [HR.out]; rfl, HB.out⟩
  have g5 : ¬ (300 : Int) < (P : Int) := by omega
  rw [if_neg (by omega)] at HT
  by_cases h3 : ¬ (1 ≤ kind ∧ kind ≤ 3)
  · have HR : Hid (R = 5) := by
      have := HT.out
      rwa [if_pos (by omega)] at this
    have k3 : decide (1 ≤ kind ∧ kind ≤ 3) = false := decide_eq_false h3
    clear HT HAs HBd h1 h2 h3
    go_wp2_with (first | (go_at_call 30; with_reducible refine (upto_any mode 511 true _ k1).mono ?_; rintro e w3 ⟨rfl, hw⟩; obtain rfl := hw.symm) | (go_at_call 30; with_reducible refine (upto_any size 4096 true _ k2).mono ?_; rintro e w3 ⟨rfl, hw⟩; obtain rfl := hw.symm) | (go_at_call 31; refine (iskind_any kind false _ k3).mono ?_; rintro e w3 ⟨rfl, hw⟩; obtain rfl := hw.symm))
    go_ret
    exact ⟨by rw [HR.out]; rfl, HB.out⟩
  replace h3 := Decidable.not_not.mp h3
  have k3 : decide (1 ≤ kind ∧ kind ≤ 3) = true := decide_eq_true h3
  rw [if_neg (by omega)] at HT
  have hk : kind = 1 ∨ kind = 2 ∨ kind = 3 := by omega
  by_cases hb : BAD
  · have HR : Hid (R = 4) := by
      have := HT.out
      rwa [if_pos (HBd.out.1 hb)] at this
    have has := HAs.out false w2 hk (by simp [hb])
    clear HT HAs HBd h1 h2 h3 hk
    go_wp2_with (first | (go_at_call 30; with_reducible refine (upto_any mode 511 true _ k1).mono ?_; rintro e w3 ⟨rfl, hw⟩; obtain rfl := hw.symm) | (go_at_call 30; with_reducible refine (upto_any size 4096 true _ k2).mono ?_; rintro e w3 ⟨rfl, hw⟩; obtain rfl := hw.symm) | (go_at_call 31; refine (iskind_any kind true _ k3).mono ?_; rintro e w3 ⟨rfl, hw⟩; obtain rfl := hw.symm))
    refine has.mono ?_
    rintro e w4 ⟨rfl, b4⟩
    have HB4 : Hid (Below w.heap.size w w4) := HB.out.trans (b4.mono HB.out.size)
    clear has b4
    go_wp2_with fail
    go_ret
    exact ⟨by rw [HR.out]; rfl, HB4.out⟩
  · have HR : Hid (R = if 1024 < link.size then 2 else 0) := by
      have := HT.out
      rwa [if_neg (fun q => hb (HBd.out.2 q)), ← Lib.size_eq] at this
    have has := HAs.out true w2 hk (by simp [hb])
    clear HT HAs HBd h1 h2 h3 hk
    go_wp2_with (first | (go_at_call 30; with_reducible refine (upto_any mode 511 true _ k1).mono ?_; rintro e w3 ⟨rfl, hw⟩; obtain rfl := hw.symm) | (go_at_call 30; with_reducible refine (upto_any size 4096 true _ k2).mono ?_; rintro e w3 ⟨rfl, hw⟩; obtain rfl := hw.symm) | (go_at_call 31; refine (iskind_any kind true _ k3).mono ?_; rintro e w3 ⟨rfl, hw⟩; obtain rfl := hw.symm))
    refine has.mono ?_
    rintro e w4 ⟨rfl, b4⟩
    have HB4 : Hid (Below w.heap.size w w4) := HB.out.trans (b4.mono HB.out.size)
    obtain ⟨_, _, _, _, _, _, n6⟩ := seven_at ((b4.block _ (Array.getElem?_eq_some_iff.1 HM2.out).1).trans HM2.out)
    clear has b4 m0 m1 m2 m3 m4 m5 m6 HM2
    by_cases hL : 1024 < link.size
    · have gL : (1024 : Int) < (link.size : Int) := by omega
      rw [if_pos hL] at HR
      go_wp2_with fail
      go_ret
      exact ⟨by rw [HR.out]; rfl, HB4.out⟩
    · have gL : ¬ (1024 : Int) < (link.size : Int) := by omega
      rw [if_neg hL] at HR
      go_wp2_with fail
      go_ret
      exact ⟨by rw [HR.out]; rfl, HB4.out⟩

theorem tg_irr : ∀ x : List UInt8, Op.bytesLess x x = false
  | [] => rfl
  | a :: x => by rw [Op.bytesLess, tg_irr x]; simp

theorem tg_tri : ∀ x y : List UInt8, Op.bytesLess x y = true → Op.bytesLess y x = false
  | [], [], _ => rfl
  | [], _ :: _, _ => rfl
  | _ :: _, [], h => by cases h
  | a :: x, b :: y, h => by
    rw [Op.bytesLess, Bool.or_eq_true, Bool.and_eq_true] at h
    rw [Op.bytesLess]
    rcases h with h | ⟨h1, h2⟩
    · have q : a < b := of_decide_eq_true h
      have q1 : a.toNat < b.toNat := q
      have q2 : ¬ b < a := fun k => by have k1 : b.toNat < a.toNat := k; omega
      have q3 : (b == a) = false := beq_eq_false_iff_ne.2 fun k => by rw [k] at q1; omega
      rw [q3, decide_eq_false q2]
      rfl
    · obtain rfl : a = b := eq_of_beq h1
      rw [tg_tri x y h2]
      simp

theorem tg_less {s t : ByteArray} (h : Op.bytesLess t.toList s.toList = true) : Op.bytesLess s.toList t.toList = false ∧ (s.toList == t.toList) = false :=
  ⟨tg_tri _ _ h, beq_eq_false_iff_ne.2 fun e => by rw [e, tg_irr] at h; cases h⟩

theorem tg_tot : ∀ x y : List UInt8, Op.bytesLess y x = false → x = y ∨ Op.bytesLess x y = true
  | [], [], _ => .inl rfl
  | [], _ :: _, _ => .inr rfl
  | _ :: _, [], h => by cases h
  | a :: x, b :: y, h => by
    rw [Op.bytesLess, Bool.or_eq_false_iff, Bool.and_eq_false_iff] at h
    rw [Op.bytesLess]
    have q : ¬ b < a := of_decide_eq_false h.1
    by_cases e : a = b
    · subst e
      rcases h.2 with k | k
      · simp at k
      · rcases tg_tot x y k with e | e
        · exact .inl (by rw [e])
        · exact .inr (by rw [e]; simp)
    · refine .inr ?_
      have q1 : ¬ b.toNat < a.toNat := q
      have q2 : a.toNat ≠ b.toNat := fun k => e (UInt8.toNat_inj.1 k)
      have q3 : a < b := show a.toNat < b.toNat by omega
      rw [decide_eq_true q3]
      rfl

theorem tg_more {s t : ByteArray} (h : Op.bytesLess t.toList s.toList = false) : Op.bytesLess s.toList t.toList = true ∨ (Op.bytesLess s.toList t.toList = false ∧ (s.toList == t.toList) = true) := by
  rcases tg_tot _ _ h with e | e
  · exact .inr ⟨by rw [e, tg_irr], by rw [e]; simp⟩
  · exact .inl e

set_option maxHeartbeats 2000000 in
set_option maxRecDepth 10000 in
theorem tcheck_any (v : Value) (l : List Nod) (w : World) (h : Nds w v l) (hl : l.length ≤ 9223372036854775807) (hT : Tabs w) :
    Calls Tryd.prog 13 #[v] w fun e w' => e = .returned (.int .i64 (Td.check (nds l))) ∧ Below w.heap.size w w' := by
  obtain ⟨a, c, rfl⟩ := h.slice
  have HX : Hid (Nds w (.slice a l.length c) l) := h
  have HS0 : Hid (Tabs w) := hT
  have HT : Hid (Td.check (nds l) = if 64 < l.length then 2 else Td.ckB none (nds l)) := by show _ = _; rw [← nds_length l]; rfl
  generalize Td.check (nds l) = R at *
  obtain ⟨N, hN⟩ : ∃ N, N = l.length := ⟨_, rfl⟩
  have HN : Hid (N = l.length) := hN
  rw [← hN] at HX HT hl ⊢
  clear h hT hN
  by_cases h64 : 64 < N
  · have HR : Hid (R = 2) := by
      have := HT.out
      rwa [if_pos h64] at this
    have g : (64 : Int) < (N : Int) := by omega
    clear HT
    go_enter Tryd.func13, Tryd.ntmps13
    go_wp2_with fail
    go_ret
    exact ⟨by rw [HR.out]; rfl, Below.refl _ _⟩
  have HC : Hid (Td.ckB (prv l 0) (nds (l.drop 0)) = R) := by
    have := HT.out
    rw [if_neg h64] at this
    exact this.symm
  have g : ¬ (64 : Int) < (N : Int) := by omega
  clear HT
  go_enter Tryd.func13, Tryd.ntmps13
  go_wp2_with fail
  go_loopw [11] (fun x wr => ∃ k : Nat, k ≤ N ∧ x = .int .i64 k ∧ Hid (Td.ckB (prv l k) (nds (l.drop k)) = R) ∧ Hid (Below w.heap.size w wr)) (fun x _ => N - (intOf x).toNat)
  case atStart => exact ⟨0, by omega, rfl, HC, Below.refl _ _⟩
  case round =>
    clear HC
    obtain ⟨k, hk, rfl, HC, HB⟩ := hrel
    by_cases hlt : k < N
    · have hkl : k < l.length := by rw [← HN.out]; exact hlt
      obtain ⟨bk, o, cs, rfl, hbk, hcl, ⟨v, rfl, hPs, hok⟩, hcell⟩ := (HX.out.below HB.out).get k l[k] (List.getElem?_eq_getElem hkl)
      have hSt := HC.out
      rw [nds_drop l k hkl, Td.ckB_cons] at hSt
      have HSt : Hid ((if Td.nErr l[k].nd ≠ 0 then Td.nErr l[k].nd else if Td.low (prv l k) l[k].name.data.toList = true then 4 else Td.ckB (some l[k].name.data.toList) (nds (l.drop (k + 1)))) = R) := hSt
      have HP1 : Hid (prv l (k + 1) = some l[k].name.data.toList) := by show _ = _; rw [prv, List.getElem?_eq_getElem hkl]; rfl
      have HPk : Hid (∀ j, k = j + 1 → ∃ t : ByteArray, prv l k = some t.data.toList ∧ wr.cell? ⟨bk, o + j * 7, none⟩ = some (.string t)) := fun j hj => by
        subst hj
        obtain ⟨bk', o', cs', e', _, _, ⟨v', rfl, _⟩, hc'⟩ := (HX.out.below HB.out).get j l[j] (List.getElem?_eq_getElem (by omega))
        cases e'
        exact ⟨l[j].name, by rw [prv, List.getElem?_eq_getElem (by omega)]; rfl, hc' 0 _ rfl⟩
      obtain ⟨av, cv, rfl, _⟩ := hPs.slice
      obtain ⟨W1, hW1⟩ : ∃ W1, W1 = wr.alloc (.cells (ndC l[k] (.slice av l[k].parts.length cv)).toArray 29) := ⟨_, rfl⟩
      have hB1 : Below wr.heap.size wr W1 := by rw [hW1]; exact (Below.refl _ wr).alloc (Nat.le_refl _) _
      have HB1 : Hid (Below w.heap.size w W1) := HB.out.trans (hB1.mono HB.out.size)
      have HM1 : Hid (W1.heap[wr.heap.size]? = some (.cells (ndC l[k] (.slice av l[k].parts.length cv)).toArray 29 (0, 0))) := by rw [hW1]; exact heap_alloc_new wr _
      have hne := cnode_any l[k] av cv W1 hok.name hok.link (HS0.out.below HB1.out)
      have c0 : wr.cell? ⟨bk, o + k * 7, none⟩ = some (.string l[k].name) := hcell 0 _ rfl
      have c1 := hcell 1 _ rfl
      have c2 := hcell 2 _ rfl
      have c3 := hcell 3 _ rfl
      have c4 := hcell 4 _ rfl
      have c5 := hcell 5 _ rfl
      have c6 := hcell 6 _ rfl
      generalize Td.nErr l[k].nd = E at *
      generalize l[k] = n at *
      generalize n.parts.length = np at *
      clear hcell hPs hok hcl HC hSt
      obtain ⟨name, kind, mode, time, size, parts, link⟩ := n
      dsimp only at *
      go_upto_region 6 with fail
      rw [← hW1]
      obtain ⟨b7, hb7⟩ : ∃ b7, b7 = wr.heap.size := ⟨_, rfl⟩
      rw [← hb7] at HM1 ⊢
      obtain ⟨m0, m1, m2, m3, m4, m5, m6⟩ := seven_at HM1.out
      clear hW1 c0 c1 c2 c3 c4 c5 c6 hb7
      go_wp2_with fail
      refine hne.mono ?_
      rintro e w3 ⟨rfl, b3⟩
      have HB3 : Hid (Below w.heap.size w w3) := HB1.out.trans (b3.mono HB1.out.size)
      have HP3 : Hid (∀ j, k = j + 1 → ∃ t : ByteArray, prv l k = some t.data.toList ∧ w3.cell? ⟨bk, o + j * 7, none⟩ = some (.string t)) := fun j hj => by
        obtain ⟨t, p1, p2⟩ := HPk.out j hj
        exact ⟨t, p1, (Below.cell (hB1.trans (b3.mono hB1.size)) (p := ⟨bk, o + j * 7, none⟩) hbk).trans p2⟩
      obtain ⟨n0, _⟩ := seven_at ((b3.block _ (Array.getElem?_eq_some_iff.1 HM1.out).1).trans HM1.out)
      clear hne b3 m0 m1 m2 m3 m4 m5 m6 HPk HM1 hB1 HB1
      by_cases hE : E = 0
      · subst hE
        rw [if_neg (by simp)] at HSt
        go_wp2_with fail
        rcases Nat.eq_zero_or_pos k with hk0 | hk0
        · have hd : decide ((0 : Int) < (k : Int)) = false := decide_eq_false (by omega)
          have HS2 : Hid (Td.ckB (prv l (k + 1)) (nds (l.drop (k + 1))) = R) := by
            have := HSt.out
            rw [hk0, prv, Td.low, if_neg (by simp)] at this
            show _ = _
            rw [HP1.out, hk0]
            exact this
          clear HSt HP3 HP1
          go_quiet (fail)
          go_wp2_with fail
          go_roundw
          case measure => simp only [intOf]; omega
          case rel => exact ⟨k + 1, by omega, by go_num, HS2, below_drewN HB3.out _⟩
        · obtain ⟨j, rfl⟩ : ∃ j, k = j + 1 := ⟨k - 1, by omega⟩
          obtain ⟨t, p1, p2⟩ := HP3.out j rfl
          have hd : decide ((0 : Int) < ((j + 1 : Nat) : Int)) = true := decide_eq_true (by omega)
          have hj : j < N := by omega
          have HL : Hid ((if (!Op.bytesLess t.data.toList name.data.toList) = true then 4 else Td.ckB (prv l (j + 1 + 1)) (nds (l.drop (j + 1 + 1)))) = R) := by
            have := HSt.out
            rw [p1, Td.low] at this
            rw [HP1.out]
            exact this
          clear HSt HP3 HP1 p1
          rw [← Lib.toList_data, ← Lib.toList_data] at HL
          cases hbl : Op.bytesLess t.toList name.toList with
          | true =>
            obtain ⟨x1, x2⟩ := tg_less hbl
            have HS2 : Hid (Td.ckB (prv l (j + 1 + 1)) (nds (l.drop (j + 1 + 1))) = R) := by
              have := HL.out
              rwa [hbl, if_neg (by simp)] at this
            clear HL hbl
            go_quiet (fail)
            go_wp2_with fail
            go_roundw
            case measure => simp only [intOf]; omega
            case rel => exact ⟨j + 1 + 1, by omega, by go_num, HS2, below_drewN HB3.out _⟩
          | false =>
            have HR : Hid (R = 4) := by
              have := HL.out
              rw [hbl, if_pos (by rfl)] at this
              exact this.symm
            have hz := tg_more hbl
            clear HL hbl
            rcases hz with hz | ⟨x1, x2⟩
            · go_quiet (fail)
              go_wp2_with fail
              go_ret
              exact ⟨by rw [HR.out]; rfl, below_drewN HB3.out _⟩
            · go_quiet (fail)
              go_wp2_with fail
              go_ret
              exact ⟨by rw [HR.out]; rfl, below_drewN HB3.out _⟩
      · have hqn : (E != 0) = true := by rw [bne_iff_ne]; exact hE
        have HR : Hid (R = E) := by
          have := HSt.out
          rw [if_pos hE] at this
          exact this.symm
        clear HSt
        go_wp2_with fail
        go_ret
        exact ⟨by rw [HR.out]; rfl, HB3.out⟩
    · obtain rfl : k = N := by omega
      have HE : Hid (0 = R) := by
        have := HC.out
        rwa [List.drop_eq_nil_of_le (by rw [HN.out]; exact Nat.le_refl _)] at this
      clear HC
      go_wp2_with fail
      go_ret
      exact ⟨by rw [← HE.out]; rfl, HB.out⟩

theorem find_bad {l : List Td.Nd} {s : List UInt8} (h : Td.check l ≠ 0) : Td.find l s = (0, Td.check l) := by unfold Td.find; rw [if_pos h]

theorem find_ok {l : List Td.Nd} {s : List UInt8} (h : Td.check l = 0) : (ixOf l s = -1 ∧ Td.find l s = (0, 9)) ∨ ∃ k : Nat, ixOf l s = k ∧ Td.find l s = (k, 0) := by
  unfold Td.find ixOf
  rw [if_neg (fun q => q h)]
  cases l.findIdx? fun n => n.name == s with
  | none => exact .inl ⟨rfl, rfl⟩
  | some k => exact .inr ⟨k, rfl, rfl⟩
end Go.Proofs.YtimdioacmojkeabDoor

namespace Go.Proofs
open Go.Shelf
def Tryd.lays129_ren : Go.Shelf.Ren := ⟨fun | 129 => 45 | n => n, fun | 53 => 57 | 3 => 3 | 4 => 4 | 46 => 78 | 5 => 5 | 9 => 9 | n => n, fun | n => n⟩
theorem Tryd.lays129 : Go.Proofs.Lays.n129 Tryd.prog Tryd.lays129_ren := {
  mixed := by kernel_rfl
  f129 := Tryd.func45.trans (congrArg some (by kernel_rfl))
  t3 := Tryd.underlying3
  a3 := Tryd.isAgg3
  z3 := Tryd.sizeOf3
  v3 := Tryd.zeroValue3
  t4 := Tryd.underlying4
  a4 := Tryd.isAgg4
  z4 := Tryd.sizeOf4
  v4 := Tryd.zeroValue4
  t5 := Tryd.underlying5
  a5 := Tryd.isAgg5
  z5 := Tryd.sizeOf5
  v5 := Tryd.zeroValue5
  t9 := Tryd.underlying9
  a9 := Tryd.isAgg9
  z9 := Tryd.sizeOf9
  v9 := Tryd.zeroValue9
  t46 := Tryd.underlying78
  a46 := Tryd.isAgg78
  z46 := Tryd.sizeOf78
  v46 := Tryd.zeroValue78
  t53 := Tryd.underlying57
  a53 := Tryd.isAgg57
  z53 := Tryd.sizeOf57
  v53 := Tryd.zeroValue57 }
theorem Tryd.bits_Len64 (x : Int) (w : World) (h0 : 0 ≤ x) (h1 : x ≤ 18446744073709551615) :
    Calls Tryd.prog 45 #[.int .u64 x] w fun e w' => e = .returned (.int .i64 (Lib.bitLen x.toNat)) ∧ w' = w := Any.bits_Len64 Tryd.lays129 x w h0 h1
end Go.Proofs

namespace Go.Proofs.YtimdioacmojkeabDoor
open Go.RowKit
set_option maxRecDepth 4000

theorem bitLen_dig (n : Nat) (h : n < 256 ^ 8) : (Lib.bitLen n + 7) / 8 = (Nm.dig n).length := by
  have key : ∀ (f m : Nat), m < 256 ^ f → f ≤ 8 → (Lib.bitLen m + 7) / 8 = (Nm.digF f m).length := by
    intro f
    induction f with
    | zero => intro m hm _; have : m = 0 := by simpa using hm
              subst this; decide
    | succ f ih =>
      intro m hm hf
      have h64 : m < 18446744073709551616 := Nat.lt_of_lt_of_le hm (Nat.le_trans (Nat.pow_le_pow_right (by omega) hf) (by omega))
      rw [Nm.digF]
      split
      · subst_vars; decide
      · rename_i hn
        by_cases hs : 256 ≤ m
        · rw [Lib.bitLen_shift8 m hs h64, List.length_append, List.length_singleton, ← ih (m / 256) (by rw [Nat.pow_succ] at hm; omega) (by omega)]
          omega
        · have h0 : m / 256 = 0 := by omega
          have hd : Nm.digF f 0 = [] := by cases f <;> simp [Nm.digF]
          rw [h0, hd]
          have h1 := Lib.bitLen_le8 ⟨m, by omega⟩
          have h2 := Lib.bitLen_half m hn (by omega)
          simp at h1 ⊢
          omega
  exact key 8 n h (by omega)

set_option maxHeartbeats 400000 in
theorem count_any (n : Int) (w : World) (h0 : 0 ≤ n) (h1 : n ≤ 18446744073709551615) :
    Calls Tryd.prog 33 #[.int .u64 n] w fun e w' => e = .returned (.int .i64 (Nm.dig n.toNat).length) ∧ w' = w := by
  have hb := bitLen_dig n.toNat (by omega)
  have hl := Nm.dig_length_le n.toNat
  have hbl : Lib.bitLen n.toNat ≤ 64 := by omega
  have HB : Hid ((Lib.bitLen n.toNat + 7) / 8 = (Nm.dig n.toNat).length) := hb
  clear hb hl
  go_enter Tryd.func33, Tryd.ntmps33
  go_wp2_with (go_at_call 45; refine (Tryd.bits_Len64 _ _ h0 h1).mono ?_; rintro e w' ⟨rfl, rfl⟩)
  go_ret
  exact ⟨ret_int (by rw [← HB.out]; omega), rfl⟩

theorem byte_at (n t : Int) (q : Nat) (n0 : 0 ≤ n) (h0 : 0 ≤ t) (h1 : t ≤ 255) :
    bits .xor .u8 (n / 2 ^ (8 * q) % 256) t = ((UInt8.ofNat (n.toNat / 256 ^ q % 256) ^^^ UInt8.ofNat t.toNat).toNat : Int) := by
  obtain ⟨m, rfl⟩ := Int.eq_ofNat_of_zero_le n0
  obtain ⟨T, rfl⟩ := Int.eq_ofNat_of_zero_le h0
  have e : ((m : Int) / 2 ^ (8 * q) % 256) = ((m / 256 ^ q % 256 : Nat) : Int) := by
    have : (2 : Int) ^ (8 * q) = ((256 ^ q : Nat) : Int) := by rw [Int.pow_mul]; simp
    rw [this]; simp
  rw [e, u8_xor_nat _ _ (by omega) (by omega)]
  simp only [Int.toNat_natCast]
  generalize m / 256 ^ q = x
  have hx : (UInt8.ofNat (x % 256)).toNat = x % 256 := by rw [UInt8.toNat_ofNat']; omega
  rw [← xor_u8 _ _ (by omega), hx]
theorem append_step {base : Nat} {w wr w1 : World} {v v1 : Value} {ys zs : List UInt8} {n t : Int} {q : Nat} {o : Obj} (hown : wr.ownsRow base 5 1 v ys.length (ys.map B))
    (hown1 : w1.ownsRow base 5 1 v1 (ys.length + 1) (ys.map B ++ [.int .u8 (bits .xor .u8 (n / 2 ^ (8 * q) % 256) t)])) (hg : (wr.alloc o).grownBy w1 v.ownBlock) (hbel : Below base w wr) (hbase : base ≤ w.heap.size)
    (heq : ys ++ Nm.tn t.toNat (Nm.low (q + 1) n.toNat) = zs) (n0 : 0 ≤ n) (_n1 : n ≤ 18446744073709551615) (h0 : 0 ≤ t) (h1 : t ≤ 255) :
    w1.ownsRow base 5 1 v1 (ys ++ [UInt8.ofNat (n.toNat / 256 ^ q % 256) ^^^ UInt8.ofNat t.toNat]).length ((ys ++ [UInt8.ofNat (n.toNat / 256 ^ q % 256) ^^^ UInt8.ofNat t.toNat]).map B) ∧
      (ys ++ [UInt8.ofNat (n.toNat / 256 ^ q % 256) ^^^ UInt8.ofNat t.toNat]) ++ Nm.tn t.toNat (Nm.low q n.toNat) = zs ∧ Below base w w1 := by
  refine ⟨?_, ?_, ?_⟩
  · rw [byte_at n t q n0 h0 h1] at hown1
    simpa [B] using hown1
  · rw [← heq, Nm.low, List.append_assoc]
    simp [Nm.tn]
  · have hs := hbel.size
    refine (hbel.alloc (by omega) o).grown hg (by simp; omega) ?_
    intro k hk
    exact (hown.lt k hk).1

set_option maxHeartbeats 400000 in
theorem digits_app (base : Nat) (v : Value) (xs : List UInt8) (n k t : Int) (w : World) (hown : w.ownsRow base 5 1 v xs.length (xs.map B)) (hbase : base ≤ w.heap.size) (hx : xs.length ≤ 1000)
    (n0 : 0 ≤ n) (n1 : n ≤ 18446744073709551615) (k0 : 0 ≤ k) (k1 : k ≤ 8) (h0 : 0 ≤ t) (h1 : t ≤ 255) :
    Calls Tryd.prog 34 #[v, .int .u64 n, .int .i64 k, .int .u8 t] w fun e w' => ∃ v', e = .returned v' ∧
      w'.ownsRow base 5 1 v' (xs ++ Nm.tn t.toNat (Nm.low k.toNat n.toNat)).length ((xs ++ Nm.tn t.toNat (Nm.low k.toNat n.toNat)).map B) ∧ Below base w w' := by
  obtain ⟨i0, hi, hz0, hz1, hz2⟩ := info_parts info_u8
  go_enter Tryd.func34, Tryd.ntmps34
  go_wp2
  go_loopw [0, 9] (fun v i wr => ∃ (r : Nat) (ys : List UInt8), r ≤ k.toNat ∧ i = .int .i64 ((r : Int) - 1) ∧ wr.ownsRow base 5 1 v ys.length (ys.map B) ∧
      ys ++ Nm.tn t.toNat (Nm.low r n.toNat) = xs ++ Nm.tn t.toNat (Nm.low k.toNat n.toNat) ∧ Below base w wr) (fun _ i _ => (intOf i + 1).toNat)
  case atStart => exact ⟨k.toNat, xs, Nat.le_refl _, int_eq (by omega), hown, rfl, Below.refl _ _⟩
  case round =>
    obtain ⟨r, ys, hr, rfl, hown', heq, hbel⟩ := hrel
    have hbs := hbel.size
    cases r with
    | zero =>
      go_wp2
      go_ret
      refine ⟨u0, rfl, ?_, hbel⟩
      rw [← heq, show Nm.low 0 n.toNat = [] from rfl]
      simpa [Nm.tn] using hown'
    | succ q =>
      have hyl : ys.length ≤ xs.length + 8 := by
        have := congrArg List.length heq
        simp [Nm.tn_length, Nm.low_length] at this
        omega
      go_wp2_with (at_builtin; refine wpList_append_own _ rfl _ _ 45 rfl base 5 i0 (.int .u8 0) 1 1 Tryd.underlying45 hi hz0 hz1 hz2 rfl (by decide) _ _ _ rfl (hown'.alloc _) ⟨wr.heap.size, 0, none⟩ 1 1 [.int .u8 (bits .xor .u8 (n / 2 ^ (8 * q) % 256) t)] rfl rfl ?c1 ?c2 ?c3 ?c4 ?c5 ?_)
      case c1 =>
        intro j u hj
        match j, hj with
        | 0, hj => simp at hj; subst hj; simp [Addr.add]
      case c2 => intro u hu; simp at hu; subst hu; rfl
      case c3 => unfold maxLen; omega
      case c4 => omega
      case c5 => simp; omega
      intro v' w1 hown1 hgrow _
      have R := append_step (q := q) hown' hown1 hgrow hbel hbase heq n0 n1 h0 h1
      clear hown1 hgrow hown' heq hbel
      go_wp2
      go_roundw
      case rel => exact ⟨q, _, by omega, by go_num, R.1, R.2.1, R.2.2⟩
      case measure => simp [intOf]
end Go.Proofs.YtimdioacmojkeabDoor

namespace Go.Proofs.YtimdioacmojkeabDoor
open Go.RowKit
set_option maxRecDepth 4000

theorem or_byte (m b : Nat) (hb : b < 256) : m * 256 ||| b = m * 256 + b := by
  have := Nat.two_pow_add_eq_or_of_lt (i := 8) (b := b) hb m
  rw [Nat.mul_comm m 256]
  exact this.symm
theorem join_step (m : Nat) (b : UInt8) (t : Int) (hm : m < 72057594037927936) (h0 : 0 ≤ t) (h1 : t ≤ 255) :
    bits .or .u64 (IntKind.u64.wrap ((m : Int) * 256)) (IntKind.u64.wrap (bits .xor .u8 (b.toNat : Int) t)) = ((256 * m + (b ^^^ UInt8.ofNat t.toNat).toNat : Nat) : Int) := by
  obtain ⟨T, rfl⟩ := Int.eq_ofNat_of_zero_le h0
  have hb := b.toNat_lt
  rw [u8_xor_nat _ _ (by omega) (by omega), Int.toNat_natCast, xor_u8 _ _ (by omega)]
  have hx := (b ^^^ UInt8.ofNat T).toNat_lt
  rw [wrap_u64 _ (by omega) (by omega), wrap_u64 _ (by omega) (by omega)]
  rw [show ((m : Int) * 256) = ((m * 256 : Nat) : Int) from by omega, u64_or_nat _ _ (by omega) (by omega), or_byte _ _ (by omega)]
  omega

set_option maxHeartbeats 400000 in
theorem digits_join (s : ByteArray) (t : Int) (w : World) (hl : s.size ≤ 8) (h0 : 0 ≤ t) (h1 : t ≤ 255) :
    Calls Tryd.prog 52 #[.string s, .int .u8 t] w fun e w' => e = .returned (.int .u64 (Nm.val (Nm.tn t.toNat s.data.toList))) ∧ w' = w := by
  go_enter Tryd.func52, Tryd.ntmps52
  go_wp2
  go_loop [5, 6] (fun n i => ∃ k : Nat, k ≤ s.size ∧ i = .int .i64 k ∧ n = .int .u64 (Nm.val (Nm.tn t.toNat (s.data.toList.take k)))) (fun _ i => s.size - (intOf i).toNat)
  case atStart => exact ⟨0, Nat.zero_le _, rfl, by simp [Nm.tn, Nm.val_nil]⟩
  case round =>
    obtain ⟨k, hk, rfl, rfl⟩ := hrel
    by_cases hlt : k < s.size
    · go_wp2
      go_round
      case rel =>
        refine ⟨k + 1, by omega, by go_num, int_eq ?_⟩
        have hv := Nm.val_lt (Nm.tn t.toNat (s.data.toList.take k))
        have hle : (Nm.tn t.toNat (s.data.toList.take k)).length ≤ 7 := by rw [Nm.tn_length]; have := List.length_take_le k s.data.toList; omega
        have hp : 256 ^ (Nm.tn t.toNat (s.data.toList.take k)).length ≤ 256 ^ 7 := Nat.pow_le_pow_right (by omega) hle
        rw [take_snoc s k hlt, Nm.tn_append, Nm.tn, Nm.tn, List.map_cons, List.map_nil, Nm.val_snoc]
        exact join_step _ _ _ (by simp only [Nm.tn] at hv hp ⊢; omega) h0 h1
      case measure => simp [intOf]; omega
    · go_wp2
      go_ret
      exact ⟨ret_int (by rw [List.take_of_length_le (by simp; omega)]), rfl⟩

theorem xor_zero (s : ByteArray) (t : Int) (h : 0 < s.size) (h0 : 0 ≤ t) (h1 : t ≤ 255) : (bits BinOp.xor IntKind.u8 (s[0].toNat : Int) t == 0) = decide (s.data.toList.headD 0 ^^^ UInt8.ofNat t.toNat = 0) := by
  obtain ⟨T, rfl⟩ := Int.eq_ofNat_of_zero_le h0
  have hb := s[0].toNat_lt
  rw [u8_xor_nat _ _ (by omega) (by omega), Int.toNat_natCast, xor_u8 _ _ (by omega)]
  have e : s.data.toList.headD 0 = s[0] := head_byte s h
  rw [e, Bool.eq_iff_iff]
  simp only [beq_iff_eq, decide_eq_true_eq]
  constructor
  · intro h; exact UInt8.toNat_inj.1 (by simpa using h)
  · intro h; rw [h]; rfl

set_option maxHeartbeats 400000 in
theorem digits_read (s : ByteArray) (k t : Int) (w : World) (hs : s.size ≤ 9223372036854775807) (k0 : 0 ≤ k) (k1 : k ≤ 255) (h0 : 0 ≤ t) (h1 : t ≤ 255) :
    Calls Tryd.prog 46 #[.string s, .int .i64 k, .int .u8 t] w fun e w' =>
      e = .returned (.tuple #[.int .u64 (Nm.readN s.data.toList k.toNat t.toNat).1, .int .i64 (Nm.readN s.data.toList k.toNat t.toNat).2]) ∧ w' = w := by
  by_cases h8 : 8 < k
  · have hr : Nm.readN s.data.toList k.toNat t.toNat = (0, 4) := by rw [Nm.readN, if_pos (by omega)]
    rw [hr]
    go_enter Tryd.func46, Tryd.ntmps46
    go_wp2
    go_ret2
    exact ⟨rfl, rfl⟩
  by_cases hk : (s.size : Int) < k
  · have hr : Nm.readN s.data.toList k.toNat t.toNat = (0, 3) := by rw [Nm.readN, if_neg (by omega), if_pos (by simp; omega)]
    rw [hr]
    go_enter Tryd.func46, Tryd.ntmps46
    go_wp2
    go_ret2
    exact ⟨rfl, rfl⟩
  by_cases hz : 0 < k
  · have hp : 0 < s.size := by omega
    have hx := xor_zero s t hp h0 h1
    by_cases hd : s.data.toList.headD 0 ^^^ UInt8.ofNat t.toNat = 0
    · have hr : Nm.readN s.data.toList k.toNat t.toNat = (0, 4) := by rw [Nm.readN, if_neg (by omega), if_neg (by simp; omega), if_pos ⟨by omega, hd⟩]
      rw [hr]
      rw [decide_eq_true hd] at hx
      clear hd hr
      go_enter Tryd.func46, Tryd.ntmps46
      go_wp2
      go_ret2
      exact ⟨rfl, rfl⟩
    · have hr : Nm.readN s.data.toList k.toNat t.toNat = (Nm.val (Nm.tn t.toNat (s.data.toList.take k.toNat)), 0) := by rw [Nm.readN, if_neg (by omega), if_neg (by simp; omega), if_neg (by intro h; exact hd h.2)]
      rw [hr]
      rw [decide_eq_false hd] at hx
      clear hd hr
      go_enter Tryd.func46, Tryd.ntmps46
      go_wp2_with (go_at_call 52; refine (digits_join _ _ _ (by simp; omega) h0 h1).mono ?_; rintro e w' ⟨rfl, rfl⟩)
      go_ret2
      exact ⟨rfl, rfl⟩
  · have hr : Nm.readN s.data.toList k.toNat t.toNat = (Nm.val (Nm.tn t.toNat []), 0) := by rw [Nm.readN, if_neg (by omega), if_neg (by simp; omega), if_neg (by intro h; omega), show k.toNat = 0 from by omega, List.take_zero]
    rw [hr]
    clear hr
    go_enter Tryd.func46, Tryd.ntmps46
    go_wp2_with (go_at_call 52; refine (digits_join _ _ _ (by simp; omega) h0 h1).mono ?_; rintro e w' ⟨rfl, rfl⟩)
    go_ret2
    exact ⟨rfl, rfl⟩
end Go.Proofs.YtimdioacmojkeabDoor

namespace Go.Proofs.YtimdioacmojkeabDoor
open Go.RowKit
set_option maxRecDepth 4000

theorem list_ne (s : ByteArray) (h : 0 < s.size) : s.data.toList ≠ [] := by
  intro e; have := Lib.size_eq s; rw [e] at this; simp only [List.length_nil] at this; omega

theorem tail_data (s : ByteArray) : (s.extract 1 s.size).data.toList = s.data.toList.tail := by
  rw [Lib.extract_data, List.take_of_length_le, List.drop_one]
  rw [List.length_drop, ← Lib.size_eq]
  exact Nat.le_refl _

theorem read_tail (s : ByteArray) (c t : Int) (w : World) (hs : s.size ≤ 9223372036854775807) (k0 : 0 ≤ c) (k1 : c ≤ 255) (h0 : 0 ≤ t) (h1 : t ≤ 255) :
    Calls Tryd.prog 46 #[.string (s.extract 1 s.size), .int .i64 c, .int .u8 t] w fun e w' =>
      e = .returned (.tuple #[.int .u64 (Nm.readN s.data.toList.tail c.toNat t.toNat).1, .int .i64 (Nm.readN s.data.toList.tail c.toNat t.toNat).2]) ∧ w' = w := by
  have h := digits_read (s.extract 1 s.size) c t w (by simp; omega) k0 k1 h0 h1
  rw [tail_data] at h
  exact h

set_option maxHeartbeats 400000 in
theorem get_any (s : ByteArray) (w : World) (hs : s.size ≤ 9223372036854775807) :
    Calls Tryd.prog 36 #[.string s] w fun e w' =>
      e = .returned (.tuple #[.int .u64 (Nm.getN s.data.toList).1, .int .i64 (Nm.getN s.data.toList).2.1, .int .i64 (Nm.getN s.data.toList).2.2]) ∧ w' = w := by
  by_cases h0 : s.size = 0
  · have hr : Nm.getN s.data.toList = (0, 0, 3) := by rw [Nm.getN, if_pos (List.length_eq_zero_iff.1 (by simpa using h0))]
    rw [hr]
    go_enter Tryd.func36, Tryd.ntmps36
    go_wp2
    go_ret3
    exact ⟨rfl, rfl⟩
  · have hp : 0 < s.size := by omega
    have hne := list_ne s hp
    have hb := s[0].toNat_lt
    have hh := head_byte s hp
    have hz : ((s.size : Int) == 0) = false := beq_eq_false_iff_ne.2 (by omega)
    have hg : Nm.getN s.data.toList = if (Nm.readN s.data.toList.tail s[0].toNat 0).2 = 0 then ((Nm.readN s.data.toList.tail s[0].toNat 0).1, 1 + s[0].toNat, (0 : Int)) else ((0 : Nat), (0 : Nat), (Nm.readN s.data.toList.tail s[0].toNat 0).2) := by
      rw [Nm.getN, if_neg hne]; simp only [hh]
    rw [hg]
    clear hg hh hne h0
    generalize hc : s[0] = c at *
    generalize hR : Nm.readN s.data.toList.tail c.toNat 0 = r
    obtain ⟨r1, r2⟩ := r
    have HR : Hid (Nm.readN s.data.toList.tail c.toNat 0 = (r1, r2)) := hR
    clear hR
    by_cases hr : r2 = 0
    · subst hr
      rw [if_pos rfl]
      go_enter Tryd.func36, Tryd.ntmps36
      go_wp2_with fail
      refine (read_tail s _ 0 _ hs (by omega) (by omega) (by omega) (by omega)).mono ?_
      rintro e w' ⟨rfl, rfl⟩
      rw [Int.toNat_natCast, show (0 : Int).toNat = 0 from rfl, HR.out]
      go_wp2
      go_ret3
      exact ⟨rfl, rfl⟩
    · have hq : (r2 != 0) = true := by simpa using hr
      rw [if_neg hr]
      go_enter Tryd.func36, Tryd.ntmps36
      go_wp2_with fail
      refine (read_tail s _ 0 _ hs (by omega) (by omega) (by omega) (by omega)).mono ?_
      rintro e w' ⟨rfl, rfl⟩
      rw [Int.toNat_natCast, show (0 : Int).toNat = 0 from rfl, HR.out]
      go_wp2
      go_ret3
      exact ⟨rfl, rfl⟩
end Go.Proofs.YtimdioacmojkeabDoor

namespace Go.Proofs.YtimdioacmojkeabDoor
open Go.RowKit
set_option maxRecDepth 4000

theorem head_hi (c : Int) (w : World) (h0 : 128 ≤ c) (h1 : c ≤ 255) :
    Calls Tryd.prog 53 #[.int .u8 c] w fun e w' => e = .returned (.tuple #[.int .i64 (c - 128), .int .u8 0]) ∧ w' = w := by
  go_enter Tryd.func53, Tryd.ntmps53
  go_wp2
  go_ret2
  exact ⟨rfl, rfl⟩
theorem head_lo (c : Int) (w : World) (h0 : 0 ≤ c) (h1 : c ≤ 127) :
    Calls Tryd.prog 53 #[.int .u8 c] w fun e w' => e = .returned (.tuple #[.int .i64 (127 - c), .int .u8 255]) ∧ w' = w := by
  go_enter Tryd.func53, Tryd.ntmps53
  go_wp2
  go_ret2
  exact ⟨rfl, rfl⟩
theorem readN_lt (l : List UInt8) (k t : Nat) : (Nm.readN l k t).1 < 18446744073709551616 := by
  unfold Nm.readN
  split
  · simp
  split
  · simp
  split
  · simp
  · rename_i h8 _ _
    have h := Nm.val_lt (Nm.tn t (l.take k))
    have hle : (Nm.tn t (l.take k)).length ≤ 8 := by rw [Nm.tn_length]; have := List.length_take_le k l; omega
    have hp : 256 ^ (Nm.tn t (l.take k)).length ≤ 256 ^ 8 := Nat.pow_le_pow_right (by omega) hle
    show Nm.val (Nm.tn t (l.take k)) < 18446744073709551616
    omega

set_option maxHeartbeats 1000000 in
theorem getI_any (s : ByteArray) (w : World) (hs : s.size ≤ 9223372036854775807) :
    Calls Tryd.prog 49 #[.string s] w fun e w' =>
      e = .returned (.tuple #[.int .i64 (Nm.getI s.data.toList).1, .int .i64 (Nm.getI s.data.toList).2.1, .int .i64 (Nm.getI s.data.toList).2.2]) ∧ w' = w := by
  by_cases h0 : s.size = 0
  · have hr : Nm.getI s.data.toList = (0, 0, 3) := by rw [Nm.getI, if_pos (List.length_eq_zero_iff.1 (by simpa using h0))]
    rw [hr]
    go_enter Tryd.func49, Tryd.ntmps49
    go_wp2
    go_ret3
    exact ⟨rfl, rfl⟩
  · have hp : 0 < s.size := by omega
    have hne := list_ne s hp
    have hb := s[0].toNat_lt
    have hh := head_byte s hp
    have hz : ((s.size : Int) == 0) = false := beq_eq_false_iff_ne.2 (by omega)
    generalize hc : s[0] = c at *
    by_cases hc128 : 128 ≤ c.toNat
    · obtain ⟨kk, hkk⟩ : ∃ kk : Nat, kk = c.toNat - 128 := ⟨_, rfl⟩
      have hk255 : kk ≤ 255 := by omega
      have hg : Nm.getI s.data.toList = if (Nm.readN s.data.toList.tail kk 0).2 = 0 then (if 9223372036854775807 < (Nm.readN s.data.toList.tail kk 0).1 then ((0 : Int), (0 : Nat), (4 : Int)) else ( ((Nm.readN s.data.toList.tail kk 0).1 : Int), 1 + kk, (0 : Int))) else ((0 : Int), (0 : Nat), (Nm.readN s.data.toList.tail kk 0).2) := by
        rw [Nm.getI, if_neg hne]; simp only [hh]; rw [if_pos hc128, ← hkk]
      rw [hg]
      clear hg hh hne h0
      have hkI : (c.toNat : Int) - 128 = (kk : Int) := by omega
      have HK : Hid ((c.toNat : Int) - 128 = (kk : Int)) := hkI
      clear hkI hkk
      have hlt := readN_lt s.data.toList.tail kk 0
      generalize hR : Nm.readN s.data.toList.tail kk 0 = r at *
      obtain ⟨r1, r2⟩ := r
      simp only at hlt
      have HR : Hid (Nm.readN s.data.toList.tail kk 0 = (r1, r2)) := hR
      clear hR
      by_cases hr : r2 = 0
      · subst hr
        rw [if_pos rfl]
        by_cases hm : 9223372036854775807 < r1
        · rw [if_pos hm]
          go_enter Tryd.func49, Tryd.ntmps49
          go_wp2_with (go_at_call 53; refine (head_hi _ _ (by omega) (by omega)).mono ?_; rintro e w' ⟨rfl, rfl⟩; rw [HK.out])
          refine (read_tail s _ 0 _ hs (by omega) (by omega) (by omega) (by omega)).mono ?_
          rintro e w' ⟨rfl, rfl⟩
          rw [Int.toNat_natCast, show (0 : Int).toNat = 0 from rfl, HR.out]
          go_wp2
          go_ret3
          exact ⟨rfl, rfl⟩
        · rw [if_neg hm]
          go_enter Tryd.func49, Tryd.ntmps49
          go_wp2_with (go_at_call 53; refine (head_hi _ _ (by omega) (by omega)).mono ?_; rintro e w' ⟨rfl, rfl⟩; rw [HK.out])
          refine (read_tail s _ 0 _ hs (by omega) (by omega) (by omega) (by omega)).mono ?_
          rintro e w' ⟨rfl, rfl⟩
          rw [Int.toNat_natCast, show (0 : Int).toNat = 0 from rfl, HR.out]
          go_wp2
          go_ret3
          exact ⟨rfl, rfl⟩
      · have hq : (r2 != 0) = true := by simpa using hr
        rw [if_neg hr]
        go_enter Tryd.func49, Tryd.ntmps49
        go_wp2_with (go_at_call 53; refine (head_hi _ _ (by omega) (by omega)).mono ?_; rintro e w' ⟨rfl, rfl⟩; rw [HK.out])
        refine (read_tail s _ 0 _ hs (by omega) (by omega) (by omega) (by omega)).mono ?_
        rintro e w' ⟨rfl, rfl⟩
        rw [Int.toNat_natCast, show (0 : Int).toNat = 0 from rfl, HR.out]
        go_wp2
        go_ret3
        exact ⟨rfl, rfl⟩
    · obtain ⟨kk, hkk⟩ : ∃ kk : Nat, kk = 127 - c.toNat := ⟨_, rfl⟩
      have hk255 : kk ≤ 255 := by omega
      have hg : Nm.getI s.data.toList = if (Nm.readN s.data.toList.tail kk 255).2 = 0 then (if 9223372036854775807 < (Nm.readN s.data.toList.tail kk 255).1 then ((0 : Int), (0 : Nat), (4 : Int)) else (-1 - ((Nm.readN s.data.toList.tail kk 255).1 : Int), 1 + kk, (0 : Int))) else ((0 : Int), (0 : Nat), (Nm.readN s.data.toList.tail kk 255).2) := by
        rw [Nm.getI, if_neg hne]; simp only [hh]; rw [if_neg hc128, ← hkk]
      rw [hg]
      clear hg hh hne h0
      have hkI : 127 - (c.toNat : Int) = (kk : Int) := by omega
      have HK : Hid (127 - (c.toNat : Int) = (kk : Int)) := hkI
      clear hkI hkk
      have hlt := readN_lt s.data.toList.tail kk 255
      generalize hR : Nm.readN s.data.toList.tail kk 255 = r at *
      obtain ⟨r1, r2⟩ := r
      simp only at hlt
      have HR : Hid (Nm.readN s.data.toList.tail kk 255 = (r1, r2)) := hR
      clear hR
      by_cases hr : r2 = 0
      · subst hr
        rw [if_pos rfl]
        by_cases hm : 9223372036854775807 < r1
        · rw [if_pos hm]
          go_enter Tryd.func49, Tryd.ntmps49
          go_wp2_with (go_at_call 53; refine (head_lo _ _ (by omega) (by omega)).mono ?_; rintro e w' ⟨rfl, rfl⟩; rw [HK.out])
          refine (read_tail s _ 255 _ hs (by omega) (by omega) (by omega) (by omega)).mono ?_
          rintro e w' ⟨rfl, rfl⟩
          rw [Int.toNat_natCast, show (255 : Int).toNat = 255 from rfl, HR.out]
          go_wp2
          go_ret3
          exact ⟨rfl, rfl⟩
        · rw [if_neg hm]
          go_enter Tryd.func49, Tryd.ntmps49
          go_wp2_with (go_at_call 53; refine (head_lo _ _ (by omega) (by omega)).mono ?_; rintro e w' ⟨rfl, rfl⟩; rw [HK.out])
          refine (read_tail s _ 255 _ hs (by omega) (by omega) (by omega) (by omega)).mono ?_
          rintro e w' ⟨rfl, rfl⟩
          rw [Int.toNat_natCast, show (255 : Int).toNat = 255 from rfl, HR.out]
          go_wp2
          go_ret3
          exact ⟨rfl, rfl⟩
      · have hq : (r2 != 0) = true := by simpa using hr
        rw [if_neg hr]
        go_enter Tryd.func49, Tryd.ntmps49
        go_wp2_with (go_at_call 53; refine (head_lo _ _ (by omega) (by omega)).mono ?_; rintro e w' ⟨rfl, rfl⟩; rw [HK.out])
        refine (read_tail s _ 255 _ hs (by omega) (by omega) (by omega) (by omega)).mono ?_
        rintro e w' ⟨rfl, rfl⟩
        rw [Int.toNat_natCast, show (255 : Int).toNat = 255 from rfl, HR.out]
        go_wp2
        go_ret3
        exact ⟨rfl, rfl⟩
end Go.Proofs.YtimdioacmojkeabDoor

namespace Go.Proofs.YtimdioacmojkeabDoor
open Go.RowKit
set_option maxRecDepth 4000

set_option maxHeartbeats 1000000 in
theorem putT_any (s : ByteArray) (w : World) (hs : s.size ≤ 1024) :
    Calls Tryd.prog 35 #[.string s] w fun e w' => e = .returned (.tuple #[.string ⟨(Nm.putT s.data.toList).toArray⟩, .int .i64 0]) ∧ Below w.heap.size w w' := by
  obtain ⟨i0, hi, hz0, hz1, hz2⟩ := info_parts info_u8
  go_enter Tryd.func35, Tryd.ntmps35
  go_wp2
  go_loopw [4, 5] (fun v i wr => ∃ (k : Nat) (ys : List UInt8), k ≤ s.size ∧ i = .int .i64 k ∧ wr.ownsRow w.heap.size 5 1 v ys.length (ys.map B) ∧
      ys = Nm.esc (s.data.toList.take k) ∧ Below w.heap.size w wr) (fun _ i _ => s.size - (intOf i).toNat)
  case atStart => exact ⟨0, [], Nat.zero_le _, rfl, World.ownsRow_nil _ _ _ _, rfl, Below.refl _ _⟩
  case round =>
    obtain ⟨k, ys, hk, rfl, hown, hys, hbel⟩ := hrel
    have hbs := hbel.size
    have HY : Hid (ys = Nm.esc (s.data.toList.take k)) := hys
    have hyl : ys.length ≤ 2048 := by rw [hys]; have := Nm.esc_length (s.data.toList.take k); have := List.length_take_le k s.data.toList; omega
    clear hys
    by_cases hlt : k < s.size
    · have hb := s[k].toNat_lt
      have hts := take_snoc s k hlt
      have HT : Hid (s.data.toList.take (k + 1) = s.data.toList.take k ++ [s[k]]) := hts
      clear hts
      generalize hc : s[k] = c at *
      by_cases hz : c = 0
      · have hq : ((c.toNat : Int) == 0) = true := by rw [hz]; decide
        have HZ : Hid (c = 0) := hz
        clear hz
        go_wp2_with (at_builtin; refine wpList_append_own _ rfl (.tmp 15) (.tmp 19) 45 rfl w.heap.size 5 i0 (.int .u8 0) 1 1 Tryd.underlying45 hi hz0 hz1 hz2 rfl (by decide) _ _ _ rfl (hown.alloc _) ⟨wr.heap.size, 0, none⟩ 1 1 [.int .u8 (c.toNat : Int)] rfl rfl ?c1 ?c2 ?c3 ?c4 ?c5 ?_)
        case c1 =>
          intro j u hj
          match j, hj with
          | 0, hj => simp at hj; subst hj; simp [Addr.add]
        case c2 => intro u hu; simp at hu; subst hu; rfl
        case c3 => unfold maxLen; omega
        case c4 => omega
        case c5 => simp; omega
        intro v1 w1 hown1 hgrow _
        obtain ⟨hown2, hbel2⟩ := own_more (b := c) hown hown1 rfl hgrow hbel (Nat.le_refl _)
        clear hown1 hgrow hown hbel
        have hbs2 := hbel2.size
        go_wp2_with (at_builtin; refine wpList_append_own _ rfl (.tmp 25) (.tmp 26) 45 rfl w.heap.size 5 i0 (.int .u8 0) 1 1 Tryd.underlying45 hi hz0 hz1 hz2 rfl (by decide) _ _ _ rfl (hown2.alloc _) ⟨w1.heap.size, 0, none⟩ 1 1 [.int .u8 255] rfl rfl ?d1 ?d2 ?d3 ?d4 ?d5 ?_)
        case d1 =>
          intro j u hj
          match j, hj with
          | 0, hj => simp at hj; subst hj; simp [Addr.add]
        case d2 => intro u hu; simp at hu; subst hu; rfl
        case d3 => unfold maxLen; simp; omega
        case d4 => simp; omega
        case d5 => simp; omega
        intro v2 w2 hown3 hgrow2 _
        obtain ⟨hown4, hbel4⟩ := own_more (b := 255) hown2 (by simpa using hown3) rfl hgrow2 hbel2 (Nat.le_refl _)
        clear hown3 hgrow2 hown2 hbel2
        go_wp2
        go_roundw
        case rel => exact ⟨k + 1, _, by omega, by go_num, hown4, by rw [HT.out, HZ.out, Nm.esc_zero, ← HY.out], hbel4⟩
        case measure => simp [intOf]; omega
      · have hq : ((c.toNat : Int) == 0) = false := by
          rw [beq_eq_false_iff_ne]; intro h; exact hz (UInt8.toNat_inj.1 (by simp; omega))
        go_wp2_with (at_builtin; refine wpList_append_own _ rfl (.tmp 15) (.tmp 19) 45 rfl w.heap.size 5 i0 (.int .u8 0) 1 1 Tryd.underlying45 hi hz0 hz1 hz2 rfl (by decide) _ _ _ rfl (hown.alloc _) ⟨wr.heap.size, 0, none⟩ 1 1 [.int .u8 (c.toNat : Int)] rfl rfl ?e1 ?e2 ?e3 ?e4 ?e5 ?_)
        case e1 =>
          intro j u hj
          match j, hj with
          | 0, hj => simp at hj; subst hj; simp [Addr.add]
        case e2 => intro u hu; simp at hu; subst hu; rfl
        case e3 => unfold maxLen; omega
        case e4 => omega
        case e5 => simp; omega
        intro v1 w1 hown1 hgrow _
        obtain ⟨hown2, hbel2⟩ := own_more (b := c) hown hown1 rfl hgrow hbel (Nat.le_refl _)
        clear hown1 hgrow hown hbel
        go_wp2
        go_roundw
        case rel => exact ⟨k + 1, _, by omega, by go_num, hown2, by rw [HT.out, Nm.esc_other _ _ hz, ← HY.out], hbel2⟩
        case measure => simp [intOf]; omega
    · have hfin : Hid (ys ++ [0, 0] = Nm.putT s.data.toList) := by
        show _ = _
        rw [HY.out, List.take_of_length_le (by rw [← Lib.size_eq]; omega)]; rfl
      go_wp2_with (at_builtin; refine wpList_append_own _ rfl (.tmp 28) (.tmp 29) 45 rfl w.heap.size 5 i0 (.int .u8 0) 1 1 Tryd.underlying45 hi hz0 hz1 hz2 rfl (by decide) _ _ _ rfl (hown.alloc _) ⟨wr.heap.size, 0, none⟩ 2 2 [.int .u8 0, .int .u8 0] rfl rfl ?f1 ?f2 ?f3 ?f4 ?f5 ?_)
      case f1 =>
        intro j u hj
        match j, hj with
        | 0, hj => simp at hj; subst hj; simp [Addr.add]
        | 1, hj => simp at hj; subst hj; simp [Addr.add]
      case f2 => intro u hu; simp at hu; subst hu; rfl
      case f3 => unfold maxLen; omega
      case f4 => omega
      case f5 => simp; omega
      intro v1 w1 hown1 hgrow _
      have hown2 : w1.ownsRow w.heap.size 5 1 v1 (ys ++ [0, 0]).length ((ys ++ [0, 0]).map B) := by simpa [B] using hown1
      have hbel2 : Below w.heap.size w w1 := by
        refine (hbel.alloc hbs _).grown hgrow (by simp; omega) ?_
        intro j hj
        exact (hown.lt j hj).1
      rw [hfin.out] at hown2
      have hcv := run_str hown2
      clear hown1 hown2 hgrow hown hbel
      go_wp2
      go_ret2
      exact ⟨rfl, hbel2⟩

set_option maxHeartbeats 400000 in
theorem putT_large (s : ByteArray) (w : World) (hs : 1024 < s.size) (_h : s.size ≤ 140737488351232) :
    Calls Tryd.prog 35 #[.string s] w fun e w' => e = .returned (.tuple #[.string ⟨#[]⟩, .int .i64 2]) ∧ w' = w := by
  go_enter Tryd.func35, Tryd.ntmps35
  go_wp2
  go_ret2
  exact ⟨rfl, rfl⟩
end Go.Proofs.YtimdioacmojkeabDoor

namespace Go.Proofs.YtimdioacmojkeabDoor
open Go.RowKit
set_option maxRecDepth 4000

theorem drop_byte (s : ByteArray) (k : Nat) (h : k < s.size) : s.data.toList.drop k = s[k] :: s.data.toList.drop (k + 1) := by
  rw [List.drop_eq_getElem_cons (by simpa using h)]; rfl
theorem byte_ne (c z : UInt8) (h : c ≠ z) : ((c.toNat : Int) == (z.toNat : Int)) = false := by
  rw [beq_eq_false_iff_ne]; intro e; exact h (UInt8.toNat_inj.1 (by omega))

/-- an owned slice shows its length -/
theorem gt_own_len {w : World} {base : Nat} {v : Value} {ys : List UInt8} (h : w.ownsRow base 5 1 v ys.length (ys.map B)) : ∃ a cap, v = .slice a ys.length cap := by
  rcases h.2 with ⟨rfl, h0⟩ | ⟨g, cap, cur, rfl, _⟩
  · exact ⟨none, 0, by rw [h0]⟩
  · exact ⟨_, _, rfl⟩

set_option maxHeartbeats 2000000 in
theorem getT_any (s : ByteArray) (w : World) (hs : s.size ≤ 140737488355328) :
    Calls Tryd.prog 47 #[.string s] w fun e w' =>
      e = .returned (.tuple #[.string ⟨(Nm.getT s.data.toList).1.toArray⟩, .int .i64 (Nm.getT s.data.toList).2.1, .int .i64 (Nm.getT s.data.toList).2.2]) ∧ Below w.heap.size w w' := by
  obtain ⟨i0, hi, hz0, hz1, hz2⟩ := info_parts info_u8
  obtain ⟨G, hG⟩ : ∃ G, Nm.getT s.data.toList = G := ⟨_, rfl⟩
  rw [hG]
  have HG : Hid (Nm.scanT s.data.toList [] 0 = G) := hG
  clear hG
  go_enter Tryd.func47, Tryd.ntmps47
  go_wp2
  go_loopw [5, 6] (fun v i wr => ∃ (k : Nat) (ys : List UInt8), k ≤ s.size ∧ i = .int .i64 k ∧ wr.ownsRow w.heap.size 5 1 v ys.length (ys.map B) ∧
      Hid (Nm.scanT (s.data.toList.drop k) ys k = G) ∧ ys.length ≤ 1024 ∧ Below w.heap.size w wr) (fun _ i _ => s.size - (intOf i).toNat)
  case atStart => exact ⟨0, [], Nat.zero_le _, rfl, World.ownsRow_nil _ _ _ _, HG, by simp, Below.refl _ _⟩
  case round =>
    obtain ⟨k, ys, hk, rfl, hown, HS, hyl, hbel⟩ := hrel
    have hbs := hbel.size
    have hyl2 : ys.length ≤ 1024 := hyl
    by_cases hlt : k < s.size
    · have hb := s[k].toNat_lt
      have hds := drop_byte s k hlt
      generalize hc : s[k] = c at *
      by_cases hz : c = 0
      · subst hz
        by_cases he : k + 1 = s.size
        · have hq1 : ((k : Int) + 1 == (s.size : Int)) = true := by rw [beq_iff_eq]; omega
          have hres : G = ([], 0, 3) := by rw [← HS.out, hds, List.drop_of_length_le (by rw [← Lib.size_eq]; omega)]; exact Nm.scan_end _ _
          subst hres
          clear hds HS HG he
          go_wp2
          go_ret3
          exact ⟨rfl, hbel⟩
        have hlt2 : k + 1 < s.size := by omega
        have hq1 : ((k : Int) + 1 == (s.size : Int)) = false := by rw [beq_eq_false_iff_ne]; omega
        have hds2 := drop_byte s (k + 1) hlt2
        rw [hds2] at hds
        have hb2 := s[k + 1].toNat_lt
        clear hds2
        generalize hd : s[k + 1] = d at *
        by_cases hd0 : d = 0
        · subst hd0
          have hres : G = (ys, k + 2, 0) := by rw [← HS.out, hds]; exact Nm.scan_zeros _ _ _
          subst hres
          have hcv := run_str hown
          clear hds HS HG
          go_wp2
          go_ret3
          exact ⟨rfl, hbel⟩
        have hq2 : ((d.toNat : Int) == 0) = false := byte_ne d 0 hd0
        by_cases hd1 : d = 255
        · subst hd1
          by_cases hf : ys.length = 1024
          · have hq3 : ((ys.length : Int) == 1024) = true := by rw [beq_iff_eq]; omega
            have hres : G = ([], 0, 2) := by rw [← HS.out, hds]; exact Nm.scan_esc_full _ _ _ hf
            subst hres
            obtain ⟨a, cap, rfl⟩ := gt_own_len hown
            clear hds HS HG hf
            go_wp2
            go_ret3
            exact ⟨rfl, hbel⟩
          · have hq3 : ((ys.length : Int) == 1024) = false := by rw [beq_eq_false_iff_ne]; omega
            have HN : Hid (Nm.scanT (s.data.toList.drop (k + 2)) (ys ++ [0]) (k + 2) = G) := by show _ = _; rw [← HS.out, hds]; exact (Nm.scan_esc _ _ _ hf).symm
            obtain ⟨a, cap, rfl⟩ := gt_own_len hown
            clear hds HS HG
            go_wp2_with (at_builtin; refine wpList_append_own _ rfl (.tmp 40) (.tmp 42) 45 rfl w.heap.size 5 i0 (.int .u8 0) 1 1 Tryd.underlying45 hi hz0 hz1 hz2 rfl (by decide) _ _ _ rfl (hown.alloc _) ⟨wr.heap.size, 0, none⟩ 1 1 [.int .u8 0] rfl rfl ?p1 ?p2 ?p3 ?p4 ?p5 ?_)
            case p1 =>
              intro j u hj
              match j, hj with
              | 0, hj => simp at hj; subst hj; simp [Addr.add]
            case p2 => intro u hu; simp at hu; subst hu; rfl
            case p3 => unfold maxLen; omega
            case p4 => omega
            case p5 => simp; omega
            intro v1 w1 hown1 hgrow _
            obtain ⟨hown2, hbel2⟩ := own_more (b := 0) hown hown1 rfl hgrow hbel (Nat.le_refl _)
            clear hown1 hgrow hown hbel
            go_wp2
            go_roundw
            case rel => exact ⟨k + 2, _, by omega, by go_num, hown2, HN, by simp; omega, hbel2⟩
            case measure => simp [intOf]; omega
        · have hq3 : ((d.toNat : Int) != 255) = true := by rw [bne_iff_ne]; intro e; exact hd1 (UInt8.toNat_inj.1 (by simp; omega))
          have hres : G = ([], 0, 4) := by rw [← HS.out, hds]; exact Nm.scan_bad _ _ _ _ hd0 hd1
          subst hres
          clear hds HS HG
          go_wp2
          go_ret3
          exact ⟨rfl, hbel⟩
      · have hq : ((c.toNat : Int) == 0) = false := byte_ne c 0 hz
        by_cases hf : ys.length = 1024
        · have hq3 : ((ys.length : Int) == 1024) = true := by rw [beq_iff_eq]; omega
          have hres : G = ([], 0, 2) := by rw [← HS.out, hds]; exact Nm.scan_full _ _ _ _ hz hf
          subst hres
          obtain ⟨a, cap, rfl⟩ := gt_own_len hown
          clear hds HS HG hf
          go_wp2
          go_ret3
          exact ⟨rfl, hbel⟩
        · have hq3 : ((ys.length : Int) == 1024) = false := by rw [beq_eq_false_iff_ne]; omega
          have HN : Hid (Nm.scanT (s.data.toList.drop (k + 1)) (ys ++ [c]) (k + 1) = G) := by show _ = _; rw [← HS.out, hds]; exact (Nm.scan_byte _ _ _ _ hz hf).symm
          obtain ⟨a, cap, rfl⟩ := gt_own_len hown
          clear hds HS HG
          go_wp2_with (at_builtin; refine wpList_append_own _ rfl (.tmp 40) (.tmp 42) 45 rfl w.heap.size 5 i0 (.int .u8 0) 1 1 Tryd.underlying45 hi hz0 hz1 hz2 rfl (by decide) _ _ _ rfl (hown.alloc _) ⟨wr.heap.size, 0, none⟩ 1 1 [.int .u8 (c.toNat : Int)] rfl rfl ?r1 ?r2 ?r3 ?r4 ?r5 ?_)
          case r1 =>
            intro j u hj
            match j, hj with
            | 0, hj => simp at hj; subst hj; simp [Addr.add]
          case r2 => intro u hu; simp at hu; subst hu; rfl
          case r3 => unfold maxLen; omega
          case r4 => omega
          case r5 => simp; omega
          intro v1 w1 hown1 hgrow _
          obtain ⟨hown2, hbel2⟩ := own_more (b := c) hown hown1 rfl hgrow hbel (Nat.le_refl _)
          clear hown1 hgrow hown hbel
          go_wp2
          go_roundw
          case rel => exact ⟨k + 1, _, by omega, by go_num, hown2, HN, by simp; omega, hbel2⟩
          case measure => simp [intOf]; omega
    · have hres : G = ([], 0, 3) := by rw [← HS.out, List.drop_of_length_le (by rw [← Lib.size_eq]; omega)]; rfl
      subst hres
      clear HS HG
      go_wp2
      go_ret3
      exact ⟨rfl, hbel⟩
end Go.Proofs.YtimdioacmojkeabDoor

namespace Go.Proofs.YtimdioacmojkeabDoor
open Go.RowKit
set_option maxRecDepth 4000

/-- a reader in block b: what is left, and its error -/
def Rs (W : World) (b : Nat) (x : Td.St) : Prop := W.heap[b]? = some (.cells #[.string ⟨x.1.toArray⟩, .int .i64 x.2] 50 (0, 0))

section
variable {W W' : World} {b : Nat} {x : Td.St}
theorem Rs.cells (h : Rs W b x) : W.cell? ⟨b, 0, none⟩ = some (.string ⟨x.1.toArray⟩) ∧ W.cell? ⟨b, 1, none⟩ = some (.int .i64 x.2) ∧ W.frozen? ⟨b, 0, none⟩ = false ∧ W.frozen? ⟨b, 1, none⟩ = false := by
  unfold Rs at h
  refine ⟨?_, ?_, ?_, ?_⟩
  · simp only [World.cell?, h]; rfl
  · simp only [World.cell?, h]; rfl
  · simp [World.frozen?, h]
  · simp [World.frozen?, h]

theorem Rs.set0 (h : Rs W b x) (l : List UInt8) : Rs (W.setCell ⟨b, 0, none⟩ (.string ⟨l.toArray⟩)) b (l, x.2) := by
  unfold Rs at h ⊢
  simp [World.setCell, Array.getElem?_modify, h]

theorem Rs.set1 (h : Rs W b x) (e : Int) : Rs (W.setCell ⟨b, 1, none⟩ (.int .i64 e)) b (x.1, e) := by
  unfold Rs at h ⊢
  simp [World.setCell, Array.getElem?_modify, h]

theorem Rs.lt (h : Rs W b x) : b < W.heap.size := (Array.getElem?_eq_some_iff.1 h).1

theorem Rs.past (h : Rs W b x) (hb : Below W.heap.size W W') : Rs W' b x := (hb.block _ h.lt).trans h

end

/-- what a reader's call answers -/
def RsOut (b : Nat) (w : World) (v : Value) (x : Td.St) (e : Ending) (w' : World) : Prop := e = .returned v ∧ Rs w' b x ∧ Kept (fun j => j ≠ b) w w'

theorem tg_ext (l : List UInt8) (k : Nat) : (⟨l.toArray⟩ : ByteArray).extract k (⟨l.toArray⟩ : ByteArray).size = ⟨(l.drop k).toArray⟩ := by
  apply ByteArray.ext
  apply Array.toList_inj.1
  rw [Nn.ext_drop']

theorem tg_size (l : List UInt8) : (⟨l.toArray⟩ : ByteArray).size = l.length := by show l.toArray.size = _; rw [List.size_toArray]

set_option maxHeartbeats 1000000 in
theorem rdtake_any (b k : Nat) (e : Int) (x : Td.St) (w : World) (h : Rs w b x) (hk : e = 0 → k ≤ x.1.length) (hx : x.1.length ≤ 1048576) :
    Calls Tryd.prog 37 #[.pointer (some ⟨b, 0, none⟩), .int .i64 k, .int .i64 e] w (RsOut b w (.bool (Td.tk k e x).1) (Td.tk k e x).2) := by
  unfold RsOut
  obtain ⟨l, er⟩ := x
  obtain ⟨c0, c1, f0, f1⟩ := h.cells
  have H0 : Hid (Rs w b (l, er)) := h
  by_cases h1 : er ≠ 0
  · rw [Td.tk_stay h1]
    have q : (er != 0) = true := by rw [bne_iff_ne]; exact h1
    clear h
    go_enter Tryd.func37, Tryd.ntmps37
    go_wp2_with fail
    go_ret
    exact ⟨rfl, H0.out, Kept.refl _ _⟩
  obtain rfl := Decidable.not_not.mp h1
  by_cases h2 : e ≠ 0
  · rw [Td.tk_err h2]
    have q : (e != 0) = true := by rw [bne_iff_ne]; exact h2
    have H1 : Hid (Rs (w.setCell ⟨b, 1, none⟩ (.int .i64 e)) b (l, e)) := h.set1 e
    have HK : Hid (Kept (fun j => j ≠ b) w (w.setCell ⟨b, 1, none⟩ (.int .i64 e))) := (Kept.refl _ w).setCell (by simp) _
    clear h hk
    go_enter Tryd.func37, Tryd.ntmps37
    go_wp2_with fail
    go_ret
    exact ⟨rfl, H1.out, HK.out⟩
  obtain rfl := Decidable.not_not.mp h2
  rw [Td.tk_ok]
  have hkl : k ≤ l.length := hk rfl
  replace hx : l.length ≤ 1048576 := hx
  obtain ⟨s, hs⟩ : ∃ s : ByteArray, s = ⟨l.toArray⟩ := ⟨_, rfl⟩
  have hsz : s.size = l.length := by rw [hs]; exact tg_size l
  have hex : s.extract k s.size = ⟨(l.drop k).toArray⟩ := by rw [hs]; exact tg_ext l k
  have HE : Hid (s.extract k s.size = ⟨(l.drop k).toArray⟩) := hex
  have H1 : Hid (Rs (w.setCell ⟨b, 0, none⟩ (.string (s.extract k s.size))) b (l.drop k, 0)) := by rw [hex]; exact h.set0 _
  have HK : Hid (Kept (fun j => j ≠ b) w (w.setCell ⟨b, 0, none⟩ (.string (s.extract k s.size)))) := (Kept.refl _ w).setCell (by simp) _
  have hk1 : (k : Int) ≤ (s.size : Int) := by omega
  dsimp only at c0 c1
  rw [← hs] at c0
  have hsx : s.size ≤ 1048576 := by omega
  clear h hk hs hex h1 h2 hkl hsz
  go_enter Tryd.func37, Tryd.ntmps37
  go_wp2_with fail
  go_ret
  exact ⟨rfl, H1.out, HK.out⟩

set_option maxHeartbeats 1000000 in
theorem rdnumber_any (b most : Nat) (x : Td.St) (w : World) (h : Rs w b x) (hm : most ≤ 4096) (hx : x.1.length ≤ 1048576) :
    Calls Tryd.prog 24 #[.pointer (some ⟨b, 0, none⟩), .int .u64 most] w (RsOut b w (.int .i64 (Td.sNum most x).1) (Td.sNum most x).2) := by
  have hg := get_any ⟨x.1.toArray⟩ w (by rw [tg_size]; omega)
  rcases hG : Nm.getN x.1 with ⟨n, k, e0⟩
  have hG' : Nm.getN (⟨x.1.toArray⟩ : ByteArray).data.toList = (n, k, e0) := hG
  rw [hG'] at hg
  have hT : Td.sNum most x = (if (Td.tk k (Td.nuE most x.1) x).1 = true then n else 0, (Td.tk k (Td.nuE most x.1) x).2) := by unfold Td.sNum; rw [hG]
  have hE : Td.nuE most x.1 = if e0 = 0 ∧ most < n then 2 else e0 := by unfold Td.nuE; rw [hG]
  have hk : Td.nuE most x.1 = 0 → k ≤ x.1.length ∧ n ≤ most := fun q => by
    rw [hE] at q
    split at q
    · cases q
    · rename_i q2
      subst q
      exact ⟨(Nm.get_one hG).1, by
        by_cases z : most < n
        · exact absurd ⟨rfl, z⟩ q2
        · omega⟩
  have ht := rdtake_any b k (Td.nuE most x.1) x w h (fun q => (hk q).1) hx
  have HTr : Hid ((Td.tk k (Td.nuE most x.1) x).1 = true → n ≤ most) := fun q => (hk (Td.tk_true q).2).2
  rw [hT]
  obtain ⟨c0, c1, f0, f1⟩ := h.cells
  generalize Td.tk k (Td.nuE most x.1) x = T at *
  generalize Td.nuE most x.1 = E at *
  unfold RsOut at ht ⊢
  have hn0 : (0 : Int) ≤ (n : Int) := by omega
  clear h hk hT hG hG' hx
  go_enter Tryd.func24, Tryd.ntmps24
  go_wp2_with fail
  refine hg.mono ?_
  rintro e u ⟨rfl, hu⟩
  obtain rfl := hu.symm
  clear hg hu
  by_cases h1 : e0 ≠ 0
  · have q : (e0 == 0) = false := by rw [beq_eq_false_iff_ne]; exact h1
    rw [if_neg (fun z => h1 z.1)] at hE
    subst hE
    clear h1
    go_wp2_with fail
    refine ht.mono ?_
    rintro e w2 ⟨rfl, r2, k2⟩
    have HR : Hid (Rs w2 b T.2 ∧ Kept (fun j => j ≠ b) w w2) := ⟨r2, k2⟩
    clear ht r2 k2
    obtain ⟨tb, x2⟩ := T
    dsimp only at *
    cases tb with
    | true =>
      have hnm : n ≤ most := HTr.out rfl
      have hw64 : wrap64 (n : Int) = (n : Int) := by unfold wrap64; omega
      clear HTr
      go_wp2_with fail
      go_ret
      exact ⟨rfl, HR.out⟩
    | false =>
      clear HTr
      go_wp2_with fail
      go_ret
      exact ⟨rfl, HR.out⟩
  obtain rfl := Decidable.not_not.mp h1
  clear h1
  by_cases h2 : most < n
  · rw [if_pos ⟨rfl, h2⟩] at hE
    subst hE
    have q : (most : Int) < (n : Int) := by omega
    go_wp2_with fail
    refine ht.mono ?_
    rintro e w2 ⟨rfl, r2, k2⟩
    have HR : Hid (Rs w2 b T.2 ∧ Kept (fun j => j ≠ b) w w2) := ⟨r2, k2⟩
    clear ht r2 k2
    obtain ⟨tb, x2⟩ := T
    dsimp only at *
    cases tb with
    | true =>
      have hnm : n ≤ most := HTr.out rfl
      have hw64 : wrap64 (n : Int) = (n : Int) := by unfold wrap64; omega
      clear HTr
      go_wp2_with fail
      go_ret
      exact ⟨rfl, HR.out⟩
    | false =>
      clear HTr
      go_wp2_with fail
      go_ret
      exact ⟨rfl, HR.out⟩
  · rw [if_neg (fun z => h2 z.2)] at hE
    subst hE
    have q : ¬ (most : Int) < (n : Int) := by omega
    go_wp2_with fail
    refine ht.mono ?_
    rintro e w2 ⟨rfl, r2, k2⟩
    have HR : Hid (Rs w2 b T.2 ∧ Kept (fun j => j ≠ b) w w2) := ⟨r2, k2⟩
    clear ht r2 k2
    obtain ⟨tb, x2⟩ := T
    dsimp only at *
    cases tb with
    | true =>
      have hnm : n ≤ most := HTr.out rfl
      have hw64 : wrap64 (n : Int) = (n : Int) := by unfold wrap64; omega
      clear HTr
      go_wp2_with fail
      go_ret
      exact ⟨rfl, HR.out⟩
    | false =>
      clear HTr
      go_wp2_with fail
      go_ret
      exact ⟨rfl, HR.out⟩

set_option maxHeartbeats 1000000 in
theorem rdsigned_any (b : Nat) (x : Td.St) (w : World) (h : Rs w b x) (hx : x.1.length ≤ 1048576) :
    Calls Tryd.prog 40 #[.pointer (some ⟨b, 0, none⟩)] w (RsOut b w (.int .i64 (Td.sInt x).1) (Td.sInt x).2) := by
  have hg := getI_any ⟨x.1.toArray⟩ w (by rw [tg_size]; omega)
  rcases hG : Nm.getI x.1 with ⟨n, k, e0⟩
  have hG' : Nm.getI (⟨x.1.toArray⟩ : ByteArray).data.toList = (n, k, e0) := hG
  rw [hG'] at hg
  have hT : Td.sInt x = (if (Td.tk k e0 x).1 = true then n else 0, (Td.tk k e0 x).2) := by unfold Td.sInt; rw [hG]
  have ht := rdtake_any b k e0 x w h (fun q => by subst q; exact (Nm.getI_one hG).1) hx
  rw [hT]
  obtain ⟨c0, c1, f0, f1⟩ := h.cells
  generalize Td.tk k e0 x = T at *
  unfold RsOut at ht ⊢
  clear h hT hG hG' hx
  go_enter Tryd.func40, Tryd.ntmps40
  go_wp2_with fail
  refine hg.mono ?_
  rintro e u ⟨rfl, hu⟩
  obtain rfl := hu.symm
  clear hg hu
  go_wp2_with fail
  refine ht.mono ?_
  rintro e w2 ⟨rfl, r2, k2⟩
  have HR : Hid (Rs w2 b T.2 ∧ Kept (fun j => j ≠ b) w w2) := ⟨r2, k2⟩
  clear ht r2 k2
  obtain ⟨tb, x2⟩ := T
  dsimp only at *
  cases tb with
  | true =>
    go_wp2_with fail
    go_ret
    exact ⟨rfl, HR.out⟩
  | false =>
    go_wp2_with fail
    go_ret
    exact ⟨rfl, HR.out⟩

set_option maxHeartbeats 1000000 in
theorem rdtext_any (b : Nat) (x : Td.St) (w : World) (h : Rs w b x) (hx : x.1.length ≤ 1048576) :
    Calls Tryd.prog 38 #[.pointer (some ⟨b, 0, none⟩)] w (RsOut b w (.string ⟨(Td.sTxt x).1.toArray⟩) (Td.sTxt x).2) := by
  have hg := getT_any ⟨x.1.toArray⟩ w (by rw [tg_size]; omega)
  rcases hG : Nm.getT x.1 with ⟨n, k, e0⟩
  have hG' : Nm.getT (⟨x.1.toArray⟩ : ByteArray).data.toList = (n, k, e0) := hG
  rw [hG'] at hg
  have hT : Td.sTxt x = (if (Td.tk k e0 x).1 = true then n else [], (Td.tk k e0 x).2) := by unfold Td.sTxt; rw [hG]
  have ht := fun W (hW : Rs W b x) => rdtake_any b k e0 x W hW (fun q => by subst q; exact (Nm.getT_one hG).1) hx
  rw [hT]
  obtain ⟨c0, c1, f0, f1⟩ := h.cells
  generalize Td.tk k e0 x = T at *
  unfold RsOut at ht ⊢
  have H0 : Hid (Rs w b x) := h
  clear h hT hG hG' hx
  go_enter Tryd.func38, Tryd.ntmps38
  go_wp2_with fail
  refine hg.mono ?_
  rintro e w1 ⟨rfl, b1⟩
  have HK1 : Hid (Kept (fun j => j ≠ b) w w1) := Kept.of_below b1
  replace ht := ht w1 (H0.out.past b1)
  clear hg b1
  go_wp2_with fail
  refine ht.mono ?_
  rintro e w2 ⟨rfl, r2, k2⟩
  have HR : Hid (Rs w2 b T.2 ∧ Kept (fun j => j ≠ b) w w2) := ⟨r2, HK1.out.trans k2⟩
  clear ht r2 k2
  obtain ⟨tb, x2⟩ := T
  dsimp only at *
  cases tb with
  | true =>
    go_wp2_with fail
    go_ret
    exact ⟨rfl, HR.out⟩
  | false =>
    go_wp2_with fail
    go_ret
    exact ⟨rfl, HR.out⟩

theorem tg_take (l : List UInt8) (k : Nat) : (⟨l.toArray⟩ : ByteArray).extract 0 k = ⟨(l.take k).toArray⟩ := by
  apply ByteArray.ext
  apply Array.toList_inj.1
  rw [Lib.extract_data]
  simp

set_option maxHeartbeats 1000000 in
theorem rdbytes_any (b k : Nat) (x : Td.St) (w : World) (h : Rs w b x) (_hk : k ≤ 8) (hx : x.1.length ≤ 1048576) :
    Calls Tryd.prog 48 #[.pointer (some ⟨b, 0, none⟩), .int .i64 k] w (RsOut b w (.string ⟨(Td.sByt k x).1.toArray⟩) (Td.sByt k x).2) := by
  have hT : Td.sByt k x = (if (Td.tk k (Td.shE k x.1) x).1 = true then x.1.take k else [], (Td.tk k (Td.shE k x.1) x).2) := rfl
  have hE : Td.shE k x.1 = if x.1.length < k then 3 else 0 := rfl
  have hz : Td.shE k x.1 = 0 → k ≤ x.1.length := fun q => by
    rw [hE] at q
    split at q
    · cases q
    · omega
  have ht := rdtake_any b k (Td.shE k x.1) x w h hz hx
  have HTr : Hid ((Td.tk k (Td.shE k x.1) x).1 = true → k ≤ x.1.length) := fun q => hz (Td.tk_true q).2
  rw [hT]
  obtain ⟨c0, c1, f0, f1⟩ := h.cells
  generalize Td.tk k (Td.shE k x.1) x = T at *
  generalize Td.shE k x.1 = E at *
  obtain ⟨l, er⟩ := x
  dsimp only at *
  obtain ⟨s, hs⟩ : ∃ s : ByteArray, s = ⟨l.toArray⟩ := ⟨_, rfl⟩
  have hsz : s.size = l.length := by rw [hs]; exact tg_size l
  have HE : Hid (s.extract 0 k = ⟨(l.take k).toArray⟩) := by show _ = _; rw [hs]; exact tg_take l k
  rw [← hs] at c0
  rw [← hsz] at hE HTr hx
  unfold RsOut at ht ⊢
  clear h hT hs hsz hz
  go_enter Tryd.func48, Tryd.ntmps48
  by_cases h2 : s.size < k
  · rw [if_pos h2] at hE
    subst hE
    have q : (s.size : Int) < (k : Int) := by omega
    go_wp2_with fail
    refine ht.mono ?_
    rintro e w2 ⟨rfl, r2, k2⟩
    have HR : Hid (Rs w2 b T.2 ∧ Kept (fun j => j ≠ b) w w2) := ⟨r2, k2⟩
    clear ht r2 k2
    obtain ⟨tb, x2⟩ := T
    dsimp only at *
    cases tb with
    | true =>
      exact absurd (HTr.out rfl) (by omega)
    | false =>
      clear HTr
      go_wp2_with fail
      go_ret
      exact ⟨rfl, HR.out⟩
  · rw [if_neg h2] at hE
    subst hE
    have q : ¬ (s.size : Int) < (k : Int) := by omega
    go_wp2_with fail
    refine ht.mono ?_
    rintro e w2 ⟨rfl, r2, k2⟩
    have HR : Hid (Rs w2 b T.2 ∧ Kept (fun j => j ≠ b) w w2) := ⟨r2, k2⟩
    clear ht r2 k2
    obtain ⟨tb, x2⟩ := T
    dsimp only at *
    cases tb with
    | true =>
      have hks : (k : Int) ≤ (s.size : Int) := by have := HTr.out rfl; omega
      clear HTr
      go_wp2_with fail
      go_ret
      exact ⟨by rw [← HE.out]; rfl, HR.out⟩
    | false =>
      clear HTr
      go_wp2_with fail
      go_ret
      exact ⟨rfl, HR.out⟩

set_option maxHeartbeats 1000000 in
theorem rdkind_any (b : Nat) (x : Td.St) (w : World) (h : Rs w b x) (hx : x.1.length ≤ 1048576) :
    Calls Tryd.prog 39 #[.pointer (some ⟨b, 0, none⟩)] w (RsOut b w (.int .i64 (Td.sKind x).1) (Td.sKind x).2) := by
  have ht := rdbytes_any b 1 x w h (by omega) hx
  have hT : Td.sKind x = (((Td.sByt 1 x).1.headD 0).toNat, (Td.sByt 1 x).2) := rfl
  have hl := Td.sByt_bd 1 x
  rw [hT]
  generalize Td.sByt 1 x = T at *
  obtain ⟨y, x2⟩ := T
  unfold RsOut at ht ⊢
  dsimp only at *
  clear h hT hx
  match y, hl with
  | [], _ =>
    go_enter Tryd.func39, Tryd.ntmps39
    go_wp2_with fail
    refine ht.mono ?_
    rintro e w2 ⟨rfl, r2, k2⟩
    have HR : Hid (Rs w2 b x2 ∧ Kept (fun j => j ≠ b) w w2) := ⟨r2, k2⟩
    clear ht r2 k2
    go_wp2_with fail
    go_ret
    exact ⟨rfl, HR.out⟩
  | [c], _ =>
    obtain ⟨s, hs⟩ : ∃ s : ByteArray, s = ⟨[c].toArray⟩ := ⟨_, rfl⟩
    have hsz : 0 < s.size := by rw [hs, tg_size]; simp
    have e1 : (s.toList == []) = false := data_ne (by rw [hs]; simp)
    obtain ⟨c0, hc0⟩ : ∃ c0 : Nat, s[0].toNat = c0 := ⟨_, rfl⟩
    have HV : Hid (([c].headD 0).toNat = c0) := by show _ = _; rw [← hc0]; subst hs; rfl
    have hc : c0 < 256 := by rw [← hc0]; exact s[0].toNat_lt
    have hwc : wrap64 (c0 : Int) = (c0 : Int) := by unfold wrap64; omega
    rw [← hs] at ht
    clear hs
    go_enter Tryd.func39, Tryd.ntmps39
    go_wp2_with fail
    refine ht.mono ?_
    rintro e w2 ⟨rfl, r2, k2⟩
    have HR : Hid (Rs w2 b x2 ∧ Kept (fun j => j ≠ b) w w2) := ⟨r2, k2⟩
    clear ht r2 k2
    go_wp2_with fail
    go_ret
    exact ⟨by rw [HV.out]; rfl, HR.out⟩

end Go.Proofs.YtimdioacmojkeabDoor

namespace Go.Proofs.YtimdioacmojkeabDoor
open Go.RowKit
set_option maxRecDepth 4000

abbrev Tz8 : Array Value := #[.int .u8 0, .int .u8 0, .int .u8 0, .int .u8 0, .int .u8 0, .int .u8 0, .int .u8 0, .int .u8 0]

theorem Kept.then {p : Nat → Prop} {A B C : World} {n : Nat} (h : Kept p A B) (hb : Below n B C) (hn : A.heap.size ≤ n) : Kept p A C :=
  ⟨hb.os.trans h.os, hb.tape.trans h.tape, hb.output.trans h.output, Nat.le_trans h.size hb.size, fun k hk hp => (hb.block k (by omega)).trans (h.block k hk hp)⟩

theorem tid_info : (Tryd.prog.info? 32).map (fun i => (i.zero, i.size, i.bytes)) = some (some (.agg Tz8), 8, 8) := by kernel_rfl

/-- the world behind the copy of y into block M -/
def cpW (W : World) (M : Nat) (y : List UInt8) : World := W.setCells M 0 (y.map B)

theorem cpW_cells {W : World} {M : Nat} {y : List UInt8} (h : W.heap[M]? = some (.cells Tz8 32 (0, 0))) (hy : y = [] ∨ y.length = 8) : (cpW W M y).heap[M]? = some (.cells (idC (Td.eight y)).toArray 32 (0, 0)) := by
  rcases hy with rfl | hy
  · exact h
  · rw [Td.eight_id hy]
    match y, hy with
    | [b0, b1, b2, b3, b4, b5, b6, b7], _ => simp [cpW, World.setCells, World.setCell, Array.getElem?_modify, h, idC]

theorem cpW_below {W : World} {M : Nat} {y : List UInt8} (hy : y = [] ∨ y.length = 8) : Below M W (cpW W M y) := by
  rcases hy with rfl | hy
  · exact Below.refl _ _
  · match y, hy with
    | [b0, b1, b2, b3, b4, b5, b6, b7], _ =>
      exact ((((((((Below.refl M W).setCell (p := ⟨M, 0, none⟩) (Nat.le_refl _) _).setCell (p := ⟨M, 1, none⟩) (Nat.le_refl _) _).setCell (p := ⟨M, 2, none⟩) (Nat.le_refl _) _).setCell (p := ⟨M, 3, none⟩) (Nat.le_refl _) _).setCell (p := ⟨M, 4, none⟩) (Nat.le_refl _) _).setCell (p := ⟨M, 5, none⟩) (Nat.le_refl _) _).setCell (p := ⟨M, 6, none⟩) (Nat.le_refl _) _).setCell (p := ⟨M, 7, none⟩) (Nat.le_refl _) _

theorem cpW_run {W : World} {M : Nat} {y : List UInt8} (h : W.heap[M]? = some (.cells Tz8 32 (0, 0))) (hy : y.length ≤ 8) :
    (Builtin.copy_ #[45, 9] 3 #[.slice (some ⟨M, 0, none⟩) 8 8, .string ⟨y.toArray⟩]).run Tryd.prog W = .ok (.int .i64 y.length) (cpW W M y) := by
  have hz : ∀ w, (Go.sizeOf 5).run Tryd.prog w = .ok 1 w := fun w => by go_simp
  have hc : ∀ j, j < 8 → W.cell? ⟨M, j, none⟩ = some (.int .u8 0) := fun j hj => by
    rw [cell_of_row _ M j _ _ _ h, show Tz8 = Array.replicate 8 (Value.int .u8 0) from rfl, Array.getElem?_replicate, if_pos hj]
  have hr := run_copy_string (P := Tryd.prog) W 45 9 3 5 M 0 8 8 ⟨y.toArray⟩ (by kernel_rfl) hz (by rw [tg_size]; exact hy) (fun j hj => by rw [tg_size] at hj; rw [hc _ (by omega)]; rfl) (fun j _ => by simp [World.frozen?, h])
  rw [tg_size] at hr
  exact hr

theorem sByt_form (x : Td.St) (k : Nat) : (Td.sByt k x).1 = [] ∨ (Td.sByt k x).1.length = k := by
  unfold Td.sByt
  simp only
  split
  · rename_i h
    obtain ⟨_, h2⟩ := Td.tk_true h
    unfold Td.shE at h2
    split at h2
    · cases h2
    · refine .inr ?_
      rw [List.length_take]
      omega
  · exact .inl rfl

theorem tg_new8 (W : World) (v0 v1 v2 v3 v4 v5 v6 v7 : Value) {T : TypeId} : ∀ j u, [v0, v1, v2, v3, v4, v5, v6, v7][j]? = some u → (W.alloc (.cells #[v0, v1, v2, v3, v4, v5, v6, v7] T)).cell? ((⟨W.heap.size, 0, none⟩ : Addr).add j) = some u := by
  intro j u hj
  rw [show ((⟨W.heap.size, 0, none⟩ : Addr).add j) = ⟨W.heap.size, j, none⟩ from by unfold Addr.add; split <;> simp_all]
  match j, hj with
  | 0, hj => simp at hj; subst hj; simp
  | 1, hj => simp at hj; subst hj; simp
  | 2, hj => simp at hj; subst hj; simp
  | 3, hj => simp at hj; subst hj; simp
  | 4, hj => simp at hj; subst hj; simp
  | 5, hj => simp at hj; subst hj; simp
  | 6, hj => simp at hj; subst hj; simp
  | 7, hj => simp at hj; subst hj; simp

/-- what parts answers -/
def PtOut (b : Nat) (w : World) (x : Td.St) (e : Ending) (w' : World) : Prop :=
  ∃ v, e = .returned v ∧ w'.ownsRow w.heap.size 32 8 v (Td.sParts x).1.length (rowR idC (Td.sParts x).1) ∧ Rs w' b (Td.sParts x).2 ∧ Kept (fun j => j ≠ b) w w'

set_option maxHeartbeats 4000000 in
set_option maxRecDepth 10000 in
theorem rdparts_any (b : Nat) (x : Td.St) (w : World) (h : Rs w b x) (hx : x.1.length ≤ 1048576) :
    Calls Tryd.prog 41 #[.pointer (some ⟨b, 0, none⟩)] w (PtOut b w x) := by
  unfold PtOut
  obtain ⟨i0, hi, hz0, hz1, hz2⟩ := info_of' tid_info
  have hg := rdnumber_any b 300 x w h (by omega) hx
  have hS : Td.sParts x = Td.sIds (Td.sNum 300 x).1 (Td.sNum 300 x).2 := rfl
  have hnp := Td.sNum_most 300 x
  have hl1 := Td.sNum_len 300 x
  rw [hS]
  rcases hN : Td.sNum 300 x with ⟨np, x1⟩
  rw [hN] at hg hnp hl1
  dsimp only at *
  unfold RsOut at hg
  have HB : Hid (b < w.heap.size) := h.lt
  have HL : Hid (∀ k, (Td.sIds k x1).2.1.length ≤ 1048576) := fun k => by have := Td.sIds_len x1 k; omega
  have HSt : Hid (∀ k, Td.sIds (k + 1) x1 = ((Td.sIds k x1).1 ++ [Td.eight (Td.sByt 8 (Td.sIds k x1).2).1], (Td.sByt 8 (Td.sIds k x1).2).2)) := fun k => rfl
  have HLn : Hid (∀ k, (Td.sIds k x1).1.length = k) := fun k => (Td.sIds_bd x1 k).1
  have H0 : Hid (Td.sIds 0 x1 = ([], x1)) := rfl
  clear h hS hN hx hl1
  go_enter Tryd.func41, Tryd.ntmps41
  go_wp2_with fail
  refine hg.mono ?_
  rintro e w1 ⟨rfl, r1, k1⟩
  have HR1 : Hid (Rs w1 b x1) := r1
  have HK1 : Hid (Kept (fun j => j ≠ b) w w1) := k1
  clear hg r1 k1
  go_wp2_with fail
  go_loopw [3, 7] (fun vo i wr => ∃ k : Nat, k ≤ np ∧ i = .int .i64 k ∧ Hid (Rs wr b (Td.sIds k x1).2) ∧ Hid (wr.ownsRow w.heap.size 32 8 vo k (rowR idC (Td.sIds k x1).1)) ∧ Hid (Kept (fun j => j ≠ b) w wr)) (fun _ i _ => np - (intOf i).toNat)
  case atStart => exact ⟨0, by omega, rfl, HR1, World.ownsRow_nil _ _ _ _, HK1⟩
  case round =>
    clear HR1 HK1
    obtain ⟨k, hk, rfl, HR, HO, HK⟩ := hrel
    obtain ⟨so, co, hvo⟩ := own_len HO.out
    subst hvo
    by_cases hlt : k < np
    · have hst := HSt.out k
      have hlk := HL.out k
      have HLk : Hid ((Td.sIds k x1).1.length = k) := HLn.out k
      have hy8 := Td.sByt_bd 8 (Td.sIds k x1).2
      have hyf := sByt_form (Td.sIds k x1).2 8
      obtain ⟨W1, hW1⟩ : ∃ W1, W1 = wr.alloc (.cells Tz8 32) := ⟨_, rfl⟩
      have hB1 : Below wr.heap.size wr W1 := by rw [hW1]; exact (Below.refl _ wr).alloc (Nat.le_refl _) _
      have HM1 : Hid (W1.heap[wr.heap.size]? = some (.cells Tz8 32 (0, 0))) := by rw [hW1]; exact heap_alloc_new wr _
      have hby := fun W (hW : Rs W b (Td.sIds k x1).2) => rdbytes_any b 8 (Td.sIds k x1).2 W hW (by omega) hlk
      unfold RsOut at hby
      have HR1 : Hid (Rs W1 b (Td.sIds k x1).2) := HR.out.past hB1
      generalize Td.sByt 8 (Td.sIds k x1).2 = Y at *
      obtain ⟨y, x2⟩ := Y
      dsimp only at *
      obtain ⟨M, hM⟩ : ∃ M, M = wr.heap.size := ⟨_, rfl⟩
      go_upto_region 5 with fail
      rw [← hW1, ← hM]
      clear hW1
      have HB1 : Hid (Below wr.heap.size wr W1) := hB1
      have HMe : Hid (M = wr.heap.size) := hM
      rw [← hM] at HM1
      have HMb : Hid (M ≠ b) := by have h1 := HB.out; have h2 := HK.out.size; show _ ≠ _; omega
      clear hM hB1 HR
      have hcp := fun (W : World) (hW : W.heap[M]? = some (.cells Tz8 32 (0, 0))) => cpW_run (y := y) hW hy8
      have hby1 := hby W1.drew (show Rs W1.drew b (Td.sIds k x1).2 from HR1.out)
      clear hby
      go_region_with (go_at_call 48; refine hby1.mono ?_; rintro e w2 ⟨rfl, r2, k2⟩; have HK2 : Hid (Kept (fun j => j ≠ b) W1 w2) := ⟨k2.os, k2.tape, k2.output, k2.size, k2.block⟩; have HR2 : Hid (Rs w2 b x2) := r2; have hcp2 := hcp w2 (HK2.out.obj HMb.out HM1.out); clear r2 k2)
      obtain ⟨W3, hW3⟩ : ∃ W3, W3 = cpW w2 M y := ⟨_, rfl⟩
      have hB3 : Below M w2 W3 := by rw [hW3]; exact cpW_below hyf
      have HM3 : Hid (W3.heap[M]? = some (.cells (idC (Td.eight y)).toArray 32 (0, 0))) := by rw [hW3]; exact cpW_cells (HK2.out.obj HMb.out HM1.out) hyf
      have hbM : b < M := by have h1 := HB.out; have h2 := HK.out.size; have h3 := HMe.out; omega
      have HR3 : Hid (Rs W3 b (Td.sIds (k + 1) x1).2) := by rw [hst]; exact (hB3.block b hbM).trans HR2.out
      have o2 : w2.ownsRow w.heap.size 32 8 (.slice so k co) k (rowR idC (Td.sIds k x1).1) := own_kept (own_below HO.out HB1.out) HK2.out fun g hg => by have := (own_block HO.out hg).choose_spec.2.1; have := HB.out; omega
      have o3 : W3.ownsRow w.heap.size 32 8 (.slice so k co) k (rowR idC (Td.sIds k x1).1) := own_kept o2 (Kept.of_below_at (p := fun j => j < M) hB3 fun _ q => q) fun g hg => by have := (own_block HO.out hg).choose_spec.2.2; rw [HMe.out]; exact this
      have HK3 : Hid (Kept (fun j => j ≠ b) w W3) := ((HK.out.trans (Kept.of_below HB1.out)).trans HK2.out).then hB3 (by rw [HMe.out]; exact HK.out.size)
      have hsz3 : w.heap.size ≤ W3.heap.size := HK3.out.size
      obtain ⟨b0, b1, b2, b3, b4, b5, b6, b7, hE8⟩ : ∃ b0 b1 b2 b3 b4 b5 b6 b7, Td.eight y = [b0, b1, b2, b3, b4, b5, b6, b7] := by
        have h8 := Td.eight_len hy8
        match Td.eight y, h8 with
        | [b0, b1, b2, b3, b4, b5, b6, b7], _ => exact ⟨b0, b1, b2, b3, b4, b5, b6, b7, rfl⟩
      have HId : Hid ((Td.sIds (k + 1) x1).1 = (Td.sIds k x1).1 ++ [[b0, b1, b2, b3, b4, b5, b6, b7]]) := by show _ = _; rw [hst, hE8]
      rw [hE8] at HM3
      have z0 : W3.cell? ⟨M, 0, none⟩ = some (.int .u8 (b0.toNat : Int)) := by rw [cell_of_row _ M 0 _ _ _ HM3.out]; rfl
      have z1 : W3.cell? ⟨M, 1, none⟩ = some (.int .u8 (b1.toNat : Int)) := by rw [cell_of_row _ M 1 _ _ _ HM3.out]; rfl
      have z2 : W3.cell? ⟨M, 2, none⟩ = some (.int .u8 (b2.toNat : Int)) := by rw [cell_of_row _ M 2 _ _ _ HM3.out]; rfl
      have z3 : W3.cell? ⟨M, 3, none⟩ = some (.int .u8 (b3.toNat : Int)) := by rw [cell_of_row _ M 3 _ _ _ HM3.out]; rfl
      have z4 : W3.cell? ⟨M, 4, none⟩ = some (.int .u8 (b4.toNat : Int)) := by rw [cell_of_row _ M 4 _ _ _ HM3.out]; rfl
      have z5 : W3.cell? ⟨M, 5, none⟩ = some (.int .u8 (b5.toNat : Int)) := by rw [cell_of_row _ M 5 _ _ _ HM3.out]; rfl
      have z6 : W3.cell? ⟨M, 6, none⟩ = some (.int .u8 (b6.toNat : Int)) := by rw [cell_of_row _ M 6 _ _ _ HM3.out]; rfl
      have z7 : W3.cell? ⟨M, 7, none⟩ = some (.int .u8 (b7.toNat : Int)) := by rw [cell_of_row _ M 7 _ _ _ HM3.out]; rfl
      rw [← hW3]
      clear hW3 hB3 HM3 HR2 o2 hcp2 HK2 hby1 hcp hst hlk hy8 hyf hE8 HR1 HM1 HB1 HO HK HMe HMb hbM
      obtain ⟨RW, hr⟩ : ∃ RW, rowR idC (Td.sIds k x1).1 = RW := ⟨_, rfl⟩
      have HRW : Hid (rowR idC (Td.sIds k x1).1 = RW) := hr
      rw [hr] at o3
      clear hr
      go_wp2_with (at_builtin; refine wpList_append_own _ rfl (.tmp 13) (.tmp 15) 27 rfl w.heap.size 32 i0 (.agg Tz8) 8 8 Tryd.underlying27 hi hz0 hz1 hz2 rfl (by decide) _ _ _ rfl (o3.alloc _) ⟨W3.heap.size, 0, none⟩ 1 1 [.int .u8 (b0.toNat : Int), .int .u8 (b1.toNat : Int), .int .u8 (b2.toNat : Int), .int .u8 (b3.toNat : Int), .int .u8 (b4.toNat : Int), .int .u8 (b5.toNat : Int), .int .u8 (b6.toNat : Int), .int .u8 (b7.toNat : Int)] rfl rfl (tg_new8 W3 _ _ _ _ _ _ _ _) ?c2 ?c3 ?c4 ?c5 ?_)
      case c2 => simp [Value.oneCell']
      case c3 => unfold maxLen; omega
      case c4 => omega
      case c5 => first | omega | (simp; omega)
      intro v6 w5 o5 hgrow _
      have hb3 : Below W3.heap.size W3 (W3.alloc (.cells #[.int .u8 (b0.toNat : Int), .int .u8 (b1.toNat : Int), .int .u8 (b2.toNat : Int), .int .u8 (b3.toNat : Int), .int .u8 (b4.toNat : Int), .int .u8 (b5.toNat : Int), .int .u8 (b6.toNat : Int), .int .u8 (b7.toNat : Int)] 32)) := (Below.refl _ W3).alloc (Nat.le_refl _) _
      have hlt3 : ∀ g, (Value.slice so k co).ownBlock = some g → w.heap.size ≤ g := fun g hg => (own_block o3 hg).choose_spec.2.1
      have HO5 : Hid (w5.ownsRow w.heap.size 32 8 v6 (k + 1) (rowR idC (Td.sIds (k + 1) x1).1)) := by
        show World.ownsRow _ _ _ _ _ _ _
        rw [HId.out, rowR_more, HRW.out]
        exact o5
      have HR5 : Hid (Rs w5 b (Td.sIds (k + 1) x1).2) := by
        refine (hgrow.block b (Nat.lt_of_lt_of_le HR3.out.lt hb3.size) fun e => ?_).trans (HR3.out.past hb3)
        have := hlt3 b e.symm
        have := HB.out
        omega
      have HK5 : Hid (Kept (fun j => j ≠ b) w w5) := by
        have hz : Kept (fun j => j ≠ b) w (W3.alloc (.cells #[.int .u8 (b0.toNat : Int), .int .u8 (b1.toNat : Int), .int .u8 (b2.toNat : Int), .int .u8 (b3.toNat : Int), .int .u8 (b4.toNat : Int), .int .u8 (b5.toNat : Int), .int .u8 (b6.toNat : Int), .int .u8 (b7.toNat : Int)] 32)) := HK3.out.alloc _
        exact ⟨hgrow.os.trans hz.os, hgrow.tape.trans hz.tape, hgrow.output.trans hz.output, Nat.le_trans hz.size hgrow.size, fun j hj hp => (hgrow.block j (Nat.lt_of_lt_of_le hj hz.size) fun e => by have := hlt3 j e.symm; omega).trans (hz.block j hj hp)⟩
      clear o5 hgrow o3 hb3 hlt3 HR3 HK3 HId HRW z0 z1 z2 z3 z4 z5 z6 z7
      go_wp2_with fail
      go_roundw
      case measure => simp only [intOf]; omega
      case rel => exact ⟨k + 1, by omega, by go_num, HR5, HO5, HK5⟩
    · obtain rfl : k = np := by omega
      have HLk : Hid ((Td.sIds k x1).1.length = k) := HLn.out k
      go_wp2_with fail
      go_ret
      exact ⟨_, rfl, by rw [HLk.out]; exact HO.out, HR.out, HK.out⟩

end Go.Proofs.YtimdioacmojkeabDoor

namespace Go.Proofs.YtimdioacmojkeabDoor
open Go.RowKit

/-- 'string([]byte{b})' -/
theorem run_str1 (W : World) (a : Addr) (b : Int) (h : W.cell? a = some (.int .u8 b)) (h0 : 0 ≤ b) (h1 : b ≤ 255) (ha : a.spot = none) :
    (convert 45 9 (.slice (some a) 1 1)).run Tryd.prog W = .ok (.string ⟨#[UInt8.ofNat b.toNat]⟩) W := by
  refine run_convert_bytes_back W 45 9 5 a 1 [UInt8.ofNat b.toNat] (by kernel_rfl) (by kernel_rfl) (by kernel_rfl) ?_
  intro j hj
  have hj0 : j = 0 := by simpa using hj
  subst hj0
  obtain ⟨x, y, z⟩ := a
  simp only at ha
  subst ha
  simp [Addr.add, h]
  omega

theorem str_new (b : Int) (h0 : 0 ≤ b) (h1 : b ≤ 255) (W : World) :
    (convert 45 9 (.slice (some ⟨W.heap.size, 0, none⟩) 1 1)).run Tryd.prog (W.alloc (.cells #[.int .u8 b] 5)) = .ok (.string ⟨#[UInt8.ofNat b.toNat]⟩) (W.alloc (.cells #[.int .u8 b] 5)) :=
  run_str1 _ _ b (by simp) h0 h1 rfl
theorem str_new_drew (b : Int) (h0 : 0 ≤ b) (h1 : b ≤ 255) (W : World) :
    (convert 45 9 (.slice (some ⟨W.heap.size, 0, none⟩) 1 1)).run Tryd.prog (W.alloc (.cells #[.int .u8 b] 5)).drew = .ok (.string ⟨#[UInt8.ofNat b.toNat]⟩) (W.alloc (.cells #[.int .u8 b] 5)).drew :=
  run_str1 _ _ b (by simp) h0 h1 rfl
theorem str_kept (w : World) (b : Int) (h0 : 0 ≤ b) (h1 : b ≤ 255) {w' : World} (hb : Below (w.alloc (.cells #[.int .u8 b] 5)).drew.heap.size (w.alloc (.cells #[.int .u8 b] 5)).drew w') :
    (convert 45 9 (.slice (some ⟨w.heap.size, 0, none⟩) 1 1)).run Tryd.prog w' = .ok (.string ⟨#[UInt8.ofNat b.toNat]⟩) w' :=
  run_str1 _ _ b (by rw [hb.cell (by simp)]; simp) h0 h1 rfl
end Go.Proofs.YtimdioacmojkeabDoor

namespace Go.Proofs.YtimdioacmojkeabDoor
open Go.RowKit

theorem number_step (s : ByteArray) (q : Nat) (hq : s.size = q + 1) (h8 : s.size ≤ 8) :
    IntKind.u64.wrap (256 * (Nm.val (s.data.toList.take q) : Int)) = 256 * (Nm.val (s.data.toList.take q) : Int) ∧
    256 * Nm.val (s.data.toList.take q) + (s[q]'(by omega)).toNat = Nm.val s.data.toList ∧ Nm.val s.data.toList < 18446744073709551616 := by
  have h1 := take_snoc s q (by omega)
  rw [List.take_of_length_le (by rw [← Lib.size_eq]; omega)] at h1
  have hlt := Nm.val_lt s.data.toList
  have hp : 256 ^ s.data.toList.length ≤ 256 ^ 8 := Nat.pow_le_pow_right (by omega) (by rw [← Lib.size_eq]; exact h8)
  have h2 : Nm.val s.data.toList = 256 * Nm.val (s.data.toList.take q) + (s[q]'(by omega)).toNat := by rw [← Nm.val_snoc, ← h1]
  exact ⟨wrap_u64 _ (by omega) (by omega), by omega, by omega⟩
end Go.Proofs.YtimdioacmojkeabDoor



namespace Go.Proofs
end Go.Proofs

namespace Go.Proofs.YtimdioacmojkeabDoor
open Go.RowKit

theorem pre_zero (l : List UInt8) (k : Nat) (h : k ≤ l.length) (z : UInt8) : Lib.hasPrefix (l.take k) [z] = decide (0 < k ∧ l.headD 0 = z) := by
  cases k with
  | zero => simp [Lib.hasPrefix]
  | succ k =>
    cases l with
    | nil => simp at h
    | cons b l =>
      have e : Lib.hasPrefix (List.take (k + 1) (b :: l)) [z] = (z == b) := by simp [Lib.hasPrefix, List.isPrefixOf]
      rw [e, Bool.eq_iff_iff, beq_iff_eq, decide_eq_true_eq]
      exact ⟨fun h => ⟨by omega, h.symm⟩, fun h => h.2.symm⟩
theorem mid_data (s : ByteArray) (k : Nat) : (s.extract 1 (1 + k)).data.toList = s.data.toList.tail.take k := by
  rw [Lib.extract_data, List.drop_one, Nat.add_sub_cancel_left]
theorem tail_length (s : ByteArray) : s.data.toList.tail.length = s.size - 1 := by rw [List.length_tail, ← Lib.size_eq]
theorem list_ne' (s : ByteArray) (h : 0 < s.size) : s.data.toList ≠ [] := by
  intro e; have := Lib.size_eq s; rw [e] at this; simp only [List.length_nil] at this; omega
end Go.Proofs.YtimdioacmojkeabDoor

namespace Go.Proofs.YtimdioacmojkeabDoor
open Go.RowKit
end Go.Proofs.YtimdioacmojkeabDoor

namespace Go.Proofs
end Go.Proofs

namespace Go.Proofs.YtimdioacmojkeabDoor
open Go.RowKit

theorem replace_esc (l : List UInt8) : Lib.replaceK [0] [0, 255] (l.count 0) l = Nm.esc l := by
  induction l with
  | nil => rfl
  | cons b l ih =>
    by_cases hb : b = 0
    · subst hb
      rw [List.count_cons_self, Lib.replaceK_hit _ _ _ _ 0 (by rw [Lib.index_one]; rfl)]
      show [0, 255] ++ Lib.replaceK [0] [0, 255] (List.count 0 l) l = _
      rw [ih]; rfl
    · have hne : ¬ (b == (0 : UInt8)) = true := by simpa using hb
      rw [List.count_cons_of_ne hb]
      have he : Nm.esc (b :: l) = b :: Nm.esc l := by simp [Nm.esc, hb]
      rw [he]
      cases hk : List.count 0 l with
      | zero => rw [hk] at ih; rw [← ih]; rfl
      | succ k =>
        rw [hk] at ih
        obtain ⟨i, hi⟩ := Lib.index_of_count (s := l) (old := [0]) (by rw [Lib.count_one, hk]; omega)
        rw [Lib.replaceK_hit _ _ _ _ i hi] at ih
        have hi2 : Lib.index (b :: l) [0] = ((i + 1 : Nat) : Int) := by
          rw [Lib.index_one] at hi ⊢
          unfold Lib.indexByte
          rw [if_neg hne, hi, if_neg (by intro e; have := beq_iff_eq.1 e; omega)]
          omega
        rw [Lib.replaceK_hit _ _ _ _ (i + 1) hi2, List.take_succ_cons, ← ih]
        rfl
theorem replaceAll_esc (l : List UInt8) : Lib.replaceAll l [0] [0, 255] = Nm.esc l := by
  rw [Lib.replaceAll, Lib.replace, if_neg (by decide), Lib.replaceNum, if_pos (.inl (by decide)), Lib.count_one, replace_esc]

theorem one_byte (s : ByteArray) (k : Nat) (h : k < s.size) : s.extract k (k + 1) = ⟨#[s[k]]⟩ := by
  apply ByteArray.ext
  apply Array.ext'
  rw [Lib.extract_data, drop_byte s k h, Nat.add_sub_cancel_left]
  rfl
end Go.Proofs.YtimdioacmojkeabDoor

namespace Go.Proofs.YtimdioacmojkeabDoor
open Go.RowKit

/-- what lies in cell j when k bytes have been turned -/
def turnAt (s : ByteArray) (k j : Nat) : Int := if j < k then 255 - ((s.data.toList.getD j 0).toNat : Int) else ((s.data.toList.getD j 0).toNat : Int)
theorem getD_byteT (s : ByteArray) (j : Nat) (h : j < s.size) : s.data.toList.getD j 0 = s[j] := by
  rw [List.getD_eq_getElem?_getD, List.getElem?_eq_getElem (by simpa using h)]; rfl
theorem turn_step {s : ByteArray} {k B : Nat} {w : World} (hk : k < s.size) (h : ∀ j, j < s.size → w.cell? ⟨B, j, none⟩ = some (.int .u8 (turnAt s k j))) :
    ∀ j, j < s.size → (w.setCell ⟨B, k, none⟩ (.int .u8 (255 - (s[k].toNat : Int)))).cell? ⟨B, j, none⟩ = some (.int .u8 (turnAt s (k + 1) j)) := by
  intro j hj
  by_cases e : j = k
  · subst e
    rw [World.cell?_setCell_same _ _ _ (h j hj), turnAt, if_pos (by omega), getD_byteT s j hj]
  · rw [World.cell?_setCell_other _ _ _ _ (by intro h; exact e (congrArg Addr.off h).symm), h j hj, turnAt, turnAt]
    by_cases hjk : j < k
    · rw [if_pos hjk, if_pos (by omega)]
    · rw [if_neg hjk, if_neg (by omega)]
theorem turn_back (s : ByteArray) (B cap : Nat) (w : World) (h : ∀ j, j < s.size → w.cell? ⟨B, j, none⟩ = some (.int .u8 (turnAt s s.size j))) :
    (convert 45 9 (.slice (some ⟨B, 0, none⟩) s.size cap)).run Tryd.prog w = .ok (.string ⟨(Nm.tn 255 s.data.toList).toArray⟩) w := by
  have hl : (Nm.tn 255 s.data.toList).length = s.size := by rw [Nm.tn_length, ← Lib.size_eq]
  have := run_convert_bytes_back w 45 9 5 ⟨B, 0, none⟩ cap (Nm.tn 255 s.data.toList) (P := Tryd.prog) (by kernel_rfl) (by kernel_rfl) (by kernel_rfl) (by
    intro j hj
    rw [hl] at hj
    have e : (⟨B, 0, none⟩ : Addr).add j = ⟨B, j, none⟩ := by unfold Addr.add; split <;> simp_all
    have hb := s[j].toNat_lt
    have g : (Nm.tn 255 s.data.toList)[j] = s[j] ^^^ UInt8.ofNat 255 := by simp [Nm.tn]; rfl
    rw [e, h j hj, turnAt, if_pos hj, getD_byteT s j hj, g, Nm.not_byte]
    congr 2
    omega)
  rw [hl] at this
  exact this
end Go.Proofs.YtimdioacmojkeabDoor

namespace Go.Proofs.YtimdioacmojkeabDoor
open Go.RowKit

theorem xor255 (b : UInt8) : b ^^^ UInt8.ofNat 255 = 0 ↔ b = 255 := by
  simp

/-- what is said of k digits from the second byte on, turned by t -/
theorem read_mid (s : ByteArray) (k t : Nat) (h8 : k ≤ 8) (hl : 1 + k ≤ s.size) (hd : ¬ (0 < k ∧ s.data.toList.tail.headD 0 ^^^ UInt8.ofNat t = 0)) :
    Nm.readN s.data.toList.tail k t = (Nm.val (Nm.tn t (s.data.toList.tail.take k)), 0) := by
  rw [Nm.readN, if_neg (by omega), if_neg (by rw [tail_length]; omega), if_neg hd]
theorem read_bad (s : ByteArray) (k t : Nat) (h8 : k ≤ 8) (hl : 1 + k ≤ s.size) (hd : 0 < k ∧ s.data.toList.tail.headD 0 ^^^ UInt8.ofNat t = 0) :
    Nm.readN s.data.toList.tail k t = (0, 4) := by
  rw [Nm.readN, if_neg (by omega), if_neg (by rw [tail_length]; omega), if_pos hd]
theorem read_short (s : ByteArray) (k t : Nat) (h8 : k ≤ 8) (hp : 0 < s.size) (hl : s.size < 1 + k) :
    Nm.readN s.data.toList.tail k t = (0, 3) := by
  rw [Nm.readN, if_neg (by omega), if_pos (by rw [tail_length]; omega)]
end Go.Proofs.YtimdioacmojkeabDoor

namespace Go.Proofs.YtimdioacmojkeabDoor
open Go.RowKit

theorem head3 {a b : Int} {c : Int} {a' b' c' : Int} (h1 : a = a') (h2 : b = b') (h3 : c = c') :
    Ending.returned (.tuple #[.int .i64 a, .int .i64 b, .int .i64 c]) = .returned (.tuple #[.int .i64 a', .int .i64 b', .int .i64 c']) := by rw [h1, h2, h3]
end Go.Proofs.YtimdioacmojkeabDoor

namespace Go.Proofs.YtimdioacmojkeabDoor
open Go.RowKit

/-- two nodes in blocks of their own: the answer, and the one that is filled -/
structure R2 (w W : World) (b : Nat) (x0 x1 x2 x3 x4 x5 x6 : Value) : Prop where
  res : W.heap[b]? = some (.cells #[.string ⟨#[]⟩, .int .i64 0, .int .i64 0, .int .i64 0, .int .i64 0, .slice none 0 0, .string ⟨#[]⟩] 29 (0, 0))
  str : W.heap[b + 1]? = some (.cells #[x0, x1, x2, x3, x4, x5, x6] 29 (0, 0))
  bel : Below w.heap.size w W
  at_ : w.heap.size = b

section
variable {w W W' : World} {b : Nat} {x0 x1 x2 x3 x4 x5 x6 y : Value}
theorem R2.past (h : R2 w W b x0 x1 x2 x3 x4 x5 x6) (hb : Below W.heap.size W W') : R2 w W' b x0 x1 x2 x3 x4 x5 x6 :=
  ⟨(hb.block _ (Array.getElem?_eq_some_iff.1 h.res).1).trans h.res, (hb.block _ (Array.getElem?_eq_some_iff.1 h.str).1).trans h.str, h.bel.trans (hb.mono h.bel.size), h.at_⟩

theorem R2.setAt (h : R2 w W b x0 x1 x2 x3 x4 x5 x6) (j : Nat) (y : Value) {y0 y1 y2 y3 y4 y5 y6 : Value} (e : (#[x0, x1, x2, x3, x4, x5, x6] : Array Value).setIfInBounds j y = #[y0, y1, y2, y3, y4, y5, y6]) :
    R2 w (W.setCell ⟨b + 1, j, none⟩ y) b y0 y1 y2 y3 y4 y5 y6 := by
  refine ⟨?_, ?_, h.bel.setCell (p := ⟨b + 1, j, none⟩) (by have := h.at_; simp; omega) _, h.at_⟩
  · rw [Below.heap_setCell _ _ _ _ (by simp)]; exact h.res
  · rw [← e]
    simp [World.setCell, Array.getElem?_modify, h.str]

theorem seven_fz {b : Nat} {T : TypeId} (h : W.heap[b]? = some (.cells #[x0, x1, x2, x3, x4, x5, x6] T (0, 0))) :
    W.frozen? ⟨b, 0, none⟩ = false ∧ W.frozen? ⟨b, 1, none⟩ = false ∧ W.frozen? ⟨b, 2, none⟩ = false ∧ W.frozen? ⟨b, 3, none⟩ = false ∧ W.frozen? ⟨b, 4, none⟩ = false ∧ W.frozen? ⟨b, 5, none⟩ = false ∧ W.frozen? ⟨b, 6, none⟩ = false := by
  refine ⟨?_, ?_, ?_, ?_, ?_, ?_, ?_⟩ <;> simp [World.frozen?, h]

theorem below7 (h : Below w.heap.size w W) (hM : w.heap.size = b) (x0 x1 x2 x3 x4 x5 x6 : Value) :
    Below w.heap.size w (((((((W.setCell ⟨b, 0, none⟩ x0).setCell ⟨b, 1, none⟩ x1).setCell ⟨b, 2, none⟩ x2).setCell ⟨b, 3, none⟩ x3).setCell ⟨b, 4, none⟩ x4).setCell ⟨b, 5, none⟩ x5).setCell ⟨b, 6, none⟩ x6) :=
  ((((((h.setCell (p := ⟨b, 0, none⟩) (Nat.le_of_eq hM) x0).setCell (p := ⟨b, 1, none⟩) (Nat.le_of_eq hM) x1).setCell (p := ⟨b, 2, none⟩) (Nat.le_of_eq hM) x2).setCell (p := ⟨b, 3, none⟩) (Nat.le_of_eq hM) x3).setCell (p := ⟨b, 4, none⟩) (Nat.le_of_eq hM) x4).setCell (p := ⟨b, 5, none⟩) (Nat.le_of_eq hM) x5).setCell (p := ⟨b, 6, none⟩) (Nat.le_of_eq hM) x6

end

/-- what nodeRead answers -/
def RdOut (s : ByteArray) (w : World) (e : Ending) (w' : World) : Prop :=
  Below w.heap.size w w' ∧
  (((Td.rdOne s.data.toList).2.2 ≠ 0 ∧ ∃ (n : Nod) (a : Option Addr) (m c : Nat), e = .returned (.tuple #[ndV n (.slice a m c), .string ⟨#[]⟩, .int .i64 (Td.rdOne s.data.toList).2.2])) ∨
   ∃ (n : Nod) (v : Value), (Td.rdOne s.data.toList) = (n.nd, (Td.rdOne s.data.toList).2.1, 0) ∧ e = .returned (.tuple #[ndV n v, .string ⟨(Td.rdOne s.data.toList).2.1.toArray⟩, .int .i64 0]) ∧ Rx 8 idC w' v n.parts ∧
    (∀ a m c, v = .slice (some a) m c → ∃ cur fr, w'.heap[a.block]? = some (.cells cur 32 fr)) ∧ n.Ok ∧ n.name.size ≤ 1024)

theorem ext_str (s : ByteArray) (k : Nat) : s.extract k s.size = ⟨(s.data.toList.drop k).toArray⟩ := by
  apply ByteArray.ext
  apply Array.toList_inj.1
  rw [Nn.ext_drop']

/-! the reading in stages -/
namespace Td
def rdK (t : Bs) (kd md : Nat) (i : Int) (sz np : Nat) (l : Bs) : Nd × Bs × Int :=
  if l.length < 8 * np then (nd0, [], 3) else
  let k := Nm.getT (l.drop (8 * np))
  if k.2.2 ≠ 0 then (nd0, [], k.2.2) else
  (⟨t, kd, md, i, sz, eights np l, k.1⟩, (l.drop (8 * np)).drop k.2.1, 0)

def rdP (t : Bs) (kd md : Nat) (i : Int) (sz : Nat) (l : Bs) : Nd × Bs × Int := let p := num 300 l; if p.2.2 ≠ 0 then (nd0, [], p.2.2) else rdK t kd md i sz p.1 p.2.1

def rdZ (t : Bs) (kd md : Nat) (i : Int) (l : Bs) : Nd × Bs × Int := let z := num 4096 l; if z.2.2 ≠ 0 then (nd0, [], z.2.2) else rdP t kd md i z.1 z.2.1

def rdI (t : Bs) (kd md : Nat) (l : Bs) : Nd × Bs × Int := let i := Nm.getI l; if i.2.2 ≠ 0 then (nd0, [], i.2.2) else rdZ t kd md i.1 (l.drop i.2.1)

def rdM (t : Bs) (kd : Nat) (l : Bs) : Nd × Bs × Int := let m := num 511 l; if m.2.2 ≠ 0 then (nd0, [], m.2.2) else rdI t kd m.1 m.2.1

theorem rdOne_M {s t : Bs} {kt : Nat} (h1 : Nm.getT s = (t, kt, 0)) (h2 : s.drop kt ≠ []) : rdOne s = rdM t ((s.drop kt).headD 0).toNat (s.drop kt).tail := by
  unfold rdOne
  rw [h1]
  simp only [ne_eq, not_true, if_false, if_neg h2]
  rfl

theorem num_len (most : Nat) (s : Bs) : (num most s).2.1.length ≤ s.length := by
  unfold num
  simp only
  split
  · simp
  · split
    · simp
    · simp

theorem num_most {most : Nat} {s : Bs} {n : Nat} {r : Bs} {e : Int} (h : num most s = (n, r, e)) : n ≤ most := by
  unfold num at h
  simp only at h
  split at h
  · have := congrArg (fun q => q.1) h
    simp at this
    omega
  · split at h
    · have := congrArg (fun q => q.1) h
      simp at this
      omega
    · have := congrArg (fun q => q.1) h
      simp at this
      omega

theorem num_zero {most : Nat} {s : Bs} {n : Nat} {r : Bs} {e : Int} (h : num most s = (n, r, e)) (he : e ≠ 0) : r = [] := by
  unfold num at h
  simp only at h
  split at h
  · exact (congrArg (fun q => q.2.1) h).symm
  · split at h
    · exact (congrArg (fun q => q.2.1) h).symm
    · exact absurd (congrArg (fun q => q.2.2) h).symm he

theorem rdM_err {t l r : Bs} {kd n : Nat} {e : Int} (h : num 511 l = (n, r, e)) (he : e ≠ 0) : (rdM t kd l).2.2 = e := by unfold rdM; rw [h]; simp only [if_pos he]

theorem rdM_ok {t l r : Bs} {kd n : Nat} (h : num 511 l = (n, r, 0)) : rdM t kd l = rdI t kd n r := by unfold rdM; rw [h]; simp only [ne_eq, not_true, if_false]

theorem rdI_err {t l : Bs} {kd md k : Nat} {i e : Int} (h : Nm.getI l = (i, k, e)) (he : e ≠ 0) : (rdI t kd md l).2.2 = e := by unfold rdI; rw [h]; simp only [if_pos he]

theorem rdI_ok {t l : Bs} {kd md k : Nat} {i : Int} (h : Nm.getI l = (i, k, 0)) : rdI t kd md l = rdZ t kd md i (l.drop k) := by unfold rdI; rw [h]; simp only [ne_eq, not_true, if_false]

theorem rdZ_err {t l r : Bs} {kd md n : Nat} {i e : Int} (h : num 4096 l = (n, r, e)) (he : e ≠ 0) : (rdZ t kd md i l).2.2 = e := by unfold rdZ; rw [h]; simp only [if_pos he]

theorem rdZ_ok {t l r : Bs} {kd md n : Nat} {i : Int} (h : num 4096 l = (n, r, 0)) : rdZ t kd md i l = rdP t kd md i n r := by unfold rdZ; rw [h]; simp only [ne_eq, not_true, if_false]

theorem rdP_err {t l r : Bs} {kd md sz n : Nat} {i e : Int} (h : num 300 l = (n, r, e)) (he : e ≠ 0) : (rdP t kd md i sz l).2.2 = e := by unfold rdP; rw [h]; simp only [if_pos he]

theorem rdP_ok {t l r : Bs} {kd md sz n : Nat} {i : Int} (h : num 300 l = (n, r, 0)) : rdP t kd md i sz l = rdK t kd md i sz n r := by unfold rdP; rw [h]; simp only [ne_eq, not_true, if_false]

theorem rdK_short {t l : Bs} {kd md sz np : Nat} {i : Int} (h : l.length < 8 * np) : (rdK t kd md i sz np l).2.2 = 3 := by unfold rdK; rw [if_pos h]

theorem rdK_err {t l k : Bs} {kd md sz np kk : Nat} {i e : Int} (h : ¬ l.length < 8 * np) (hk : Nm.getT (l.drop (8 * np)) = (k, kk, e)) (he : e ≠ 0) : (rdK t kd md i sz np l).2.2 = e := by unfold rdK; rw [if_neg h, hk]; simp only [if_pos he]

theorem rdK_ok {t l k : Bs} {kd md sz np kk : Nat} {i : Int} (h : ¬ l.length < 8 * np) (hk : Nm.getT (l.drop (8 * np)) = (k, kk, 0)) : rdK t kd md i sz np l = (⟨t, kd, md, i, sz, eights np l, k⟩, (l.drop (8 * np)).drop kk, 0) := by
  unfold rdK; rw [if_neg h, hk]; simp only [ne_eq, not_true, if_false]

theorem eights_more : ∀ (j : Nat) (l : Bs), eights (j + 1) l = eights j l ++ [(l.drop (8 * j)).take 8]
  | 0, l => rfl
  | j + 1, l => by
    rw [eights, eights_more j (l.drop 8), List.drop_drop, show 8 + 8 * j = 8 * (j + 1) from by omega]
    rfl

end Td

theorem eight_of8 {t : List UInt8} (h : t.length = 8) : ∃ b0 b1 b2 b3 b4 b5 b6 b7, t = [b0, b1, b2, b3, b4, b5, b6, b7] := by
  match t, h with
  | [b0, b1, b2, b3, b4, b5, b6, b7], _ => exact ⟨b0, b1, b2, b3, b4, b5, b6, b7, rfl⟩

theorem own_ge {base : Nat} {e : TypeId} {k : Nat} {v : Value} {n : Nat} {xs : List Value} {w : World} (h : w.ownsRow base e k v n xs) {g : Nat} (hg : v.ownBlock = some g) : base ≤ g := by
  obtain ⟨_, _, q, _⟩ := own_block h hg
  exact q

theorem own_more8 {w : World} {b n : Nat} {v : Value} {es es' : List (List UInt8)} {x : List UInt8} (h : w.ownsRow (b + 2) 32 8 v n (rowR idC es ++ idC x)) (he : es' = es ++ [x]) (y : Value) :
    (w.setCell ⟨b + 1, 5, none⟩ y).ownsRow (b + 2) 32 8 v n (rowR idC es') := by
  subst he
  rw [rowR_more]
  exact own_kept h ((Kept.refl (fun k => k ≠ b + 1) w).setCell (by simp) _) fun g hg => by have := own_ge h hg; omega

theorem rx_sub {w : World} {v : Value} {L : List { x : List UInt8 // x.length = 8 }} (hr : Rx 8 (fun x : { x : List UInt8 // x.length = 8 } => idC x.1) w v L) : Rx 8 idC w v (L.map (·.1)) := by
  refine ⟨?_, hr.room⟩
  rcases hr.at_ with ⟨h1, rfl⟩ | ⟨bk, o, cp, h1, h2, h3⟩
  · exact .inl ⟨h1, rfl⟩
  · refine .inr ⟨bk, o, cp, by rw [List.length_map]; exact h1, h2, fun j t hj r u hu => ?_⟩
    rw [List.getElem?_map] at hj
    cases e : L[j]? with
    | none => rw [e] at hj; simp at hj
    | some q =>
      rw [e] at hj
      obtain rfl : q.1 = t := by simpa using hj
      exact h3 j q e r u hu

theorem rx_own {base : Nat} {w : World} {v : Value} {n : Nat} {l : List (List UInt8)} (h : w.ownsRow base 32 8 v n (rowR idC l)) (hn : l.length = n) (h8 : ∀ t ∈ l, t.length = 8) : Rx 8 idC w v l := by
  obtain ⟨L, rfl⟩ : ∃ L : List { x : List UInt8 // x.length = 8 }, l = L.map (·.1) := ⟨l.attach.map (fun x => ⟨x.1, h8 x.1 x.2⟩), by simp [List.map_map, Function.comp_def]⟩
  refine rx_sub (Rx.of_own (base := base) (T := 32) (fun t => by rw [idC, List.length_map, t.2]) ?_)
  have e : rowR (fun x : { x : List UInt8 // x.length = 8 } => idC x.1) L = rowR idC (L.map (·.1)) := by simp [rowR]
  rw [e]
  rw [List.length_map] at hn
  rw [hn]
  exact h

theorem own_type {base n k : Nat} {T : TypeId} {w : World} {v : Value} {xs : List Value} (h : w.ownsRow base T k v n xs) : ∀ a m c, v = .slice (some a) m c → ∃ cur fr, w.heap[a.block]? = some (.cells cur T fr) := by
  intro a m c e
  rcases h.2 with ⟨rfl, _⟩ | ⟨g, cap, cur, rfl, hg, hh, _⟩
  · cases e
  · cases e
    exact ⟨_, _, hh⟩

theorem kept7 (W : World) (b : Nat) (x0 x1 x2 x3 x4 x5 x6 : Value) : Kept (fun k => k ≠ b) W (((((((W.setCell ⟨b, 0, none⟩ x0).setCell ⟨b, 1, none⟩ x1).setCell ⟨b, 2, none⟩ x2).setCell ⟨b, 3, none⟩ x3).setCell ⟨b, 4, none⟩ x4).setCell ⟨b, 5, none⟩ x5).setCell ⟨b, 6, none⟩ x6) :=
  (((((((Kept.refl (fun k => k ≠ b) W).setCell (a := ⟨b, 0, none⟩) (by simp) x0).setCell (a := ⟨b, 1, none⟩) (by simp) x1).setCell (a := ⟨b, 2, none⟩) (by simp) x2).setCell (a := ⟨b, 3, none⟩) (by simp) x3).setCell (a := ⟨b, 4, none⟩) (by simp) x4).setCell (a := ⟨b, 5, none⟩) (by simp) x5).setCell (a := ⟨b, 6, none⟩) (by simp) x6

theorem wf_i {n : Int} (h0 : -9223372036854775808 ≤ n) (h1 : n ≤ 9223372036854775807) : (Lit.int .i64 n).wf = true := by
  simp [Lit.wf, IntKind.min, IntKind.max, IntKind.signed, IntKind.bits]
  omega

theorem R2.grown {w W W' : World} {b : Nat} {x0 x1 x2 x3 x4 x5 x6 : Value} {row : Option Nat} (h : R2 w W b x0 x1 x2 x3 x4 x5 x6) (hg : W.grownBy W' row) (hr : ∀ g, row = some g → b + 2 ≤ g) : R2 w W' b x0 x1 x2 x3 x4 x5 x6 :=
  ⟨(hg.block b (Array.getElem?_eq_some_iff.1 h.res).1 fun e => by have := hr b e.symm; omega).trans h.res, (hg.block (b + 1) (Array.getElem?_eq_some_iff.1 h.str).1 fun e => by have := hr (b + 1) e.symm; omega).trans h.str,
    h.bel.grown hg h.bel.size fun g hgb => by have := hr g hgb; have := h.at_; omega, h.at_⟩

theorem info_id : (Tryd.prog.info? 32).map (fun i => (i.zero, i.size, i.bytes)) = some (some (.agg #[.int .u8 0, .int .u8 0, .int .u8 0, .int .u8 0, .int .u8 0, .int .u8 0, .int .u8 0, .int .u8 0]), 8, 8) := by kernel_rfl

theorem eight_new (W : World) (v0 v1 v2 v3 v4 v5 v6 v7 : Value) {T : TypeId} : ∀ j u, [v0, v1, v2, v3, v4, v5, v6, v7][j]? = some u → (W.alloc (.cells #[v0, v1, v2, v3, v4, v5, v6, v7] T)).cell? ((⟨W.heap.size, 0, none⟩ : Addr).add j) = some u := by
  intro j u hj
  rw [show ((⟨W.heap.size, 0, none⟩ : Addr).add j) = ⟨W.heap.size, j, none⟩ from by unfold Addr.add; split <;> simp_all]
  match j, hj with
  | 0, hj => simp at hj; subst hj; simp
  | 1, hj => simp at hj; subst hj; simp
  | 2, hj => simp at hj; subst hj; simp
  | 3, hj => simp at hj; subst hj; simp
  | 4, hj => simp at hj; subst hj; simp
  | 5, hj => simp at hj; subst hj; simp
  | 6, hj => simp at hj; subst hj; simp
  | 7, hj => simp at hj; subst hj; simp

theorem R2.drew {w W : World} {b : Nat} {x0 x1 x2 x3 x4 x5 x6 : Value} (h : R2 w W b x0 x1 x2 x3 x4 x5 x6) : R2 w W.drew b x0 x1 x2 x3 x4 x5 x6 := ⟨h.res, h.str, h.bel.drew, h.at_⟩
end Go.Proofs.YtimdioacmojkeabDoor

namespace Go.Proofs.YtimdioacmojkeabDoor
open Go.RowKit

/-- a node whose IDs lie in a block of IDs -/
def NdG (w : World) (n : Nod) (c : List Value) : Prop := ∃ v, c = ndC n v ∧ Rx 8 idC w v n.parts ∧ (∀ a m c, v = .slice (some a) m c → ∃ cur fr, w.heap[a.block]? = some (.cells cur 32 fr)) ∧ n.Ok

theorem NdG.kt {w W : World} {n : Nod} {c : List Value} (hk : Kt 29 w W) (h : NdG w n c) : NdG W n c := by
  obtain ⟨v, e, hr, ht, ho⟩ := h
  refine ⟨v, e, ⟨?_, hr.room⟩, fun a m c hv => ?_, ho⟩
  · rcases hr.at_ with h1 | ⟨bk, o, cap, h1, h2, h3⟩
    · exact .inl h1
    · obtain ⟨cur, fr, hb⟩ := ht _ _ _ h1
      have hb' := hk.cell hb (by decide)
      refine .inr ⟨bk, o, cap, h1, Nat.lt_of_lt_of_le h2 hk.size, fun j t hj r u hu => ?_⟩
      rw [← h3 j t hj r u hu]
      simp only [World.cell?] at hb hb' ⊢
      rw [hb, hb']
  · obtain ⟨cur, fr, hb⟩ := ht a m c hv
    exact ⟨cur, fr, hk.cell hb (by decide)⟩

theorem NdG.below {w W : World} {n : Nod} {c : List Value} (hb : Below w.heap.size w W) (h : NdG w n c) : NdG W n c := NdG.kt (Kt.of_below hb) h

theorem NdG.r {w : World} {n : Nod} {c : List Value} (h : NdG w n c) : NdR w n c := by
  obtain ⟨v, e, hr, _, ho⟩ := h
  exact ⟨v, e, hr, ho⟩

theorem Nds.of_oy {base : Nat} {w : World} {v : Value} {l : List Nod} (h : Oy 7 29 NdG base w v l) : Nds w v l := by
  rcases (Rw.of_ry h.ry).at_ with h1 | ⟨bk, o, cap, h1, h2, h3, h4⟩
  · exact ⟨.inl h1⟩
  · refine ⟨.inr ⟨bk, o, cap, h1, h2, h3, fun j t hj => ?_⟩⟩
    obtain ⟨c, c1, c2, c3⟩ := h4 j t hj
    exact ⟨c, c1, c2.r, c3⟩

theorem info_nd : (Tryd.prog.info? 29).map (fun i => (i.zero, i.size, i.bytes)) = some (some (.agg #[.string ⟨#[]⟩, .int .i64 0, .int .i64 0, .int .i64 0, .int .i64 0, .slice none 0 0, .string ⟨#[]⟩]), 7, 88) := by kernel_rfl

theorem below7' {w W : World} {B b : Nat} (h : Below B w W) (hM : B ≤ b) (x0 x1 x2 x3 x4 x5 x6 : Value) :
    Below B w (((((((W.setCell ⟨b, 0, none⟩ x0).setCell ⟨b, 1, none⟩ x1).setCell ⟨b, 2, none⟩ x2).setCell ⟨b, 3, none⟩ x3).setCell ⟨b, 4, none⟩ x4).setCell ⟨b, 5, none⟩ x5).setCell ⟨b, 6, none⟩ x6) :=
  ((((((h.setCell (p := ⟨b, 0, none⟩) hM x0).setCell (p := ⟨b, 1, none⟩) hM x1).setCell (p := ⟨b, 2, none⟩) hM x2).setCell (p := ⟨b, 3, none⟩) hM x3).setCell (p := ⟨b, 4, none⟩) hM x4).setCell (p := ⟨b, 5, none⟩) hM x5).setCell (p := ⟨b, 6, none⟩) hM x6

theorem set_seven {W : World} {b : Nat} {T : TypeId} {y0 y1 y2 y3 y4 y5 y6 : Value} (h : W.heap[b]? = some (.cells #[y0, y1, y2, y3, y4, y5, y6] T (0, 0))) (x0 x1 x2 x3 x4 x5 x6 : Value) :
    (((((((W.setCell ⟨b, 0, none⟩ x0).setCell ⟨b, 1, none⟩ x1).setCell ⟨b, 2, none⟩ x2).setCell ⟨b, 3, none⟩ x3).setCell ⟨b, 4, none⟩ x4).setCell ⟨b, 5, none⟩ x5).setCell ⟨b, 6, none⟩ x6).heap[b]? = some (.cells #[x0, x1, x2, x3, x4, x5, x6] T (0, 0)) := by
  simp [World.setCell, Array.getElem?_modify, h]

theorem kt_any {T : TypeId} {W : World} {b : Nat} (h : ∃ cur fr, W.heap[b]? = some (.cells cur T fr)) (j : Nat) (x : Value) : Kt T W (W.setCell ⟨b, j, none⟩ x) ∧ ∃ cur fr, (W.setCell ⟨b, j, none⟩ x).heap[b]? = some (.cells cur T fr) := by
  obtain ⟨cur, fr, h⟩ := h
  refine ⟨Kt.set h j x, ?_⟩
  simp [World.setCell, Array.getElem?_modify, h]

theorem kt_seven {W : World} {b : Nat} {T : TypeId} {cur : Array Value} {fr : Nat × Nat} (h : W.heap[b]? = some (.cells cur T fr)) (x0 x1 x2 x3 x4 x5 x6 : Value) :
    Kt T W (((((((W.setCell ⟨b, 0, none⟩ x0).setCell ⟨b, 1, none⟩ x1).setCell ⟨b, 2, none⟩ x2).setCell ⟨b, 3, none⟩ x3).setCell ⟨b, 4, none⟩ x4).setCell ⟨b, 5, none⟩ x5).setCell ⟨b, 6, none⟩ x6) := by
  obtain ⟨k0, h0⟩ := kt_any ⟨_, _, h⟩ 0 x0
  obtain ⟨k1, h1⟩ := kt_any h0 1 x1
  obtain ⟨k2, h2⟩ := kt_any h1 2 x2
  obtain ⟨k3, h3⟩ := kt_any h2 3 x3
  obtain ⟨k4, h4⟩ := kt_any h3 4 x4
  obtain ⟨k5, h5⟩ := kt_any h4 5 x5
  obtain ⟨k6, _⟩ := kt_any h5 6 x6
  exact (((((k0.trans k1).trans k2).trans k3).trans k4).trans k5).trans k6

theorem seven_new (W : World) (v0 v1 v2 v3 v4 v5 v6 : Value) {T : TypeId} : ∀ j u, [v0, v1, v2, v3, v4, v5, v6][j]? = some u → (W.alloc (.cells #[v0, v1, v2, v3, v4, v5, v6] T)).cell? ((⟨W.heap.size, 0, none⟩ : Addr).add j) = some u := by
  intro j u hj
  rw [show ((⟨W.heap.size, 0, none⟩ : Addr).add j) = ⟨W.heap.size, j, none⟩ from by unfold Addr.add; split <;> simp_all]
  match j, hj with
  | 0, hj => simp at hj; subst hj; simp
  | 1, hj => simp at hj; subst hj; simp
  | 2, hj => simp at hj; subst hj; simp
  | 3, hj => simp at hj; subst hj; simp
  | 4, hj => simp at hj; subst hj; simp
  | 5, hj => simp at hj; subst hj; simp
  | 6, hj => simp at hj; subst hj; simp

/-- what TreeRead answers -/
def TrOut (s : ByteArray) (w : World) (e : Ending) (w' : World) : Prop :=
  ∃ v l, e = .returned (.tuple #[v, .int .i64 (Td.read s.data.toList).2]) ∧ nds l = (Td.read s.data.toList).1 ∧ Nds w' v l ∧ l.length ≤ 64 ∧ (∀ n ∈ l, n.name.size ≤ 1024) ∧ Below w.heap.size w w'

theorem Td.rdAll_step {m : Nat} {s : Td.Bs} {out : List Td.Nd} {RES : List Td.Nd × Int} (h : Td.rdAll (m + 1) s out = RES) : ((Td.rdOne s).2.2 ≠ 0 → RES = ([], (Td.rdOne s).2.2)) ∧ ((Td.rdOne s).2.2 = 0 → Td.rdAll m (Td.rdOne s).2.1 (out ++ [(Td.rdOne s).1]) = RES) := by
  rw [Td.rdAll] at h
  refine ⟨fun he => ?_, fun he => ?_⟩
  · rw [if_pos he] at h; exact h.symm
  · rw [if_neg (fun k => k he)] at h; exact h
end Go.Proofs.YtimdioacmojkeabDoor

namespace Go.Proofs.YtimdioacmojkeabDoor
open Go.RowKit
set_option maxRecDepth 4000

/-- two nodes in blocks of their own: the answer, and the one that is filled; a reader in block br -/
structure R3 (w W : World) (br b : Nat) (x0 x1 x2 x3 x4 x5 x6 : Value) : Prop where
  res : W.heap[b]? = some (.cells #[.string ⟨#[]⟩, .int .i64 0, .int .i64 0, .int .i64 0, .int .i64 0, .slice none 0 0, .string ⟨#[]⟩] 29 (0, 0))
  str : W.heap[b + 1]? = some (.cells #[x0, x1, x2, x3, x4, x5, x6] 29 (0, 0))
  kept : Kept (fun j => j ≠ br) w W
  at_ : w.heap.size = b
  lt : br < b

section
variable {w W W' : World} {br b : Nat} {x0 x1 x2 x3 x4 x5 x6 y : Value} {x : Td.St}
theorem R3.past (h : R3 w W br b x0 x1 x2 x3 x4 x5 x6) (hk : Kept (fun j => j ≠ br) W W') : R3 w W' br b x0 x1 x2 x3 x4 x5 x6 :=
  ⟨hk.obj (by have := h.lt; omega) h.res, hk.obj (by have := h.lt; omega) h.str, h.kept.trans hk, h.at_, h.lt⟩

theorem R3.setAt (h : R3 w W br b x0 x1 x2 x3 x4 x5 x6) (j : Nat) (y : Value) {y0 y1 y2 y3 y4 y5 y6 : Value} (e : (#[x0, x1, x2, x3, x4, x5, x6] : Array Value).setIfInBounds j y = #[y0, y1, y2, y3, y4, y5, y6]) :
    R3 w (W.setCell ⟨b + 1, j, none⟩ y) br b y0 y1 y2 y3 y4 y5 y6 := by
  refine ⟨?_, ?_, h.kept.then ((Below.refl (b + 1) W).setCell (p := ⟨b + 1, j, none⟩) (Nat.le_refl _) _) (by have := h.at_; omega), h.at_, h.lt⟩
  · rw [Below.heap_setCell _ _ _ _ (by simp)]; exact h.res
  · rw [← e]
    simp [World.setCell, Array.getElem?_modify, h.str]

theorem R3.rs (h : R3 w W br b x0 x1 x2 x3 x4 x5 x6) (hr : Rs W br x) (j : Nat) (y : Value) : Rs (W.setCell ⟨b + 1, j, none⟩ y) br x := by
  unfold Rs
  rw [Below.heap_setCell _ _ _ _ (by have := h.lt; simp; omega)]
  exact hr

end

/-- what node answers -/
def NoOut (br : Nat) (w : World) (x : Td.St) (e : Ending) (w' : World) : Prop :=
  ∃ (n : Nod) (v : Value), e = .returned (ndV n v) ∧ n.nd = (Td.sNode x).1 ∧ w'.ownsRow w.heap.size 32 8 v n.parts.length (rowR idC n.parts) ∧ n.Ok ∧ Rs w' br (Td.sNode x).2 ∧ Kept (fun j => j ≠ br) w w'

set_option maxHeartbeats 8000000 in
set_option maxRecDepth 10000 in
theorem rdnode_any (br : Nat) (x : Td.St) (w : World) (h : Rs w br x) (hx : x.1.length ≤ 1048576) :
    Calls Tryd.prog 25 #[.pointer (some ⟨br, 0, none⟩)] w (NoOut br w x) := by
  unfold NoOut
  obtain ⟨R, hR⟩ : ∃ R, Td.sNode x = R := ⟨_, rfl⟩
  have HR : Hid (Td.sNode x = R) := hR
  rw [hR]
  clear hR
  obtain ⟨W0, hW0⟩ : ∃ W0, W0 = (w.alloc (.cells #[.string ⟨#[]⟩, .int .i64 0, .int .i64 0, .int .i64 0, .int .i64 0, .slice none 0 0, .string ⟨#[]⟩] 29)).alloc (.cells #[.string ⟨#[]⟩, .int .i64 0, .int .i64 0, .int .i64 0, .int .i64 0, .slice none 0 0, .string ⟨#[]⟩] 29) := ⟨_, rfl⟩
  have hB0 : Below w.heap.size w W0 := by rw [hW0]; exact ((Below.refl _ w).alloc (Nat.le_refl _) _).alloc (by simp) _
  have HA : Hid (R3 w W0 br w.heap.size (.string ⟨#[]⟩) (.int .i64 0) (.int .i64 0) (.int .i64 0) (.int .i64 0) (.slice none 0 0) (.string ⟨#[]⟩)) := by
    refine ⟨?_, ?_, Kept.of_below hB0, rfl, h.lt⟩
    · rw [hW0]
      exact ((Below.refl _ (w.alloc (.cells #[.string ⟨#[]⟩, .int .i64 0, .int .i64 0, .int .i64 0, .int .i64 0, .slice none 0 0, .string ⟨#[]⟩] 29))).alloc (Nat.le_refl _) _).block w.heap.size (by simp) ▸ heap_alloc_new w _
    · rw [hW0]
      have := heap_alloc_new (w.alloc (.cells #[.string ⟨#[]⟩, .int .i64 0, .int .i64 0, .int .i64 0, .int .i64 0, .slice none 0 0, .string ⟨#[]⟩] 29)) (.cells #[.string ⟨#[]⟩, .int .i64 0, .int .i64 0, .int .i64 0, .int .i64 0, .slice none 0 0, .string ⟨#[]⟩] 29)
      simpa using this
  have HRs : Hid (Rs W0 br x) := h.past hB0
  clear hB0 h
  obtain ⟨b, hb⟩ : ∃ b, b = w.heap.size := ⟨_, rfl⟩
  have HWb : Hid (b = w.heap.size) := hb
  rw [← hb] at HA
  go_enter Tryd.func25, Tryd.ntmps25
  go_upto_region 2 with fail
  rw [← hW0, ← hb]
  clear hW0 hb
  have hcall := rdtext_any br x W0 HRs.out hx
  have hbd0 := Td.sTxt_bd x
  have hln := Td.sTxt_len x
  unfold RsOut at hcall
  rcases hE : Td.sTxt x with ⟨t0, x1⟩
  rw [hE] at hcall hbd0 hln
  have HE0 : Hid (Td.sTxt x = (t0, x1)) := hE
  replace hx : x1.1.length ≤ 1048576 := Nat.le_trans hln hx
  dsimp only at hcall hbd0
  clear hE hln
  go_wp2_with fail
  refine hcall.mono ?_
  rintro e w1 ⟨rfl, r0, k0⟩
  have HP := HA.out.past k0
  obtain ⟨c_0, c_1, c_2, c_3, c_4, c_5, c_6⟩ := seven_at HP.str
  obtain ⟨z_0, z_1, z_2, z_3, z_4, z_5, z_6⟩ := seven_fz HP.str
  obtain ⟨WN, hWN⟩ : ∃ WN, WN = w1.setCell ⟨b + 1, 0, none⟩ (.string ⟨t0.toArray⟩) := ⟨_, rfl⟩
  have HA' : Hid (R3 w WN br b (.string ⟨t0.toArray⟩) (.int .i64 0) (.int .i64 0) (.int .i64 0) (.int .i64 0) (.slice none 0 0) (.string ⟨#[]⟩)) := by rw [hWN]; exact HP.setAt 0 _ rfl
  have HRs' : Hid (Rs WN br x1) := by rw [hWN]; exact HP.rs r0 0 _
  clear HP hcall HA HRs r0 k0
  go_upto_region 3 with fail
  rw [← hWN]
  clear hWN c_0 c_1 c_2 c_3 c_4 c_5 c_6 z_0 z_1 z_2 z_3 z_4 z_5 z_6 w1
  have HA := HA'
  have HRs := HRs'
  clear HA' HRs'
  generalize WN = V1 at *
  have hcall := rdkind_any br x1 V1 HRs.out hx
  have hbd1 := Td.sKind_bd x1
  have hln := Td.sKind_len x1
  unfold RsOut at hcall
  rcases hE : Td.sKind x1 with ⟨t1, x2⟩
  rw [hE] at hcall hbd1 hln
  have HE1 : Hid (Td.sKind x1 = (t1, x2)) := hE
  replace hx : x2.1.length ≤ 1048576 := Nat.le_trans hln hx
  dsimp only at hcall hbd1
  clear hE hln
  go_wp2_with fail
  refine hcall.mono ?_
  rintro e w2 ⟨rfl, r1, k1⟩
  have HP := HA.out.past k1
  obtain ⟨c_0, c_1, c_2, c_3, c_4, c_5, c_6⟩ := seven_at HP.str
  obtain ⟨z_0, z_1, z_2, z_3, z_4, z_5, z_6⟩ := seven_fz HP.str
  obtain ⟨WN, hWN⟩ : ∃ WN, WN = w2.setCell ⟨b + 1, 1, none⟩ (.int .i64 (t1 : Nat)) := ⟨_, rfl⟩
  have HA' : Hid (R3 w WN br b (.string ⟨t0.toArray⟩) (.int .i64 (t1 : Nat)) (.int .i64 0) (.int .i64 0) (.int .i64 0) (.slice none 0 0) (.string ⟨#[]⟩)) := by rw [hWN]; exact HP.setAt 1 _ rfl
  have HRs' : Hid (Rs WN br x2) := by rw [hWN]; exact HP.rs r1 1 _
  clear HP hcall HA HRs r1 k1
  go_upto_region 4 with fail
  rw [← hWN]
  clear hWN c_0 c_1 c_2 c_3 c_4 c_5 c_6 z_0 z_1 z_2 z_3 z_4 z_5 z_6 w2
  have HA := HA'
  have HRs := HRs'
  clear HA' HRs'
  generalize WN = V2 at *
  have hcall := rdnumber_any br 511 x2 V2 HRs.out (by omega) hx
  have hbd2 := Td.sNum_most 511 x2
  have hln := Td.sNum_len 511 x2
  unfold RsOut at hcall
  rcases hE : Td.sNum 511 x2 with ⟨t2, x3⟩
  rw [hE] at hcall hbd2 hln
  have HE2 : Hid (Td.sNum 511 x2 = (t2, x3)) := hE
  replace hx : x3.1.length ≤ 1048576 := Nat.le_trans hln hx
  dsimp only at hcall hbd2
  clear hE hln
  go_wp2_with fail
  refine hcall.mono ?_
  rintro e w3 ⟨rfl, r2, k2⟩
  have HP := HA.out.past k2
  obtain ⟨c_0, c_1, c_2, c_3, c_4, c_5, c_6⟩ := seven_at HP.str
  obtain ⟨z_0, z_1, z_2, z_3, z_4, z_5, z_6⟩ := seven_fz HP.str
  obtain ⟨WN, hWN⟩ : ∃ WN, WN = w3.setCell ⟨b + 1, 2, none⟩ (.int .i64 (t2 : Nat)) := ⟨_, rfl⟩
  have HA' : Hid (R3 w WN br b (.string ⟨t0.toArray⟩) (.int .i64 (t1 : Nat)) (.int .i64 (t2 : Nat)) (.int .i64 0) (.int .i64 0) (.slice none 0 0) (.string ⟨#[]⟩)) := by rw [hWN]; exact HP.setAt 2 _ rfl
  have HRs' : Hid (Rs WN br x3) := by rw [hWN]; exact HP.rs r2 2 _
  clear HP hcall HA HRs r2 k2
  go_upto_region 5 with fail
  rw [← hWN]
  clear hWN c_0 c_1 c_2 c_3 c_4 c_5 c_6 z_0 z_1 z_2 z_3 z_4 z_5 z_6 w3
  have HA := HA'
  have HRs := HRs'
  clear HA' HRs'
  generalize WN = V3 at *
  have hcall := rdsigned_any br x3 V3 HRs.out hx
  have hbd3 := Td.sInt_bd x3
  have hln := Td.sInt_len x3
  unfold RsOut at hcall
  rcases hE : Td.sInt x3 with ⟨t3, x4⟩
  rw [hE] at hcall hbd3 hln
  have HE3 : Hid (Td.sInt x3 = (t3, x4)) := hE
  replace hx : x4.1.length ≤ 1048576 := Nat.le_trans hln hx
  dsimp only at hcall hbd3
  clear hE hln
  go_wp2_with fail
  refine hcall.mono ?_
  rintro e w4 ⟨rfl, r3, k3⟩
  have HP := HA.out.past k3
  obtain ⟨c_0, c_1, c_2, c_3, c_4, c_5, c_6⟩ := seven_at HP.str
  obtain ⟨z_0, z_1, z_2, z_3, z_4, z_5, z_6⟩ := seven_fz HP.str
  obtain ⟨WN, hWN⟩ : ∃ WN, WN = w4.setCell ⟨b + 1, 3, none⟩ (.int .i64 t3) := ⟨_, rfl⟩
  have HA' : Hid (R3 w WN br b (.string ⟨t0.toArray⟩) (.int .i64 (t1 : Nat)) (.int .i64 (t2 : Nat)) (.int .i64 t3) (.int .i64 0) (.slice none 0 0) (.string ⟨#[]⟩)) := by rw [hWN]; exact HP.setAt 3 _ rfl
  have HRs' : Hid (Rs WN br x4) := by rw [hWN]; exact HP.rs r3 3 _
  clear HP hcall HA HRs r3 k3
  go_upto_region 6 with fail
  rw [← hWN]
  clear hWN c_0 c_1 c_2 c_3 c_4 c_5 c_6 z_0 z_1 z_2 z_3 z_4 z_5 z_6 w4
  have HA := HA'
  have HRs := HRs'
  clear HA' HRs'
  generalize WN = V4 at *
  have hcall := rdnumber_any br 4096 x4 V4 HRs.out (by omega) hx
  have hbd4 := Td.sNum_most 4096 x4
  have hln := Td.sNum_len 4096 x4
  unfold RsOut at hcall
  rcases hE : Td.sNum 4096 x4 with ⟨t4, x5⟩
  rw [hE] at hcall hbd4 hln
  have HE4 : Hid (Td.sNum 4096 x4 = (t4, x5)) := hE
  replace hx : x5.1.length ≤ 1048576 := Nat.le_trans hln hx
  dsimp only at hcall hbd4
  clear hE hln
  go_wp2_with fail
  refine hcall.mono ?_
  rintro e w5 ⟨rfl, r4, k4⟩
  have HP := HA.out.past k4
  obtain ⟨c_0, c_1, c_2, c_3, c_4, c_5, c_6⟩ := seven_at HP.str
  obtain ⟨z_0, z_1, z_2, z_3, z_4, z_5, z_6⟩ := seven_fz HP.str
  obtain ⟨WN, hWN⟩ : ∃ WN, WN = w5.setCell ⟨b + 1, 4, none⟩ (.int .i64 (t4 : Nat)) := ⟨_, rfl⟩
  have HA' : Hid (R3 w WN br b (.string ⟨t0.toArray⟩) (.int .i64 (t1 : Nat)) (.int .i64 (t2 : Nat)) (.int .i64 t3) (.int .i64 (t4 : Nat)) (.slice none 0 0) (.string ⟨#[]⟩)) := by rw [hWN]; exact HP.setAt 4 _ rfl
  have HRs' : Hid (Rs WN br x5) := by rw [hWN]; exact HP.rs r4 4 _
  clear HP hcall HA HRs r4 k4
  go_upto_region 7 with fail
  rw [← hWN]
  clear hWN c_0 c_1 c_2 c_3 c_4 c_5 c_6 z_0 z_1 z_2 z_3 z_4 z_5 z_6 w5
  have HA := HA'
  have HRs := HRs'
  clear HA' HRs'
  generalize WN = V5 at *
  have hcall := rdparts_any br x5 V5 HRs.out hx
  have hbd5 := Td.sParts_bd x5
  have hln := Td.sParts_len x5
  unfold PtOut at hcall
  rcases hE : Td.sParts x5 with ⟨t5, x6⟩
  rw [hE] at hcall hbd5 hln
  have HE5 : Hid (Td.sParts x5 = (t5, x6)) := hE
  replace hx : x6.1.length ≤ 1048576 := Nat.le_trans hln hx
  dsimp only at hcall hbd5
  clear hE hln
  go_wp2_with fail
  refine hcall.mono ?_
  rintro e w6 ⟨v5, rfl, o5, r5, k5⟩
  obtain ⟨a5, c5, rfl⟩ := own_len o5
  have HO : Hid (w6.ownsRow (b + 2) 32 8 (.slice a5 t5.length c5) t5.length (rowR idC t5)) := own_lower o5 (Array.getElem?_eq_some_iff.1 HA.out.str).1
  have HP := HA.out.past k5
  obtain ⟨c_0, c_1, c_2, c_3, c_4, c_5, c_6⟩ := seven_at HP.str
  obtain ⟨z_0, z_1, z_2, z_3, z_4, z_5, z_6⟩ := seven_fz HP.str
  obtain ⟨WN, hWN⟩ : ∃ WN, WN = w6.setCell ⟨b + 1, 5, none⟩ (.slice a5 t5.length c5) := ⟨_, rfl⟩
  have HA' : Hid (R3 w WN br b (.string ⟨t0.toArray⟩) (.int .i64 (t1 : Nat)) (.int .i64 (t2 : Nat)) (.int .i64 t3) (.int .i64 (t4 : Nat)) (.slice a5 t5.length c5) (.string ⟨#[]⟩)) := by rw [hWN]; exact HP.setAt 5 _ rfl
  have HRs' : Hid (Rs WN br x6) := by rw [hWN]; exact HP.rs r5 5 _
  have HO' : Hid (WN.ownsRow (b + 2) 32 8 (.slice a5 t5.length c5) t5.length (rowR idC t5)) := by rw [hWN]; exact own_kept HO.out ((Kept.refl (fun k => k ≠ b + 1) _).setCell (by simp) _) fun g hg => by have := own_ge HO.out hg; omega
  clear HP hcall HA HRs r5 k5 HO o5
  go_upto_region 8 with fail
  rw [← hWN]
  clear hWN c_0 c_1 c_2 c_3 c_4 c_5 c_6 z_0 z_1 z_2 z_3 z_4 z_5 z_6 w6
  have HA := HA'
  have HRs := HRs'
  clear HA' HRs'
  have HO := HO'
  clear HO'
  generalize WN = V6 at *
  have hcall := rdtext_any br x6 V6 HRs.out hx
  have hbd6 := Td.sTxt_bd x6
  have hln := Td.sTxt_len x6
  unfold RsOut at hcall
  rcases hE : Td.sTxt x6 with ⟨t6, x7⟩
  rw [hE] at hcall hbd6 hln
  have HE6 : Hid (Td.sTxt x6 = (t6, x7)) := hE
  replace hx : x7.1.length ≤ 1048576 := Nat.le_trans hln hx
  dsimp only at hcall hbd6
  clear hE hln
  go_wp2_with fail
  refine hcall.mono ?_
  rintro e w7 ⟨rfl, r6, k6⟩
  have HO6 : Hid (w7.ownsRow (b + 2) 32 8 (.slice a5 t5.length c5) t5.length (rowR idC t5)) := own_kept HO.out k6 fun g hg => by have := own_ge HO.out hg; have := HA.out.lt; omega
  have HP := HA.out.past k6
  obtain ⟨c_0, c_1, c_2, c_3, c_4, c_5, c_6⟩ := seven_at HP.str
  obtain ⟨z_0, z_1, z_2, z_3, z_4, z_5, z_6⟩ := seven_fz HP.str
  obtain ⟨WN, hWN⟩ : ∃ WN, WN = w7.setCell ⟨b + 1, 6, none⟩ (.string ⟨t6.toArray⟩) := ⟨_, rfl⟩
  have HA' : Hid (R3 w WN br b (.string ⟨t0.toArray⟩) (.int .i64 (t1 : Nat)) (.int .i64 (t2 : Nat)) (.int .i64 t3) (.int .i64 (t4 : Nat)) (.slice a5 t5.length c5) (.string ⟨t6.toArray⟩)) := by rw [hWN]; exact HP.setAt 6 _ rfl
  have HRs' : Hid (Rs WN br x7) := by rw [hWN]; exact HP.rs r6 6 _
  have HO' : Hid (WN.ownsRow (b + 2) 32 8 (.slice a5 t5.length c5) t5.length (rowR idC t5)) := by rw [hWN]; exact own_kept HO6.out ((Kept.refl (fun k => k ≠ b + 1) _).setCell (by simp) _) fun g hg => by have := own_ge HO6.out hg; omega
  clear HP hcall HA HRs r6 k6 HO HO6
  go_upto_region 9 with fail
  rw [← hWN]
  clear hWN c_0 c_1 c_2 c_3 c_4 c_5 c_6 z_0 z_1 z_2 z_3 z_4 z_5 z_6 w7
  have HA := HA'
  have HRs := HRs'
  clear HA' HRs'
  have HO := HO'
  clear HO'
  generalize WN = V7 at *
  obtain ⟨m0, m1, m2, m3, m4, m5, m6⟩ := seven_at HA.out.str
  obtain ⟨r0, r1, r2, r3, r4, r5, r6⟩ := seven_at HA.out.res
  obtain ⟨f0, f1, f2, f3, f4, f5, f6⟩ := seven_fz HA.out.res
  have HSv : Hid ((((((((V7.setCell ⟨b, 0, none⟩ (.string ⟨t0.toArray⟩)).setCell ⟨b, 1, none⟩ (.int .i64 (t1 : Nat))).setCell ⟨b, 2, none⟩ (.int .i64 (t2 : Nat))).setCell ⟨b, 3, none⟩ (.int .i64 t3)).setCell ⟨b, 4, none⟩ (.int .i64 (t4 : Nat))).setCell ⟨b, 5, none⟩ (.slice a5 t5.length c5)).setCell ⟨b, 6, none⟩ (.string ⟨t6.toArray⟩)).heap[b]? = some (.cells #[.string ⟨t0.toArray⟩, .int .i64 (t1 : Nat), .int .i64 (t2 : Nat), .int .i64 t3, .int .i64 (t4 : Nat), .slice a5 t5.length c5, .string ⟨t6.toArray⟩] 29 (0, 0))) := set_seven HA.out.res _ _ _ _ _ _ _
  have HKf : Hid (Kept (fun j => j ≠ b) V7 (((((((V7.setCell ⟨b, 0, none⟩ (.string ⟨t0.toArray⟩)).setCell ⟨b, 1, none⟩ (.int .i64 (t1 : Nat))).setCell ⟨b, 2, none⟩ (.int .i64 (t2 : Nat))).setCell ⟨b, 3, none⟩ (.int .i64 t3)).setCell ⟨b, 4, none⟩ (.int .i64 (t4 : Nat))).setCell ⟨b, 5, none⟩ (.slice a5 t5.length c5)).setCell ⟨b, 6, none⟩ (.string ⟨t6.toArray⟩))) := kept7 V7 b _ _ _ _ _ _ _
  have hlt := HA.out.lt
  have HFin : Hid (((((((((V7.setCell ⟨b, 0, none⟩ (.string ⟨t0.toArray⟩)).setCell ⟨b, 1, none⟩ (.int .i64 (t1 : Nat))).setCell ⟨b, 2, none⟩ (.int .i64 (t2 : Nat))).setCell ⟨b, 3, none⟩ (.int .i64 t3)).setCell ⟨b, 4, none⟩ (.int .i64 (t4 : Nat))).setCell ⟨b, 5, none⟩ (.slice a5 t5.length c5)).setCell ⟨b, 6, none⟩ (.string ⟨t6.toArray⟩)).ownsRow w.heap.size 32 8 (.slice a5 t5.length c5) t5.length (rowR idC t5)) ∧ Rs (((((((V7.setCell ⟨b, 0, none⟩ (.string ⟨t0.toArray⟩)).setCell ⟨b, 1, none⟩ (.int .i64 (t1 : Nat))).setCell ⟨b, 2, none⟩ (.int .i64 (t2 : Nat))).setCell ⟨b, 3, none⟩ (.int .i64 t3)).setCell ⟨b, 4, none⟩ (.int .i64 (t4 : Nat))).setCell ⟨b, 5, none⟩ (.slice a5 t5.length c5)).setCell ⟨b, 6, none⟩ (.string ⟨t6.toArray⟩)) br x7 ∧ Kept (fun j => j ≠ br) w (((((((V7.setCell ⟨b, 0, none⟩ (.string ⟨t0.toArray⟩)).setCell ⟨b, 1, none⟩ (.int .i64 (t1 : Nat))).setCell ⟨b, 2, none⟩ (.int .i64 (t2 : Nat))).setCell ⟨b, 3, none⟩ (.int .i64 t3)).setCell ⟨b, 4, none⟩ (.int .i64 (t4 : Nat))).setCell ⟨b, 5, none⟩ (.slice a5 t5.length c5)).setCell ⟨b, 6, none⟩ (.string ⟨t6.toArray⟩))) := by
    refine ⟨own_lower (own_kept HO.out HKf.out fun g hg => by have := own_ge HO.out hg; omega) (by rw [← HWb.out]; omega), HKf.out.obj (by omega) HRs.out, ?_⟩
    exact ⟨HKf.out.os.trans HA.out.kept.os, HKf.out.tape.trans HA.out.kept.tape, HKf.out.output.trans HA.out.kept.output, Nat.le_trans HA.out.kept.size HKf.out.size, fun j hj hp => (HKf.out.block j (Nat.lt_of_lt_of_le hj HA.out.kept.size) (by have := HWb.out; omega)).trans (HA.out.kept.block j hj hp)⟩
  have HNd : Hid (R = (⟨t0, (t1 : Nat), (t2 : Nat), t3, (t4 : Nat), t5, t6⟩, x7)) := by
    show _ = _
    rw [← HR.out, Td.sNode, HE0.out]
    simp only [HE1.out, HE2.out, HE3.out, HE4.out, HE5.out, HE6.out]
  have HOk : Hid (Nod.Ok ⟨⟨t0.toArray⟩, (t1 : Nat), (t2 : Nat), t3, (t4 : Nat), t5, ⟨t6.toArray⟩⟩) := ⟨wf_i (n := (t1 : Nat)) (by omega) (by omega), wf_i (n := (t2 : Nat)) (by omega) (by omega), wf_i hbd3.1 hbd3.2, wf_i (n := (t4 : Nat)) (by omega) (by omega), by show ByteArray.size _ ≤ _; rw [tg_size]; omega, by show ByteArray.size _ ≤ _; rw [tg_size]; omega, hbd5.2⟩
  clear HKf HA HRs HO HE0 HE1 HE2 HE3 HE4 HE5 HE6 HR hbd0 hbd1 hbd2 hbd3 hbd4 hbd5 hbd6 hx
  go_wp2_with fail
  obtain ⟨WF, hWF⟩ : ∃ WF, WF = (((((((V7.setCell ⟨b, 0, none⟩ (.string ⟨t0.toArray⟩)).setCell ⟨b, 1, none⟩ (.int .i64 (t1 : Nat))).setCell ⟨b, 2, none⟩ (.int .i64 (t2 : Nat))).setCell ⟨b, 3, none⟩ (.int .i64 t3)).setCell ⟨b, 4, none⟩ (.int .i64 (t4 : Nat))).setCell ⟨b, 5, none⟩ (.slice a5 t5.length c5)).setCell ⟨b, 6, none⟩ (.string ⟨t6.toArray⟩)) := ⟨_, rfl⟩
  rw [← hWF] at HFin HSv ⊢
  obtain ⟨q0, q1, q2, q3, q4, q5, q6⟩ := seven_at HSv.out
  refine bodyPost_ret (v := .agg #[.string ⟨t0.toArray⟩, .int .i64 (t1 : Nat), .int .i64 (t2 : Nat), .int .i64 t3, .int .i64 (t4 : Nat), .slice a5 t5.length c5, .string ⟨t6.toArray⟩]) ?_ rfl ⟨⟨⟨t0.toArray⟩, (t1 : Nat), (t2 : Nat), t3, (t4 : Nat), t5, ⟨t6.toArray⟩⟩, .slice a5 t5.length c5, rfl, by rw [HNd.out]; rfl, HFin.out.1, HOk.out, by rw [HNd.out]; exact HFin.out.2.1, HFin.out.2.2⟩
  simp [results, asAddr, go_sem, q0, q1, q2, q3, q4, q5, q6]

end Go.Proofs.YtimdioacmojkeabDoor

namespace Go.Proofs.YtimdioacmojkeabDoor
open Go.RowKit
set_option maxRecDepth 4000

set_option maxHeartbeats 400000 in
theorem num_put (n : Int) (w : World) (n0 : 0 ≤ n) (n1 : n ≤ 18446744073709551615) :
    Calls Tryd.prog 21 #[.int .u64 n] w fun e w' => e = .returned (.string ⟨(Nm.put n.toNat).toArray⟩) ∧ Below w.heap.size w w' := by
  have hl := Nm.dig_length_le n.toNat
  go_enter Tryd.func21, Tryd.ntmps21
  go_wp2_with (go_at_call 33; refine (count_any _ _ n0 n1).mono ?_; rintro e w' ⟨rfl, rfl⟩)
  refine (digits_app w'.heap.size _ [UInt8.ofNat ((Nm.dig n.toNat).length : Int).toNat] n _ 0 _ (owns_one _ _ (by omega) (by omega)) (by simp) (by simp) n0 n1 (by omega) (by omega) (by omega) (by omega)).mono ?_
  rintro e w2 ⟨v, rfl, hown, hbel⟩
  have hcv := run_str hown
  have hb : Below w'.heap.size w' w2 := ((Below.refl _ _).alloc (Nat.le_refl _) _).trans hbel
  clear hown hbel
  go_wp2
  go_ret
  exact ⟨by simp [Nm.put, Nm.tn_zero, Nm.dig_low], hb⟩
end Go.Proofs.YtimdioacmojkeabDoor
