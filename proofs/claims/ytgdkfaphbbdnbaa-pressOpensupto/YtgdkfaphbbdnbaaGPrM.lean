/-
  Codes (no Go in it): bits of numbers, bytes of bits, words that are free of each other and the signs that are read by them.
  Codes (no Go in it): bytes of bits, the last filled up with 0; what is left behind the signs.
  Codes (no Go in it): bytes that are filled bit by bit.
  P21, P22 (no Go in it): the two forms, what Open says of whatever stands there, and that the coded form is opened as it was.
  P22 (no Go in it): whatever is opened, no more than a file comes out, or an error and nothing; a sign's word bit by bit.
  Codes (no Go in it): signs of one length on a shelf, each code the one ahead plus 1; bits of bytes one by one.
-/
import Derived.Test.YtgdkfaphbbdnbaaGHfM
import Derived.Test.YtgdkfaphbbdnbaaGNum
import Derived.Test.YtgdkfaphbbdnbaaGLzA

namespace Go.Proofs.Ytgdkfaphbbdnbaa
namespace Pr

/-- n bits of c, the highest first -/
def wd (c : Nat) : Nat → List Bool
  | 0 => []
  | n + 1 => wd (c / 2) n ++ [decide (c % 2 = 1)]
def val (l : List Bool) : Nat := l.foldl (fun n b => 2 * n + (if b then 1 else 0)) 0
theorem snoc_ind {M : List Bool → Prop} (nil : M []) (snoc : ∀ l b, M l → M (l ++ [b])) (l : List Bool) : M l := by
  have : ∀ n (l : List Bool), l.length = n → M l := by
    intro n
    induction n with
    | zero => intro l h; rw [List.length_eq_zero_iff.1 h]; exact nil
    | succ n ih =>
      intro l h
      have hne : l ≠ [] := fun e => by rw [e] at h; simp at h
      rw [← List.dropLast_concat_getLast hne]
      exact snoc _ _ (ih _ (by rw [List.length_dropLast, h]; rfl))
  exact this _ l rfl
theorem wd_length (c n : Nat) : (wd c n).length = n := by
  induction n generalizing c with
  | zero => rfl
  | succ n ih => simp [wd, ih]
theorem val_snoc (l : List Bool) (b : Bool) : val (l ++ [b]) = 2 * val l + (if b then 1 else 0) := by simp [val]
theorem val_wd {c n : Nat} (h : c < 2 ^ n) : val (wd c n) = c := by
  induction n generalizing c with
  | zero =>
    have : c = 0 := by simpa using h
    rw [this]; rfl
  | succ n ih =>
    rw [wd, val_snoc, ih (by rw [Nat.pow_succ] at h; omega)]
    by_cases e : c % 2 = 1
    · simp only [e, decide_true, if_true]; omega
    · simp only [e, decide_false, Bool.false_eq_true, if_false]; omega
theorem val_lt (l : List Bool) : val l < 2 ^ l.length := by
  induction l using snoc_ind with
  | nil => decide
  | snoc l b ih =>
    rw [val_snoc, List.length_append, List.length_singleton, Nat.pow_succ]
    split <;> omega
theorem wd_val (l : List Bool) : wd (val l) l.length = l := by
  induction l using snoc_ind with
  | nil => rfl
  | snoc l b ih =>
    rw [List.length_append, List.length_singleton, wd, val_snoc]
    cases b
    · rw [show (2 * val l + (if false = true then 1 else 0)) / 2 = val l by simp, ih]
      simp
    · rw [show (2 * val l + (if true = true then 1 else 0)) / 2 = val l by simp; omega, ih]
      simp
theorem wd_inj {c d n : Nat} (hc : c < 2 ^ n) (hd : d < 2 ^ n) (h : wd c n = wd d n) : c = d := by
  rw [← val_wd hc, ← val_wd hd, h]
theorem wd_add (c m k : Nat) : wd c (m + k) = wd (c / 2 ^ k) m ++ wd c k := by
  induction k generalizing c with
  | zero => simp [wd]
  | succ k ih =>
    rw [show m + (k + 1) = (m + k) + 1 by omega, wd, ih, wd, List.append_assoc, Nat.div_div_eq_div_mul, Nat.pow_succ, Nat.mul_comm 2]
theorem wd_take {c m n : Nat} (h : m ≤ n) : (wd c n).take m = wd (c / 2 ^ (n - m)) m := by
  obtain ⟨k, rfl⟩ := Nat.le.dest h
  rw [wd_add, Nat.add_sub_cancel_left, List.take_left' (wd_length _ _)]
/-- a sign's word -/
def W (l : List Nat) (i : Nat) : List Bool := wd (Hf.code l i) (l.getD i 0)
theorem W_length (l : List Nat) (i : Nat) : (W l i).length = l.getD i 0 := wd_length _ _
/-- lengths that have codes -/
structure Good (l : List Nat) : Prop where
  le : ∀ i, l.getD i 0 ≤ 48
  sum : Hf.ksum l ≤ 2 ^ 48
def fits (l : List Nat) (b : List Bool) (i : Nat) : Bool := decide (i < l.length) && decide (0 < l.getD i 0) && decide (b.take (l.getD i 0) = W l i)
theorem fits_iff {l : List Nat} {b : List Bool} {i : Nat} : fits l b i = true ↔ i < l.length ∧ 0 < l.getD i 0 ∧ b.take (l.getD i 0) = W l i := by
  simp [fits, and_assoc]
theorem Good.lt {l : List Nat} (g : Good l) {i : Nat} (hi : i < l.length) (h0 : 0 < l.getD i 0) : Hf.code l i < 2 ^ l.getD i 0 := Hf.code_lt hi h0 (g.le i) g.sum
theorem fits_one {l : List Nat} (g : Good l) {b : List Bool} {i j : Nat} (hi : fits l b i = true) (hj : fits l b j = true) : i = j := by
  obtain ⟨i1, i2, i3⟩ := fits_iff.1 hi
  obtain ⟨j1, j2, j3⟩ := fits_iff.1 hj
  have key : ∀ i j, i < l.length → j < l.length → 0 < l.getD i 0 → l.getD i 0 ≤ l.getD j 0 → 0 < l.getD j 0 → b.take (l.getD i 0) = W l i → b.take (l.getD j 0) = W l j → i = j := by
    intro i j hi hj h0 hle h0' e1 e2
    apply Classical.byContradiction
    intro hij
    refine Hf.code_free hi hj hij h0 hle (g.le j) ?_
    have e : W l i = (W l j).take (l.getD i 0) := by
      rw [← e1, ← e2, List.take_take, Nat.min_eq_left hle]
    unfold W at e
    rw [wd_take hle] at e
    refine (wd_inj (g.lt hi h0) ?_ e).symm
    have := g.lt hj h0'
    rw [Nat.div_lt_iff_lt_mul (Nat.two_pow_pos _), ← Nat.pow_add]
    rwa [show l.getD i 0 + (l.getD j 0 - l.getD i 0) = l.getD j 0 by omega]
  rcases Nat.le_total (l.getD i 0) (l.getD j 0) with h | h
  · exact key i j i1 j1 i2 h j2 i3 j3
  · exact (key j i j1 i1 j2 h i2 j3 i3).symm
/-- the sign whose word stands in front -/
def front (l : List Nat) (b : List Bool) : Option Nat := (List.range l.length).find? (fits l b)
theorem front_some {l : List Nat} (g : Good l) {b : List Bool} {i : Nat} : front l b = some i ↔ fits l b i = true := by
  constructor
  · exact fun h => List.find?_some h
  · intro h
    cases e : front l b with
    | none => exact absurd h (List.find?_eq_none.1 e i (List.mem_range.2 (fits_iff.1 h).1))
    | some j => rw [fits_one g (List.find?_some e) h]
theorem front_none {l : List Nat} {b : List Bool} : front l b = none ↔ ∀ i, fits l b i = false := by
  constructor
  · intro h i
    cases e : fits l b i with
    | false => rfl
    | true => exact absurd e (List.find?_eq_none.1 h i (List.mem_range.2 (fits_iff.1 e).1))
  · exact fun h => List.find?_eq_none.2 fun i _ => by rw [h i]; simp
/-- so many signs; else whether 48 bits are no code -/
def signs (l : List Nat) : Nat → List Bool → Sum Bool (List Nat × List Bool)
  | 0, b => .inr ([], b)
  | n + 1, b => match front l b with
    | none => .inl (decide (48 ≤ b.length))
    | some i => match signs l n (b.drop (l.getD i 0)) with
      | .inl e => .inl e
      | .inr (t, r) => .inr (i :: t, r)
def words (l : List Nat) (t : List Nat) : List Bool := t.flatMap (W l)
theorem words_cons (l : List Nat) (i : Nat) (t : List Nat) : words l (i :: t) = W l i ++ words l t := by simp [words]
theorem words_snoc (l : List Nat) (t : List Nat) (i : Nat) : words l (t ++ [i]) = words l t ++ W l i := by simp [words]
theorem front_word {l : List Nat} (g : Good l) {i : Nat} (hi : i < l.length) (h0 : 0 < l.getD i 0) (r : List Bool) : front l (W l i ++ r) = some i :=
  (front_some g).2 (fits_iff.2 ⟨hi, h0, List.take_left' (W_length l i)⟩)
/-- what was laid by words is read again -/
theorem signs_words {l : List Nat} (g : Good l) {t : List Nat} (ht : ∀ i ∈ t, i < l.length ∧ 0 < l.getD i 0) (r : List Bool) : signs l t.length (words l t ++ r) = .inr (t, r) := by
  induction t with
  | nil => rfl
  | cons i t ih =>
    obtain ⟨h1, h2⟩ := ht i List.mem_cons_self
    rw [List.length_cons, words_cons, List.append_assoc, signs, front_word g h1 h2]
    simp only []
    rw [List.drop_left' (W_length l i), ih fun j hj => ht j (List.mem_cons_of_mem _ hj)]
theorem signs_of {l : List Nat} {n : Nat} {b : List Bool} {t : List Nat} {r : List Bool} (h : signs l n b = .inr (t, r)) : t.length = n ∧ b = words l t ++ r ∧ ∀ i ∈ t, i < l.length ∧ 0 < l.getD i 0 := by
  induction n generalizing b t with
  | zero =>
    simp only [signs, Sum.inr.injEq, Prod.mk.injEq] at h
    obtain ⟨rfl, rfl⟩ := h
    exact ⟨rfl, rfl, fun _ h => absurd h List.not_mem_nil⟩
  | succ n ih =>
    rw [signs] at h
    cases e : front l b with
    | none => rw [e] at h; simp at h
    | some i =>
      rw [e] at h
      simp only [] at h
      cases e2 : signs l n (b.drop (l.getD i 0)) with
      | inl q => rw [e2] at h; simp at h
      | inr q =>
        obtain ⟨t', r'⟩ := q
        rw [e2] at h
        simp only [Sum.inr.injEq, Prod.mk.injEq] at h
        obtain ⟨rfl, rfl⟩ := h
        obtain ⟨k1, k2, k3⟩ := ih e2
        obtain ⟨f1, f2, f3⟩ := fits_iff.1 (List.find?_some e)
        refine ⟨by simp [k1], ?_, fun j hj => ?_⟩
        · rw [words_cons, List.append_assoc, ← k2, ← f3, List.take_append_drop]
        · rcases List.mem_cons.1 hj with rfl | hj
          · exact ⟨f1, f2⟩
          · exact k3 j hj
end Pr
end Go.Proofs.Ytgdkfaphbbdnbaa

namespace Go.Proofs.Ytgdkfaphbbdnbaa
namespace Pr

/-- the bits of bytes -/
def bitsB (l : List Nat) : List Bool := l.flatMap fun b => wd b 8
theorem bitsB_nil : bitsB [] = [] := rfl
theorem bitsB_cons (b : Nat) (l : List Nat) : bitsB (b :: l) = wd b 8 ++ bitsB l := by simp [bitsB]
theorem bitsB_append (l m : List Nat) : bitsB (l ++ m) = bitsB l ++ bitsB m := by simp [bitsB]
theorem bitsB_length (l : List Nat) : (bitsB l).length = 8 * l.length := by
  induction l with
  | nil => rfl
  | cons b l ih => rw [bitsB_cons, List.length_append, wd_length, ih, List.length_cons]; omega
theorem bitsB_drop (l : List Nat) (k : Nat) : (bitsB l).drop (8 * k) = bitsB (l.drop k) := by
  induction k generalizing l with
  | zero => simp
  | succ k ih =>
    cases l with
    | nil => simp [bitsB]
    | cons b l =>
      rw [bitsB_cons, show 8 * (k + 1) = 8 + 8 * k by omega, ← List.drop_drop, List.drop_left' (wd_length b 8), ih, List.drop_succ_cons]
theorem bitsB_inj {l m : List Nat} (hl : ∀ b ∈ l, b < 256) (hm : ∀ b ∈ m, b < 256) (h : bitsB l = bitsB m) : l = m := by
  induction l generalizing m with
  | nil =>
    have := congrArg List.length h
    rw [bitsB_length, bitsB_length] at this
    exact (List.length_eq_zero_iff.1 (by simp only [List.length_nil] at this; omega)).symm
  | cons b l ih =>
    cases m with
    | nil =>
      have := congrArg List.length h
      rw [bitsB_length, bitsB_length] at this
      simp only [List.length_cons, List.length_nil] at this
      omega
    | cons c m =>
      rw [bitsB_cons, bitsB_cons] at h
      obtain ⟨h1, h2⟩ := List.append_inj h (by rw [wd_length, wd_length])
      rw [wd_inj (hl b List.mem_cons_self) (hm c List.mem_cons_self) h1, ih (fun x hx => hl x (List.mem_cons_of_mem _ hx)) (fun x hx => hm x (List.mem_cons_of_mem _ hx)) h2]
/-- bytes that hold so many bits and are filled up with 0 -/
def zs (n : Nat) : List Bool := List.replicate ((8 - n % 8) % 8) false
theorem zs_length (n : Nat) : (zs n).length = (8 - n % 8) % 8 := by simp [zs]
theorem zs_fill (n : Nat) : (n + (zs n).length) % 8 = 0 := by rw [zs_length]; omega
def bytesN : Nat → List Bool → List Nat
  | 0, _ => []
  | n + 1, b => val (b.take 8) :: bytesN n (b.drop 8)
def bytes (b : List Bool) : List Nat := bytesN ((b.length + 7) / 8) (b ++ zs b.length)
theorem bytesN_length (n : Nat) (b : List Bool) : (bytesN n b).length = n := by
  induction n generalizing b with
  | zero => rfl
  | succ n ih => rw [bytesN, List.length_cons, ih]
theorem bytesN_lt (n : Nat) (b : List Bool) : ∀ x ∈ bytesN n b, x < 256 := by
  induction n generalizing b with
  | zero => exact fun _ h => absurd h List.not_mem_nil
  | succ n ih =>
    intro x hx
    rcases List.mem_cons.1 hx with rfl | hx
    · refine Nat.lt_of_lt_of_le (val_lt _) ?_
      have h8 : (b.take 8).length ≤ 8 := by rw [List.length_take]; omega
      exact Nat.pow_le_pow_right (by omega : 2 > 0) h8
    · exact ih _ x hx
theorem bits_bytesN {n : Nat} {b : List Bool} (h : b.length = 8 * n) : bitsB (bytesN n b) = b := by
  induction n generalizing b with
  | zero => exact (List.length_eq_zero_iff.1 (by omega)).symm
  | succ n ih =>
    have h8 : (b.take 8).length = 8 := by rw [List.length_take]; omega
    have := wd_val (b.take 8)
    rw [h8] at this
    rw [bytesN, bitsB_cons, this, ih (by rw [List.length_drop]; omega), List.take_append_drop]
theorem bytesN_bits {l : List Nat} (h : ∀ b ∈ l, b < 256) : bytesN l.length (bitsB l) = l :=
  bitsB_inj (bytesN_lt _ _) h (bits_bytesN (bitsB_length l))
theorem bytes_length (b : List Bool) : (bytes b).length = (b.length + 7) / 8 := bytesN_length _ _
theorem bytes_lt (b : List Bool) : ∀ x ∈ bytes b, x < 256 := bytesN_lt _ _
theorem bits_bytes (b : List Bool) : bitsB (bytes b) = b ++ zs b.length := by
  refine bits_bytesN ?_
  rw [List.length_append, zs_length]
  omega
/-- the bits that are left are those of the last byte that was read from, and 0 -/
def clean (r : List Bool) : Bool := decide (r.length ≤ 7) && r.all fun b => !b
theorem clean_iff {r : List Bool} : clean r = true ↔ r.length ≤ 7 ∧ r = List.replicate r.length false := by
  simp only [clean, Bool.and_eq_true, decide_eq_true_eq, List.all_eq_true, Bool.not_eq_true', List.eq_replicate_iff, true_and]
theorem clean_zs (n : Nat) : clean (zs n) = true := by
  rw [clean_iff, zs_length]
  exact ⟨by omega, rfl⟩
theorem clean_len {n : Nat} {r : List Bool} (h : clean r = true) (h8 : (n + r.length) % 8 = 0) : r = zs n := by
  obtain ⟨h1, h2⟩ := clean_iff.1 h
  rw [h2, zs, show (8 - n % 8) % 8 = r.length by omega]
/-- what was laid by words, as bytes, is read again and leaves nothing but filling -/
theorem signs_bytes {l : List Nat} (g : Good l) {t : List Nat} (ht : ∀ i ∈ t, i < l.length ∧ 0 < l.getD i 0) :
    signs l t.length (bitsB (bytes (words l t))) = .inr (t, zs (words l t).length) := by
  rw [bits_bytes]
  exact signs_words g ht _
/-- bytes from which signs can be read and which leave nothing but filling are those of the signs' words -/
theorem bytes_signs {l : List Nat} {n : Nat} {B : List Nat} (hB : ∀ b ∈ B, b < 256) {t : List Nat} {r : List Bool} (h : signs l n (bitsB B) = .inr (t, r)) (hr : clean r = true) : B = bytes (words l t) := by
  obtain ⟨_, h2, _⟩ := signs_of h
  have hl := congrArg List.length h2
  rw [bitsB_length, List.length_append] at hl
  have := clean_len (n := (words l t).length) hr (by omega)
  refine bitsB_inj hB (bytes_lt _) ?_
  rw [bits_bytes, h2, this]
end Pr
end Go.Proofs.Ytgdkfaphbbdnbaa

namespace Go.Proofs.Ytgdkfaphbbdnbaa
namespace Pr

theorem val_zeros (l : List Bool) (k : Nat) : val (l ++ List.replicate k false) = val l * 2 ^ k := by
  induction k with
  | zero => simp
  | succ k ih =>
    rw [List.replicate_succ', ← List.append_assoc, val_snoc, ih, Nat.pow_succ]
    simp only [Bool.false_eq_true, if_false, Nat.add_zero]
    rw [Nat.mul_comm 2, Nat.mul_assoc]
theorem bytesN_append {q k : Nat} {a c : List Bool} (h : a.length = 8 * q) : bytesN (q + k) (a ++ c) = bytesN q a ++ bytesN k c := by
  induction q generalizing a with
  | zero =>
    rw [List.length_eq_zero_iff.1 (by omega : a.length = 0), Nat.zero_add]
    rfl
  | succ q ih =>
    rw [show q + 1 + k = (q + k) + 1 by omega, bytesN, bytesN, List.take_append_of_le_length (by omega), List.drop_append_of_le_length (by omega), ih (by rw [List.length_drop]; omega)]
    rfl
theorem zs_add (q r : Nat) : zs (8 * q + r) = zs r := by
  unfold zs
  rw [show (8 * q + r) % 8 = r % 8 by omega]
theorem bytes_append {q : Nat} {a c : List Bool} (h : a.length = 8 * q) : bytes (a ++ c) = bytesN q a ++ bytes c := by
  unfold bytes
  rw [List.length_append, h, zs_add, show (8 * q + c.length + 7) / 8 = q + (c.length + 7) / 8 by omega, List.append_assoc, bytesN_append h]
theorem bytes_few {c : List Bool} (h0 : 0 < c.length) (h : c.length ≤ 8) : bytes c = [val c * 2 ^ (8 - c.length)] := by
  unfold bytes
  rw [show (c.length + 7) / 8 = 0 + 1 by omega, bytesN, bytesN]
  have hz : zs c.length = List.replicate (8 - c.length) false := by
    unfold zs
    rw [show (8 - c.length % 8) % 8 = 8 - c.length by omega]
  rw [hz, List.take_of_length_le (by rw [List.length_append, List.length_replicate]; omega), val_zeros]
/-- one bit more -/
theorem bytes_step (b : List Bool) (x : Bool) : ∃ (P : List Nat) (y : Nat), P.length = b.length / 8 ∧ (if b.length % 8 = 0 then bytes b ++ [0] else bytes b) = P ++ [y * 2 ^ (8 - b.length % 8)] ∧ y < 2 ^ (b.length % 8) ∧
    bytes (b ++ [x]) = P ++ [y * 2 ^ (8 - b.length % 8) + (if x then 2 ^ (7 - b.length % 8) else 0)] := by
  obtain ⟨a, c, rfl, ha, hc⟩ : ∃ a c, b = a ++ c ∧ a.length = 8 * (b.length / 8) ∧ c.length = b.length % 8 :=
    ⟨b.take (8 * (b.length / 8)), b.drop (8 * (b.length / 8)), (List.take_append_drop _ _).symm, by rw [List.length_take]; omega, by rw [List.length_drop]; omega⟩
  generalize hq : (a ++ c).length / 8 = q at *
  generalize hr : (a ++ c).length % 8 = r at *
  have hr8 : r < 8 := by omega
  refine ⟨bytesN q a, val c, bytesN_length _ _, ?_, ?_, ?_⟩
  · rw [bytes_append ha]
    by_cases h0 : r = 0
    · rw [if_pos h0, List.length_eq_zero_iff.1 (by omega : c.length = 0)]
      show bytesN q a ++ bytesN 0 _ ++ [0] = _
      rw [bytesN, List.append_nil]
      simp [val]
    · rw [if_neg h0, bytes_few (by omega) (by omega), hc]
  · have := val_lt c
    rw [hc] at this
    exact this
  · rw [List.append_assoc, bytes_append ha, bytes_few (by simp) (by rw [List.length_append, List.length_singleton]; omega), List.length_append, List.length_singleton, hc, val_snoc]
    congr 2
    have e : 2 ^ (8 - r) = 2 * 2 ^ (7 - r) := by rw [← Nat.pow_succ']; congr 1; omega
    rw [show 8 - (r + 1) = 7 - r by omega, e, Nat.add_mul]
    congr 1
    · rw [Nat.mul_comm 2 (val c), Nat.mul_assoc]
    · cases x
      · simp
      · simp
theorem or_bit {y r s : Nat} (hr : r < 8) (hs : s < 2) : y * 2 ^ (8 - r) ||| s * 2 ^ (7 - r) = y * 2 ^ (8 - r) + s * 2 ^ (7 - r) := by
  have hlt : s * 2 ^ (7 - r) < 2 ^ (8 - r) := by
    have e : 2 ^ (8 - r) = 2 * 2 ^ (7 - r) := by rw [← Nat.pow_succ']; congr 1; omega
    rw [e]
    exact Nat.mul_lt_mul_of_pos_right hs (Nat.two_pow_pos _)
  have := Nat.two_pow_add_eq_or_of_lt hlt y
  rw [Nat.mul_comm y]
  exact this.symm
/-- how many bits of the last byte are free -/
def free (n : Nat) : Nat := (8 - n % 8) % 8
end Pr
end Go.Proofs.Ytgdkfaphbbdnbaa

namespace Go.Proofs.Ytgdkfaphbbdnbaa
namespace Pr

abbrev Bs := List UInt8
/-- how often each of the 256 bytes is there -/
def tally (T : Bs) : List Nat := (List.range 256).map fun i => T.countP fun b => b.toNat == i
theorem tally_length (T : Bs) : (tally T).length = 256 := by simp [tally]
theorem tally_get (T : Bs) {i : Nat} (h : i < 256) : (tally T).getD i 0 = T.countP fun b => b.toNat == i := by
  rw [List.getD_eq_getElem?_getD, tally, List.getElem?_map, List.getElem?_range h]
  rfl
theorem tally_le (T : Bs) : ∀ n ∈ tally T, n ≤ T.length := by
  intro n hn
  obtain ⟨i, _, rfl⟩ := List.mem_map.1 hn
  exact List.countP_le_length
theorem tally_there {T : Bs} {b : UInt8} (h : b ∈ T) : 0 < (tally T).getD b.toNat 0 := by
  rw [tally_get T b.toNat_lt]
  exact List.countP_pos_iff.2 ⟨b, h, by simp⟩
theorem tally_snoc (T : Bs) (b : UInt8) : tally (T ++ [b]) = (tally T).set b.toNat ((tally T).getD b.toNat 0 + 1) := by
  have hb : b.toNat < 256 := b.toNat_lt
  refine List.ext_getElem? fun i => ?_
  rw [tally_get T hb, List.getElem?_set, tally_length]
  unfold tally
  by_cases hi : i < 256
  · rw [List.getElem?_map, List.getElem?_range hi, List.getElem?_map, List.getElem?_range hi]
    simp only [Option.map_some, List.countP_append, List.countP_singleton]
    by_cases e : b.toNat = i
    · subst e
      simp [hb]
    · have : (b.toNat == i) = false := by simpa using e
      simp [this, e]
  · rw [List.getElem?_eq_none (by simp; omega), List.getElem?_eq_none (by simp; omega), if_neg (by omega)]
/-- the bytes that are there, each with its length -/
def headFrom (l : List Nat) (k : Nat) : Nat → Bs
  | 0 => []
  | n + 1 => if 0 < l.getD k 0 then UInt8.ofNat k :: UInt8.ofNat (l.getD k 0) :: headFrom l (k + 1) n else headFrom l (k + 1) n
def manyFrom (l : List Nat) (k : Nat) : Nat → Nat
  | 0 => 0
  | n + 1 => if 0 < l.getD k 0 then manyFrom l (k + 1) n + 1 else manyFrom l (k + 1) n
theorem many_le (l : List Nat) (k n : Nat) : manyFrom l k n ≤ n := by
  induction n generalizing k with
  | zero => exact Nat.le_refl _
  | succ n ih =>
    rw [manyFrom]
    have := ih (k + 1)
    split <;> omega
theorem head_length (l : List Nat) (k n : Nat) : (headFrom l k n).length = 2 * manyFrom l k n := by
  induction n generalizing k with
  | zero => rfl
  | succ n ih =>
    rw [manyFrom, headFrom]
    split
    · rw [List.length_cons, List.length_cons, ih]; omega
    · exact ih _
/-- so many bytes with their lengths, rising; 3 and 4 where they are not -/
def pairs : Nat → Int → List Nat → Bs → List Nat × Bs × Int
  | 0, _, wide, s => (wide, s, 0)
  | n + 1, p, wide, a :: b :: s => if (a.toNat : Int) ≤ p ∨ b.toNat = 0 ∨ 48 < b.toNat then ([], [], 4) else pairs n a.toNat (wide.set a.toNat b.toNat) s
  | _ + 1, _, _, _ => ([], [], 3)
theorem pairs_head {l : List Nat} (h48 : ∀ i, l.getD i 0 ≤ 48) (hl : l.length = 256) (r : Bs) (n k : Nat) (hk : k + n = 256) (p : Int) (hp : p < k) :
    pairs (manyFrom l k n) p (l.take k ++ List.replicate n 0) (headFrom l k n ++ r) = (l, r, 0) := by
  induction n generalizing k p with
  | zero =>
    obtain rfl : k = 256 := by omega
    rw [manyFrom, headFrom, pairs, ← hl, List.take_length, List.replicate_zero, List.append_nil]
    rfl
  | succ n ih =>
    have hkl : k < l.length := by omega
    have ht : l.take (k + 1) = l.take k ++ [l.getD k 0] := by
      rw [List.take_add_one, List.getD_eq_getElem?_getD, List.getElem?_eq_getElem hkl]
      rfl
    have h8 := h48 k
    rw [manyFrom, headFrom]
    split
    · rename_i h0
      have e1 : (UInt8.ofNat k).toNat = k := by rw [UInt8.toNat_ofNat']; omega
      have e2 : (UInt8.ofNat (l.getD k 0)).toNat = l.getD k 0 := by rw [UInt8.toNat_ofNat']; omega
      rw [List.cons_append, List.cons_append, pairs, e1, e2, if_neg (by omega)]
      have hlt : (l.take k).length = k := by rw [List.length_take]; omega
      rw [List.set_append_right k _ (by rw [hlt]; exact Nat.le_refl _), hlt, Nat.sub_self, List.replicate_succ, List.set_cons_zero]
      have := ih (k + 1) (by omega) k (by omega)
      rw [ht, List.append_assoc] at this
      exact this
    · rename_i h0
      have := ih (k + 1) (by omega) p (by omega)
      rw [ht, show l.getD k 0 = 0 by omega, List.append_assoc] at this
      exact this
/-- numbers, each up to its most -/
def nums : List Nat → Bs → List Nat × Bs × Int
  | [], s => ([], s, 0)
  | m :: ms, s => if (Nm.getN s).2.2 ≠ 0 then ([], [], (Nm.getN s).2.2) else if m < (Nm.getN s).1 then ([], [], 2) else
    if (nums ms (s.drop (Nm.getN s).2.1)).2.2 ≠ 0 then ([], [], (nums ms (s.drop (Nm.getN s).2.1)).2.2) else
    ((Nm.getN s).1 :: (nums ms (s.drop (Nm.getN s).2.1)).1, (nums ms (s.drop (Nm.getN s).2.1)).2.1, 0)
theorem nums_put {m n : Nat} {ms ns : List Nat} {s r : Bs} (h : n ≤ m) (hm : n < 256 ^ 8) (hr : nums ms s = (ns, r, 0)) : nums (m :: ms) (Nm.put n ++ s) = (n :: ns, r, 0) := by
  rw [nums, Nm.get_put n s hm, if_neg (by simp), if_neg (by show ¬ m < n; omega)]
  simp only [List.drop_left, hr, ne_eq, not_true_eq_false, if_false]
def upB (t : List Nat) : Bs := t.map UInt8.ofNat
def dnB (t : Bs) : List Nat := t.map UInt8.toNat
theorem up_dn (t : Bs) : upB (dnB t) = t := by
  simp [upB, dnB, Function.comp_def]
theorem dn_up {t : List Nat} (h : ∀ n ∈ t, n < 256) : dnB (upB t) = t := by
  induction t with
  | nil => rfl
  | cons n t ih =>
    have := h n List.mem_cons_self
    show (UInt8.ofNat n).toNat :: dnB (upB t) = _
    rw [ih fun m hm => h m (List.mem_cons_of_mem _ hm), UInt8.toNat_ofNat', Nat.mod_eq_of_lt this]
/-- behind the tokens' text T: how many bytes there must be -/
def opT (n : Nat) (T : Bs) : Bs × Int :=
  if (Lz.rdA [] T).2 ≠ 0 then ([], (Lz.rdA [] T).2) else
  if (Lz.ex n [] (Lz.rdA [] T).1).2 ≠ 0 then ([], (Lz.ex n [] (Lz.rdA [] T).1).2) else
  if (Lz.ex n [] (Lz.rdA [] T).1).1.length < n then ([], 4) else ((Lz.ex n [] (Lz.rdA [] T).1).1, 0)
/-- behind the lengths -/
def opS (n m : Nat) (wide : List Nat) (s : Bs) : Bs × Int :=
  if 2 ^ 48 < Hf.ksum wide then ([], 4) else
  match signs wide m (bitsB (dnB s)) with
  | .inl true => ([], 4)
  | .inl false => ([], 3)
  | .inr (t, r) => if clean r then opT n (upB t) else ([], 4)
/-- behind a byte 1 -/
def opC (s : Bs) : Bs × Int :=
  if (nums [4096, 12288, 256] s).2.2 ≠ 0 then ([], (nums [4096, 12288, 256] s).2.2) else
  let n := (nums [4096, 12288, 256] s).1
  let p := pairs (n.getD 2 0) (-1) (List.replicate 256 0) (nums [4096, 12288, 256] s).2.1
  if p.2.2 ≠ 0 then ([], p.2.2) else opS (n.getD 0 0) (n.getD 1 0) p.1 p.2.1
def op : Bs → Bs × Int
  | [] => ([], 3)
  | a :: s => if a = 0 then (if 4096 < s.length then ([], 2) else (s, 0)) else if a = 1 then opC s else ([], 5)
theorem op_zero (s : Bs) : op (0 :: s) = if 4096 < s.length then ([], 2) else (s, 0) := rfl
theorem op_one (s : Bs) : op (1 :: s) = opC s := rfl
/-- the coded form, with the lengths -/
def T (s : Bs) : Bs := Lz.pack (Lz.greedy s)
def cod (s : Bs) (wide : List Nat) : Bs :=
  1 :: (Nm.put s.length ++ (Nm.put (T s).length ++ (Nm.put (manyFrom wide 0 256) ++ (headFrom wide 0 256 ++ upB (bytes (words wide (dnB (T s))))))))
def pr (s : Bs) (wide : List Nat) : Bs × Int := if 4096 < s.length then ([], 2) else if (cod s wide).length ≤ s.length then (cod s wide, 0) else (0 :: s, 0)
theorem pack_le (l : List Lz.Tk) : (Lz.pack l).length ≤ 3 * l.length := by
  induction l with
  | nil => exact Nat.le_refl _
  | cons t l ih =>
    have e : Lz.pack (t :: l) = t.text ++ Lz.pack l := by simp [Lz.pack]
    have : t.text.length ≤ 3 := by unfold Lz.Tk.text; split <;> simp
    rw [e, List.length_append, List.length_cons]
    omega
theorem T_le (s : Bs) : (T s).length ≤ 3 * s.length := by
  have h1 := pack_le (Lz.greedy s)
  have h2 := Lz.makes_length s _ 0 (Lz.makes_greedy s)
  unfold T
  omega
theorem opT_T {s : Bs} (h : s.length ≤ 4096) : opT s.length (T s) = (s, 0) := by
  have hm := Lz.makes_greedy s
  have hl := Lz.makes_length s _ 0 hm
  have e1 : Lz.rdA [] (T s) = (Lz.greedy s, 0) := by
    have := Lz.read_pack (Lz.greedy s) [] hm.good (by simp only [List.length_nil]; omega)
    simpa [T] using this
  have e2 : Lz.ex s.length [] (Lz.greedy s) = (s, 0) := by
    have := Lz.makes_ex (most := s.length) hm (Nat.le_refl _)
    simpa using this
  unfold opT
  rw [e1]
  simp only [e2, ne_eq, not_true_eq_false, if_false, Nat.lt_irrefl]
/-- the lengths of P19 for T have codes, and all that is in T has one -/
theorem good_of {F wide : List Nat} (h : Hf.HL F wide) (h2 : F.length ≤ 256) (h3 : ∀ n ∈ F, n ≤ 1048576) : Good wide := by
  refine ⟨Hf.getD_le (h.le48 h2 h3), ?_⟩
  rw [h.ksum h2 h3]
  split
  · exact Nat.zero_le _
  · split <;> decide
theorem opS_words {s : Bs} {wide : List Nat} (hs : s.length ≤ 4096) (h : Hf.HL (tally (T s)) wide) : opS s.length (T s).length wide (upB (bytes (words wide (dnB (T s))))) = (s, 0) := by
  have hT := T_le s
  have h3 : ∀ n ∈ tally (T s), n ≤ 1048576 := fun n hn => by have := tally_le _ n hn; omega
  have h2 : (tally (T s)).length ≤ 256 := by rw [tally_length]; exact Nat.le_refl _
  have g := good_of h h2 h3
  have hl : wide.length = 256 := by rw [h.len, tally_length]
  have hw : ∀ i ∈ dnB (T s), i < wide.length ∧ 0 < wide.getD i 0 := by
    intro i hi
    obtain ⟨b, hb, rfl⟩ := List.mem_map.1 hi
    exact ⟨by rw [hl]; exact b.toNat_lt, (h.there h2 h3 _).1 (tally_there hb)⟩
  have key := signs_bytes g hw
  rw [show (dnB (T s)).length = (T s).length by simp [dnB]] at key
  unfold opS
  rw [if_neg (by have := g.sum; omega), dn_up (bytes_lt _), key]
  simp only [clean_zs, if_true, up_dn]
  exact opT_T hs
theorem op_cod {s : Bs} {wide : List Nat} (hs : s.length ≤ 4096) (h : Hf.HL (tally (T s)) wide) : op (cod s wide) = (s, 0) := by
  have hT := T_le s
  have h3 : ∀ n ∈ tally (T s), n ≤ 1048576 := fun n hn => by have := tally_le _ n hn; omega
  have h2 : (tally (T s)).length ≤ 256 := by rw [tally_length]; exact Nat.le_refl _
  have g := good_of h h2 h3
  have hl : wide.length = 256 := by rw [h.len, tally_length]
  have hm := many_le wide 0 256
  have e := nums_put (m := 4096) (n := s.length) (s := _) hs (by omega) (nums_put (m := 12288) (n := (T s).length) (by omega) (by omega)
    (nums_put (m := 256) (n := manyFrom wide 0 256) hm (by omega) (show nums [] (headFrom wide 0 256 ++ upB (bytes (words wide (dnB (T s))))) = ([], _, 0) from rfl)))
  have hp := pairs_head g.le hl (upB (bytes (words wide (dnB (T s))))) 256 0 rfl (-1) (by omega)
  rw [List.take_zero, List.nil_append] at hp
  unfold cod
  rw [op_one]
  unfold opC
  rw [e]
  simp only [ne_eq, not_true_eq_false, if_false, List.getD_cons_zero, List.getD_cons_succ]
  rw [hp]
  simp only [not_true_eq_false, if_false]
  exact opS_words hs h
/-- what is pressed is opened as it was, and has at most one byte more -/
theorem op_pr {s : Bs} {wide : List Nat} (hs : s.length ≤ 4096) (h : Hf.HL (tally (T s)) wide) : (pr s wide).2 = 0 ∧ op (pr s wide).1 = (s, 0) ∧ (pr s wide).1.length ≤ 1 + s.length := by
  unfold pr
  rw [if_neg (by omega)]
  split
  · exact ⟨rfl, op_cod hs h, by show (cod s wide).length ≤ _; omega⟩
  · refine ⟨rfl, ?_, by show (0 :: s).length ≤ _; rw [List.length_cons]; omega⟩
    show op (0 :: s) = _
    rw [op_zero, if_neg (by omega)]
end Pr
end Go.Proofs.Ytgdkfaphbbdnbaa

namespace Go.Proofs.Ytgdkfaphbbdnbaa
namespace Pr

/-- an answer of up to so many bytes, or an error and nothing -/
def Fine (m : Nat) (a : Bs × Int) : Prop := a.1.length ≤ m ∧ (a.2 = 0 ∨ a.1 = [])
theorem Fine.err (m : Nat) (e : Int) : Fine m ([], e) := ⟨Nat.zero_le _, .inr rfl⟩
theorem Fine.mono {m n : Nat} {a : Bs × Int} (h : Fine m a) (hm : m ≤ n) : Fine n a := ⟨Nat.le_trans h.1 hm, h.2⟩
theorem opT_fine (n : Nat) (T : Bs) : Fine n (opT n T) := by
  unfold opT
  split
  · exact .err _ _
  split
  · exact .err _ _
  split
  · exact .err _ _
  rename_i h1 h2 _
  refine ⟨?_, .inl rfl⟩
  cases e1 : Lz.rdA [] T with
  | mk l q =>
    rw [e1] at h1 h2
    obtain rfl : q = 0 := by simp at h1; omega
    obtain ⟨m, hm, _, hg, _⟩ := Lz.pack_read T.length T (Nat.le_refl _) [] l e1 (by simp)
    rw [List.nil_append] at hm
    subst hm
    cases e2 : Lz.ex n [] l with
    | mk u q =>
      rw [e2] at h2
      obtain rfl : q = 0 := by simp at h2; omega
      exact (Lz.ex_makes hg e2 (by simp)).2.2
theorem opS_fine (n m : Nat) (wide : List Nat) (s : Bs) : Fine n (opS n m wide s) := by
  unfold opS
  split
  · exact .err _ _
  split
  · exact .err _ _
  · exact .err _ _
  · split
    · exact opT_fine _ _
    · exact .err _ _
theorem nums_le (m : Nat) (ms : List Nat) (s : Bs) : (nums (m :: ms) s).1.getD 0 0 ≤ m := by
  rw [nums]
  split
  · exact Nat.zero_le _
  split
  · exact Nat.zero_le _
  split
  · exact Nat.zero_le _
  · rename_i h1 _
    show (Nm.getN s).1 ≤ m
    omega
theorem opC_fine (s : Bs) : Fine 4096 (opC s) := by
  unfold opC
  split
  · exact .err _ _
  have hn := nums_le 4096 [12288, 256] s
  simp only []
  split
  · exact .err _ _
  · exact (opS_fine _ _ _ _).mono hn
theorem op_fine (s : Bs) : Fine 4096 (op s) := by
  unfold op
  split
  · exact .err _ _
  split
  · split
    · exact .err _ _
    · rename_i h
      exact ⟨Nat.not_lt.1 h, .inl rfl⟩
  split
  · exact opC_fine _
  · exact .err _ _
theorem op_some {s : Bs} (h : (op s).2 = 0) : 0 < s.length := by
  cases s with
  | nil => exact absurd h (by decide)
  | cons _ _ => rw [List.length_cons]; omega
/-- a word stands in front where so many bits are there and their number is its code -/
theorem fits_val {l : List Nat} (g : Good l) {b : List Bool} {i : Nat} : fits l b i = true ↔ i < l.length ∧ 0 < l.getD i 0 ∧ l.getD i 0 ≤ b.length ∧ val (b.take (l.getD i 0)) = Hf.code l i := by
  rw [fits_iff]
  constructor
  · rintro ⟨h1, h2, h3⟩
    refine ⟨h1, h2, ?_, ?_⟩
    · have := congrArg List.length h3
      rw [W_length, List.length_take] at this
      omega
    · rw [h3]
      exact val_wd (g.lt h1 h2)
  · rintro ⟨h1, h2, h3, h4⟩
    refine ⟨h1, h2, ?_⟩
    have := wd_val (b.take (l.getD i 0))
    rw [List.length_take, Nat.min_eq_left h3, h4] at this
    exact this.symm
theorem val_take {b : List Bool} {k : Nat} (h : k < b.length) : val (b.take (k + 1)) = 2 * val (b.take k) + (if b[k] then 1 else 0) := by
  rw [List.take_add_one, List.getElem?_eq_getElem h]
  exact val_snoc _ _
theorem val_take_lt (b : List Bool) (k : Nat) : val (b.take k) < 2 ^ k := by
  refine Nat.lt_of_lt_of_le (val_lt _) (Nat.pow_le_pow_right (by omega : 2 > 0) ?_)
  rw [List.length_take]
  omega
/-- no sign of up to k bits stands in front -/
def Not (l : List Nat) (b : List Bool) (k : Nat) : Prop := ∀ i, fits l b i = true → k < l.getD i 0
theorem Not.start (l : List Nat) (b : List Bool) : Not l b 0 := fun _ h => (fits_iff.1 h).2.1
theorem Not.next {l : List Nat} (g : Good l) {b : List Bool} {k : Nat} (h : Not l b k) (hn : ∀ i, i < l.length → l.getD i 0 = k + 1 → val (b.take (k + 1)) ≠ Hf.code l i) : Not l b (k + 1) := by
  intro i hi
  have h1 := h i hi
  obtain ⟨f1, f2, f3, f4⟩ := (fits_val g).1 hi
  by_cases e : l.getD i 0 = k + 1
  · rw [e] at f4
    exact absurd f4 (hn i f1 e)
  · omega
theorem Not.none {l : List Nat} (g : Good l) {b : List Bool} {k : Nat} (h : Not l b k) (hk : k = 48 ∨ k = b.length) : front l b = .none := by
  rw [front_none]
  intro i
  cases e : fits l b i with
  | false => rfl
  | true =>
    have h1 := h i e
    obtain ⟨_, _, f3, _⟩ := (fits_val g).1 e
    have := g.le i
    omega
theorem front_hit {l : List Nat} (g : Good l) {b : List Bool} {k i : Nat} (hk : k ≤ b.length) (hi : i < l.length) (h0 : 0 < k) (e : l.getD i 0 = k) (hv : val (b.take k) = Hf.code l i) : front l b = some i :=
  (front_some g).2 ((fits_val g).2 ⟨hi, by omega, by omega, by rw [e]; exact hv⟩)
end Pr
end Go.Proofs.Ytgdkfaphbbdnbaa

namespace Go.Proofs.Ytgdkfaphbbdnbaa
namespace Pr

/-- the signs below k whose codes have n bits -/
def shelf (l : List Nat) (n k : Nat) : List Nat := (List.range k).filter fun i => decide (0 < n) && (l.getD i 0 == n)
theorem shelf_nought (l : List Nat) (k : Nat) : shelf l 0 k = [] := by
  unfold shelf
  exact List.filter_eq_nil_iff.2 fun _ _ => by simp
theorem shelf_zero (l : List Nat) (n : Nat) : shelf l n 0 = [] := rfl
theorem shelf_hit {l : List Nat} {n k : Nat} (hn : 0 < n) (h : l.getD k 0 = n) : shelf l n (k + 1) = shelf l n k ++ [k] := by
  unfold shelf
  rw [List.range_succ, List.filter_append]
  simp only [List.filter_cons, h, hn, decide_true, Bool.true_and, beq_self_eq_true, if_true, List.filter_nil]
theorem shelf_miss {l : List Nat} {n k : Nat} (h : l.getD k 0 ≠ n) : shelf l n (k + 1) = shelf l n k := by
  unfold shelf
  rw [List.range_succ, List.filter_append]
  simp only [List.filter_cons, beq_eq_false_iff_ne.2 h, Bool.and_false, Bool.false_eq_true, if_false, List.filter_nil, List.append_nil]
theorem shelf_len (l : List Nat) (n k : Nat) : (shelf l n k).length ≤ k := by
  have := List.length_filter_le (fun i => decide (0 < n) && (l.getD i 0 == n)) (List.range k)
  rw [List.length_range] at this
  exact this
theorem shelf_lt {l : List Nat} {n k : Nat} : ∀ i ∈ shelf l n k, i < k := by
  intro i hi
  exact List.mem_range.1 (List.mem_filter.1 hi).1
theorem nxt_shelf {l : List Nat} {n k : Nat} (hn : 0 < n) (hk : k ≤ l.length) : Hf.nxt l n k = Hf.nxt l n 0 + (shelf l n k).length := by
  induction k with
  | zero => rfl
  | succ k ih =>
    have ih := ih (by omega)
    by_cases h : l.getD k 0 = n
    · rw [Hf.nxt_hit (by omega) hn h, shelf_hit hn h, List.length_append, List.length_singleton, ih]
      omega
    · rw [Hf.nxt_miss h, shelf_miss h, ih]
theorem shelf_code {l : List Nat} {n k : Nat} (hn : 0 < n) (hk : k ≤ l.length) {t i : Nat} (ht : (shelf l n k)[t]? = some i) : i < k ∧ l.getD i 0 = n ∧ Hf.code l i = Hf.nxt l n 0 + t := by
  induction k with
  | zero => simp [shelf_zero] at ht
  | succ k ih =>
    have ih := ih (by omega)
    by_cases h : l.getD k 0 = n
    · rw [shelf_hit hn h] at ht
      by_cases hlt : t < (shelf l n k).length
      · rw [List.getElem?_append_left hlt] at ht
        have := ih ht
        exact ⟨by omega, this.2⟩
      · rw [List.getElem?_append_right (by omega)] at ht
        have h0 : t - (shelf l n k).length = 0 := by
          have := (List.getElem?_eq_some_iff.1 ht).1
          rw [List.length_singleton] at this
          omega
        rw [h0] at ht
        obtain rfl : k = i := by simpa using ht
        refine ⟨by omega, h, ?_⟩
        rw [Hf.code_nxt, h, nxt_shelf hn (by omega)]
        omega
    · rw [shelf_miss h] at ht
      have := ih ht
      exact ⟨by omega, this.2⟩
theorem shelf_there {l : List Nat} {n i : Nat} (hn : 0 < n) (hi : i < l.length) (h : l.getD i 0 = n) : ∃ t, (shelf l n l.length)[t]? = some i ∧ Hf.code l i = Hf.nxt l n 0 + t := by
  have hm : i ∈ shelf l n l.length := List.mem_filter.2 ⟨List.mem_range.2 hi, by rw [h]; simp [hn]⟩
  obtain ⟨t, ht⟩ := List.getElem?_of_mem hm
  exact ⟨t, ht, (shelf_code hn (Nat.le_refl _) ht).2.2⟩
/-- the sign of n bits with this code -/
def fnd (l : List Nat) (n c : Nat) : Option Nat := if Hf.nxt l n 0 ≤ c then (shelf l n l.length)[c - Hf.nxt l n 0]? else none
theorem fnd_some {l : List Nat} {n c i : Nat} (hn : 0 < n) (h : fnd l n c = some i) : i < l.length ∧ l.getD i 0 = n ∧ c = Hf.code l i := by
  unfold fnd at h
  split at h
  · have := shelf_code hn (Nat.le_refl _) h
    exact ⟨this.1, this.2.1, by omega⟩
  · simp at h
theorem fnd_none {l : List Nat} {n c : Nat} (hn : 0 < n) (h : fnd l n c = none) : ∀ i, i < l.length → l.getD i 0 = n → c ≠ Hf.code l i := by
  intro i hi e hc
  obtain ⟨t, h1, h2⟩ := shelf_there hn hi e
  unfold fnd at h
  rw [if_pos (by omega), show c - Hf.nxt l n 0 = t by omega, h1] at h
  simp at h
/-- what stands first on a shelf -/
def fst (l : List Nat) (n k : Nat) : Nat := if (shelf l n k).length = 0 then 0 else Hf.nxt l n 0
theorem fst_le {l : List Nat} (g : Good l) {n : Nat} (hn : n ≤ 48) (k : Nat) : fst l n k ≤ 281474976710656 := by
  unfold fst
  split
  · omega
  · exact Hf.nxt_bound hn g.sum
theorem fst_first {l : List Nat} {n k : Nat} (hn : 0 < n) (hk : k < l.length) (h : l.getD k 0 = n) : fst l n (k + 1) = if (shelf l n k).length = 0 then Hf.code l k else fst l n k := by
  unfold fst
  rw [shelf_hit hn h, List.length_append, List.length_singleton, if_neg (by omega)]
  split
  · rename_i h0
    have e := nxt_shelf hn (Nat.le_of_lt hk)
    rw [h0] at e
    rw [Hf.code_nxt, h, e]
    rfl
  · rfl
theorem fst_miss {l : List Nat} {n k : Nat} (h : l.getD k 0 ≠ n) : fst l n (k + 1) = fst l n k := by
  unfold fst
  rw [shelf_miss h]
/-- finding by what stands first -/
theorem fnd_first (l : List Nat) (n c : Nat) : fnd l n c = if fst l n l.length ≤ c then (shelf l n l.length)[c - fst l n l.length]? else none := by
  unfold fnd fst
  split
  · split
    · rename_i h
      rw [List.length_eq_zero_iff.1 h]
      simp
    · rfl
  · split
    · rename_i h
      rw [List.length_eq_zero_iff.1 h]
      simp
    · rfl
theorem wd_get {c n k : Nat} (h : k < n) : (wd c n)[k]? = some (decide (c / 2 ^ (n - 1 - k) % 2 = 1)) := by
  induction n generalizing c with
  | zero => omega
  | succ n ih =>
    rw [wd]
    by_cases hk : k < n
    · rw [List.getElem?_append_left (by rw [wd_length]; exact hk), ih hk, Nat.div_div_eq_div_mul, ← Nat.pow_succ', show n + 1 - 1 - k = n - 1 - k + 1 by omega]
    · obtain rfl : k = n := by omega
      rw [List.getElem?_append_right (by rw [wd_length]; exact Nat.le_refl _), wd_length, Nat.sub_self, show k + 1 - 1 - k = 0 by omega]
      simp
theorem bitsB_get {L : List Nat} {k : Nat} (h : k < 8 * L.length) : (bitsB L)[k]? = some (decide (L.getD (k / 8) 0 / 2 ^ (7 - k % 8) % 2 = 1)) := by
  induction L generalizing k with
  | nil => simp at h
  | cons b L ih =>
    rw [bitsB_cons]
    by_cases hk : k < 8
    · rw [List.getElem?_append_left (by rw [wd_length]; exact hk), wd_get hk, show k / 8 = 0 by omega, show k % 8 = k by omega]
      rfl
    · rw [List.length_cons] at h
      rw [List.getElem?_append_right (by rw [wd_length]; omega), wd_length, ih (by omega), show k / 8 = (k - 8) / 8 + 1 by omega, show k % 8 = (k - 8) % 8 by omega]
      rfl
end Pr
end Go.Proofs.Ytgdkfaphbbdnbaa
