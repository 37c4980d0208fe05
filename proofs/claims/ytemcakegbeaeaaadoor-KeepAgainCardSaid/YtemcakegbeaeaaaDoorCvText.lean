/-
  Plain facts (no Go in here): the texts of dates, P55: how they are written, read, and in what order they stand.
-/
import Derived.Test.YtemcakegbeaeaaaDoorCvMath
import Derived.WalkKit
namespace Go.Proofs.YtemcakegbeaeaaaDoor
open Go.RowKit
namespace Cv

/-- P53's Days -/
def Days (y m d : Int) : Int × Int := if 1 ≤ y ∧ y ≤ 9999 ∧ 1 ≤ m ∧ m ≤ 12 ∧ 1 ≤ d ∧ d ≤ dim y m then (days y m d, 0) else (0, 1)

theorem days_zero {y m d k : Int} (h : Days y m d = (k, 0)) : Ok y m d ∧ 1 ≤ y ∧ y ≤ 9999 ∧ days y m d = k := by
  unfold Days at h
  split at h
  · rename_i q
    exact ⟨⟨q.2.2.1, q.2.2.2.1, q.2.2.2.2.1, q.2.2.2.2.2⟩, q.1, q.2.1, congrArg Prod.fst h⟩
  · exact absurd (congrArg Prod.snd h) (show ¬ (1 : Int) = 0 by decide)

theorem days_of {y m d : Int} (h : Ok y m d) (h1 : 1 ≤ y) (h2 : y ≤ 9999) : Days y m d = (days y m d, 0) := if_pos ⟨h1, h2, h.m1, h.m12, h.d1, h.dm⟩

theorem days_no {y m d : Int} (h : ¬ (Ok y m d ∧ 1 ≤ y ∧ y ≤ 9999)) : Days y m d = (0, 1) := if_neg fun q => h ⟨⟨q.2.2.1, q.2.2.2.1, q.2.2.2.2.1, q.2.2.2.2.2⟩, q.1, q.2.1⟩

theorem days_err (y m d : Int) : (Days y m d).2 = 0 ∨ Days y m d = (0, 1) := by
  unfold Days; split
  · exact .inl rfl
  · exact .inr rfl

/-- the document's way: a date is one, if it is its number's date -/
theorem days_doc (y m d : Int) : Days y m d = if y < 1 ∨ 9999 < y ∨ m < 1 ∨ 12 < m ∨ d < 1 ∨ 31 < d then (0, 1) else if date (days y m d) = (y, m, d) then (days y m d, 0) else (0, 1) := by
  by_cases h : Ok y m d ∧ 1 ≤ y ∧ y ≤ 9999
  · rw [days_of h.1 h.2.1 h.2.2, if_neg, if_pos (date_days h.1)]
    have := h.1.m1; have := h.1.m12; have := h.1.d1; have := h.1.dm; have := (dim_le y m).2
    omega
  · rw [days_no h]
    split
    · rfl
    · rename_i q
      rw [if_neg]
      intro e
      exact h ⟨(date_iff.1 e).1, by omega, by omega⟩

def Date (n : Int) : (Int × Int × Int) × Int := if dayOk n then (date n, 0) else ((0, 0, 0), 1)

theorem day_days {n : Int} (h : dayOk n) : Days (date n).1 (date n).2.1 (date n).2.2 = (n, 0) := by
  obtain ⟨k, e⟩ := date_at n
  have := (dayOk_iff n).1 h
  rw [days_of k this.1 this.2, e]

theorem days_day {y m d k : Int} (h : Days y m d = (k, 0)) : dayOk k ∧ date k = (y, m, d) := by
  obtain ⟨h1, h2, h3, h4⟩ := days_zero h
  have := date_iff.2 ⟨h1, h4⟩
  exact ⟨(dayOk_iff k).2 (by rw [this]; exact ⟨h2, h3⟩), this⟩

/-- a number in so many digits -/
def dig : Nat → Nat → List UInt8
  | 0, _ => []
  | k + 1, n => dig k (n / 10) ++ [UInt8.ofNat (48 + n % 10)]

theorem dig_length (k n : Nat) : (dig k n).length = k := by
  induction k generalizing n with
  | zero => rfl
  | succ k ih => rw [dig, List.length_append, ih]; rfl

def isDig (c : UInt8) : Bool := decide (48 ≤ c.toNat) && decide (c.toNat ≤ 57)

theorem isDig_iff (c : UInt8) : isDig c = true ↔ (48 ≤ c.toNat ∧ c.toNat ≤ 57) := by unfold isDig; simp

theorem ofNat_to {n : Nat} (h : n < 256) : (UInt8.ofNat n).toNat = n := by
  rw [UInt8.toNat_ofNat']; omega

theorem dig_digs (k n : Nat) : ∀ c ∈ dig k n, isDig c = true := by
  induction k generalizing n with
  | zero => exact fun c h => absurd h (by simp [dig])
  | succ k ih =>
    intro c h
    rw [dig, List.mem_append] at h
    rcases h with h | h
    · exact ih _ c h
    · rw [List.mem_singleton] at h
      rw [h, isDig_iff, ofNat_to (by omega)]
      omega

def num (l : List UInt8) : Nat := l.foldl (fun a c => 10 * a + (c.toNat - 48)) 0

theorem num_snoc (l : List UInt8) (c : UInt8) : num (l ++ [c]) = 10 * num l + (c.toNat - 48) := by
  unfold num; rw [List.foldl_append]; rfl

theorem num_dig (k n : Nat) : num (dig k n) = n % 10 ^ k := by
  induction k generalizing n with
  | zero => simp [dig, num, Nat.mod_one]
  | succ k ih =>
    rw [dig, num_snoc, ih, ofNat_to (by omega), Nat.pow_succ', Nat.mod_mul]
    omega

theorem dig_num' : ∀ (k : Nat) (l : List UInt8), l.length = k → (∀ c ∈ l, isDig c = true) → dig k (num l) = l ∧ num l < 10 ^ k := by
  intro k
  induction k with
  | zero =>
    intro l hl _
    rw [List.eq_nil_of_length_eq_zero hl]
    exact ⟨rfl, by decide⟩
  | succ k ih =>
    intro l hl h
    rcases List.eq_nil_or_concat l with rfl | ⟨t, c, rfl⟩
    · cases hl
    · have hc := (isDig_iff c).1 (h c (by simp))
      rw [List.concat_eq_append] at hl ⊢
      obtain ⟨ih1, ih2⟩ := ih t (by simpa using hl) fun x hx => h x (by simp [hx])
      rw [dig, num_snoc]
      have e1 : (10 * num t + (c.toNat - 48)) / 10 = num t := by clear ih2; omega
      have e2 : 48 + (10 * num t + (c.toNat - 48)) % 10 = c.toNat := by clear ih2; omega
      rw [e1, e2, ih1, Nat.pow_succ]
      generalize 10 ^ k = K at *
      exact ⟨by simp, by omega⟩

theorem dig_num (l : List UInt8) (h : ∀ c ∈ l, isDig c = true) : dig l.length (num l) = l := (dig_num' _ l rfl h).1

theorem num_lt (l : List UInt8) (h : ∀ c ∈ l, isDig c = true) : num l < 10 ^ l.length := (dig_num' _ l rfl h).2

theorem less_cons (a b : UInt8) (x y : List UInt8) : Op.bytesLess (a :: x) (b :: y) = (decide (a < b) || (a == b && Op.bytesLess x y)) := rfl

/-- numbers in as many digits stand in the order of their texts -/
theorem less_dig (k : Nat) : ∀ (n m : Nat) (x y : List UInt8), n < 10 ^ k → m < 10 ^ k → Op.bytesLess (dig k n ++ x) (dig k m ++ y) = (decide (n < m) || (decide (n = m) && Op.bytesLess x y)) := by
  induction k with
  | zero =>
    intro n m x y h1 h2
    have : n = 0 := by simp at h1; exact h1
    have : m = 0 := by simp at h2; exact h2
    subst n m
    simp [dig]
  | succ k ih =>
    intro n m x y h1 h2
    rw [Nat.pow_succ, Nat.mul_comm] at h1 h2
    rw [dig, dig, List.append_assoc, List.append_assoc, ih _ _ _ _ (Nat.div_lt_of_lt_mul h1) (Nat.div_lt_of_lt_mul h2), List.singleton_append, List.singleton_append, less_cons]
    clear h1 h2 ih
    have e1 : (UInt8.ofNat (48 + n % 10) < UInt8.ofNat (48 + m % 10)) ↔ n % 10 < m % 10 := by
      rw [UInt8.lt_iff_toNat_lt, ofNat_to (by omega), ofNat_to (by omega)]; omega
    have e2 : (UInt8.ofNat (48 + n % 10) == UInt8.ofNat (48 + m % 10)) = decide (n % 10 = m % 10) := by
      rw [Bool.eq_iff_iff, beq_iff_eq, decide_eq_true_eq, ← UInt8.toNat_inj, ofNat_to (by omega), ofNat_to (by omega)]; omega
    have e3 : decide (UInt8.ofNat (48 + n % 10) < UInt8.ofNat (48 + m % 10)) = decide (n % 10 < m % 10) := decide_eq_decide.2 e1
    rw [e2, e3]
    clear e1 e2 e3
    by_cases hlt : n / 10 < m / 10
    · have : n < m := by omega
      simp [hlt, this]
    · by_cases heq : n / 10 = m / 10
      · by_cases h3 : n % 10 < m % 10
        · have : n < m := by omega
          simp [heq, h3, this]
        · by_cases h4 : n % 10 = m % 10
          · have : n = m := by omega
            subst this
            simp
          · have e3 : ¬ n < m := by omega
            have e4 : ¬ n = m := by omega
            simp [heq, h3, h4, e3, e4]
      · have e3 : ¬ n < m := by omega
        have e4 : ¬ n = m := by omega
        simp [hlt, heq, e3, e4]

/-- how a date is written -/
def text (y m d : Nat) : List UInt8 := dig 4 y ++ 45 :: (dig 2 m ++ 45 :: dig 2 d)

theorem text_less {y m d a b c : Nat} (h1 : y < 10000) (h2 : m < 100) (h3 : d < 100) (k1 : a < 10000) (k2 : b < 100) (k3 : c < 100) :
    Op.bytesLess (text y m d) (text a b c) = decide (y < a ∨ (y = a ∧ (m < b ∨ (m = b ∧ d < c)))) := by
  have e0 := less_dig 2 d c [] [] (by simpa using h3) (by simpa using k3)
  rw [List.append_nil, List.append_nil] at e0
  have en : Op.bytesLess [] [] = false := rfl
  rw [en] at e0
  have e45 : (decide ((45 : UInt8) < 45)) = false := by decide
  unfold text
  rw [less_dig 4 _ _ _ _ (by simpa using h1) (by simpa using k1), less_cons, e45, less_dig 2 _ _ _ _ (by simpa using h2) (by simpa using k2), less_cons, e45, e0]
  simp

/-- the text of a day -/
def textOf (n : Int) : List UInt8 := text (date n).1.toNat (date n).2.1.toNat (date n).2.2.toNat

theorem date_nat {n : Int} (h : dayOk n) : ∃ y m d : Nat, date n = ((y : Int), (m : Int), (d : Int)) ∧ 1 ≤ y ∧ y < 10000 ∧ m < 100 ∧ d < 100 := by
  obtain ⟨k, _⟩ := date_at n
  have h1 := (dayOk_iff n).1 h
  have := k.m1; have := k.m12; have := k.d1; have := k.dm; have := (dim_le (date n).1 (date n).2.1).2
  refine ⟨(date n).1.toNat, (date n).2.1.toNat, (date n).2.2.toNat, Prod.ext ?_ (Prod.ext ?_ ?_), ?_, ?_, ?_, ?_⟩ <;> (try dsimp only) <;> omega

/-- of two days the earlier one has the smaller text -/
theorem textOf_less {n k : Int} (h : dayOk n) (g : dayOk k) : Op.bytesLess (textOf n) (textOf k) = decide (n < k) := by
  obtain ⟨y, m, d, e, _, h1, h2, h3⟩ := date_nat h
  obtain ⟨a, b, c, f, _, k1, k2, k3⟩ := date_nat g
  unfold textOf
  rw [e, f]
  dsimp only
  rw [Int.toNat_natCast, Int.toNat_natCast, Int.toNat_natCast, Int.toNat_natCast, Int.toNat_natCast, Int.toNat_natCast, text_less h1 h2 h3 k1 k2 k3]
  obtain ⟨o1, q1⟩ := date_iff.1 e
  obtain ⟨o2, q2⟩ := date_iff.1 f
  have := days_lt_iff o1 o2
  rw [q1, q2] at this
  rw [decide_eq_decide]
  rw [this]
  omega

def form (s : List UInt8) : Bool := s.length == 10 && s[4]? == some 45 && s[7]? == some 45 && (s.take 4).all isDig && ((s.drop 5).take 2).all isDig && (s.drop 8).all isDig

/-- how a date is read -/
def read (s : List UInt8) : Int × Int := if form s = true then Days (num (s.take 4)) (num ((s.drop 5).take 2)) (num (s.drop 8)) else (0, 13)

theorem form_iff (s : List UInt8) : form s = true ↔ ∃ a b c, s = a ++ 45 :: (b ++ 45 :: c) ∧ a.length = 4 ∧ b.length = 2 ∧ c.length = 2 ∧ (∀ x ∈ a, isDig x = true) ∧ (∀ x ∈ b, isDig x = true) ∧ (∀ x ∈ c, isDig x = true) := by
  constructor
  · intro h
    unfold form at h
    simp only [Bool.and_eq_true, beq_iff_eq, List.all_eq_true] at h
    obtain ⟨⟨⟨⟨⟨h1, h2⟩, h3⟩, h4⟩, h5⟩, h6⟩ := h
    match s, h1 with
    | [s0, s1, s2, s3, s4, s5, s6, s7, s8, s9], _ =>
      simp at h2 h3
      subst h2 h3
      exact ⟨[s0, s1, s2, s3], [s5, s6], [s8, s9], rfl, rfl, rfl, rfl, h4, h5, h6⟩
  · rintro ⟨a, b, c, rfl, h1, h2, h3, h4, h5, h6⟩
    match a, h1 with
    | [s0, s1, s2, s3], _ =>
      match b, h2 with
      | [s5, s6], _ =>
        match c, h3 with
        | [s8, s9], _ =>
          unfold form
          simp only [Bool.and_eq_true, beq_iff_eq, List.all_eq_true]
          exact ⟨⟨⟨⟨⟨rfl, rfl⟩, rfl⟩, h4⟩, h5⟩, h6⟩

theorem read_parts {a b c : List UInt8} (h1 : a.length = 4) (h2 : b.length = 2) (h3 : c.length = 2) (h4 : ∀ x ∈ a, isDig x = true) (h5 : ∀ x ∈ b, isDig x = true) (h6 : ∀ x ∈ c, isDig x = true) : read (a ++ 45 :: (b ++ 45 :: c)) = Days (num a) (num b) (num c) := by
  have hf := (form_iff (a ++ 45 :: (b ++ 45 :: c))).2 ⟨a, b, c, rfl, h1, h2, h3, h4, h5, h6⟩
  unfold read
  rw [if_pos hf]
  match a, h1 with
  | [s0, s1, s2, s3], _ =>
    match b, h2 with
    | [s5, s6], _ => rfl

/-- a date is read as it was written -/
theorem read_text {n : Int} (h : dayOk n) : read (textOf n) = (n, 0) := by
  obtain ⟨y, m, d, e, _, h1, h2, h3⟩ := date_nat h
  have hd := day_days h
  unfold textOf text
  rw [e] at hd ⊢
  dsimp only at hd ⊢
  rw [Int.toNat_natCast, Int.toNat_natCast, Int.toNat_natCast, read_parts (dig_length _ _) (dig_length _ _) (dig_length _ _) (dig_digs _ _) (dig_digs _ _) (dig_digs _ _), num_dig, num_dig, num_dig, Nat.mod_eq_of_lt (by omega), Nat.mod_eq_of_lt (by omega), Nat.mod_eq_of_lt (by omega)]
  exact hd

/-- what is read is written as it stood -/
theorem text_read {s : List UInt8} {k : Int} (h : read s = (k, 0)) : dayOk k ∧ textOf k = s := by
  unfold read at h
  split at h
  · rename_i hf
    obtain ⟨a, b, c, rfl, h1, h2, h3, h4, h5, h6⟩ := (form_iff s).1 hf
    have hr := read_parts h1 h2 h3 h4 h5 h6
    unfold read at hr
    rw [if_pos hf] at hr
    rw [hr] at h
    obtain ⟨g1, g2⟩ := days_day h
    refine ⟨g1, ?_⟩
    unfold textOf text
    rw [g2]
    dsimp only
    have e1 := dig_num a h4
    have e2 := dig_num b h5
    have e3 := dig_num c h6
    rw [h1] at e1
    rw [h2] at e2
    rw [h3] at e3
    rw [Int.toNat_natCast, Int.toNat_natCast, Int.toNat_natCast, e1, e2, e3]
  · exact absurd (congrArg Prod.snd h) (show ¬ (13 : Int) = 0 by decide)

theorem read_err {s : List UInt8} (h : (read s).2 ≠ 0) : (read s).1 = 0 := by
  unfold read at h ⊢
  split
  · rename_i hf
    rw [if_pos hf] at h
    rcases days_err (num (s.take 4)) (num ((s.drop 5).take 2)) (num (s.drop 8)) with e | e
    · exact absurd e h
    · rw [e]
  · rfl

end Cv
end Go.Proofs.YtemcakegbeaeaaaDoor
