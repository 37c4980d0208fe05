/-
  Plain facts (no Go in here): the program's own ways: the year of a day, the numeral with zeros ahead, the form sign by sign.
-/
import Derived.Test.YtemcakegbeaeaaaDoorCvText
import Derived.Lib.ItoaMem
namespace Go.Proofs.YtemcakegbeaeaaaDoor
open Go.RowKit
namespace Cv

/-- the year of a day, counted from the first of January of year 1 -/
def yearP (k : Nat) : Nat := 1 + 400 * (k / 146097) + 100 * min (k % 146097 / 36524) 3 + 4 * ((k % 146097 - 36524 * min (k % 146097 / 36524) 3) / 1461) + min ((k % 146097 - 36524 * min (k % 146097 / 36524) 3) % 1461 / 365) 3

theorem year_at {c e f g s k : Nat} (hk : k = 146097 * c + 36524 * e + 1461 * f + s) (he : e ≤ 3) (hq : 1461 * f + s ≤ 36524) (hq' : e < 3 → 1461 * f + s < 36524) (hs : s < 1461) (hg : g ≤ 3) (h1 : 365 * g ≤ s) (h2 : s < 365 * (g + 1) ∨ g = 3) :
    (date ((k : Int) - 719162)).1 = ((1 + 400 * c + 100 * e + 4 * f + g : Nat) : Int) := by
  have hf : f ≤ 24 := by omega
  have a4 : ((1 + 400 * c + 100 * e + 4 * f + g : Nat) : Int) - 1 = 400 * c + 100 * e + 4 * f + g := by omega
  have b4 : (400 * (c : Int) + 100 * e + 4 * f + g) / 4 = 100 * c + 25 * e + f := by omega
  have b100 : (400 * (c : Int) + 100 * e + 4 * f + g) / 100 = 4 * c + e := by omega
  have b400 : (400 * (c : Int) + 100 * e + 4 * f + g) / 400 = c := by omega
  rw [year_iff, year0_next]
  have hy : year0 ((1 + 400 * c + 100 * e + 4 * f + g : Nat) : Int) = 146097 * c + 36524 * e + 1461 * f + 365 * g - 719162 := by
    unfold year0
    rw [a4, b4, b100, b400]
    omega
  rw [hy]
  refine ⟨by omega, ?_⟩
  split
  · omega
  · rename_i hl
    rw [leap_iff] at hl
    by_cases h3 : g = 3 ∧ s = 1460
    · exfalso
      apply hl
      clear hy b4 b100 b400 a4 hl
      obtain ⟨rfl, rfl⟩ := h3
      refine ⟨by omega, ?_⟩
      by_cases h24 : f = 24
      · right; omega
      · left; omega
    · omega

theorem year_of (k : Nat) : (date ((k : Int) - 719162)).1 = (yearP k : Int) := by
  unfold yearP
  obtain ⟨c, hc⟩ : ∃ c, c = k / 146097 := ⟨_, rfl⟩
  obtain ⟨r, hr⟩ : ∃ r, r = k % 146097 := ⟨_, rfl⟩
  have hk : k = 146097 * c + r := by omega
  have hr' : r < 146097 := by omega
  rw [← hc, ← hr]
  clear hc hr
  obtain ⟨e, he⟩ : ∃ e, e = min (r / 36524) 3 := ⟨_, rfl⟩
  have he3 : e ≤ 3 ∧ 36524 * e ≤ r ∧ r - 36524 * e ≤ 36524 ∧ (e < 3 → r - 36524 * e < 36524) := by omega
  rw [← he]
  clear he
  obtain ⟨q, hq⟩ : ∃ q, q = r - 36524 * e := ⟨_, rfl⟩
  rw [← hq] at he3 ⊢
  obtain ⟨f, hf⟩ : ∃ f, f = q / 1461 := ⟨_, rfl⟩
  obtain ⟨s, hs⟩ : ∃ s, s = q % 1461 := ⟨_, rfl⟩
  obtain ⟨g, hg⟩ : ∃ g, g = min (s / 365) 3 := ⟨_, rfl⟩
  have hq2 : q = 1461 * f + s := by omega
  have hs2 : s < 1461 := by omega
  rw [← hf, ← hs, ← hg]
  exact year_at (by omega) (by omega) (by omega) (by omega) hs2 (by omega) (by omega) (by omega)

theorem yearP_in {k : Nat} (h : k ≤ 3652058) : 1 ≤ yearP k ∧ yearP k ≤ 9999 := by
  have h1 : dayOk ((k : Int) - 719162) := by unfold dayOk; omega
  have h2 := (dayOk_iff _).1 h1
  rw [year_of] at h2
  omega

theorem weekday_first (k : Nat) : weekday ((k : Int) - 719162) = ((k % 7 + 1 : Nat) : Int) := by unfold weekday; omega

theorem dim_cell (y m : Int) (h1 : 1 ≤ m) (h2 : m ≤ 12) : dim y m = (([31, 28, 31, 30, 31, 30, 31, 31, 30, 31, 30, 31] : List Nat)[(m - 1).toNat]! : Int) + if m = 2 ∧ leap y = true then 1 else 0 := by
  have : m = 1 ∨ m = 2 ∨ m = 3 ∨ m = 4 ∨ m = 5 ∨ m = 6 ∨ m = 7 ∨ m = 8 ∨ m = 9 ∨ m = 10 ∨ m = 11 ∨ m = 12 := by omega
  unfold dim
  rcases this with h | h | h | h | h | h | h | h | h | h | h | h <;> subst h <;> simp
  split <;> rfl

/-! ### numerals -/

theorem dig_zero (k : Nat) : dig k 0 = List.replicate k 48 := by
  induction k with
  | zero => rfl
  | succ k ih =>
    rw [dig, Nat.zero_div, ih, List.replicate_succ']
    rfl

/-- a number in so many digits: zeros, and the number -/
theorem dig_dec : ∀ (k n : Nat), n < 10 ^ k → 1 ≤ k → Lib.nDigits n ≤ k ∧ dig k n = List.replicate (k - Lib.nDigits n) 48 ++ Lib.decDigits n := by
  intro k
  induction k with
  | zero => intro n _ h; omega
  | succ k ih =>
    intro n hn _
    by_cases h : n < 10
    · rw [Lib.nDigits_small h, Lib.decDigits_one h, dig, show n / 10 = 0 by omega, dig_zero, show 48 + n % 10 = 48 + n by omega]
      exact ⟨by omega, rfl⟩
    · have hk : 1 ≤ k := by
        rcases Nat.eq_zero_or_pos k with rfl | hk
        · simp at hn; omega
        · exact hk
      rw [Nat.pow_succ, Nat.mul_comm] at hn
      obtain ⟨h1, h2⟩ := ih (n / 10) (Nat.div_lt_of_lt_mul hn) hk
      rw [Lib.nDigits_big h, Lib.decDigits, dif_neg h, dig, h2, show k + 1 - (Lib.nDigits (n / 10) + 1) = k - Lib.nDigits (n / 10) by omega, List.append_assoc]
      exact ⟨by omega, rfl⟩

/-! ### the form -/

def okAt (i : Nat) (c : UInt8) : Bool := if i = 4 ∨ i = 7 then c == 45 else isDig c

theorem form_len {s : List UInt8} (h : s.length ≠ 10) : form s = false := by
  unfold form
  have : (s.length == 10) = false := by rw [beq_eq_false_iff_ne]; exact h
  rw [this]
  rfl

theorem form_all {s : List UInt8} (h : s.length = 10) : form s = true ↔ ∀ i (hi : i < s.length), okAt i s[i] = true := by
  match s, h with
  | [s0, s1, s2, s3, s4, s5, s6, s7, s8, s9], _ =>
    have hf : form [s0, s1, s2, s3, s4, s5, s6, s7, s8, s9] = true ↔ isDig s0 = true ∧ isDig s1 = true ∧ isDig s2 = true ∧ isDig s3 = true ∧ s4 = 45 ∧ isDig s5 = true ∧ isDig s6 = true ∧ s7 = 45 ∧ isDig s8 = true ∧ isDig s9 = true := by
      unfold form
      simp [and_assoc]
      constructor
      · rintro ⟨h4, h7, h0, h1, h2, h3, h5, h6, h8, h9⟩
        exact ⟨h0, h1, h2, h3, h4, h5, h6, h7, h8, h9⟩
      · rintro ⟨h0, h1, h2, h3, h4, h5, h6, h7, h8, h9⟩
        exact ⟨h4, h7, h0, h1, h2, h3, h5, h6, h8, h9⟩
    rw [hf]
    constructor
    · rintro ⟨h0, h1, h2, h3, h4, h5, h6, h7, h8, h9⟩ i hi
      have : i = 0 ∨ i = 1 ∨ i = 2 ∨ i = 3 ∨ i = 4 ∨ i = 5 ∨ i = 6 ∨ i = 7 ∨ i = 8 ∨ i = 9 := by simp at hi; omega
      rcases this with h | h | h | h | h | h | h | h | h | h <;> subst h <;> first | assumption | exact beq_iff_eq.2 h4 | exact beq_iff_eq.2 h7
    · intro h
      exact ⟨h 0 (by simp), h 1 (by simp), h 2 (by simp), h 3 (by simp), beq_iff_eq.1 (h 4 (by simp)), h 5 (by simp), h 6 (by simp), beq_iff_eq.1 (h 7 (by simp)), h 8 (by simp), h 9 (by simp)⟩

theorem form_no {s : List UInt8} (h : s.length = 10) {i : Nat} (hi : i < s.length) (hn : okAt i s[i] = false) : form s = false := by
  have : ¬ form s = true := fun q => by
    have := (form_all h).1 q i hi
    rw [hn] at this
    exact absurd this (by decide)
  simpa using this

theorem num_take (l : List UInt8) {i : Nat} (h : i < l.length) : num (l.take (i + 1)) = 10 * num (l.take i) + (l[i].toNat - 48) := by
  rw [List.take_succ_eq_append_getElem h, num_snoc]

end Cv
end Go.Proofs.YtemcakegbeaeaaaDoor
