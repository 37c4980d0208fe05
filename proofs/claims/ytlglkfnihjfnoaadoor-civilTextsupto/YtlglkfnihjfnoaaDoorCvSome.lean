/-
  The answers of package civil, as values: what the statements on days and dates ask.
-/
import Derived.Test.YtlglkfnihjfnoaaDoorCvDay
namespace Go.Proofs.YtlglkfnihjfnoaaDoor
open Go.RowKit

theorem daysV_is {y m d k e : Int} (h : Cv.Days y m d = (k, e)) : daysV y m d = .tuple #[.int .i64 k, .int .i64 e] := by unfold daysV; rw [h]

theorem days_two (y m d : Int) : (∃ k, Cv.Days y m d = (k, 0)) ∨ Cv.Days y m d = (0, 1) := by
  rcases Cv.days_err y m d with h | h
  · exact .inl ⟨_, Prod.ext rfl h⟩
  · exact .inr h

theorem dateV_is {n y m d : Int} (h : Cv.dayOk n) (e : Cv.date n = (y, m, d)) : dateV n = .tuple #[.int .i64 y, .int .i64 m, .int .i64 d, .int .i64 0] := by rw [dateV_ok h, e]

theorem wday_some (n : Int) : ∃ p q, wdayV n = .tuple #[.int .i64 p, .int .i64 q] := by
  unfold wdayV; split <;> exact ⟨_, _, rfl⟩

theorem week_some (n : Int) : ∃ p q r, weekV n = .tuple #[.int .i64 p, .int .i64 q, .int .i64 r] := by
  unfold weekV; split <;> exact ⟨_, _, _, rfl⟩

theorem date_two (n : Int) : ∃ p q r s, dateV n = .tuple #[.int .i64 p, .int .i64 q, .int .i64 r, .int .i64 s] := ⟨_, _, _, _, rfl⟩

theorem wdayV_ok {n : Int} (h : Cv.dayOk n) : wdayV n = .tuple #[.int .i64 (Cv.weekday n), .int .i64 0] := if_pos h
theorem weekV_ok {n y k : Int} (h : Cv.dayOk n) (e : Cv.week n = (y, k)) : weekV n = .tuple #[.int .i64 y, .int .i64 k, .int .i64 0] := by unfold weekV; rw [if_pos h, e]

theorem leap_day : Cv.Days 2000 2 29 = (11016, 0) := by decide
theorem day_0 : Cv.dayOk 0 := by decide
theorem era_day : Cv.dayOk 146097 := by decide
theorem week_0 : Cv.week 0 = (1970, 1) := by decide
theorem wday_0 : Cv.weekday 0 = 4 := by decide
theorem date_era : Cv.date 146097 = (2370, 1, 1) := by decide

/-- Text's answer -/
def textV (n : Int) : Value := if Cv.dayOk n then .tuple #[.string ⟨(Cv.textOf n).toArray⟩, .int .i64 0] else .tuple #[.string ⟨#[]⟩, .int .i64 1]

theorem textV_ok {n : Int} (h : Cv.dayOk n) : ∃ y m d : Nat, Cv.date n = ((y : Int), (m : Int), (d : Int)) ∧ ∃ X Y Z : ByteArray, X = ⟨(Cv.dig 4 y).toArray⟩ ∧ Y = ⟨(Cv.dig 2 m).toArray⟩ ∧ Z = ⟨(Cv.dig 2 d).toArray⟩ ∧ X.size = 4 ∧ Y.size = 2 ∧ Z.size = 2 ∧ y < 10000 ∧ m < 100 ∧ d < 100 ∧
    textV n = .tuple #[.string (X ++ ⟨#[45]⟩ ++ Y ++ ⟨#[45]⟩ ++ Z), .int .i64 0] := by
  obtain ⟨y, m, d, hd, _, h1, h2, h3⟩ := Cv.date_nat h
  refine ⟨y, m, d, hd, _, _, _, rfl, rfl, rfl, Cv.dig_length _ _, Cv.dig_length _ _, Cv.dig_length _ _, h1, h2, h3, ?_⟩
  unfold textV Cv.textOf Cv.text
  rw [if_pos h, hd]
  dsimp only
  rw [Int.toNat_natCast, Int.toNat_natCast, Int.toNat_natCast]
  congr 2

end Go.Proofs.YtlglkfnihjfnoaaDoor
