/-
  What isLeap, length, firstOf and yearOf of package civil answer.
-/
import Derived.Test.YtemcakegbeaeaaaDoorCvProg
import Derived.Test.YtemcakegbeaeaaaDoorBase
import Derived.Lib.LaidTab
import Derived.WalkKit
namespace Go.Proofs.YtemcakegbeaeaaaDoor
open Go.RowKit
set_option maxRecDepth 4000

/-- the months' lengths, as the program's own table has them -/
def lensL : List Int := [31, 28, 31, 30, 31, 30, 31, 31, 30, 31, 30, 31]
def Lens (w : World) : Prop := Lib.TabIs Tryd.prog w "lumberroom/civil.lengths" .i64 lensL
theorem Lens.cell {w : World} (h : Lens w) (i : Nat) (hi : i < 12) : w.cell? ⟨0, i, none⟩ = some (.int .i64 (lensL.getD i 0)) := Lib.TabIs.cell h (by kernel_rfl) i hi

theorem leap_any (y : Nat) (w : World) (hy : y < 1000000) :
    Calls Tryd.prog 32 #[.int .i64 y] w fun e w' => e = .returned (.bool (Cv.leap y)) ∧ w' = w := by
  have hl : Cv.leap (y : Int) = (decide (y % 4 = 0) && (decide (y % 100 ≠ 0) || decide (y % 400 = 0))) := by
    have : ∀ a b : Bool, (a = true ↔ b = true) → a = b := by decide
    refine this _ _ ?_
    rw [Cv.leap_iff]
    simp
    omega
  rw [hl]
  by_cases h4 : y % 4 = 0
  · by_cases h100 : y % 100 = 0
    · by_cases h400 : y % 400 = 0
      · go_enter Tryd.func32, Tryd.ntmps32
        go_wp2_with fail
        go_ret
        simp [h4, h100, h400]
        omega
      · go_enter Tryd.func32, Tryd.ntmps32
        go_wp2_with fail
        go_ret
        simp [h4, h100, h400]
        omega
    · go_enter Tryd.func32, Tryd.ntmps32
      go_wp2_with fail
      go_ret
      simp [h4, h100]
  · go_enter Tryd.func32, Tryd.ntmps32
    go_wp2_with fail
    go_ret
    simp [h4]

theorem dim_two (y : Int) : Cv.dim y 2 = (if Cv.leap y then 29 else 28) := by unfold Cv.dim; simp
theorem dim_lens (y : Int) (m : Nat) (h1 : 1 ≤ m) (h2 : m ≤ 12) (h : ¬ (m = 2 ∧ Cv.leap y = true)) : lensL.getD (m - 1) 0 = Cv.dim y m := by
  have : m = 1 ∨ m = 2 ∨ m = 3 ∨ m = 4 ∨ m = 5 ∨ m = 6 ∨ m = 7 ∨ m = 8 ∨ m = 9 ∨ m = 10 ∨ m = 11 ∨ m = 12 := by omega
  rcases this with h | h | h | h | h | h | h | h | h | h | h | h <;> subst h <;> try rfl
  have hl : Cv.leap y = false := by simpa using h
  show (28 : Int) = Cv.dim y 2
  rw [dim_two, hl]
  rfl

theorem length_any (y m : Nat) (w : World) (hy : y < 1000000) (h1 : 1 ≤ m) (h2 : m ≤ 12) (hL : Lens w) :
    Calls Tryd.prog 28 #[.int .i64 y, .int .i64 m] w fun e w' => e = .returned (.int .i64 (Cv.dim y m)) ∧ w' = w := by
  have hc := hL.cell (m - 1) (by omega)
  have hi : ((m : Int) - 1) = ((m - 1 : Nat) : Int) := by omega
  by_cases hm : m = 2
  · subst hm
    replace hc : w.cell? ⟨0, 1, none⟩ = some (.int .i64 28) := hc
    have hlp := fun W => leap_any y W hy
    rw [show ((2 : Nat) : Int) = 2 from rfl, dim_two]
    generalize Cv.leap (y : Int) = b at *
    cases b
    · go_enter Tryd.func28, Tryd.ntmps28
      go_wp2_with fail
      refine (hlp _).mono ?_
      rintro e w1 ⟨rfl, rfl⟩
      go_wp2_with fail
      go_ret
      exact ⟨rfl, rfl⟩
    · go_enter Tryd.func28, Tryd.ntmps28
      go_wp2_with fail
      refine (hlp _).mono ?_
      rintro e w1 ⟨rfl, rfl⟩
      go_wp2_with fail
      go_ret
      exact ⟨rfl, rfl⟩
  · have hd := dim_lens y m h1 h2 (fun q => hm q.1)
    rw [hd] at hc
    clear hd
    generalize Cv.dim (y : Int) m = v at *
    go_enter Tryd.func28, Tryd.ntmps28
    go_wp2_with fail
    go_ret
    exact ⟨rfl, rfl⟩

theorem firstOf_any (y : Nat) (w : World) (h1 : 1 ≤ y) (hy : y < 1000000) :
    Calls Tryd.prog 27 #[.int .i64 y] w fun e w' => e = .returned (.int .i64 (Cv.year0 y)) ∧ w' = w := by
  obtain ⟨k, rfl⟩ : ∃ k, y = k + 1 := ⟨y - 1, by omega⟩
  have hk : ((k + 1 : Nat) : Int) - 1 = (k : Int) := by omega
  have hq : Cv.year0 ((k + 1 : Nat) : Int) = -719162 + k * 365 + k / 4 - k / 100 + k / 400 := by
    unfold Cv.year0; rw [hk]; omega
  rw [hq]
  clear hq
  go_enter Tryd.func27, Tryd.ntmps27
  go_wp2_with fail
  go_ret
  refine ⟨ret_int ?_, rfl⟩
  go_num

theorem yearOf_any (k : Nat) (w : World) (hk : k ≤ 3652058) :
    Calls Tryd.prog 26 #[.int .i64 ((k : Int) - 719162)] w fun e w' => e = .returned (.int .i64 (Cv.date ((k : Int) - 719162)).1) ∧ w' = w := by
  rw [Cv.year_of]
  go_enter Tryd.func26, Tryd.ntmps26
  go_wp2_with fail
  all_goals
    go_ret
    refine ⟨ret_int ?_, rfl⟩
    unfold Cv.yearP
    omega

end Go.Proofs.YtemcakegbeaeaaaDoor
