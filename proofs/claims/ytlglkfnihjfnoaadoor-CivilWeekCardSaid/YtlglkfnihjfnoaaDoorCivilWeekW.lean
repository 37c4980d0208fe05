/-
  What the law CivilWeek gives.
-/
import Derived.Test.YtlglkfnihjfnoaaDoorCvSome
namespace Go.Proofs.YtlglkfnihjfnoaaDoor
open Go.RowKit
set_option maxRecDepth 4000

theorem four_day (y : Int) : (∃ k, daysV y 1 4 = .tuple #[.int .i64 k, .int .i64 0] ∧ weekV k = .tuple #[.int .i64 y, .int .i64 1, .int .i64 0]) ∨ daysV y 1 4 = .tuple #[.int .i64 0, .int .i64 1] := by
  rcases days_two y 1 4 with ⟨k, hk⟩ | hk
  · left
    obtain ⟨k1, k2⟩ := Cv.days_day hk
    have k3 := (Cv.days_zero hk).2.2.2
    exact ⟨k, daysV_is hk, weekV_ok k1 (by rw [← k3]; exact Cv.week_four y)⟩
  · exact .inr (daysV_is hk)

theorem week_one {n : Int} (h : Cv.dayOk n) (h2 : Cv.dayOk (n + 1)) : ∃ y k a b d, weekV n = .tuple #[.int .i64 y, .int .i64 k, .int .i64 0] ∧ weekV (n + 1) = .tuple #[.int .i64 a, .int .i64 b, .int .i64 0] ∧ wdayV n = .tuple #[.int .i64 d, .int .i64 0] ∧ 1 ≤ k ∧ k ≤ 53 ∧ 1 ≤ y ∧ y ≤ 9999 ∧
    ((d < 7 ∧ a = y ∧ b = k) ∨ (d = 7 ∧ a = y ∧ b = k + 1) ∨ (d = 7 ∧ a = y + 1 ∧ b = 1)) := by
  have h3 := Cv.week_next n
  have h4 := Cv.week_in n
  have h5 := Cv.weekday_in n
  have h6 := (Cv.dayOk_iff _).1 (Cv.thurs_in h)
  have h7 : (Cv.week n).1 = (Cv.date (Cv.thurs n)).1 := rfl
  rw [← h7] at h6
  refine ⟨(Cv.week n).1, (Cv.week n).2, (Cv.week (n + 1)).1, (Cv.week (n + 1)).2, Cv.weekday n, weekV_ok h rfl, weekV_ok h2 rfl, wdayV_ok h, h4.1, h4.2, h6.1, h6.2, ?_⟩
  by_cases h8 : Cv.weekday n < 7
  · left
    rw [h3.1 h8]
    exact ⟨h8, rfl, rfl⟩
  · have h9 : Cv.weekday n = 7 := by omega
    right
    rcases h3.2 h9 with e | e
    · left; rw [e]; exact ⟨h9, rfl, rfl⟩
    · right; rw [e]; exact ⟨h9, rfl, rfl⟩

set_option maxHeartbeats 4000000 in
theorem civilWeek_walk (a0 a1 : Int) (_w0 : (Lit.int .i64 a0).wf = true) (_w1 : (Lit.int .i64 a1).wf = true) (w : World) (hL : Lens w) :
    Calls Tryd.prog 7 #[.int .i64 a0, .int .i64 a1] w fun e w' => e = .returned (.bool true) ∧ Below w.heap.size w w' := by
  have c0 := fun W => week_any 0 W
  rw [weekV_ok day_0 week_0] at c0
  have c1 := days_any a1 1 4 w hL
  have hB := Below.refl w.heap.size w
  rcases four_day a1 with ⟨k, e1, e2⟩ | e1
  · rw [e1] at c1
    have c2 := fun W => week_any k W
    rw [e2] at c2
    clear e1 e2 hL
    by_cases h1 : a0 < -719162
    · go_enter Tryd.func7, Tryd.ntmps7
      go_wp2_with fail
      refine (c0 _).mono ?_
      rintro e w1 ⟨rfl, rfl⟩
      go_wp2_with fail
      refine c1.mono ?_
      rintro e w1 ⟨rfl, rfl⟩
      go_wp2_with fail
      refine (c2 _).mono ?_
      rintro e w1 ⟨rfl, rfl⟩
      go_wp2_with fail
      go_ret
      exact ⟨rfl, hB⟩
    by_cases h2 : 2932896 ≤ a0
    · go_enter Tryd.func7, Tryd.ntmps7
      go_wp2_with fail
      refine (c0 _).mono ?_
      rintro e w1 ⟨rfl, rfl⟩
      go_wp2_with fail
      refine c1.mono ?_
      rintro e w1 ⟨rfl, rfl⟩
      go_wp2_with fail
      refine (c2 _).mono ?_
      rintro e w1 ⟨rfl, rfl⟩
      go_wp2_with fail
      go_ret
      exact ⟨rfl, hB⟩
    · have k1 : Cv.dayOk a0 := by unfold Cv.dayOk; omega
      have k2 : Cv.dayOk (a0 + 1) := by unfold Cv.dayOk; omega
      obtain ⟨y, k, a, b, d, e1, e2, e3, b1, b2, b3, b4, hor⟩ := week_one k1 k2
      have c3 := fun W => week_any a0 W
      have c4 := fun W => week_any (a0 + 1) W
      have c5 := fun W => wday_any a0 W
      rw [e1] at c3
      rw [e2] at c4
      rw [e3] at c5
      clear k1 k2 e1 e2 e3
      rcases hor with ⟨h3, rfl, rfl⟩ | ⟨rfl, rfl, rfl⟩ | ⟨rfl, rfl, rfl⟩
      · go_enter Tryd.func7, Tryd.ntmps7
        go_wp2_with fail
        refine (c0 _).mono ?_
        rintro e w1 ⟨rfl, rfl⟩
        go_wp2_with fail
        refine c1.mono ?_
        rintro e w1 ⟨rfl, rfl⟩
        go_wp2_with fail
        refine (c2 _).mono ?_
        rintro e w1 ⟨rfl, rfl⟩
        go_wp2_with fail
        refine (c3 _).mono ?_
        rintro e w1 ⟨rfl, rfl⟩
        go_wp2_with fail
        refine (c4 _).mono ?_
        rintro e w1 ⟨rfl, rfl⟩
        go_wp2_with fail
        refine (c5 _).mono ?_
        rintro e w1 ⟨rfl, rfl⟩
        go_wp2_with fail
        go_ret
        exact ⟨rfl, hB⟩
      · go_enter Tryd.func7, Tryd.ntmps7
        go_wp2_with fail
        refine (c0 _).mono ?_
        rintro e w1 ⟨rfl, rfl⟩
        go_wp2_with fail
        refine c1.mono ?_
        rintro e w1 ⟨rfl, rfl⟩
        go_wp2_with fail
        refine (c2 _).mono ?_
        rintro e w1 ⟨rfl, rfl⟩
        go_wp2_with fail
        refine (c3 _).mono ?_
        rintro e w1 ⟨rfl, rfl⟩
        go_wp2_with fail
        refine (c4 _).mono ?_
        rintro e w1 ⟨rfl, rfl⟩
        go_wp2_with fail
        refine (c5 _).mono ?_
        rintro e w1 ⟨rfl, rfl⟩
        go_wp2_with fail
        go_ret
        exact ⟨rfl, hB⟩
      · go_enter Tryd.func7, Tryd.ntmps7
        go_wp2_with fail
        refine (c0 _).mono ?_
        rintro e w1 ⟨rfl, rfl⟩
        go_wp2_with fail
        refine c1.mono ?_
        rintro e w1 ⟨rfl, rfl⟩
        go_wp2_with fail
        refine (c2 _).mono ?_
        rintro e w1 ⟨rfl, rfl⟩
        go_wp2_with fail
        refine (c3 _).mono ?_
        rintro e w1 ⟨rfl, rfl⟩
        go_wp2_with fail
        refine (c4 _).mono ?_
        rintro e w1 ⟨rfl, rfl⟩
        go_wp2_with fail
        refine (c5 _).mono ?_
        rintro e w1 ⟨rfl, rfl⟩
        go_wp2_with fail
        go_ret
        exact ⟨rfl, hB⟩
  · rw [e1] at c1
    clear e1 hL
    by_cases h1 : a0 < -719162
    · go_enter Tryd.func7, Tryd.ntmps7
      go_wp2_with fail
      refine (c0 _).mono ?_
      rintro e w1 ⟨rfl, rfl⟩
      go_wp2_with fail
      refine c1.mono ?_
      rintro e w1 ⟨rfl, rfl⟩
      go_wp2_with fail
      go_ret
      exact ⟨rfl, hB⟩
    by_cases h2 : 2932896 ≤ a0
    · go_enter Tryd.func7, Tryd.ntmps7
      go_wp2_with fail
      refine (c0 _).mono ?_
      rintro e w1 ⟨rfl, rfl⟩
      go_wp2_with fail
      refine c1.mono ?_
      rintro e w1 ⟨rfl, rfl⟩
      go_wp2_with fail
      go_ret
      exact ⟨rfl, hB⟩
    · have k1 : Cv.dayOk a0 := by unfold Cv.dayOk; omega
      have k2 : Cv.dayOk (a0 + 1) := by unfold Cv.dayOk; omega
      obtain ⟨y, k, a, b, d, e1, e2, e3, b1, b2, b3, b4, hor⟩ := week_one k1 k2
      have c3 := fun W => week_any a0 W
      have c4 := fun W => week_any (a0 + 1) W
      have c5 := fun W => wday_any a0 W
      rw [e1] at c3
      rw [e2] at c4
      rw [e3] at c5
      clear k1 k2 e1 e2 e3
      rcases hor with ⟨h3, rfl, rfl⟩ | ⟨rfl, rfl, rfl⟩ | ⟨rfl, rfl, rfl⟩
      · go_enter Tryd.func7, Tryd.ntmps7
        go_wp2_with fail
        refine (c0 _).mono ?_
        rintro e w1 ⟨rfl, rfl⟩
        go_wp2_with fail
        refine c1.mono ?_
        rintro e w1 ⟨rfl, rfl⟩
        go_wp2_with fail
        refine (c3 _).mono ?_
        rintro e w1 ⟨rfl, rfl⟩
        go_wp2_with fail
        refine (c4 _).mono ?_
        rintro e w1 ⟨rfl, rfl⟩
        go_wp2_with fail
        refine (c5 _).mono ?_
        rintro e w1 ⟨rfl, rfl⟩
        go_wp2_with fail
        go_ret
        exact ⟨rfl, hB⟩
      · go_enter Tryd.func7, Tryd.ntmps7
        go_wp2_with fail
        refine (c0 _).mono ?_
        rintro e w1 ⟨rfl, rfl⟩
        go_wp2_with fail
        refine c1.mono ?_
        rintro e w1 ⟨rfl, rfl⟩
        go_wp2_with fail
        refine (c3 _).mono ?_
        rintro e w1 ⟨rfl, rfl⟩
        go_wp2_with fail
        refine (c4 _).mono ?_
        rintro e w1 ⟨rfl, rfl⟩
        go_wp2_with fail
        refine (c5 _).mono ?_
        rintro e w1 ⟨rfl, rfl⟩
        go_wp2_with fail
        go_ret
        exact ⟨rfl, hB⟩
      · go_enter Tryd.func7, Tryd.ntmps7
        go_wp2_with fail
        refine (c0 _).mono ?_
        rintro e w1 ⟨rfl, rfl⟩
        go_wp2_with fail
        refine c1.mono ?_
        rintro e w1 ⟨rfl, rfl⟩
        go_wp2_with fail
        refine (c3 _).mono ?_
        rintro e w1 ⟨rfl, rfl⟩
        go_wp2_with fail
        refine (c4 _).mono ?_
        rintro e w1 ⟨rfl, rfl⟩
        go_wp2_with fail
        refine (c5 _).mono ?_
        rintro e w1 ⟨rfl, rfl⟩
        go_wp2_with fail
        go_ret
        exact ⟨rfl, hB⟩

end Go.Proofs.YtlglkfnihjfnoaaDoor
