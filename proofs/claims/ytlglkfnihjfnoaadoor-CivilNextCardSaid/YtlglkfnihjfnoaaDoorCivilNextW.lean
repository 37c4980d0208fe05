/-
  What the law CivilNext gives.
-/
import Derived.Test.YtlglkfnihjfnoaaDoorCvSome
namespace Go.Proofs.YtlglkfnihjfnoaaDoor
open Go.RowKit
set_option maxRecDepth 4000

theorem next_day {n : Int} (h : Cv.dayOk n) (h2 : Cv.dayOk (n + 1)) : ∃ y m d a b c k e, dateV n = .tuple #[.int .i64 y, .int .i64 m, .int .i64 d, .int .i64 0] ∧ dateV (n + 1) = .tuple #[.int .i64 a, .int .i64 b, .int .i64 c, .int .i64 0] ∧ daysV y m (d + 1) = .tuple #[.int .i64 k, .int .i64 e] ∧ (1 ≤ y ∧ y ≤ 9999 ∧ 1 ≤ m ∧ m ≤ 12 ∧ 1 ≤ d ∧ d ≤ 31) ∧
    ((e = 0 ∧ a = y ∧ b = m ∧ c = d + 1) ∨ (e = 1 ∧ c = 1 ∧ ((a = y ∧ b = m + 1 ∧ m ≠ 12) ∨ (a = y + 1 ∧ b = 1 ∧ m = 12)))) := by
  obtain ⟨y, m, d, hd⟩ : ∃ y m d, Cv.date n = (y, m, d) := ⟨_, _, _, rfl⟩
  have hy := (Cv.dayOk_iff n).1 h
  rw [hd] at hy
  dsimp only at hy
  have hO := (Cv.date_iff.1 hd).1
  have hb : 1 ≤ y ∧ y ≤ 9999 ∧ 1 ≤ m ∧ m ≤ 12 ∧ 1 ≤ d ∧ d ≤ 31 := ⟨hy.1, hy.2, hO.m1, hO.m12, hO.d1, Int.le_trans hO.dm (Cv.dim_le y m).2⟩
  rcases Cv.date_next hd with ⟨k, h3⟩ | ⟨k, ⟨h3, h4⟩ | ⟨h3, h4⟩⟩
  · have h5 := Cv.day_days h2
    rw [h3] at h5
    exact ⟨y, m, d, _, _, _, _, _, dateV_is h hd, dateV_is h2 h3, daysV_is h5, hb, .inl ⟨rfl, rfl, rfl, rfl⟩⟩
  · exact ⟨y, m, d, _, _, _, _, _, dateV_is h hd, dateV_is h2 h4, daysV_is (Cv.days_no fun q => k q.1), hb, .inr ⟨rfl, rfl, .inl ⟨rfl, rfl, by omega⟩⟩⟩
  · exact ⟨y, m, d, _, _, _, _, _, dateV_is h hd, dateV_is h2 h4, daysV_is (Cv.days_no fun q => k q.1), hb, .inr ⟨rfl, rfl, .inr ⟨rfl, rfl, h3⟩⟩⟩

set_option maxHeartbeats 2000000 in
theorem civilNext_walk (a0 : Int) (_w0 : (Lit.int .i64 a0).wf = true) (w : World) (hL : Lens w) :
    Calls Tryd.prog 6 #[.int .i64 a0] w fun e w' => e = .returned (.bool true) ∧ Below w.heap.size w w' := by
  have c0 := fun W => wday_any 0 W
  rw [wdayV_ok day_0, wday_0] at c0
  have hB := Below.refl w.heap.size w
  by_cases h1 : a0 < -719162
  · clear hL
    go_enter Tryd.func6, Tryd.ntmps6
    go_wp2_with fail
    refine (c0 _).mono ?_
    rintro e w1 ⟨rfl, rfl⟩
    go_wp2_with fail
    go_ret
    exact ⟨rfl, hB⟩
  by_cases h2 : 2932896 ≤ a0
  · clear hL
    go_enter Tryd.func6, Tryd.ntmps6
    go_wp2_with fail
    refine (c0 _).mono ?_
    rintro e w1 ⟨rfl, rfl⟩
    go_wp2_with fail
    go_ret
    exact ⟨rfl, hB⟩
  · have k1 : Cv.dayOk a0 := by unfold Cv.dayOk; omega
    have k2 : Cv.dayOk (a0 + 1) := by unfold Cv.dayOk; omega
    obtain ⟨y, m, d, a, b, c, k, e, e1, e2, e3, ⟨b1, b2, b3, b4, b5, b6⟩, hor⟩ := next_day k1 k2
    have c1 := date_any a0 w hL
    have c2 := date_any (a0 + 1) w hL
    have c3 := fun W => wday_any a0 W
    have c4 := fun W => wday_any (a0 + 1) W
    have c5 := days_any y m (d + 1) w hL
    rw [wdayV_ok k1] at c3
    rw [wdayV_ok k2, Cv.weekday_next] at c4
    rw [e1] at c1
    rw [e2] at c2
    rw [e3] at c5
    have hw := Cv.weekday_in a0
    generalize Cv.weekday a0 = v at *
    clear k1 k2 e1 e2 e3 hL
    rcases hor with ⟨rfl, rfl, rfl, rfl⟩ | ⟨rfl, rfl, ⟨rfl, rfl, h12⟩ | ⟨rfl, rfl, rfl⟩⟩
    · go_enter Tryd.func6, Tryd.ntmps6
      go_wp2_with fail
      refine (c0 _).mono ?_
      rintro e w1 ⟨rfl, rfl⟩
      go_wp2_with fail
      refine c1.mono ?_
      rintro e w1 ⟨rfl, rfl⟩
      go_wp2_with fail
      refine c2.mono ?_
      rintro e w1 ⟨rfl, rfl⟩
      go_wp2_with fail
      refine (c3 _).mono ?_
      rintro e w1 ⟨rfl, rfl⟩
      go_wp2_with fail
      refine (c4 _).mono ?_
      rintro e w1 ⟨rfl, rfl⟩
      go_wp2_with fail
      refine c5.mono ?_
      rintro e w1 ⟨rfl, rfl⟩
      go_wp2_with fail
      go_ret
      exact ⟨rfl, hB⟩
    · go_enter Tryd.func6, Tryd.ntmps6
      go_wp2_with fail
      refine (c0 _).mono ?_
      rintro e w1 ⟨rfl, rfl⟩
      go_wp2_with fail
      refine c1.mono ?_
      rintro e w1 ⟨rfl, rfl⟩
      go_wp2_with fail
      refine c2.mono ?_
      rintro e w1 ⟨rfl, rfl⟩
      go_wp2_with fail
      refine (c3 _).mono ?_
      rintro e w1 ⟨rfl, rfl⟩
      go_wp2_with fail
      refine (c4 _).mono ?_
      rintro e w1 ⟨rfl, rfl⟩
      go_wp2_with fail
      refine c5.mono ?_
      rintro e w1 ⟨rfl, rfl⟩
      go_wp2_with fail
      go_ret
      exact ⟨rfl, hB⟩
    · go_enter Tryd.func6, Tryd.ntmps6
      go_wp2_with fail
      refine (c0 _).mono ?_
      rintro e w1 ⟨rfl, rfl⟩
      go_wp2_with fail
      refine c1.mono ?_
      rintro e w1 ⟨rfl, rfl⟩
      go_wp2_with fail
      refine c2.mono ?_
      rintro e w1 ⟨rfl, rfl⟩
      go_wp2_with fail
      refine (c3 _).mono ?_
      rintro e w1 ⟨rfl, rfl⟩
      go_wp2_with fail
      refine (c4 _).mono ?_
      rintro e w1 ⟨rfl, rfl⟩
      go_wp2_with fail
      refine c5.mono ?_
      rintro e w1 ⟨rfl, rfl⟩
      go_wp2_with fail
      go_ret
      exact ⟨rfl, hB⟩

end Go.Proofs.YtlglkfnihjfnoaaDoor
