/-
  What the law CivilBack gives.
-/
import Derived.Test.YtlglkfnihjfnoaaDoorCvSome
namespace Go.Proofs.YtlglkfnihjfnoaaDoor
open Go.RowKit
set_option maxRecDepth 4000

theorem back_one (n : Int) : (∃ a b c, Cv.dayOk n ∧ dateV n = .tuple #[.int .i64 a, .int .i64 b, .int .i64 c, .int .i64 0] ∧ daysV a b c = .tuple #[.int .i64 n, .int .i64 0]) ∨ (¬ Cv.dayOk n ∧ dateV n = .tuple #[.int .i64 0, .int .i64 0, .int .i64 0, .int .i64 1]) := by
  by_cases h : Cv.dayOk n
  · exact .inl ⟨_, _, _, h, dateV_ok h, daysV_is (Cv.day_days h)⟩
  · exact .inr ⟨h, dateV_no h⟩

set_option maxHeartbeats 2000000 in
theorem civilBack_walk (a0 a1 a2 a3 : Int) (_w0 : (Lit.int .i64 a0).wf = true) (_w1 : (Lit.int .i64 a1).wf = true) (_w2 : (Lit.int .i64 a2).wf = true) (_w3 : (Lit.int .i64 a3).wf = true) (w : World) (hL : Lens w) :
    Calls Tryd.prog 5 #[.int .i64 a0, .int .i64 a1, .int .i64 a2, .int .i64 a3] w fun e w' => e = .returned (.bool true) ∧ Below w.heap.size w w' := by
  have c0 := days_any 2000 2 29 w hL
  have c1 := days_any a0 a1 a2 w hL
  have c3 := date_any a3 w hL
  have c9 := fun W => ok_any a3 W
  rw [daysV_is leap_day] at c0
  have hB := Below.refl w.heap.size w
  rcases days_two a0 a1 a2 with ⟨k, hk⟩ | hk
  · rw [daysV_is hk] at c1
    obtain ⟨k1, k2⟩ := Cv.days_day hk
    have c2 := date_any k w hL
    rw [dateV_is k1 k2] at c2
    have c4 := fun W => ok_any k W
    simp only [if_pos k1] at c4
    rcases back_one a3 with ⟨a, b, c, h1, h2, h3⟩ | ⟨h1, h2⟩
    · rw [h2] at c3
      have c5 := days_any a b c w hL
      rw [h3] at c5
      clear h1 h2 h3 k1 k2 hk hL c9
      go_enter Tryd.func5, Tryd.ntmps5
      go_wp2_with fail
      refine c0.mono ?_
      rintro e w1 ⟨rfl, rfl⟩
      go_wp2_with fail
      refine c1.mono ?_
      rintro e w1 ⟨rfl, rfl⟩
      go_wp2_with fail
      refine c2.mono ?_
      rintro e w1 ⟨rfl, rfl⟩
      go_wp2_with fail
      refine (c4 _).mono ?_
      rintro e w1 ⟨rfl, rfl⟩
      go_wp2_with fail
      refine c3.mono ?_
      rintro e w1 ⟨rfl, rfl⟩
      go_wp2_with fail
      refine c5.mono ?_
      rintro e w1 ⟨rfl, rfl⟩
      go_wp2_with fail
      go_ret
      exact ⟨rfl, hB⟩
    · rw [h2] at c3
      simp only [if_neg h1] at c9
      clear h1 h2 k1 k2 hk hL
      go_enter Tryd.func5, Tryd.ntmps5
      go_wp2_with fail
      refine c0.mono ?_
      rintro e w1 ⟨rfl, rfl⟩
      go_wp2_with fail
      refine c1.mono ?_
      rintro e w1 ⟨rfl, rfl⟩
      go_wp2_with fail
      refine c2.mono ?_
      rintro e w1 ⟨rfl, rfl⟩
      go_wp2_with fail
      refine (c4 _).mono ?_
      rintro e w1 ⟨rfl, rfl⟩
      go_wp2_with fail
      refine c3.mono ?_
      rintro e w1 ⟨rfl, rfl⟩
      go_wp2_with fail
      refine (c9 _).mono ?_
      rintro e w1 ⟨rfl, rfl⟩
      go_wp2_with fail
      go_ret
      exact ⟨rfl, hB⟩
  · rw [daysV_is hk] at c1
    rcases back_one a3 with ⟨a, b, c, h1, h2, h3⟩ | ⟨h1, h2⟩
    · rw [h2] at c3
      have c5 := days_any a b c w hL
      rw [h3] at c5
      clear h1 h2 h3 hk hL c9
      go_enter Tryd.func5, Tryd.ntmps5
      go_wp2_with fail
      refine c0.mono ?_
      rintro e w1 ⟨rfl, rfl⟩
      go_wp2_with fail
      refine c1.mono ?_
      rintro e w1 ⟨rfl, rfl⟩
      go_wp2_with fail
      refine c3.mono ?_
      rintro e w1 ⟨rfl, rfl⟩
      go_wp2_with fail
      refine c5.mono ?_
      rintro e w1 ⟨rfl, rfl⟩
      go_wp2_with fail
      go_ret
      exact ⟨rfl, hB⟩
    · rw [h2] at c3
      simp only [if_neg h1] at c9
      clear h1 h2 hk hL
      go_enter Tryd.func5, Tryd.ntmps5
      go_wp2_with fail
      refine c0.mono ?_
      rintro e w1 ⟨rfl, rfl⟩
      go_wp2_with fail
      refine c1.mono ?_
      rintro e w1 ⟨rfl, rfl⟩
      go_wp2_with fail
      refine c3.mono ?_
      rintro e w1 ⟨rfl, rfl⟩
      go_wp2_with fail
      refine (c9 _).mono ?_
      rintro e w1 ⟨rfl, rfl⟩
      go_wp2_with fail
      go_ret
      exact ⟨rfl, hB⟩

end Go.Proofs.YtlglkfnihjfnoaaDoor
