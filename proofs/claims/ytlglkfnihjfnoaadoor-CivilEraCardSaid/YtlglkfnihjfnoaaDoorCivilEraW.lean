/-
  What the law CivilEra gives.
-/
import Derived.Test.YtlglkfnihjfnoaaDoorCvSome
namespace Go.Proofs.YtlglkfnihjfnoaaDoor
open Go.RowKit
set_option maxRecDepth 4000

set_option maxHeartbeats 2000000 in
theorem civilEra_walk (a0 : Int) (_w0 : (Lit.int .i64 a0).wf = true) (w : World) (hL : Lens w) :
    Calls Tryd.prog 8 #[.int .i64 a0] w fun e w' => e = .returned (.bool true) ∧ Below w.heap.size w w' := by
  have c0 := date_any 146097 w hL
  rw [dateV_is era_day date_era] at c0
  have hB := Below.refl w.heap.size w
  by_cases h1 : a0 < -719162
  · clear hL
    go_enter Tryd.func8, Tryd.ntmps8
    go_wp2_with fail
    refine c0.mono ?_
    rintro e w1 ⟨rfl, rfl⟩
    go_wp2_with fail
    go_ret
    exact ⟨rfl, hB⟩
  by_cases h2 : 2786799 < a0
  · clear hL
    go_enter Tryd.func8, Tryd.ntmps8
    go_wp2_with fail
    refine c0.mono ?_
    rintro e w1 ⟨rfl, rfl⟩
    go_wp2_with fail
    go_ret
    exact ⟨rfl, hB⟩
  · have k1 : Cv.dayOk a0 := by unfold Cv.dayOk; omega
    have k2 : Cv.dayOk (a0 + 146097) := by unfold Cv.dayOk; omega
    have c1 := date_any a0 w hL
    have c2 := date_any (a0 + 146097) w hL
    have c3 := fun W => wday_any a0 W
    have c4 := fun W => wday_any (a0 + 146097) W
    have hy := (Cv.dayOk_iff a0).1 k1
    rw [dateV_ok k1] at c1
    rw [dateV_is k2 (Cv.era_on a0).1] at c2
    rw [wdayV_ok k1] at c3
    rw [wdayV_ok k2, (Cv.era_on a0).2] at c4
    generalize Cv.weekday a0 = v at *
    generalize (Cv.date a0).2.1 = m at *
    generalize (Cv.date a0).2.2 = d at *
    generalize (Cv.date a0).1 = y at *
    clear k1 k2 hL
    go_enter Tryd.func8, Tryd.ntmps8
    go_wp2_with fail
    refine c0.mono ?_
    rintro e w1 ⟨rfl, rfl⟩
    go_wp2_with fail
    refine c1.mono ?_
    rintro e w1 ⟨rfl, rfl⟩
    go_wp2_with fail
    refine c2.mono ?_
    rintro e w1 ⟨rfl, rfl⟩
    go_wp2_with fail
    refine (c3 _).mono ?_
    rintro e w1 ⟨rfl, rfl⟩
    go_wp2_with fail
    refine (c4 _).mono ?_
    rintro e w1 ⟨rfl, rfl⟩
    go_wp2_with fail
    go_ret
    exact ⟨rfl, hB⟩

end Go.Proofs.YtlglkfnihjfnoaaDoor
