/-
  What the law CivilSays gives.
-/
import Derived.Test.YtlglkfnihjfnoaaDoorCvRef
import Derived.Test.YtlglkfnihjfnoaaDoorCvSome
namespace Go.Proofs.YtlglkfnihjfnoaaDoor
open Go.RowKit
set_option maxRecDepth 4000

set_option maxHeartbeats 2000000 in
theorem civilSays_walk (a0 a1 a2 a3 : Int) (_w0 : (Lit.int .i64 a0).wf = true) (_w1 : (Lit.int .i64 a1).wf = true) (_w2 : (Lit.int .i64 a2).wf = true) (_w3 : (Lit.int .i64 a3).wf = true) (w : World) (hL : Lens w) :
    Calls Tryd.prog 3 #[.int .i64 a0, .int .i64 a1, .int .i64 a2, .int .i64 a3] w fun e w' => e = .returned (.bool true) ∧ Below w.heap.size w w' := by
  have c1 := days_any a0 a1 a2 w hL
  have c2 := fun W => rDays_any a0 a1 a2 W
  have c3 := date_any a3 w hL
  have c4 := fun W => rDate_any a3 W
  have c5 := fun W => wday_any a3 W
  have c6 := fun W => rwday_any a3 W
  have c7 := fun W => week_any a3 W
  have c8 := fun W => rweek_any a3 W
  have c9 := fun W => ok_any a3 W
  have c10 := fun W => rok_any a3 W
  obtain ⟨p, q, h1⟩ : ∃ p q, daysV a0 a1 a2 = .tuple #[.int .i64 p, .int .i64 q] := ⟨_, _, rfl⟩
  obtain ⟨b0, b1, b2, b3, h2⟩ := date_two a3
  obtain ⟨u0, u1, h3⟩ := wday_some a3
  obtain ⟨x0, x1, x2, h4⟩ := week_some a3
  simp only [h1, h2, h3, h4] at c1 c2 c3 c4 c5 c6 c7 c8
  generalize (if Cv.dayOk a3 then (0 : Int) else 1) = z at *
  clear h1 h2 h3 h4 hL
  have hB := Below.refl w.heap.size w
  go_enter Tryd.func3, Tryd.ntmps3
  go_wp2_with fail
  refine c1.mono ?_
  rintro e w1 ⟨rfl, rfl⟩
  go_wp2_with fail
  refine (c2 _).mono ?_
  rintro e w1 ⟨rfl, rfl⟩
  go_wp2_with fail
  refine c3.mono ?_
  rintro e w1 ⟨rfl, rfl⟩
  go_wp2_with fail
  refine (c4 _).mono ?_
  rintro e w1 ⟨rfl, rfl⟩
  go_wp2_with fail
  refine (c5 _).mono ?_
  rintro e w1 ⟨rfl, rfl⟩
  go_wp2_with fail
  refine (c6 _).mono ?_
  rintro e w1 ⟨rfl, rfl⟩
  go_wp2_with fail
  refine (c7 _).mono ?_
  rintro e w1 ⟨rfl, rfl⟩
  go_wp2_with fail
  refine (c8 _).mono ?_
  rintro e w1 ⟨rfl, rfl⟩
  go_wp2_with fail
  refine (c9 _).mono ?_
  rintro e w1 ⟨rfl, rfl⟩
  go_wp2_with fail
  refine (c10 _).mono ?_
  rintro e w1 ⟨rfl, rfl⟩
  go_wp2_with fail
  go_ret
  exact ⟨rfl, hB⟩

end Go.Proofs.YtlglkfnihjfnoaaDoor
