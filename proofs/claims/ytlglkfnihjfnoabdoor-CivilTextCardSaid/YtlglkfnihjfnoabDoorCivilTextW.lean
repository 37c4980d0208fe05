/-
  What the law CivilText gives.
-/
import Derived.Test.YtlglkfnihjfnoabDoorCvIn
import Derived.Test.YtlglkfnihjfnoabDoorCvReads
namespace Go.Proofs.YtlglkfnihjfnoabDoor
open Go.RowKit
set_option maxRecDepth 4000

/-- 1970-01-01 -/
def zeroB : ByteArray := ⟨#[49, 57, 55, 48, 45, 48, 49, 45, 48, 49]⟩
theorem text_0 : textV 0 = .tuple #[.string zeroB, .int .i64 0] := by
  unfold textV zeroB
  rw [if_pos day_0]
  have : Cv.textOf 0 = [49, 57, 55, 48, 45, 48, 49, 45, 48, 49] := by decide
  rw [this]

theorem text_two (n : Int) : ∃ X e, textV n = .tuple #[.string X, .int .i64 e] := by
  unfold textV; split <;> exact ⟨_, _, rfl⟩

theorem text_ok {n : Int} (h : Cv.dayOk n) : ∃ X : ByteArray, X.data.toList = Cv.textOf n ∧ textV n = .tuple #[.string X, .int .i64 0] ∧ readV X.data.toList = .tuple #[.int .i64 n, .int .i64 0] := by
  refine ⟨⟨(Cv.textOf n).toArray⟩, rfl, if_pos h, ?_⟩
  unfold readV
  show Value.tuple #[.int .i64 (Cv.read (Cv.textOf n)).1, .int .i64 (Cv.read (Cv.textOf n)).2] = _
  rw [Cv.read_text h]

theorem text_no {n : Int} (h : ¬ Cv.dayOk n) : textV n = .tuple #[.string ⟨#[]⟩, .int .i64 1] := if_neg h

/-- what is read of a text: a day whose text it is, or an error -/
theorem read_two (s : ByteArray) : (∃ m, readV s.data.toList = .tuple #[.int .i64 m, .int .i64 0] ∧ textV m = .tuple #[.string s, .int .i64 0]) ∨ (∃ g, readV s.data.toList = .tuple #[.int .i64 0, .int .i64 g] ∧ g ≠ 0) := by
  by_cases h : (Cv.read s.data.toList).2 = 0
  · left
    refine ⟨(Cv.read s.data.toList).1, ?_, ?_⟩
    · unfold readV; rw [h]
    · obtain ⟨h1, h2⟩ := Cv.text_read (s := s.data.toList) (k := (Cv.read s.data.toList).1) (Prod.ext rfl h)
      unfold textV
      rw [if_pos h1, h2]
  · right
    exact ⟨(Cv.read s.data.toList).2, by unfold readV; rw [Cv.read_err h], h⟩

set_option maxHeartbeats 8000000 in
theorem civilText_walk (a0 a1 : Int) (a2 : ByteArray) (_w0 : (Lit.int .i64 a0).wf = true) (_w1 : (Lit.int .i64 a1).wf = true) (_z2 : a2.size ≤ 140737488351232) (w : World) (hP : Pow w) (hL : Lens w) :
    Calls Tryd.prog 3 #[.int .i64 a0, .int .i64 a1, .string a2] w fun e w' => e = .returned (.bool true) ∧ Below w.heap.size w w' := by
  have hT := fun n V (hb : Below w.heap.size w V) => text_any n V (hL.stays hb (Nat.le_refl _)) (hP.stays hb (Nat.le_refl _))
  have hR := fun s V (hb : Below w.heap.size w V) => read_any s V (fun W hW => hL.stays (hb.trans (hW.mono hb.size)) (Nat.le_refl _))
  have t1 := hT a0
  have t2 := hT a1
  have t3 := hT 0
  have r2 := hR a2
  rw [text_0] at t3
  unfold zeroB at t3
  have hB0 := Below.refl w.heap.size w
  by_cases h1 : Cv.dayOk a0
  · obtain ⟨X, hX, e1, e2⟩ := text_ok h1
    have r1 := hR X
    rw [e1] at t1
    rw [e2] at r1
    clear e1 e2
    by_cases h2 : Cv.dayOk a1
    · obtain ⟨Y, hY, e1, e2⟩ := text_ok h2
      rw [e1] at t2
      clear e1 e2
      have hl := Cv.textOf_less h1 h2
      rw [← hX, ← hY, ← Lib.toList_data X, ← Lib.toList_data Y] at hl
      clear h1 h2 hX hY
      by_cases hlt : a0 < a1
      · rw [decide_eq_true hlt] at hl
        rcases read_two a2 with ⟨m, e3, e4⟩ | ⟨g, e3, e4⟩
        · have t4 := hT m
          rw [e3] at r2
          rw [e4] at t4
          clear hT hR e3 e4 hL hP
          go_enter Tryd.func3, Tryd.ntmps3
          go_wp2_with fail
          refine (t1 _ hB0).mono ?_
          rintro e w1 ⟨rfl, hb1⟩
          have hB1 := hB0.trans (hb1.mono hB0.size)
          go_wp2_with fail
          refine (t2 _ hB1).mono ?_
          rintro e w2 ⟨rfl, hb2⟩
          have hB2 := hB1.trans (hb2.mono hB1.size)
          go_wp2_with fail
          refine (t3 _ hB2).mono ?_
          rintro e w3 ⟨rfl, hb3⟩
          have hB3 := hB2.trans (hb3.mono hB2.size)
          go_wp2_with fail
          refine (r1 _ hB3).mono ?_
          rintro e w4 ⟨rfl, hb4⟩
          have hB4 := hB3.trans (hb4.mono hB3.size)
          go_wp2_with fail
          refine (r2 _ hB4).mono ?_
          rintro e w5 ⟨rfl, hb5⟩
          have hB5 := hB4.trans (hb5.mono hB4.size)
          go_wp2_with fail
          refine (t4 _ hB5).mono ?_
          rintro e w6 ⟨rfl, hb6⟩
          have hB6 := hB5.trans (hb6.mono hB5.size)
          go_wp2_with fail
          go_ret
          exact ⟨rfl, hB6⟩
        · rw [e3] at r2
          clear hT hR e3 hL hP
          go_enter Tryd.func3, Tryd.ntmps3
          go_wp2_with fail
          refine (t1 _ hB0).mono ?_
          rintro e w1 ⟨rfl, hb1⟩
          have hB1 := hB0.trans (hb1.mono hB0.size)
          go_wp2_with fail
          refine (t2 _ hB1).mono ?_
          rintro e w2 ⟨rfl, hb2⟩
          have hB2 := hB1.trans (hb2.mono hB1.size)
          go_wp2_with fail
          refine (t3 _ hB2).mono ?_
          rintro e w3 ⟨rfl, hb3⟩
          have hB3 := hB2.trans (hb3.mono hB2.size)
          go_wp2_with fail
          refine (r1 _ hB3).mono ?_
          rintro e w4 ⟨rfl, hb4⟩
          have hB4 := hB3.trans (hb4.mono hB3.size)
          go_wp2_with fail
          refine (r2 _ hB4).mono ?_
          rintro e w5 ⟨rfl, hb5⟩
          have hB5 := hB4.trans (hb5.mono hB4.size)
          go_wp2_with fail
          go_ret
          exact ⟨rfl, hB5⟩
      · rw [decide_eq_false hlt] at hl
        rcases read_two a2 with ⟨m, e3, e4⟩ | ⟨g, e3, e4⟩
        · have t4 := hT m
          rw [e3] at r2
          rw [e4] at t4
          clear hT hR e3 e4 hL hP
          go_enter Tryd.func3, Tryd.ntmps3
          go_wp2_with fail
          refine (t1 _ hB0).mono ?_
          rintro e w1 ⟨rfl, hb1⟩
          have hB1 := hB0.trans (hb1.mono hB0.size)
          go_wp2_with fail
          refine (t2 _ hB1).mono ?_
          rintro e w2 ⟨rfl, hb2⟩
          have hB2 := hB1.trans (hb2.mono hB1.size)
          go_wp2_with fail
          refine (t3 _ hB2).mono ?_
          rintro e w3 ⟨rfl, hb3⟩
          have hB3 := hB2.trans (hb3.mono hB2.size)
          go_wp2_with fail
          refine (r1 _ hB3).mono ?_
          rintro e w4 ⟨rfl, hb4⟩
          have hB4 := hB3.trans (hb4.mono hB3.size)
          go_wp2_with fail
          refine (r2 _ hB4).mono ?_
          rintro e w5 ⟨rfl, hb5⟩
          have hB5 := hB4.trans (hb5.mono hB4.size)
          go_wp2_with fail
          refine (t4 _ hB5).mono ?_
          rintro e w6 ⟨rfl, hb6⟩
          have hB6 := hB5.trans (hb6.mono hB5.size)
          go_wp2_with fail
          go_ret
          exact ⟨rfl, hB6⟩
        · rw [e3] at r2
          clear hT hR e3 hL hP
          go_enter Tryd.func3, Tryd.ntmps3
          go_wp2_with fail
          refine (t1 _ hB0).mono ?_
          rintro e w1 ⟨rfl, hb1⟩
          have hB1 := hB0.trans (hb1.mono hB0.size)
          go_wp2_with fail
          refine (t2 _ hB1).mono ?_
          rintro e w2 ⟨rfl, hb2⟩
          have hB2 := hB1.trans (hb2.mono hB1.size)
          go_wp2_with fail
          refine (t3 _ hB2).mono ?_
          rintro e w3 ⟨rfl, hb3⟩
          have hB3 := hB2.trans (hb3.mono hB2.size)
          go_wp2_with fail
          refine (r1 _ hB3).mono ?_
          rintro e w4 ⟨rfl, hb4⟩
          have hB4 := hB3.trans (hb4.mono hB3.size)
          go_wp2_with fail
          refine (r2 _ hB4).mono ?_
          rintro e w5 ⟨rfl, hb5⟩
          have hB5 := hB4.trans (hb5.mono hB4.size)
          go_wp2_with fail
          go_ret
          exact ⟨rfl, hB5⟩
    · rw [text_no h2] at t2
      clear h1 h2 hX
      rcases read_two a2 with ⟨m, e3, e4⟩ | ⟨g, e3, e4⟩
      · have t4 := hT m
        rw [e3] at r2
        rw [e4] at t4
        clear hT hR e3 e4 hL hP
        go_enter Tryd.func3, Tryd.ntmps3
        go_wp2_with fail
        refine (t1 _ hB0).mono ?_
        rintro e w1 ⟨rfl, hb1⟩
        have hB1 := hB0.trans (hb1.mono hB0.size)
        go_wp2_with fail
        refine (t2 _ hB1).mono ?_
        rintro e w2 ⟨rfl, hb2⟩
        have hB2 := hB1.trans (hb2.mono hB1.size)
        go_wp2_with fail
        refine (t3 _ hB2).mono ?_
        rintro e w3 ⟨rfl, hb3⟩
        have hB3 := hB2.trans (hb3.mono hB2.size)
        go_wp2_with fail
        refine (r1 _ hB3).mono ?_
        rintro e w4 ⟨rfl, hb4⟩
        have hB4 := hB3.trans (hb4.mono hB3.size)
        go_wp2_with fail
        refine (r2 _ hB4).mono ?_
        rintro e w5 ⟨rfl, hb5⟩
        have hB5 := hB4.trans (hb5.mono hB4.size)
        go_wp2_with fail
        refine (t4 _ hB5).mono ?_
        rintro e w6 ⟨rfl, hb6⟩
        have hB6 := hB5.trans (hb6.mono hB5.size)
        go_wp2_with fail
        go_ret
        exact ⟨rfl, hB6⟩
      · rw [e3] at r2
        clear hT hR e3 hL hP
        go_enter Tryd.func3, Tryd.ntmps3
        go_wp2_with fail
        refine (t1 _ hB0).mono ?_
        rintro e w1 ⟨rfl, hb1⟩
        have hB1 := hB0.trans (hb1.mono hB0.size)
        go_wp2_with fail
        refine (t2 _ hB1).mono ?_
        rintro e w2 ⟨rfl, hb2⟩
        have hB2 := hB1.trans (hb2.mono hB1.size)
        go_wp2_with fail
        refine (t3 _ hB2).mono ?_
        rintro e w3 ⟨rfl, hb3⟩
        have hB3 := hB2.trans (hb3.mono hB2.size)
        go_wp2_with fail
        refine (r1 _ hB3).mono ?_
        rintro e w4 ⟨rfl, hb4⟩
        have hB4 := hB3.trans (hb4.mono hB3.size)
        go_wp2_with fail
        refine (r2 _ hB4).mono ?_
        rintro e w5 ⟨rfl, hb5⟩
        have hB5 := hB4.trans (hb5.mono hB4.size)
        go_wp2_with fail
        go_ret
        exact ⟨rfl, hB5⟩
  · rw [text_no h1] at t1
    obtain ⟨Y, e, e1⟩ := text_two a1
    rw [e1] at t2
    have r1 := hR ⟨#[]⟩
    rw [readV_no (by decide)] at r1
    clear h1 e1
    rcases read_two a2 with ⟨m, e3, e4⟩ | ⟨g, e3, e4⟩
    · have t4 := hT m
      rw [e3] at r2
      rw [e4] at t4
      clear hT hR e3 e4 hL hP
      go_enter Tryd.func3, Tryd.ntmps3
      go_wp2_with fail
      refine (t1 _ hB0).mono ?_
      rintro e w1 ⟨rfl, hb1⟩
      have hB1 := hB0.trans (hb1.mono hB0.size)
      go_wp2_with fail
      refine (t2 _ hB1).mono ?_
      rintro e w2 ⟨rfl, hb2⟩
      have hB2 := hB1.trans (hb2.mono hB1.size)
      go_wp2_with fail
      refine (t3 _ hB2).mono ?_
      rintro e w3 ⟨rfl, hb3⟩
      have hB3 := hB2.trans (hb3.mono hB2.size)
      go_wp2_with fail
      refine (r1 _ hB3).mono ?_
      rintro e w4 ⟨rfl, hb4⟩
      have hB4 := hB3.trans (hb4.mono hB3.size)
      go_wp2_with fail
      refine (r2 _ hB4).mono ?_
      rintro e w5 ⟨rfl, hb5⟩
      have hB5 := hB4.trans (hb5.mono hB4.size)
      go_wp2_with fail
      refine (t4 _ hB5).mono ?_
      rintro e w6 ⟨rfl, hb6⟩
      have hB6 := hB5.trans (hb6.mono hB5.size)
      go_wp2_with fail
      go_ret
      exact ⟨rfl, hB6⟩
    · rw [e3] at r2
      clear hT hR e3 hL hP
      go_enter Tryd.func3, Tryd.ntmps3
      go_wp2_with fail
      refine (t1 _ hB0).mono ?_
      rintro e w1 ⟨rfl, hb1⟩
      have hB1 := hB0.trans (hb1.mono hB0.size)
      go_wp2_with fail
      refine (t2 _ hB1).mono ?_
      rintro e w2 ⟨rfl, hb2⟩
      have hB2 := hB1.trans (hb2.mono hB1.size)
      go_wp2_with fail
      refine (t3 _ hB2).mono ?_
      rintro e w3 ⟨rfl, hb3⟩
      have hB3 := hB2.trans (hb3.mono hB2.size)
      go_wp2_with fail
      refine (r1 _ hB3).mono ?_
      rintro e w4 ⟨rfl, hb4⟩
      have hB4 := hB3.trans (hb4.mono hB3.size)
      go_wp2_with fail
      refine (r2 _ hB4).mono ?_
      rintro e w5 ⟨rfl, hb5⟩
      have hB5 := hB4.trans (hb5.mono hB4.size)
      go_wp2_with fail
      go_ret
      exact ⟨rfl, hB5⟩

end Go.Proofs.YtlglkfnihjfnoabDoor
