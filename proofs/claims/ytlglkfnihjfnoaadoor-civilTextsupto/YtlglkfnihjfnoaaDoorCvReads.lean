/-
  What Read of package civil answers.
-/
import Derived.Test.YtlglkfnihjfnoaaDoorCvRead
namespace Go.Proofs.YtlglkfnihjfnoaaDoor
open Go.RowKit
set_option maxRecDepth 4000

/-- Read's answer -/
def readV (l : List UInt8) : Value := .tuple #[.int .i64 (Cv.read l).1, .int .i64 (Cv.read l).2]

theorem readV_no {l : List UInt8} (h : Cv.form l = false) : readV l = .tuple #[.int .i64 0, .int .i64 13] := by
  unfold readV Cv.read; rw [h]; rfl

theorem form_parts {l : List UInt8} (h : Cv.form l = true) : l.length = 10 ∧ (∀ c ∈ l.take 4, Cv.isDig c = true) ∧ (∀ c ∈ (l.drop 5).take 2, Cv.isDig c = true) ∧ (∀ c ∈ l.drop 8, Cv.isDig c = true) ∧ readV l = daysV (Cv.num (l.take 4)) (Cv.num ((l.drop 5).take 2)) (Cv.num (l.drop 8)) := by
  have h' := h
  unfold Cv.form at h'
  simp only [Bool.and_eq_true, beq_iff_eq, List.all_eq_true] at h'
  obtain ⟨⟨⟨⟨⟨h1, _⟩, _⟩, h4⟩, h5⟩, h6⟩ := h'
  refine ⟨h1, h4, h5, h6, ?_⟩
  unfold readV daysV Cv.read
  rw [if_pos h]

theorem cut_list (s : ByteArray) (a b : Nat) : (s.extract a b).data.toList = (s.data.toList.drop a).take (b - a) := by
  rw [ByteArray.data_extract, Array.toList_extract, List.extract_eq_take_drop]

set_option maxHeartbeats 1000000 in
theorem read_any (s : ByteArray) (w : World) (hL : ∀ W, Below w.heap.size w W → Lens W) :
    Calls Tryd.prog 21 #[.string s] w fun e w' => e = .returned (readV s.data.toList) ∧ Below w.heap.size w w' := by
  have hf := isOfForm_any s w
  by_cases h : Cv.form s.data.toList = true
  · rw [h] at hf
    obtain ⟨h1, h2, h3, h4, hV⟩ := form_parts h
    have hs : s.size = 10 := by rw [Lib.size_eq]; exact h1
    have HV : Hid (readV s.data.toList = daysV (Cv.num (s.data.toList.take 4)) (Cv.num ((s.data.toList.drop 5).take 2)) (Cv.num (s.data.toList.drop 8))) := hV
    have e1 : (s.extract 0 4).data.toList = s.data.toList.take 4 := by rw [cut_list]; rfl
    have e2 : (s.extract 5 7).data.toList = (s.data.toList.drop 5).take 2 := cut_list s 5 7
    have e3 : (s.extract 8 10).data.toList = s.data.toList.drop 8 := by rw [cut_list]; exact List.take_of_length_le (by rw [List.length_drop, h1]; omega)
    rw [← e1] at h2
    rw [← e2] at h3
    rw [← e3] at h4
    rw [← e1, ← e2, ← e3] at HV
    have c1 := fun V => number_any (s.extract 0 4) V (by rw [ByteArray.size_extract]; omega) h2
    have c2 := fun V => number_any (s.extract 5 7) V (by rw [ByteArray.size_extract]; omega) h3
    have c3 := fun V => number_any (s.extract 8 10) V (by rw [ByteArray.size_extract]; omega) h4
    have c4 := fun V (hb : Below w.heap.size w V) => days_any (Cv.num (s.extract 0 4).data.toList) (Cv.num (s.extract 5 7).data.toList) (Cv.num (s.extract 8 10).data.toList) V (hL V hb)
    clear hV e1 e2 e3 h1 h2 h3 h4 h hL
    obtain ⟨p, q, hpq⟩ : ∃ p q, daysV (Cv.num (s.extract 0 4).data.toList) (Cv.num (s.extract 5 7).data.toList) (Cv.num (s.extract 8 10).data.toList) = .tuple #[.int .i64 p, .int .i64 q] := ⟨_, _, rfl⟩
    rw [hpq] at c4 HV
    clear hpq
    generalize Cv.num (s.extract 0 4).data.toList = n1 at *
    generalize Cv.num (s.extract 5 7).data.toList = n2 at *
    generalize Cv.num (s.extract 8 10).data.toList = n3 at *
    go_enter Tryd.func21, Tryd.ntmps21
    go_wp2_with fail
    refine hf.mono ?_
    rintro e w1 ⟨rfl, hb1⟩
    have c5 := fun (X : Since w1.heap.size w1) => c4 X.val (hb1.trans (X.property.mono hb1.size))
    have c5' : ∀ X : Since w1.heap.size w1, Calls Tryd.prog 9 #[.int .i64 n1, .int .i64 n2, .int .i64 n3] X.val fun e w' => e = .returned (.tuple #[.int .i64 p, .int .i64 q]) ∧ Below X.val.heap.size X.val w' := fun X => (c5 X).mono fun e w' ⟨he, hw⟩ => ⟨he, hw ▸ Below.refl _ _⟩
    have hne : Nonempty (Since w1.heap.size w1) := ⟨⟨w1, Below.refl _ _⟩⟩
    clear c4 c5 hf
    go_wp2_with fail
    refine wp_region_since (B := w1.heap.size) (W0 := w1) (by kernel_rfl) (by kernel_rfl) (Below.refl _ _) ?_
    repeat (go_big_quiet_step (fail))
    go_big_quiet_step (exact quiet_since _ (c1 _))
    repeat (go_big_quiet_step (fail))
    go_big_quiet_step (exact quiet_since _ (c2 _))
    repeat (go_big_quiet_step (fail))
    go_big_quiet_step (exact quiet_since _ (c3 _))
    repeat (go_big_quiet_step (fail))
    go_big_quiet_step (exact quiet_since _ (c5' _))
    repeat (go_big_quiet_step (fail))
    refine wpQuiet_nil ?_
    rintro w7 ⟨U, rfl⟩
    have hB := hb1.trans (U.property.mono hb1.size)
    generalize U.val = w7 at *
    clear c1 c2 c3 c5' hne hb1
    go_wp2_with fail
    go_ret2
    exact ⟨by rw [HV.out]; rfl, hB⟩
  · have h' : Cv.form s.data.toList = false := by simpa using h
    rw [h'] at hf
    rw [readV_no h']
    clear h h' hL
    go_enter Tryd.func21, Tryd.ntmps21
    go_wp2_with fail
    refine hf.mono ?_
    rintro e w1 ⟨rfl, hb1⟩
    go_wp2_with fail
    go_ret2
    exact ⟨rfl, hb1⟩

end Go.Proofs.YtlglkfnihjfnoaaDoor
