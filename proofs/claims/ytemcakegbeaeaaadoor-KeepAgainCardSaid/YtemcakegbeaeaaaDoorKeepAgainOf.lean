/-
  What the law KeepAgain gives, where Pick of package keep answers as it is asked to.
-/
import Derived.Test.YtemcakegbeaeaaaDoorKeepSaysOf
import Derived.Test.YtemcakegbeaeaaaDoorOwnLow
namespace Go.Proofs.YtemcakegbeaeaaaDoor
open Go.RowKit
set_option maxRecDepth 4000

theorem small_days : Kp.pickErr ⟨0, 1, 0, 0, 0⟩ [5, 4] = 0 ∧ Kp.pickL ⟨0, 1, 0, 0, 0⟩ [5, 4] = [true, false] := by decide +kernel

/-- what is kept is kept again -/
theorem kp_pick_again {p : Kp.Pol} {l : List Int} (h : Kp.pickErr p l = 0) : (Kp.pk l (Kp.kept p l)).length ≤ 200 ∧ Kp.pickErr p (Kp.pk l (Kp.kept p l)) = 0 ∧ Kp.pickL p (Kp.pk l (Kp.kept p l)) = List.replicate (Kp.pk l (Kp.kept p l)).length true := by
  obtain ⟨h1, h2, h3⟩ := Kp.pick_ok h
  obtain ⟨g1, g2, g3⟩ := Kp.again p h3
  have hp : Kp.pErr p = 0 := if_pos h1
  have e : Kp.pickErr p (Kp.pk l (Kp.kept p l)) = 0 := by
    unfold Kp.pickErr
    rw [hp, if_neg (by simp)]
    unfold Kp.tErr
    rw [if_neg (by omega), g1]
  exact ⟨by omega, e, by rw [Kp.pickL_ok e, g3]⟩

set_option maxHeartbeats 4000000 in
theorem keepAgain_of (p : Kp.Pol) (v : Value) (l : List Int) (w : World) (h : Ints w v l) (hl : l.length ≤ 140737488351232) (hP : PickOk w) :
    Calls Tryd.prog 4 #[polV p, v] w fun e w' => e = .returned (.bool true) ∧ Below w.heap.size w w' := by
  obtain ⟨W1, hW1⟩ : ∃ W1, W1 = (w.alloc (.cells (polC p) 23)).alloc (.cells #[.int .i64 5, .int .i64 4] 3) := ⟨_, rfl⟩
  have HB1 : Hid (Below w.heap.size w W1) := by rw [hW1]; exact ((Below.refl _ w).alloc (Nat.le_refl _) _).alloc (by simp) _
  have HQ1 : Hid (Bp W1 w.heap.size p) := by rw [hW1]; exact (Bp.new w p _).past ((Below.refl _ _).alloc (Nat.le_refl _) _)
  have HI1 : Hid (Ints W1 (.slice (some ⟨w.heap.size + 1, 0, none⟩) 2 2) [5, 4]) := by
    have := Ints.laid (w.alloc (.cells (polC p) 23)) [5, 4] 2
    rw [World.size_alloc] at this
    rw [hW1]
    exact this
  have hk1 := fun V (hb : Below W1.heap.size W1 V) => hP V (HB1.out.trans (hb.mono HB1.out.size)) ⟨0, 1, 0, 0, 0⟩ _ _ (HI1.out.below (Nat.le_refl _) hb) (by simp)
  have hk := fun V (hb : Below w.heap.size w V) => hP V hb p v l (h.below (Nat.le_refl _) hb) hl
  rw [small_days.1, small_days.2] at hk1
  have HI : Hid (Ints w v l) := h
  clear h
  unfold polV at hk hk1 ⊢
  dsimp only at hk1
  unfold polC at hW1
  go_enter Tryd.func4, Tryd.ntmps4
  go_wp2_with fail
  rw [← hW1]
  clear hW1
  refine (hk1 _ (Below.refl _ _)).mono ?_
  rintro e w2 ⟨u2, rfl, o2, b2⟩
  have HB2 : Hid (Below w.heap.size w w2) := HB1.out.trans (b2.mono HB1.out.size)
  have HQ2 : Hid (Bp w2 w.heap.size p) := HQ1.out.past b2
  have HO2 : Hid (Bls w2 u2 [true, false]) := Bls.of_own o2
  obtain ⟨W3, hW3⟩ : ∃ W3, W3 = w2.alloc (.cells #[.bool true, .bool false] 4) := ⟨_, rfl⟩
  have hb3 : Below w2.heap.size w2 W3 := by rw [hW3]; exact (Below.refl _ w2).alloc (Nat.le_refl _) _
  have HT3 : Hid (Bls W3 (.slice (some ⟨w2.heap.size, 0, none⟩) 2 2) [true, false]) := by
    rw [hW3]
    exact Bls.laid w2 [true, false] 2
  have heq := equal_bools u2 _ [true, false] W3 (HO2.out.past hb3) HT3.out (by simp)
  have HB3 : Hid (Below w.heap.size w W3) := HB2.out.trans (hb3.mono HB2.out.size)
  have HQ3 : Hid (Bp W3 w.heap.size p) := HQ2.out.past hb3
  clear HQ1 HI1 HB1 o2 b2 hk1 HB2 HQ2 HO2 hb3 HT3
  go_wp2_with fail
  rw [← hW3]
  clear hW3
  refine heq.mono ?_
  rintro e w4 ⟨rfl, b4⟩
  have HB4 : Hid (Below w.heap.size w w4) := HB3.out.trans (b4.mono HB3.out.size)
  have HQ4 : Hid (Bp w4 w.heap.size p) := HQ3.out.past b4
  have hq := HQ4.out
  obtain ⟨c0, c1, c2, c3, c4, _⟩ := hq
  have hk4 := hk _ HB4.out
  clear HQ3 HB3 heq b4 hk
  by_cases hz : Kp.pickErr p l = 0
  · rw [hz, Kp.pickL_ok hz] at hk4
    obtain ⟨a1, a2, a3⟩ := kp_pick_again hz
    obtain ⟨_, hl2, _⟩ := Kp.pick_ok hz
    have hkl := Kp.kept_length p l
    have HPK : Hid (Kp.pk (Kp.pk l (Kp.kept p l)) (List.replicate (Kp.pk l (Kp.kept p l)).length true) = Kp.pk l (Kp.kept p l)) := Kp.pk_true _
    clear hz
    have hpk := fun V u (hb : Below w.heap.size w V) (hu : Bls V u (Kp.kept p l)) => picked_any v u l (Kp.kept p l) V (HI.out.below (Nat.le_refl _) hb) hu hkl.symm (by omega)
    have hkk := fun V K (hb : Below w.heap.size w V) (hK : Ints V K (Kp.pk l (Kp.kept p l))) => hP V hb p K _ hK (by omega)
    rw [a2, a3] at hkk
    have hpk2 := fun V K u (hK : Ints V K (Kp.pk l (Kp.kept p l))) (hu : Bls V u (List.replicate (Kp.pk l (Kp.kept p l)).length true)) => picked_any K u _ _ V hK hu (by simp) (by omega)
    rw [HPK.out] at hpk2
    generalize Kp.pk l (Kp.kept p l) = KL at *
    generalize Kp.kept p l = R at *
    unfold polV at hkk
    clear a2 a3 HPK hkl hP
    go_wp2_with fail
    refine hk4.mono ?_
    rintro e w5 ⟨u5, rfl, o5, b5⟩
    have HB5 : Hid (Below w.heap.size w w5) := HB4.out.trans (b5.mono HB4.out.size)
    have HQ5 : Hid (Bp w5 w.heap.size p) := HQ4.out.past b5
    have HO5 : Hid (Bls w5 u5 R) := Bls.of_own o5
    clear c0 c1 c2 c3 c4 HQ4 HB4 hk4 o5 b5
    have hq := HQ5.out
    obtain ⟨c0, c1, c2, c3, c4, _⟩ := hq
    go_wp2_with fail
    refine (hpk _ _ HB5.out HO5.out).mono ?_
    rintro e w6 ⟨K6, rfl, o6, b6⟩
    have HB6 : Hid (Below w.heap.size w w6) := HB5.out.trans (b6.mono HB5.out.size)
    have HQ6 : Hid (Bp w6 w.heap.size p) := HQ5.out.past b6
    have HK6 : Hid (Ints w6 K6 KL) := Ints.of_own o6
    clear c0 c1 c2 c3 c4 HQ5 HB5 hpk o6 b6 HO5
    have hq := HQ6.out
    obtain ⟨c0, c1, c2, c3, c4, _⟩ := hq
    go_wp2_with fail
    refine (hkk _ _ HB6.out HK6.out).mono ?_
    rintro e w7 ⟨u7, rfl, o7, b7⟩
    have HB7 : Hid (Below w.heap.size w w7) := HB6.out.trans (b7.mono HB6.out.size)
    have HO7 : Hid (Bls w7 u7 (List.replicate KL.length true)) := Bls.of_own (by rw [List.length_replicate] at o7 ⊢; exact o7)
    have HK7 : Hid (Ints w7 K6 KL) := HK6.out.past b7
    clear c0 c1 c2 c3 c4 HQ6 HB6 hkk o7 b7 HK6
    go_wp2_with fail
    refine (hpk2 _ _ _ HK7.out HO7.out).mono ?_
    rintro e w8 ⟨K8, rfl, o8, b8⟩
    have HB8 : Hid (Below w.heap.size w w8) := HB7.out.trans (b8.mono HB7.out.size)
    have HK8 : Hid (Ints w8 K8 KL) := Ints.of_own o8
    have heq2 := equal_ints K8 K6 KL w8 HK8.out (HK7.out.past b8) (by omega)
    clear HB7 hpk2 o8 b8 HK7 HO7 HK8
    go_wp2_with fail
    refine heq2.mono ?_
    rintro e w9 ⟨rfl, b9⟩
    have hB9 := HB8.out.trans (b9.mono HB8.out.size)
    clear heq2 b9
    go_wp2_with fail
    go_ret
    exact ⟨rfl, hB9⟩
  · rw [Kp.pickL_no hz] at hk4
    have hzq : (Kp.pickErr p l != 0) = true := by simpa using hz
    generalize Kp.pickErr p l = z at *
    clear hz hP
    go_wp2_with fail
    refine hk4.mono ?_
    rintro e w5 ⟨u5, rfl, o5, b5⟩
    have hB5 := HB4.out.trans (b5.mono HB4.out.size)
    obtain ⟨sa, sc, hsv⟩ := own_form o5
    subst hsv
    clear hk4 o5 b5 c0 c1 c2 c3 c4
    go_wp2_with fail
    go_ret
    exact ⟨rfl, hB5⟩

end Go.Proofs.YtemcakegbeaeaaaDoor
