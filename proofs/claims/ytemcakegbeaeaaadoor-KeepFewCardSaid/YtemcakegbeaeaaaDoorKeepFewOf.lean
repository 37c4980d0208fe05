/-
  What the law KeepFew gives, where Pick of package keep answers as it is asked to.
-/
import Derived.Test.YtemcakegbeaeaaaDoorKeepAgainOf
namespace Go.Proofs.YtemcakegbeaeaaaDoor
open Go.RowKit
set_option maxRecDepth 4000

theorem small_KeepFew : Kp.pickErr ⟨0, 0, 0, 0, 1⟩ [5, 5] = 0 ∧ Kp.pickL ⟨0, 0, 0, 0, 1⟩ [5, 5] = [true, false] := by decide +kernel

set_option maxHeartbeats 4000000 in
theorem keepFew_of (p : Kp.Pol) (v : Value) (l : List Int) (w : World) (h : Ints w v l) (hl : l.length ≤ 140737488351232) (hP : PickOk w) :
    Calls Tryd.prog 6 #[polV p, v] w fun e w' => e = .returned (.bool true) ∧ Below w.heap.size w w' := by
  obtain ⟨va, vc, rfl⟩ := h.slice
  obtain ⟨W1, hW1⟩ : ∃ W1, W1 = (w.alloc (.cells (polC p) 23)).alloc (.cells #[.int .i64 5, .int .i64 5] 3) := ⟨_, rfl⟩
  have HB1 : Hid (Below w.heap.size w W1) := by rw [hW1]; exact ((Below.refl _ w).alloc (Nat.le_refl _) _).alloc (by simp) _
  have HQ1 : Hid (Bp W1 w.heap.size p) := by rw [hW1]; exact (Bp.new w p _).past ((Below.refl _ _).alloc (Nat.le_refl _) _)
  have HI1 : Hid (Ints W1 (.slice (some ⟨w.heap.size + 1, 0, none⟩) 2 2) [5, 5]) := by
    have := Ints.laid (w.alloc (.cells (polC p) 23)) [5, 5] 2
    rw [World.size_alloc] at this
    rw [hW1]
    exact this
  have hk1 := fun V (hb : Below W1.heap.size W1 V) => hP V (HB1.out.trans (hb.mono HB1.out.size)) ⟨0, 0, 0, 0, 1⟩ _ _ (HI1.out.below (Nat.le_refl _) hb) (by simp)
  rw [small_KeepFew.1, small_KeepFew.2] at hk1
  have hk := fun V (hb : Below w.heap.size w V) => hP V hb p _ l (h.below (Nat.le_refl _) hb) hl
  have HI : Hid (Ints w (.slice va l.length vc) l) := h
  clear h
  unfold polV at hk hk1 ⊢
  dsimp only at hk1
  unfold polC at hW1
  go_enter Tryd.func6, Tryd.ntmps6
  go_wp2_with fail
  rw [← hW1]
  clear hW1
  refine (hk1 _ (Below.refl _ _)).mono ?_
  rintro e w2 ⟨u2, rfl, o2, b2⟩
  have HB2 : Hid (Below w.heap.size w w2) := HB1.out.trans (b2.mono HB1.out.size)
  have HQ2 : Hid (Bp w2 w.heap.size p) := HQ1.out.past b2
  have HO2 : Hid (Bls w2 u2 [true, false]) := Bls.of_own o2
  obtain ⟨W3, hW3⟩ : ∃ W3, W3 = w2.alloc (.cells #[.bool true, .bool false] 4) := ⟨_, rfl⟩
  have hb3 : Below w2.heap.size w2 W3 := by rw [hW3]; exact (Below.refl _ w2).alloc (Nat.le_refl _) _
  have HT3 : Hid (Bls W3 (.slice (some ⟨w2.heap.size, 0, none⟩) 2 2) [true, false]) := by
    rw [hW3]
    exact Bls.laid w2 [true, false] 2
  have heq := equal_bools u2 _ [true, false] W3 (HO2.out.past hb3) HT3.out (by simp)
  have HB3 : Hid (Below w.heap.size w W3) := HB2.out.trans (hb3.mono HB2.out.size)
  have HQ3 : Hid (Bp W3 w.heap.size p) := HQ2.out.past hb3
  clear HQ1 HI1 HB1 o2 b2 hk1 HB2 HQ2 HO2 hb3 HT3
  go_wp2_with fail
  rw [← hW3]
  clear hW3
  refine heq.mono ?_
  rintro e w4 ⟨rfl, b4⟩
  have HB4 : Hid (Below w.heap.size w w4) := HB3.out.trans (b4.mono HB3.out.size)
  have HQ4 : Hid (Bp w4 w.heap.size p) := HQ3.out.past b4
  have hq := HQ4.out
  obtain ⟨c0, c1, c2, c3, c4, _⟩ := hq
  have hk4 := hk _ HB4.out
  clear HQ3 HB3 heq b4 hk
  by_cases hz : Kp.pickErr p l = 0
  · rw [hz, Kp.pickL_ok hz] at hk4
    obtain ⟨hpo, hl2, _⟩ := Kp.pick_ok hz
    have hfew := Kp.few hpo l
    have hfst := Kp.first hpo l
    have hkl := Kp.kept_length p l
    have HF0 : Hid (∀ (h0 : 0 < (Kp.kept p l).length), (Kp.kept p l)[0] = decide (Kp.keeps p l 0)) := fun h0 => by
      have := Kp.kept_at p l (i := 0) (by omega)
      rw [List.getElem?_eq_getElem h0] at this
      exact Option.some.inj this
    obtain ⟨q0, q1, q2, q3, q4⟩ := hpo
    clear hz hP
    have hpk := fun V u (hb : Below w.heap.size w V) (hu : Bls V u (Kp.kept p l)) => picked_any (.slice va l.length vc) u l (Kp.kept p l) V (HI.out.below (Nat.le_refl _) hb) hu hkl.symm (by omega)
    generalize Kp.pk l (Kp.kept p l) = KL at *
    generalize Kp.kept p l = R at *
    go_wp2_with fail
    refine hk4.mono ?_
    rintro e w5 ⟨u5, rfl, o5, b5⟩
    have HB5 : Hid (Below w.heap.size w w5) := HB4.out.trans (b5.mono HB4.out.size)
    have HQ5 : Hid (Bp w5 w.heap.size p) := HQ4.out.past b5
    have HO5 : Hid (Bls w5 u5 R) := Bls.of_own o5
    clear c0 c1 c2 c3 c4 HQ4 HB4 hk4 o5 b5
    have hq := HQ5.out
    obtain ⟨c0, c1, c2, c3, c4, _⟩ := hq
    obtain ⟨ua, uc, hus⟩ := HO5.out.slice
    subst hus
    have hp5 := hpk _ _ HB5.out HO5.out
    clear hpk
    generalize p.last = n0 at *
    generalize p.days = n1 at *
    generalize p.weeks = n2 at *
    generalize p.months = n3 at *
    generalize p.years = n4 at *
    have HKL : Hid (R.length = l.length) := hkl
    clear hkl
    go_wp2_with fail
    refine hp5.mono ?_
    rintro e w6 ⟨K6, rfl, o6, b6⟩
    have HB6 : Hid (Below w.heap.size w w6) := HB5.out.trans (b6.mono HB5.out.size)
    have HO6 := HO5.out.past b6
    obtain ⟨ka, kc, hks⟩ := own_form o6
    subst hks
    clear HB5 HQ5 hp5 o6 b6 HO5 c0 c1 c2 c3 c4
    have hKn : (KL.length : Int) ≤ n0 + n1 + n2 + n3 + n4 := hfew
    clear hfew
    by_cases h0 : l.length = 0
    · have hlq : ((l.length : Int) == 0) = true := by rw [h0]; rfl
      clear h0 hfst HF0 HKL HO6
      generalize l.length = ln at *
      generalize n0 + n1 + n2 + n3 + n4 = S at *
      go_wp2_with fail
      go_ret
      exact ⟨rfl, HB6.out⟩
    · have hlq : ((l.length : Int) == 0) = false := by rw [beq_eq_false_iff_ne]; omega
      have hr0 : 0 < R.length := by have := HKL.out; omega
      have hd : R[0] = decide (0 < n0 + n1 + n2 + n3 + n4) := by
        rw [HF0.out hr0, Bool.eq_iff_iff, decide_eq_true_eq, decide_eq_true_eq]
        exact hfst
      obtain ⟨bk, o, rfl, -, hbk, y0⟩ := HO6.get 0 hr0
      rw [hd, Nat.add_zero] at y0
      have hr1 : (0 : Int) < (R.length : Int) := by omega
      clear h0 hfst HF0 HKL HO6 hd hr0
      go_wp2_with fail
      go_ret
      exact ⟨by simp, HB6.out⟩
  · rw [Kp.pickL_no hz] at hk4
    have hzq : (Kp.pickErr p l != 0) = true := by simpa using hz
    generalize Kp.pickErr p l = z at *
    clear hz hP
    go_wp2_with fail
    refine hk4.mono ?_
    rintro e w5 ⟨u5, rfl, o5, b5⟩
    have hB5 := HB4.out.trans (b5.mono HB4.out.size)
    obtain ⟨sa, sc, hsv⟩ := own_form o5
    subst hsv
    clear hk4 o5 b5 c0 c1 c2 c3 c4
    go_wp2_with fail
    go_ret
    exact ⟨rfl, hB5⟩

end Go.Proofs.YtemcakegbeaeaaaDoor
