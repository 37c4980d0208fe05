/-
  What the law KeepYears gives, where Pick of package keep answers as it is asked to.
-/
import Derived.Test.YtemcakegbeaeaaaDoorKeepAgainOf
import Derived.Lib.SmallJoins
namespace Go.Proofs.YtemcakegbeaeaaaDoor
open Go.RowKit
set_option maxRecDepth 4000

theorem small_KeepYears : Kp.pickErr ⟨0, 0, 0, 0, 2⟩ [2097152, 5] = 0 ∧ Kp.pickL ⟨0, 0, 0, 0, 2⟩ [2097152, 5] = [true, true] := by decide +kernel

namespace Kp
/-- the year of the time ahead of the k-th one, 0 where there is none -/
def ly (l : List Int) (k : Nat) : Int := if k = 0 then 0 else sp 3 (l.getD (k - 1) 0)
theorem ly_next (l : List Int) (k : Nat) : ly l (k + 1) = sp 3 (l.getD k 0) := by unfold ly; rw [if_neg (by omega), Nat.add_sub_cancel]
theorem new_ly {l : List Int} {k : Nat} (h : 1 ≤ sp 3 (l.getD k 0)) : new 3 l k ↔ sp 3 (l.getD k 0) ≠ ly l k := by
  unfold new ly
  constructor
  · rintro (e | e)
    · subst e; rw [if_pos rfl]; omega
    · split
      · omega
      · exact fun q => e q.symm
  · intro e
    by_cases h0 : k = 0
    · exact .inl h0
    · rw [if_neg h0] at e
      exact .inr fun q => e q.symm
end Kp

set_option maxHeartbeats 4000000 in
theorem keepYears_of (n : Int) (v : Value) (l : List Int) (w : World) (h : Ints w v l) (hl : l.length ≤ 140737488351232) (hL : Lens w) (hP : PickOk w) :
    Calls Tryd.prog 7 #[.int .i64 n, v] w fun e w' => e = .returned (.bool true) ∧ Below w.heap.size w w' := by
  obtain ⟨va, vc, rfl⟩ := h.slice
  obtain ⟨W1, hW1⟩ : ∃ W1, W1 = w.alloc (.cells #[.int .i64 2097152, .int .i64 5] 3) := ⟨_, rfl⟩
  have HB1 : Hid (Below w.heap.size w W1) := by rw [hW1]; exact (Below.refl _ w).alloc (Nat.le_refl _) _
  have HI1 : Hid (Ints W1 (.slice (some ⟨w.heap.size, 0, none⟩) 2 2) [2097152, 5]) := by
    have := Ints.laid w [2097152, 5] 2
    rw [hW1]
    exact this
  have hk1 := fun V (hb : Below W1.heap.size W1 V) => hP V (HB1.out.trans (hb.mono HB1.out.size)) ⟨0, 0, 0, 0, 2⟩ _ _ (HI1.out.below (Nat.le_refl _) hb) (by simp)
  rw [small_KeepYears.1, small_KeepYears.2] at hk1
  have hk := fun V (hb : Below w.heap.size w V) => hP V hb ⟨0, 0, 0, 0, n⟩ _ l (h.below (Nat.le_refl _) hb) hl
  have HI : Hid (Ints w (.slice va l.length vc) l) := h
  clear h
  unfold polV at hk hk1
  dsimp only at hk1
  go_enter Tryd.func7, Tryd.ntmps7
  go_wp2_with fail
  rw [← hW1]
  clear hW1
  refine (hk1 _ (Below.refl _ _)).mono ?_
  rintro e w2 ⟨u2, rfl, o2, b2⟩
  have HB2 : Hid (Below w.heap.size w w2) := HB1.out.trans (b2.mono HB1.out.size)
  have HO2 : Hid (Bls w2 u2 [true, true]) := Bls.of_own o2
  obtain ⟨W3, hW3⟩ : ∃ W3, W3 = w2.alloc (.cells #[.bool true, .bool true] 4) := ⟨_, rfl⟩
  have hb3 : Below w2.heap.size w2 W3 := by rw [hW3]; exact (Below.refl _ w2).alloc (Nat.le_refl _) _
  have HT3 : Hid (Bls W3 (.slice (some ⟨w2.heap.size, 0, none⟩) 2 2) [true, true]) := by
    rw [hW3]
    exact Bls.laid w2 [true, true] 2
  have heq := equal_bools u2 _ [true, true] W3 (HO2.out.past hb3) HT3.out (by simp)
  have HB3 : Hid (Below w.heap.size w W3) := HB2.out.trans (hb3.mono HB2.out.size)
  clear HI1 HB1 o2 b2 hk1 HB2 HO2 hb3 HT3
  go_wp2_with fail
  rw [← hW3]
  clear hW3
  refine heq.mono ?_
  rintro e w4 ⟨rfl, b4⟩
  have HB4 : Hid (Below w.heap.size w w4) := HB3.out.trans (b4.mono HB3.out.size)
  have hk4 := hk _ HB4.out
  clear HB3 heq b4 hk
  by_cases hz : Kp.pickErr ⟨0, 0, 0, 0, n⟩ l = 0
  · rw [hz, Kp.pickL_ok hz] at hk4
    obtain ⟨hpo, hl2, hchk⟩ := Kp.pick_ok hz
    have hn : 0 ≤ n ∧ n ≤ 100 := hpo.2.2.2.2
    have HKL : Hid ((Kp.kept ⟨0, 0, 0, 0, n⟩ l).length = l.length) := Kp.kept_length _ l
    have HK : Hid (∀ k (hk : k < (Kp.kept ⟨0, 0, 0, 0, n⟩ l).length), k < l.length → (Kp.kept ⟨0, 0, 0, 0, n⟩ l)[k] = decide (Kp.new 3 l k ∧ (Kp.chg 3 l k : Int) < n)) := fun k hk hk2 => by
      have := Kp.kept_at ⟨0, 0, 0, 0, n⟩ l hk2
      rw [List.getElem?_eq_getElem hk] at this
      rw [Option.some.inj this, Bool.eq_iff_iff, decide_eq_true_eq, decide_eq_true_eq]
      exact Kp.years_iff hchk hk2
    have HD : Hid (∀ k, k < l.length → 0 ≤ l.getD k 0 ∧ l.getD k 0 ≤ 4223371679) := fun k hk => by
      have := Kp.err_ok (Kp.chkTo_zero _ hchk k hk)
      exact ⟨this.1, this.2.1⟩
    have HC : Hid (∀ k, Kp.chg 3 l k ≤ k) := fun k => by
      induction k with
      | zero => exact Nat.le_refl _
      | succ k ih => rw [Kp.chg]; split <;> omega
    clear hz hP hpo hchk
    generalize Kp.kept ⟨0, 0, 0, 0, n⟩ l = R at *
    go_wp2_with fail
    refine hk4.mono ?_
    rintro e w5 ⟨u5, rfl, o5, b5⟩
    have HB5 : Hid (Below w.heap.size w w5) := HB4.out.trans (b5.mono HB4.out.size)
    have HO5 : Hid (Bls w5 u5 R) := Bls.of_own o5
    clear HB4 hk4 o5 b5
    obtain ⟨ua, uc, hus⟩ := HO5.out.slice
    subst hus
    have HL5 : Hid (Lens w5) := Joins.tab_stays (g := 0) (by kernel_rfl) hL HB5.out (Nat.le_refl _)
    have HI5 : Hid (Ints w5 (.slice va l.length vc) l) := HI.out.below (Nat.le_refl _) HB5.out
    clear HI hL
    go_wp2_with fail
    go_loop [9, 10, 45] (fun y s i => ∃ k : Nat, k ≤ l.length ∧ i = .int .i64 k ∧ y = .int .i64 (Kp.ly l k) ∧ s = .int .i64 (Kp.chg 3 l k : Nat)) (fun _ _ i => l.length - (intOf i).toNat)
    case atStart => exact ⟨0, by omega, rfl, rfl, rfl⟩
    case round =>
      obtain ⟨k, hk, rfl, rfl, rfl⟩ := hrel
      by_cases hlk : k < l.length
      · have hki : (k : Int) < (l.length : Int) := by omega
        have hkr : (k : Int) < (R.length : Int) := by have := HKL.out; omega
        have hkr' : k < R.length := by omega
        obtain ⟨bk, o, rfl, -, hbk, y0⟩ := HI5.out.get k hlk
        obtain ⟨bk', o', rfl, -, hbk', z0⟩ := HO5.out.get k hkr'
        have hgd : l.getD k 0 = l[k] := by rw [List.getD_eq_getElem?_getD, List.getElem?_eq_getElem hlk]; rfl
        obtain ⟨t0, t1⟩ := HD.out k hlk
        rw [HK.out k hkr' hlk] at z0
        obtain ⟨d, hd⟩ : ∃ d, d = l[k] / 1440 := ⟨_, rfl⟩
        have hdo : Cv.dayOk d := by unfold Cv.dayOk; omega
        have hda := date_any d w5 HL5.out
        rw [dateV_ok hdo] at hda
        have hsp : Kp.sp 3 (l.getD k 0) = (Cv.date d).1 := by rw [hgd, hd]; rfl
        have hy := (Cv.dayOk_iff d).1 hdo
        have hnew := Kp.new_ly (l := l) (k := k) (by omega)
        have HLn : Hid (Kp.ly l (k + 1) = (Cv.date d).1) := (Kp.ly_next l k).trans hsp
        have HCn : Hid (Kp.chg 3 l (k + 1) = if Kp.new 3 l k then Kp.chg 3 l k + 1 else Kp.chg 3 l k) := rfl
        have hck := HC.out k
        rw [hsp] at hnew
        have ht0 : 0 ≤ l[k] := by omega
        have ht1 : l[k] ≤ 4223371679 := by omega
        clear hgd hsp t0 t1 hdo
        generalize (Cv.date d).2.1 = m1 at *
        generalize (Cv.date d).2.2 = d1 at *
        generalize (Cv.date d).1 = y at *
        generalize l[k] = t at *
        subst hd
        by_cases hN : Kp.new 3 l k
        · have hne : (y != Kp.ly l k) = true := by simpa using hnew.1 hN
          have HCn' : Hid (Kp.chg 3 l (k + 1) = Kp.chg 3 l k + 1) := HCn.out.trans (if_pos hN)
          have hzb : decide (Kp.new 3 l k ∧ (Kp.chg 3 l k : Int) < n) = decide ((Kp.chg 3 l k : Int) + 1 ≤ n) := by
            rw [Bool.eq_iff_iff, decide_eq_true_eq, decide_eq_true_eq]
            exact ⟨fun q => by have := q.2; omega, fun q => ⟨hN, by omega⟩⟩
          rw [hzb] at z0
          clear hN hnew HCn hzb
          generalize Kp.chg 3 l k = cn at *
          generalize Kp.ly l k = y1 at *
          go_wp2_with fail
          refine hda.mono ?_
          rintro e w6 ⟨rfl, rfl⟩
          go_wp2_with fail
          go_round
          case rel => exact ⟨k + 1, by omega, by go_num, by rw [HLn.out], by rw [HCn'.out]; go_num⟩
          case measure => simp only [intOf]; omega
        · have he : y = Kp.ly l k := Decidable.byContradiction fun q => hN (hnew.2 q)
          have HCn' : Hid (Kp.chg 3 l (k + 1) = Kp.chg 3 l k) := HCn.out.trans (if_neg hN)
          have hzb : decide (Kp.new 3 l k ∧ (Kp.chg 3 l k : Int) < n) = false := decide_eq_false fun q => hN q.1
          rw [hzb] at z0
          clear hN hnew HCn hzb
          generalize Kp.chg 3 l k = cn at *
          rw [← he]
          clear he
          go_wp2_with fail
          refine hda.mono ?_
          rintro e w6 ⟨rfl, rfl⟩
          go_wp2_with fail
          go_round
          case rel => exact ⟨k + 1, by omega, by go_num, by rw [HLn.out], by rw [HCn'.out]⟩
          case measure => simp only [intOf]; omega
      · obtain rfl : k = l.length := by omega
        go_wp2_with fail
        go_ret
        exact ⟨rfl, HB5.out⟩
  · rw [Kp.pickL_no hz] at hk4
    have hzq : (Kp.pickErr ⟨0, 0, 0, 0, n⟩ l != 0) = true := by simpa using hz
    generalize Kp.pickErr ⟨0, 0, 0, 0, n⟩ l = z at *
    clear hz hP
    go_wp2_with fail
    refine hk4.mono ?_
    rintro e w5 ⟨u5, rfl, o5, b5⟩
    have hB5 := HB4.out.trans (b5.mono HB4.out.size)
    obtain ⟨sa, sc, hsv⟩ := own_form o5
    subst hsv
    clear hk4 o5 b5
    go_wp2_with fail
    go_ret
    exact ⟨rfl, hB5⟩

end Go.Proofs.YtemcakegbeaeaaaDoor
