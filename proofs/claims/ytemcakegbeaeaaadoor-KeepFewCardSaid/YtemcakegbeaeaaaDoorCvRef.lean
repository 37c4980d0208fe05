/-
  What floor, days, date, Days, DayOK, Date, Weekday and Week of package lumref answer.
-/
import Derived.Test.YtemcakegbeaeaaaDoorCvDay
import Derived.Deep.Cut
namespace Go.Proofs.YtemcakegbeaeaaaDoor
open Go.RowKit
set_option maxRecDepth 4000

theorem floor_any (a b : Int) (w : World) (hb : b = 4 ∨ b = 7 ∨ b = 100 ∨ b = 400 ∨ b = 146097) (h1 : -100000000 ≤ a) (h2 : a ≤ 100000000) :
    Calls Tryd.prog 34 #[.int .i64 a, .int .i64 b] w fun e w' => e = .returned (.int .i64 (a / b)) ∧ w' = w := by
  by_cases h : a < 0
  · rcases hb with rfl | rfl | rfl | rfl | rfl
    all_goals
      go_enter Tryd.func34, Tryd.ntmps34
      go_wp2_with fail
      go_ret
      refine ⟨ret_int ?_, rfl⟩
      omega
  · rcases hb with rfl | rfl | rfl | rfl | rfl
    all_goals
      go_enter Tryd.func34, Tryd.ntmps34
      go_wp2_with fail
      go_ret
      exact ⟨rfl, rfl⟩

theorem rdays_any (y m d : Int) (w : World) (h1 : 1 ≤ y) (h2 : y ≤ 9999) (h3 : 1 ≤ m) (h4 : m ≤ 12) (h5 : 1 ≤ d) (h6 : d ≤ 31) :
    Calls Tryd.prog 36 #[.int .i64 y, .int .i64 m, .int .i64 d] w fun e w' => e = .returned (.int .i64 (Cv.days y m d)) ∧ w' = w := by
  unfold Cv.days
  by_cases hm : m ≤ 2
  · rw [if_pos hm]
    have f4 := fun W => floor_any (y - 1) 4 W (by omega) (by omega) (by omega)
    have f100 := fun W => floor_any (y - 1) 100 W (by omega) (by omega) (by omega)
    have f400 := fun W => floor_any (y - 1) 400 W (by omega) (by omega) (by omega)
    go_enter Tryd.func36, Tryd.ntmps36
    go_wp2_with fail
    refine (f4 _).mono ?_
    rintro e w1 ⟨rfl, rfl⟩
    go_wp2_with fail
    refine (f100 _).mono ?_
    rintro e w1 ⟨rfl, rfl⟩
    go_wp2_with fail
    refine (f400 _).mono ?_
    rintro e w1 ⟨rfl, rfl⟩
    go_wp2_with fail
    go_ret
    exact ⟨rfl, rfl⟩
  · rw [if_neg hm]
    have f4 := fun W => floor_any y 4 W (by omega) (by omega) (by omega)
    have f100 := fun W => floor_any y 100 W (by omega) (by omega) (by omega)
    have f400 := fun W => floor_any y 400 W (by omega) (by omega) (by omega)
    go_enter Tryd.func36, Tryd.ntmps36
    go_wp2_with fail
    refine (f4 _).mono ?_
    rintro e w1 ⟨rfl, rfl⟩
    go_wp2_with fail
    refine (f100 _).mono ?_
    rintro e w1 ⟨rfl, rfl⟩
    go_wp2_with fail
    refine (f400 _).mono ?_
    rintro e w1 ⟨rfl, rfl⟩
    go_wp2_with fail
    go_ret
    exact ⟨rfl, rfl⟩

set_option maxRecDepth 100000 in
set_option maxHeartbeats 1000000 in
theorem rdate_any (n : Int) (w : World) (h1 : -719468 ≤ n) (h2 : n ≤ 3000000) :
    Calls Tryd.prog 30 #[.int .i64 n] w fun e w' => e = .returned (.tuple #[.int .i64 (Cv.date n).1, .int .i64 (Cv.date n).2.1, .int .i64 (Cv.date n).2.2]) ∧ w' = w := by
  have fe := fun W => floor_any (n + 719468) 146097 W (by omega) (by omega) (by omega)
  have ho := Cv.ofE_lt n
  obtain ⟨d0, d1, -, y0, y1, -⟩ := Cv.doy_at ho.1 ho.2
  have hK : 0 ≤ Cv.mk (Cv.ofE n) ∧ Cv.mk (Cv.ofE n) ≤ 11 := by unfold Cv.mk; omega
  have he : 0 ≤ Cv.era n ∧ Cv.era n ≤ 30 := by unfold Cv.era; omega
  have eE : Cv.era n = (n + 719468) / 146097 := rfl
  have eO : Hid (Cv.ofE n = n + 719468 - 146097 * Cv.era n) := rfl
  have eY : Hid (Cv.yoe (Cv.ofE n) = (Cv.ofE n - Cv.ofE n / 1460 + Cv.ofE n / 36524 - Cv.ofE n / 146096) / 365) := rfl
  have eD : Hid (Cv.doy (Cv.ofE n) = Cv.ofE n - (365 * Cv.yoe (Cv.ofE n) + Cv.yoe (Cv.ofE n) / 4 - Cv.yoe (Cv.ofE n) / 100)) := rfl
  have eK : Hid (Cv.mk (Cv.ofE n) = (5 * Cv.doy (Cv.ofE n) + 2) / 153) := rfl
  have eM : Hid (Cv.dom (Cv.ofE n) = Cv.doy (Cv.ofE n) - (153 * Cv.mk (Cv.ofE n) + 2) / 5 + 1) := rfl
  unfold Cv.date
  rw [← eE] at fe
  generalize Cv.dom (Cv.ofE n) = M at *
  generalize Cv.mk (Cv.ofE n) = K at *
  generalize Cv.doy (Cv.ofE n) = D at *
  generalize Cv.yoe (Cv.ofE n) = Y at *
  generalize Cv.ofE n = O at *
  generalize Cv.era n = E at *
  clear eE
  by_cases hk : K < 10
  · rw [if_pos hk]
    dsimp only
    go_enter Tryd.func30, Tryd.ntmps30
    go_wp2_with fail
    refine (fe _).mono ?_
    rintro e w1 ⟨rfl, rfl⟩
    go_upto_region 4 with fail
    rw [← eO.out]
    go_upto_region 5 with fail
    rw [← eY.out]
    go_upto_region 6 with fail
    rw [← eD.out]
    go_upto_region 7 with fail
    rw [← eK.out]
    go_upto_region 8 with fail
    rw [← eM.out]
    go_wp2_with fail
    go_ret3
    exact ⟨rfl, rfl⟩
  · rw [if_neg hk]
    dsimp only
    go_enter Tryd.func30, Tryd.ntmps30
    go_wp2_with fail
    refine (fe _).mono ?_
    rintro e w1 ⟨rfl, rfl⟩
    go_upto_region 4 with fail
    rw [← eO.out]
    go_upto_region 5 with fail
    rw [← eY.out]
    go_upto_region 6 with fail
    rw [← eD.out]
    go_upto_region 7 with fail
    rw [← eK.out]
    go_upto_region 8 with fail
    rw [← eM.out]
    go_wp2_with fail
    go_ret3
    exact ⟨rfl, rfl⟩

theorem days_near {y m d : Int} (h1 : 1 ≤ y) (h2 : y ≤ 9999) (h3 : 1 ≤ m) (h4 : m ≤ 12) (h5 : 1 ≤ d) (h6 : d ≤ 31) : -719468 ≤ Cv.days y m d ∧ Cv.days y m d ≤ 3000000 := by
  unfold Cv.days
  split <;> omega

theorem rok_any (n : Int) (w : World) : Calls Tryd.prog 37 #[.int .i64 n] w fun e w' => e = .returned (.int .i64 (if Cv.dayOk n then 0 else 1)) ∧ w' = w := by
  by_cases h : Cv.dayOk n
  · rw [if_pos h]
    obtain ⟨h1, h2⟩ := h
    go_enter Tryd.func37, Tryd.ntmps37
    go_wp2_with fail
    go_ret
    exact ⟨rfl, rfl⟩
  · rw [if_neg h]
    have h' : n < -719162 ∨ 2932896 < n := by unfold Cv.dayOk at h; omega
    clear h
    rcases h' with h | h
    · go_enter Tryd.func37, Tryd.ntmps37
      go_wp2_with fail
      go_ret
      exact ⟨rfl, rfl⟩
    · go_enter Tryd.func37, Tryd.ntmps37
      go_wp2_with fail
      go_ret
      exact ⟨rfl, rfl⟩

theorem rwday_any (n : Int) (w : World) : Calls Tryd.prog 35 #[.int .i64 n] w fun e w' => e = .returned (wdayV n) ∧ w' = w := by
  have hok := fun W => rok_any n W
  unfold wdayV
  by_cases h : Cv.dayOk n
  · simp only [if_pos h] at hok ⊢
    obtain ⟨h1, h2⟩ := h
    have hf := fun W => floor_any n 7 W (by omega) (by omega) (by omega)
    rw [← Cv.weekday_doc]
    go_enter Tryd.func35, Tryd.ntmps35
    go_wp2_with fail
    refine (hok _).mono ?_
    rintro e w1 ⟨rfl, rfl⟩
    go_wp2_with fail
    refine (hf _).mono ?_
    rintro e w1 ⟨rfl, rfl⟩
    go_wp2_with fail
    go_ret2
    exact ⟨rfl, rfl⟩
  · simp only [if_neg h] at hok ⊢
    clear h
    go_enter Tryd.func35, Tryd.ntmps35
    go_wp2_with fail
    refine (hok _).mono ?_
    rintro e w1 ⟨rfl, rfl⟩
    go_wp2_with fail
    go_ret2
    exact ⟨rfl, rfl⟩

set_option maxHeartbeats 1000000 in
theorem rweek_any (n : Int) (w : World) : Calls Tryd.prog 31 #[.int .i64 n] w fun e w' => e = .returned (weekV n) ∧ w' = w := by
  have hwd := fun W => rwday_any n W
  unfold wdayV at hwd
  unfold weekV
  by_cases h : Cv.dayOk n
  · simp only [if_pos h] at hwd ⊢
    have ht := Cv.thurs_in h
    have hin := Cv.in_year (Cv.thurs n)
    have hyp := (Cv.dayOk_iff _).1 ht
    have hw7 := Cv.weekday_in n
    have hda := fun W => rdate_any (Cv.thurs n) W (by have := ht.1; omega) (by have := ht.2; omega)
    have hdy := fun W => rdays_any (Cv.date (Cv.thurs n)).1 1 1 W hyp.1 hyp.2 (by omega) (by omega) (by omega) (by omega)
    simp only [Cv.year0_days] at hdy
    have hn : Cv.thurs n = n + 4 - Cv.weekday n := rfl
    unfold Cv.week
    obtain ⟨t1, t2⟩ := ht
    obtain ⟨n1, n2⟩ := h
    dsimp only
    generalize (Cv.date (Cv.thurs n)).2.1 = m1 at *
    generalize (Cv.date (Cv.thurs n)).2.2 = d1 at *
    generalize (Cv.date (Cv.thurs n)).1 = y at *
    generalize Cv.thurs n = T at *
    have hin2 : T < Cv.year0 y + 366 := by have := hin.2; split at this <;> omega
    replace hin := hin.1
    generalize Cv.year0 y = f at *
    generalize Cv.weekday n = d at *
    have hn' : n = T - 4 + d := by omega
    clear hn
    subst hn'
    go_enter Tryd.func31, Tryd.ntmps31
    go_wp2_with fail
    refine (hwd _).mono ?_
    rintro e w1 ⟨rfl, rfl⟩
    go_wp2_with fail
    rw [show T - 4 + d + 4 - d = T by omega]
    refine (hda _).mono ?_
    rintro e w1 ⟨rfl, rfl⟩
    go_wp2_with fail
    go_loop [11, 12] (fun x z => ∃ j : Nat, 1 ≤ j ∧ j ≤ 54 ∧ f ≤ T - 7 * ((j : Int) - 1) ∧ x = .int .i64 (j : Nat) ∧ z = .int .i64 (T - 7 * (j : Int))) (fun x _ => 60 - (intOf x).toNat)
    case atStart => exact ⟨1, by omega, by omega, by omega, rfl, by go_num⟩
    case round =>
      obtain ⟨j, j1, j2, j3, rfl, rfl⟩ := hrel
      by_cases hj : f ≤ T - 7 * (j : Int)
      · go_wp2_with fail
        refine (hdy _).mono ?_
        rintro e w1 ⟨rfl, rfl⟩
        go_wp2_with fail
        go_round
        case rel => exact ⟨j + 1, by omega, by omega, by omega, by go_num, by go_num⟩
        case measure => simp only [intOf]; omega
      · have hk : Hid ((j : Int) = (T - f) / 7 + 1) := by show _ = _; omega
        go_wp2_with fail
        refine (hdy _).mono ?_
        rintro e w1 ⟨rfl, rfl⟩
        go_wp2_with fail
        go_ret3
        exact ⟨by rw [← hk.out]; rfl, rfl⟩
  · simp only [if_neg h] at hwd ⊢
    clear h
    go_enter Tryd.func31, Tryd.ntmps31
    go_wp2_with fail
    refine (hwd _).mono ?_
    rintro e w1 ⟨rfl, rfl⟩
    go_wp2_with fail
    go_ret3
    exact ⟨rfl, rfl⟩

end Go.Proofs.YtemcakegbeaeaaaDoor
