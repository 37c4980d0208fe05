/-
  What OK, Days, Date, Weekday and Week of package civil answer.
-/
import Derived.Test.YtemcakegbeaeaaaDoorCvNum
import Derived.Test.YtemcakegbeaeaaaDoorWf
namespace Go.Proofs.YtemcakegbeaeaaaDoor
open Go.RowKit
set_option maxRecDepth 4000

/-- Days' answer -/
def daysV (y m d : Int) : Value := .tuple #[.int .i64 (Cv.Days y m d).1, .int .i64 (Cv.Days y m d).2]

theorem days_bad (y m d : Int) (h : ¬ (1 ≤ y ∧ y ≤ 9999 ∧ 1 ≤ m ∧ m ≤ 12 ∧ 1 ≤ d ∧ d ≤ Cv.dim y m)) : daysV y m d = .tuple #[.int .i64 0, .int .i64 1] := by
  unfold daysV Cv.Days; rw [if_neg h]

/-- how the days ahead of a month are added up -/
theorem ahead_up (y : Nat) (h1 : 1 ≤ y) (h2 : y ≤ 9999) : ∃ A : Nat → Int, A 1 = Cv.year0 y ∧ (∀ k, 1 ≤ k → k < 12 → A (k + 1) = A k + Cv.dim y k) ∧ (∀ k, 1 ≤ k → k ≤ 12 → -719162 ≤ A k ∧ A k ≤ 3000000) ∧ (∀ (k : Nat) (d : Int), 1 ≤ k → k ≤ 12 → A k + d - 1 = Cv.days y k d) ∧ A 12 + Cv.dim y (12 : Nat) = Cv.year0 (y + 1) := by
  refine ⟨fun k => Cv.year0 y + Cv.ahead y k, ?_, fun k a b => ?_, fun k a b => ?_, fun k d a b => ?_, ?_⟩
  · show Cv.year0 y + Cv.ahead y ((1 : Nat) : Int) = _
    have : Cv.ahead y ((1 : Nat) : Int) = 0 := by unfold Cv.ahead; simp
    rw [this]; omega
  · have := Cv.ahead_next (y := y) (m := k) (by omega) (by omega)
    rw [if_neg (by omega)] at this
    show Cv.year0 y + Cv.ahead y ((k + 1 : Nat) : Int) = Cv.year0 y + Cv.ahead y k + _
    rw [show ((k + 1 : Nat) : Int) = (k : Int) + 1 by omega]
    omega
  · have hd := Cv.dim_le y k
    have := Cv.ahead_in (y := y) (m := k) (d := 1) ⟨by omega, by omega, by omega, by omega⟩
    have h3 : Cv.year0 y = -719162 + ((y : Int) - 1) * 365 + ((y : Int) - 1) / 4 - ((y : Int) - 1) / 100 + ((y : Int) - 1) / 400 := by unfold Cv.year0; omega
    show -719162 ≤ Cv.year0 y + Cv.ahead y k ∧ Cv.year0 y + Cv.ahead y k ≤ 3000000
    generalize Cv.ahead y k = a at *
    rw [h3]
    have h4 : a ≤ 366 := by have := this.2; split at this <;> omega
    omega
  · rw [Cv.days_year (by omega) (by omega)]
  · have := Cv.ahead_next (y := y) (m := 12) (by omega) (by omega)
    rw [if_pos rfl] at this
    show Cv.year0 y + Cv.ahead y ((12 : Nat) : Int) + _ = _
    rw [Cv.year0_next, show ((12 : Nat) : Int) = 12 from rfl]
    omega

theorem ok_any (n : Int) (w : World) : Calls Tryd.prog 25 #[.int .i64 n] w fun e w' => e = .returned (.int .i64 (if Cv.dayOk n then 0 else 1)) ∧ w' = w := by
  by_cases h : Cv.dayOk n
  · rw [if_pos h]
    obtain ⟨h1, h2⟩ := h
    go_enter Tryd.func25, Tryd.ntmps25
    go_wp2_with fail
    go_ret
    exact ⟨rfl, rfl⟩
  · rw [if_neg h]
    have h' : n < -719162 ∨ 2932896 < n := by unfold Cv.dayOk at h; omega
    clear h
    rcases h' with h | h
    · go_enter Tryd.func25, Tryd.ntmps25
      go_wp2_with fail
      go_ret
      exact ⟨rfl, rfl⟩
    · go_enter Tryd.func25, Tryd.ntmps25
      go_wp2_with fail
      go_ret
      exact ⟨rfl, rfl⟩

/-- Date's answer, Weekday's, Week's -/
def dateV (n : Int) : Value := .tuple #[.int .i64 (Cv.Date n).1.1, .int .i64 (Cv.Date n).1.2.1, .int .i64 (Cv.Date n).1.2.2, .int .i64 (Cv.Date n).2]
def wdayV (n : Int) : Value := if Cv.dayOk n then .tuple #[.int .i64 (Cv.weekday n), .int .i64 0] else .tuple #[.int .i64 0, .int .i64 1]
def weekV (n : Int) : Value := if Cv.dayOk n then .tuple #[.int .i64 (Cv.week n).1, .int .i64 (Cv.week n).2, .int .i64 0] else .tuple #[.int .i64 0, .int .i64 0, .int .i64 1]
theorem dateV_no {n : Int} (h : ¬ Cv.dayOk n) : dateV n = .tuple #[.int .i64 0, .int .i64 0, .int .i64 0, .int .i64 1] := by
  unfold dateV Cv.Date; rw [if_neg h]
theorem dateV_ok {n : Int} (h : Cv.dayOk n) : dateV n = .tuple #[.int .i64 (Cv.date n).1, .int .i64 (Cv.date n).2.1, .int .i64 (Cv.date n).2.2, .int .i64 0] := by
  unfold dateV Cv.Date; rw [if_pos h]
theorem day_nat {n : Int} (h : Cv.dayOk n) : ∃ k : Nat, k ≤ 3652058 ∧ n = (k : Int) - 719162 := ⟨(n + 719162).toNat, by obtain ⟨a, b⟩ := h; omega, by obtain ⟨a, b⟩ := h; omega⟩

theorem wday_any (n : Int) (w : World) : Calls Tryd.prog 33 #[.int .i64 n] w fun e w' => e = .returned (wdayV n) ∧ w' = w := by
  have hok := fun W => ok_any n W
  unfold wdayV
  by_cases h : Cv.dayOk n
  · simp only [if_pos h] at hok ⊢
    obtain ⟨k, hk, rfl⟩ := day_nat h
    rw [Cv.weekday_first]
    clear h
    go_enter Tryd.func33, Tryd.ntmps33
    go_wp2_with fail
    refine (hok _).mono ?_
    rintro e w1 ⟨rfl, rfl⟩
    go_wp2_with fail
    go_ret2
    exact ⟨rfl, rfl⟩
  · simp only [if_neg h] at hok ⊢
    clear h
    go_enter Tryd.func33, Tryd.ntmps33
    go_wp2_with fail
    refine (hok _).mono ?_
    rintro e w1 ⟨rfl, rfl⟩
    go_wp2_with fail
    go_ret2
    exact ⟨rfl, rfl⟩

theorem week_any (n : Int) (w : World) : Calls Tryd.prog 29 #[.int .i64 n] w fun e w' => e = .returned (weekV n) ∧ w' = w := by
  have hwd := fun W => wday_any n W
  unfold wdayV at hwd
  unfold weekV
  by_cases h : Cv.dayOk n
  · simp only [if_pos h] at hwd ⊢
    obtain ⟨k, hk, hkn⟩ := day_nat (Cv.thurs_in h)
    have hy := fun W => yearOf_any k W hk
    have hin := Cv.in_year (Cv.thurs n)
    have hw7 := Cv.weekday_in n
    have hyp := Cv.yearP_in hk
    have hwk : Cv.week n = ((Cv.yearP k : Int), ((k : Int) - 719162 - Cv.year0 (Cv.yearP k)) / 7 + 1) := by unfold Cv.week; rw [hkn, Cv.year_of]
    rw [hkn] at hin
    rw [Cv.year_of] at hin
    simp only [Cv.year_of] at hy
    have hn : n = (k : Int) - 719162 - 4 + Cv.weekday n := by unfold Cv.thurs at hkn; omega
    rw [hwk]
    dsimp only
    generalize Cv.yearP k = y at *
    have hf := fun W => firstOf_any y W (by omega) (by omega)
    generalize Cv.weekday n = d at *
    generalize Cv.year0 (y : Int) = f at *
    have hin2 : (k : Int) - 719162 < f + 366 := by have := hin.2; split at this <;> omega
    replace hin := hin.1
    subst hn
    clear h hwk hkn
    go_enter Tryd.func29, Tryd.ntmps29
    go_wp2_with fail
    refine (hwd _).mono ?_
    rintro e w1 ⟨rfl, rfl⟩
    go_wp2_with fail
    refine Calls.mono (by first | exact hy _ | (rw [show (k : Int) - 719162 - 4 + d - d + 4 = (k : Int) - 719162 by omega]; exact hy _)) ?_
    rintro e w1 ⟨rfl, rfl⟩
    go_wp2_with fail
    refine (hf _).mono ?_
    rintro e w1 ⟨rfl, rfl⟩
    go_wp2_with fail
    go_ret3
    exact ⟨rfl, rfl⟩
  · simp only [if_neg h] at hwd ⊢
    clear h
    go_enter Tryd.func29, Tryd.ntmps29
    go_wp2_with fail
    refine (hwd _).mono ?_
    rintro e w1 ⟨rfl, rfl⟩
    go_wp2_with fail
    go_ret3
    exact ⟨rfl, rfl⟩

theorem results_tmp4 {fn : Func} {t u v x : Tmp} (h : fn.results = #[.tmp t, .tmp u, .tmp v, .tmp x]) (tmps : Array Value) (P : Program) (w : World) :
    (results fn tmps).run P w = .ok (.tuple #[tmps.getD t undef, tmps.getD u undef, tmps.getD v undef, tmps.getD x undef]) w := by
  simp [results, h]

set_option maxHeartbeats 1000000 in
theorem date_any (n : Int) (w : World) (hL : Lens w) : Calls Tryd.prog 15 #[.int .i64 n] w fun e w' => e = .returned (dateV n) ∧ w' = w := by
  have hok := fun W => ok_any n W
  by_cases h : Cv.dayOk n
  · simp only [if_pos h] at hok
    rw [dateV_ok h]
    obtain ⟨k, hk, rfl⟩ := day_nat h
    have hy := fun W => yearOf_any k W hk
    have hin := Cv.in_year ((k : Int) - 719162)
    rw [← Cv.year0_next] at hin
    have hyp := Cv.yearP_in hk
    have hone := @Cv.date_iff ((k : Int) - 719162)
    simp only [Cv.year_of] at hy
    rw [Cv.year_of] at hin
    generalize Cv.yearP k = y at *
    have hf := fun W => firstOf_any y W (by omega) (by omega)
    obtain ⟨A, a1, a2, ab, ad, a12⟩ := ahead_up y (by omega) (by omega)
    have hlen := fun (k : Nat) (a : 1 ≤ k) (b : k ≤ 12) => length_any y k w (by omega) a b hL
    rw [← a12] at hin
    rw [← a1] at hf hin
    have hdl := fun k => Cv.dim_le y k
    have HD : Hid (∀ (j : Nat), 1 ≤ j → j ≤ 12 → 0 ≤ (k : Int) - 719162 - A j → (k : Int) - 719162 - A j < Cv.dim y j → Cv.date ((k : Int) - 719162) = ((y : Int), (j : Int), (k : Int) - 719162 - A j + 1)) := by
      intro j j1 j2 j3 j4
      refine hone.2 ⟨⟨by omega, by omega, by omega, by omega⟩, ?_⟩
      have := ad j ((k : Int) - 719162 - A j + 1) j1 j2
      omega
    clear ad a1 a12 hone h hL
    generalize hD : (fun k : Int => Cv.dim y k) = D at *
    have hD' : ∀ k : Int, Cv.dim y k = D k := fun k => congrFun hD k
    simp only [hD'] at *
    clear hD hD'
    have hb1 := ab 1 (by omega) (by omega)
    go_enter Tryd.func15, Tryd.ntmps15
    go_wp2_with fail
    refine (hok _).mono ?_
    rintro e w1 ⟨rfl, rfl⟩
    go_wp2_with fail
    refine (hy _).mono ?_
    rintro e w1 ⟨rfl, rfl⟩
    go_wp2_with fail
    refine (hf _).mono ?_
    rintro e w1 ⟨rfl, rfl⟩
    go_wp2_with fail
    go_loop [0, 8] (fun x z => ∃ j : Nat, 1 ≤ j ∧ j ≤ 12 ∧ A j ≤ (k : Int) - 719162 ∧ x = .int .i64 ((k : Int) - 719162 - A j) ∧ z = .int .i64 (j : Nat)) (fun _ z => 12 - (intOf z).toNat)
    case atStart => exact ⟨1, by omega, by omega, hin.1, rfl, rfl⟩
    case round =>
      obtain ⟨j, j1, j2, j3, rfl, rfl⟩ := hrel
      have hj := ab j j1 j2
      have hl := hlen j j1 j2
      have hjd := hdl j
      by_cases hjn : (k : Int) - 719162 - A j < D j
      · have HE := HD.out j j1 j2 (by omega) hjn
        go_wp2_with fail
        refine hl.mono ?_
        rintro e w1 ⟨rfl, rfl⟩
        go_wp2_with fail
        rw [HE]
        refine bodyPost_ret (results_tmp4 rfl _ _ _) rfl ?_
        exact ⟨rfl, rfl⟩
      · have h12 : j < 12 := by
          by_cases e : j = 12
          · subst e; omega
          · omega
        have hs := a2 j j1 h12
        go_wp2_with fail
        refine hl.mono ?_
        rintro e w1 ⟨rfl, rfl⟩
        go_wp2_with fail
        refine hl.mono ?_
        rintro e w1 ⟨rfl, rfl⟩
        go_wp2_with fail
        go_round
        case rel => exact ⟨j + 1, by omega, by omega, by omega, by rw [hs]; go_num, by go_num⟩
        case measure => simp only [intOf]; omega
  · simp only [if_neg h] at hok
    rw [dateV_no h]
    clear h
    go_enter Tryd.func15, Tryd.ntmps15
    go_wp2_with fail
    refine (hok _).mono ?_
    rintro e w1 ⟨rfl, rfl⟩
    go_wp2_with fail
    refine bodyPost_ret (results_tmp4 rfl _ _ _) rfl ?_
    exact ⟨rfl, rfl⟩

end Go.Proofs.YtemcakegbeaeaaaDoor
