/-
  What Policy, Times57, spanOf and has of package lumref answer.
-/
import Derived.Test.YtemcakegbeaeaaaDoorKpMem
import Derived.Test.YtemcakegbeaeaaaDoorCvRef
import Derived.Test.YtemcakegbeaeaaaDoorRHas
namespace Go.Proofs.YtemcakegbeaeaaaDoor
open Go.RowKit
set_option maxRecDepth 4000

theorem if_min (x y : Int) : (if y < x then y else x) = min x y := by rw [Int.min_def]; split <;> split <;> omega
theorem if_max (x y : Int) : (if y > x then y else x) = max x y := by rw [Int.max_def]; split <;> split <;> omega
theorem run_min5 (a b c d e : Int) (ts : Array TypeId) (t : TypeId) (W : World) : (Builtin.min_ ts t #[.int .i64 a, .int .i64 b, .int .i64 c, .int .i64 d, .int .i64 e]).run Tryd.prog W = .ok (.int .i64 (min (min (min (min a b) c) d) e)) W := by
  simp [Builtin.min_, Builtin.min2, if_min]
theorem run_max5 (a b c d e : Int) (ts : Array TypeId) (t : TypeId) (W : World) : (Builtin.max_ ts t #[.int .i64 a, .int .i64 b, .int .i64 c, .int .i64 d, .int .i64 e]).run Tryd.prog W = .ok (.int .i64 (max (max (max (max a b) c) d) e)) W := by
  have h : ∀ x y : Int, (if x < y then y else x) = max x y := if_max
  simp [Builtin.max_, Builtin.max2, h]

theorem weekV_is {n : Int} (h : Cv.dayOk n) : weekV n = .tuple #[.int .i64 (Cv.week n).1, .int .i64 (Cv.week n).2, .int .i64 0] := if_pos h

set_option maxHeartbeats 4000000 in
theorem rpol_any (p : Kp.Pol) (w : World) : Calls Tryd.prog 11 #[polV p] w fun e w' => e = .returned (.int .i64 (Kp.pErr p)) ∧ Below w.heap.size w w' := by
  obtain ⟨a, b, c, d, e⟩ := p
  unfold polV
  dsimp only
  have HB := fun t => (Below.refl w.heap.size w).alloc (Nat.le_refl _) (.cells (polC ⟨a, b, c, d, e⟩) t)
  unfold polC at HB
  dsimp only at HB
  have hmn := run_min5 a b c d e
  have hmx := run_max5 a b c d e
  obtain ⟨m, hm⟩ : ∃ m, m = min (min (min (min a b) c) d) e := ⟨_, rfl⟩
  obtain ⟨x, hx⟩ : ∃ x, x = max (max (max (max a b) c) d) e := ⟨_, rfl⟩
  rw [← hm] at hmn
  rw [← hx] at hmx
  by_cases h : Kp.Pol.Ok ⟨a, b, c, d, e⟩
  · have hz : Kp.pErr ⟨a, b, c, d, e⟩ = 0 := if_pos h
    rw [hz]
    have h' : (0 ≤ a ∧ a ≤ 100) ∧ (0 ≤ b ∧ b ≤ 100) ∧ (0 ≤ c ∧ c ≤ 100) ∧ (0 ≤ d ∧ d ≤ 100) ∧ (0 ≤ e ∧ e ≤ 100) := h
    clear hz h
    have h1 : 0 ≤ m := by omega
    have h2 : x ≤ 100 := by omega
    clear h' hm hx
    go_enter Tryd.func11, Tryd.ntmps11
    go_wp2_with fail
    go_ret
    exact ⟨rfl, HB _⟩
  · have hz : Kp.pErr ⟨a, b, c, d, e⟩ = 1 := if_neg h
    rw [hz]
    have h' : ¬ ((0 ≤ a ∧ a ≤ 100) ∧ (0 ≤ b ∧ b ≤ 100) ∧ (0 ≤ c ∧ c ≤ 100) ∧ (0 ≤ d ∧ d ≤ 100) ∧ (0 ≤ e ∧ e ≤ 100)) := h
    clear hz h
    by_cases h1 : m < 0
    · clear h' hm hx
      go_enter Tryd.func11, Tryd.ntmps11
      go_wp2_with fail
      go_ret
      exact ⟨rfl, HB _⟩
    · have h2 : 100 < x := by omega
      clear h' hm hx
      go_enter Tryd.func11, Tryd.ntmps11
      go_wp2_with fail
      go_ret
      exact ⟨rfl, HB _⟩

set_option maxHeartbeats 2000000 in
theorem rtms_any (v : Value) (l : List Int) (w : World) (h : Ints w v l) (hl : l.length ≤ 140737488351232) :
    Calls Tryd.prog 22 #[v] w fun e w' => e = .returned (.int .i64 (Kp.tErr l)) ∧ w' = w := by
  obtain ⟨a, c, rfl⟩ := h.slice
  unfold Kp.tErr
  by_cases h2 : 200 < l.length
  · rw [if_pos h2]
    go_enter Tryd.func22, Tryd.ntmps22
    go_wp2_with fail
    go_ret
    exact ⟨rfl, rfl⟩
  · rw [if_neg h2]
    have HI : Hid (∀ k, k < l.length → ∃ bk o, a = some ⟨bk, o, none⟩ ∧ w.cell? ⟨bk, o + k, none⟩ = some (.int .i64 (l.getD k 0))) := fun k hk => by
      obtain ⟨bk, o, e1, _, _, e2⟩ := h.get k hk
      exact ⟨bk, o, e1, by rw [e2, List.getD_eq_getElem?_getD, List.getElem?_eq_getElem hk]; rfl⟩
    clear h
    go_enter Tryd.func22, Tryd.ntmps22
    go_wp2_with fail
    go_loop [10] (fun i => ∃ k : Nat, k ≤ l.length ∧ i = .int .i64 k ∧ Hid (∀ j, j < k → Kp.errAt l j = 0)) (fun i => l.length - (intOf i).toNat)
    case atStart => exact ⟨0, by omega, rfl, fun j h => absurd h (by omega)⟩
    case round =>
      obtain ⟨k, hk, rfl, HZ⟩ := hrel
      by_cases hlt : k < l.length
      · obtain ⟨bk, o, rfl, c0⟩ := HI.out k hlt
        have HF : Hid (Kp.errAt l k ≠ 0 → Kp.chk l = Kp.errAt l k) := fun q => Kp.chkTo_first HZ.out q _ hlt
        have HN : Hid (Kp.errAt l k = 0 → ∀ j, j < k + 1 → Kp.errAt l j = 0) := fun q j hj => by
          by_cases e : j = k
          · subst e; exact q
          · exact HZ.out j (by omega)
        have HE : Hid (Kp.errAt l k = if l.getD k 0 < 0 ∨ 4223371679 < l.getD k 0 then 1 else if 0 < k ∧ l.getD (k - 1) 0 < l.getD k 0 then 4 else 0) := rfl
        by_cases hb : l.getD k 0 < 0 ∨ 4223371679 < l.getD k 0
        · have HC : Hid (Kp.chk l = 1) := by
            have he := HE.out
            rw [if_pos hb] at he
            have := HF.out (by rw [he]; decide)
            show _ = _
            rw [this, he]
          clear HF HN HE HZ HI
          generalize l.getD k 0 = t at *
          by_cases hb1 : t < 0
          · clear hb
            go_wp2_with fail
            go_ret
            exact ⟨by rw [HC.out]; rfl, rfl⟩
          · have hb2 : 4223371679 < t := by omega
            clear hb
            go_wp2_with fail
            go_ret
            exact ⟨by rw [HC.out]; rfl, rfl⟩
        · have hb1 : 0 ≤ l.getD k 0 := by omega
          have hb2 : l.getD k 0 ≤ 4223371679 := by omega
          by_cases h0 : k = 0
          · subst h0
            rw [Nat.add_zero] at c0
            have HG : Hid (∀ j, j < 0 + 1 → Kp.errAt l j = 0) := HN.out (by rw [HE.out, if_neg hb, if_neg (by omega)])
            clear HF HN HE HZ HI hb
            generalize l.getD 0 0 = t at *
            go_wp2_with fail
            go_round
            case rel => exact ⟨1, by omega, rfl, HG⟩
            case measure => simp only [intOf]; omega
          · obtain ⟨q, rfl⟩ : ∃ q, k = q + 1 := ⟨k - 1, by omega⟩
            obtain ⟨bk', o', e0, c1⟩ := HI.out q (by omega)
            have e1 : bk' = bk ∧ o' = o := by cases e0; exact ⟨rfl, rfl⟩
            obtain ⟨rfl, rfl⟩ := e1
            clear e0
            rw [show q + 1 - 1 = q by omega] at HE
            by_cases hd : l.getD q 0 < l.getD (q + 1) 0
            · have HC : Hid (Kp.chk l = 4) := by
                have he := HE.out
                rw [if_neg hb, if_pos ⟨by omega, hd⟩] at he
                have := HF.out (by rw [he]; decide)
                show _ = _
                rw [this, he]
              clear HF HN HE HZ HI hb
              generalize l.getD (q + 1) 0 = t at *
              generalize l.getD q 0 = t0 at *
              go_wp2_with fail
              go_ret
              exact ⟨by rw [HC.out]; rfl, rfl⟩
            · have HG : Hid (∀ j, j < q + 1 + 1 → Kp.errAt l j = 0) := HN.out (by rw [HE.out, if_neg hb, if_neg (fun x => hd x.2)])
              clear HF HN HE HZ HI hb
              generalize l.getD (q + 1) 0 = t at *
              generalize l.getD q 0 = t0 at *
              go_wp2_with fail
              go_round
              case rel => exact ⟨q + 1 + 1, by omega, by go_num, HG⟩
              case measure => simp only [intOf]; omega
      · obtain rfl : k = l.length := by omega
        have HC : Hid (Kp.chk l = 0) := Kp.chkTo_ok _ HZ.out
        clear HZ HI
        go_wp2_with fail
        go_ret
        exact ⟨by rw [HC.out]; rfl, rfl⟩

set_option maxHeartbeats 1000000 in
theorem rspan_any (r : Nat) (t : Int) (w : World) (hr : r < 4) (h0 : 0 ≤ t) (h1 : t ≤ 4223371679) :
    Calls Tryd.prog 23 #[.int .i64 r, .int .i64 t] w fun e w' => e = .returned (.int .i64 (Kp.sp r t)) ∧ w' = w := by
  obtain ⟨n, hn⟩ : ∃ n, n = t / 1440 := ⟨_, rfl⟩
  have hk : Cv.dayOk n := by unfold Cv.dayOk; omega
  have hda := fun W => rdate_any n W (by omega) (by omega)
  have hwk := fun W => rweek_any n W
  rw [weekV_is hk] at hwk
  have hy := (Cv.dayOk_iff n).1 hk
  have hw := Cv.week_in n
  have hwy := (Cv.dayOk_iff _).1 (Cv.thurs_in hk)
  have hwy' : (Cv.week n).1 = (Cv.date (Cv.thurs n)).1 := rfl
  rw [← hwy'] at hwy
  have hm := (Cv.date_at n).1
  have hm1 := hm.m1
  have hm2 := hm.m12
  have HS : Hid (Kp.sp r t = if r = 0 then n else if r = 1 then 100 * (Cv.week n).1 + (Cv.week n).2 else if r = 2 then 100 * (Cv.date n).1 + (Cv.date n).2.1 else (Cv.date n).1) := by rw [hn]; rfl
  clear hwy' hm hk
  generalize (Cv.week n).1 = wy at *
  generalize (Cv.week n).2 = wn at *
  generalize (Cv.date n).1 = y at *
  generalize (Cv.date n).2.1 = m at *
  generalize (Cv.date n).2.2 = d at *
  have hr4 : r = 0 ∨ r = 1 ∨ r = 2 ∨ r = 3 := by omega
  rcases hr4 with rfl | rfl | rfl | rfl
  · have HS' : Hid (Kp.sp 0 t = n) := HS.out
    clear HS
    subst hn
    go_enter Tryd.func23, Tryd.ntmps23
    go_wp2_with fail
    refine (hda _).mono ?_
    rintro e w1 ⟨rfl, rfl⟩
    go_wp2_with fail
    go_ret
    exact ⟨by rw [HS'.out]; rfl, rfl⟩
  · have HS' : Hid (Kp.sp 1 t = 100 * wy + wn) := HS.out
    clear HS
    subst hn
    go_enter Tryd.func23, Tryd.ntmps23
    go_wp2_with fail
    refine (hda _).mono ?_
    rintro e w1 ⟨rfl, rfl⟩
    go_wp2_with fail
    refine (hwk _).mono ?_
    rintro e w1 ⟨rfl, rfl⟩
    go_wp2_with fail
    go_ret
    exact ⟨by rw [HS'.out]; rfl, rfl⟩
  · have HS' : Hid (Kp.sp 2 t = 100 * y + m) := HS.out
    clear HS
    subst hn
    go_enter Tryd.func23, Tryd.ntmps23
    go_wp2_with fail
    refine (hda _).mono ?_
    rintro e w1 ⟨rfl, rfl⟩
    go_wp2_with fail
    go_ret
    exact ⟨by rw [HS'.out]; rfl, rfl⟩
  · have HS' : Hid (Kp.sp 3 t = y) := HS.out
    clear HS
    subst hn
    go_enter Tryd.func23, Tryd.ntmps23
    go_wp2_with fail
    refine (hda _).mono ?_
    rintro e w1 ⟨rfl, rfl⟩
    go_wp2_with fail
    go_ret
    exact ⟨by rw [HS'.out]; rfl, rfl⟩

end Go.Proofs.YtemcakegbeaeaaaDoor
