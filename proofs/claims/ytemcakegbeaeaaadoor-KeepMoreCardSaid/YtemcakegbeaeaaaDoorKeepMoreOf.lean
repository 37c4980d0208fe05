/-
  What the law KeepMore gives, where Pick of package keep answers as it is asked to.
-/
import Derived.Test.YtemcakegbeaeaaaDoorKeepAgainOf
namespace Go.Proofs.YtemcakegbeaeaaaDoor
open Go.RowKit
set_option maxRecDepth 4000

theorem small_KeepMore : Kp.pickErr ⟨1, 0, 0, 0, 0⟩ [5] = 0 ∧ Kp.pickL ⟨1, 0, 0, 0, 0⟩ [5] = [true] := by decide +kernel

/-- the greater of each two numbers -/
def Kp.Pol.up (p q : Kp.Pol) : Kp.Pol := ⟨max p.last q.last, max p.days q.days, max p.weeks q.weeks, max p.months q.months, max p.years q.years⟩

theorem kp_more_up (p q : Kp.Pol) {l : List Int} {i : Nat} (hi : i < l.length) (h : Kp.keeps p l i) : Kp.keeps (p.up q) l i := by
  refine Kp.more (show p.last ≤ max p.last q.last by omega) (fun r => ?_) hi h
  unfold Kp.Pol.most Kp.Pol.up
  split
  · show p.days ≤ max p.days q.days; omega
  · split
    · show p.weeks ≤ max p.weeks q.weeks; omega
    · split
      · show p.months ≤ max p.months q.months; omega
      · show p.years ≤ max p.years q.years; omega

theorem run_max2 (a b : Int) (ts : Array TypeId) (t : TypeId) (W : World) : (Builtin.max_ ts t #[.int .i64 a, .int .i64 b]).run Tryd.prog W = .ok (.int .i64 (max a b)) W := by
  have h : ∀ x y : Int, (if x < y then y else x) = max x y := fun x y => by rw [Int.max_def]; split <;> split <;> omega
  simp [Builtin.max_, Builtin.max2, h]

set_option maxHeartbeats 4000000 in
theorem keepMore_of (p q : Kp.Pol) (v : Value) (l : List Int) (w : World) (h : Ints w v l) (hl : l.length ≤ 140737488351232) (hP : PickOk w) :
    Calls Tryd.prog 5 #[polV p, polV q, v] w fun e w' => e = .returned (.bool true) ∧ Below w.heap.size w w' := by
  obtain ⟨va, vc, rfl⟩ := h.slice
  obtain ⟨W0, hW0⟩ : ∃ W0, W0 = (w.alloc (.cells (polC p) 23)).alloc (.cells (polC q) 23) := ⟨_, rfl⟩
  have hz0 : W0.heap.size = w.heap.size + 2 := by rw [hW0]; simp
  have HB0 : Hid (Below w.heap.size w W0) := by rw [hW0]; exact ((Below.refl _ w).alloc (Nat.le_refl _) _).alloc (by simp) _
  have HQ0 : Hid (Bp W0 w.heap.size p) := by rw [hW0]; exact (Bp.new w p _).past ((Below.refl _ _).alloc (Nat.le_refl _) _)
  have HR0 : Hid (Bp W0 (w.heap.size + 1) q) := by
    have := Bp.new (w.alloc (.cells (polC p) 23)) q 23
    rw [World.size_alloc] at this
    rw [hW0]
    exact this
  obtain ⟨W1, hW1⟩ : ∃ W1, W1 = W0.alloc (.cells #[.int .i64 5] 3) := ⟨_, rfl⟩
  have hb1 : Below W0.heap.size W0 W1 := by rw [hW1]; exact (Below.refl _ W0).alloc (Nat.le_refl _) _
  have HB1 : Hid (Below w.heap.size w W1) := HB0.out.trans (hb1.mono HB0.out.size)
  have HQ1 : Hid (Bp W1 w.heap.size p) := HQ0.out.past hb1
  have HR1 : Hid (Bp W1 (w.heap.size + 1) q) := HR0.out.past hb1
  have HI1 : Hid (Ints W1 (.slice (some ⟨w.heap.size + 2, 0, none⟩) 1 1) [5]) := by
    have := Ints.laid W0 [5] 1
    rw [hz0] at this
    rw [hW1]
    exact this
  have hk1 := fun V (hb : Below W1.heap.size W1 V) => hP V (HB1.out.trans (hb.mono HB1.out.size)) ⟨1, 0, 0, 0, 0⟩ _ _ (HI1.out.below (Nat.le_refl _) hb) (by simp)
  rw [small_KeepMore.1, small_KeepMore.2] at hk1
  have hk := fun V (hb : Below w.heap.size w V) => hP V hb p _ l (h.below (Nat.le_refl _) hb) hl
  have hm := fun V (hb : Below w.heap.size w V) => hP V hb (p.up q) _ l (h.below (Nat.le_refl _) hb) hl
  have HI : Hid (Ints w (.slice va l.length vc) l) := h
  clear h
  have x0 := run_max2 p.last q.last
  have x1 := run_max2 p.days q.days
  have x2 := run_max2 p.weeks q.weeks
  have x3 := run_max2 p.months q.months
  have x4 := run_max2 p.years q.years
  unfold polV at hk hk1 hm ⊢
  dsimp only [Kp.Pol.up] at hk1 hm
  rw [hW0] at hW1
  unfold polC at hW1
  clear hW0 HB0 HQ0 HR0 hb1 hz0
  go_enter Tryd.func5, Tryd.ntmps5
  go_wp2_with fail
  rw [← hW1]
  clear hW1
  refine (hk1 _ (Below.refl _ _)).mono ?_
  rintro e w2 ⟨u2, rfl, o2, b2⟩
  have HB2 : Hid (Below w.heap.size w w2) := HB1.out.trans (b2.mono HB1.out.size)
  have HQ2 : Hid (Bp w2 w.heap.size p) := HQ1.out.past b2
  have HR2 : Hid (Bp w2 (w.heap.size + 1) q) := HR1.out.past b2
  have HO2 : Hid (Bls w2 u2 [true]) := Bls.of_own o2
  obtain ⟨ua, uc, hus⟩ := HO2.out.slice
  subst hus
  obtain ⟨bk, o, rfl, -, hbk, y0⟩ := HO2.out.get 0 (by simp)
  rw [Nat.add_zero] at y0
  replace y0 : w2.cell? ⟨bk, o, none⟩ = some (.bool true) := y0
  have hq := HQ2.out
  obtain ⟨c0, c1, c2, c3, c4, _⟩ := hq
  have hr := HR2.out
  obtain ⟨d0, d1, d2, d3, d4, _⟩ := hr
  clear HB1 HQ1 HR1 HI1 hk1 o2 b2 HO2
  obtain ⟨W5, hW5⟩ : ∃ W5, W5 = w2.alloc (.cells (polC (p.up q)) 23) := ⟨_, rfl⟩
  have hb5 : Below w2.heap.size w2 W5 := by rw [hW5]; exact (Below.refl _ w2).alloc (Nat.le_refl _) _
  have HB5 : Hid (Below w.heap.size w W5) := HB2.out.trans (hb5.mono HB2.out.size)
  have HQ5 : Hid (Bp W5 w.heap.size p) := HQ2.out.past hb5
  obtain ⟨G5, hG5⟩ : ∃ G5, G5 = w2.heap.size := ⟨_, rfl⟩
  have HM5 : Hid (Bp W5 G5 (p.up q)) := by rw [hW5, hG5]; exact Bp.new w2 _ _
  unfold polC at hW5
  dsimp only [Kp.Pol.up] at hW5
  clear HB2 HQ2 HR2 hb5
  go_upto_region 5 with fail
  rw [← hW5, ← hG5]
  clear hW5 hG5 c0 c1 c2 c3 c4 d0 d1 d2 d3 d4 y0 x0 x1 x2 x3 x4 hbk
  have hq := HQ5.out
  obtain ⟨c0, c1, c2, c3, c4, _⟩ := hq
  go_wp2_with fail
  refine (hk _ HB5.out).mono ?_
  rintro e w6 ⟨u6, rfl, o6, b6⟩
  have HB6 : Hid (Below w.heap.size w w6) := HB5.out.trans (b6.mono HB5.out.size)
  have HM6 : Hid (Bp w6 G5 (p.up q)) := HM5.out.past b6
  have HO6 : Hid (Bls w6 u6 (Kp.pickL p l)) := Bls.of_own o6
  clear c0 c1 c2 c3 c4 hk HB5 HQ5 HM5 o6 b6
  have hq := HM6.out
  obtain ⟨c0, c1, c2, c3, c4, _⟩ := hq
  dsimp only [Kp.Pol.up] at c0 c1 c2 c3 c4
  go_wp2_with fail
  refine (hm _ HB6.out).mono ?_
  rintro e w7 ⟨u7, rfl, o7, b7⟩
  have HB7 : Hid (Below w.heap.size w w7) := HB6.out.trans (b7.mono HB6.out.size)
  have HO7 : Hid (Bls w7 u7 (Kp.pickL (p.up q) l)) := Bls.of_own o7
  have HO6' : Hid (Bls w7 u6 (Kp.pickL p l)) := HO6.out.past b7
  clear c0 c1 c2 c3 c4 hm HB6 HM6 HO6 o7 b7 hP
  have hE : Kp.pickErr ⟨max p.last q.last, max p.days q.days, max p.weeks q.weeks, max p.months q.months, max p.years q.years⟩ l = Kp.pickErr (p.up q) l := rfl
  rw [hE]
  clear hE
  obtain ⟨ua6, uc6, hu6⟩ := HO6'.out.slice
  obtain ⟨ua7, uc7, hu7⟩ := HO7.out.slice
  subst hu6 hu7
  by_cases hz : Kp.pickErr p l = 0
  · by_cases hz' : Kp.pickErr (p.up q) l = 0
    · obtain ⟨_, hl2, _⟩ := Kp.pick_ok hz
      rw [Kp.pickL_ok hz] at HO6' ⊢
      rw [Kp.pickL_ok hz'] at HO7 ⊢
      rw [Kp.kept_length] at HO6' HO7 ⊢
      rw [Kp.kept_length]
      rw [hz, hz']
      have HR : Hid (∀ k, k < l.length → ∃ b b' : Bool, (Kp.kept p l)[k]? = some b ∧ (Kp.kept (p.up q) l)[k]? = some b' ∧ (b = true → b' = true)) := fun k hk => by
        refine ⟨_, _, Kp.kept_at p l hk, Kp.kept_at (p.up q) l hk, fun e => ?_⟩
        rw [decide_eq_true_eq] at e ⊢
        exact kp_more_up p q hk e
      have HL1 : Hid ((Kp.kept p l).length = l.length) := Kp.kept_length p l
      have HL2 : Hid ((Kp.kept (p.up q) l).length = l.length) := Kp.kept_length _ l
      generalize Kp.kept p l = R at *
      generalize Kp.kept (p.up q) l = R' at *
      clear hz hz'
      go_wp2_with fail
      go_loop [99] (fun i => ∃ k : Nat, k ≤ l.length ∧ i = .int .i64 k) (fun i => l.length - (intOf i).toNat)
      case atStart => exact ⟨0, by omega, rfl⟩
      case round =>
        obtain ⟨k, hk, rfl⟩ := hrel
        by_cases hlk : k < l.length
        · have hki : (k : Int) < (l.length : Int) := by omega
          obtain ⟨b, b', e1, e2, e3⟩ := HR.out k hlk
          obtain ⟨bk', o', rfl, -, hbk', z0⟩ := HO6'.out.get k (by have := HL1.out; omega)
          obtain ⟨bk2, o2, rfl, -, hbk2, z1⟩ := HO7.out.get k (by have := HL2.out; omega)
          have f1 : R[k]'(by have := HL1.out; omega) = b := by rw [List.getElem?_eq_getElem (by have := HL1.out; omega)] at e1; exact Option.some.inj e1
          have f2 : R'[k]'(by have := HL2.out; omega) = b' := by rw [List.getElem?_eq_getElem (by have := HL2.out; omega)] at e2; exact Option.some.inj e2
          rw [f1] at z0
          rw [f2] at z1
          clear f1 f2 e1 e2
          cases b with
          | true =>
            obtain rfl : b' = true := e3 rfl
            clear e3
            go_wp2_with fail
            go_round
            case rel => exact ⟨k + 1, by omega, by go_num⟩
            case measure => simp only [intOf]; omega
          | false =>
            clear e3
            go_wp2_with fail
            go_round
            case rel => exact ⟨k + 1, by omega, by go_num⟩
            case measure => simp only [intOf]; omega
        · obtain rfl : k = l.length := by omega
          go_wp2_with fail
          go_ret
          exact ⟨rfl, HB7.out⟩
    · have hzq : (Kp.pickErr (p.up q) l != 0) = true := by simpa using hz'
      rw [hz]
      generalize Kp.pickErr (p.up q) l = z at *
      generalize (Kp.pickL p l).length = n6 at *
      generalize (Kp.pickL (p.up q) l).length = n7 at *
      clear hz hz'
      by_cases h0 : n6 = 0
      · have hlq : ((n6 : Int) == 0) = true := by rw [h0]; rfl
        clear h0
        go_wp2_with fail
        go_ret
        exact ⟨rfl, HB7.out⟩
      · have hlq : ((n6 : Int) == 0) = false := by rw [beq_eq_false_iff_ne]; omega
        clear h0
        go_wp2_with fail
        go_ret
        exact ⟨rfl, HB7.out⟩
  · have hzq : (Kp.pickErr p l != 0) = true := by simpa using hz
    rw [Kp.pickL_no hz]
    generalize Kp.pickErr p l = z at *
    clear hz HO6' HO7
    go_wp2_with fail
    go_ret
    exact ⟨rfl, HB7.out⟩

end Go.Proofs.YtemcakegbeaeaaaDoor
