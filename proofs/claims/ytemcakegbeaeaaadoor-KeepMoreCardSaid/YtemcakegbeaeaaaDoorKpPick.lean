/-
  What Pick of package keep answers.
-/
import Derived.Test.YtemcakegbeaeaaaDoorKpNewest
import Derived.Test.YtemcakegbeaeaaaDoorKeepSaysOf
import Derived.Test.YtemcakegbeaeaaaDoorKpRPick
namespace Go.Proofs.YtemcakegbeaeaaaDoor
open Go.RowKit
set_option maxRecDepth 4000

theorem cf_week (args : Array Value) (V : World) : (callFunc 19 args).run Tryd.prog V = .ok (.enter 19 args) V := by simp [callFunc, go_sem, Tryd.f19]
theorem cf_month (args : Array Value) (V : World) : (callFunc 20 args).run Tryd.prog V = .ok (.enter 20 args) V := by simp [callFunc, go_sem, Tryd.f20]
theorem cf_year (args : Array Value) (V : World) : (callFunc 21 args).run Tryd.prog V = .ok (.enter 21 args) V := by simp [callFunc, go_sem, Tryd.f21]

theorem run_min2 (a b : Int) (ts : Array TypeId) (t : TypeId) (W : World) : (Builtin.min_ ts t #[.int .i64 a, .int .i64 b]).run Tryd.prog W = .ok (.int .i64 (min a b)) W := by
  simp [Builtin.min_, Builtin.min2, if_min]

/-- Pick at work: the policy's box, what is kept so far -/
structure PI (W V : World) (g n : Nat) (p : Kp.Pol) (f : Nat → Bool) : Prop where
  bel : Below W.heap.size W V
  out : V.ownsRow g 4 1 (.slice (some ⟨g, 0, none⟩) n n) n ((fl n f).map Tb)
  box : Bp V W.heap.size p
  ne : W.heap.size < g

theorem PI.next {W V V' : World} {g n : Nat} {p : Kp.Pol} {f f' : Nat → Bool} (h : PI W V g n p f) (hb : Below g V V') (ho : V'.ownsRow g 4 1 (.slice (some ⟨g, 0, none⟩) n n) n ((fl n f').map Tb)) : PI W V' g n p f' := by
  have hn := h.ne
  exact ⟨h.bel.trans (hb.mono (by omega)), ho, h.box.below hb hn, hn⟩

theorem PI.ext {W V : World} {g n : Nat} {p : Kp.Pol} {f f' : Nat → Bool} (h : PI W V g n p f) (he : ∀ i, i < n → f i = f' i) : PI W V g n p f' := ⟨h.bel, by rw [← fl_ext he]; exact h.out, h.box, h.ne⟩

set_option maxHeartbeats 8000000 in
theorem kpick_any (w : World) (hLw : Lens w) : PickOk w := by
  intro W hwW p v l h hl
  have hL : Lens W := lens_on hLw hwW (Nat.le_refl _)
  have hc := fun V => kcheck_any p V
  obtain ⟨W1, hW1⟩ : ∃ W1, W1 = W.alloc (.cells (polC p) 23) := ⟨_, rfl⟩
  have HB1 : Hid (Below W.heap.size W W1) := by rw [hW1]; exact (Below.refl _ W).alloc (Nat.le_refl _) _
  have HQ1 : Hid (Bp W1 W.heap.size p) := by rw [hW1]; exact Bp.new W p _
  have hm2 := run_min2
  obtain ⟨j0, hj, hy0, hy1, hy2⟩ := info_parts info_bool
  obtain ⟨a, c, rfl⟩ := h.slice
  have ht := fun V (hb : Below W.heap.size W V) => ktimes_any _ l V (h.below (Nat.le_refl _) hb) hl
  unfold polV at hc ⊢
  unfold polC at hW1
  obtain ⟨c0, c1, c2, c3, c4, _⟩ := HQ1.out
  rcases Kp.pErr_two p with hp | hp
  · have hE : Kp.pickErr p l = Kp.tErr l := by unfold Kp.pickErr; rw [hp, if_neg (by simp)]
    rw [hp] at hc
    by_cases htz : Kp.tErr l = 0
    · have hE0 : Kp.pickErr p l = 0 := hE.trans htz
      obtain ⟨hpok, hl200, hchk⟩ := Kp.pick_ok hE0
      rw [htz] at ht
      rw [hE0, Kp.pickL_ok hE0, Kp.kept_length]
      have HK : Hid (Kp.kept p l = fl l.length (fun i => decide (Kp.keepTo p l 4 i))) := rfl
      obtain ⟨⟨a1, a2⟩, ⟨b1, b2⟩, ⟨d1, d2⟩, ⟨e1, e2⟩, ⟨f1, f2⟩⟩ := hpok
      have n0 := fun V f g (hb : Below W.heap.size W V) (hg : W.heap.size ≤ g) ho => knew_any 18 0 p.days l f g a c W V cf_day (fun n V _ _ => daySpan_any n V) h hb hg hL b1 b2 hl200 hchk ho
      have n1 := fun V f g (hb : Below W.heap.size W V) (hg : W.heap.size ≤ g) ho => knew_any 19 1 p.weeks l f g a c W V cf_week (fun n V hn _ => weekSpan_any n V hn) h hb hg hL d1 d2 hl200 hchk ho
      have n2 := fun V f g (hb : Below W.heap.size W V) (hg : W.heap.size ≤ g) ho => knew_any 20 2 p.months l f g a c W V cf_month (fun n V hn hL => monthSpan_any n V hn hL) h hb hg hL e1 e2 hl200 hchk ho
      have n3 := fun V f g (hb : Below W.heap.size W V) (hg : W.heap.size ≤ g) ho => knew_any 21 3 p.years l f g a c W V cf_year (fun n V hn hL => yearSpan_any n V hn hL) h hb hg hL f1 f2 hl200 hchk ho
      clear hE hE0 hp htz hchk h b1 b2 d1 d2 e1 e2 f1 f2 hwW hLw hL
      go_enter Tryd.func8, Tryd.ntmps8
      go_upto_region 1 with fail
      rw [← hW1]
      clear hW1
      go_wp2_with fail
      refine (hc _).mono ?_
      rintro e w2 ⟨rfl, b2⟩
      have HB2 : Hid (Below W.heap.size W w2) := HB1.out.trans (b2.mono HB1.out.size)
      have HQ2 : Hid (Bp w2 W.heap.size p) := HQ1.out.past b2
      clear c0 c1 c2 c3 c4 b2 HB1 HQ1 hc
      go_wp2_with fail
      refine (ht _ HB2.out).mono ?_
      rintro e w3 ⟨rfl, rfl⟩
      clear ht
      obtain ⟨c0, c1, c2, c3, c4, hz3⟩ := HQ2.out
      go_upto_region 8 with (at_make; refine wpList_make_full _ rfl (.tmp 21) (.tmp 21) 25 rfl w3.heap.size 4 j0 (.bool false) 1 Tryd.underlying25 hj hy0 hy1 .i64 .i64 _ _ l.length rfl rfl rfl rfl (by rw [hy2]; omega) (by unfold maxLen; omega) (Nat.le_refl _) ?_; intro w4 hown hgrow)
      have hown1 := made_falses hown
      rw [fl_false] at hown1
      have HB4 : Hid (Below w3.heap.size w3 w4) := (Below.refl _ w3).grown hgrow (Nat.le_refl _) (fun k hk => by cases hk)
      obtain ⟨N, hN⟩ : ∃ N : Nat, N = min p.last.toNat l.length := ⟨_, rfl⟩
      have hNm : min p.last (l.length : Int) = (N : Int) := by omega
      have HN : Hid (N = min p.last.toNat l.length ∧ 0 ≤ p.last) := ⟨hN, a1⟩
      have hNl : N ≤ l.length := by omega
      have HI0 : Hid (PI W w4 w3.heap.size l.length p (fun i => decide (i < 0))) := by
        have hx := HQ2.out
        refine ⟨HB2.out.trans (HB4.out.mono HB2.out.size), ?_, hx.past HB4.out, hz3⟩
        rw [← fl_ext (f := fun _ => false) (by intro i _; simp)]
        exact hown1
      have hmn := fun ts t V => hm2 p.last l.length ts t V
      rw [hNm] at hmn
      clear c0 c1 c2 c3 c4
      obtain ⟨c0, -, -, -, -, hz4⟩ := HI0.out.box
      clear hown hgrow hown1 hm2 hN a1 a2 hNm HB4 HQ2
      go_wp2_with fail
      go_loopw [28] (fun i wr => ∃ k : Nat, k ≤ N ∧ i = .int .i64 k ∧ Hid (PI W wr w3.heap.size l.length p (fun i => decide (i < k)))) (fun i _ => N - (intOf i).toNat)
      case atStart => exact ⟨0, by omega, rfl, HI0⟩
      case round =>
        obtain ⟨k, hk, rfl, HI⟩ := hrel
        by_cases hlt : k < N
        · have hkl : k < l.length := by omega
          have x1 := bool_at HI.out.out k (by rw [fl_length]; exact hkl)
          have x2 := HI.out.out.frozenAt k
          generalize (fl l.length (fun i => decide (i < k)))[k]'(by rw [fl_length]; exact hkl) = x at *
          have HI2 : Hid (PI W (wr.setCell ⟨w3.heap.size, k, none⟩ (.bool true)) w3.heap.size l.length p (fun i => decide (i < k + 1))) := by
            have ho := bool_store HI.out.out k true
            rw [fl_set] at ho
            have hb : Below w3.heap.size wr (wr.setCell ⟨w3.heap.size, k, none⟩ (.bool true)) := (Below.refl w3.heap.size wr).setCell (Nat.le_refl _) _
            refine (HI.out.next (f' := fun i => if i = k then true else decide (i < k)) hb ho).ext fun i _ => ?_
            by_cases e : i = k
            · subst e; simp
            · have : (i < k + 1) ↔ (i < k) := by omega
              rw [if_neg e]
              simp [this]
          clear HI
          go_wp2_with fail
          go_roundw
          case rel => exact ⟨k + 1, by omega, by go_num, HI2⟩
          case measure => simp only [intOf]; omega
        · obtain rfl : k = N := by omega
          have HP0 : Hid (PI W wr w3.heap.size l.length p (fun i => decide (Kp.keepTo p l 0 i))) := HI.out.ext fun i hi => by
            rw [Kp.keep_last]
            obtain ⟨e1, e2⟩ := HN.out
            have : (i < k) ↔ ((i : Int) < p.last) := by omega
            simp [this]
          clear HI c0
          have hg0 : W.heap.size ≤ w3.heap.size := Nat.le_of_lt HP0.out.ne
          obtain ⟨-, c1, -, -, -, hz⟩ := HP0.out.box
          go_wp2_with fail
          refine (n0 _ _ _ HP0.out.bel hg0 HP0.out.out).mono ?_
          rintro e w5 ⟨rfl, o5, b5⟩
          have HP1 : Hid (PI W w5 w3.heap.size l.length p (fun i => decide (Kp.keepTo p l 1 i))) := (HP0.out.next b5 o5).ext fun i hi => Kp.keep_nw p l 0 hi
          clear HP0 c1 hz o5 b5 n0
          obtain ⟨-, -, c2, -, -, hz⟩ := HP1.out.box
          go_wp2_with fail
          refine (n1 _ _ _ HP1.out.bel hg0 HP1.out.out).mono ?_
          rintro e w6 ⟨rfl, o5, b5⟩
          have HP2 : Hid (PI W w6 w3.heap.size l.length p (fun i => decide (Kp.keepTo p l 2 i))) := (HP1.out.next b5 o5).ext fun i hi => Kp.keep_nw p l 1 hi
          clear HP1 c2 hz o5 b5 n1
          obtain ⟨-, -, -, c3, -, hz⟩ := HP2.out.box
          go_wp2_with fail
          refine (n2 _ _ _ HP2.out.bel hg0 HP2.out.out).mono ?_
          rintro e w7 ⟨rfl, o5, b5⟩
          have HP3 : Hid (PI W w7 w3.heap.size l.length p (fun i => decide (Kp.keepTo p l 3 i))) := (HP2.out.next b5 o5).ext fun i hi => Kp.keep_nw p l 2 hi
          clear HP2 c3 hz o5 b5 n2
          obtain ⟨-, -, -, -, c4, hz⟩ := HP3.out.box
          go_wp2_with fail
          refine (n3 _ _ _ HP3.out.bel hg0 HP3.out.out).mono ?_
          rintro e w8 ⟨rfl, o5, b5⟩
          have HP4 : Hid (PI W w8 w3.heap.size l.length p (fun i => decide (Kp.keepTo p l 4 i))) := (HP3.out.next b5 o5).ext fun i hi => Kp.keep_nw p l 3 hi
          clear HP3 c4 hz o5 b5 n3
          go_wp2_with fail
          go_ret2
          exact ⟨_, rfl, row_lower (by rw [HK.out]; exact HP4.out.out) hg0, HP4.out.bel⟩
    · have hE1 : Kp.pickErr p l ≠ 0 := by rw [hE]; exact htz
      rw [Kp.pickL_no hE1, hE]
      have hbq : (Kp.tErr l != 0) = true := by simpa using htz
      clear hE hE1
      generalize Kp.tErr l = z at *
      clear h
      go_enter Tryd.func8, Tryd.ntmps8
      go_upto_region 1 with fail
      rw [← hW1]
      clear hW1
      go_wp2_with fail
      refine (hc _).mono ?_
      rintro e w2 ⟨rfl, b2⟩
      have HB2 : Hid (Below W.heap.size W w2) := HB1.out.trans (b2.mono HB1.out.size)
      clear b2 c0 c1 c2 c3 c4
      go_wp2_with fail
      refine (ht _ HB2.out).mono ?_
      rintro e w3 ⟨rfl, rfl⟩
      clear ht
      go_wp2_with fail
      go_ret2
      exact ⟨_, rfl, World.ownsRow_nil _ _ _ _, HB2.out⟩
  · have hE1 : Kp.pickErr p l = 1 := by unfold Kp.pickErr; rw [hp, if_pos (by decide)]
    rw [Kp.pickL_no (by rw [hE1]; decide), hE1]
    rw [hp] at hc
    clear hE1 hp h ht
    go_enter Tryd.func8, Tryd.ntmps8
    go_upto_region 1 with fail
    rw [← hW1]
    clear hW1
    go_wp2_with fail
    refine (hc _).mono ?_
    rintro e w2 ⟨rfl, b2⟩
    have HB2 : Hid (Below W.heap.size W w2) := HB1.out.trans (b2.mono HB1.out.size)
    clear b2 c0 c1 c2 c3 c4
    go_wp2_with fail
    go_ret2
    exact ⟨_, rfl, World.ownsRow_nil _ _ _ _, HB2.out⟩

end Go.Proofs.YtemcakegbeaeaaaDoor
