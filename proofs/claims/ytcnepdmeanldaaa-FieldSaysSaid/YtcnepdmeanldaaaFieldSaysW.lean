/-
  The walk of lumlaw.FieldSays: it returns true.
-/
import Derived.Test.YtcnepdmeanldaaaFdOpen
import Derived.Test.YtcnepdmeanldaaaWf32
namespace Go.Proofs.Ytcnepdmeanldaaa
open Go.RowKit
set_option maxRecDepth 4000

set_option maxHeartbeats 4000000 in
theorem fieldSays_of (a b : Nat) (n : Int) (sa su : Option Addr) (ca cu : Nat) (l m : List Nat) (p i q s d : Nat) (er f g : Int) (w : World)
    (hv : Hid (Bys w (.slice sa l.length ca) l)) (hu : Hid (Bys w (.slice su m.length cu) m)) (hl : l.length ≤ 140737488351232) (bl : Hid (Fd.Bs l)) (bm : Hid (Fd.Bs m))
    (hn : n < 0 ∧ p = 0 ∧ er = 1 ∨ 0 ≤ n ∧ er = 0)
    (HI : Hid (((a : Int) == 0) = true ∧ ((a : Int) != 0) = false ∧ (f == 1) = true ∧ (f == 0) = false ∨ ((a : Int) == 0) = false ∧ ((a : Int) != 0) = true ∧ (f == 1) = false ∧ (f == 0) = true))
    (HD : Hid (l.length ≠ m.length ∧ d = 0 ∧ g = 1 ∨ l.length = m.length ∧ g = 0)) (HDv : Hid (l.length = m.length → d = Fd.dt l m l.length))
    (cPow : ∀ W, Calls Try.prog 8 #[.int .u8 a, .int .i64 n] W fun e w' => e = .returned (.tuple #[.int .u8 p, .int .i64 er]) ∧ w' = W)
    (cR : 0 ≤ n → ∀ W, Calls Try.prog 9 #[.int .u8 a, .int .i64 n] W fun e w' => e = .returned (.int .u8 p) ∧ w' = W)
    (cInv : ∀ W, Calls Try.prog 10 #[.int .u8 a] W fun e w' => e = .returned (.tuple #[.int .u8 i, .int .i64 f]) ∧ w' = W)
    (cDot : Calls Try.prog 11 #[.slice sa l.length ca, .slice su m.length cu] w fun e w' => e = .returned (.tuple #[.int .u8 d, .int .i64 g]) ∧ Below w.heap.size w w')
    (cM : ∀ W, Calls Try.prog 13 #[.int .u8 a, .int .u8 b] W fun e w' => e = .returned (.int .u8 q) ∧ w' = W)
    (cRM : ∀ W, Calls Try.prog 12 #[.int .u8 a, .int .u8 b] W fun e w' => e = .returned (.int .u8 q) ∧ w' = W)
    (cRI : ∀ W, Calls Try.prog 14 #[.int .u8 a] W fun e w' => e = .returned (.int .u8 i) ∧ w' = W)
    (cAt : ∀ W, Below w.heap.size w W → Calls Try.prog 15 #[.slice sa l.length ca, .int .u8 a] W fun e w' => e = .returned (.int .u8 s) ∧ Below W.heap.size W w')
    (cRAt : ∀ W, Below w.heap.size w W → Calls Try.prog 16 #[.slice sa l.length ca, .int .u8 a] W fun e w' => e = .returned (.int .u8 s) ∧ w' = W) :
    Calls Try.prog 3 #[.int .u8 a, .int .u8 b, .int .i64 n, .slice sa l.length ca, .slice su m.length cu] w fun e w' => e = .returned (.bool true) ∧ Below w.heap.size w w' := by
  go_enter Try.func3, Try.ntmps3
  go_wp2_with fail
  refine (cPow _).mono ?_
  rintro e y0 ⟨rfl, hy⟩
  obtain rfl := hy.symm
  clear hy cPow
  go_upto_if 26 with fail
  go_cut [11] from 23 (fun x wx => x = .int .u8 p ∧ wx = w)
  case first =>
    clear cM cRM cRI cAt cRAt cInv cDot
    rcases hn with ⟨hn, rfl, rfl⟩ | ⟨hn, rfl⟩
    · go_wp2_with fail
      go_meet
      exact ⟨rfl, rfl⟩
    · have cR' := cR hn
      have hn' : ¬ n < 0 := by omega
      clear cR
      go_wp2_with fail
      refine (cR' _).mono ?_
      rintro e y0 ⟨rfl, hy⟩
      obtain rfl := hy.symm
      clear hy
      go_wp2_with fail
      go_meet
      exact ⟨rfl, rfl⟩
  case rest =>
    obtain ⟨rfl, hw⟩ := hcut
    obtain rfl := hw.symm
    clear hw
    clear cR hn
    go_wp2_with fail
    refine (cInv _).mono ?_
    rintro e y1 ⟨rfl, hy⟩
    obtain rfl := hy.symm
    clear hy cInv
    go_wp2_with fail
    refine cDot.mono ?_
    rintro e w1 ⟨rfl, hb1⟩
    have HB : Hid (Below w.heap.size w w1) := hb1
    clear hb1 cDot
    go_upto_if 57 with fail
    go_cut [17, 18] from 53 (fun x y wx => Hid (Below w.heap.size w wx))
    case first =>
      clear cM cRM cRI cAt cRAt HI
      rcases HD.out with ⟨h1, rfl, rfl⟩ | ⟨h1, rfl⟩
      · have hq : ((l.length : Int) != (m.length : Int)) = true := by rw [bne_iff_ne]; omega
        clear HD h1
        go_wp2_with fail
        go_meet
        exact HB
      · have hq : ((l.length : Int) != (m.length : Int)) = false := by rw [bne_eq_false_iff_eq]; omega
        have HH : Hid (l.length = m.length) := h1
        clear h1
        go_wp2_with fail
        clear HD hq
        go_loopw [17, 66] (fun s i wr => ∃ j : Nat, j ≤ l.length ∧ i = .int .i64 j ∧ s = .int .u8 (Fd.dt l m j : Nat) ∧ Hid (Below w.heap.size w wr)) (fun _ i _ => l.length - (intOf i).toNat)
        case atStart => exact ⟨0, by omega, rfl, rfl, HB⟩
        case round =>
          clear HB
          obtain ⟨j, hj, rfl, rfl, HB⟩ := hrel
          by_cases hlt : j < l.length
          · obtain ⟨bk, o, rfl, hbk, c0⟩ := (hv.out.below (Nat.le_refl _) HB.out).get j hlt
            obtain ⟨bc, oc, rfl, hbc, c1⟩ := (hu.out.below (Nat.le_refl _) HB.out).get j (by have := HH.out; omega)
            have hltm : j < m.length := by have := HH.out; omega
            have hM : ∀ X : Since wr.heap.size wr, Calls Try.prog 12 #[.int .u8 (l.getD j 0 : Nat), .int .u8 (m.getD j 0 : Nat)] X.val fun e w'' => e = .returned (.int .u8 (Fd.M (l.getD j 0) (m.getD j 0) : Nat)) ∧ ∃ Y : Since wr.heap.size wr, w'' = Y.val := fun X =>
              quiet_since X ((rmul_any _ _ X.val (Fd.bs_get bl.out j) (Fd.bs_get bm.out j)).mono fun _ w' ⟨he, hw⟩ => ⟨he, by rw [hw]; exact Below.refl _ _⟩)
            have hx := u8_xor_nat _ _ (Fd.dt_lt (m := m) bl.out j) (Fd.M_lt (Fd.bs_get bl.out j) (m.getD j 0))
            have HN : Hid (Fd.dt l m (j + 1) = Fd.dt l m j ^^^ Fd.M (l.getD j 0) (m.getD j 0)) := rfl
            have x1 : ∀ X : Since wr.heap.size wr, X.val.cell? ⟨bk, o + j, none⟩ = some (.int .u8 (l.getD j 0 : Nat)) := fun X => (X.property.cell (p := ⟨bk, o + j, none⟩) hbk).trans c0
            have x2 : ∀ X : Since wr.heap.size wr, X.val.cell? ⟨bc, oc + j, none⟩ = some (.int .u8 (m.getD j 0 : Nat)) := fun X => (X.property.cell (p := ⟨bc, oc + j, none⟩) hbc).trans c1
            generalize l.getD j 0 = n1 at *
            generalize m.getD j 0 = q1 at *
            generalize Fd.dt l m j = T at *
            generalize Fd.M n1 q1 = p1 at *
            have hne : Nonempty (Since wr.heap.size wr) := ⟨⟨wr, Below.refl _ _⟩⟩
            clear c0 c1
            go_wp2_with fail
            refine wp_region_since (B := wr.heap.size) (W0 := wr) (by kernel_rfl) (by kernel_rfl) (Below.refl _ _) ?_
            repeat (go_big_quiet_step (fail))
            go_big_quiet_step (exact hM _)
            repeat (go_big_quiet_step (fail))
            refine wpQuiet_nil ?_
            rintro w7 ⟨U, rfl⟩
            have HB3 : Hid (Below w.heap.size w U.val) := HB.out.trans (U.property.mono HB.out.size)
            generalize U.val = w7 at *
            clear x1 x2 hne HB hM
            go_wp2_with fail
            go_roundw
            case rel => exact ⟨j + 1, by omega, by go_num, by rw [HN.out, ← hx], HB3⟩
            case measure => simp only [intOf]; omega
          · obtain rfl : j = l.length := by omega
            rw [← HDv.out HH.out]
            clear hv hu HDv bl bm
            go_wp2_with fail
            go_meet
            exact HB
    case rest =>
      clear HB HD HDv hv hu bl bm
      have HB : Hid (Below w.heap.size w wc) := hcut
      clear hcut
      rcases HI.out with ⟨i1, i2, i3, i4⟩ | ⟨i1, i2, i3, i4⟩
      all_goals
        clear HI
        go_wp2_with fail
        refine (cM _).mono ?_
        rintro e x1 ⟨rfl, rfl⟩
        go_wp2_with fail
        refine (cRM _).mono ?_
        rintro e x2 ⟨rfl, rfl⟩
        go_wp2_with fail
        refine (cRI _).mono ?_
        rintro e x3 ⟨rfl, rfl⟩
        go_wp2_with fail
        refine (cAt _ HB.out).mono ?_
        rintro e x4 ⟨rfl, y4⟩
        have HB4 : Hid (Below w.heap.size w x4) := HB.out.trans (y4.mono HB.out.size)
        clear y4
        go_wp2_with fail
        refine (cRAt _ HB4.out).mono ?_
        rintro e x5 ⟨rfl, rfl⟩
        go_wp2_with fail
        go_ret
        exact ⟨rfl, HB4.out⟩

theorem fieldSays_walk (a0 : Int) (a1 : Int) (a2 : Int) (v3 : Value) (l3 : List Nat) (v4 : Value) (l4 : List Nat) (w0 : (Lit.int .u8 a0).wf = true) (w1 : (Lit.int .u8 a1).wf = true) (w2 : (Lit.int .i64 a2).wf = true) (z3 : l3.length ≤ 140737488351232) (f3 : Fd.Bs l3) (_z4 : l4.length ≤ 140737488351232) (f4 : Fd.Bs l4) (w : World) (t3 : Bys w v3 l3) (t4 : Bys w v4 l4) :
    Calls Try.prog 3 #[.int .u8 a0, .int .u8 a1, .int .i64 a2, v3, v4] w fun e w' => e = .returned (.bool true) ∧ Below w.heap.size w w' := by
  obtain ⟨a, rfl, ha⟩ := wf_byte w0
  obtain ⟨b, rfl, hb⟩ := wf_byte w1
  have k2 := wf_i64 w2
  obtain ⟨sa, ca, rfl⟩ := t3.slice
  obtain ⟨su, cu, rfl⟩ := t4.slice
  have hA : ∃ (p : Nat) (er : Int), (a2 < 0 ∧ p = 0 ∧ er = 1 ∨ 0 ≤ a2 ∧ er = 0) ∧ (∀ W, Calls Try.prog 8 #[.int .u8 a, .int .i64 a2] W fun e w' => e = .returned (.tuple #[.int .u8 p, .int .i64 er]) ∧ w' = W) ∧
      (0 ≤ a2 → ∀ W, Calls Try.prog 9 #[.int .u8 a, .int .i64 a2] W fun e w' => e = .returned (.int .u8 p) ∧ w' = W) := by
    by_cases h : a2 < 0
    · exact ⟨0, 1, .inl ⟨h, rfl, rfl⟩, fun W => pow_bad a a2 W h, fun h' => by omega⟩
    · obtain ⟨n, rfl⟩ := Int.eq_ofNat_of_zero_le (a := a2) (by omega)
      exact ⟨_, 0, .inr ⟨by omega, rfl⟩, fun W => pow_any a n W ha (by omega), fun _ W => rpow_any a n W ha (by omega)⟩
  have hI : ∃ f : Int, Hid (((a : Int) == 0) = true ∧ ((a : Int) != 0) = false ∧ (f == 1) = true ∧ (f == 0) = false ∨ ((a : Int) == 0) = false ∧ ((a : Int) != 0) = true ∧ (f == 1) = false ∧ (f == 0) = true) ∧ (∀ W, Calls Try.prog 10 #[.int .u8 a] W fun e w' => e = .returned (.tuple #[.int .u8 (Fd.inv a : Nat), .int .i64 f]) ∧ w' = W) := by
    by_cases h : a = 0
    · subst h
      refine ⟨1, .inl ⟨rfl, rfl, rfl, rfl⟩, fun W => ?_⟩
      rw [Fd.inv_zero]
      exact inv_bad W
    · exact ⟨0, .inr ⟨by rw [beq_eq_false_iff_ne]; omega, by rw [bne_iff_ne]; omega, rfl, rfl⟩, fun W => inv_any a W ha h⟩
  have hD : ∃ (d : Nat) (g : Int), Hid (l3.length ≠ l4.length ∧ d = 0 ∧ g = 1 ∨ l3.length = l4.length ∧ g = 0) ∧ Hid (l3.length = l4.length → d = Fd.dt l3 l4 l3.length) ∧ Calls Try.prog 11 #[.slice sa l3.length ca, .slice su l4.length cu] w fun e w' => e = .returned (.tuple #[.int .u8 d, .int .i64 g]) ∧ Below w.heap.size w w' := by
    by_cases h : l3.length = l4.length
    · exact ⟨_, 0, .inr ⟨h, rfl⟩, fun _ => rfl, dot_any _ _ l3 l4 w t3 t4 z3 h.symm f3 f4⟩
    · exact ⟨0, 1, .inl ⟨h, rfl, rfl⟩, fun h' => absurd h' h, (dot_bad _ _ l3 l4 w t3 t4 h).mono fun _ w' ⟨he, hw⟩ => ⟨he, by rw [hw]; exact Below.refl _ _⟩⟩
  obtain ⟨p, er, hn, cPow, cR⟩ := hA
  obtain ⟨f, HI, cInv⟩ := hI
  obtain ⟨d, g, HD, HDv, cDot⟩ := hD
  exact fieldSays_of a b a2 sa su ca cu l3 l4 p _ _ _ d er f g w t3 t4 z3 f3 f4 hn HI HD HDv cPow cR cInv cDot (fun W => mul_any a b W ha hb) (fun W => rmul_any a b W ha hb) (fun W => rinv_any a W ha)
    (fun W hW => at_any _ l3 a W (t3.below (Nat.le_refl _) hW) z3 f3 ha) (fun W hW => rat_any _ l3 a W (t3.below (Nat.le_refl _) hW) z3 f3 ha)
end Go.Proofs.Ytcnepdmeanldaaa
