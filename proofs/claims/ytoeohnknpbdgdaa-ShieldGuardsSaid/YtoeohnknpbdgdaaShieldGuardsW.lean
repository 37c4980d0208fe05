/-
  The walk of lumlaw.ShieldGuards: it returns true.
-/
import Derived.Test.YtoeohnknpbdgdaaShRef
namespace Go.Proofs.Ytoeohnknpbdgdaa
open Go.RowKit
set_option maxRecDepth 4000

set_option maxHeartbeats 1000000 in
theorem shieldGuards_bad (v : Value) (P : List ByteArray) (p : Int) (w : World) (h : Tx w v P) (hl : P.length ≤ 140737488351232) (he : gErr P p ≠ 0) :
    Calls Try.prog 3 #[v, .int .i64 p] w fun e w' => e = .returned (.bool true) ∧ Below w.heap.size w w' := by
  have h1 := guard_bad v P p w h hl he
  have h2 := rguardErr_any v P p w h hl
  generalize gErr P p = Z at *
  have hq : ((Z : Int) != 0) = true := by rw [bne_iff_ne]; omega
  clear h he
  go_enter Try.func3, Try.ntmps3
  go_wp2_with fail
  refine h1.mono ?_
  rintro e u ⟨rfl, hu⟩
  obtain rfl := hu.symm
  clear hu h1
  go_wp2_with fail
  refine h2.mono ?_
  rintro e u ⟨rfl, hu⟩
  obtain rfl := hu.symm
  clear hu h2
  go_wp2_with fail
  go_ret
  exact ⟨rfl, Below.refl _ _⟩

set_option maxHeartbeats 2000000 in
theorem shieldGuards_ok (v : Value) (P : List ByteArray) (p : Nat) (w : World) (h : Tx w v P) (he : gErr P p = 0) :
    Calls Try.prog 3 #[v, .int .i64 p] w fun e w' => e = .returned (.bool true) ∧ Below w.heap.size w w' := by
  obtain ⟨hP, hP2, hp, hp2, hs⟩ := gErr_zero he
  have h1 := guard_ok v P p w h he
  have h2 : ∀ W, Below w.heap.size w W → _ := fun W hW => rguardErr_any v P p W (h.below hW) (by omega)
  rw [he] at h2
  have h3 : ∀ j, j < p → ∀ W, Below w.heap.size w W → _ := fun j hj W hW => rshard_guard v P j _ W (h.below hW) hP hP2 (by omega) (sizes_zero hs) (sizes_le hs)
  obtain ⟨a, c, rfl⟩ := h.slice
  have HL : Hid ((gds P p).length = p ∧ ∀ j, j < p → (gds P p).getD j ByteArray.empty = Fd.guard P j) := ⟨by simp [gds], fun j hj => by
    rw [List.getD_eq_getElem?_getD, List.getElem?_eq_getElem (by simpa [gds] using hj)]
    simp [gds]⟩
  have H3 : Hid (∀ j, j < p → ∀ W, Below w.heap.size w W → Calls Try.prog 9 #[.slice a P.length c, .int .i64 ((P.length + j : Nat) : Int)] W fun e w' => e = .returned (.string (Fd.guard P j)) ∧ Below W.heap.size W w') := h3
  clear h3 h he hs
  generalize gds P p = R at *
  generalize Fd.guard P = G at *
  generalize P.length = N at *
  go_enter Try.func3, Try.ntmps3
  go_wp2_with fail
  refine h1.mono ?_
  rintro e w1 ⟨u, rfl, hown, hb1⟩
  have hx := Tx.of_own hown
  obtain ⟨ua, uc, rfl⟩ := hx.slice
  rw [HL.out.1] at hx ⊢
  have HX : Hid (Tx w1 (.slice ua p uc) R) := hx
  have HB1 : Hid (Below w.heap.size w w1) := hb1
  have h2' := h2 w1 hb1
  clear hown hx hb1 h1 h2
  go_wp2_with fail
  refine h2'.mono ?_
  rintro e w2 ⟨rfl, hu⟩
  obtain rfl := hu.symm
  clear hu h2'
  have hq : ((p : Int) != (p : Int)) = false := bne_self_eq_false ..
  go_wp2_with fail
  go_loopw [38] (fun i wr => ∃ k : Nat, k ≤ p ∧ i = .int .i64 k ∧ Hid (Tx wr (.slice ua p uc) R) ∧ Hid (Below w.heap.size w wr)) (fun i _ => p - (intOf i).toNat)
  case atStart => exact ⟨0, by omega, rfl, HX, HB1⟩
  case round =>
    clear HX HB1
    obtain ⟨k, hk, rfl, HX, HB⟩ := hrel
    by_cases hlt : k < p
    · obtain ⟨bk, o, rfl, hbk, c0⟩ := HX.out.get k (by rw [HL.out.1]; omega)
      rw [HL.out.2 k hlt] at c0
      have hS : ∀ X : Since wr.heap.size wr, Calls Try.prog 9 #[.slice a N c, .int .i64 ((N : Int) + (k : Int))] X.val fun e w'' => e = .returned (.string (G k)) ∧ ∃ Y : Since wr.heap.size wr, w'' = Y.val := fun X =>
        quiet_since X (by have := H3.out k hlt X.val (HB.out.trans (X.property.mono HB.out.size)); rwa [Int.natCast_add] at this)
      have x1 : ∀ X : Since wr.heap.size wr, X.val.cell? ⟨bk, o + k, none⟩ = some (.string (G k)) := fun X => (X.property.cell (p := ⟨bk, o + k, none⟩) hbk).trans c0
      generalize G k = g at *
      have hne : Nonempty (Since wr.heap.size wr) := ⟨⟨wr, Below.refl _ _⟩⟩
      clear c0
      go_wp2_with fail
      refine wp_region_since (B := wr.heap.size) (W0 := wr) (by kernel_rfl) (by kernel_rfl) (Below.refl _ _) ?_
      repeat (go_big_quiet_step (fail))
      go_big_quiet_step (exact hS _)
      repeat (go_big_quiet_step (fail))
      refine wpQuiet_nil ?_
      rintro w7 ⟨U, rfl⟩
      have HB3 : Hid (Below w.heap.size w U.val) := HB.out.trans (U.property.mono HB.out.size)
      have HX3 : Hid (Tx U.val (.slice (some ⟨bk, o, none⟩) p uc) R) := HX.out.below U.property
      generalize U.val = w7 at *
      clear x1 hne HB HX hS
      go_wp2_with fail
      go_roundw
      case rel => exact ⟨k + 1, by omega, by go_num, HX3, HB3⟩
      case measure => simp only [intOf]; omega
    · obtain rfl : k = p := by omega
      go_wp2_with fail
      go_ret
      exact ⟨rfl, HB.out⟩

theorem shieldGuards_walk (v0 : Value) (l0 : List ByteArray) (a1 : Int) (z0 : l0.length ≤ 140737488351232) (_w1 : (Lit.int .i64 a1).wf = true) (w : World) (t0 : Tx w v0 l0) :
    Calls Try.prog 3 #[v0, .int .i64 a1] w fun e w' => e = .returned (.bool true) ∧ Below w.heap.size w w' := by
  by_cases he : gErr l0 a1 = 0
  · obtain ⟨p, rfl⟩ := Int.eq_ofNat_of_zero_le (a := a1) (by have := gErr_zero he; omega)
    exact shieldGuards_ok v0 l0 p w t0 he
  · exact shieldGuards_bad v0 l0 a1 w t0 z0 he
end Go.Proofs.Ytoeohnknpbdgdaa
