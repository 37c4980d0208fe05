/-
  What the law KeepSays gives, where Pick and Check of package keep answer as they are asked to.
-/
import Derived.Test.YtemcakegbeaeaaaDoorKpPicked
import Derived.Deep.RegionWith
import Derived.Deep.QuietTactic
namespace Go.Proofs.YtemcakegbeaeaaaDoor
open Go.RowKit
set_option maxRecDepth 4000

/-- a policy in a block of its own -/
structure Bp (W : World) (b : Nat) (p : Kp.Pol) : Prop where
  c0 : W.cell? ⟨b, 0, none⟩ = some (.int .i64 p.last)
  c1 : W.cell? ⟨b, 1, none⟩ = some (.int .i64 p.days)
  c2 : W.cell? ⟨b, 2, none⟩ = some (.int .i64 p.weeks)
  c3 : W.cell? ⟨b, 3, none⟩ = some (.int .i64 p.months)
  c4 : W.cell? ⟨b, 4, none⟩ = some (.int .i64 p.years)
  lt : b < W.heap.size

theorem Bp.below {W W' : World} {b B : Nat} {p : Kp.Pol} (h : Bp W b p) (hb : Below B W W') (hB : b < B) : Bp W' b p :=
  ⟨(hb.cell (p := ⟨b, 0, none⟩) hB).trans h.c0, (hb.cell (p := ⟨b, 1, none⟩) hB).trans h.c1, (hb.cell (p := ⟨b, 2, none⟩) hB).trans h.c2, (hb.cell (p := ⟨b, 3, none⟩) hB).trans h.c3, (hb.cell (p := ⟨b, 4, none⟩) hB).trans h.c4, Nat.lt_of_lt_of_le h.lt hb.size⟩

theorem Bp.past {W W' : World} {b : Nat} {p : Kp.Pol} (h : Bp W b p) (hb : Below W.heap.size W W') : Bp W' b p := h.below hb h.lt

theorem Bp.new (w : World) (p : Kp.Pol) (t : TypeId) : Bp (w.alloc (.cells (polC p) t)) w.heap.size p :=
  ⟨by simp [polC], by simp [polC], by simp [polC], by simp [polC], by simp [polC], by simp⟩

set_option maxHeartbeats 4000000 in
theorem keepSays_of (p : Kp.Pol) (v : Value) (l : List Int) (w : World) (h : Ints w v l) (hl : l.length ≤ 140737488351232) (hP : PickOk w) (hC : CheckOk) :
    Calls Tryd.prog 3 #[polV p, v] w fun e w' => e = .returned (.bool true) ∧ Below w.heap.size w w' := by
  obtain ⟨W1, hW1⟩ : ∃ W1, W1 = w.alloc (.cells (polC p) 23) := ⟨_, rfl⟩
  have HB1 : Hid (Below w.heap.size w W1) := by rw [hW1]; exact (Below.refl _ w).alloc (Nat.le_refl _) _
  have HQ1 : Hid (Bp W1 w.heap.size p) := by rw [hW1]; exact Bp.new w p _
  have hk := fun V (hb : Below w.heap.size w V) => hP V hb p v l (h.below (Nat.le_refl _) hb) hl
  have hr := fun V (hb : Below w.heap.size w V) => rpick_any p v l V (h.below (Nat.le_refl _) hb) hl
  have hc := fun V => hC p V
  have hrc := fun V => rpol_any p V
  generalize Kp.pickErr p l = z at *
  have hln : (Kp.pickL p l).length ≤ 140737488351232 := by
    unfold Kp.pickL; split
    · rw [Kp.kept_length]; exact hl
    · simp
  generalize Kp.pickL p l = R at *
  generalize Kp.pErr p = y at *
  unfold polV at hk hr hc hrc ⊢
  unfold polC at hW1
  have hq := HQ1.out
  obtain ⟨c0, c1, c2, c3, c4, _⟩ := hq
  clear hP hC h
  go_enter Tryd.func3, Tryd.ntmps3
  go_upto_region 1 with fail
  rw [← hW1]
  clear hW1
  go_wp2_with fail
  refine (hk _ HB1.out).mono ?_
  rintro e w2 ⟨u2, rfl, o2, b2⟩
  have HB2 : Hid (Below w.heap.size w w2) := HB1.out.trans (b2.mono HB1.out.size)
  have HQ2 : Hid (Bp w2 w.heap.size p) := HQ1.out.past b2
  have HO2 : Hid (Bls w2 u2 R) := Bls.of_own o2
  have hq := HQ2.out
  clear c0 c1 c2 c3 c4
  obtain ⟨c0, c1, c2, c3, c4, _⟩ := hq
  clear HQ1 HB1 o2 b2 hk
  go_wp2_with fail
  refine (hr _ HB2.out).mono ?_
  rintro e w3 ⟨u3, rfl, o3, b3⟩
  have HB3 : Hid (Below w.heap.size w w3) := HB2.out.trans (b3.mono HB2.out.size)
  have HQ3 : Hid (Bp w3 w.heap.size p) := HQ2.out.past b3
  have HO3 : Hid (Bls w3 u3 R) := Bls.of_own o3
  have HO2' : Hid (Bls w3 u2 R) := HO2.out.past b3
  clear c0 c1 c2 c3 c4 HB2 HQ2 HO2 o3 b3 hr
  have k0 : ∀ X : Since w3.heap.size w3, X.val.cell? ⟨w.heap.size, 0, none⟩ = some (.int .i64 p.last) := fun X => (HQ3.out.past X.property).c0
  have k1 : ∀ X : Since w3.heap.size w3, X.val.cell? ⟨w.heap.size, 1, none⟩ = some (.int .i64 p.days) := fun X => (HQ3.out.past X.property).c1
  have k2 : ∀ X : Since w3.heap.size w3, X.val.cell? ⟨w.heap.size, 2, none⟩ = some (.int .i64 p.weeks) := fun X => (HQ3.out.past X.property).c2
  have k3 : ∀ X : Since w3.heap.size w3, X.val.cell? ⟨w.heap.size, 3, none⟩ = some (.int .i64 p.months) := fun X => (HQ3.out.past X.property).c3
  have k4 : ∀ X : Since w3.heap.size w3, X.val.cell? ⟨w.heap.size, 4, none⟩ = some (.int .i64 p.years) := fun X => (HQ3.out.past X.property).c4
  have g1 : ∀ X : Since w3.heap.size w3, Calls Tryd.prog 12 #[u2, u3] X.val fun e w' => e = .returned (.bool true) ∧ Below X.val.heap.size X.val w' := fun X => equal_bools u2 u3 R X.val (HO2'.out.past X.property) (HO3.out.past X.property) hln
  have hne : Nonempty (Since w3.heap.size w3) := ⟨⟨w3, Below.refl _ _⟩⟩
  clear HQ3 HO3 HO2'
  go_wp2_with fail
  refine wp_region_since (B := w3.heap.size) (W0 := w3) (by kernel_rfl) (by kernel_rfl) (Below.refl _ _) ?_
  repeat (go_big_quiet_step (fail))
  go_big_quiet_step (exact quiet_since _ (hc _))
  repeat (go_big_quiet_step (fail))
  go_big_quiet_step (exact quiet_since _ (hrc _))
  repeat (go_big_quiet_step (fail))
  go_big_quiet_step (exact quiet_since _ (g1 _))
  repeat (go_big_quiet_step (fail))
  refine wpQuiet_nil ?_
  rintro w7 ⟨U, rfl⟩
  have hB := HB3.out.trans (U.property.mono HB3.out.size)
  generalize U.val = w7 at *
  clear k0 k1 k2 k3 k4 g1 hne HB3
  go_wp2_with fail
  go_ret
  exact ⟨rfl, hB⟩

end Go.Proofs.YtemcakegbeaeaaaDoor
