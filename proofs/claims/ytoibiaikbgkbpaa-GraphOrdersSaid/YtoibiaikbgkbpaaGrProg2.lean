/-
  What Reach and Order of package graph answer.
-/
import Derived.Test.YtoibiaikbgkbpaaGrProg
namespace Go.Proofs.Ytoibiaikbgkbpaa
open Go.RowKit
set_option maxRecDepth 4000

set_option maxHeartbeats 1000000 in
theorem greach_any (v u : Value) (K : List (List Int)) (R : List Int) (w : World) (h : Kz w v K) (hr : Ints w u R) (hl : K.length ≤ 9223372036854775807) (hll : ∀ i, (Gr.kd K i).length ≤ 9223372036854775807) (hRl : R.length ≤ 9223372036854775807) :
    Calls Try.prog 7 #[v, u] w fun e w' => ∃ x, e = .returned (.tuple #[x, .int .i64 (Gr.rErr K R)]) ∧ w'.ownsRow w.heap.size 4 1 x (Gr.reach K R).length ((Gr.reach K R).map Tb) ∧ Below w.heap.size w w' := by
  obtain ⟨j0, hj, hy0, hy1, hy2⟩ := info_parts info_bool
  have hg := gcheck_any v K w h hl hll
  obtain ⟨va, vc, rfl⟩ := h.slice
  by_cases h0 : Gr.gErr K = 0
  · have hK := Gr.gErr_ok h0
    have hn := hK.few
    have hp := glist_any u R K.length w hr hRl
    have hE : Gr.rErr K R = Gr.pErr K.length R := by unfold Gr.rErr; rw [h0, if_neg (by simp)]
    rw [h0] at hg
    by_cases h1 : Gr.pErr K.length R = 0
    · obtain ⟨p1, p2⟩ := Gr.pErr_ok h1
      have hE0 : Gr.rErr K R = 0 := hE.trans h1
      have hR : Gr.reach K R = Gr.rch K R := if_pos hE0
      have hre := fun W (hW : FR w W K.length (fun _ => false)) => greach_all _ K w h hK (K.length + 1) _ u R W (by omega) hW hr p1 p2
      have HRc : Hid (∀ g W, Gr.Ra K (fun _ => false) R g → FR w W K.length g → W.ownsRow w.heap.size 4 1 (.slice (some ⟨w.heap.size, 0, none⟩) K.length K.length) (Gr.rch K R).length ((Gr.rch K R).map Tb) ∧ Below w.heap.size w W) := fun g W hg hW => by
        have := (hW.ext (g := Gr.rj K K.length (Gr.rt R)) fun i hi => Gr.ra_rch hK p2 hg hi)
        refine ⟨?_, this.bel⟩
        rw [Gr.rch_length]
        exact this.out
      rw [hE0, hR]
      rw [h1] at hp
      clear hE hE0 hR h0 h1 hK p2 h hr
      go_enter Try.func7, Try.ntmps7
      go_wp2_with fail
      refine hg.mono ?_
      rintro e w1 ⟨rfl, rfl⟩
      go_wp2_with fail
      refine hp.mono ?_
      rintro e w1 ⟨rfl, rfl⟩
      go_wp2_with (at_make; refine wpList_make_full _ rfl (.tmp 22) (.tmp 22) 24 rfl w1.heap.size 4 j0 (.bool false) 1 Try.underlying24 hj hy0 hy1 .i64 .i64 _ _ K.length rfl rfl rfl rfl (by rw [hy2]; omega) (by unfold maxLen; omega) (Nat.le_refl _) ?_; intro w4 hown hgrow)
      have hown1 := made_falses hown
      rw [fl_false] at hown1
      have HF0 : FR w1 w4 K.length (fun _ => false) := ⟨(Below.refl _ w1).grown hgrow (Nat.le_refl _) (fun k hk => by cases hk), hown1⟩
      have hre2 := hre w4 HF0
      clear hre HF0 hown hgrow hown1
      go_wp2_with fail
      refine hre2.mono ?_
      rintro e w5 ⟨rfl, g, g1, g2⟩
      have HQ : Hid (w5.ownsRow w1.heap.size 4 1 (.slice (some ⟨w1.heap.size, 0, none⟩) K.length K.length) (Gr.rch K R).length ((Gr.rch K R).map Tb) ∧ Below w1.heap.size w1 w5) := HRc.out g w5 g1 g2
      clear HRc hre2 g1 g2
      go_wp2_with fail
      go_ret2
      exact ⟨_, rfl, HQ.out.1, HQ.out.2⟩
    · have hR : Gr.reach K R = [] := if_neg (by rw [hE]; exact h1)
      have hzq : (Gr.pErr K.length R != 0) = true := by simpa using h1
      rw [hE, hR]
      obtain ⟨z, hz⟩ : ∃ z, z = Gr.pErr K.length R := ⟨_, rfl⟩
      rw [← hz] at hp hzq ⊢
      clear hE hR h0 h1 hK h hr hz
      have hB := Below.refl w.heap.size w
      go_enter Try.func7, Try.ntmps7
      go_wp2_with fail
      refine hg.mono ?_
      rintro e w1 ⟨rfl, rfl⟩
      go_wp2_with fail
      refine hp.mono ?_
      rintro e w1 ⟨rfl, rfl⟩
      go_wp2_with fail
      go_ret2
      exact ⟨_, rfl, World.ownsRow_nil _ _ _ _, hB⟩
  · have hE : Gr.rErr K R = Gr.gErr K := by unfold Gr.rErr; rw [if_pos h0]
    have hR : Gr.reach K R = [] := if_neg (by rw [hE]; exact h0)
    have hzq : (Gr.gErr K != 0) = true := by simpa using h0
    rw [hE, hR]
    generalize Gr.gErr K = z at *
    clear hE hR h0 h hr
    have hB := Below.refl w.heap.size w
    go_enter Try.func7, Try.ntmps7
    go_wp2_with fail
    refine hg.mono ?_
    rintro e w1 ⟨rfl, rfl⟩
    go_wp2_with fail
    go_ret2
    exact ⟨_, rfl, World.ownsRow_nil _ _ _ _, hB⟩

theorem gReach_ok (w : World) : GReachOk w := fun W _ v u K R h hr hl hll hRl => greach_any v u K R W h hr hl hll hRl
theorem gCheck_ok (w : World) : GCheckOk w := fun W _ v K h hl hll => (gcheck_any v K W h hl hll).mono fun _ _ ⟨h1, h2⟩ => ⟨h1, h2 ▸ Below.refl _ _⟩

end Go.Proofs.Ytoibiaikbgkbpaa
