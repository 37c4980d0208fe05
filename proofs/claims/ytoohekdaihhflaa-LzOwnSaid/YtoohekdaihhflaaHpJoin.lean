/-
  What join of package huff answers.
-/
import Derived.Test.YtoohekdaihhflaaHpPut
import Derived.Test.YtoohekdaihhflaaHpCat
import Derived.Deep.RegionHeld3
namespace Go.Proofs.Ytoohekdaihhflaa
open Go.RowKit

def Hf.gjoin (a b : Hf.G) (v : Value) : Hf.G := ⟨a.wt + b.wt, min a.low b.low, a.sg ++ b.sg, v⟩
theorem GBox.other3 {W : World} {G G' : Nat} {x : Hf.G} (h : GBox W G x) (hne : G ≠ G') (u0 u1 u2 : Value) : GBox (((W.setCell ⟨G', 0, none⟩ u0).setCell ⟨G', 1, none⟩ u1).setCell ⟨G', 2, none⟩ u2) G x :=
  h.kept (p := fun k => k ≠ G') ((((Kept.refl _ W).setCell (by simp) _).setCell (by simp) _).setCell (by simp) _) hne
set_option maxHeartbeats 4000000 in
theorem join_any (base : Nat) (a b : Hf.G) (w : World) (ha : w.ownsRow base 3 1 a.sv a.sg.length ((Hf.up a.sg).map Iv)) (hb : w.ownsRow base 3 1 b.sv b.sg.length ((Hf.up b.sg).map Iv))
    (ha1 : 1 ≤ a.sg.length) (hb1 : 1 ≤ b.sg.length) (hab : a.sg.length + b.sg.length ≤ 256) (hw : a.wt + b.wt ≤ 1000000000) :
    Calls Try.prog 34 #[gV a, gV b] w fun e w' => ∃ v, e = .returned (gV (Hf.gjoin a b v)) ∧ w'.ownsRow w.heap.size 3 1 v (a.sg ++ b.sg).length ((Hf.up (a.sg ++ b.sg)).map Iv) ∧ Below w.heap.size w w' := by
  obtain ⟨W4, hW4⟩ : ∃ W4, W4 = (((w.alloc (.cells #[.int .i64 a.wt, .int .i64 a.low, a.sv] 54)).alloc (.cells #[.int .i64 b.wt, .int .i64 b.low, b.sv] 54)).alloc (.cells #[.int .i64 0, .int .i64 0, .slice none 0 0] 54)) := ⟨_, rfl⟩
  have hB4 : Below w.heap.size w W4 := by rw [hW4]; exact (((Below.refl _ w).alloc (Nat.le_refl _) _).alloc (by simp) _).alloc (by simp; omega) _
  have hs4 : W4.heap.size = w.heap.size + 3 := by rw [hW4]; simp
  have X1 : GBox W4 w.heap.size a := by
    rw [hW4]; exact (GBox.new w a).below (((Below.refl _ _).alloc (Nat.le_refl _) _).alloc (by simp) _) (by simp)
  have X2 : GBox W4 (w.heap.size + 1) b := by
    rw [hW4]
    have := (GBox.new (w.alloc (.cells #[.int .i64 a.wt, .int .i64 a.low, a.sv] 54)) b).below ((Below.refl _ _).alloc (Nat.le_refl _) (.cells #[.int .i64 0, .int .i64 0, .slice none 0 0] 54)) (by simp)
    rw [World.size_alloc] at this
    exact this
  have X3 : GBox W4 (w.heap.size + 1 + 1) Hf.G.z := by
    rw [hW4]
    have := GBox.new ((w.alloc (.cells #[.int .i64 a.wt, .int .i64 a.low, a.sv] 54)).alloc (.cells #[.int .i64 b.wt, .int .i64 b.low, b.sv] 54)) Hf.G.z
    rw [World.size_alloc, World.size_alloc] at this
    exact this
  have hcat : Calls Try.prog 47 #[.slice (some ⟨W4.heap.size, 0, none⟩) 2 2] (W4.alloc (.cells #[a.sv, b.sv] 22)).drew fun e w' => ∃ va vm vc, e = .returned (.slice va vm vc) ∧ w'.ownsRow W4.heap.size 3 1 (.slice va vm vc) (a.sg ++ b.sg).length ((Hf.up (a.sg ++ b.sg)).map Iv) ∧ Below W4.heap.size W4 w' := by
    have hB5 : Below W4.heap.size W4 (W4.alloc (.cells #[a.sv, b.sv] 22)).drew := ((Below.refl _ _).alloc (Nat.le_refl _) _).drew
    have e2 : catTo [(a.sv, Hf.up a.sg), (b.sv, Hf.up b.sg)] 2 = Hf.up (a.sg ++ b.sg) := by simp [catTo, Hf.up]
    have := concat_any W4.heap.size base 2 [(a.sv, Hf.up a.sg), (b.sv, Hf.up b.sg)] (W4.alloc (.cells #[a.sv, b.sv] 22)).drew (by simp) (by show 2 ≤ 4; omega) (fun j hj => by
        have hj : j < 2 := hj
        match j, hj with
        | 0, _ => simp
        | 1, _ => simp) (fun j hj => by
        have hj : j < 2 := hj
        match j, hj with
        | 0, _ => exact ⟨(show (W4.alloc (.cells #[a.sv, b.sv] 22)).drew.ownsRow base 3 1 a.sv (Hf.up a.sg).length ((Hf.up a.sg).map Iv) from by rw [Hf.up_length]; exact row_below (row_below ha hB4) hB5), (show 1 ≤ (Hf.up a.sg).length from by rw [Hf.up_length]; exact ha1)⟩
        | 1, _ => exact ⟨(show (W4.alloc (.cells #[a.sv, b.sv] 22)).drew.ownsRow base 3 1 b.sv (Hf.up b.sg).length ((Hf.up b.sg).map Iv) from by rw [Hf.up_length]; exact row_below (row_below hb hB4) hB5), (show 1 ≤ (Hf.up b.sg).length from by rw [Hf.up_length]; exact hb1)⟩) (by
        show (catTo [(a.sv, Hf.up a.sg), (b.sv, Hf.up b.sg)] 2).length ≤ _
        rw [e2, Hf.up_length, List.length_append]; omega) (by
        show 1 ≤ (catTo [(a.sv, Hf.up a.sg), (b.sv, Hf.up b.sg)] 2).length
        rw [e2, Hf.up_length, List.length_append]; omega)
    refine this.mono ?_
    rintro e w' ⟨v, rfl, ho, hbl⟩
    have ho : w'.ownsRow (W4.alloc (.cells #[a.sv, b.sv] 22)).drew.heap.size 3 1 v (catTo [(a.sv, Hf.up a.sg), (b.sv, Hf.up b.sg)] 2).length ((catTo [(a.sv, Hf.up a.sg), (b.sv, Hf.up b.sg)] 2).map Iv) := ho
    rw [e2, Hf.up_length] at ho
    obtain ⟨x, y, z, rfl⟩ := own_slice ho
    exact ⟨x, y, z, rfl, row_lower ho (by simp), hB5.trans (hbl.mono (by simp))⟩
  have HX1 : Hid (GBox W4 w.heap.size a) := X1
  have HX2 : Hid (GBox W4 (w.heap.size + 1) b) := X2
  have HX3 : Hid (GBox W4 (w.heap.size + 1 + 1) Hf.G.z) := X3
  have HB4 : Hid (Below w.heap.size w W4) := hB4
  obtain ⟨a0, a1, a2, _, _, _, _⟩ := X1
  obtain ⟨b0, b1, b2, _, _, _, _⟩ := X2
  have HQ : Hid (∀ w', Below W4.heap.size W4 w' → GBox w' w.heap.size a ∧ GBox w' (w.heap.size + 1) b ∧ GBox w' (w.heap.size + 1 + 1) Hf.G.z) := fun w' h => ⟨HX1.out.below h HX1.out.lt, HX2.out.below h HX2.out.lt, HX3.out.below h HX3.out.lt⟩
  have HS4 : Hid (W4.heap.size = w.heap.size + 3) := hs4
  clear hB4 X3 hs4
  have ea := own_slice ha
  have eb := own_slice hb
  clear ha hb
  obtain ⟨aw, al, asg, av⟩ := a
  obtain ⟨bw, bl, bsg, bv⟩ := b
  dsimp only at *
  obtain ⟨aa, am, ac, rfl⟩ := ea
  obtain ⟨ba, bm, bc, rfl⟩ := eb
  unfold gV
  go_enter Try.func34, Try.ntmps34
  go_wp2_with fail
  rw [← hW4]
  clear hW4
  by_cases hle : al ≤ bl
  all_goals
    go_region_held3 (fun w' => w'.cell? ⟨w.heap.size, 0, none⟩ = some (.int .i64 (aw : Int)) ∧ w'.cell? ⟨w.heap.size, 1, none⟩ = some (.int .i64 (al : Int)) ∧ w'.cell? ⟨w.heap.size, 2, none⟩ = some (.slice aa am ac) ∧ w'.cell? ⟨w.heap.size + 1, 0, none⟩ = some (.int .i64 (bw : Int)) ∧ w'.cell? ⟨w.heap.size + 1, 1, none⟩ = some (.int .i64 (bl : Int)) ∧ w'.cell? ⟨w.heap.size + 1, 2, none⟩ = some (.slice ba bm bc))
      (first | exact ⟨q1.c0, q1.c1, q1.c2, q2.c0, q2.c1, q2.c2⟩ | exact ⟨(q1.other3 (by omega) _ _ _).c0, (q1.other3 (by omega) _ _ _).c1, (q1.other3 (by omega) _ _ _).c2, (q2.other3 (by omega) _ _ _).c0, (q2.other3 (by omega) _ _ _).c1, (q2.other3 (by omega) _ _ _).c2⟩ | go_keep) ((go_at_call 47; refine hcat.mono ?_; rintro e w' ⟨va, vm, vc, rfl, ho, hbl⟩; obtain ⟨q1, q2, q3⟩ := HQ.out _ hbl; obtain ⟨r0, r1, r2, r3, r4, r5, _⟩ := q3))
  all_goals
    go_wp2_with fail
    have e1 : IntKind.i64.wrap ((aw : Int) + (bw : Int)) = ((aw + bw : Nat) : Int) := by rw [IntKind.wrap_i64]; omega
    have e2 : (if bl < al then (bl : Int) else (al : Int)) = ((min al bl : Nat) : Int) := by
      by_cases h : bl < al
      · rw [if_pos h]; omega
      · rw [if_neg h]; omega
    have HNB : ∀ g, (Value.slice va vm vc).ownBlock = some g → g ≠ w.heap.size + 1 + 1 := fun g hg => by
      obtain ⟨cur, hc, hb⟩ := own_block ho hg
      have := HS4.out
      omega
    have HK : Hid (Below W4.heap.size W4 w') := hbl
    refine bodyPost_ret (v := gV (Hf.gjoin ⟨aw, al, asg, .slice aa am ac⟩ ⟨bw, bl, bsg, .slice ba bm bc⟩ (.slice va vm vc))) ?_ rfl ⟨.slice va vm vc, rfl, ?_, ?_⟩
    · try rw [e2]
      rw [e1]
      simp [results, asAddr, go_sem, r0, r1, r2, gV, Hf.gjoin]
      try omega
    · have hlow : w.heap.size ≤ W4.heap.size := by have := HS4.out; omega
      have ho2 := ho
      rw [List.length_append] at ho2
      first
        | exact row_lower (own_kept ho ((((Kept.refl (fun k => k ≠ w.heap.size + 1 + 1) w').setCell (by simp) _).setCell (by simp) _).setCell (by simp) _) HNB) hlow
        | exact row_lower (own_kept ho2 ((((Kept.refl (fun k => k ≠ w.heap.size + 1 + 1) w').setCell (by simp) _).setCell (by simp) _).setCell (by simp) _) HNB) hlow
    · exact (((HB4.out.trans (HK.out.mono HB4.out.size)).setCell (by simp; omega) _).setCell (by simp; omega) _).setCell (by simp; omega) _
end Go.Proofs.Ytoohekdaihhflaa
