/-
  The walk of lumkeep.RollForgets over what the calls answer: it returns true.
-/
import Derived.Test.YtipoponlfedplaaRollWin
import Derived.Test.YtipoponlfedplaaRollPushOut
import Derived.Test.YtipoponlfedplaaQuietSince
namespace Go.Proofs.Ytipoponlfedplaa
open Go.RowKit

theorem info_roll' (cs : List Value) (h : cs.length = 18) : (Try.prog.info? 25).map (·.size) = some cs.toArray.size := by rw [info_roll]; simp [h]
theorem there_new (w : World) : (w.alloc (.cells Z18 25)).there w.heap.size 0 18 := by
  intro j hj
  rw [Nat.zero_add]
  exact ⟨z18_cell w _ j hj, by simp⟩
/-- a Roll laid in a new block -/
theorem laid_new (A : Nat) (w W : World) (cs : List Value) (hl : cs.length = 18) (hb : Below A w W) (hA : A ≤ W.heap.size) : ∃ W2, (W.alloc (.cells Z18 25)).setCells W.heap.size 0 cs = W2 ∧ W2.rangeAt W.heap.size 0 cs ∧ Below A w W2 ∧ Below W.heap.size W W2 ∧ W.heap.size < W2.heap.size := by
  have hr : ((W.alloc (.cells Z18 25)).setCells W.heap.size 0 cs).rangeAt W.heap.size 0 cs := World.rangeAt_setCells_same _ _ _ _ (by rw [hl]; exact there_new W)
  refine ⟨_, rfl, hr, below_setCells hA _ _ _ (hb.alloc hA _), below_setCells (Nat.le_refl _) _ _ _ ((Below.refl _ W).alloc (Nat.le_refl _) _), ?_⟩
  exact World.block_lt_of_cell? _ _ (hr 0 _ (List.getElem?_eq_getElem (by omega)))

set_option maxHeartbeats 1000000 in
theorem rollForgets_of (ca cb : List Value) (na nb nt : Nat) (s t : ByteArray) (w : World) (la : ca.length = 18) (lb : cb.length = 18) (oa : ca.toArray.all (·.oneCell') = true) (ob : cb.toArray.all (·.oneCell') = true)
    (sa : ca[17]? = some (.int .u32 (na : Int))) (sb : cb[17]? = some (.int .u32 (nb : Int))) (hnt : 16 ≤ t.size → nt = nb) (hs : s.size ≤ 140737488351232) (ht : t.size ≤ 140737488351232)
    (e1 : ∀ V, Calls Try.prog 15 #[.agg Z18, .string s] V fun e w' => e = .returned (.tuple #[.agg ca.toArray, .bool true]) ∧ Below V.heap.size V w')
    (e2 : ∀ V, Calls Try.prog 15 #[.agg ca.toArray, .string t] V fun e w' => e = .returned (.tuple #[.agg cb.toArray, .bool true]) ∧ Below V.heap.size V w')
    (eA : ∀ V, Calls Try.prog 12 #[.string ⟨#[97]⟩] V fun e w' => e = .returned (.int .u32 97) ∧ Below V.heap.size V w')
    (eS : ∀ V, Calls Try.prog 12 #[.string s] V fun e w' => e = .returned (.int .u32 na) ∧ Below V.heap.size V w')
    (eB : ∀ V, Calls Try.prog 12 #[.string (s ++ t)] V fun e w' => e = .returned (.int .u32 nb) ∧ Below V.heap.size V w')
    (eT : ∀ V, Calls Try.prog 12 #[.string t] V fun e w' => e = .returned (.int .u32 nt) ∧ Below V.heap.size V w') :
    Calls Try.prog 6 #[.string s, .string t] w fun e w' => e = .returned (.bool true) ∧ Below w.heap.size w w' := by
  dsimp only [Z18] at e1
  go_enter Try.func6, Try.ntmps6
  go_upto_region 1 with fail
  refine wp_region_lit ?_
  refine wpList_plain rfl fun K hK => ?_
  go_simp
  refine hK _ _ ?_
  clear hK K
  refine wpList_plain rfl fun K hK => ?_
  go_simp
  refine hK _ _ ?_
  clear hK K
  refine wpList_plain rfl fun K hK => ?_
  go_simp
  refine (e1 _).mono ?_
  rintro e w1 ⟨rfl, hb1⟩
  refine hK _ _ ?_
  clear hK K
  refine wpList_plain rfl fun K hK => ?_
  go_simp
  refine hK _ _ ?_
  clear hK K
  refine wpList_plain rfl fun K hK => ?_
  go_simp
  refine hK _ _ ?_
  clear hK K
  refine wpList_plain rfl fun K hK => ?_
  go_simp
  refine hK _ _ ?_
  clear hK K
  refine wpList_plain rfl fun K hK => ?_
  go_simp
  refine hK _ _ ?_
  clear hK K
  obtain ⟨W2, hW2, hrA, hB2, hb2, hg2⟩ := laid_new w.heap.size w w1 ca la hb1 hb1.size
  have hth := there_new w1
  dsimp only [Z18] at hW2 hth
  refine wpList_store_mid rfl 25 (.tmp 5) (.tmp 13) rfl w1.heap.size 0 ca.toArray rfl rfl (by simpa [la] using hth) (info_roll' ca la) oa ?_
  rw [show ca.toArray.toList = ca from rfl, hW2]
  clear hth hW2 hb2
  have hs1 := hb1.size
  clear hb1 e1
  go_upto_region 2 with fail
  refine wp_region_lit ?_
  refine wpList_load_mid rfl 25 (.tmp 5) rfl w1.heap.size 0 rfl ca _ hrA Try.underlying25 rfl (by rw [info_roll, la]) ?_
  refine wpList_plain rfl fun K hK => ?_
  go_simp
  refine hK _ _ ?_
  clear hK K
  refine wpList_plain rfl fun K hK => ?_
  go_simp
  refine (e2 _).mono ?_
  rintro e w3 ⟨rfl, hb3⟩
  refine hK _ _ ?_
  clear hK K
  refine wpList_plain rfl fun K hK => ?_
  go_simp
  refine hK _ _ ?_
  clear hK K
  refine wpList_plain rfl fun K hK => ?_
  go_simp
  refine hK _ _ ?_
  clear hK K
  refine wpList_plain rfl fun K hK => ?_
  go_simp
  refine hK _ _ ?_
  clear hK K
  refine wpList_plain rfl fun K hK => ?_
  go_simp
  refine hK _ _ ?_
  clear hK K
  have hs3 := hb3.size
  have hB3 := hB2.trans (hb3.mono (by omega))
  have hrA3 : w3.rangeAt w1.heap.size 0 ca := fun j v hv => by
    rw [hb3.cell (p := ⟨w1.heap.size, 0 + j, none⟩) hg2]
    exact hrA j v hv
  obtain ⟨W4, hW4, hrB, hB4, hb4, hg4⟩ := laid_new w.heap.size w w3 cb lb hB3 hB3.size
  have hth := there_new w3
  dsimp only [Z18] at hW4 hth
  refine wpList_store_mid rfl 25 (.tmp 7) (.tmp 19) rfl w3.heap.size 0 cb.toArray rfl rfl (by simpa [lb] using hth) (info_roll' cb lb) ob ?_
  rw [show cb.toArray.toList = cb from rfl, hW4]
  clear hth hW4
  have cA : W4.cell? ⟨w1.heap.size, 17, none⟩ = some (.int .u32 (na : Int)) := by
    rw [hb4.cell (p := ⟨w1.heap.size, 17, none⟩) (by show w1.heap.size < w3.heap.size; omega)]
    simpa using hrA3 17 _ sa
  have cB : W4.cell? ⟨w3.heap.size, 17, none⟩ = some (.int .u32 (nb : Int)) := by simpa using hrB 17 _ sb
  have lA : w1.heap.size < W4.heap.size := World.block_lt_of_cell? _ _ cA
  have hA : ∀ X : Since W4.heap.size W4, X.val.cell? ⟨w1.heap.size, 17, none⟩ = some (.int .u32 (na : Int)) := fun X => (X.property.cell (p := ⟨w1.heap.size, 17, none⟩) lA).trans cA
  have hBc : ∀ X : Since W4.heap.size W4, X.val.cell? ⟨w3.heap.size, 17, none⟩ = some (.int .u32 (nb : Int)) := fun X => (X.property.cell (p := ⟨w3.heap.size, 17, none⟩) hg4).trans cB
  have hne : Nonempty (Since W4.heap.size W4) := ⟨⟨W4, Below.refl _ _⟩⟩
  clear hrA hrA3 hrB hb3 hb4 hB2 hB3 sa sb oa ob e2 hg2 hs1 hs3
  have hcat : ¬ 9223372036854775807 < s.size + t.size := by omega
  go_upto_region 3 with fail
  refine wp_region_since (B := W4.heap.size) (W0 := W4) (by kernel_rfl) (by kernel_rfl) (Below.refl _ _) ?_
  repeat (go_big_quiet_step (fail))
  go_big_quiet_step (exact quiet_since _ (eA _))
  repeat (go_big_quiet_step (fail))
  go_big_quiet_step (exact quiet_since _ (eS _))
  repeat (go_big_quiet_step (fail))
  go_big_quiet_step (exact quiet_since _ (eB _))
  repeat (go_big_quiet_step (fail))
  refine wpQuiet_nil ?_
  rintro w5 ⟨Y, rfl⟩
  have hY := Y.property
  have hB5 := hB4.trans (hY.mono hB4.size)
  have lB := hg4
  obtain ⟨w6, hw6⟩ : ∃ w6, w6 = Y.val := ⟨_, rfl⟩
  have cB6 : w6.cell? ⟨w3.heap.size, 17, none⟩ = some (.int .u32 (nb : Int)) := by rw [hw6]; exact hBc Y
  have lB6 : w3.heap.size < w6.heap.size := World.block_lt_of_cell? _ _ cB6
  rw [← hw6] at hB5 ⊢
  have hD : ∀ X : Since w6.heap.size w6, X.val.cell? ⟨w3.heap.size, 17, none⟩ = some (.int .u32 (nb : Int)) := fun X => (X.property.cell (p := ⟨w3.heap.size, 17, none⟩) lB6).trans cB6
  have hne6 : Nonempty (Since w6.heap.size w6) := ⟨⟨w6, Below.refl _ _⟩⟩
  clear hY hBc hA hne cA cB eA eS eB hcat hB4 hw6
  by_cases h16 : t.size < 16
  · have hq : decide ((t.size : Int) < 16) = true := by rw [decide_eq_true_eq]; omega
    have hq2 : decide (t.size < 16) = true := by rw [decide_eq_true_eq]; omega
    go_upto_region 5 with fail
    refine wp_region_since (B := w6.heap.size) (W0 := w6) (by kernel_rfl) (by kernel_rfl) (Below.refl _ _) ?_
    repeat (go_big_quiet_step (fail))
    refine wpQuiet_nil ?_
    rintro w7 ⟨U, rfl⟩
    have hU := U.property
    go_wp2_with fail
    go_ret
    exact ⟨rfl, hB5.trans (hU.mono hB5.size)⟩
  · have hq : decide ((t.size : Int) < 16) = false := by rw [decide_eq_false_iff_not]; omega
    have hq2 : decide (t.size < 16) = false := by rw [decide_eq_false_iff_not]; omega
    obtain rfl : nt = nb := hnt (by omega)
    go_upto_region 5 with fail
    refine wp_region_since (B := w6.heap.size) (W0 := w6) (by kernel_rfl) (by kernel_rfl) (Below.refl _ _) ?_
    repeat (go_big_quiet_step (fail))
    go_big_quiet_step (exact quiet_since _ (eT _))
    repeat (go_big_quiet_step (fail))
    refine wpQuiet_nil ?_
    rintro w7 ⟨U, rfl⟩
    have hU := U.property
    go_wp2_with fail
    go_ret
    exact ⟨rfl, hB5.trans (hU.mono hB5.size)⟩
end Go.Proofs.Ytipoponlfedplaa
