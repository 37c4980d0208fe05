/-
  The walk of lumlaw.RollSays over what the calls answer: it returns true.
-/
import Derived.Test.YtipoponlfedplaaRollEq
import Derived.Test.YtipoponlfedplaaRollForgetsOf
namespace Go.Proofs.Ytipoponlfedplaa
open Go.RowKit

set_option maxHeartbeats 2000000 in
theorem rollSays_of (ci cs : List Value) (x : Value) (ee : Int) (a b tt oo : Nat) (s : ByteArray) (w : World) (li : ci.length = 18) (ls : cs.length = 18) (os : cs.toArray.all (·.oneCell') = true)
    (he : ∀ V, (Op.equalIn 10000 25 (.agg cs.toArray) (.agg cs.toArray)).run Try.prog V = .ok true V)
    (e1 : ∀ V, Calls Try.prog 8 #[.agg ci.toArray, x] V fun e w' => e = .returned (.tuple #[.agg cs.toArray, .int .i64 ee]) ∧ Below V.heap.size V w')
    (e2 : ∀ V, Calls Try.prog 9 #[.agg ci.toArray, x] V fun e w' => e = .returned (.tuple #[.agg cs.toArray, .int .i64 ee]) ∧ Below V.heap.size V w')
    (e3 : ∀ V, Calls Try.prog 10 #[.int .u32 a, .int .u32 b] V fun e w' => e = .returned (.int .u32 tt) ∧ w' = V)
    (e4 : ∀ V, Calls Try.prog 11 #[.int .u32 a, .int .u32 b] V fun e w' => e = .returned (.int .u32 tt) ∧ w' = V)
    (e5 : ∀ V, Calls Try.prog 12 #[.string s] V fun e w' => e = .returned (.int .u32 oo) ∧ Below V.heap.size V w')
    (e6 : ∀ V, Calls Try.prog 13 #[.string s] V fun e w' => e = .returned (.int .u32 oo) ∧ Below V.heap.size V w') :
    Calls Try.prog 3 #[.int .u32 a, .int .u32 b, .agg ci.toArray, x, .string s] w fun e w' => e = .returned (.bool true) ∧ Below w.heap.size w w' := by
  have hq : ∀ V, (binOp .eql 25 (.agg cs.toArray) (.agg cs.toArray)).run Try.prog V = .ok (.bool true) V := fun V => by rw [run_eql_struct, he]; rfl
  have hr0 : (w.alloc (.cells ci.toArray 25)).rangeAt w.heap.size 0 ci := fun j v hv => by
    rw [Nat.zero_add, cell_of_row _ w.heap.size j _ _ _ (heap_alloc_new w _)]
    simpa using hv
  have hb0 : Below w.heap.size w (w.alloc (.cells ci.toArray 25)) := (Below.refl _ w).alloc (Nat.le_refl _) _
  have hs0 : w.heap.size < (w.alloc (.cells ci.toArray 25)).heap.size := by simp
  go_enter Try.func3, Try.ntmps3
  go_upto_region 1 with fail
  generalize w.alloc (.cells ci.toArray 25) = W0 at *
  refine wp_region_lit ?_
  refine wpList_load_mid rfl 25 (.tmp 7) rfl w.heap.size 0 rfl ci _ hr0 Try.underlying25 rfl (by rw [info_roll, li]) ?_
  refine wpList_plain rfl fun K hK => ?_
  go_simp
  refine hK _ _ ?_
  clear hK K
  refine wpList_plain rfl fun K hK => ?_
  go_simp
  refine (e1 _).mono ?_
  rintro e w1 ⟨rfl, hb1⟩
  refine hK _ _ ?_
  clear hK K
  refine wpList_plain rfl fun K hK => ?_
  go_simp
  refine hK _ _ ?_
  clear hK K
  refine wpList_plain rfl fun K hK => ?_
  go_simp
  refine hK _ _ ?_
  clear hK K
  refine wpList_plain rfl fun K hK => ?_
  go_simp
  refine hK _ _ ?_
  clear hK K
  refine wpList_plain rfl fun K hK => ?_
  go_simp
  refine hK _ _ ?_
  clear hK K
  have hs1 := hb1.size
  have hB1 := hb0.trans (hb1.mono (by omega))
  obtain ⟨W2, hW2, hr2, hB2, hb2, hg2⟩ := laid_new w.heap.size w w1 cs ls hB1 hB1.size
  have hth := there_new w1
  dsimp only [Z18] at hW2 hth
  refine wpList_store_mid rfl 25 (.tmp 11) (.tmp 19) rfl w1.heap.size 0 cs.toArray rfl rfl (by simpa [ls] using hth) (info_roll' cs ls) os ?_
  rw [show cs.toArray.toList = cs from rfl, hW2]
  clear hth hW2
  have hrI : W2.rangeAt w.heap.size 0 ci := fun j v hv => by
    rw [hb2.cell (p := ⟨w.heap.size, 0 + j, none⟩) (by show w.heap.size < w1.heap.size; omega), hb1.cell (p := ⟨w.heap.size, 0 + j, none⟩) hs0]
    exact hr0 j v hv
  clear hb1 hb2 hB1 hb0 hr0
  go_upto_region 2 with fail
  refine wp_region_lit ?_
  refine wpList_load_mid rfl 25 (.tmp 7) rfl w.heap.size 0 rfl ci _ hrI Try.underlying25 rfl (by rw [info_roll, li]) ?_
  refine wpList_plain rfl fun K hK => ?_
  go_simp
  refine hK _ _ ?_
  clear hK K
  refine wpList_plain rfl fun K hK => ?_
  go_simp
  refine (e2 _).mono ?_
  rintro e w3 ⟨rfl, hb3⟩
  refine hK _ _ ?_
  clear hK K
  refine wpList_plain rfl fun K hK => ?_
  go_simp
  refine hK _ _ ?_
  clear hK K
  refine wpList_plain rfl fun K hK => ?_
  go_simp
  refine hK _ _ ?_
  clear hK K
  refine wpList_plain rfl fun K hK => ?_
  go_simp
  refine hK _ _ ?_
  clear hK K
  refine wpList_plain rfl fun K hK => ?_
  go_simp
  refine hK _ _ ?_
  clear hK K
  have hs3 := hb3.size
  have hB3 := hB2.trans (hb3.mono (by omega))
  obtain ⟨W4, hW4, hr4, hB4, hb4, hg4⟩ := laid_new w.heap.size w w3 cs ls hB3 hB3.size
  have hth := there_new w3
  dsimp only [Z18] at hW4 hth
  refine wpList_store_mid rfl 25 (.tmp 13) (.tmp 25) rfl w3.heap.size 0 cs.toArray rfl rfl (by simpa [ls] using hth) (info_roll' cs ls) os ?_
  rw [show cs.toArray.toList = cs from rfl, hW4]
  clear hth hW4
  have hr24 : W4.rangeAt w1.heap.size 0 cs := fun j v hv => by
    rw [hb4.cell (p := ⟨w1.heap.size, 0 + j, none⟩) (by show w1.heap.size < w3.heap.size; omega), hb3.cell (p := ⟨w1.heap.size, 0 + j, none⟩) hg2]
    exact hr2 j v hv
  have l1 : w1.heap.size < W4.heap.size := by omega
  clear hb3 hb4 hB2 hB3 hr2 hrI e1 e2
  go_upto_region 3 with fail
  refine wp_region_lit ?_
  refine wpList_plain rfl fun K hK => ?_
  go_simp
  refine hK _ _ ?_
  clear hK K
  refine wpList_plain rfl fun K hK => ?_
  go_simp
  refine hK _ _ ?_
  clear hK K
  refine wpList_plain rfl fun K hK => ?_
  go_simp
  refine (e3 _).mono ?_
  rintro e u1 ⟨rfl, rfl⟩
  refine hK _ _ ?_
  clear hK K
  refine wpList_plain rfl fun K hK => ?_
  go_simp
  refine hK _ _ ?_
  clear hK K
  refine wpList_plain rfl fun K hK => ?_
  go_simp
  refine hK _ _ ?_
  clear hK K
  refine wpList_plain rfl fun K hK => ?_
  go_simp
  refine (e4 _).mono ?_
  rintro e u2 ⟨rfl, rfl⟩
  refine hK _ _ ?_
  clear hK K
  refine wpList_plain rfl fun K hK => ?_
  go_simp
  refine hK _ _ ?_
  clear hK K
  refine wpList_plain rfl fun K hK => ?_
  go_simp
  refine hK _ _ ?_
  clear hK K
  refine wpList_step fun K hK => ?_
  rw [if_pos (by rfl)]
  go_simp
  refine hK _ _ ?_
  clear hK K
  refine wpList_step fun K hK => ?_
  rw [if_pos (by rfl)]
  go_simp
  refine (e5 _).mono ?_
  rintro e w5 ⟨rfl, hb5⟩
  refine hK _ _ ?_
  clear hK K
  refine wpList_step fun K hK => ?_
  rw [if_pos (by rfl)]
  go_simp
  refine hK _ _ ?_
  clear hK K
  refine wpList_step fun K hK => ?_
  rw [if_pos (by rfl)]
  go_simp
  refine (e6 _).mono ?_
  rintro e w6 ⟨rfl, hb6⟩
  refine hK _ _ ?_
  clear hK K
  refine wpList_step fun K hK => ?_
  rw [if_pos (by rfl)]
  go_simp
  refine hK _ _ ?_
  clear hK K
  refine wpList_plain rfl fun K hK => ?_
  go_simp
  refine hK _ _ ?_
  clear hK K
  refine wpList_plain rfl fun K hK => ?_
  go_simp
  refine hK _ _ ?_
  clear hK K
  have hs5 := hb5.size
  have hs6 := hb6.size
  have hB5 := hB4.trans (hb5.mono hB4.size)
  have hB6 := hB5.trans (hb6.mono hB5.size)
  have hrA : w6.rangeAt w1.heap.size 0 cs := fun j v hv => by
    rw [hb6.cell (p := ⟨w1.heap.size, 0 + j, none⟩) (by show w1.heap.size < w5.heap.size; omega), hb5.cell (p := ⟨w1.heap.size, 0 + j, none⟩) l1]
    exact hr24 j v hv
  have hrB : w6.rangeAt w3.heap.size 0 cs := fun j v hv => by
    rw [hb6.cell (p := ⟨w3.heap.size, 0 + j, none⟩) (by show w3.heap.size < w5.heap.size; omega), hb5.cell (p := ⟨w3.heap.size, 0 + j, none⟩) hg4]
    exact hr4 j v hv
  refine wpList_step fun K hK => ?_
  rw [if_pos (by rfl)]
  refine wp_load_mid 25 (.tmp 11) rfl w1.heap.size 0 rfl cs _ hrA Try.underlying25 rfl (by rw [info_roll, ls]) ?_
  refine hK _ _ ?_
  clear hK K
  refine wpList_step fun K hK => ?_
  rw [if_pos (by rfl)]
  refine wp_load_mid 25 (.tmp 13) rfl w3.heap.size 0 rfl cs _ hrB Try.underlying25 rfl (by rw [info_roll, ls]) ?_
  refine hK _ _ ?_
  clear hK K
  refine wpList_step fun K hK => ?_
  rw [if_pos (by rfl)]
  go_simp
  refine hK _ _ ?_
  clear hK K
  go_wp2_with fail
  go_ret
  exact ⟨rfl, hB6⟩
end Go.Proofs.Ytipoponlfedplaa
