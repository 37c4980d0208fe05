/-
  The walk of lumlaw.ChunkSays: it returns true.
-/
import Derived.Test.YtdalpicpkandcaaCkCut
import Derived.Test.YtdalpicpkandcaaCkFixed
import Derived.Test.YtdalpicpkandcaaCkEq
namespace Go.Proofs.Ytdalpicpkandcaa
open Go.RowKit

theorem fixL_le (n : Int) (s : ByteArray) : (fixL n s).length ≤ 4096 := by
  unfold fixL
  split
  · rename_i h
    unfold fixN at h
    split at h
    · omega
    · split at h
      · rw [Ck.fixed_length, ← Lib.size_eq]
        have h1 : ∀ k, k < Ck.many n.toNat s.size → k ≤ s.size := fun k hk => by
          have := (Ck.many_lt (show 0 < n.toNat by omega)).1 hk
          have h2 : k * 1 ≤ k * n.toNat := Nat.mul_le_mul (Nat.le_refl _) (by omega)
          omega
        rcases Nat.eq_zero_or_pos (Ck.many n.toNat s.size) with h3 | h3
        · omega
        · have h4 := (Ck.many_lt (show 0 < n.toNat by omega)).1 (show Ck.many n.toNat s.size - 1 < Ck.many n.toNat s.size by omega)
          have h2 : (Ck.many n.toNat s.size - 1) * 1 ≤ (Ck.many n.toNat s.size - 1) * n.toNat := Nat.mul_le_mul (Nat.le_refl _) (by omega)
          omega
      · omega
  · simp
theorem cutL_len (mn mx bt : Int) (s : ByteArray) : (cutL mn mx bt s).length ≤ 4096 := by
  unfold cutL
  split
  · rename_i h
    obtain ⟨⟨h1, h2, h3, h4, h5⟩, hs⟩ := sizeN_zero.1 h
    exact cutL_le _ _ _ (by omega) (by omega) s (by omega)
  · simp

set_option maxHeartbeats 2000000 in
theorem chunkSays_of (mn mx bt n ok kf kc : Int) (s : ByteArray) (w : World) (F L : List Ck.Bs) (hF : F.length ≤ 4096) (hL : L.length ≤ 4096)
    (e1 : ∀ V, Calls Try.prog 9 #[.int .i64 n, .string s] V fun e w' => ∃ v, e = .returned (.tuple #[v, .int .i64 kf]) ∧ w'.ownsRow V.heap.size 9 1 v F.length (F.map Sv) ∧ Below V.heap.size V w')
    (e2 : ∀ V, Calls Try.prog 10 #[.int .i64 n, .string s] V fun e w' => ∃ v, e = .returned (.tuple #[v, .int .i64 kf]) ∧ w'.ownsRow V.heap.size 9 1 v F.length (F.map Sv) ∧ Below V.heap.size V w')
    (e3 : ∀ V, Calls Try.prog 11 #[cutV mn mx bt, .string s] V fun e w' => ∃ v, e = .returned (.tuple #[v, .int .i64 kc]) ∧ w'.ownsRow V.heap.size 9 1 v L.length (L.map Sv) ∧ Below V.heap.size V w')
    (e4 : ∀ V, Calls Try.prog 12 #[cutV mn mx bt, .string s] V fun e w' => ∃ v, e = .returned (.tuple #[v, .int .i64 kc]) ∧ w'.ownsRow V.heap.size 9 1 v L.length (L.map Sv) ∧ Below V.heap.size V w')
    (e5 : ∀ V, Calls Try.prog 13 #[cutV mn mx bt] V fun e w' => e = .returned (.int .i64 ok) ∧ Below V.heap.size V w')
    (e6 : ∀ V, Calls Try.prog 14 #[cutV mn mx bt] V fun e w' => e = .returned (.int .i64 ok) ∧ Below V.heap.size V w') :
    Calls Try.prog 3 #[cutV mn mx bt, .int .i64 n, .string s] w fun e w' => e = .returned (.bool true) ∧ Below w.heap.size w w' := by
  unfold cutV at e3 e4 e5 e6 ⊢
  obtain ⟨W4, hW4⟩ : ∃ W4, W4 = w.alloc (Obj.cells #[Value.int IntKind.i64 mn, Value.int IntKind.i64 mx, Value.int IntKind.i64 bt] 23) := ⟨_, rfl⟩
  have HC : Hid (CutAt W4 w.heap.size mn mx bt) := by rw [hW4]; exact World.alloc_heap_new w _
  have HB : Hid (Below w.heap.size w W4) := by rw [hW4]; exact (Below.refl _ w).alloc (Nat.le_refl _) _
  go_enter Try.func3, Try.ntmps3
  go_wp2_with fail
  rw [← hW4]
  refine (e1 _).mono ?_
  rintro e w1 ⟨va, rfl, oa, hb1⟩
  go_wp2_with fail
  refine (e2 _).mono ?_
  rintro e w2 ⟨vb, rfl, ob, hb2⟩
  have oa2 := own_below oa hb2
  have hB2 := hb1.trans (hb2.mono hb1.size)
  clear oa hb1 hb2 hW4
  have hc2 : CutAt w2 w.heap.size mn mx bt := HC.out.kept (Kept.of_below (p := fun _ => True) hB2) trivial
  have c0 := hc2.c0
  have c1 := hc2.c1
  have c2 := hc2.c2
  go_wp2_with fail
  refine (e3 _).mono ?_
  rintro e w3 ⟨vx, rfl, ox, hb3⟩
  have oa3 := own_below oa2 hb3
  have ob3 := own_below ob hb3
  have hB3 := hB2.trans (hb3.mono hB2.size)
  clear oa2 ob hB2 hb3 hc2 c0 c1 c2
  have hc3 : CutAt w3 w.heap.size mn mx bt := HC.out.kept (Kept.of_below (p := fun _ => True) hB3) trivial
  have c0 := hc3.c0
  have c1 := hc3.c1
  have c2 := hc3.c2
  go_wp2_with fail
  refine (e4 _).mono ?_
  rintro e w4 ⟨vy, rfl, oy, hb4⟩
  have oa4 := own_below oa3 hb4
  have ob4 := own_below ob3 hb4
  have ox4 := own_below ox hb4
  have hB4 := hB3.trans (hb4.mono hB3.size)
  clear oa3 ob3 ox hB3 hb4 hc3 c0 c1 c2 e1 e2 e3 e4
  have hc4 : CutAt w4 w.heap.size mn mx bt := HC.out.kept (Kept.of_below (p := fun _ => True) hB4) trivial
  have lc := hc4.lt
  have d0 : ∀ X : Since w4.heap.size w4, X.val.cell? ⟨w.heap.size, 0, none⟩ = some (.int .i64 mn) := fun X => (X.property.cell (p := ⟨w.heap.size, 0, none⟩) lc).trans hc4.c0
  have d1 : ∀ X : Since w4.heap.size w4, X.val.cell? ⟨w.heap.size, 1, none⟩ = some (.int .i64 mx) := fun X => (X.property.cell (p := ⟨w.heap.size, 1, none⟩) lc).trans hc4.c1
  have d2 : ∀ X : Since w4.heap.size w4, X.val.cell? ⟨w.heap.size, 2, none⟩ = some (.int .i64 bt) := fun X => (X.property.cell (p := ⟨w.heap.size, 2, none⟩) lc).trans hc4.c2
  have g1 : ∀ X : Since w4.heap.size w4, Calls Try.prog 15 #[va, vb] X.val fun e w' => e = .returned (.bool true) ∧ Below X.val.heap.size X.val w' := fun X => equal_same (own_below oa4 X.property) (own_below ob4 X.property) hF
  have g2 : ∀ X : Since w4.heap.size w4, Calls Try.prog 15 #[vx, vy] X.val fun e w' => e = .returned (.bool true) ∧ Below X.val.heap.size X.val w' := fun X => equal_same (own_below ox4 X.property) (own_below oy X.property) hL
  have hne : Nonempty (Since w4.heap.size w4) := ⟨⟨w4, Below.refl _ _⟩⟩
  clear oa4 ob4 ox4 oy hc4 lc
  go_wp2_with fail
  refine wp_region_since (B := w4.heap.size) (W0 := w4) (by kernel_rfl) (by kernel_rfl) (Below.refl _ _) ?_
  repeat (go_big_quiet_step (fail))
  go_big_quiet_step (exact quiet_since _ (e5 _))
  repeat (go_big_quiet_step (fail))
  go_big_quiet_step (exact quiet_since _ (e6 _))
  repeat (go_big_quiet_step (fail))
  go_big_quiet_step (exact quiet_since _ (g1 _))
  repeat (go_big_quiet_step (fail))
  go_big_quiet_step (exact quiet_since _ (g2 _))
  repeat (go_big_quiet_step (fail))
  refine wpQuiet_nil ?_
  rintro w7 ⟨U, rfl⟩
  have hU := U.property
  go_wp2_with fail
  go_ret
  exact ⟨rfl, HB.out.trans ((hB4.trans (hU.mono hB4.size)).mono HB.out.size)⟩
theorem chunkSays_walk (mn mx bt n : Int) (s : ByteArray) (_ : (Lit.int .i64 mn).wf = true) (_ : (Lit.int .i64 mx).wf = true) (_ : (Lit.int .i64 bt).wf = true) (_ : (Lit.int .i64 n).wf = true) (_ : s.size ≤ 140737488351232) (w : World) :
    Calls Try.prog 3 #[cutV mn mx bt, .int .i64 n, .string s] w fun e w' => e = .returned (.bool true) ∧ Below w.heap.size w w' :=
  chunkSays_of mn mx bt n _ _ _ s w _ _ (fixL_le n s) (cutL_len mn mx bt s) (fun V => fixed_any n s V) (fun V => rfixed_any n s V) (fun V => cut_any mn mx bt s V) (fun V => rcut_any mn mx bt s V) (fun V => ok_any mn mx bt V) (fun V => rok_any mn mx bt V)
end Go.Proofs.Ytdalpicpkandcaa
