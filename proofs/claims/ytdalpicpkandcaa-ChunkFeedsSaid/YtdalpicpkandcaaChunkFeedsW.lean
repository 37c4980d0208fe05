/-
  The walk of lumlaw.ChunkFeeds: it returns true.
-/
import Derived.Test.YtdalpicpkandcaaCkFeed
import Derived.Test.YtdalpicpkandcaaCkEq
namespace Go.Proofs.Ytdalpicpkandcaa
open Go.RowKit

set_option maxHeartbeats 1000000 in
theorem chunkFeeds_one (mn mx bt : Int) (held more : ByteArray) (w : World)
    (e1 : ∀ V, Calls Try.prog 16 #[cutV mn mx bt, .string held, .string more] V fun e w' => e = .returned (.tuple #[.slice none 0 0, .string ⟨#[]⟩, .int .i64 1]) ∧ Below V.heap.size V w')
    (e2 : ∀ V, Calls Try.prog 14 #[cutV mn mx bt] V fun e w' => e = .returned (.int .i64 1) ∧ Below V.heap.size V w') :
    Calls Try.prog 4 #[cutV mn mx bt, .string held, .string more] w fun e w' => e = .returned (.bool true) ∧ Below w.heap.size w w' := by
  unfold cutV at e1 e2 ⊢
  obtain ⟨W4, hW4⟩ : ∃ W4, W4 = w.alloc (Obj.cells #[Value.int IntKind.i64 mn, Value.int IntKind.i64 mx, Value.int IntKind.i64 bt] 23) := ⟨_, rfl⟩
  have HC : Hid (CutAt W4 w.heap.size mn mx bt) := by rw [hW4]; exact World.alloc_heap_new w _
  have HB : Hid (Below w.heap.size w W4) := by rw [hW4]; exact (Below.refl _ w).alloc (Nat.le_refl _) _
  go_enter Try.func4, Try.ntmps4
  go_wp2_with fail
  rw [← hW4]
  refine (e1 _).mono ?_
  rintro e w1 ⟨rfl, hb1⟩
  have hc1 : CutAt w1 w.heap.size mn mx bt := HC.out.kept (Kept.of_below (p := fun _ => True) hb1) trivial
  have c0 := hc1.c0
  have c1 := hc1.c1
  have c2 := hc1.c2
  have HB1 : Hid (Below w.heap.size w w1) := HB.out.trans (hb1.mono HB.out.size)
  clear hW4 HC hb1 hc1 e1
  go_wp2_with fail
  refine (e2 _).mono ?_
  rintro e w2 ⟨rfl, hb2⟩
  have HB2 : Hid (Below w.heap.size w w2) := HB1.out.trans (hb2.mono HB1.out.size)
  clear hb2 c0 c1 c2 e2
  go_wp2_with fail
  go_ret
  exact ⟨rfl, HB2.out⟩

set_option maxHeartbeats 1000000 in
theorem chunkFeeds_two (mn mx bt : Int) (held more : ByteArray) (w : World) (h1 : held.size ≤ 140737488351232) (hsum : 4096 < held.size + more.size)
    (e1 : ∀ V, Calls Try.prog 16 #[cutV mn mx bt, .string held, .string more] V fun e w' => e = .returned (.tuple #[.slice none 0 0, .string ⟨#[]⟩, .int .i64 2]) ∧ Below V.heap.size V w')
    (e2 : ∀ V, Calls Try.prog 14 #[cutV mn mx bt] V fun e w' => e = .returned (.int .i64 0) ∧ Below V.heap.size V w') :
    Calls Try.prog 4 #[cutV mn mx bt, .string held, .string more] w fun e w' => e = .returned (.bool true) ∧ Below w.heap.size w w' := by
  unfold cutV at e1 e2 ⊢
  obtain ⟨W4, hW4⟩ : ∃ W4, W4 = w.alloc (Obj.cells #[Value.int IntKind.i64 mn, Value.int IntKind.i64 mx, Value.int IntKind.i64 bt] 23) := ⟨_, rfl⟩
  have HC : Hid (CutAt W4 w.heap.size mn mx bt) := by rw [hW4]; exact World.alloc_heap_new w _
  have HB : Hid (Below w.heap.size w W4) := by rw [hW4]; exact (Below.refl _ w).alloc (Nat.le_refl _) _
  go_enter Try.func4, Try.ntmps4
  go_wp2_with fail
  rw [← hW4]
  refine (e1 _).mono ?_
  rintro e w1 ⟨rfl, hb1⟩
  have hc1 : CutAt w1 w.heap.size mn mx bt := HC.out.kept (Kept.of_below (p := fun _ => True) hb1) trivial
  have c0 := hc1.c0
  have c1 := hc1.c1
  have c2 := hc1.c2
  have HB1 : Hid (Below w.heap.size w w1) := HB.out.trans (hb1.mono HB.out.size)
  clear hW4 HC hb1 hc1 e1
  go_wp2_with fail
  refine (e2 _).mono ?_
  rintro e w2 ⟨rfl, hb2⟩
  have HB2 : Hid (Below w.heap.size w w2) := HB1.out.trans (hb2.mono HB1.out.size)
  clear hb2 c0 c1 c2 e2
  by_cases hh : held.size ≤ 4096
  · have q1 : ¬ (4096 : Int) < (held.size : Int) := by omega
    have q2 : (4096 : Int) - (held.size : Int) < (more.size : Int) := by omega
    go_wp2_with fail
    go_ret
    exact ⟨rfl, HB2.out⟩
  · have q1 : (4096 : Int) < (held.size : Int) := by omega
    go_wp2_with fail
    go_ret
    exact ⟨rfl, HB2.out⟩

set_option maxHeartbeats 1000000 in
theorem chunkFeeds_three (mn mx bt : Int) (held more s q : ByteArray) (w : World) (L : List Ck.Bs) (hL : L.length ≤ 4096) (hsum : held.size + more.size ≤ 4096) (hcat : ∀ V : World, (Op.stringOp .add held more).run Try.prog V = .ok (.string s) V)
    (e1 : ∀ V, Calls Try.prog 16 #[cutV mn mx bt, .string held, .string more] V fun e w' => ∃ v, e = .returned (.tuple #[v, .string q, .int .i64 0]) ∧ w'.ownsRow V.heap.size 9 1 v L.length (L.map Sv) ∧ Below V.heap.size V w')
    (e2 : ∀ V, Calls Try.prog 14 #[cutV mn mx bt] V fun e w' => e = .returned (.int .i64 0) ∧ Below V.heap.size V w')
    (e3 : ∀ V, Calls Try.prog 17 #[cutV mn mx bt, .string s] V fun e w' => ∃ v, e = .returned (.tuple #[v, .string q]) ∧ w'.ownsRow V.heap.size 9 1 v L.length (L.map Sv) ∧ Below V.heap.size V w') :
    Calls Try.prog 4 #[cutV mn mx bt, .string held, .string more] w fun e w' => e = .returned (.bool true) ∧ Below w.heap.size w w' := by
  unfold cutV at e1 e2 e3 ⊢
  obtain ⟨W4, hW4⟩ : ∃ W4, W4 = w.alloc (Obj.cells #[Value.int IntKind.i64 mn, Value.int IntKind.i64 mx, Value.int IntKind.i64 bt] 23) := ⟨_, rfl⟩
  have HC : Hid (CutAt W4 w.heap.size mn mx bt) := by rw [hW4]; exact World.alloc_heap_new w _
  have HB : Hid (Below w.heap.size w W4) := by rw [hW4]; exact (Below.refl _ w).alloc (Nat.le_refl _) _
  go_enter Try.func4, Try.ntmps4
  go_wp2_with fail
  rw [← hW4]
  refine (e1 _).mono ?_
  rintro e w1 ⟨va, rfl, oa, hb1⟩
  have hc1 : CutAt w1 w.heap.size mn mx bt := HC.out.kept (Kept.of_below (p := fun _ => True) hb1) trivial
  have c0 := hc1.c0
  have c1 := hc1.c1
  have c2 := hc1.c2
  have HB1 : Hid (Below W4.heap.size W4 w1) := hb1
  clear hW4 hb1 hc1 e1
  obtain ⟨a', n', c', rfl⟩ : ∃ a n c, va = .slice a n c := by
    rcases oa.2 with ⟨rfl, _⟩ | ⟨g, cap, cur, rfl, _⟩
    · exact ⟨_, _, _, rfl⟩
    · exact ⟨_, _, _, rfl⟩
  go_wp2_with fail
  refine (e2 _).mono ?_
  rintro e w2 ⟨rfl, hb2⟩
  have oa2 := own_below oa hb2
  have HB2 : Hid (Below W4.heap.size W4 w2) := HB1.out.trans (hb2.mono HB1.out.size)
  clear hb2 c0 c1 c2 e2 oa HB1
  have hc2 : CutAt w2 w.heap.size mn mx bt := HC.out.kept (Kept.of_below (p := fun _ => True) HB2.out) trivial
  have c0 := hc2.c0
  have c1 := hc2.c1
  have c2 := hc2.c2
  have q1 : ¬ (4096 : Int) < (held.size : Int) := by omega
  have q2 : ¬ (4096 : Int) - (held.size : Int) < (more.size : Int) := by omega
  clear hc2 hsum
  go_wp2_with fail
  refine (e3 _).mono ?_
  rintro e w3 ⟨vb, rfl, ob, hb3⟩
  have oa3 := own_below oa2 hb3
  have HB3 : Hid (Below W4.heap.size W4 w3) := HB2.out.trans (hb3.mono HB2.out.size)
  clear hb3 c0 c1 c2 e3 oa2 HB2 HC
  go_wp2_with fail
  refine (equal_same oa3 ob hL).mono ?_
  rintro e w7 ⟨rfl, hU⟩
  clear oa3 ob
  go_wp2_with fail
  go_ret
  have h3 := HB3.out
  exact ⟨rfl, HB.out.trans ((h3.trans (hU.mono h3.size)).mono HB.out.size)⟩

theorem cat_run (a b : ByteArray) (h : a.size + b.size ≤ 4096) (V : World) : (Op.stringOp .add a b).run Try.prog V = .ok (.string (a ++ b)) V :=
  run_string_add_sum (P := Try.prog) (w := V) a b (by omega)
theorem cat_size (a b : ByteArray) : (a ++ b).size = a.size + b.size := by
  rw [Lib.size_eq, ByteArray.data_append]; simp
theorem feed_yes (mn mx bt : Nat) (hO : OkCut mn mx bt) (held more : ByteArray) (hsum : held.size + more.size ≤ 4096) (w : World) :
    Calls Try.prog 16 #[cutV mn mx bt, .string held, .string more] w fun e w' => ∃ v, e = .returned (.tuple #[v, Sv (Ck.pieces (Ck.ends mn mx bt Rl.ofL) (held ++ more).data.toList).2, .int .i64 0]) ∧
      w'.ownsRow w.heap.size 9 1 v (Ck.pieces (Ck.ends mn mx bt Rl.ofL) (held ++ more).data.toList).1.length ((Ck.pieces (Ck.ends mn mx bt Rl.ofL) (held ++ more).data.toList).1.map Sv) ∧ Below w.heap.size w w' := by
  have hs : (held ++ more).size ≤ 4096 := by rw [cat_size]; exact hsum
  refine feed_ok mn mx bt hO held more (held ++ more) hs (cat_size held more).symm (cat_run held more hsum) w _ _ rfl ?_
  have h1 := cutL_le mn mx bt (by have := hO.1; omega) (by have := hO.2.1; omega) (held ++ more) hs
  refine Nat.le_trans ?_ h1
  obtain ⟨l, q, hp⟩ : ∃ l q, Ck.pieces (Ck.ends mn mx bt Rl.ofL) (held ++ more).data.toList = (l, q) := ⟨_, _, rfl⟩
  rw [hp, Ck.cut_of hp]
  split <;> simp
theorem chunkFeeds_walk (mn mx bt : Int) (held more : ByteArray) (_ : (Lit.int .i64 mn).wf = true) (_ : (Lit.int .i64 mx).wf = true) (_ : (Lit.int .i64 bt).wf = true) (z1 : held.size ≤ 140737488351232) (z2 : more.size ≤ 140737488351232) (w : World) :
    Calls Try.prog 4 #[cutV mn mx bt, .string held, .string more] w fun e w' => e = .returned (.bool true) ∧ Below w.heap.size w w' := by
  by_cases hO : OkCut mn mx bt
  · have e2 : ∀ V, Calls Try.prog 14 #[cutV mn mx bt] V fun e w' => e = .returned (.int .i64 0) ∧ Below V.heap.size V w' := fun V => by
      have := rok_any mn mx bt V
      rw [okN_yes hO] at this
      exact this
    by_cases hs : held.size + more.size ≤ 4096
    · obtain ⟨mn, rfl⟩ := Int.eq_ofNat_of_zero_le (show 0 ≤ mn by have := hO.1; omega)
      obtain ⟨mx, rfl⟩ := Int.eq_ofNat_of_zero_le (show 0 ≤ mx by have := hO.1; have := hO.2.1; omega)
      obtain ⟨bt, rfl⟩ := Int.eq_ofNat_of_zero_le (show 0 ≤ bt by have := hO.2.2.2.1; omega)
      have hss : (held ++ more).size ≤ 4096 := by rw [cat_size]; exact hs
      refine chunkFeeds_three mn mx bt held more (held ++ more) ⟨(Ck.pieces (Ck.ends mn mx bt Rl.ofL) (held ++ more).data.toList).2.toArray⟩ w (Ck.pieces (Ck.ends mn mx bt Rl.ofL) (held ++ more).data.toList).1 ?_ hs (cat_run held more hs)
        (fun V => feed_yes mn mx bt hO held more hs V) e2 (fun V => rpieces_any mn mx bt (by have := hO.2.2.2.1; omega) (by have := hO.2.2.2.2; omega) (held ++ more) V hss)
      have h1 := cutL_le mn mx bt (by have := hO.1; omega) (by have := hO.2.1; omega) (held ++ more) hss
      refine Nat.le_trans ?_ h1
      obtain ⟨l, q, hp⟩ : ∃ l q, Ck.pieces (Ck.ends mn mx bt Rl.ofL) (held ++ more).data.toList = (l, q) := ⟨_, _, rfl⟩
      rw [hp, Ck.cut_of hp]
      split <;> simp
    · refine chunkFeeds_two mn mx bt held more w z1 (by omega) (fun V => feed_no mn mx bt held more z1 z2 V 2 ?_ (by omega)) e2
      rw [sizeN, if_pos hO, if_neg (by omega)]
  · refine chunkFeeds_one mn mx bt held more w (fun V => feed_no mn mx bt held more z1 z2 V 1 ?_ (by omega)) (fun V => ?_)
    · rw [sizeN, if_neg hO]
    · have := rok_any mn mx bt V
      rw [okN_no hO] at this
      exact this
end Go.Proofs.Ytdalpicpkandcaa
