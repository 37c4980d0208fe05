/-
  What Each and Until of package chunk answer.
-/
import Derived.Test.YtdalpicpkandcaaCkCut
namespace Go.Proofs.Ytdalpicpkandcaa
open Go.RowKit Go.Shelf

attribute [local go_sem] Oper.semAt_some
set_option maxHeartbeats 1000000 in
theorem each_no (mn mx bt : Int) (s : ByteArray) (w : World) (h : sizeN mn mx bt s.size ≠ 0) :
    Calls Try.prog 18 #[cutV mn mx bt, .string s] w fun e w' => e = .returned (.func (.func 28) #[] #[]) ∧ Below w.heap.size w w' := by
  have hsz := size_any mn mx bt s.size
  generalize sizeN mn mx bt s.size = k at *
  have hq : (k != 0) = true := by rw [bne_iff_ne]; exact h
  unfold cutV at hsz ⊢
  go_enter Try.func18, Try.ntmps18
  go_wp2_with fail
  refine (hsz _).mono ?_
  rintro e w1 ⟨rfl, hb1⟩
  have hB1 := below_past hb1
  clear hb1
  go_wp2_with fail
  go_ret
  exact ⟨rfl, hB1⟩
/-- it tells nothing -/
theorem each1_tells (W : World) (Kp : Nat → Prop) : Tells Try.prog 28 #[] encP [] 0 Kp W := by
  intro l J Jx hJ hJx hY h0
  refine (callsIn_wide (n := 9)).1 ?_
  refine callsIn_of_wp Try.func28 rfl trivial ?_ rfl
  simp only [Try.ntmps28, List.size_toArray, List.length_cons, List.length_nil, Nat.reduceAdd, Nat.reduceSub, Array.replicate_succ, Array.replicate_zero, List.push_toArray, List.append_toArray, List.nil_append, List.cons_append]
  gi_wp2_with fail
  go_end0
  exact ⟨⟨_, rfl⟩, Nat.le_refl _, .inl h0⟩

set_option maxHeartbeats 1000000 in
theorem each_yes (mn mx bt : Int) (s : ByteArray) (w : World) (h : sizeN mn mx bt s.size = 0) (hs : s.size ≤ 4096) :
    Calls Try.prog 18 #[cutV mn mx bt, .string s] w fun e w' => ∃ bc, e = .returned (.func (.func 36) #[] #[.pointer (some ⟨bc, 0, none⟩), .pointer (some ⟨bc + 1, 0, none⟩)]) ∧ w.heap.size ≤ bc ∧
      CutAt w' bc mn mx bt ∧ Boxed w' (bc + 1) 9 (.string s) ∧ Below w.heap.size w w' := by
  have hsz := size_any mn mx bt s.size
  rw [h] at hsz
  have hpa := pieces_any mn mx bt s
  have hcl := fun V => clone_any s V (by omega)
  unfold cutV at hsz hpa ⊢
  obtain ⟨W4, hW4⟩ : ∃ W4, W4 = w.alloc (Obj.cells #[Value.int IntKind.i64 mn, Value.int IntKind.i64 mx, Value.int IntKind.i64 bt] 23) := ⟨_, rfl⟩
  have HC : Hid (CutAt W4 w.heap.size mn mx bt) := by rw [hW4]; exact World.alloc_heap_new w _
  have HB : Hid (Below w.heap.size w W4) := by rw [hW4]; exact (Below.refl _ w).alloc (Nat.le_refl _) _
  go_enter Try.func18, Try.ntmps18
  go_wp2_with fail
  rw [← hW4]
  refine (hsz _).mono ?_
  rintro e w1 ⟨rfl, hb1⟩
  have hc1 : CutAt w1 w.heap.size mn mx bt := HC.out.kept (Kept.of_below (p := fun _ => True) hb1) trivial
  have c0 := hc1.c0
  have c1 := hc1.c1
  have c2 := hc1.c2
  have lc := hc1.lt
  have HB1 : Hid (Below w.heap.size w w1) := HB.out.trans (hb1.mono HB.out.size)
  have hl1 : w.heap.size ≤ w1.heap.size := HB1.out.size
  clear hb1 hc1 hsz hW4 HC HB
  go_wp2_with fail
  refine wp_region_any (by kernel_rfl) ?_
  change wpAny _ _ _ _ _ _ _ (World.drew _)
  refine wpAny_take (i := 1) (v := .string s) rfl (by kernel_rfl) (by kernel_rfl) (by kernel_rfl) (fun _ _ _ h => h) (Or.inl ⟨by rfl, fun V => by go_simp⟩) ?_
  refine wpAny_ready (rs := [0, 2]) (by kernel_rfl) (by simp) ?_
  refine AllReady.cons rfl (fun K hK => ?_) (AllReady.cons rfl (fun K hK => ?_) AllReady.nil)
  · go_simp
    refine hK _ _ ?_
    clear hK K
    refine wpAny_ready (rs := [2]) (by kernel_rfl) (by simp) ?_
    · refine AllReady.cons rfl (fun K hK => ?_) AllReady.nil
      go_simp
      refine (hcl _).mono ?_
      rintro e w2 ⟨rfl, hb2⟩
      refine hK _ _ ?_
      clear hK K
      have hbw : Below w1.heap.size w1 w2 := (Below.refl w1.heap.size w1).drew.trans hb2
      clear hb2
      refine wpAny_ready (rs := [3]) (by kernel_rfl) (by simp) ?_
      refine AllReady.cons rfl (fun K hK => ?_) AllReady.nil
      go_simp
      refine (hpa _).mono ?_
      rintro e w3 ⟨rfl, hC3, hS3, hb3, _⟩
      refine hK _ _ ?_
      clear hK K
      refine wpAny_take (i := 4) (v := .func (.func 36) #[] #[.pointer (some ⟨w2.heap.size, 0, none⟩), .pointer (some ⟨w2.heap.size + 1, 0, none⟩)]) rfl (by kernel_rfl) (by kernel_rfl) (by kernel_rfl) (fun _ _ _ h => h) (Or.inl ⟨by rfl, fun V => by go_simp⟩) ?_
      refine wpAny_done (by kernel_rfl) ?_ _
      have HF : Hid (w.heap.size ≤ w2.heap.size ∧ CutAt w3 w2.heap.size mn mx bt ∧ Boxed w3 (w2.heap.size + 1) 9 (.string s) ∧ Below w.heap.size w w3) := by
        have h2 := hbw.size
        exact ⟨by omega, hC3, hS3, (HB1.out.trans (hbw.mono hl1)).trans (hb3.mono (by omega))⟩
      clear hC3 hS3 hb3 hbw
      go_wp2_with fail
      go_ret
      exact ⟨_, rfl, HF.out⟩
  · go_simp
    refine (hcl _).mono ?_
    rintro e w2 ⟨rfl, hb2⟩
    refine hK _ _ ?_
    clear hK K
    have hbw : Below w1.heap.size w1 w2 := (Below.refl w1.heap.size w1).drew.trans hb2
    have d0 : w2.cell? ⟨w.heap.size, 0, none⟩ = some (.int .i64 mn) := (hbw.cell (p := ⟨w.heap.size, 0, none⟩) lc).trans c0
    have d1 : w2.cell? ⟨w.heap.size, 1, none⟩ = some (.int .i64 mx) := (hbw.cell (p := ⟨w.heap.size, 1, none⟩) lc).trans c1
    have d2 : w2.cell? ⟨w.heap.size, 2, none⟩ = some (.int .i64 bt) := (hbw.cell (p := ⟨w.heap.size, 2, none⟩) lc).trans c2
    clear hb2
    refine wpAny_ready (rs := [0]) (by kernel_rfl) (by simp) ?_
    · refine AllReady.cons rfl (fun K hK => ?_) AllReady.nil
      go_simp
      refine hK _ _ ?_
      clear hK K
      refine wpAny_ready (rs := [3]) (by kernel_rfl) (by simp) ?_
      refine AllReady.cons rfl (fun K hK => ?_) AllReady.nil
      go_simp
      refine (hpa _).mono ?_
      rintro e w3 ⟨rfl, hC3, hS3, hb3, _⟩
      refine hK _ _ ?_
      clear hK K
      refine wpAny_take (i := 4) (v := .func (.func 36) #[] #[.pointer (some ⟨w2.heap.size, 0, none⟩), .pointer (some ⟨w2.heap.size + 1, 0, none⟩)]) rfl (by kernel_rfl) (by kernel_rfl) (by kernel_rfl) (fun _ _ _ h => h) (Or.inl ⟨by rfl, fun V => by go_simp⟩) ?_
      refine wpAny_done (by kernel_rfl) ?_ _
      have HF : Hid (w.heap.size ≤ w2.heap.size ∧ CutAt w3 w2.heap.size mn mx bt ∧ Boxed w3 (w2.heap.size + 1) 9 (.string s) ∧ Below w.heap.size w w3) := by
        have h2 := hbw.size
        exact ⟨by omega, hC3, hS3, (HB1.out.trans (hbw.mono hl1)).trans (hb3.mono (by omega))⟩
      clear hC3 hS3 hb3 hbw
      go_wp2_with fail
      go_ret
      exact ⟨_, rfl, HF.out⟩
end Go.Proofs.Ytdalpicpkandcaa
