/-
  What ample, stays and spoil of package lumkeep do to rows of a list.
-/
import Derived.Test.YtllioidjelgafabOwG
import Derived.Test.YtllioidjelgafabEnEq
namespace Go.Proofs.Ytllioidjelgafab
open Go.RowKit
set_option maxRecDepth 4000

set_option maxHeartbeats 16000000 in
theorem ample_ents (v : Value) (l : List Ent) (b0 b1 b2 b3 b4 b5 b6 b7 : UInt8) (kd aa ln : Int) (w : World) (h : Rx 11 enC w v l) (hl : l.length * 32 ≤ 140737488351232) :
    Calls Try.prog 11 #[v, .agg #[.int .u8 (b0.toNat : Int), .int .u8 (b1.toNat : Int), .int .u8 (b2.toNat : Int), .int .u8 (b3.toNat : Int), .int .u8 (b4.toNat : Int), .int .u8 (b5.toNat : Int), .int .u8 (b6.toNat : Int), .int .u8 (b7.toNat : Int), .int .i64 kd, .int .i64 aa, .int .i64 ln]] w fun e w' => ∃ g, e = .returned (.slice (some ⟨g, 0, none⟩) l.length (l.length + 3)) ∧ w'.ownsRow w.heap.size 40 11 (.slice (some ⟨g, 0, none⟩) (l.length + 2) (l.length + 3)) (l.length + 2) (rowR enC (l ++ [(⟨[b0, b1, b2, b3, b4, b5, b6, b7], rfl, kd, aa, ln⟩ : Ent), (⟨[b0, b1, b2, b3, b4, b5, b6, b7], rfl, kd, aa, ln⟩ : Ent)])) ∧ Below w.heap.size w w' := by
  obtain ⟨i0, hi, hz0, hz1, hz2⟩ := info_three info_enz
  obtain ⟨a, c, rfl, hcc1, hcc2⟩ := h.slice
  obtain ⟨W1, hW1⟩ : ∃ W1, W1 = w.alloc (.cells #[.int .u8 (b0.toNat : Int), .int .u8 (b1.toNat : Int), .int .u8 (b2.toNat : Int), .int .u8 (b3.toNat : Int), .int .u8 (b4.toNat : Int), .int .u8 (b5.toNat : Int), .int .u8 (b6.toNat : Int), .int .u8 (b7.toNat : Int), .int .i64 kd, .int .i64 aa, .int .i64 ln] 40) := ⟨_, rfl⟩
  have hB1 : Below w.heap.size w W1 := by rw [hW1]; exact (Below.refl _ w).alloc (Nat.le_refl _) _
  have hs1 : w.heap.size < W1.heap.size := by rw [hW1]; show _ < (w.heap.push _).size; simp
  have hbk1 : W1.heap[w.heap.size]? = some (.cells #[.int .u8 (b0.toNat : Int), .int .u8 (b1.toNat : Int), .int .u8 (b2.toNat : Int), .int .u8 (b3.toNat : Int), .int .u8 (b4.toNat : Int), .int .u8 (b5.toNat : Int), .int .u8 (b6.toNat : Int), .int .u8 (b7.toNat : Int), .int .i64 kd, .int .i64 aa, .int .i64 ln] 40 (0, 0)) := by rw [hW1]; exact heap_alloc_new w _
  have HSX : Hid (∀ W, Below W1.heap.size W1 W → W.cell? ⟨w.heap.size, 0, none⟩ = some (.int .u8 (b0.toNat : Int)) ∧ W.cell? ⟨w.heap.size, 1, none⟩ = some (.int .u8 (b1.toNat : Int)) ∧ W.cell? ⟨w.heap.size, 2, none⟩ = some (.int .u8 (b2.toNat : Int)) ∧ W.cell? ⟨w.heap.size, 3, none⟩ = some (.int .u8 (b3.toNat : Int)) ∧ W.cell? ⟨w.heap.size, 4, none⟩ = some (.int .u8 (b4.toNat : Int)) ∧ W.cell? ⟨w.heap.size, 5, none⟩ = some (.int .u8 (b5.toNat : Int)) ∧ W.cell? ⟨w.heap.size, 6, none⟩ = some (.int .u8 (b6.toNat : Int)) ∧ W.cell? ⟨w.heap.size, 7, none⟩ = some (.int .u8 (b7.toNat : Int)) ∧ W.cell? ⟨w.heap.size, 8, none⟩ = some (.int .i64 kd) ∧ W.cell? ⟨w.heap.size, 9, none⟩ = some (.int .i64 aa) ∧ W.cell? ⟨w.heap.size, 10, none⟩ = some (.int .i64 ln)) := fun W hW => by
    have e : W.heap[w.heap.size]? = _ := (hW.block _ hs1).trans hbk1
    have key := fun j => cell_of_row W w.heap.size j _ _ _ e
    exact ⟨key 0, key 1, key 2, key 3, key 4, key 5, key 6, key 7, key 8, key 9, key 10⟩
  have HSR : Hid (∀ W, Below W1.heap.size W1 W → (a = none → l.length = 0) ∧ ∀ ad, a = some ad → ∀ j u, (rowR enC l)[j]? = some u → W.cell? (ad.add j) = some u) := fun W hW =>
    (h.below (hB1.trans (hW.mono (by omega)))).src enC_length (by omega)
  have HB1 : Hid (Below w.heap.size w W1) := hB1
  have B0 : Hid (Below W1.heap.size W1 W1.drew) := (Below.refl _ W1).drew
  have BX : Hid (∀ o, Below W1.heap.size W1 (W1.alloc o).drew) := fun o => ((Below.refl _ W1).alloc (Nat.le_refl _) o).drew
  have HTW : Hid ((#[.int .u8 (b0.toNat : Int), .int .u8 (b1.toNat : Int), .int .u8 (b2.toNat : Int), .int .u8 (b3.toNat : Int), .int .u8 (b4.toNat : Int), .int .u8 (b5.toNat : Int), .int .u8 (b6.toNat : Int), .int .u8 (b7.toNat : Int), .int .i64 kd, .int .i64 aa, .int .i64 ln, .int .u8 (b0.toNat : Int), .int .u8 (b1.toNat : Int), .int .u8 (b2.toNat : Int), .int .u8 (b3.toNat : Int), .int .u8 (b4.toNat : Int), .int .u8 (b5.toNat : Int), .int .u8 (b6.toNat : Int), .int .u8 (b7.toNat : Int), .int .i64 kd, .int .i64 aa, .int .i64 ln] : Array Value) = (rowR enC [(⟨[b0, b1, b2, b3, b4, b5, b6, b7], rfl, kd, aa, ln⟩ : Ent), (⟨[b0, b1, b2, b3, b4, b5, b6, b7], rfl, kd, aa, ln⟩ : Ent)]).toArray) := rfl
  clear h hB1 hcc1 hcc2 hbk1
  go_enter Try.func11, Try.ntmps11
  go_wp2_with fail
  rw [← hW1]
  clear hW1
  go_cut [5] from 6 (fun x wx => ∃ g, x = .slice (some ⟨g, 0, none⟩) (l.length + 2) (l.length + 3) ∧ Hid (wx.ownsRow W1.heap.size 40 11 (.slice (some ⟨g, 0, none⟩) (l.length + 2) (l.length + 3)) (l.length + 2) (rowR enC (l ++ [(⟨[b0, b1, b2, b3, b4, b5, b6, b7], rfl, kd, aa, ln⟩ : Ent), (⟨[b0, b1, b2, b3, b4, b5, b6, b7], rfl, kd, aa, ln⟩ : Ent)])) ∧ Below W1.heap.size W1 wx))
  case first =>
    have hwr : IntKind.i64.wrap ((l.length : Int) + 3) = ((l.length + 3 : Nat) : Int) := by rw [IntKind.wrap_i64]; omega
    obtain ⟨w1, hr1, o1, g1⟩ := run_make_own (P := Try.prog) W1.drew W1.heap.size 35 40 i0 (enV en0) 11 Try.underlying35 hi hz0 hz1 .i64 .i64 (l.length + 3) (by rw [hz2]; omega) (by unfold maxLen; omega) (by simp)
    obtain ⟨w1x, hr1x, o1x, g1x⟩ := run_make_own (P := Try.prog) (W1.alloc (.cells #[.int .u8 (b0.toNat : Int), .int .u8 (b1.toNat : Int), .int .u8 (b2.toNat : Int), .int .u8 (b3.toNat : Int), .int .u8 (b4.toNat : Int), .int .u8 (b5.toNat : Int), .int .u8 (b6.toNat : Int), .int .u8 (b7.toNat : Int), .int .i64 kd, .int .i64 aa, .int .i64 ln, .int .u8 (b0.toNat : Int), .int .u8 (b1.toNat : Int), .int .u8 (b2.toNat : Int), .int .u8 (b3.toNat : Int), .int .u8 (b4.toNat : Int), .int .u8 (b5.toNat : Int), .int .u8 (b6.toNat : Int), .int .u8 (b7.toNat : Int), .int .i64 kd, .int .i64 aa, .int .i64 ln] 40)).drew W1.heap.size 35 40 i0 (enV en0) 11 Try.underlying35 hi hz0 hz1 .i64 .i64 (l.length + 3) (by rw [hz2]; omega) (by unfold maxLen; omega) (by simp)
    rw [← hwr] at hr1 hr1x
    have hb1 : Below W1.heap.size W1 w1 := B0.out.grown g1 (by simp) (fun k hk => by cases hk)
    have hb1x : Below W1.heap.size W1 w1x := (BX.out _).grown g1x (by simp) (fun k hk => by cases hk)
    have HX1 : Hid (w1x.heap[W1.heap.size]? = some (.cells (rowR enC [(⟨[b0, b1, b2, b3, b4, b5, b6, b7], rfl, kd, aa, ln⟩ : Ent), (⟨[b0, b1, b2, b3, b4, b5, b6, b7], rfl, kd, aa, ln⟩ : Ent)]).toArray 40 (0, 0))) := by show _ = _; rw [← HTW.out]; exact (g1x.block _ (by simp) (by simp)).trans (heap_alloc_new W1 _)
    have hz1' := hb1.size
    have hz1x := hb1x.size
    have O1 : w1.ownsRow W1.heap.size 40 11 (.slice (some ⟨W1.heap.size, 0, none⟩) 0 (l.length + 3)) 0 [] := o1
    have O1x : w1x.ownsRow W1.heap.size 40 11 (.slice (some ⟨W1.heap.size + 1, 0, none⟩) 0 (l.length + 3)) 0 [] := by simpa using o1x
    have hx1 : W1.heap.size + 1 < w1x.heap.size := (O1x.lt _ rfl).2
    have hx2 : W1.heap.size < w1.heap.size := (O1.lt _ rfl).2
    have hr1' : (Instr.makeSlice 35 (.int .i64 0) (.int .i64 (IntKind.i64.wrap ((l.length : Int) + 3)))).run Try.prog W1.drew = .ok (.slice (some ⟨W1.heap.size, 0, none⟩) 0 (l.length + 3)) w1 := hr1
    have hr2' : (Instr.makeSlice 35 (.int .i64 0) (.int .i64 (IntKind.i64.wrap ((l.length : Int) + 3)))).run Try.prog (W1.alloc (.cells #[.int .u8 (b0.toNat : Int), .int .u8 (b1.toNat : Int), .int .u8 (b2.toNat : Int), .int .u8 (b3.toNat : Int), .int .u8 (b4.toNat : Int), .int .u8 (b5.toNat : Int), .int .u8 (b6.toNat : Int), .int .u8 (b7.toNat : Int), .int .i64 kd, .int .i64 aa, .int .i64 ln, .int .u8 (b0.toNat : Int), .int .u8 (b1.toNat : Int), .int .u8 (b2.toNat : Int), .int .u8 (b3.toNat : Int), .int .u8 (b4.toNat : Int), .int .u8 (b5.toNat : Int), .int .u8 (b6.toNat : Int), .int .u8 (b7.toNat : Int), .int .i64 kd, .int .i64 aa, .int .i64 ln] 40)).drew = .ok (.slice (some ⟨W1.heap.size + 1, 0, none⟩) 0 (l.length + 3)) w1x := by simpa using hr1x
    clear o1 o1x g1 g1x hr1 hr1x hwr
    go_region_held3 (fun w' => w'.cell? ⟨w.heap.size, 0, none⟩ = some (.int .u8 (b0.toNat : Int)) ∧ w'.cell? ⟨w.heap.size, 1, none⟩ = some (.int .u8 (b1.toNat : Int)) ∧ w'.cell? ⟨w.heap.size, 2, none⟩ = some (.int .u8 (b2.toNat : Int)) ∧ w'.cell? ⟨w.heap.size, 3, none⟩ = some (.int .u8 (b3.toNat : Int)) ∧ w'.cell? ⟨w.heap.size, 4, none⟩ = some (.int .u8 (b4.toNat : Int)) ∧ w'.cell? ⟨w.heap.size, 5, none⟩ = some (.int .u8 (b5.toNat : Int)) ∧ w'.cell? ⟨w.heap.size, 6, none⟩ = some (.int .u8 (b6.toNat : Int)) ∧ w'.cell? ⟨w.heap.size, 7, none⟩ = some (.int .u8 (b7.toNat : Int)) ∧ w'.cell? ⟨w.heap.size, 8, none⟩ = some (.int .i64 kd) ∧ w'.cell? ⟨w.heap.size, 9, none⟩ = some (.int .i64 aa) ∧ w'.cell? ⟨w.heap.size, 10, none⟩ = some (.int .i64 ln))
      (first | with_reducible exact HSX.out _ hb3 | with_reducible exact HSX.out _ (hb2.alloc hb2.size _) | with_reducible exact HSX.out _ hb2 | with_reducible exact HSX.out _ (hb1.alloc hz1' _) | with_reducible exact HSX.out _ hb1 | with_reducible exact HSX.out _ hb1x | with_reducible exact HSX.out _ (BX.out _) | with_reducible exact HSX.out _ B0.out | go_keep)
      (first
        | (refine step_fits_all _ (by rfl) (.tmp 9) (.tmp 10) 35 (by rfl) W1.heap.size 40 i0 11 Try.underlying35 hi hz1 _ _ _ _ (by rfl) O1 _ _ _ (rowR enC l) (by rfl) (by rw [rowR_length enC_length]) (HSR.out _ hb1).1 (HSR.out _ hb1).2 (rowR_one enC_one _) (by omega) l.length (by omega) ?_; intro w2 o2 g2; rw [List.nil_append] at o2; have hb2 : Below W1.heap.size W1 w2 := hb1.grown g2 hz1' (fun k hk => by cases hk; omega))
        | (refine step_fits_all _ (by rfl) (.tmp 9) (.tmp 10) 35 (by rfl) W1.heap.size 40 i0 11 Try.underlying35 hi hz1 _ _ _ _ (by rfl) (O1.alloc _) _ _ _ (rowR enC l) (by rfl) (by rw [rowR_length enC_length]) (HSR.out _ hb1).1 (HSR.out _ (hb1.alloc hz1' _)).2 (rowR_one enC_one _) (by omega) l.length (by omega) ?_; intro w2 o2 g2; rw [List.nil_append] at o2; have hb2 : Below W1.heap.size W1 w2 := (hb1.alloc hz1' _).grown g2 (by simp; omega) (fun k hk => by cases hk; omega); have HX2 : Hid (w2.heap[w1.heap.size]? = some (.cells (rowR enC [(⟨[b0, b1, b2, b3, b4, b5, b6, b7], rfl, kd, aa, ln⟩ : Ent), (⟨[b0, b1, b2, b3, b4, b5, b6, b7], rfl, kd, aa, ln⟩ : Ent)]).toArray 40 (0, 0))) := (by show _ = _; rw [← HTW.out]; exact (g2.block _ (by simp) (by simp; omega)).trans (heap_alloc_new w1 _)))
        | (refine step_fits_all _ (by rfl) (.tmp 9) (.tmp 10) 35 (by rfl) W1.heap.size 40 i0 11 Try.underlying35 hi hz1 _ _ _ _ (by rfl) O1x _ _ _ (rowR enC l) (by rfl) (by rw [rowR_length enC_length]) (HSR.out _ hb1x).1 (HSR.out _ hb1x).2 (rowR_one enC_one _) (by omega) l.length (by omega) ?_; intro w2 o2 g2; rw [List.nil_append] at o2; have hb2 : Below W1.heap.size W1 w2 := hb1x.grown g2 hz1x (fun k hk => by cases hk; omega); have HX2 : Hid (w2.heap[W1.heap.size]? = some (.cells (rowR enC [(⟨[b0, b1, b2, b3, b4, b5, b6, b7], rfl, kd, aa, ln⟩ : Ent), (⟨[b0, b1, b2, b3, b4, b5, b6, b7], rfl, kd, aa, ln⟩ : Ent)]).toArray 40 (0, 0))) := (g2.block _ (by omega) (by simp)).trans HX1.out)
        | (refine step_fits_all _ (by rfl) (.tmp 11) (.tmp 14) 35 (by rfl) W1.heap.size 40 i0 11 Try.underlying35 hi hz1 _ _ _ _ (by rfl) (o2.alloc _) _ _ _ (rowR enC [(⟨[b0, b1, b2, b3, b4, b5, b6, b7], rfl, kd, aa, ln⟩ : Ent), (⟨[b0, b1, b2, b3, b4, b5, b6, b7], rfl, kd, aa, ln⟩ : Ent)]) (by rfl) (by rfl) (by simp) (two_rows (by rw [← HTW.out]; exact heap_alloc_new w2 _)) (rowR_one enC_one _) (by omega) (l.length + 2) (by omega) ?_; intro w3 o3 g3; have hb3 : Below W1.heap.size W1 w3 := (hb2.alloc hb2.size _).grown g3 (Nat.le_trans hb2.size (by simp)) (fun k hk => by cases hk; omega))
        | (refine step_fits_all _ (by rfl) (.tmp 11) (.tmp 14) 35 (by rfl) W1.heap.size 40 i0 11 Try.underlying35 hi hz1 _ _ _ _ (by rfl) o2 _ _ _ (rowR enC [(⟨[b0, b1, b2, b3, b4, b5, b6, b7], rfl, kd, aa, ln⟩ : Ent), (⟨[b0, b1, b2, b3, b4, b5, b6, b7], rfl, kd, aa, ln⟩ : Ent)]) (by rfl) (by rfl) (by simp) (two_rows HX2.out) (rowR_one enC_one _) (by omega) (l.length + 2) (by omega) ?_; intro w3 o3 g3; have hb3 : Below W1.heap.size W1 w3 := hb2.grown g3 hb2.size (fun k hk => by cases hk; omega)))
    all_goals
      go_wp2_with fail
      go_meet
      exact ⟨_, rfl, by rw [rowR_two]; exact o3, hb3⟩
  case rest =>
  obtain ⟨g, rfl, ho⟩ := hcut
  have HO := ho.out.1
  have HB := HB1.out.trans (ho.out.2.mono (by omega))
  have HO' : Hid (wc.ownsRow w.heap.size 40 11 (.slice (some ⟨g, 0, none⟩) (l.length + 2) (l.length + 3)) (l.length + 2) (rowR enC (l ++ [(⟨[b0, b1, b2, b3, b4, b5, b6, b7], rfl, kd, aa, ln⟩ : Ent), (⟨[b0, b1, b2, b3, b4, b5, b6, b7], rfl, kd, aa, ln⟩ : Ent)]))) := rown_low HO (by omega)
  have HB' : Hid (Below w.heap.size w wc) := HB
  clear HO HB ho
  go_wp2_with fail
  go_ret
  exact ⟨_, rfl, HO'.out, HB'.out⟩

set_option maxHeartbeats 8000000 in
theorem stays_ents (g : Nat) (u : Value) (l : List Ent) (b0 b1 b2 b3 b4 b5 b6 b7 : UInt8) (kd aa ln : Int) (w : World) (base : Nat) (h : w.ownsRow base 40 11 (.slice (some ⟨g, 0, none⟩) (l.length + 2) (l.length + 3)) (l.length + 2) (rowR enC (l ++ [(⟨[b0, b1, b2, b3, b4, b5, b6, b7], rfl, kd, aa, ln⟩ : Ent), (⟨[b0, b1, b2, b3, b4, b5, b6, b7], rfl, kd, aa, ln⟩ : Ent)]))) (k : Rx 11 enC w u l) (hl : l.length * 32 ≤ 140737488351232) :
    Calls Try.prog 14 #[.slice (some ⟨g, 0, none⟩) l.length (l.length + 3), u, .agg #[.int .u8 (b0.toNat : Int), .int .u8 (b1.toNat : Int), .int .u8 (b2.toNat : Int), .int .u8 (b3.toNat : Int), .int .u8 (b4.toNat : Int), .int .u8 (b5.toNat : Int), .int .u8 (b6.toNat : Int), .int .u8 (b7.toNat : Int), .int .i64 kd, .int .i64 aa, .int .i64 ln]] w fun e w' => e = .returned (.bool true) ∧ Below w.heap.size w w' := by
  have hlt : g < w.heap.size := (h.lt g rfl).2
  have cx := amp_fill enC_length h l.length (.inl rfl)
  have cy := amp_fill enC_length h (l.length + 1) (.inr rfl)
  obtain ⟨W1, hW1⟩ : ∃ W1, W1 = w.alloc (.cells #[.int .u8 (b0.toNat : Int), .int .u8 (b1.toNat : Int), .int .u8 (b2.toNat : Int), .int .u8 (b3.toNat : Int), .int .u8 (b4.toNat : Int), .int .u8 (b5.toNat : Int), .int .u8 (b6.toNat : Int), .int .u8 (b7.toNat : Int), .int .i64 kd, .int .i64 aa, .int .i64 ln] 40) := ⟨_, rfl⟩
  have hb1 : Below w.heap.size w W1 := by rw [hW1]; exact (Below.refl _ w).alloc (Nat.le_refl _) _
  have hz1 : w.heap.size < W1.heap.size := by rw [hW1]; show _ < (w.heap.push _).size; simp
  have hbk1 : W1.heap[w.heap.size]? = some (.cells #[.int .u8 (b0.toNat : Int), .int .u8 (b1.toNat : Int), .int .u8 (b2.toNat : Int), .int .u8 (b3.toNat : Int), .int .u8 (b4.toNat : Int), .int .u8 (b5.toNat : Int), .int .u8 (b6.toNat : Int), .int .u8 (b7.toNat : Int), .int .i64 kd, .int .i64 aa, .int .i64 ln] 40 (0, 0)) := by rw [hW1]; exact heap_alloc_new w _
  have heq : ∀ X : Since W1.heap.size W1, Calls Try.prog 26 #[.slice (some ⟨g, 0, none⟩) l.length (l.length + 3), u] X.val fun e w' => e = .returned (.bool true) ∧ Below X.val.heap.size X.val w' := fun X =>
    equal_ents _ _ l X.val ((amp_rx enC_length h (by omega)).below (hb1.trans (X.property.mono (by omega)))) (k.below (hb1.trans (X.property.mono (by omega)))) (by omega)
  have hcell : ∀ (X : Since W1.heap.size W1) (o : Nat), X.val.cell? ⟨g, o, none⟩ = w.cell? ⟨g, o, none⟩ := fun X o => (X.property.cell (p := ⟨g, o, none⟩) (by show g < _; omega)).trans (hb1.cell (p := ⟨g, o, none⟩) hlt)
  have x0 : ∀ X : Since W1.heap.size W1, X.val.cell? ⟨g, l.length * 11, none⟩ = some (.int .u8 (b0.toNat : Int)) := fun X => (hcell X _).trans (cx 0 _ rfl)
  have y0 : ∀ X : Since W1.heap.size W1, X.val.cell? ⟨g, (l.length + 1) * 11, none⟩ = some (.int .u8 (b0.toNat : Int)) := fun X => (hcell X _).trans (cy 0 _ rfl)
  have b0b : ∀ X : Since W1.heap.size W1, X.val.cell? ⟨w.heap.size, 0, none⟩ = some (.int .u8 (b0.toNat : Int)) := fun X => (X.property.cell (p := ⟨w.heap.size, 0, none⟩) hz1).trans (cell_of_row _ _ 0 _ _ _ hbk1)
  have x1 : ∀ X : Since W1.heap.size W1, X.val.cell? ⟨g, l.length * 11 + 1, none⟩ = some (.int .u8 (b1.toNat : Int)) := fun X => (hcell X _).trans (cx 1 _ rfl)
  have y1 : ∀ X : Since W1.heap.size W1, X.val.cell? ⟨g, (l.length + 1) * 11 + 1, none⟩ = some (.int .u8 (b1.toNat : Int)) := fun X => (hcell X _).trans (cy 1 _ rfl)
  have b1b : ∀ X : Since W1.heap.size W1, X.val.cell? ⟨w.heap.size, 1, none⟩ = some (.int .u8 (b1.toNat : Int)) := fun X => (X.property.cell (p := ⟨w.heap.size, 1, none⟩) hz1).trans (cell_of_row _ _ 1 _ _ _ hbk1)
  have x2 : ∀ X : Since W1.heap.size W1, X.val.cell? ⟨g, l.length * 11 + 2, none⟩ = some (.int .u8 (b2.toNat : Int)) := fun X => (hcell X _).trans (cx 2 _ rfl)
  have y2 : ∀ X : Since W1.heap.size W1, X.val.cell? ⟨g, (l.length + 1) * 11 + 2, none⟩ = some (.int .u8 (b2.toNat : Int)) := fun X => (hcell X _).trans (cy 2 _ rfl)
  have b2b : ∀ X : Since W1.heap.size W1, X.val.cell? ⟨w.heap.size, 2, none⟩ = some (.int .u8 (b2.toNat : Int)) := fun X => (X.property.cell (p := ⟨w.heap.size, 2, none⟩) hz1).trans (cell_of_row _ _ 2 _ _ _ hbk1)
  have x3 : ∀ X : Since W1.heap.size W1, X.val.cell? ⟨g, l.length * 11 + 3, none⟩ = some (.int .u8 (b3.toNat : Int)) := fun X => (hcell X _).trans (cx 3 _ rfl)
  have y3 : ∀ X : Since W1.heap.size W1, X.val.cell? ⟨g, (l.length + 1) * 11 + 3, none⟩ = some (.int .u8 (b3.toNat : Int)) := fun X => (hcell X _).trans (cy 3 _ rfl)
  have b3b : ∀ X : Since W1.heap.size W1, X.val.cell? ⟨w.heap.size, 3, none⟩ = some (.int .u8 (b3.toNat : Int)) := fun X => (X.property.cell (p := ⟨w.heap.size, 3, none⟩) hz1).trans (cell_of_row _ _ 3 _ _ _ hbk1)
  have x4 : ∀ X : Since W1.heap.size W1, X.val.cell? ⟨g, l.length * 11 + 4, none⟩ = some (.int .u8 (b4.toNat : Int)) := fun X => (hcell X _).trans (cx 4 _ rfl)
  have y4 : ∀ X : Since W1.heap.size W1, X.val.cell? ⟨g, (l.length + 1) * 11 + 4, none⟩ = some (.int .u8 (b4.toNat : Int)) := fun X => (hcell X _).trans (cy 4 _ rfl)
  have b4b : ∀ X : Since W1.heap.size W1, X.val.cell? ⟨w.heap.size, 4, none⟩ = some (.int .u8 (b4.toNat : Int)) := fun X => (X.property.cell (p := ⟨w.heap.size, 4, none⟩) hz1).trans (cell_of_row _ _ 4 _ _ _ hbk1)
  have x5 : ∀ X : Since W1.heap.size W1, X.val.cell? ⟨g, l.length * 11 + 5, none⟩ = some (.int .u8 (b5.toNat : Int)) := fun X => (hcell X _).trans (cx 5 _ rfl)
  have y5 : ∀ X : Since W1.heap.size W1, X.val.cell? ⟨g, (l.length + 1) * 11 + 5, none⟩ = some (.int .u8 (b5.toNat : Int)) := fun X => (hcell X _).trans (cy 5 _ rfl)
  have b5b : ∀ X : Since W1.heap.size W1, X.val.cell? ⟨w.heap.size, 5, none⟩ = some (.int .u8 (b5.toNat : Int)) := fun X => (X.property.cell (p := ⟨w.heap.size, 5, none⟩) hz1).trans (cell_of_row _ _ 5 _ _ _ hbk1)
  have x6 : ∀ X : Since W1.heap.size W1, X.val.cell? ⟨g, l.length * 11 + 6, none⟩ = some (.int .u8 (b6.toNat : Int)) := fun X => (hcell X _).trans (cx 6 _ rfl)
  have y6 : ∀ X : Since W1.heap.size W1, X.val.cell? ⟨g, (l.length + 1) * 11 + 6, none⟩ = some (.int .u8 (b6.toNat : Int)) := fun X => (hcell X _).trans (cy 6 _ rfl)
  have b6b : ∀ X : Since W1.heap.size W1, X.val.cell? ⟨w.heap.size, 6, none⟩ = some (.int .u8 (b6.toNat : Int)) := fun X => (X.property.cell (p := ⟨w.heap.size, 6, none⟩) hz1).trans (cell_of_row _ _ 6 _ _ _ hbk1)
  have x7 : ∀ X : Since W1.heap.size W1, X.val.cell? ⟨g, l.length * 11 + 7, none⟩ = some (.int .u8 (b7.toNat : Int)) := fun X => (hcell X _).trans (cx 7 _ rfl)
  have y7 : ∀ X : Since W1.heap.size W1, X.val.cell? ⟨g, (l.length + 1) * 11 + 7, none⟩ = some (.int .u8 (b7.toNat : Int)) := fun X => (hcell X _).trans (cy 7 _ rfl)
  have b7b : ∀ X : Since W1.heap.size W1, X.val.cell? ⟨w.heap.size, 7, none⟩ = some (.int .u8 (b7.toNat : Int)) := fun X => (X.property.cell (p := ⟨w.heap.size, 7, none⟩) hz1).trans (cell_of_row _ _ 7 _ _ _ hbk1)
  have x8 : ∀ X : Since W1.heap.size W1, X.val.cell? ⟨g, l.length * 11 + 8, none⟩ = some (.int .i64 kd) := fun X => (hcell X _).trans (cx 8 _ rfl)
  have y8 : ∀ X : Since W1.heap.size W1, X.val.cell? ⟨g, (l.length + 1) * 11 + 8, none⟩ = some (.int .i64 kd) := fun X => (hcell X _).trans (cy 8 _ rfl)
  have b8b : ∀ X : Since W1.heap.size W1, X.val.cell? ⟨w.heap.size, 8, none⟩ = some (.int .i64 kd) := fun X => (X.property.cell (p := ⟨w.heap.size, 8, none⟩) hz1).trans (cell_of_row _ _ 8 _ _ _ hbk1)
  have x9 : ∀ X : Since W1.heap.size W1, X.val.cell? ⟨g, l.length * 11 + 9, none⟩ = some (.int .i64 aa) := fun X => (hcell X _).trans (cx 9 _ rfl)
  have y9 : ∀ X : Since W1.heap.size W1, X.val.cell? ⟨g, (l.length + 1) * 11 + 9, none⟩ = some (.int .i64 aa) := fun X => (hcell X _).trans (cy 9 _ rfl)
  have b9b : ∀ X : Since W1.heap.size W1, X.val.cell? ⟨w.heap.size, 9, none⟩ = some (.int .i64 aa) := fun X => (X.property.cell (p := ⟨w.heap.size, 9, none⟩) hz1).trans (cell_of_row _ _ 9 _ _ _ hbk1)
  have x10 : ∀ X : Since W1.heap.size W1, X.val.cell? ⟨g, l.length * 11 + 10, none⟩ = some (.int .i64 ln) := fun X => (hcell X _).trans (cx 10 _ rfl)
  have y10 : ∀ X : Since W1.heap.size W1, X.val.cell? ⟨g, (l.length + 1) * 11 + 10, none⟩ = some (.int .i64 ln) := fun X => (hcell X _).trans (cy 10 _ rfl)
  have b10b : ∀ X : Since W1.heap.size W1, X.val.cell? ⟨w.heap.size, 10, none⟩ = some (.int .i64 ln) := fun X => (X.property.cell (p := ⟨w.heap.size, 10, none⟩) hz1).trans (cell_of_row _ _ 10 _ _ _ hbk1)
  have hte : ∀ W, (Op.equalIn 10000 40 (.agg #[.int .u8 (b0.toNat : Int), .int .u8 (b1.toNat : Int), .int .u8 (b2.toNat : Int), .int .u8 (b3.toNat : Int), .int .u8 (b4.toNat : Int), .int .u8 (b5.toNat : Int), .int .u8 (b6.toNat : Int), .int .u8 (b7.toNat : Int), .int .i64 kd, .int .i64 aa, .int .i64 ln]) (.agg #[.int .u8 (b0.toNat : Int), .int .u8 (b1.toNat : Int), .int .u8 (b2.toNat : Int), .int .u8 (b3.toNat : Int), .int .u8 (b4.toNat : Int), .int .u8 (b5.toNat : Int), .int .u8 (b6.toNat : Int), .int .u8 (b7.toNat : Int), .int .i64 kd, .int .i64 aa, .int .i64 ln])).run Try.prog W = .ok true W := fun W => en_eq W (⟨[b0, b1, b2, b3, b4, b5, b6, b7], rfl, kd, aa, ln⟩ : Ent)
  have hne : Nonempty (Since W1.heap.size W1) := ⟨⟨W1, Below.refl _ _⟩⟩
  have HB1 : Hid (Below w.heap.size w W1) := hb1
  obtain ⟨ua, uc, rfl, hcc1, hcc2⟩ := k.slice
  clear hcc1 hcc2
  clear h k cx cy hcell hb1 hbk1
  go_enter Try.func14, Try.ntmps14
  go_wp2_with fail
  rw [← hW1]
  clear hW1
  refine wp_region_since (B := W1.heap.size) (W0 := W1) (by kernel_rfl) (by kernel_rfl) (Below.refl _ _) ?_
  repeat (go_big_quiet_step (fail))
  go_big_quiet_step (exact quiet_since _ (heq _))
  repeat (go_big_quiet_step (fail))
  refine wpQuiet_nil ?_
  rintro w7 ⟨U, rfl⟩
  have HB3 : Hid (Below w.heap.size w U.val) := HB1.out.trans (U.property.mono HB1.out.size)
  generalize U.val = w7 at *
  clear x0 y0 b0b x1 y1 b1b x2 y2 b2b x3 y3 b3b x4 y4 b4b x5 y5 b5b x6 y6 b6b x7 y7 b7b x8 y8 b8b x9 y9 b9b x10 y10 b10b hte hne heq
  go_wp2_with fail
  go_ret
  exact ⟨rfl, HB3.out⟩

set_option maxHeartbeats 4000000 in
theorem spoil_ents (g n c : Nat) (b0 b1 b2 b3 b4 b5 b6 b7 : UInt8) (kd aa ln : Int) (w : World) (h : Room w g (c * 11) 40) (hc : c ≤ 9223372036854775807) (hg : g < w.heap.size) :
    Calls Try.prog 17 #[.slice (some ⟨g, 0, none⟩) n c, .agg #[.int .u8 (b0.toNat : Int), .int .u8 (b1.toNat : Int), .int .u8 (b2.toNat : Int), .int .u8 (b3.toNat : Int), .int .u8 (b4.toNat : Int), .int .u8 (b5.toNat : Int), .int .u8 (b6.toNat : Int), .int .u8 (b7.toNat : Int), .int .i64 kd, .int .i64 aa, .int .i64 ln]] w fun e w' => e = .returned (.tuple #[]) ∧ Kept (fun q => q ≠ g) w w' := by
  obtain ⟨W1, hW1⟩ : ∃ W1, W1 = w.alloc (.cells #[.int .u8 (b0.toNat : Int), .int .u8 (b1.toNat : Int), .int .u8 (b2.toNat : Int), .int .u8 (b3.toNat : Int), .int .u8 (b4.toNat : Int), .int .u8 (b5.toNat : Int), .int .u8 (b6.toNat : Int), .int .u8 (b7.toNat : Int), .int .i64 kd, .int .i64 aa, .int .i64 ln] 40) := ⟨_, rfl⟩
  have HK1 : Hid (Kept (fun q => q ≠ g) w W1) := by rw [hW1]; exact (Kept.refl _ w).alloc _
  have HR1 : Hid (Room W1 g (c * 11) 40) := by
    rw [hW1]
    exact h.kept (p := fun _ => True) ((Kept.refl _ w).alloc _) trivial
  have HZ : Hid (W1.heap[w.heap.size]? = some (.cells (enC (⟨[b0, b1, b2, b3, b4, b5, b6, b7], rfl, kd, aa, ln⟩ : Ent)).toArray 40 (0, 0))) := by rw [hW1]; exact heap_alloc_new w _
  have hgn : w.heap.size ≠ g := by omega
  have hinf : (Try.prog.info? 40).map (·.size) = some 11 := by kernel_rfl
  clear h
  go_enter Try.func17, Try.ntmps17
  go_wp2_with fail
  rw [← hW1]
  clear hW1
  go_loopw [11] (fun i wr => ∃ k : Nat, k ≤ c ∧ i = .int .i64 k ∧ Hid (Room wr g (c * 11) 40) ∧ Hid (Kept (fun q => q ≠ g) w wr) ∧ Hid (wr.heap[w.heap.size]? = some (.cells (enC (⟨[b0, b1, b2, b3, b4, b5, b6, b7], rfl, kd, aa, ln⟩ : Ent)).toArray 40 (0, 0)))) (fun i _ => c - (intOf i).toNat)
  case atStart => exact ⟨0, by omega, rfl, HR1, HK1, HZ⟩
  case round =>
    obtain ⟨k, hk, rfl, hr, hkp, hz⟩ := hrel
    by_cases hlt : k < c
    · have hrng := range_block hz.out
      have hth : wr.there g (k * 11) 11 := hr.out.there (by omega)
      have HR : Hid (Room (wr.setCells g (k * 11) (enC (⟨[b0, b1, b2, b3, b4, b5, b6, b7], rfl, kd, aa, ln⟩ : Ent))) g (c * 11) 40) := hr.out.setCells _ _
      have HK : Hid (Kept (fun q => q ≠ g) w (wr.setCells g (k * 11) (enC (⟨[b0, b1, b2, b3, b4, b5, b6, b7], rfl, kd, aa, ln⟩ : Ent)))) := hkp.out.setCells (fun e => e rfl) _ _
      have HZ2 : Hid ((wr.setCells g (k * 11) (enC (⟨[b0, b1, b2, b3, b4, b5, b6, b7], rfl, kd, aa, ln⟩ : Ent))).heap[w.heap.size]? = some (.cells (enC (⟨[b0, b1, b2, b3, b4, b5, b6, b7], rfl, kd, aa, ln⟩ : Ent)).toArray 40 (0, 0))) := ((Kept.refl (fun q => q ≠ g) wr).setCells (fun e => e rfl) _ _).obj hgn hz.out
      clear hr hkp hz
      go_upto_region 5 with fail
      refine wp_region_lit ?_
      refine wpList_plain rfl fun C hC => ?_
      go_simp
      refine hC _ _ ?_
      clear hC C
      refine wpList_plain rfl fun C hC => ?_
      go_simp
      refine hC _ _ ?_
      clear hC C
      refine wpList_load_mid rfl 40 (.tmp 3) rfl w.heap.size 0 rfl (enC (⟨[b0, b1, b2, b3, b4, b5, b6, b7], rfl, kd, aa, ln⟩ : Ent)) _ hrng Try.underlying40 rfl (by rw [hinf, enC_length]) ?_
      refine wpList_plain rfl fun C hC => ?_
      go_simp
      refine hC _ _ ?_
      clear hC C
      refine wpList_store_mid rfl 40 (.tmp 17) (.tmp 16) rfl g (k * 11) (enC (⟨[b0, b1, b2, b3, b4, b5, b6, b7], rfl, kd, aa, ln⟩ : Ent)).toArray rfl rfl hth hinf (all_oneCell_toArray (enC_one _)) ?_
      rw [show (enC (⟨[b0, b1, b2, b3, b4, b5, b6, b7], rfl, kd, aa, ln⟩ : Ent)).toArray.toList = enC (⟨[b0, b1, b2, b3, b4, b5, b6, b7], rfl, kd, aa, ln⟩ : Ent) from rfl]
      generalize wr.setCells g (k * 11) (enC (⟨[b0, b1, b2, b3, b4, b5, b6, b7], rfl, kd, aa, ln⟩ : Ent)) = w9 at *
      clear hrng hth
      go_wp2_with fail
      go_roundw
      case rel => exact ⟨k + 1, by omega, by go_num, HR, HK, HZ2⟩
      case measure => simp only [intOf]; omega
    · go_wp2_with fail
      go_end0
      exact ⟨rfl, hkp.out⟩
end Go.Proofs.Ytllioidjelgafab
