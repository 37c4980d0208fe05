/-
  The walk of lumkeep.ChunkLocal: it returns true.
-/
import Derived.Test.YtdalpicpkandcaaCkCut
import Derived.Test.YtdalpicpkandcaaCkJoin
import Derived.Test.YtdalpicpkandcaaShelfRep
import Derived.Test.YtdalpicpkandcaaRest
import Derived.Deep.Cut
namespace Go.Proofs.Ytdalpicpkandcaa
open Go.RowKit

theorem own_slice {base : Nat} {V : World} {l : List Ck.Bs} {v : Value} (h : V.ownsRow base 9 1 v l.length (l.map Sv)) : ∃ a c, v = .slice a l.length c := by
  rcases h.2 with ⟨rfl, h0⟩ | ⟨g, cap, _, rfl, _⟩
  · exact ⟨none, 0, by rw [h0]⟩
  · exact ⟨_, _, rfl⟩
theorem fifty : (cutL 16 20 12 ⟨(Lib.repeatL [97] 50).toArray⟩).length = 3 ∧ sizeN 16 20 12 ((ByteArray.mk (Lib.repeatL [97] 50).toArray).size : Nat) = 0 := by decide +kernel
theorem equal_cells {V : World} {l : List Ck.Bs} {g1 o1 c1 g2 o2 c2 : Nat} (h1 : ∀ j (hj : j < l.length), V.cell? ⟨g1, o1 + j, none⟩ = some (Sv l[j])) (h2 : ∀ j (hj : j < l.length), V.cell? ⟨g2, o2 + j, none⟩ = some (Sv l[j])) (hl : l.length ≤ 4096) :
    Calls Try.prog 15 #[.slice (some ⟨g1, o1, none⟩) l.length c1, .slice (some ⟨g2, o2, none⟩) l.length c2] V fun e w' => e = .returned (.bool true) ∧ Below V.heap.size V w' := by
  have hc : ∀ {g o : Nat}, (∀ j (hj : j < l.length), V.cell? ⟨g, o + j, none⟩ = some (Sv l[j])) → ∀ j, j < (l.map fun p => (⟨p.toArray⟩ : ByteArray)).length → V.cell? ⟨g, o + j, none⟩ = some (.string ((l.map fun p => (⟨p.toArray⟩ : ByteArray)).getD j ByteArray.empty)) := by
    intro g o h j hj
    rw [List.length_map] at hj
    rw [h j hj, List.getD_eq_getElem?_getD, List.getElem?_map, List.getElem?_eq_getElem hj]
    rfl
  refine (Try.slices_Equal_string g1 o1 l.length c1 g2 o2 l.length c2 (l.map fun p => ⟨p.toArray⟩) (l.map fun p => ⟨p.toArray⟩) V (by simp) (by simp) (by omega) (by omega) (hc h1) (hc h2)).mono ?_
  rintro e w' ⟨rfl, q, rfl⟩
  exact ⟨by simp, below_drewN _ _⟩

set_option maxHeartbeats 2000000 in
theorem chunkLocal_no (mn mx bt k kc : Int) (s : ByteArray) (w : World) (S50 : ByteArray) (A0 : List Ck.Bs) (hA0 : A0.length = 3)
    (er : ∀ V, Calls Try.prog 21 #[.string ⟨#[97]⟩, .int .i64 50] V fun e w' => e = .returned (.string S50) ∧ Below V.heap.size V w')
    (e0 : ∀ V, Calls Try.prog 11 #[cutV 16 20 12, .string S50] V fun e w' => ∃ v, e = .returned (.tuple #[v, .int .i64 0]) ∧ w'.ownsRow V.heap.size 9 1 v A0.length (A0.map Sv) ∧ Below V.heap.size V w')
    (e1 : ∀ V, Calls Try.prog 11 #[cutV mn mx bt, .string s] V fun e w' => ∃ v, e = .returned (.tuple #[v, .int .i64 kc]) ∧ w'.ownsRow V.heap.size 9 1 v 0 [] ∧ Below V.heap.size V w') :
    Calls Try.prog 7 #[cutV mn mx bt, .string s, .int .i64 k] w fun e w' => e = .returned (.bool true) ∧ Below w.heap.size w w' := by
  unfold cutV at e0 e1 ⊢
  obtain ⟨W4, hW4⟩ : ∃ W4, W4 = (w.alloc (Obj.cells #[Value.int IntKind.i64 mn, Value.int IntKind.i64 mx, Value.int IntKind.i64 bt] 23)).alloc (Obj.cells #[Value.int IntKind.i64 16, Value.int IntKind.i64 20, Value.int IntKind.i64 12] 23) := ⟨_, rfl⟩
  have HC : Hid (CutAt W4 w.heap.size mn mx bt) := by rw [hW4]; exact (Below.heap_alloc _ _ _ (by simp)).trans (World.alloc_heap_new w _)
  have HS4 : Hid (CutAt W4 (w.heap.size + 1) 16 20 12) := by
    rw [hW4]
    have := World.alloc_heap_new (w.alloc (Obj.cells #[Value.int IntKind.i64 mn, Value.int IntKind.i64 mx, Value.int IntKind.i64 bt] 23)) (Obj.cells #[Value.int IntKind.i64 16, Value.int IntKind.i64 20, Value.int IntKind.i64 12] 23)
    rw [World.size_alloc] at this
    exact this
  have HB : Hid (Below w.heap.size w W4) := by rw [hW4]; exact ((Below.refl _ w).alloc (Nat.le_refl _) _).alloc (by simp) _
  have i0 := HS4.out.c0
  have i1 := HS4.out.c1
  have i2 := HS4.out.c2
  go_enter Try.func7, Try.ntmps7
  go_wp2_with fail
  rw [← hW4]
  clear hW4
  go_cut [8, 9] from 15 (fun x y wx => (∃ a c, x = .slice a A0.length c) ∧ y = .int .i64 0 ∧ Hid (Below W4.heap.size W4 wx))
  case first =>
    refine wp_region_any (by kernel_rfl) ?_
    change wpAny _ _ _ _ _ _ _ (World.drew _)
    refine wpAny_ready (rs := [0, 1]) (by kernel_rfl) (by simp) ?_
    refine AllReady.cons rfl (fun K hK => ?_) (AllReady.cons rfl (fun K hK => ?_) AllReady.nil)
    · go_simp
      refine hK _ _ ?_
      clear hK K
      refine wpAny_ready (rs := [1]) (by kernel_rfl) (by simp) ?_
      refine AllReady.cons rfl (fun K hK => ?_) AllReady.nil
      go_simp
      refine (er _).mono ?_
      rintro e w2 ⟨rfl, hb2⟩
      refine hK _ _ ?_
      clear hK K
      have hbw : Below W4.heap.size W4 w2 := (Below.refl W4.heap.size W4).drew.trans hb2
      clear hb2
      refine wpAny_ready (rs := [2]) (by kernel_rfl) (by simp) ?_
      refine AllReady.cons rfl (fun K hK => ?_) AllReady.nil
      go_simp
      refine (e0 _).mono ?_
      rintro e w3 ⟨v0, rfl, o0, hb3⟩
      obtain ⟨a0, c0', rfl⟩ := own_slice o0
      refine hK _ _ ?_
      clear hK K
      refine wpAny_take (i := 3) (v := .tuple #[.slice a0 A0.length c0', .int .i64 0]) rfl (by kernel_rfl) (by kernel_rfl) (by kernel_rfl) (fun _ _ _ h => h) (Or.inl ⟨by rfl, fun V => by go_simp⟩) ?_
      refine wpAny_take (i := 4) (v := .slice a0 A0.length c0') rfl (by kernel_rfl) (by kernel_rfl) (by kernel_rfl) (fun _ _ _ h => h) (Or.inl ⟨by rfl, fun V => by go_simp⟩) ?_
      refine wpAny_take (i := 5) (v := .int .i64 0) rfl (by kernel_rfl) (by kernel_rfl) (by kernel_rfl) (fun _ _ _ h => h) (Or.inl ⟨by rfl, fun V => by go_simp⟩) ?_
      refine wpAny_take (i := 6) (v := .slice a0 A0.length c0') rfl (by kernel_rfl) (by kernel_rfl) (by kernel_rfl) (fun _ _ _ h => h) (Or.inl ⟨by rfl, fun V => by go_simp⟩) ?_
      refine wpAny_take (i := 7) (v := .int .i64 0) rfl (by kernel_rfl) (by kernel_rfl) (by kernel_rfl) (fun _ _ _ h => h) (Or.inl ⟨by rfl, fun V => by go_simp⟩) ?_
      refine wpAny_done (by kernel_rfl) ?_ _
      have HB3 : Hid (Below W4.heap.size W4 w3) := hbw.trans (hb3.mono hbw.size)
      go_wp2_with fail
      go_meet
      exact ⟨⟨_, _, rfl⟩, rfl, HB3⟩
    · go_simp
      refine (er _).mono ?_
      rintro e w2 ⟨rfl, hb2⟩
      refine hK _ _ ?_
      clear hK K
      have hbw : Below W4.heap.size W4 w2 := (Below.refl W4.heap.size W4).drew.trans hb2
      have hs2 : CutAt w2 (w.heap.size + 1) 16 20 12 := HS4.out.kept (Kept.of_below (p := fun _ => True) hbw) trivial
      have s0 := hs2.c0
      have s1 := hs2.c1
      have s2 := hs2.c2
      clear hb2 hs2
      refine wpAny_ready (rs := [0]) (by kernel_rfl) (by simp) ?_
      refine AllReady.cons rfl (fun K hK => ?_) AllReady.nil
      go_simp
      refine hK _ _ ?_
      clear hK K s0 s1 s2
      refine wpAny_ready (rs := [2]) (by kernel_rfl) (by simp) ?_
      refine AllReady.cons rfl (fun K hK => ?_) AllReady.nil
      go_simp
      refine (e0 _).mono ?_
      rintro e w3 ⟨v0, rfl, o0, hb3⟩
      obtain ⟨a0, c0', rfl⟩ := own_slice o0
      refine hK _ _ ?_
      clear hK K
      refine wpAny_take (i := 3) (v := .tuple #[.slice a0 A0.length c0', .int .i64 0]) rfl (by kernel_rfl) (by kernel_rfl) (by kernel_rfl) (fun _ _ _ h => h) (Or.inl ⟨by rfl, fun V => by go_simp⟩) ?_
      refine wpAny_take (i := 4) (v := .slice a0 A0.length c0') rfl (by kernel_rfl) (by kernel_rfl) (by kernel_rfl) (fun _ _ _ h => h) (Or.inl ⟨by rfl, fun V => by go_simp⟩) ?_
      refine wpAny_take (i := 5) (v := .int .i64 0) rfl (by kernel_rfl) (by kernel_rfl) (by kernel_rfl) (fun _ _ _ h => h) (Or.inl ⟨by rfl, fun V => by go_simp⟩) ?_
      refine wpAny_take (i := 6) (v := .slice a0 A0.length c0') rfl (by kernel_rfl) (by kernel_rfl) (by kernel_rfl) (fun _ _ _ h => h) (Or.inl ⟨by rfl, fun V => by go_simp⟩) ?_
      refine wpAny_take (i := 7) (v := .int .i64 0) rfl (by kernel_rfl) (by kernel_rfl) (by kernel_rfl) (fun _ _ _ h => h) (Or.inl ⟨by rfl, fun V => by go_simp⟩) ?_
      refine wpAny_done (by kernel_rfl) ?_ _
      have HB3 : Hid (Below W4.heap.size W4 w3) := hbw.trans (hb3.mono hbw.size)
      go_wp2_with fail
      go_meet
      exact ⟨⟨_, _, rfl⟩, rfl, HB3⟩
  case rest =>
    obtain ⟨⟨a0, c0', rfl⟩, rfl, HB3⟩ := hcut
    clear e0 er i0 i1 i2 HS4
    have hc3 : CutAt _ w.heap.size mn mx bt := HC.out.kept (Kept.of_below (p := fun _ => True) HB3.out) trivial
    have c0 := hc3.c0
    have c1 := hc3.c1
    have c2 := hc3.c2
    clear hc3
    go_wp2_with fail
    refine (e1 _).mono ?_
    rintro e w4 ⟨vl, rfl, ol, hb4⟩
    have HB4 : Hid (Below W4.heap.size W4 w4) := HB3.out.trans (hb4.mono HB3.out.size)
    clear hb4 c0 c1 c2 HB3
    obtain ⟨al, cl, rfl⟩ := own_slice (l := []) ol
    clear ol e1
    go_wp2_with fail
    all_goals go_ret
    all_goals exact ⟨rfl, HB.out.trans (HB4.out.mono HB.out.size)⟩

set_option maxHeartbeats 2000000 in
theorem chunkLocal_ok (mn mx bt k : Int) (s : ByteArray) (w : World) (S50 : ByteArray) (A0 L : List Ck.Bs) (hA0 : A0.length = 3) (hL : L.length ≤ 4096) (hL0 : 0 < L.length) (hLs : L.flatten.length ≤ 4096)
    (er : ∀ V, Calls Try.prog 21 #[.string ⟨#[97]⟩, .int .i64 50] V fun e w' => e = .returned (.string S50) ∧ Below V.heap.size V w')
    (e0 : ∀ V, Calls Try.prog 11 #[cutV 16 20 12, .string S50] V fun e w' => ∃ v, e = .returned (.tuple #[v, .int .i64 0]) ∧ w'.ownsRow V.heap.size 9 1 v A0.length (A0.map Sv) ∧ Below V.heap.size V w')
    (e1 : ∀ V, Calls Try.prog 11 #[cutV mn mx bt, .string s] V fun e w' => ∃ v, e = .returned (.tuple #[v, .int .i64 0]) ∧ w'.ownsRow V.heap.size 9 1 v L.length (L.map Sv) ∧ Below V.heap.size V w')
    (e2 : ∀ i, i < L.length → ∀ V, Calls Try.prog 11 #[cutV mn mx bt, Sv (L.drop i).flatten] V fun e w' => ∃ v, e = .returned (.tuple #[v, .int .i64 0]) ∧ w'.ownsRow V.heap.size 9 1 v (L.drop i).length ((L.drop i).map Sv) ∧ Below V.heap.size V w') :
    Calls Try.prog 7 #[cutV mn mx bt, .string s, .int .i64 k] w fun e w' => e = .returned (.bool true) ∧ Below w.heap.size w w' := by
  unfold cutV at e0 e1 e2 ⊢
  obtain ⟨W4, hW4⟩ : ∃ W4, W4 = (w.alloc (Obj.cells #[Value.int IntKind.i64 mn, Value.int IntKind.i64 mx, Value.int IntKind.i64 bt] 23)).alloc (Obj.cells #[Value.int IntKind.i64 16, Value.int IntKind.i64 20, Value.int IntKind.i64 12] 23) := ⟨_, rfl⟩
  have HC : Hid (CutAt W4 w.heap.size mn mx bt) := by rw [hW4]; exact (Below.heap_alloc _ _ _ (by simp)).trans (World.alloc_heap_new w _)
  have HS4 : Hid (CutAt W4 (w.heap.size + 1) 16 20 12) := by
    rw [hW4]
    have := World.alloc_heap_new (w.alloc (Obj.cells #[Value.int IntKind.i64 mn, Value.int IntKind.i64 mx, Value.int IntKind.i64 bt] 23)) (Obj.cells #[Value.int IntKind.i64 16, Value.int IntKind.i64 20, Value.int IntKind.i64 12] 23)
    rw [World.size_alloc] at this
    exact this
  have HB : Hid (Below w.heap.size w W4) := by rw [hW4]; exact ((Below.refl _ w).alloc (Nat.le_refl _) _).alloc (by simp) _
  have i0 := HS4.out.c0
  have i1 := HS4.out.c1
  have i2 := HS4.out.c2
  go_enter Try.func7, Try.ntmps7
  go_wp2_with fail
  rw [← hW4]
  clear hW4
  go_cut [8, 9] from 15 (fun x y wx => (∃ a c, x = .slice a A0.length c) ∧ y = .int .i64 0 ∧ Hid (Below W4.heap.size W4 wx))
  case first =>
    refine wp_region_any (by kernel_rfl) ?_
    change wpAny _ _ _ _ _ _ _ (World.drew _)
    refine wpAny_ready (rs := [0, 1]) (by kernel_rfl) (by simp) ?_
    refine AllReady.cons rfl (fun K hK => ?_) (AllReady.cons rfl (fun K hK => ?_) AllReady.nil)
    · go_simp
      refine hK _ _ ?_
      clear hK K
      refine wpAny_ready (rs := [1]) (by kernel_rfl) (by simp) ?_
      refine AllReady.cons rfl (fun K hK => ?_) AllReady.nil
      go_simp
      refine (er _).mono ?_
      rintro e w2 ⟨rfl, hb2⟩
      refine hK _ _ ?_
      clear hK K
      have hbw : Below W4.heap.size W4 w2 := (Below.refl W4.heap.size W4).drew.trans hb2
      clear hb2
      refine wpAny_ready (rs := [2]) (by kernel_rfl) (by simp) ?_
      refine AllReady.cons rfl (fun K hK => ?_) AllReady.nil
      go_simp
      refine (e0 _).mono ?_
      rintro e w3 ⟨v0, rfl, o0, hb3⟩
      obtain ⟨a0, c0', rfl⟩ := own_slice o0
      refine hK _ _ ?_
      clear hK K
      refine wpAny_take (i := 3) (v := .tuple #[.slice a0 A0.length c0', .int .i64 0]) rfl (by kernel_rfl) (by kernel_rfl) (by kernel_rfl) (fun _ _ _ h => h) (Or.inl ⟨by rfl, fun V => by go_simp⟩) ?_
      refine wpAny_take (i := 4) (v := .slice a0 A0.length c0') rfl (by kernel_rfl) (by kernel_rfl) (by kernel_rfl) (fun _ _ _ h => h) (Or.inl ⟨by rfl, fun V => by go_simp⟩) ?_
      refine wpAny_take (i := 5) (v := .int .i64 0) rfl (by kernel_rfl) (by kernel_rfl) (by kernel_rfl) (fun _ _ _ h => h) (Or.inl ⟨by rfl, fun V => by go_simp⟩) ?_
      refine wpAny_take (i := 6) (v := .slice a0 A0.length c0') rfl (by kernel_rfl) (by kernel_rfl) (by kernel_rfl) (fun _ _ _ h => h) (Or.inl ⟨by rfl, fun V => by go_simp⟩) ?_
      refine wpAny_take (i := 7) (v := .int .i64 0) rfl (by kernel_rfl) (by kernel_rfl) (by kernel_rfl) (fun _ _ _ h => h) (Or.inl ⟨by rfl, fun V => by go_simp⟩) ?_
      refine wpAny_done (by kernel_rfl) ?_ _
      have HB3 : Hid (Below W4.heap.size W4 w3) := hbw.trans (hb3.mono hbw.size)
      go_wp2_with fail
      go_meet
      exact ⟨⟨_, _, rfl⟩, rfl, HB3⟩
    · go_simp
      refine (er _).mono ?_
      rintro e w2 ⟨rfl, hb2⟩
      refine hK _ _ ?_
      clear hK K
      have hbw : Below W4.heap.size W4 w2 := (Below.refl W4.heap.size W4).drew.trans hb2
      have hs2 : CutAt w2 (w.heap.size + 1) 16 20 12 := HS4.out.kept (Kept.of_below (p := fun _ => True) hbw) trivial
      have s0 := hs2.c0
      have s1 := hs2.c1
      have s2 := hs2.c2
      clear hb2 hs2
      refine wpAny_ready (rs := [0]) (by kernel_rfl) (by simp) ?_
      refine AllReady.cons rfl (fun K hK => ?_) AllReady.nil
      go_simp
      refine hK _ _ ?_
      clear hK K s0 s1 s2
      refine wpAny_ready (rs := [2]) (by kernel_rfl) (by simp) ?_
      refine AllReady.cons rfl (fun K hK => ?_) AllReady.nil
      go_simp
      refine (e0 _).mono ?_
      rintro e w3 ⟨v0, rfl, o0, hb3⟩
      obtain ⟨a0, c0', rfl⟩ := own_slice o0
      refine hK _ _ ?_
      clear hK K
      refine wpAny_take (i := 3) (v := .tuple #[.slice a0 A0.length c0', .int .i64 0]) rfl (by kernel_rfl) (by kernel_rfl) (by kernel_rfl) (fun _ _ _ h => h) (Or.inl ⟨by rfl, fun V => by go_simp⟩) ?_
      refine wpAny_take (i := 4) (v := .slice a0 A0.length c0') rfl (by kernel_rfl) (by kernel_rfl) (by kernel_rfl) (fun _ _ _ h => h) (Or.inl ⟨by rfl, fun V => by go_simp⟩) ?_
      refine wpAny_take (i := 5) (v := .int .i64 0) rfl (by kernel_rfl) (by kernel_rfl) (by kernel_rfl) (fun _ _ _ h => h) (Or.inl ⟨by rfl, fun V => by go_simp⟩) ?_
      refine wpAny_take (i := 6) (v := .slice a0 A0.length c0') rfl (by kernel_rfl) (by kernel_rfl) (by kernel_rfl) (fun _ _ _ h => h) (Or.inl ⟨by rfl, fun V => by go_simp⟩) ?_
      refine wpAny_take (i := 7) (v := .int .i64 0) rfl (by kernel_rfl) (by kernel_rfl) (by kernel_rfl) (fun _ _ _ h => h) (Or.inl ⟨by rfl, fun V => by go_simp⟩) ?_
      refine wpAny_done (by kernel_rfl) ?_ _
      have HB3 : Hid (Below W4.heap.size W4 w3) := hbw.trans (hb3.mono hbw.size)
      go_wp2_with fail
      go_meet
      exact ⟨⟨_, _, rfl⟩, rfl, HB3⟩
  case rest =>
    obtain ⟨⟨a0, c0', rfl⟩, rfl, HB3⟩ := hcut
    clear e0 er i0 i1 i2 HS4
    have hc3 : CutAt _ w.heap.size mn mx bt := HC.out.kept (Kept.of_below (p := fun _ => True) HB3.out) trivial
    have c0 := hc3.c0
    have c1 := hc3.c1
    have c2 := hc3.c2
    clear hc3
    go_wp2_with fail
    refine (e1 _).mono ?_
    rintro e w4 ⟨vl, rfl, ol, hb4⟩
    have HB4 : Hid (Below W4.heap.size W4 w4) := HB3.out.trans (hb4.mono HB3.out.size)
    clear hb4 c0 c1 c2 HB3
    obtain ⟨g, cl, rfl⟩ := own_split ol hL0
    have hcap := own_cap ol
    have hcells : ∀ j (hj : j < L.length), w4.cell? ⟨g, j, none⟩ = some (Sv L[j]) := own_cell ol
    clear ol e1
    have hq0 : ((L.length : Int) == 0) = false := by rw [beq_eq_false_iff_ne]; omega
    have hrs := rest_any k L.length w4 hL0 (by omega)
    go_wp2_with fail
    refine hrs.mono ?_
    rintro e w5 ⟨⟨r, hr1, rfl⟩, rfl⟩
    clear hrs
    have hc5 : CutAt w5 w.heap.size mn mx bt := HC.out.kept (Kept.of_below (p := fun _ => True) HB4.out) trivial
    have c0 := hc5.c0
    have c1 := hc5.c1
    have c2 := hc5.c2
    have lc := hc5.lt
    clear hc5
    have hdl : (L.drop r).length = L.length - r := List.length_drop
    have hcd : ∀ (V : World), Below w5.heap.size w5 V → ∀ j (hj : j < (L.drop r).length), V.cell? ⟨g, r + j, none⟩ = some (Sv (L.drop r)[j]) := fun V hb j hj => by
      rw [hb.cell (p := ⟨g, r + j, none⟩) hcap.2, List.getElem_drop]
      exact hcells (r + j) (by omega)
    have hjn : Calls Try.prog 20 #[.slice (some ⟨g, r, none⟩) (L.length - r) (cl - r), .string ⟨#[]⟩] w5.drew fun e w' => e = .returned (Sv (L.drop r).flatten) ∧ Below w5.drew.heap.size w5.drew w' := by
      have := join_cells (V := w5.drew) (l := L.drop r) (g := g) (o := r) (cap := cl - r) (fun j hj => hcd w5.drew (Below.refl _ _).drew j hj) hcap.2 (by rw [hdl]; omega) (by rw [hdl]; omega) (by
        have h1 := congrArg List.length (show (L.take r).flatten ++ (L.drop r).flatten = L.flatten from by rw [← List.flatten_append, List.take_append_drop])
        rw [List.length_append] at h1
        omega)
      rw [hdl] at this
      exact this
    have e2' := e2 r hr1
    have hlc := hcap.1
    have hr2 : r ≤ L.length := by omega
    have hcr : ¬ (cl = r) := by omega
    have HJ : Hid True := trivial
    generalize (L.drop r).flatten = jn at *
    unfold Sv at hjn e2'
    go_wp2_with fail
    go_cut [11, 13] from 48 (fun x y wx => x = .int .i64 0 ∧ ∃ V0 : World, wx.ownsRow V0.heap.size 9 1 y (L.drop r).length ((L.drop r).map Sv) ∧ Hid (Below w5.heap.size w5 wx))
    case first =>
      refine wp_region_any (by kernel_rfl) ?_
      change wpAny _ _ _ _ _ _ _ (World.drew _)
      refine wpAny_take (i := 1) (v := .slice (some ⟨g, 0, none⟩) L.length cl) rfl (by kernel_rfl) (by kernel_rfl) (by kernel_rfl) (fun _ _ _ h => h) (Or.inl ⟨by rfl, fun V => by go_simp⟩) ?_
      refine wpAny_take (i := 2) (v := .int .i64 (r : Int)) rfl (by kernel_rfl) (by kernel_rfl) (by kernel_rfl) (fun _ _ _ h => h) (Or.inl ⟨by rfl, fun V => by go_simp⟩) ?_
      refine wpAny_take (i := 3) (v := .slice (some ⟨g, r, none⟩) (L.length - r) (cl - r)) rfl (by kernel_rfl) (by kernel_rfl) (by kernel_rfl) (fun _ _ _ h => h) (Or.inl ⟨by rfl, fun V => by go_simp⟩) ?_
      refine wpAny_ready (rs := [0, 4]) (by kernel_rfl) (by simp) ?_
      refine AllReady.cons rfl (fun K hK => ?_) (AllReady.cons rfl (fun K hK => ?_) AllReady.nil)
      · go_simp
        refine hK _ _ ?_
        clear hK K
        refine wpAny_ready (rs := [4]) (by kernel_rfl) (by simp) ?_
        refine AllReady.cons rfl (fun K hK => ?_) AllReady.nil
        go_simp
        refine hjn.mono ?_
        rintro e w6 ⟨rfl, hb6⟩
        refine hK _ _ ?_
        clear hK K
        have hbw : Below w5.heap.size w5 w6 := (Below.refl w5.heap.size w5).drew.trans hb6
        clear hb6
        refine wpAny_ready (rs := [5]) (by kernel_rfl) (by simp) ?_
        refine AllReady.cons rfl (fun K hK => ?_) AllReady.nil
        go_simp
        refine (e2' _).mono ?_
        rintro e w7 ⟨vm, rfl, om, hb7⟩
        refine hK _ _ ?_
        clear hK K
        refine wpAny_take (i := 6) (v := .tuple #[vm, .int .i64 0]) rfl (by kernel_rfl) (by kernel_rfl) (by kernel_rfl) (fun _ _ _ h => h) (Or.inl ⟨by rfl, fun V => by go_simp⟩) ?_
        refine wpAny_take (i := 7) (v := vm) rfl (by kernel_rfl) (by kernel_rfl) (by kernel_rfl) (fun _ _ _ h => h) (Or.inl ⟨by rfl, fun V => by go_simp⟩) ?_
        refine wpAny_take (i := 8) (v := .int .i64 0) rfl (by kernel_rfl) (by kernel_rfl) (by kernel_rfl) (fun _ _ _ h => h) (Or.inl ⟨by rfl, fun V => by go_simp⟩) ?_
        refine wpAny_take (i := 9) (v := vm) rfl (by kernel_rfl) (by kernel_rfl) (by kernel_rfl) (fun _ _ _ h => h) (Or.inl ⟨by rfl, fun V => by go_simp⟩) ?_
        refine wpAny_take (i := 10) (v := .int .i64 0) rfl (by kernel_rfl) (by kernel_rfl) (by kernel_rfl) (fun _ _ _ h => h) (Or.inl ⟨by rfl, fun V => by go_simp⟩) ?_
        refine wpAny_done (by kernel_rfl) ?_ _
        have HB7 : Hid (Below w5.heap.size w5 w7) := hbw.trans (hb7.mono hbw.size)
        go_wp2_with fail
        go_meet
        exact ⟨rfl, _, om, HB7⟩
      · go_simp
        refine hjn.mono ?_
        rintro e w6 ⟨rfl, hb6⟩
        refine hK _ _ ?_
        clear hK K
        have hbw : Below w5.heap.size w5 w6 := (Below.refl w5.heap.size w5).drew.trans hb6
        have d0 := (hbw.cell (p := ⟨w.heap.size, 0, none⟩) lc).trans c0
        have d1 := (hbw.cell (p := ⟨w.heap.size, 1, none⟩) lc).trans c1
        have d2 := (hbw.cell (p := ⟨w.heap.size, 2, none⟩) lc).trans c2
        clear hb6
        refine wpAny_ready (rs := [0]) (by kernel_rfl) (by simp) ?_
        refine AllReady.cons rfl (fun K hK => ?_) AllReady.nil
        go_simp
        refine hK _ _ ?_
        clear hK K d0 d1 d2
        refine wpAny_ready (rs := [5]) (by kernel_rfl) (by simp) ?_
        refine AllReady.cons rfl (fun K hK => ?_) AllReady.nil
        go_simp
        refine (e2' _).mono ?_
        rintro e w7 ⟨vm, rfl, om, hb7⟩
        refine hK _ _ ?_
        clear hK K
        refine wpAny_take (i := 6) (v := .tuple #[vm, .int .i64 0]) rfl (by kernel_rfl) (by kernel_rfl) (by kernel_rfl) (fun _ _ _ h => h) (Or.inl ⟨by rfl, fun V => by go_simp⟩) ?_
        refine wpAny_take (i := 7) (v := vm) rfl (by kernel_rfl) (by kernel_rfl) (by kernel_rfl) (fun _ _ _ h => h) (Or.inl ⟨by rfl, fun V => by go_simp⟩) ?_
        refine wpAny_take (i := 8) (v := .int .i64 0) rfl (by kernel_rfl) (by kernel_rfl) (by kernel_rfl) (fun _ _ _ h => h) (Or.inl ⟨by rfl, fun V => by go_simp⟩) ?_
        refine wpAny_take (i := 9) (v := vm) rfl (by kernel_rfl) (by kernel_rfl) (by kernel_rfl) (fun _ _ _ h => h) (Or.inl ⟨by rfl, fun V => by go_simp⟩) ?_
        refine wpAny_take (i := 10) (v := .int .i64 0) rfl (by kernel_rfl) (by kernel_rfl) (by kernel_rfl) (fun _ _ _ h => h) (Or.inl ⟨by rfl, fun V => by go_simp⟩) ?_
        refine wpAny_done (by kernel_rfl) ?_ _
        have HB7 : Hid (Below w5.heap.size w5 w7) := hbw.trans (hb7.mono hbw.size)
        go_wp2_with fail
        go_meet
        exact ⟨rfl, _, om, HB7⟩
    case rest =>
      obtain ⟨rfl, V0, om, HB7⟩ := hcut
      obtain ⟨g2, c2', rfl⟩ := own_split om (by rw [hdl]; omega)
      have heq := equal_cells (c1 := cl - r) (c2 := c2') (hcd _ HB7.out) (fun j hj => by rw [Nat.zero_add]; exact own_cell om j hj) (by rw [hdl]; omega)
      rw [hdl] at heq ⊢
      clear hcd om hjn e2' c0 c1 c2 hcells
      go_wp2_with fail
      refine heq.mono ?_
      rintro e w8 ⟨rfl, hb8⟩
      have HB8 : Hid (Below W4.heap.size W4 w8) := (HB4.out.trans (HB7.out.mono HB4.out.size)).trans (hb8.mono (Nat.le_trans HB4.out.size HB7.out.size))
      clear hb8 heq
      go_wp2_with fail
      go_ret
      exact ⟨rfl, HB.out.trans (HB8.out.mono HB.out.size)⟩
end Go.Proofs.Ytdalpicpkandcaa
