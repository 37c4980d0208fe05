/-
  The walk of lumkeep.ChunkMeets: it returns true.
-/
import Derived.Test.YtdalpicpkandcaaChunkLocalOf
import Derived.Maps.OwnSet
import Derived.Maps.OwnOps
import Derived.Maps.Views
namespace Go.Proofs.Ytdalpicpkandcaa
open Go.RowKit

/-- what the law's map says of the pieces: how much is left behind the first so many *-/
structure Ends (L : List Ck.Bs) (D : DataW Nat) : Prop where
  map : Maps.IsMap D
  sound : ∀ key : Int, Maps.has D (.int .i64 key) = true → ∃ i : Nat, i < L.length ∧ key = ((L.drop i).flatten.length : Nat) ∧ ∀ z, D.atKey (.int .i64 key) z = .lit (.int .i64 i)
theorem Ends.none (L : List Ck.Bs) : Ends L (.map []) := ⟨⟨_, rfl⟩, fun key h => by cases h⟩
theorem Ends.put {L : List Ck.Bs} {D : DataW Nat} (h : Ends L D) {i : Nat} (hi : i < L.length) : Ends L (D.put (.int .i64 ((L.drop i).flatten.length : Nat)) (.lit (.int .i64 i))) := by
  refine ⟨by obtain ⟨es, rfl⟩ := h.map; exact ⟨_, rfl⟩, fun key hk => ?_⟩
  by_cases e : key = ((L.drop i).flatten.length : Nat)
  · subst e
    exact ⟨i, hi, rfl, fun z => Maps.atKey_put_same h.map (by first | trivial | exact True.intro | constructor) _ z⟩
  · have hne : Lit.int .i64 key ≠ .int .i64 ((L.drop i).flatten.length : Nat) := fun h => e (by cases h; rfl)
    rw [Maps.has_put_other hne] at hk
    obtain ⟨j, h1, h2, h3⟩ := h.sound key hk
    exact ⟨j, h1, h2, fun z => by rw [Maps.atKey_put_other hne]; exact h3 z⟩
theorem drop_len (L : List Ck.Bs) (k : Nat) (h : k < L.length) : (L.drop k).flatten.length = L[k].length + (L.drop (k + 1)).flatten.length := by
  rw [List.drop_eq_getElem_cons h, List.flatten_cons, List.length_append]
theorem wf_small (n : Nat) (h : n ≤ 4096) : (Lit.int .i64 (n : Int)).wf = true := by
  simp [Lit.wf, IntKind.min, IntKind.max, IntKind.signed, IntKind.bits]; omega

set_option maxRecDepth 100000 in
set_option maxHeartbeats 4000000 in
theorem chunkMeets_out (mn mx bt k1 k2 : Int) (a b en : ByteArray) (z1 : a.size ≤ 140737488351232) (z2 : b.size ≤ 140737488351232) (z3 : en.size ≤ 140737488351232) (w : World) (S50 : ByteArray) (A0 L M : List Ck.Bs) (hA0 : A0.length = 3) (hk : k1 ≠ 0 ∨ k2 ≠ 0)
    (er : ∀ V, Calls Try.prog 21 #[.string ⟨#[97]⟩, .int .i64 50] V fun e w' => e = .returned (.string S50) ∧ Below V.heap.size V w')
    (e0 : ∀ V, Calls Try.prog 11 #[cutV 16 20 12, .string S50] V fun e w' => ∃ v, e = .returned (.tuple #[v, .int .i64 0]) ∧ w'.ownsRow V.heap.size 9 1 v A0.length (A0.map Sv) ∧ Below V.heap.size V w')
    (e1 : ∀ V, Calls Try.prog 11 #[cutV mn mx bt, .string (a ++ en)] V fun e w' => ∃ v, e = .returned (.tuple #[v, .int .i64 k1]) ∧ w'.ownsRow V.heap.size 9 1 v L.length (L.map Sv) ∧ Below V.heap.size V w')
    (e2 : ∀ V, Calls Try.prog 11 #[cutV mn mx bt, .string (b ++ en)] V fun e w' => ∃ v, e = .returned (.tuple #[v, .int .i64 k2]) ∧ w'.ownsRow V.heap.size 9 1 v M.length (M.map Sv) ∧ Below V.heap.size V w') :
    Calls Try.prog 8 #[cutV mn mx bt, .string a, .string b, .string en] w fun e w' => e = .returned (.bool true) ∧ Below w.heap.size w w' := by
  unfold cutV at e0 e1 e2 ⊢
  obtain ⟨W4, hW4⟩ : ∃ W4, W4 = (w.alloc (Obj.cells #[Value.int IntKind.i64 mn, Value.int IntKind.i64 mx, Value.int IntKind.i64 bt] 23)).alloc (Obj.cells #[Value.int IntKind.i64 16, Value.int IntKind.i64 20, Value.int IntKind.i64 12] 23) := ⟨_, rfl⟩
  have HC : Hid (CutAt W4 w.heap.size mn mx bt) := by rw [hW4]; exact (Below.heap_alloc _ _ _ (by simp)).trans (World.alloc_heap_new w _)
  have HS4 : Hid (CutAt W4 (w.heap.size + 1) 16 20 12) := by
    rw [hW4]
    have := World.alloc_heap_new (w.alloc (Obj.cells #[Value.int IntKind.i64 mn, Value.int IntKind.i64 mx, Value.int IntKind.i64 bt] 23)) (Obj.cells #[Value.int IntKind.i64 16, Value.int IntKind.i64 20, Value.int IntKind.i64 12] 23)
    rw [World.size_alloc] at this
    exact this
  have HB : Hid (Below w.heap.size w W4) := by rw [hW4]; exact ((Below.refl _ w).alloc (Nat.le_refl _) _).alloc (by simp) _
  have i0 := HS4.out.c0
  have i1 := HS4.out.c1
  have i2 := HS4.out.c2
  go_enter Try.func8, Try.ntmps8
  go_wp2_with fail
  rw [← hW4]
  clear hW4
  go_cut [10, 11] from 25 (fun x y wx => (∃ a c, x = .slice a A0.length c) ∧ y = .int .i64 0 ∧ Hid (Below W4.heap.size W4 wx))
  case first =>
    refine wp_region_any (by kernel_rfl) ?_
    change wpAny _ _ _ _ _ _ _ (World.drew _)
    refine wpAny_ready (rs := [0, 1]) (by kernel_rfl) (by simp) ?_
    refine AllReady.cons rfl (fun K hK => ?_) (AllReady.cons rfl (fun K hK => ?_) AllReady.nil)
    · go_simp
      refine hK _ _ ?_
      clear hK K
      refine wpAny_ready (rs := [1]) (by kernel_rfl) (by simp) ?_
      refine AllReady.cons rfl (fun K hK => ?_) AllReady.nil
      go_simp
      refine (er _).mono ?_
      rintro e w2 ⟨rfl, hb2⟩
      refine hK _ _ ?_
      clear hK K
      have hbw : Below W4.heap.size W4 w2 := (Below.refl W4.heap.size W4).drew.trans hb2
      clear hb2
      refine wpAny_ready (rs := [2]) (by kernel_rfl) (by simp) ?_
      refine AllReady.cons rfl (fun K hK => ?_) AllReady.nil
      go_simp
      refine (e0 _).mono ?_
      rintro e w3 ⟨v0, rfl, o0, hb3⟩
      obtain ⟨a0, c0', rfl⟩ := own_slice o0
      refine hK _ _ ?_
      clear hK K
      refine wpAny_take (i := 3) (v := .tuple #[.slice a0 A0.length c0', .int .i64 0]) rfl (by kernel_rfl) (by kernel_rfl) (by kernel_rfl) (fun _ _ _ h => h) (Or.inl ⟨by rfl, fun V => by go_simp⟩) ?_
      refine wpAny_take (i := 4) (v := .slice a0 A0.length c0') rfl (by kernel_rfl) (by kernel_rfl) (by kernel_rfl) (fun _ _ _ h => h) (Or.inl ⟨by rfl, fun V => by go_simp⟩) ?_
      refine wpAny_take (i := 5) (v := .int .i64 0) rfl (by kernel_rfl) (by kernel_rfl) (by kernel_rfl) (fun _ _ _ h => h) (Or.inl ⟨by rfl, fun V => by go_simp⟩) ?_
      refine wpAny_take (i := 6) (v := .slice a0 A0.length c0') rfl (by kernel_rfl) (by kernel_rfl) (by kernel_rfl) (fun _ _ _ h => h) (Or.inl ⟨by rfl, fun V => by go_simp⟩) ?_
      refine wpAny_take (i := 7) (v := .int .i64 0) rfl (by kernel_rfl) (by kernel_rfl) (by kernel_rfl) (fun _ _ _ h => h) (Or.inl ⟨by rfl, fun V => by go_simp⟩) ?_
      refine wpAny_done (by kernel_rfl) ?_ _
      have HB3 : Hid (Below W4.heap.size W4 w3) := hbw.trans (hb3.mono hbw.size)
      go_wp2_with fail
      go_meet
      exact ⟨⟨_, _, rfl⟩, rfl, HB3⟩
    · go_simp
      refine (er _).mono ?_
      rintro e w2 ⟨rfl, hb2⟩
      refine hK _ _ ?_
      clear hK K
      have hbw : Below W4.heap.size W4 w2 := (Below.refl W4.heap.size W4).drew.trans hb2
      have hs2 : CutAt w2 (w.heap.size + 1) 16 20 12 := HS4.out.kept (Kept.of_below (p := fun _ => True) hbw) trivial
      have s0 := hs2.c0
      have s1 := hs2.c1
      have s2 := hs2.c2
      clear hb2 hs2
      refine wpAny_ready (rs := [0]) (by kernel_rfl) (by simp) ?_
      refine AllReady.cons rfl (fun K hK => ?_) AllReady.nil
      go_simp
      refine hK _ _ ?_
      clear hK K s0 s1 s2
      refine wpAny_ready (rs := [2]) (by kernel_rfl) (by simp) ?_
      refine AllReady.cons rfl (fun K hK => ?_) AllReady.nil
      go_simp
      refine (e0 _).mono ?_
      rintro e w3 ⟨v0, rfl, o0, hb3⟩
      obtain ⟨a0, c0', rfl⟩ := own_slice o0
      refine hK _ _ ?_
      clear hK K
      refine wpAny_take (i := 3) (v := .tuple #[.slice a0 A0.length c0', .int .i64 0]) rfl (by kernel_rfl) (by kernel_rfl) (by kernel_rfl) (fun _ _ _ h => h) (Or.inl ⟨by rfl, fun V => by go_simp⟩) ?_
      refine wpAny_take (i := 4) (v := .slice a0 A0.length c0') rfl (by kernel_rfl) (by kernel_rfl) (by kernel_rfl) (fun _ _ _ h => h) (Or.inl ⟨by rfl, fun V => by go_simp⟩) ?_
      refine wpAny_take (i := 5) (v := .int .i64 0) rfl (by kernel_rfl) (by kernel_rfl) (by kernel_rfl) (fun _ _ _ h => h) (Or.inl ⟨by rfl, fun V => by go_simp⟩) ?_
      refine wpAny_take (i := 6) (v := .slice a0 A0.length c0') rfl (by kernel_rfl) (by kernel_rfl) (by kernel_rfl) (fun _ _ _ h => h) (Or.inl ⟨by rfl, fun V => by go_simp⟩) ?_
      refine wpAny_take (i := 7) (v := .int .i64 0) rfl (by kernel_rfl) (by kernel_rfl) (by kernel_rfl) (fun _ _ _ h => h) (Or.inl ⟨by rfl, fun V => by go_simp⟩) ?_
      refine wpAny_done (by kernel_rfl) ?_ _
      have HB3 : Hid (Below W4.heap.size W4 w3) := hbw.trans (hb3.mono hbw.size)
      go_wp2_with fail
      go_meet
      exact ⟨⟨_, _, rfl⟩, rfl, HB3⟩
  case rest =>
    obtain ⟨⟨a0, c0', rfl⟩, rfl, HB3⟩ := hcut
    clear e0 er i0 i1 i2 HS4
    have hc3 : CutAt _ w.heap.size mn mx bt := HC.out.kept (Kept.of_below (p := fun _ => True) HB3.out) trivial
    have c0 := hc3.c0
    have c1 := hc3.c1
    have c2 := hc3.c2
    have hcat1 : ¬ 9223372036854775807 < a.size + en.size := by omega
    have hcat2 : ¬ 9223372036854775807 < b.size + en.size := by omega
    clear hc3
    go_wp2_with fail
    refine (e1 _).mono ?_
    rintro e w4 ⟨vl, rfl, ol, hb4⟩
    have HB4 : Hid (Below W4.heap.size W4 w4) := HB3.out.trans (hb4.mono HB3.out.size)
    clear hb4 c0 c1 c2 HB3 e1
    have hc4 : CutAt w4 w.heap.size mn mx bt := HC.out.kept (Kept.of_below (p := fun _ => True) HB4.out) trivial
    have c0 := hc4.c0
    have c1 := hc4.c1
    have c2 := hc4.c2
    clear hc4
    obtain ⟨al, cl, rfl⟩ := own_slice ol
    go_wp2_with fail
    refine (e2 _).mono ?_
    rintro e w5 ⟨vm, rfl, om, hb5⟩
    have HB5 : Hid (Below W4.heap.size W4 w5) := HB4.out.trans (hb5.mono HB4.out.size)
    have ol5 := own_below ol hb5
    clear hb5 c0 c1 c2 HB4 e2 ol
    obtain ⟨am, cm, rfl⟩ := own_slice om
    clear ol5 om
    by_cases h1 : k1 = 0
    · subst h1
      have hq : (k2 != 0) = true := by rw [bne_iff_ne]; omega
      go_wp2_with fail
      go_ret
      exact ⟨rfl, HB.out.trans (HB5.out.mono HB.out.size)⟩
    · have hq : (k1 != 0) = true := by rw [bne_iff_ne]; exact h1
      go_wp2_with fail
      go_ret
      exact ⟨rfl, HB.out.trans (HB5.out.mono HB.out.size)⟩

set_option maxRecDepth 100000 in
set_option maxHeartbeats 4000000 in
theorem chunkMeets_in (mn mx bt : Int) (a b en : ByteArray) (z1 : a.size ≤ 140737488351232) (z2 : b.size ≤ 140737488351232) (z3 : en.size ≤ 140737488351232) (w : World) (S50 : ByteArray) (A0 L M : List Ck.Bs) (hA0 : A0.length = 3)
    (er : ∀ V, Calls Try.prog 21 #[.string ⟨#[97]⟩, .int .i64 50] V fun e w' => e = .returned (.string S50) ∧ Below V.heap.size V w')
    (e0 : ∀ V, Calls Try.prog 11 #[cutV 16 20 12, .string S50] V fun e w' => ∃ v, e = .returned (.tuple #[v, .int .i64 0]) ∧ w'.ownsRow V.heap.size 9 1 v A0.length (A0.map Sv) ∧ Below V.heap.size V w')
    (e1 : ∀ V, Calls Try.prog 11 #[cutV mn mx bt, .string (a ++ en)] V fun e w' => ∃ v, e = .returned (.tuple #[v, .int .i64 0]) ∧ w'.ownsRow V.heap.size 9 1 v L.length (L.map Sv) ∧ Below V.heap.size V w')
    (e2 : ∀ V, Calls Try.prog 11 #[cutV mn mx bt, .string (b ++ en)] V fun e w' => ∃ v, e = .returned (.tuple #[v, .int .i64 0]) ∧ w'.ownsRow V.heap.size 9 1 v M.length (M.map Sv) ∧ Below V.heap.size V w')
    (hL : L.length ≤ 4096) (hM : M.length ≤ 4096) (hLs : L.flatten.length = a.size + en.size) (hMs : M.flatten.length = b.size + en.size) (hs1 : a.size + en.size ≤ 4096) (hs2 : b.size + en.size ≤ 4096)
    (hmeet : ∀ i j, i < L.length → j < M.length → (L.drop i).flatten.length = (M.drop j).flatten.length → (L.drop i).flatten.length ≤ en.size → L.drop i = M.drop j) :
    Calls Try.prog 8 #[cutV mn mx bt, .string a, .string b, .string en] w fun e w' => e = .returned (.bool true) ∧ Below w.heap.size w w' := by
  unfold cutV at e0 e1 e2 ⊢
  obtain ⟨W4, hW4⟩ : ∃ W4, W4 = (w.alloc (Obj.cells #[Value.int IntKind.i64 mn, Value.int IntKind.i64 mx, Value.int IntKind.i64 bt] 23)).alloc (Obj.cells #[Value.int IntKind.i64 16, Value.int IntKind.i64 20, Value.int IntKind.i64 12] 23) := ⟨_, rfl⟩
  have HC : Hid (CutAt W4 w.heap.size mn mx bt) := by rw [hW4]; exact (Below.heap_alloc _ _ _ (by simp)).trans (World.alloc_heap_new w _)
  have HS4 : Hid (CutAt W4 (w.heap.size + 1) 16 20 12) := by
    rw [hW4]
    have := World.alloc_heap_new (w.alloc (Obj.cells #[Value.int IntKind.i64 mn, Value.int IntKind.i64 mx, Value.int IntKind.i64 bt] 23)) (Obj.cells #[Value.int IntKind.i64 16, Value.int IntKind.i64 20, Value.int IntKind.i64 12] 23)
    rw [World.size_alloc] at this
    exact this
  have HB : Hid (Below w.heap.size w W4) := by rw [hW4]; exact ((Below.refl _ w).alloc (Nat.le_refl _) _).alloc (by simp) _
  have i0 := HS4.out.c0
  have i1 := HS4.out.c1
  have i2 := HS4.out.c2
  go_enter Try.func8, Try.ntmps8
  go_wp2_with fail
  rw [← hW4]
  clear hW4
  go_cut [10, 11] from 25 (fun x y wx => (∃ a c, x = .slice a A0.length c) ∧ y = .int .i64 0 ∧ Hid (Below W4.heap.size W4 wx))
  case first =>
    refine wp_region_any (by kernel_rfl) ?_
    change wpAny _ _ _ _ _ _ _ (World.drew _)
    refine wpAny_ready (rs := [0, 1]) (by kernel_rfl) (by simp) ?_
    refine AllReady.cons rfl (fun K hK => ?_) (AllReady.cons rfl (fun K hK => ?_) AllReady.nil)
    · go_simp
      refine hK _ _ ?_
      clear hK K
      refine wpAny_ready (rs := [1]) (by kernel_rfl) (by simp) ?_
      refine AllReady.cons rfl (fun K hK => ?_) AllReady.nil
      go_simp
      refine (er _).mono ?_
      rintro e w2 ⟨rfl, hb2⟩
      refine hK _ _ ?_
      clear hK K
      have hbw : Below W4.heap.size W4 w2 := (Below.refl W4.heap.size W4).drew.trans hb2
      clear hb2
      refine wpAny_ready (rs := [2]) (by kernel_rfl) (by simp) ?_
      refine AllReady.cons rfl (fun K hK => ?_) AllReady.nil
      go_simp
      refine (e0 _).mono ?_
      rintro e w3 ⟨v0, rfl, o0, hb3⟩
      obtain ⟨a0, c0', rfl⟩ := own_slice o0
      refine hK _ _ ?_
      clear hK K
      refine wpAny_take (i := 3) (v := .tuple #[.slice a0 A0.length c0', .int .i64 0]) rfl (by kernel_rfl) (by kernel_rfl) (by kernel_rfl) (fun _ _ _ h => h) (Or.inl ⟨by rfl, fun V => by go_simp⟩) ?_
      refine wpAny_take (i := 4) (v := .slice a0 A0.length c0') rfl (by kernel_rfl) (by kernel_rfl) (by kernel_rfl) (fun _ _ _ h => h) (Or.inl ⟨by rfl, fun V => by go_simp⟩) ?_
      refine wpAny_take (i := 5) (v := .int .i64 0) rfl (by kernel_rfl) (by kernel_rfl) (by kernel_rfl) (fun _ _ _ h => h) (Or.inl ⟨by rfl, fun V => by go_simp⟩) ?_
      refine wpAny_take (i := 6) (v := .slice a0 A0.length c0') rfl (by kernel_rfl) (by kernel_rfl) (by kernel_rfl) (fun _ _ _ h => h) (Or.inl ⟨by rfl, fun V => by go_simp⟩) ?_
      refine wpAny_take (i := 7) (v := .int .i64 0) rfl (by kernel_rfl) (by kernel_rfl) (by kernel_rfl) (fun _ _ _ h => h) (Or.inl ⟨by rfl, fun V => by go_simp⟩) ?_
      refine wpAny_done (by kernel_rfl) ?_ _
      have HB3 : Hid (Below W4.heap.size W4 w3) := hbw.trans (hb3.mono hbw.size)
      go_wp2_with fail
      go_meet
      exact ⟨⟨_, _, rfl⟩, rfl, HB3⟩
    · go_simp
      refine (er _).mono ?_
      rintro e w2 ⟨rfl, hb2⟩
      refine hK _ _ ?_
      clear hK K
      have hbw : Below W4.heap.size W4 w2 := (Below.refl W4.heap.size W4).drew.trans hb2
      have hs2 : CutAt w2 (w.heap.size + 1) 16 20 12 := HS4.out.kept (Kept.of_below (p := fun _ => True) hbw) trivial
      have s0 := hs2.c0
      have s1 := hs2.c1
      have s2 := hs2.c2
      clear hb2 hs2
      refine wpAny_ready (rs := [0]) (by kernel_rfl) (by simp) ?_
      refine AllReady.cons rfl (fun K hK => ?_) AllReady.nil
      go_simp
      refine hK _ _ ?_
      clear hK K s0 s1 s2
      refine wpAny_ready (rs := [2]) (by kernel_rfl) (by simp) ?_
      refine AllReady.cons rfl (fun K hK => ?_) AllReady.nil
      go_simp
      refine (e0 _).mono ?_
      rintro e w3 ⟨v0, rfl, o0, hb3⟩
      obtain ⟨a0, c0', rfl⟩ := own_slice o0
      refine hK _ _ ?_
      clear hK K
      refine wpAny_take (i := 3) (v := .tuple #[.slice a0 A0.length c0', .int .i64 0]) rfl (by kernel_rfl) (by kernel_rfl) (by kernel_rfl) (fun _ _ _ h => h) (Or.inl ⟨by rfl, fun V => by go_simp⟩) ?_
      refine wpAny_take (i := 4) (v := .slice a0 A0.length c0') rfl (by kernel_rfl) (by kernel_rfl) (by kernel_rfl) (fun _ _ _ h => h) (Or.inl ⟨by rfl, fun V => by go_simp⟩) ?_
      refine wpAny_take (i := 5) (v := .int .i64 0) rfl (by kernel_rfl) (by kernel_rfl) (by kernel_rfl) (fun _ _ _ h => h) (Or.inl ⟨by rfl, fun V => by go_simp⟩) ?_
      refine wpAny_take (i := 6) (v := .slice a0 A0.length c0') rfl (by kernel_rfl) (by kernel_rfl) (by kernel_rfl) (fun _ _ _ h => h) (Or.inl ⟨by rfl, fun V => by go_simp⟩) ?_
      refine wpAny_take (i := 7) (v := .int .i64 0) rfl (by kernel_rfl) (by kernel_rfl) (by kernel_rfl) (fun _ _ _ h => h) (Or.inl ⟨by rfl, fun V => by go_simp⟩) ?_
      refine wpAny_done (by kernel_rfl) ?_ _
      have HB3 : Hid (Below W4.heap.size W4 w3) := hbw.trans (hb3.mono hbw.size)
      go_wp2_with fail
      go_meet
      exact ⟨⟨_, _, rfl⟩, rfl, HB3⟩
  case rest =>
    obtain ⟨⟨a0, c0', rfl⟩, rfl, HB3⟩ := hcut
    clear e0 er i0 i1 i2 HS4
    have hc3 : CutAt _ w.heap.size mn mx bt := HC.out.kept (Kept.of_below (p := fun _ => True) HB3.out) trivial
    have c0 := hc3.c0
    have c1 := hc3.c1
    have c2 := hc3.c2
    have hcat1 : ¬ 9223372036854775807 < a.size + en.size := by omega
    have hcat2 : ¬ 9223372036854775807 < b.size + en.size := by omega
    clear hc3
    go_wp2_with fail
    refine (e1 _).mono ?_
    rintro e w4 ⟨vl, rfl, ol, hb4⟩
    have HB4 : Hid (Below W4.heap.size W4 w4) := HB3.out.trans (hb4.mono HB3.out.size)
    clear hb4 c0 c1 c2 HB3 e1
    have hc4 : CutAt w4 w.heap.size mn mx bt := HC.out.kept (Kept.of_below (p := fun _ => True) HB4.out) trivial
    have c0 := hc4.c0
    have c1 := hc4.c1
    have c2 := hc4.c2
    clear hc4
    obtain ⟨al, cl, rfl⟩ := own_slice ol
    go_wp2_with fail
    refine (e2 _).mono ?_
    rintro e w5 ⟨vm, rfl, om, hb5⟩
    have HB5 : Hid (Below W4.heap.size W4 w5) := HB4.out.trans (hb5.mono HB4.out.size)
    have ol5 := own_below ol hb5
    clear hb5 c0 c1 c2 HB4 e2 ol
    obtain ⟨am, cm, rfl⟩ := own_slice om
    have hmm := @run_makeMap Try.prog
    have HLs : Hid (L.flatten.length = a.size + en.size) := hLs
    have HMs : Hid (M.flatten.length = b.size + en.size) := hMs
    have HME : Hid (∀ i j, i < L.length → j < M.length → (L.drop i).flatten.length = (M.drop j).flatten.length → (L.drop i).flatten.length ≤ en.size → L.drop i = M.drop j) := hmeet
    clear hLs hMs hmeet
    go_wp2_with fail
    have HMAP : Hid ((w5.alloc (.map #[] 0)).ownsMap Try.prog 3 (plainElem (H := Nat) Try.prog 3) w5.heap.size 0 (.map [])) := World.ownsMap_made w5 _ _ _
    have HBM : Hid (Below w5.heap.size w5 (w5.alloc (.map #[] 0))) := (Below.refl _ w5).alloc (Nat.le_refl _) _
    generalize w5.alloc (.map #[] 0) = w6 at HMAP HBM ⊢
    go_loopw [17, 68] (fun x i wr => ∃ (k : Nat) (D : DataW Nat), k ≤ L.length ∧ i = .int .i64 k ∧ x = .int .i64 ((L.drop k).flatten.length : Nat) ∧ Hid (Ends L D) ∧ wr.ownsMap Try.prog 3 (plainElem Try.prog 3) w5.heap.size k D ∧ Hid (Below w5.heap.size w5 wr)) (fun _ i _ => L.length - (intOf i).toNat)
    case atStart => exact ⟨0, _, Nat.zero_le _, rfl, int_eq (by rw [List.drop_zero, HLs.out]; omega), Ends.none L, HMAP.out, HBM⟩
    case round =>
      obtain ⟨k, D, hk, rfl, rfl, HD, hown, HBK⟩ := hrel
      clear HMAP HBM hmm
      by_cases hlt : k < L.length
      · have hsz : (L.drop k).flatten.length ≤ 4096 := by
          have h1 := congrArg List.length (show (L.take k).flatten ++ (L.drop k).flatten = L.flatten from by rw [← List.flatten_append, List.take_append_drop])
          rw [List.length_append, HLs.out] at h1
          omega
        obtain ⟨g, cap, hv⟩ := own_split ol5 (by omega)
        cases hv
        obtain ⟨pb, hpb⟩ : ∃ pb : ByteArray, pb = ⟨L[k].toArray⟩ := ⟨_, rfl⟩
        have hcell : wr.cell? ⟨g, k, none⟩ = some (.string pb) := by
          rw [HBK.out.cell (p := ⟨g, k, none⟩) (own_cap ol5).2, own_cell ol5 k hlt, hpb]; rfl
        have HF : Hid (((L.drop k).flatten.length : Int) - (pb.size : Int) = ((L.drop (k + 1)).flatten.length : Nat)) := by
          have h1 := drop_len L k hlt
          have h2 : pb.size = L[k].length := by rw [hpb]; simp [ByteArray.size]
          show _ = _
          omega
        have hps : pb.size ≤ (L.drop k).flatten.length := by
          have h1 := drop_len L k hlt
          have h2 : pb.size = L[k].length := by rw [hpb]; simp [ByteArray.size]
          omega
        have HD2 := HD.out.put hlt
        have HD2' : Hid (Ends L (D.put (.int .i64 ((L.drop k).flatten.length : Nat)) (.lit (.int .i64 k)))) := HD2
        have hwk := wf_small (L.drop k).flatten.length hsz
        have hwk2 := wf_small k (by omega)
        generalize (L.drop k).flatten.length = fk at *
        clear hpb HD2
        go_wp2_with (at_mapUpdate; refine wpList_mapUpdate_own _ rfl _ _ _ 46 rfl 3 3 (Maps.int_keyed Try.underlying3) Try.underlying46 _ w5.heap.size k D rfl hown (by unfold maxLen; omega) _ _ (.int .i64 (fk : Int)) rfl rfl (Maps.keyOf_int_mk Try.underlying3 hwk) (.lit (.int .i64 (k : Int))) [] (plainElem_int Try.underlying3 hwk2) ?_; intro w7 hown7 hgrow7)
        have HB7 : Hid (Below w5.heap.size w5 w7) := HBK.out.grown hgrow7 HBK.out.size (fun j e => by cases e; exact Nat.le_refl _)
        refine ⟨⟨k + 1, _, by omega, by go_num, int_eq HF.out, HD2', hown7, HB7⟩, ?_⟩
        simp only [intOf]; omega
      · obtain rfl : k = L.length := by omega
        go_wp2_with fail
        go_loopw [17, 88] (fun x i wq => ∃ j : Nat, j ≤ M.length ∧ i = .int .i64 j ∧ x = .int .i64 ((M.drop j).flatten.length : Nat) ∧ wq = wr) (fun _ i _ => M.length - (intOf i).toNat)
        case atStart => exact ⟨0, Nat.zero_le _, rfl, int_eq (by rw [List.drop_zero, HMs.out]; omega), rfl⟩
        case round =>
          obtain ⟨j, hj, rfl, rfl, rfl⟩ := hrel
          by_cases hjl : j < M.length
          · have hsz : (M.drop j).flatten.length ≤ 4096 := by
              have h1 := congrArg List.length (show (M.take j).flatten ++ (M.drop j).flatten = M.flatten from by rw [← List.flatten_append, List.take_append_drop])
              rw [List.length_append, HMs.out] at h1
              omega
            obtain ⟨g2, cap2, hv2⟩ := own_split om (by omega)
            cases hv2
            obtain ⟨pb, hpb⟩ : ∃ pb : ByteArray, pb = ⟨M[j].toArray⟩ := ⟨_, rfl⟩
            have hcell : wr.cell? ⟨g2, j, none⟩ = some (.string pb) := by
              rw [HBK.out.cell (p := ⟨g2, j, none⟩) (own_cap om).2, own_cell om j hjl, hpb]; rfl
            have HF : Hid (((M.drop j).flatten.length : Int) - (pb.size : Int) = ((M.drop (j + 1)).flatten.length : Nat)) := by
              have h1 := drop_len M j hjl
              have h2 : pb.size = M[j].length := by rw [hpb]; simp [ByteArray.size]
              show _ = _
              omega
            have hps : pb.size ≤ (M.drop j).flatten.length := by
              have h1 := drop_len M j hjl
              have h2 : pb.size = M[j].length := by rw [hpb]; simp [ByteArray.size]
              omega
            have hwk := wf_small (M.drop j).flatten.length hsz
            have HSD := HD.out.sound ((M.drop j).flatten.length : Nat)
            have HME2 := fun i hi => HME.out i j hi hjl
            have HSD2 : Hid (Maps.has D (.int .i64 ((M.drop j).flatten.length : Nat)) = true → ∃ i : Nat, i < L.length ∧ (((M.drop j).flatten.length : Nat) : Int) = ((L.drop i).flatten.length : Nat) ∧ ∀ z, D.atKey (.int .i64 ((M.drop j).flatten.length : Nat)) z = .lit (.int .i64 i)) := HSD
            have HME3 : Hid (∀ i, i < L.length → (L.drop i).flatten.length = (M.drop j).flatten.length → (L.drop i).flatten.length ≤ en.size → L.drop i = M.drop j) := HME2
            generalize (M.drop j).flatten.length = fj at *
            clear hpb HSD HME2 hk hlt
            cases hb : Maps.has D (.int .i64 (fj : Int)) with
            | false =>
              clear HSD2 HME3
              go_wp2_with (at_lookup; refine wpList_lookup_own_ok_int _ rfl _ _ 46 rfl 3 3 .i64 (Maps.int_keyed Try.underlying3) Try.underlying46 Try.underlying3 (Try.zeroValue3 _) w5.heap.size L.length D rfl hown _ _ rfl (Maps.keyOf_int_mk Try.underlying3 hwk) ?_; intro c hat hwc; clear hat hwc)
              refine ⟨⟨j + 1, by omega, by go_num, int_eq HF.out, trivial⟩, ?_⟩
              simp only [intOf]; omega
            | true =>
              obtain ⟨i, hi, hkey, hsd⟩ := HSD2.out hb
              have HEQ : Hid (fj ≤ en.size → L.drop i = M.drop j) := fun h => HME3.out i hi (by omega) (by omega)
              have HSD3 : Hid (∀ z, D.atKey (.int .i64 (fj : Int)) z = .lit (.int .i64 (i : Int))) := hsd
              clear HSD2 HME3 hkey hsd
              by_cases hen : fj ≤ en.size
              · have heq := HEQ.out hen
                obtain ⟨g, cap, hv⟩ := own_split ol5 (by omega)
                cases hv
                have hcl := own_cap ol5
                have hcm := own_cap om
                have hdl : (L.drop i).length = L.length - i := List.length_drop
                have hdm : (L.drop i).length = M.length - j := by rw [heq]; exact List.length_drop
                have hE : ∀ X : Since wr.heap.size wr, Calls Try.prog 15 #[.slice (some ⟨g, i, none⟩) (L.length - i) (cl - i), .slice (some ⟨g2, j, none⟩) (M.length - j) (cm - j)] X.val fun e w' => e = .returned (.bool true) ∧ Below X.val.heap.size X.val w' := fun X => by
                  have hbx := HBK.out.trans (X.property.mono HBK.out.size)
                  have := equal_cells (V := X.val) (l := L.drop i) (g1 := g) (o1 := i) (c1 := cl - i) (g2 := g2) (o2 := j) (c2 := cm - j)
                    (fun q hq => by rw [hbx.cell (p := ⟨g, i + q, none⟩) hcl.2, List.getElem_drop]; exact own_cell ol5 (i + q) (by omega))
                    (fun q hq => by
                      have h1 : (L.drop i)[q] = M[j + q]'(by omega) := by simp only [heq, List.getElem_drop]
                      rw [hbx.cell (p := ⟨g2, j + q, none⟩) hcm.2, h1]; exact own_cell om (j + q) (by omega)) (by omega)
                  rw [hdl] at this
                  rw [hdl] at hdm
                  rw [← hdm]
                  exact this
                have hne : Nonempty (Since wr.heap.size wr) := ⟨⟨wr, Below.refl _ _⟩⟩
                have hi2 : i ≤ L.length := by omega
                have hci : ¬ (cl = i) := by omega
                have hj2 : j ≤ M.length := by omega
                have hcj : ¬ (cm = j) := by omega
                have hen2 : (fj : Int) ≤ (en.size : Int) := by omega
                clear heq HEQ hdl hdm hcl hcm ol5 om
                go_wp2_with (at_lookup; refine wpList_lookup_own_ok_int _ rfl _ _ 46 rfl 3 3 .i64 (Maps.int_keyed Try.underlying3) Try.underlying46 Try.underlying3 (Try.zeroValue3 _) w5.heap.size L.length D rfl hown _ _ rfl (Maps.keyOf_int_mk Try.underlying3 hwk) ?_; intro c hat hwc; obtain rfl : c = (i : Int) := (by have h1 := hat.symm.trans (HSD3.out _); cases h1; rfl); clear hat hwc)
                refine wp_region_since (B := wr.heap.size) (W0 := wr) (by kernel_rfl) (by kernel_rfl) (Below.refl _ _) ?_
                repeat (go_big_quiet_step (fail))
                go_big_quiet_step (exact quiet_since _ (hE _))
                repeat (go_big_quiet_step (fail))
                refine wpQuiet_nil ?_
                rintro w9 ⟨U, rfl⟩
                have hU := U.property
                have HB9 : Hid (Below W4.heap.size W4 U.val) := (HB5.out.trans (HBK.out.mono HB5.out.size)).trans (hU.mono (Nat.le_trans HB5.out.size HBK.out.size))
                generalize U.val = w9 at *
                clear hU hE hne
                go_wp2_with fail
                go_ret
                exact ⟨rfl, HB.out.trans (HB9.out.mono HB.out.size)⟩
              · have hen2 : ¬ (fj : Int) ≤ (en.size : Int) := by omega
                clear HEQ HSD3
                go_wp2_with (at_lookup; refine wpList_lookup_own_ok_int _ rfl _ _ 46 rfl 3 3 .i64 (Maps.int_keyed Try.underlying3) Try.underlying46 Try.underlying3 (Try.zeroValue3 _) w5.heap.size L.length D rfl hown _ _ rfl (Maps.keyOf_int_mk Try.underlying3 hwk) ?_; intro c hat hwc; clear hat hwc)
                refine ⟨⟨j + 1, by omega, by go_num, int_eq HF.out, trivial⟩, ?_⟩
                simp only [intOf]; omega
          · go_wp2_with fail
            go_ret
            exact ⟨rfl, HB.out.trans ((HB5.out.trans (HBK.out.mono HB5.out.size)).mono HB.out.size)⟩
end Go.Proofs.Ytdalpicpkandcaa
