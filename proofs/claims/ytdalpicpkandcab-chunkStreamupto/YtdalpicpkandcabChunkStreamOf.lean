/-
  The walk of lumkeep.ChunkStream: it returns true.
-/
import Derived.Test.YtdalpicpkandcabChunkLocalOf
import Derived.Test.YtdalpicpkandcabCkFeed
import Derived.Laws.AppendOwnNone
namespace Go.Proofs.Ytdalpicpkandcab
open Go.RowKit

/-- the texts that came in, as they lie in memory -/
structure Parts (w : World) (v : Value) (xs : List ByteArray) : Prop where
  at_ : ((∃ a c, v = .slice a 0 c) ∧ xs = []) ∨ ∃ bk o cap, v = .slice (some ⟨bk, o, none⟩) xs.length cap ∧ xs.length ≤ cap ∧ bk < w.heap.size ∧ ∀ j (hj : j < xs.length), w.cell? ⟨bk, o + j, none⟩ = some (.string xs[j])
theorem Parts.slice {w : World} {v : Value} {xs : List ByteArray} (h : Parts w v xs) : ∃ a c, v = .slice a xs.length c := by
  rcases h.at_ with ⟨⟨a, c, rfl⟩, rfl⟩ | ⟨bk, o, cap, rfl, _⟩
  · exact ⟨_, _, rfl⟩
  · exact ⟨_, _, rfl⟩
theorem Parts.below {w w' : World} {v : Value} {xs : List ByteArray} (h : Parts w v xs) (hb : Below w.heap.size w w') : Parts w' v xs := by
  rcases h.at_ with h | ⟨bk, o, cap, h1, h2, h3, h4⟩
  · exact ⟨.inl h⟩
  · exact ⟨.inr ⟨bk, o, cap, h1, h2, Nat.lt_of_lt_of_le h3 hb.size, fun j hj => (hb.cell (p := ⟨bk, o + j, none⟩) h3).trans (h4 j hj)⟩⟩
def joined (xs : List ByteArray) : Ck.Bs := (xs.map (·.data.toList)).flatten
theorem Parts.join {w : World} {v : Value} {xs : List ByteArray} (h : Parts w v xs) (hn : xs.length ≤ 1048576) (hl : (joined xs).length ≤ 1048576) :
    Calls Try.prog 7 #[v, .string ⟨#[]⟩] w fun e w' => e = .returned (.string ⟨(joined xs).toArray⟩) ∧ Below w.heap.size w w' := by
  rcases h.at_ with ⟨⟨a, c, rfl⟩, rfl⟩ | ⟨bk, o, cap, rfl, h2, h3, h4⟩
  · refine (Try.strings_Join_none a c ⟨#[]⟩ w).mono ?_
    rintro e w' ⟨rfl, rfl⟩
    exact ⟨rfl, Below.refl _ _⟩
  · have := Try.strings_Join bk o cap xs ⟨#[]⟩ w ?_ h3 (by omega) h2 ?_
    · refine this.mono ?_
      rintro e w' ⟨rfl, hb⟩
      refine ⟨?_, hb⟩
      rw [show (⟨#[]⟩ : ByteArray).data.toList = [] from rfl, join_flat]
      rfl
    · intro j x hx
      obtain ⟨hj, rfl⟩ := List.getElem?_eq_some_iff.1 hx
      exact h4 j hj
    · rw [show (⟨#[]⟩ : ByteArray).data.toList = [] from rfl, join_flat]
      show (joined xs).length ≤ _
      omega

set_option maxRecDepth 100000 in
set_option maxHeartbeats 4000000 in
theorem chunkStream_no (mn mx bt kc : Int) (v : Value) (xs : List ByteArray) (w : World) (S19 : ByteArray) (A0 L : List Ck.Bs) (hA0 : A0.length = 1) (hx : Parts w v xs) (hn : xs.length ≤ 1048576) (hl : (joined xs).length ≤ 1048576)
    (er : ∀ V, Calls Try.prog 5 #[.string ⟨#[97]⟩, .int .i64 19] V fun e w' => e = .returned (.string S19) ∧ Below V.heap.size V w')
    (e0 : ∀ V, Calls Try.prog 4 #[cutV 16 20 12, .string S19, .string ⟨#[97, 98]⟩] V fun e w' => ∃ v, e = .returned (.tuple #[v, .string ⟨#[98]⟩, .int .i64 0]) ∧ w'.ownsRow V.heap.size 9 1 v A0.length (A0.map Sv) ∧ Below V.heap.size V w')
    (e1 : ∀ V, Calls Try.prog 6 #[cutV mn mx bt, .string ⟨(joined xs).toArray⟩] V fun e w' => ∃ v, e = .returned (.tuple #[v, .int .i64 kc]) ∧ w'.ownsRow V.heap.size 9 1 v L.length (L.map Sv) ∧ Below V.heap.size V w')
    (hkc : kc ≠ 0) (hLe : L = []) :
    Calls Try.prog 3 #[cutV mn mx bt, v] w fun e w' => e = .returned (.bool true) ∧ Below w.heap.size w w' := by
  unfold cutV at e0 e1 ⊢
  obtain ⟨W4, hW4⟩ : ∃ W4, W4 = (w.alloc (Obj.cells #[Value.int IntKind.i64 mn, Value.int IntKind.i64 mx, Value.int IntKind.i64 bt] 23)).alloc (Obj.cells #[Value.int IntKind.i64 16, Value.int IntKind.i64 20, Value.int IntKind.i64 12] 23) := ⟨_, rfl⟩
  have HC : Hid (CutAt W4 w.heap.size mn mx bt) := by rw [hW4]; exact (Below.heap_alloc _ _ _ (by simp)).trans (World.alloc_heap_new w _)
  have HS4 : Hid (CutAt W4 (w.heap.size + 1) 16 20 12) := by
    rw [hW4]
    have := World.alloc_heap_new (w.alloc (Obj.cells #[Value.int IntKind.i64 mn, Value.int IntKind.i64 mx, Value.int IntKind.i64 bt] 23)) (Obj.cells #[Value.int IntKind.i64 16, Value.int IntKind.i64 20, Value.int IntKind.i64 12] 23)
    rw [World.size_alloc] at this
    exact this
  have HB : Hid (Below w.heap.size w W4) := by rw [hW4]; exact ((Below.refl _ w).alloc (Nat.le_refl _) _).alloc (by simp) _
  have i0 := HS4.out.c0
  have i1 := HS4.out.c1
  have i2 := HS4.out.c2
  obtain ⟨ap, cp, rfl⟩ := hx.slice
  go_enter Try.func3, Try.ntmps3
  go_wp2_with fail
  rw [← hW4]
  clear hW4
  go_cut [6, 7, 8] from 19 (fun x y z wx => (∃ a c, x = .slice a A0.length c) ∧ y = .string ⟨#[98]⟩ ∧ z = .int .i64 0 ∧ Hid (Below W4.heap.size W4 wx))
  case first =>
    refine wp_region_any (by kernel_rfl) ?_
    change wpAny _ _ _ _ _ _ _ (World.drew _)
    refine wpAny_ready (rs := [0, 1]) (by kernel_rfl) (by simp) ?_
    refine AllReady.cons rfl (fun K hK => ?_) (AllReady.cons rfl (fun K hK => ?_) AllReady.nil)
    · go_simp
      refine hK _ _ ?_
      clear hK K
      refine wpAny_ready (rs := [1]) (by kernel_rfl) (by simp) ?_
      refine AllReady.cons rfl (fun K hK => ?_) AllReady.nil
      go_simp
      refine (er _).mono ?_
      rintro e w2 ⟨rfl, hb2⟩
      refine hK _ _ ?_
      clear hK K
      have hbw : Below W4.heap.size W4 w2 := (Below.refl W4.heap.size W4).drew.trans hb2
      clear hb2
      refine wpAny_ready (rs := [2]) (by kernel_rfl) (by simp) ?_
      refine AllReady.cons rfl (fun K hK => ?_) AllReady.nil
      go_simp
      refine (e0 _).mono ?_
      rintro e w3 ⟨v0, rfl, o0, hb3⟩
      obtain ⟨a0, c0', rfl⟩ := own_slice o0
      refine hK _ _ ?_
      clear hK K
      refine wpAny_take (i := 3) (v := .tuple #[.slice a0 A0.length c0', .string ⟨#[98]⟩, .int .i64 0]) rfl (by kernel_rfl) (by kernel_rfl) (by kernel_rfl) (fun _ _ _ h => h) (Or.inl ⟨by rfl, fun V => by go_simp⟩) ?_
      refine wpAny_take (i := 4) (v := .slice a0 A0.length c0') rfl (by kernel_rfl) (by kernel_rfl) (by kernel_rfl) (fun _ _ _ h => h) (Or.inl ⟨by rfl, fun V => by go_simp⟩) ?_
      refine wpAny_take (i := 5) (v := .string ⟨#[98]⟩) rfl (by kernel_rfl) (by kernel_rfl) (by kernel_rfl) (fun _ _ _ h => h) (Or.inl ⟨by rfl, fun V => by go_simp⟩) ?_
      refine wpAny_take (i := 6) (v := .int .i64 0) rfl (by kernel_rfl) (by kernel_rfl) (by kernel_rfl) (fun _ _ _ h => h) (Or.inl ⟨by rfl, fun V => by go_simp⟩) ?_
      refine wpAny_take (i := 7) (v := .slice a0 A0.length c0') rfl (by kernel_rfl) (by kernel_rfl) (by kernel_rfl) (fun _ _ _ h => h) (Or.inl ⟨by rfl, fun V => by go_simp⟩) ?_
      refine wpAny_take (i := 8) (v := .string ⟨#[98]⟩) rfl (by kernel_rfl) (by kernel_rfl) (by kernel_rfl) (fun _ _ _ h => h) (Or.inl ⟨by rfl, fun V => by go_simp⟩) ?_
      refine wpAny_take (i := 9) (v := .int .i64 0) rfl (by kernel_rfl) (by kernel_rfl) (by kernel_rfl) (fun _ _ _ h => h) (Or.inl ⟨by rfl, fun V => by go_simp⟩) ?_
      refine wpAny_done (by kernel_rfl) ?_ _
      have HB3 : Hid (Below W4.heap.size W4 w3) := hbw.trans (hb3.mono hbw.size)
      go_wp2_with fail
      go_meet
      exact ⟨⟨_, _, rfl⟩, rfl, rfl, HB3⟩
    · go_simp
      refine (er _).mono ?_
      rintro e w2 ⟨rfl, hb2⟩
      refine hK _ _ ?_
      clear hK K
      have hbw : Below W4.heap.size W4 w2 := (Below.refl W4.heap.size W4).drew.trans hb2
      have hs2 : CutAt w2 (w.heap.size + 1) 16 20 12 := HS4.out.kept (Kept.of_below (p := fun _ => True) hbw) trivial
      have s0 := hs2.c0
      have s1 := hs2.c1
      have s2 := hs2.c2
      clear hb2 hs2
      refine wpAny_ready (rs := [0]) (by kernel_rfl) (by simp) ?_
      refine AllReady.cons rfl (fun K hK => ?_) AllReady.nil
      go_simp
      refine hK _ _ ?_
      clear hK K s0 s1 s2
      refine wpAny_ready (rs := [2]) (by kernel_rfl) (by simp) ?_
      refine AllReady.cons rfl (fun K hK => ?_) AllReady.nil
      go_simp
      refine (e0 _).mono ?_
      rintro e w3 ⟨v0, rfl, o0, hb3⟩
      obtain ⟨a0, c0', rfl⟩ := own_slice o0
      refine hK _ _ ?_
      clear hK K
      refine wpAny_take (i := 3) (v := .tuple #[.slice a0 A0.length c0', .string ⟨#[98]⟩, .int .i64 0]) rfl (by kernel_rfl) (by kernel_rfl) (by kernel_rfl) (fun _ _ _ h => h) (Or.inl ⟨by rfl, fun V => by go_simp⟩) ?_
      refine wpAny_take (i := 4) (v := .slice a0 A0.length c0') rfl (by kernel_rfl) (by kernel_rfl) (by kernel_rfl) (fun _ _ _ h => h) (Or.inl ⟨by rfl, fun V => by go_simp⟩) ?_
      refine wpAny_take (i := 5) (v := .string ⟨#[98]⟩) rfl (by kernel_rfl) (by kernel_rfl) (by kernel_rfl) (fun _ _ _ h => h) (Or.inl ⟨by rfl, fun V => by go_simp⟩) ?_
      refine wpAny_take (i := 6) (v := .int .i64 0) rfl (by kernel_rfl) (by kernel_rfl) (by kernel_rfl) (fun _ _ _ h => h) (Or.inl ⟨by rfl, fun V => by go_simp⟩) ?_
      refine wpAny_take (i := 7) (v := .slice a0 A0.length c0') rfl (by kernel_rfl) (by kernel_rfl) (by kernel_rfl) (fun _ _ _ h => h) (Or.inl ⟨by rfl, fun V => by go_simp⟩) ?_
      refine wpAny_take (i := 8) (v := .string ⟨#[98]⟩) rfl (by kernel_rfl) (by kernel_rfl) (by kernel_rfl) (fun _ _ _ h => h) (Or.inl ⟨by rfl, fun V => by go_simp⟩) ?_
      refine wpAny_take (i := 9) (v := .int .i64 0) rfl (by kernel_rfl) (by kernel_rfl) (by kernel_rfl) (fun _ _ _ h => h) (Or.inl ⟨by rfl, fun V => by go_simp⟩) ?_
      refine wpAny_done (by kernel_rfl) ?_ _
      have HB3 : Hid (Below W4.heap.size W4 w3) := hbw.trans (hb3.mono hbw.size)
      go_wp2_with fail
      go_meet
      exact ⟨⟨_, _, rfl⟩, rfl, rfl, HB3⟩
  case rest =>
    obtain ⟨⟨a0, c0', rfl⟩, rfl, rfl, HB3⟩ := hcut
    clear e0 er i0 i1 i2 HS4
    have hc3 : CutAt wc w.heap.size mn mx bt := HC.out.kept (Kept.of_below (p := fun _ => True) HB3.out) trivial
    have c0 := hc3.c0
    have c1 := hc3.c1
    have c2 := hc3.c2
    have lc := hc3.lt
    clear hc3
    have hx3 : Parts wc (.slice ap xs.length cp) xs := hx.below (HB.out.trans (HB3.out.mono HB.out.size))
    have hjn := (hx3.below (w' := wc.drew) (Below.refl _ _).drew).join hn hl
    go_wp2_with fail
    try simp only [hA0]
    clear hA0
    go_cut [9, 10] from 37 (fun x y wx => y = .int .i64 kc ∧ ∃ V0 : World, wx.ownsRow V0.heap.size 9 1 x L.length (L.map Sv) ∧ Hid (Below wc.heap.size wc wx))
    case first =>
      refine wp_region_any (by kernel_rfl) ?_
      change wpAny _ _ _ _ _ _ _ (World.drew _)
      refine wpAny_take (i := 1) (v := .slice ap xs.length cp) rfl (by kernel_rfl) (by kernel_rfl) (by kernel_rfl) (fun _ _ _ h => h) (Or.inl ⟨by rfl, fun V => by go_simp⟩) ?_
      refine wpAny_ready (rs := [0, 2]) (by kernel_rfl) (by simp) ?_
      refine AllReady.cons rfl (fun K hK => ?_) (AllReady.cons rfl (fun K hK => ?_) AllReady.nil)
      · go_simp
        refine hK _ _ ?_
        clear hK K
        refine wpAny_ready (rs := [2]) (by kernel_rfl) (by simp) ?_
        refine AllReady.cons rfl (fun K hK => ?_) AllReady.nil
        go_simp
        refine hjn.mono ?_
        rintro e w6 ⟨rfl, hb6⟩
        refine hK _ _ ?_
        clear hK K
        have hbw : Below wc.heap.size wc w6 := (Below.refl wc.heap.size wc).drew.trans hb6
        clear hb6
        refine wpAny_ready (rs := [3]) (by kernel_rfl) (by simp) ?_
        refine AllReady.cons rfl (fun K hK => ?_) AllReady.nil
        go_simp
        refine (e1 _).mono ?_
        rintro e w7 ⟨vm, rfl, om, hb7⟩
        refine hK _ _ ?_
        clear hK K
        refine wpAny_take (i := 4) (v := .tuple #[vm, .int .i64 kc]) rfl (by kernel_rfl) (by kernel_rfl) (by kernel_rfl) (fun _ _ _ h => h) (Or.inl ⟨by rfl, fun V => by go_simp⟩) ?_
        refine wpAny_take (i := 5) (v := vm) rfl (by kernel_rfl) (by kernel_rfl) (by kernel_rfl) (fun _ _ _ h => h) (Or.inl ⟨by rfl, fun V => by go_simp⟩) ?_
        refine wpAny_take (i := 6) (v := .int .i64 kc) rfl (by kernel_rfl) (by kernel_rfl) (by kernel_rfl) (fun _ _ _ h => h) (Or.inl ⟨by rfl, fun V => by go_simp⟩) ?_
        refine wpAny_take (i := 7) (v := vm) rfl (by kernel_rfl) (by kernel_rfl) (by kernel_rfl) (fun _ _ _ h => h) (Or.inl ⟨by rfl, fun V => by go_simp⟩) ?_
        refine wpAny_take (i := 8) (v := .int .i64 kc) rfl (by kernel_rfl) (by kernel_rfl) (by kernel_rfl) (fun _ _ _ h => h) (Or.inl ⟨by rfl, fun V => by go_simp⟩) ?_
        refine wpAny_done (by kernel_rfl) ?_ _
        have HB7 : Hid (Below wc.heap.size wc w7) := hbw.trans (hb7.mono hbw.size)
        go_wp2_with fail
        go_meet
        exact ⟨rfl, _, om, HB7⟩
      · go_simp
        refine hjn.mono ?_
        rintro e w6 ⟨rfl, hb6⟩
        refine hK _ _ ?_
        clear hK K
        have hbw : Below wc.heap.size wc w6 := (Below.refl wc.heap.size wc).drew.trans hb6
        have d0 := (hbw.cell (p := ⟨w.heap.size, 0, none⟩) lc).trans c0
        have d1 := (hbw.cell (p := ⟨w.heap.size, 1, none⟩) lc).trans c1
        have d2 := (hbw.cell (p := ⟨w.heap.size, 2, none⟩) lc).trans c2
        clear hb6
        refine wpAny_ready (rs := [0]) (by kernel_rfl) (by simp) ?_
        refine AllReady.cons rfl (fun K hK => ?_) AllReady.nil
        go_simp
        refine hK _ _ ?_
        clear hK K d0 d1 d2
        refine wpAny_ready (rs := [3]) (by kernel_rfl) (by simp) ?_
        refine AllReady.cons rfl (fun K hK => ?_) AllReady.nil
        go_simp
        refine (e1 _).mono ?_
        rintro e w7 ⟨vm, rfl, om, hb7⟩
        refine hK _ _ ?_
        clear hK K
        refine wpAny_take (i := 4) (v := .tuple #[vm, .int .i64 kc]) rfl (by kernel_rfl) (by kernel_rfl) (by kernel_rfl) (fun _ _ _ h => h) (Or.inl ⟨by rfl, fun V => by go_simp⟩) ?_
        refine wpAny_take (i := 5) (v := vm) rfl (by kernel_rfl) (by kernel_rfl) (by kernel_rfl) (fun _ _ _ h => h) (Or.inl ⟨by rfl, fun V => by go_simp⟩) ?_
        refine wpAny_take (i := 6) (v := .int .i64 kc) rfl (by kernel_rfl) (by kernel_rfl) (by kernel_rfl) (fun _ _ _ h => h) (Or.inl ⟨by rfl, fun V => by go_simp⟩) ?_
        refine wpAny_take (i := 7) (v := vm) rfl (by kernel_rfl) (by kernel_rfl) (by kernel_rfl) (fun _ _ _ h => h) (Or.inl ⟨by rfl, fun V => by go_simp⟩) ?_
        refine wpAny_take (i := 8) (v := .int .i64 kc) rfl (by kernel_rfl) (by kernel_rfl) (by kernel_rfl) (fun _ _ _ h => h) (Or.inl ⟨by rfl, fun V => by go_simp⟩) ?_
        refine wpAny_done (by kernel_rfl) ?_ _
        have HB7 : Hid (Below wc.heap.size wc w7) := hbw.trans (hb7.mono hbw.size)
        go_wp2_with fail
        go_meet
        exact ⟨rfl, _, om, HB7⟩
    case rest =>
      obtain ⟨rfl, V0, om, HB7⟩ := hcut
      clear e1 hjn c0 c1 c2 lc
      obtain ⟨al, cl, rfl⟩ := own_slice om
      obtain rfl : L = [] := hLe
      have hq : (kc != 0) = true := by rw [bne_iff_ne]; exact hkc
      clear om
      go_wp2_with fail
      go_ret
      exact ⟨rfl, HB.out.trans ((HB3.out.trans (HB7.out.mono HB3.out.size)).mono HB.out.size)⟩
end Go.Proofs.Ytdalpicpkandcab
