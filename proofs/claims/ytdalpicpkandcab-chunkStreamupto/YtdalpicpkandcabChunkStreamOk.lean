/-
  The walk of lumkeep.ChunkStream where all that came in is no more than 4096 bytes: it returns true.
-/
import Derived.Test.YtdalpicpkandcabChunkStreamOf
namespace Go.Proofs.Ytdalpicpkandcab
open Go.RowKit

set_option maxRecDepth 100000 in
set_option maxHeartbeats 4000000 in
theorem chunkStream_ok (mn mx bt : Int) (v : Value) (xs : List ByteArray) (w : World) (S19 : ByteArray) (A0 L : List Ck.Bs) (hA0 : A0.length = 1) (hx : Parts w v xs) (hn : xs.length ≤ 1048576) (hl : (joined xs).length ≤ 1048576)
    (er : ∀ V, Calls Try.prog 5 #[.string ⟨#[97]⟩, .int .i64 19] V fun e w' => e = .returned (.string S19) ∧ Below V.heap.size V w')
    (e0 : ∀ V, Calls Try.prog 4 #[cutV 16 20 12, .string S19, .string ⟨#[97, 98]⟩] V fun e w' => ∃ v, e = .returned (.tuple #[v, .string ⟨#[98]⟩, .int .i64 0]) ∧ w'.ownsRow V.heap.size 9 1 v A0.length (A0.map Sv) ∧ Below V.heap.size V w')
    (e1 : ∀ V, Calls Try.prog 6 #[cutV mn mx bt, .string ⟨(joined xs).toArray⟩] V fun e w' => ∃ v, e = .returned (.tuple #[v, .int .i64 0]) ∧ w'.ownsRow V.heap.size 9 1 v L.length (L.map Sv) ∧ Below V.heap.size V w')
    (G : Nat → List Ck.Bs) (H : Nat → ByteArray) (HG0 : Hid (G 0 = [])) (HH0 : Hid (H 0 = ⟨#[]⟩)) (hG4 : ∀ k, (G k).length ≤ 4096) (hL : L.length ≤ 4096)
    (ef : ∀ k (hk : k < xs.length), ∃ l, G (k + 1) = G k ++ l ∧ ∀ V, Calls Try.prog 4 #[cutV mn mx bt, .string (H k), .string xs[k]] V fun e w' => ∃ v, e = .returned (.tuple #[v, .string (H (k + 1)), .int .i64 0]) ∧ w'.ownsRow V.heap.size 9 1 v l.length (l.map Sv) ∧ Below V.heap.size V w')
    (HEND : Hid (L = if H xs.length = ⟨#[]⟩ then G xs.length else G xs.length ++ [(H xs.length).data.toList])) :
    Calls Try.prog 3 #[cutV mn mx bt, v] w fun e w' => e = .returned (.bool true) ∧ Below w.heap.size w w' := by
  unfold cutV at e0 e1 ef ⊢
  obtain ⟨W4, hW4⟩ : ∃ W4, W4 = (w.alloc (Obj.cells #[Value.int IntKind.i64 mn, Value.int IntKind.i64 mx, Value.int IntKind.i64 bt] 23)).alloc (Obj.cells #[Value.int IntKind.i64 16, Value.int IntKind.i64 20, Value.int IntKind.i64 12] 23) := ⟨_, rfl⟩
  have HC : Hid (CutAt W4 w.heap.size mn mx bt) := by rw [hW4]; exact (Below.heap_alloc _ _ _ (by simp)).trans (World.alloc_heap_new w _)
  have HS4 : Hid (CutAt W4 (w.heap.size + 1) 16 20 12) := by
    rw [hW4]
    have := World.alloc_heap_new (w.alloc (Obj.cells #[Value.int IntKind.i64 mn, Value.int IntKind.i64 mx, Value.int IntKind.i64 bt] 23)) (Obj.cells #[Value.int IntKind.i64 16, Value.int IntKind.i64 20, Value.int IntKind.i64 12] 23)
    rw [World.size_alloc] at this
    exact this
  have HB : Hid (Below w.heap.size w W4) := by rw [hW4]; exact ((Below.refl _ w).alloc (Nat.le_refl _) _).alloc (by simp) _
  have i0 := HS4.out.c0
  have i1 := HS4.out.c1
  have i2 := HS4.out.c2
  obtain ⟨ap, cp, rfl⟩ := hx.slice
  go_enter Try.func3, Try.ntmps3
  go_wp2_with fail
  rw [← hW4]
  clear hW4
  go_cut [6, 7, 8] from 19 (fun x y z wx => (∃ a c, x = .slice a A0.length c) ∧ y = .string ⟨#[98]⟩ ∧ z = .int .i64 0 ∧ Hid (Below W4.heap.size W4 wx))
  case first =>
    refine wp_region_any (by kernel_rfl) ?_
    change wpAny _ _ _ _ _ _ _ (World.drew _)
    refine wpAny_ready (rs := [0, 1]) (by kernel_rfl) (by simp) ?_
    refine AllReady.cons rfl (fun K hK => ?_) (AllReady.cons rfl (fun K hK => ?_) AllReady.nil)
    · go_simp
      refine hK _ _ ?_
      clear hK K
      refine wpAny_ready (rs := [1]) (by kernel_rfl) (by simp) ?_
      refine AllReady.cons rfl (fun K hK => ?_) AllReady.nil
      go_simp
      refine (er _).mono ?_
      rintro e w2 ⟨rfl, hb2⟩
      refine hK _ _ ?_
      clear hK K
      have hbw : Below W4.heap.size W4 w2 := (Below.refl W4.heap.size W4).drew.trans hb2
      clear hb2
      refine wpAny_ready (rs := [2]) (by kernel_rfl) (by simp) ?_
      refine AllReady.cons rfl (fun K hK => ?_) AllReady.nil
      go_simp
      refine (e0 _).mono ?_
      rintro e w3 ⟨v0, rfl, o0, hb3⟩
      obtain ⟨a0, c0', rfl⟩ := own_slice o0
      refine hK _ _ ?_
      clear hK K
      refine wpAny_take (i := 3) (v := .tuple #[.slice a0 A0.length c0', .string ⟨#[98]⟩, .int .i64 0]) rfl (by kernel_rfl) (by kernel_rfl) (by kernel_rfl) (fun _ _ _ h => h) (Or.inl ⟨by rfl, fun V => by go_simp⟩) ?_
      refine wpAny_take (i := 4) (v := .slice a0 A0.length c0') rfl (by kernel_rfl) (by kernel_rfl) (by kernel_rfl) (fun _ _ _ h => h) (Or.inl ⟨by rfl, fun V => by go_simp⟩) ?_
      refine wpAny_take (i := 5) (v := .string ⟨#[98]⟩) rfl (by kernel_rfl) (by kernel_rfl) (by kernel_rfl) (fun _ _ _ h => h) (Or.inl ⟨by rfl, fun V => by go_simp⟩) ?_
      refine wpAny_take (i := 6) (v := .int .i64 0) rfl (by kernel_rfl) (by kernel_rfl) (by kernel_rfl) (fun _ _ _ h => h) (Or.inl ⟨by rfl, fun V => by go_simp⟩) ?_
      refine wpAny_take (i := 7) (v := .slice a0 A0.length c0') rfl (by kernel_rfl) (by kernel_rfl) (by kernel_rfl) (fun _ _ _ h => h) (Or.inl ⟨by rfl, fun V => by go_simp⟩) ?_
      refine wpAny_take (i := 8) (v := .string ⟨#[98]⟩) rfl (by kernel_rfl) (by kernel_rfl) (by kernel_rfl) (fun _ _ _ h => h) (Or.inl ⟨by rfl, fun V => by go_simp⟩) ?_
      refine wpAny_take (i := 9) (v := .int .i64 0) rfl (by kernel_rfl) (by kernel_rfl) (by kernel_rfl) (fun _ _ _ h => h) (Or.inl ⟨by rfl, fun V => by go_simp⟩) ?_
      refine wpAny_done (by kernel_rfl) ?_ _
      have HB3 : Hid (Below W4.heap.size W4 w3) := hbw.trans (hb3.mono hbw.size)
      go_wp2_with fail
      go_meet
      exact ⟨⟨_, _, rfl⟩, rfl, rfl, HB3⟩
    · go_simp
      refine (er _).mono ?_
      rintro e w2 ⟨rfl, hb2⟩
      refine hK _ _ ?_
      clear hK K
      have hbw : Below W4.heap.size W4 w2 := (Below.refl W4.heap.size W4).drew.trans hb2
      have hs2 : CutAt w2 (w.heap.size + 1) 16 20 12 := HS4.out.kept (Kept.of_below (p := fun _ => True) hbw) trivial
      have s0 := hs2.c0
      have s1 := hs2.c1
      have s2 := hs2.c2
      clear hb2 hs2
      refine wpAny_ready (rs := [0]) (by kernel_rfl) (by simp) ?_
      refine AllReady.cons rfl (fun K hK => ?_) AllReady.nil
      go_simp
      refine hK _ _ ?_
      clear hK K s0 s1 s2
      refine wpAny_ready (rs := [2]) (by kernel_rfl) (by simp) ?_
      refine AllReady.cons rfl (fun K hK => ?_) AllReady.nil
      go_simp
      refine (e0 _).mono ?_
      rintro e w3 ⟨v0, rfl, o0, hb3⟩
      obtain ⟨a0, c0', rfl⟩ := own_slice o0
      refine hK _ _ ?_
      clear hK K
      refine wpAny_take (i := 3) (v := .tuple #[.slice a0 A0.length c0', .string ⟨#[98]⟩, .int .i64 0]) rfl (by kernel_rfl) (by kernel_rfl) (by kernel_rfl) (fun _ _ _ h => h) (Or.inl ⟨by rfl, fun V => by go_simp⟩) ?_
      refine wpAny_take (i := 4) (v := .slice a0 A0.length c0') rfl (by kernel_rfl) (by kernel_rfl) (by kernel_rfl) (fun _ _ _ h => h) (Or.inl ⟨by rfl, fun V => by go_simp⟩) ?_
      refine wpAny_take (i := 5) (v := .string ⟨#[98]⟩) rfl (by kernel_rfl) (by kernel_rfl) (by kernel_rfl) (fun _ _ _ h => h) (Or.inl ⟨by rfl, fun V => by go_simp⟩) ?_
      refine wpAny_take (i := 6) (v := .int .i64 0) rfl (by kernel_rfl) (by kernel_rfl) (by kernel_rfl) (fun _ _ _ h => h) (Or.inl ⟨by rfl, fun V => by go_simp⟩) ?_
      refine wpAny_take (i := 7) (v := .slice a0 A0.length c0') rfl (by kernel_rfl) (by kernel_rfl) (by kernel_rfl) (fun _ _ _ h => h) (Or.inl ⟨by rfl, fun V => by go_simp⟩) ?_
      refine wpAny_take (i := 8) (v := .string ⟨#[98]⟩) rfl (by kernel_rfl) (by kernel_rfl) (by kernel_rfl) (fun _ _ _ h => h) (Or.inl ⟨by rfl, fun V => by go_simp⟩) ?_
      refine wpAny_take (i := 9) (v := .int .i64 0) rfl (by kernel_rfl) (by kernel_rfl) (by kernel_rfl) (fun _ _ _ h => h) (Or.inl ⟨by rfl, fun V => by go_simp⟩) ?_
      refine wpAny_done (by kernel_rfl) ?_ _
      have HB3 : Hid (Below W4.heap.size W4 w3) := hbw.trans (hb3.mono hbw.size)
      go_wp2_with fail
      go_meet
      exact ⟨⟨_, _, rfl⟩, rfl, rfl, HB3⟩
  case rest =>
    obtain ⟨⟨a0, c0', rfl⟩, rfl, rfl, HB3⟩ := hcut
    clear e0 er i0 i1 i2 HS4
    have hc3 : CutAt wc w.heap.size mn mx bt := HC.out.kept (Kept.of_below (p := fun _ => True) HB3.out) trivial
    have c0 := hc3.c0
    have c1 := hc3.c1
    have c2 := hc3.c2
    have lc := hc3.lt
    clear hc3
    have hx3 : Parts wc (.slice ap xs.length cp) xs := hx.below (HB.out.trans (HB3.out.mono HB.out.size))
    have hjn := (hx3.below (w' := wc.drew) (Below.refl _ _).drew).join hn hl
    go_wp2_with fail
    try simp only [hA0]
    clear hA0
    go_cut [9, 10] from 37 (fun x y wx => y = .int .i64 0 ∧ ∃ V0 : World, wx.ownsRow V0.heap.size 9 1 x L.length (L.map Sv) ∧ Hid (Below wc.heap.size wc wx))
    case first =>
      refine wp_region_any (by kernel_rfl) ?_
      change wpAny _ _ _ _ _ _ _ (World.drew _)
      refine wpAny_take (i := 1) (v := .slice ap xs.length cp) rfl (by kernel_rfl) (by kernel_rfl) (by kernel_rfl) (fun _ _ _ h => h) (Or.inl ⟨by rfl, fun V => by go_simp⟩) ?_
      refine wpAny_ready (rs := [0, 2]) (by kernel_rfl) (by simp) ?_
      refine AllReady.cons rfl (fun K hK => ?_) (AllReady.cons rfl (fun K hK => ?_) AllReady.nil)
      · go_simp
        refine hK _ _ ?_
        clear hK K
        refine wpAny_ready (rs := [2]) (by kernel_rfl) (by simp) ?_
        refine AllReady.cons rfl (fun K hK => ?_) AllReady.nil
        go_simp
        refine hjn.mono ?_
        rintro e w6 ⟨rfl, hb6⟩
        refine hK _ _ ?_
        clear hK K
        have hbw : Below wc.heap.size wc w6 := (Below.refl wc.heap.size wc).drew.trans hb6
        clear hb6
        refine wpAny_ready (rs := [3]) (by kernel_rfl) (by simp) ?_
        refine AllReady.cons rfl (fun K hK => ?_) AllReady.nil
        go_simp
        refine (e1 _).mono ?_
        rintro e w7 ⟨vm, rfl, om, hb7⟩
        refine hK _ _ ?_
        clear hK K
        refine wpAny_take (i := 4) (v := .tuple #[vm, .int .i64 0]) rfl (by kernel_rfl) (by kernel_rfl) (by kernel_rfl) (fun _ _ _ h => h) (Or.inl ⟨by rfl, fun V => by go_simp⟩) ?_
        refine wpAny_take (i := 5) (v := vm) rfl (by kernel_rfl) (by kernel_rfl) (by kernel_rfl) (fun _ _ _ h => h) (Or.inl ⟨by rfl, fun V => by go_simp⟩) ?_
        refine wpAny_take (i := 6) (v := .int .i64 0) rfl (by kernel_rfl) (by kernel_rfl) (by kernel_rfl) (fun _ _ _ h => h) (Or.inl ⟨by rfl, fun V => by go_simp⟩) ?_
        refine wpAny_take (i := 7) (v := vm) rfl (by kernel_rfl) (by kernel_rfl) (by kernel_rfl) (fun _ _ _ h => h) (Or.inl ⟨by rfl, fun V => by go_simp⟩) ?_
        refine wpAny_take (i := 8) (v := .int .i64 0) rfl (by kernel_rfl) (by kernel_rfl) (by kernel_rfl) (fun _ _ _ h => h) (Or.inl ⟨by rfl, fun V => by go_simp⟩) ?_
        refine wpAny_done (by kernel_rfl) ?_ _
        have HB7 : Hid (Below wc.heap.size wc w7) := hbw.trans (hb7.mono hbw.size)
        go_wp2_with fail
        go_meet
        exact ⟨rfl, _, om, HB7⟩
      · go_simp
        refine hjn.mono ?_
        rintro e w6 ⟨rfl, hb6⟩
        refine hK _ _ ?_
        clear hK K
        have hbw : Below wc.heap.size wc w6 := (Below.refl wc.heap.size wc).drew.trans hb6
        have d0 := (hbw.cell (p := ⟨w.heap.size, 0, none⟩) lc).trans c0
        have d1 := (hbw.cell (p := ⟨w.heap.size, 1, none⟩) lc).trans c1
        have d2 := (hbw.cell (p := ⟨w.heap.size, 2, none⟩) lc).trans c2
        clear hb6
        refine wpAny_ready (rs := [0]) (by kernel_rfl) (by simp) ?_
        refine AllReady.cons rfl (fun K hK => ?_) AllReady.nil
        go_simp
        refine hK _ _ ?_
        clear hK K d0 d1 d2
        refine wpAny_ready (rs := [3]) (by kernel_rfl) (by simp) ?_
        refine AllReady.cons rfl (fun K hK => ?_) AllReady.nil
        go_simp
        refine (e1 _).mono ?_
        rintro e w7 ⟨vm, rfl, om, hb7⟩
        refine hK _ _ ?_
        clear hK K
        refine wpAny_take (i := 4) (v := .tuple #[vm, .int .i64 0]) rfl (by kernel_rfl) (by kernel_rfl) (by kernel_rfl) (fun _ _ _ h => h) (Or.inl ⟨by rfl, fun V => by go_simp⟩) ?_
        refine wpAny_take (i := 5) (v := vm) rfl (by kernel_rfl) (by kernel_rfl) (by kernel_rfl) (fun _ _ _ h => h) (Or.inl ⟨by rfl, fun V => by go_simp⟩) ?_
        refine wpAny_take (i := 6) (v := .int .i64 0) rfl (by kernel_rfl) (by kernel_rfl) (by kernel_rfl) (fun _ _ _ h => h) (Or.inl ⟨by rfl, fun V => by go_simp⟩) ?_
        refine wpAny_take (i := 7) (v := vm) rfl (by kernel_rfl) (by kernel_rfl) (by kernel_rfl) (fun _ _ _ h => h) (Or.inl ⟨by rfl, fun V => by go_simp⟩) ?_
        refine wpAny_take (i := 8) (v := .int .i64 0) rfl (by kernel_rfl) (by kernel_rfl) (by kernel_rfl) (fun _ _ _ h => h) (Or.inl ⟨by rfl, fun V => by go_simp⟩) ?_
        refine wpAny_done (by kernel_rfl) ?_ _
        have HB7 : Hid (Below wc.heap.size wc w7) := hbw.trans (hb7.mono hbw.size)
        go_wp2_with fail
        go_meet
        exact ⟨rfl, _, om, HB7⟩
    case rest =>
      obtain ⟨rfl, V0, om, HB7⟩ := hcut
      clear e1 hjn c0 c1 c2 lc
      have HBW : Hid (Below W4.heap.size W4 wc) := HB3.out.trans (HB7.out.mono HB3.out.size)
      have HXD : Hid (Parts wc (.slice ap xs.length cp) xs) := hx3.below HB7.out
      have hcd : CutAt wc w.heap.size mn mx bt := HC.out.kept (Kept.of_below (p := fun _ => True) HBW.out) trivial
      have c0 := hcd.c0
      have c1 := hcd.c1
      have c2 := hcd.c2
      have lc := hcd.lt
      obtain ⟨am, cm, rfl⟩ := own_slice om
      have omc := om
      obtain ⟨i0, hi, hz0, hz1, hz2⟩ := info_parts info_str
      have HXW : Hid (Parts w (.slice ap xs.length cp) xs) := hx
      clear hx3 HB7 HB3 hcd hx
      go_wp2_with fail
      go_loopw [11, 12, 51] (fun v h i wr => ∃ k : Nat, k ≤ xs.length ∧ i = .int .i64 k ∧ h = .string (H k) ∧ wr.ownsRow wc.heap.size 9 1 v (G k).length ((G k).map Sv) ∧ Below wc.heap.size wc wr) (fun _ _ i _ => xs.length - (intOf i).toNat)
      case atStart => exact ⟨0, Nat.zero_le _, rfl, by rw [HH0.out], by rw [HG0.out]; exact World.ownsRow_nil _ _ _ _, Below.refl _ _⟩
      case round =>
        obtain ⟨k, hk, rfl, rfl, hown, hbel⟩ := hrel
        by_cases hlt : k < xs.length
        · obtain ⟨l, hGl, hcall⟩ := ef k hlt
          have HG : Hid (G (k + 1) = G k ++ l) := hGl
          have hlen := hG4 (k + 1)
          rw [hGl, List.length_append] at hlen
          rcases HXD.out.at_ with ⟨_, h0⟩ | ⟨bk, o, cap, hv, hcap, hbk, hcells⟩
          · rw [h0] at hlt; exact absurd hlt (Nat.not_lt_zero _)
          cases hv
          have hcell : wr.cell? ⟨bk, o + k, none⟩ = some (.string xs[k]) := (hbel.cell (p := ⟨bk, o + k, none⟩) hbk).trans (hcells k hlt)
          have d0 := (hbel.cell (p := ⟨w.heap.size, 0, none⟩) lc).trans c0
          have d1 := (hbel.cell (p := ⟨w.heap.size, 1, none⟩) lc).trans c1
          have d2 := (hbel.cell (p := ⟨w.heap.size, 2, none⟩) lc).trans c2
          generalize xs[k] = xk at *
          generalize hHk : H k = hh at *
          clear hHk hGl
          generalize hHn : H (k + 1) = hn1 at *
          have HH1 : Hid (H (k + 1) = hn1) := hHn
          clear hHn ef hcells
          go_wp2_with fail
          refine (hcall _).mono ?_
          rintro e w1 ⟨v1, rfl, o1, hb1⟩
          have own2 := own_below hown hb1
          have hB1 := hbel.trans (hb1.mono hbel.size)
          have hs1 := hB1.size
          clear hcall hown hbel hb1 d0 d1 d2 hcell
          rcases o1.2 with ⟨rfl, h0⟩ | ⟨g, cap1, cur, rfl, _⟩
          · have HR : Hid (w1.ownsRow wc.heap.size 9 1 u11 (G (k + 1)).length ((G (k + 1)).map Sv)) := by
              rw [HG.out, List.length_eq_zero_iff.1 h0, List.append_nil]; exact own2
            have HBR : Hid (Below wc.heap.size wc w1) := hB1
            have HO : Hid (w1.ownsRow wc.heap.size 9 1 u11 (G k).length ((G k).map Sv)) := own2
            clear hB1 own2 o1
            go_wp2_with (at_builtin; refine wpList_append_own_none rfl _ _ 24 rfl wc.heap.size 9 i0 1 Try.underlying24 hi _ _ _ rfl HO.out rfl ?_)
            go_roundw
            case rel => exact ⟨k + 1, by omega, by go_num, by rw [HH1.out], HR.out, HBR.out⟩
            case measure => simp only [intOf]; omega
          · go_wp2_with (at_builtin; refine wpList_append_own _ rfl _ _ 24 rfl wc.heap.size 9 i0 (.string ⟨#[]⟩) 1 16 Try.underlying24 hi hz0 hz1 hz2 rfl (by decide) _ _ _ rfl own2 ⟨g, 0, none⟩ l.length cap1 (l.map Sv) rfl (by simp) ?c1 ?c2 ?c3 ?c4 ?c5 ?_)
            case c1 => exact fun j u hj => World.ownsRow.cells o1 rfl j u hj
            case c2 => intro u hu; obtain ⟨p, _, rfl⟩ := List.mem_map.1 hu; rfl
            case c3 => unfold maxLen; omega
            case c4 => omega
            case c5 => exact hs1
            intro v' w2 hown2 hgrow _
            have HR : Hid (w2.ownsRow wc.heap.size 9 1 v' (G (k + 1)).length ((G (k + 1)).map Sv)) := by
              rw [HG.out, List.length_append, List.map_append]; exact hown2
            have HBR : Hid (Below wc.heap.size wc w2) := hB1.grown hgrow hs1 (fun j hj => (own2.lt j hj).1)
            clear hown2 hgrow own2 hB1 o1
            go_wp2_with fail
            go_roundw
            case rel => exact ⟨k + 1, by omega, by go_num, by rw [HH1.out], HR.out, HBR.out⟩
            case measure => simp only [intOf]; omega
        · obtain rfl : k = xs.length := by omega
          clear ef
          have om2 := own_below om hbel
          have HBE : Hid (Below w.heap.size w wr) := HB.out.trans ((HBW.out.trans (hbel.mono HBW.out.size)).mono HB.out.size)
          have hl4 := hG4 xs.length
          have hsz := hbel.size
          have hend := HEND.out
          clear HEND
          by_cases hz : H xs.length = ⟨#[]⟩
          · rw [hz]
            rw [if_pos hz] at hend
            have hgot : wr.ownsRow wc.heap.size 9 1 u11 L.length (L.map Sv) := by rw [hend]; exact hown
            clear hown hbel om hend hz omc
            go_wp2_with fail
            refine (equal_same hgot om2 hL).mono ?_
            rintro e w7 ⟨rfl, hU⟩
            clear hgot om2
            go_wp2_with fail
            go_ret
            exact ⟨rfl, HBE.out.trans (hU.mono HBE.out.size)⟩
          · rw [if_neg hz] at hend
            generalize hHe : H xs.length = he at *
            clear hHe
            have q0 : he.toList.isEmpty = false := by
              rw [Lib.toList_data, List.isEmpty_eq_false_iff]
              intro h
              apply hz
              apply ByteArray.ext
              exact Array.toList_inj.1 h
            clear om
            have HEND : Hid (L = G xs.length ++ [he.data.toList]) := hend
            clear hz hend
            go_wp2_with (at_builtin; refine wpList_append_own _ rfl _ _ 24 rfl wc.heap.size 9 i0 (.string ⟨#[]⟩) 1 16 Try.underlying24 hi hz0 hz1 hz2 rfl (by decide) _ _ _ rfl (hown.alloc _) ⟨wr.heap.size, 0, none⟩ 1 1 [.string he] rfl rfl ?c1 ?c2 ?c3 ?c4 ?c5 ?_)
            case c1 =>
              intro j u hj
              match j, hj with
              | 0, hj => simp at hj; subst hj; simp [Addr.add]
            case c2 => intro u hu; simp at hu; subst hu; rfl
            case c3 => unfold maxLen; omega
            case c4 => omega
            case c5 => simp; omega
            intro v' w1 hown1 hgrow _
            have R := own_str hown hown1 hgrow hbel (Nat.le_refl _)
            have hgot : w1.ownsRow wc.heap.size 9 1 v' L.length (L.map Sv) := by rw [HEND.out]; exact R.1
            have om3 : w1.ownsRow V0.heap.size 9 1 (.slice am L.length cm) L.length (L.map Sv) := own_below omc R.2
            have HBF : Hid (Below w.heap.size w w1) := HB.out.trans ((HBW.out.trans (R.2.mono HBW.out.size)).mono HB.out.size)
            clear R hown1 hgrow hown hbel om2 HEND omc
            obtain ⟨av, cv, rfl⟩ := own_slice hgot
            go_wp2_with fail
            refine (equal_same hgot om3 hL).mono ?_
            rintro e w7 ⟨rfl, hU⟩
            clear hgot om3
            go_wp2_with fail
            go_ret
            exact ⟨rfl, HBF.out.trans (hU.mono HBF.out.size)⟩
end Go.Proofs.Ytdalpicpkandcab
