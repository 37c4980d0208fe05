/-
  P46: what Check of package walk answers.
  P47: what Plant of package walk answers.
  P47, P48 (no Go in it): what was planted is reaped as it was.
  P47 (no Go in it): a directory's text, and the blobs of a directory in the order in which they are told; of two worlds with one root.
  P47 (no Go in it): of a world in which one file is other no more new directories come than its path has names, and no more new pieces than it has.
  P47, P49 (no Go in it): each blob is told ahead of who needs it; all but the last one are needed.
  P47, P49 (no Go in it): all blobs but the last one are needed; the root's is the last one.
  The statements' small world (no Go in it): it is right, and it is planted without an error as four blobs.
  P48: what heapOf of package walk answers, and file of its reaper.
  P48: what file of walk's reaper answers.
  The library's contracts at this program: strings_Count_one (laid by the guide's own tools, written out in plain words).
  P48: what node of walk's reaper answers.
  P48: what directory of walk's reaper answers.
  P48: what Reap of package walk answers.
  P48 (no Go in it): fine blobs, whatever their order, with all of a planted world's among them: what is reaped is the world.
  What is sure of a world that was planted without an error.
  Two items compared; slices.Equal over two rows of items: are they the same?
  The statements' small world is planted and reaped: what 'walked' answers.
  The library's contract for slices.Reverse at this program (laid by the guide's own tools, written out in plain words).
  A row of blobs cloned, and a row of one's own turned round.
  The walk of lumkeep.WalkBack: it returns true.
  Nodes handed in, read as data: opened.
-/
import Derived.Test.YtimdioacmojkeaaGreatDoorGD
import Derived.Deep.RegionWith
import Derived.Deep.Cut
import Derived.BigQuiet
import Derived.OwnWalk
import Derived.Test.YtimdioacmojkeaaGreatDoorGA
import Derived.Test.YtimdioacmojkeaaGreatDoorGB
import Derived.Test.YtimdioacmojkeaaGreatDoorGC
import Derived.Lib.Strings
import Derived.Shelf.Strings.Count
import Derived.Test.YtimdioacmojkeaaGreatDoorProg
import Derived.Laws.AppendOwn
import Derived.Deep.AppendLies
import Derived.Deep.RegionLaw
import Derived.Shelf.SlicesQ.Reverse
import Derived.Lib.SliceRun
import Derived.Laws.AppendOwnNone

namespace Go.Proofs.YtimdioacmojkeaaGreatDoor
open Go.RowKit
set_option maxRecDepth 4000

theorem info_stx : (Tryz.prog.info? 9).map (fun i => (i.zero, i.size, i.bytes)) = some (some (.string ⟨#[]⟩), 1, 16) := by kernel_rfl
theorem wErr_step {l : List Im} {j : Nat} {x : Im} (hx : l[j]? = some x) : Wk.wErrF (its (l.take j)) (its (l.drop j)) = if Wk.iErr x.it ≠ 0 then Wk.iErr x.it else if Wk.late (its (l.take j)) x.it = true then 4 else if Wk.lies (its (l.take j)) x.it = false then 9 else Wk.wErrF (its (l.take (j + 1))) (its (l.drop (j + 1))) := by
  have hlt := (List.getElem?_eq_some_iff.1 hx).1
  have e0 : its (l.drop j) = x.it :: its (l.drop (j + 1)) := by
    rw [List.drop_eq_getElem_cons hlt, (List.getElem?_eq_some_iff.1 hx).2]; rfl
  have e1 : its (l.take (j + 1)) = its (l.take j) ++ [x.it] := by
    rw [List.take_succ_eq_append_getElem hlt, (List.getElem?_eq_some_iff.1 hx).2]; simp [its]
  rw [e0, Wk.wErrF, e1]
theorem late_at {l : List Im} {j : Nat} {x y : Im} (hy : l[j]? = some y) : Wk.late (its (l.take (j + 1))) x.it = !(Nn.less y.path.data.toList x.path.data.toList).1 := by
  have hlt := (List.getElem?_eq_some_iff.1 hy).1
  have e1 : its (l.take (j + 1)) = its (l.take j) ++ [y.it] := by
    rw [List.take_succ_eq_append_getElem hlt, (List.getElem?_eq_some_iff.1 hy).2]; simp [its]
  unfold Wk.late
  rw [e1, List.getLast?_concat]
  rfl
theorem dirs_more {l : List Im} {j : Nat} {x : Im} (hx : l[j]? = some x) : Wk.dirs (its (l.take (j + 1))) = if x.kind = 2 then Wk.dirs (its (l.take j)) ++ [x.it.path] else Wk.dirs (its (l.take j)) := by
  have hlt := (List.getElem?_eq_some_iff.1 hx).1
  have e1 : its (l.take (j + 1)) = its (l.take j) ++ [x.it] := by
    rw [List.take_succ_eq_append_getElem hlt, (List.getElem?_eq_some_iff.1 hx).2]; simp [its]
  rw [e1, Wk.dirs_snoc]
  rfl
theorem cont_dirs {D : List ByteArray} {L : List Wk.Bs} (h : dl D = L) (p : Wk.Bs) : Lib.containsS D (mkB p) = decide (p ∈ L) := by
  rw [Bool.eq_iff_iff, Lib.containsS_iff, decide_eq_true_eq, ← h]
  constructor
  · intro hm
    exact List.mem_map.2 ⟨_, hm, rfl⟩
  · intro hm
    obtain ⟨b, hb, e⟩ := List.mem_map.1 hm
    have : b = mkB p := by
      rw [mkB, ← e]
    rw [← this]; exact hb

set_option maxHeartbeats 4000000 in
set_option maxRecDepth 10000 in
theorem wcheck_any (v : Value) (l : List Im) (w : World) (h : Ims w v l) (hl : l.length ≤ 140737488351232) (hok : ∀ x ∈ l, x.Ok) (hT : Tabs w) :
    Calls Tryz.prog 9 #[v] w fun e w' => e = .returned (.int .i64 (Wk.world (its l))) ∧ Below w.heap.size w w' := by
  obtain ⟨i0, hi, hz0, hz1, hz2⟩ := info_parts info_stx
  obtain ⟨a, c, rfl, hlc1, hlc2⟩ := h.slice
  by_cases h100 : 100 < l.length
  · have HE : Hid (Wk.world (its l) = 2) := by show _ = _; unfold Wk.world; rw [if_pos (by rw [its_length]; exact h100)]
    generalize l.length = n at *
    go_enter Tryz.func9, Tryz.ntmps9
    go_wp2_with fail
    go_ret
    exact ⟨by rw [HE.out]; rfl, Below.refl _ _⟩
  have HE0 : Hid (Wk.world (its l) = Wk.wErrF (its (l.take 0)) (its (l.drop 0))) := by
    show _ = _; unfold Wk.world; rw [if_neg (by rw [its_length]; exact h100)]; rfl
  obtain ⟨R, hR⟩ : ∃ R, R = Wk.world (its l) := ⟨_, rfl⟩
  rw [← hR] at HE0 ⊢
  have HX : Hid (Ims w (.slice a l.length c) l) := h
  have HK : Hid (∀ x ∈ l, x.Ok) := hok
  have HT : Hid (Tabs w) := hT
  have hl100 : l.length ≤ 100 := by omega
  obtain ⟨N, hN⟩ : ∃ N, N = l.length := ⟨_, rfl⟩
  have HN : Hid (N = l.length) := hN
  rw [← hN] at HX hl100 hlc1 hl ⊢
  have HD1 : Hid ((w.alloc (.cells #[.string ⟨#[]⟩] 9)).ownsRow w.heap.size 9 1 (.slice (some ⟨w.heap.size, 0, none⟩) 1 1) [mkB []].length ([mkB []].map Tv)) :=
    ⟨by simp, .inr ⟨w.heap.size, 1, #[.string ⟨#[]⟩], rfl, Nat.le_refl _, heap_alloc_new w _, Nat.le_refl _, by unfold maxLen; simp, rfl, rfl⟩⟩
  have HB1 : Hid (Below w.heap.size w (w.alloc (.cells #[.string ⟨#[]⟩] 9))) := (Below.refl _ w).alloc (Nat.le_refl _) _
  clear h hok hT h100 hR hN
  go_enter Tryz.func9, Tryz.ntmps9
  go_wp2_with fail
  go_loopw [3, 13] (fun vd i wr => ∃ (j : Nat) (D : List ByteArray), j ≤ N ∧ i = .int .i64 j ∧ D.length ≤ j + 1 ∧ Hid (dl D = Wk.dirs (its (l.take j))) ∧ Hid (R = Wk.wErrF (its (l.take j)) (its (l.drop j))) ∧ Hid (wr.ownsRow w.heap.size 9 1 vd D.length (D.map Tv)) ∧ Hid (Below w.heap.size w wr)) (fun _ i _ => N - (intOf i).toNat)
  case atStart => exact ⟨0, [mkB []], by omega, rfl, by simp, rfl, HE0, HD1, HB1⟩
  case round =>
    clear HE0 HD1 HB1
    obtain ⟨j, D, hj, rfl, hDj, HD, HE, HO, HB⟩ := hrel
    by_cases hlt : j < N
    · have hjl : j < l.length := by rw [← HN.out]; exact hlt
      obtain ⟨x, hx⟩ : ∃ x, l[j]? = some x := ⟨_, List.getElem?_eq_getElem hjl⟩
      have hxo := HK.out x (List.mem_of_getElem? hx)
      have hst := wErr_step hx
      have HSt : Hid (R = if Wk.iErr x.it ≠ 0 then Wk.iErr x.it else if Wk.late (its (l.take j)) x.it = true then 4 else if Wk.lies (its (l.take j)) x.it = false then 9 else Wk.wErrF (its (l.take (j + 1))) (its (l.drop (j + 1)))) := by
        show _ = _; rw [HE.out, hst]
      have HDm := dirs_more hx
      rw [← HD.out] at HDm
      have hXr := HX.out.below HB.out
      rw [HN.out] at hXr
      obtain ⟨kb, ko, rfl, hkb, x0, x1, x2, x3, x4⟩ := hXr.item j x hx
      have hci := fun W (hW : Below w.heap.size w W) => citem_any x W hxo (HT.out.below hW)
      obtain ⟨a3, c3, e3⟩ := own_form HO.out
      subst e3
      have hok1 : Wk.iErr x.it = 0 → Wk.Ok1 x.it := fun q => Wk.iErr_ok q
      have HP : Hid (Wk.iErr x.it = 0 → (∀ W, Calls Tryz.prog 27 #[.string x.path] W fun e w' => e = .returned (.string (mkB (Wk.par x.it))) ∧ w' = W) ∧ Wk.lies (its (l.take j)) x.it = decide (Wk.par x.it ∈ Wk.dirs (its (l.take j)))) := fun q =>
        ⟨fun W => parent_any x.path (Wk.par x.it) (Wk.nam x.it) W (path_parts (Wk.iErr_ok q)) (Wk.nam_slash (Wk.iErr_ok q)) (path_size (Wk.iErr_ok q) hxo.path), Wk.lies_dirs (Wk.iErr_ok q)⟩
      have HDm2 : Hid (Wk.dirs (its (l.take (j + 1))) = if x.kind = 2 then dl D ++ [x.it.path] else dl D) := HDm
      have HPt : Hid (mkB x.it.path = x.path) := rfl
      obtain ⟨WA, hWA⟩ : ∃ WA, WA = wr.alloc (.cells #[.string x.path, .int .i64 x.kind, .int .i64 x.mode, .int .i64 x.time, .string x.bytes] 46) := ⟨_, rfl⟩
      have hbA : Below wr.heap.size wr WA := by rw [hWA]; exact (Below.refl _ wr).alloc (Nat.le_refl _) _
      have HM : Hid (WA.heap[wr.heap.size]? = some (.cells #[.string x.path, .int .i64 x.kind, .int .i64 x.mode, .int .i64 x.time, .string x.bytes] 46 (0, 0))) := by rw [hWA]; exact heap_alloc_new wr _
      have HBA : Hid (Below w.heap.size w WA) := HB.out.trans (hbA.mono HB.out.size)
      have HOA : Hid (WA.ownsRow w.heap.size 9 1 (.slice a3 D.length c3) D.length (D.map Tv)) := own_below HO.out hbA
      have hciA := hci WA HBA.out
      obtain ⟨PB, hPB⟩ : ∃ PB, PB = wr.heap.size := ⟨_, rfl⟩
      have HPB : Hid (w.heap.size ≤ PB) := by show _ ≤ _; rw [hPB]; exact HB.out.size
      have HPl : Hid (x.path.size ≤ 140737488351232) := hxo.path
      rw [← hPB] at HM
      obtain ⟨DN, hDN⟩ : ∃ DN, DN = D.length := ⟨_, rfl⟩
      have HDN : Hid (DN = D.length) := hDN
      rw [← hDN] at HOA hDj ⊢
      have HHx : Hid (l[j]? = some x) := hx
      obtain ⟨xp, xk, xm, xt, xb⟩ := x
      dsimp only at *
      clear hst HDm hXr hci hbA hx hxo hok1 HE HO HB hDN
      go_wp2_with fail
      rw [← hWA]
      refine hciA.mono ?_
      rintro e w2 ⟨rfl, b2⟩
      have HB2 : Hid (Below w.heap.size w w2) := HBA.out.trans (b2.mono HBA.out.size)
      have hM2 : w2.heap[PB]? = some (.cells #[.string xp, .int .i64 xk, .int .i64 xm, .int .i64 xt, .string xb] 46 (0, 0)) := (b2.block _ (Array.getElem?_eq_some_iff.1 HM.out).1).trans HM.out
      have HM2 : Hid (w2.heap[PB]? = some (.cells #[.string xp, .int .i64 xk, .int .i64 xm, .int .i64 xt, .string xb] 46 (0, 0))) := hM2
      have HO2 : Hid (w2.ownsRow w.heap.size 9 1 (.slice a3 DN c3) DN (D.map Tv)) := own_below HOA.out b2
      obtain ⟨y0, y1, y2, y3, y4, ylt⟩ := five_at hM2
      rw [← hPB]
      clear hWA hciA b2 hM2 x0 x1 x2 x3 x4 hkb HM HOA HBA hPB
      by_cases hE : Wk.iErr (Im.it ⟨xp, xk, xm, xt, xb⟩) = 0
      case neg =>
        have HRe : Hid (R = Wk.iErr (Im.it ⟨xp, xk, xm, xt, xb⟩)) := by show _ = _; rw [HSt.out, if_pos hE]
        have hne : (Wk.iErr (Im.it ⟨xp, xk, xm, xt, xb⟩) != 0) = true := by rw [bne_iff_ne]; exact hE
        generalize Wk.iErr (Im.it ⟨xp, xk, xm, xt, xb⟩) = ER at *
        clear hE HSt HP
        go_wp2_with fail
        go_ret
        exact ⟨by rw [HRe.out]; rfl, HB2.out⟩
      obtain ⟨hpar, hlies⟩ := HP.out hE
      have HSt2 : Hid (R = if Wk.late (its (l.take j)) (Im.it ⟨xp, xk, xm, xt, xb⟩) = true then 4 else if Wk.lies (its (l.take j)) (Im.it ⟨xp, xk, xm, xt, xb⟩) = false then 9 else Wk.wErrF (its (l.take (j + 1))) (its (l.drop (j + 1)))) := by
        show _ = _; rw [HSt.out, if_neg (fun q => q hE)]
      rw [hE]
      obtain ⟨LT, hLT⟩ : ∃ LT, LT = Wk.late (its (l.take j)) (Im.it ⟨xp, xk, xm, xt, xb⟩) := ⟨_, rfl⟩
      have HLT : Hid (LT = Wk.late (its (l.take j)) (Im.it ⟨xp, xk, xm, xt, xb⟩)) := hLT
      clear HSt HP hLT hE
      go_upto_region 10 with fail
      go_cut [36] from 14 to 51 (fun y wx => y = .bool LT ∧ Hid (Below w.heap.size w wx ∧ Below w2.heap.size w2 wx))
      case first =>
        by_cases hj0 : j = 0
        · subst hj0
          have HL0 : Hid (LT = false) := by show _ = _; rw [HLT.out]; rfl
          have hd : decide ((0 : Int) > 0) = false := by decide
          go_region
          all_goals
            go_wp2_with fail
            go_meet
            exact ⟨by rw [HL0.out], HB2.out.drew, (Below.refl _ w2).drew⟩
        · obtain ⟨i, rfl⟩ : ∃ i, j = i + 1 := ⟨j - 1, by omega⟩
          have hil : i < l.length := by omega
          obtain ⟨y, hy⟩ : ∃ y, l[i]? = some y := ⟨_, List.getElem?_eq_getElem hil⟩
          have hyo := HK.out y (List.mem_of_getElem? hy)
          have hla := late_at (x := ⟨xp, xk, xm, xt, xb⟩) hy
          have hX2 := HX.out.below HB2.out
          rw [HN.out] at hX2
          obtain ⟨kb', ko', ee, hkb', u0, _⟩ := hX2.item i y hy
          cases ee
          have hbeh := fun W (hW : Below w2.heap.size w2 W) => behind_any xp y.path W HPl.out hyo.path (HT.out.below (HB2.out.trans (hW.mono HB2.out.size)))
          have HLT' : Hid (LT = Wk.late (its (l.take (i + 1))) (Im.it ⟨xp, xk, xm, xt, xb⟩)) := HLT
          rw [hla] at HLT
          dsimp only at HLT hbeh
          generalize (Nn.less y.path.data.toList xp.data.toList).1 = LS at *
          have hd : decide (((i : Int) + 1) > 0) = true := decide_eq_true (by omega)
          have hij : ((i : Int) + 1 - 1) = i := by omega
          have hgt : ((i : Int) + 1 > 0) := by omega
          have hwr : IntKind.i64.wrap (i : Int) = (i : Int) := by
            simp only [IntKind.wrap, IntKind.bits, IntKind.signed]
            simp
            omega
          have HcX : Hid (∀ W, Gw w2 W → W.cell? ⟨PB, 0, none⟩ = some (.string xp)) := fun W hW => (Below.cell hW (p := ⟨PB, 0, none⟩) ylt).trans y0
          have HcY : Hid (∀ W, Gw w2 W → W.cell? ⟨kb, ko + i * 5, none⟩ = some (.string y.path)) := fun W hW => (Below.cell hW (p := ⟨kb, ko + i * 5, none⟩) hkb').trans u0
          have hiN : (i : Int) < (N : Int) := by omega
          generalize y.path = yp at *
          clear hla hX2 hyo hy hil hj0 hjl HHx
          cases LS with
          | true =>
            have HLf : Hid (LT = false) := HLT
            refine wp_region_rel (G := Gw) (W0 := w2) Gw.refl Gw.trans (by kernel_rfl) (by kernel_rfl) (by kernel_rfl) (Below.refl _ w2).drew ?_
            refine .inl ⟨.int .i64 ((i : Int) + 1), fun v W hW hd => step_run rfl _ W (by clear hd; go_simp) rfl (Gw.refl _), ?_⟩
            simp only [Act.put, List.setIfInBounds_toArray, List.set_cons_zero, List.set_cons_succ]
            refine .inl ⟨.bool true, fun v W hW hd => step_run rfl _ W (by clear hd; have he := hgt; go_simp) rfl (Gw.refl _), ?_⟩
            simp only [Act.put, List.setIfInBounds_toArray, List.set_cons_zero, List.set_cons_succ]
            refine .inl ⟨.bool true, fun v W hW hd => step_run rfl _ W (by clear hd; go_simp) rfl (Gw.refl _), ?_⟩
            simp only [Act.put, List.setIfInBounds_toArray, List.set_cons_zero, List.set_cons_succ]
            refine .inl ⟨.pointer (some ⟨PB, 0, none⟩), fun v W hW hd => step_run rfl _ W (by clear hd; go_simp) rfl (Gw.refl _), ?_⟩
            simp only [Act.put, List.setIfInBounds_toArray, List.set_cons_zero, List.set_cons_succ]
            refine .inl ⟨.string xp, fun v W hW hd => step_run rfl _ W (by clear hd; have ce := HcX.out W hW; go_simp) rfl (Gw.refl _), ?_⟩
            simp only [Act.put, List.setIfInBounds_toArray, List.set_cons_zero, List.set_cons_succ]
            refine .inl ⟨.slice (some ⟨kb, ko, none⟩) N c, fun v W hW hd => step_run rfl _ W (by clear hd; go_simp) rfl (Gw.refl _), ?_⟩
            simp only [Act.put, List.setIfInBounds_toArray, List.set_cons_zero, List.set_cons_succ]
            refine .inl ⟨.int .i64 ((i : Int) + 1), fun v W hW hd => step_run rfl _ W (by clear hd; go_simp) rfl (Gw.refl _), ?_⟩
            simp only [Act.put, List.setIfInBounds_toArray, List.set_cons_zero, List.set_cons_succ]
            refine .inl ⟨.int .i64 (i : Int), fun v W hW hd => step_run rfl _ W (by clear hd; have he := hij; have hf := hwr; go_simp) rfl (Gw.refl _), ?_⟩
            simp only [Act.put, List.setIfInBounds_toArray, List.set_cons_zero, List.set_cons_succ]
            refine .inl ⟨.pointer (some ⟨kb, ko + i * 5, none⟩), fun v W hW hd => step_run rfl _ W (by clear hd; go_simp) rfl (Gw.refl _), ?_⟩
            simp only [Act.put, List.setIfInBounds_toArray, List.set_cons_zero, List.set_cons_succ]
            refine .inl ⟨.pointer (some ⟨kb, ko + i * 5, none⟩), fun v W hW hd => step_run rfl _ W (by clear hd; go_simp) rfl (Gw.refl _), ?_⟩
            simp only [Act.put, List.setIfInBounds_toArray, List.set_cons_zero, List.set_cons_succ]
            refine .inl ⟨.string yp, fun v W hW hd => step_run rfl _ W (by clear hd; have ce := HcY.out W hW; go_simp) rfl (Gw.refl _), ?_⟩
            simp only [Act.put, List.setIfInBounds_toArray, List.set_cons_zero, List.set_cons_succ]
            refine .inl ⟨.bool true, fun v W hW hd => step_call rfl 25 #[.string xp, .string yp] (by clear hd; go_simp) ((hbeh W hW).mono fun e w' h => ⟨_, h.1, rfl, h.2⟩), ?_⟩
            simp only [Act.put, List.setIfInBounds_toArray, List.set_cons_zero, List.set_cons_succ]
            refine .inl ⟨.bool false, fun v W hW hd => step_run rfl _ W (by clear hd; go_simp) rfl (Gw.refl _), ?_⟩
            simp only [Act.put, List.setIfInBounds_toArray, List.set_cons_zero, List.set_cons_succ]
            refine .inl ⟨.bool false, fun v W hW hd => step_run rfl _ W (by clear hd; go_simp) rfl (Gw.refl _), ?_⟩
            simp only [Act.put, List.setIfInBounds_toArray, List.set_cons_zero, List.set_cons_succ]
            intro v w3 hW3 hV
            clear hV
            have b3 : Below w2.heap.size w2 w3 := hW3
            clear hW3
            go_wp2_with fail
            go_meet
            exact ⟨by rw [HLf.out], HB2.out.trans (b3.mono HB2.out.size), b3⟩
          | false =>
            have HLf : Hid (LT = true) := HLT
            refine wp_region_rel (G := Gw) (W0 := w2) Gw.refl Gw.trans (by kernel_rfl) (by kernel_rfl) (by kernel_rfl) (Below.refl _ w2).drew ?_
            refine .inl ⟨.int .i64 ((i : Int) + 1), fun v W hW hd => step_run rfl _ W (by clear hd; go_simp) rfl (Gw.refl _), ?_⟩
            simp only [Act.put, List.setIfInBounds_toArray, List.set_cons_zero, List.set_cons_succ]
            refine .inl ⟨.bool true, fun v W hW hd => step_run rfl _ W (by clear hd; have he := hgt; go_simp) rfl (Gw.refl _), ?_⟩
            simp only [Act.put, List.setIfInBounds_toArray, List.set_cons_zero, List.set_cons_succ]
            refine .inl ⟨.bool true, fun v W hW hd => step_run rfl _ W (by clear hd; go_simp) rfl (Gw.refl _), ?_⟩
            simp only [Act.put, List.setIfInBounds_toArray, List.set_cons_zero, List.set_cons_succ]
            refine .inl ⟨.pointer (some ⟨PB, 0, none⟩), fun v W hW hd => step_run rfl _ W (by clear hd; go_simp) rfl (Gw.refl _), ?_⟩
            simp only [Act.put, List.setIfInBounds_toArray, List.set_cons_zero, List.set_cons_succ]
            refine .inl ⟨.string xp, fun v W hW hd => step_run rfl _ W (by clear hd; have ce := HcX.out W hW; go_simp) rfl (Gw.refl _), ?_⟩
            simp only [Act.put, List.setIfInBounds_toArray, List.set_cons_zero, List.set_cons_succ]
            refine .inl ⟨.slice (some ⟨kb, ko, none⟩) N c, fun v W hW hd => step_run rfl _ W (by clear hd; go_simp) rfl (Gw.refl _), ?_⟩
            simp only [Act.put, List.setIfInBounds_toArray, List.set_cons_zero, List.set_cons_succ]
            refine .inl ⟨.int .i64 ((i : Int) + 1), fun v W hW hd => step_run rfl _ W (by clear hd; go_simp) rfl (Gw.refl _), ?_⟩
            simp only [Act.put, List.setIfInBounds_toArray, List.set_cons_zero, List.set_cons_succ]
            refine .inl ⟨.int .i64 (i : Int), fun v W hW hd => step_run rfl _ W (by clear hd; have he := hij; have hf := hwr; go_simp) rfl (Gw.refl _), ?_⟩
            simp only [Act.put, List.setIfInBounds_toArray, List.set_cons_zero, List.set_cons_succ]
            refine .inl ⟨.pointer (some ⟨kb, ko + i * 5, none⟩), fun v W hW hd => step_run rfl _ W (by clear hd; go_simp) rfl (Gw.refl _), ?_⟩
            simp only [Act.put, List.setIfInBounds_toArray, List.set_cons_zero, List.set_cons_succ]
            refine .inl ⟨.pointer (some ⟨kb, ko + i * 5, none⟩), fun v W hW hd => step_run rfl _ W (by clear hd; go_simp) rfl (Gw.refl _), ?_⟩
            simp only [Act.put, List.setIfInBounds_toArray, List.set_cons_zero, List.set_cons_succ]
            refine .inl ⟨.string yp, fun v W hW hd => step_run rfl _ W (by clear hd; have ce := HcY.out W hW; go_simp) rfl (Gw.refl _), ?_⟩
            simp only [Act.put, List.setIfInBounds_toArray, List.set_cons_zero, List.set_cons_succ]
            refine .inl ⟨.bool false, fun v W hW hd => step_call rfl 25 #[.string xp, .string yp] (by clear hd; go_simp) ((hbeh W hW).mono fun e w' h => ⟨_, h.1, rfl, h.2⟩), ?_⟩
            simp only [Act.put, List.setIfInBounds_toArray, List.set_cons_zero, List.set_cons_succ]
            refine .inl ⟨.bool true, fun v W hW hd => step_run rfl _ W (by clear hd; go_simp) rfl (Gw.refl _), ?_⟩
            simp only [Act.put, List.setIfInBounds_toArray, List.set_cons_zero, List.set_cons_succ]
            refine .inl ⟨.bool true, fun v W hW hd => step_run rfl _ W (by clear hd; go_simp) rfl (Gw.refl _), ?_⟩
            simp only [Act.put, List.setIfInBounds_toArray, List.set_cons_zero, List.set_cons_succ]
            intro v w3 hW3 hV
            clear hV
            have b3 : Below w2.heap.size w2 w3 := hW3
            clear hW3
            go_wp2_with fail
            go_meet
            exact ⟨by rw [HLf.out], HB2.out.trans (b3.mono HB2.out.size), b3⟩
      case rest =>
      obtain ⟨rfl, hbb⟩ := hcut
      have HB3 : Hid (Below w.heap.size w wc) := hbb.out.1
      have HM3 : Hid (wc.heap[PB]? = some (.cells #[.string xp, .int .i64 xk, .int .i64 xm, .int .i64 xt, .string xb] 46 (0, 0))) := (hbb.out.2.block _ (Array.getElem?_eq_some_iff.1 HM2.out).1).trans HM2.out
      have HO3 : Hid (wc.ownsRow w.heap.size 9 1 (.slice a3 DN c3) DN (D.map Tv)) := own_below HO2.out hbb.out.2
      clear HB2 HM2 HO2 hbb y0 y1 y2 y3 y4 ylt
      obtain ⟨y0, y1, y2, y3, y4, ylt⟩ := five_at HM3.out
      have hpw : PB < wc.heap.size := ylt
      cases LT with
      | true =>
        have HRe : Hid (R = 4) := by show _ = _; rw [HSt2.out, ← HLT.out]; rfl
        clear HSt2 hlies hpar
        go_wp2_with fail
        go_ret
        exact ⟨by rw [HRe.out]; rfl, HB3.out⟩
      | false =>
      have HSt3 : Hid (R = if decide (Wk.par (Im.it ⟨xp, xk, xm, xt, xb⟩) ∈ dl D) = false then 9 else Wk.wErrF (its (l.take (j + 1))) (its (l.drop (j + 1)))) := by
        show _ = _
        rw [HSt2.out, ← HLT.out, if_neg (by decide), hlies, HD.out]
      have hcont : Calls Tryz.prog 26 #[.slice a3 DN c3, .string (mkB (Wk.par (Im.it ⟨xp, xk, xm, xt, xb⟩)))] wc fun e w' => e = .returned (.bool (decide (Wk.par (Im.it ⟨xp, xk, xm, xt, xb⟩) ∈ dl D))) ∧ w' = wc := by
        have hx := Tx.of_own (w := wc) (l := D) (v := .slice a3 DN c3) (base := w.heap.size) (by rw [← HDN.out]; exact HO3.out)
        by_cases hD0 : D = []
        · subst hD0
          have : DN = 0 := HDN.out
          subst this
          exact Tryz.slices_Contains_string_empty a3 c3 _ wc
        · have hpos : 0 < D.length := List.length_pos_iff.2 hD0
          obtain ⟨bk, o, rfl, hbk, _⟩ := hx.get 0 hpos
          have := Tryz.slices_Contains_string bk o DN c3 D (mkB (Wk.par (Im.it ⟨xp, xk, xm, xt, xb⟩))) wc (by rw [HDN.out]; exact Nat.le_refl _) (by omega) (fun q hq => by
            obtain ⟨bk', o', ee, _, hc⟩ := hx.get q hq
            cases ee
            exact hc)
          rw [HDN.out, List.take_of_length_le (Nat.le_refl _), ← HDN.out, cont_dirs rfl] at this
          exact this
      generalize mkB (Wk.par (Im.it ⟨xp, xk, xm, xt, xb⟩)) = PP at *
      generalize decide (Wk.par (Im.it ⟨xp, xk, xm, xt, xb⟩) ∈ dl D) = CT at *
      clear HSt2 hlies HLT
      cases CT with
      | false =>
        have HRe : Hid (R = 9) := by show _ = _; rw [HSt3.out]; rfl
        clear HSt3
        go_wp2_with fail
        refine (hpar _).mono ?_
        rintro e u ⟨rfl, hu⟩
        obtain rfl := hu.symm
        clear hu
        go_wp2_with fail
        refine hcont.mono ?_
        rintro e u ⟨rfl, hu⟩
        obtain rfl := hu.symm
        clear hu
        go_wp2_with fail
        go_ret
        exact ⟨by rw [HRe.out]; rfl, HB3.out⟩
      | true =>
        have HRn : Hid (R = Wk.wErrF (its (l.take (j + 1))) (its (l.drop (j + 1)))) := by show _ = _; rw [HSt3.out]; rfl
        clear HSt3
        go_wp2_with fail
        refine (hpar _).mono ?_
        rintro e u ⟨rfl, hu⟩
        obtain rfl := hu.symm
        clear hu hpar
        go_wp2_with fail
        refine hcont.mono ?_
        rintro e u ⟨rfl, hu⟩
        obtain rfl := hu.symm
        clear hu hcont
        by_cases hk2 : xk = 2
        · have HDn : Hid (dl (D ++ [xp]) = Wk.dirs (its (l.take (j + 1)))) := by
            show _ = _
            rw [HDm2.out, if_pos hk2]
            show (D ++ [xp]).map _ = D.map _ ++ _
            rw [List.map_append]; rfl
          have hown := HO3.out
          have hws := HB3.out.size
          subst hk2
          go_wp2_with (at_builtin; refine wpList_append_own _ rfl (.tmp 46) (.tmp 49) 62 rfl w.heap.size 9 i0 (.string ⟨#[]⟩) 1 16 Tryz.underlying62 hi hz0 hz1 hz2 rfl (by decide) _ _ _ rfl (hown.alloc _) ⟨wc.heap.size, 0, none⟩ 1 1 [.string xp] rfl rfl ?c1 ?c2 ?c3 ?c4 ?c5 ?_)
          case c1 => intro q u hq; match q, hq with | 0, hq => simp at hq; subst hq; simp [Addr.add]
          case c2 => simp [Value.oneCell']
          case c3 => unfold maxLen; omega
          case c4 => omega
          case c5 => simp; omega
          intro v1 w5 hown5 hgrow _
          have hB5 : Below w.heap.size w w5 := (HB3.out.alloc hws _).grown hgrow (by rw [World.size_alloc]; omega) fun q hq => (hown.lt q hq).1
          have HB5 : Hid (Below w.heap.size w w5) := hB5
          have HO5 : Hid (w5.ownsRow w.heap.size 9 1 v1 (D ++ [xp]).length ((D ++ [xp]).map Tv)) := by
            show World.ownsRow _ _ _ _ _ _ _
            rw [List.length_append, ← HDN.out, List.map_append]
            exact hown5
          have hD5 : (D ++ [xp]).length ≤ j + 1 + 1 := by rw [List.length_append, ← HDN.out]; simp; omega
          clear hown5 hgrow hown hB5
          go_wp2_with fail
          go_roundw
          case measure => simp only [intOf]; omega
          case rel => exact ⟨j + 1, D ++ [xp], by omega, by go_num, hD5, HDn, HRn, HO5, HB5⟩
        · have HDn : Hid (dl D = Wk.dirs (its (l.take (j + 1)))) := by show _ = _; rw [HDm2.out, if_neg hk2]
          have hk2' : (xk == 2) = false := beq_eq_false_iff_ne.2 hk2
          have hD5 : D.length ≤ j + 1 + 1 := by rw [← HDN.out]; omega
          have HO5 : Hid (wc.ownsRow w.heap.size 9 1 (.slice a3 DN c3) D.length (D.map Tv)) := by rw [← HDN.out]; exact HO3.out
          clear hk2
          go_wp2_with fail
          go_roundw
          case measure => simp only [intOf]; omega
          case rel => exact ⟨j + 1, D, by omega, by go_num, hD5, HDn, HRn, HO5, HB3⟩
    · obtain rfl : j = N := by omega
      have HRe : Hid (R = 0) := by
        have e : l.drop j = [] := by rw [HN.out]; exact List.drop_of_length_le (Nat.le_refl _)
        show _ = _
        rw [HE.out, e]; rfl
      clear HE
      go_wp2_with fail
      go_ret
      exact ⟨by rw [HRe.out]; rfl, HB.out⟩
end Go.Proofs.YtimdioacmojkeaaGreatDoor

namespace Go.Proofs.YtimdioacmojkeaaGreatDoor
open Go.RowKit
set_option maxRecDepth 4000
open Nn (Name)

theorem dir_all {base b m : Nat} {fx mn mx bt : Int} {W0 : List Im} (hg : Gd fx mn mx bt W0) : ∀ k, 1 ≤ k → DirOk base b m fx mn mx bt W0 k
  | 0, h => by omega
  | k + 1, _ => dir_step hg k fun h => dir_all hg k h
/-- what Plant tells, in plain words -/
def plantP (fx mn mx bt : Int) (l : List Wk.It) : List Pk.Bl × Wk.Bs × Int :=
  if wayN fx mn mx bt ≠ 0 then ([], [], wayN fx mn mx bt) else if Wk.world l ≠ 0 then ([], [], Wk.world l) else Wk.plantDir (cutF fx mn mx bt) l 9 [] []
theorem dI_all {l : List Im} (h : Wk.world (its l) = 0) : dI l 9 [] = l := by
  obtain ⟨_, hr⟩ := Wk.world_ok h
  have hs : Wk.Sorted (fun x : Im => x.it.nms) l := by
    have := hr.sorted
    unfold Wk.Sorted its at this
    rw [List.pairwise_map] at this
    exact this
  have hc : Wk.Closed (fun x : Im => x.it.nms) (fun x => x.it.dir) l := fun x hx => by
    obtain ⟨c1, c2⟩ := hr.closed _ (List.mem_map_of_mem (f := Im.it) hx)
    refine ⟨c1, c2.imp id fun ⟨y, hy, e1, e2⟩ => ?_⟩
    obtain ⟨z, hz, rfl⟩ := List.mem_map.1 hy
    exact ⟨z, hz, e1, e2⟩
  refine Wk.dfs_all hs hc 9 fun x hx => ?_
  have := Wk.names_few (Wk.iErr_ok (hr.each _ (List.mem_map_of_mem (f := Im.it) hx)))
  omega
/-- what Plant answers -/
def PlOut (fx mn mx bt : Int) (l : List Im) (w : World) (e : Ending) (w' : World) : Prop :=
  ∃ v id, e = .returned (.tuple #[v, idV id, .int .i64 (plantP fx mn mx bt (its l)).2.2]) ∧ id.length = 8 ∧ Below w.heap.size w w' ∧ ((plantP fx mn mx bt (its l)).2.2 ≠ 0 → v = .slice none 0 0 ∧ id = List.replicate 8 0) ∧
    ((plantP fx mn mx bt (its l)).2.2 = 0 → ∃ bs, pl bs = (plantP fx mn mx bt (its l)).1 ∧ id = (plantP fx mn mx bt (its l)).2.1 ∧ w'.ownsRow w.heap.size 37 2 v bs.length (rowR blC bs) ∧ bs.length ≤ 1000000)

set_option maxHeartbeats 4000000 in
set_option maxRecDepth 10000 in
theorem plant_any (fx mn mx bt : Int) (v : Value) (l : List Im) (w : World) (h : Ims w v l) (hl : l.length ≤ 140737488351232) (hok : ∀ x ∈ l, x.Ok) (hT : Tabs w) :
    Calls Tryz.prog 7 #[wayV fx mn mx bt, v] w (PlOut fx mn mx bt l w) := by
  unfold PlOut
  obtain ⟨P, hP⟩ : ∃ P, P = plantP fx mn mx bt (its l) := ⟨_, rfl⟩
  rw [← hP]
  have HP : Hid (P = if wayN fx mn mx bt ≠ 0 then ([], [], wayN fx mn mx bt) else if Wk.world (its l) ≠ 0 then ([], [], Wk.world (its l)) else Wk.plantDir (cutF fx mn mx bt) (its l) 9 [] []) := hP
  obtain ⟨a, c, rfl, hlc1, hlc2⟩ := h.slice
  obtain ⟨W2, hW2⟩ : ∃ W2, W2 = (w.alloc (.cells #[.int .i64 fx, .int .i64 mn, .int .i64 mx, .int .i64 bt] 25)).alloc (.cells #[.int .u8 0, .int .u8 0, .int .u8 0, .int .u8 0, .int .u8 0, .int .u8 0, .int .u8 0, .int .u8 0] 29) := ⟨_, rfl⟩
  obtain ⟨t1, t2, t3, t4⟩ := two_new w (.cells #[.int .i64 fx, .int .i64 mn, .int .i64 mx, .int .i64 bt] 25) (.cells #[.int .u8 0, .int .u8 0, .int .u8 0, .int .u8 0, .int .u8 0, .int .u8 0, .int .u8 0, .int .u8 0] 29)
  rw [← hW2] at t1 t2 t3 t4
  have HB2 : Hid (Below w.heap.size w W2) := t4
  have HS2 : Hid (W2.heap.size = w.heap.size + 2) := t3
  have HI2 : Hid (W2.heap[w.heap.size + 1]? = some (.cells Z8 29 (0, 0))) := t2
  have HY2 : Hid (W2.heap[w.heap.size]? = some (.cells #[.int .i64 fx, .int .i64 mn, .int .i64 mx, .int .i64 bt] 25 (0, 0))) := t1
  have HX : Hid (Ims w (.slice a l.length c) l) := h
  have HVb : Hid (∀ a' n c', Value.slice a l.length c = .slice (some a') n c' → l ≠ [] → a'.block < w.heap.size) := fun a' n c' e hl0 => by
    rcases h.at_ with ⟨_, e2⟩ | ⟨bk, o, cap, e2, h3, _⟩
    · exact absurd e2 hl0
    · rw [e2] at e; cases e; exact h3
  have HK : Hid (∀ x ∈ l, x.Ok) := hok
  have HT : Hid (Tabs w) := hT
  have hway := wayok_any fx mn mx bt W2
  have hchk := fun W (hW : Below w.heap.size w W) => wcheck_any _ l W (HX.out.below hW) hl HK.out (HT.out.below hW)
  obtain ⟨c0, c1, c2, c3⟩ : W2.cell? ⟨w.heap.size, 0, none⟩ = some (.int .i64 fx) ∧ W2.cell? ⟨w.heap.size, 1, none⟩ = some (.int .i64 mn) ∧ W2.cell? ⟨w.heap.size, 2, none⟩ = some (.int .i64 mx) ∧ W2.cell? ⟨w.heap.size, 3, none⟩ = some (.int .i64 bt) := by
    refine ⟨?_, ?_, ?_, ?_⟩ <;> simp [World.cell?, t1]
  obtain ⟨LN, hLN⟩ : ∃ LN, LN = l.length := ⟨_, rfl⟩
  have HLN : Hid (LN = l.length) := hLN
  rw [← hLN] at HX hchk HVb ⊢
  clear hP h hok hT t1 t2 t3 t4 hLN hlc1 hlc2 hl
  go_enter Tryz.func7, Tryz.ntmps7
  go_upto_region 1 with fail
  rw [← hW2]
  clear hW2
  go_wp2_with fail
  refine hway.mono ?_
  rintro e w3 ⟨rfl, b3⟩
  have HB3 : Hid (Below w.heap.size w w3) := HB2.out.trans (b3.mono HB2.out.size)
  have hI3 : w3.heap[w.heap.size + 1]? = some (.cells Z8 29 (0, 0)) := (b3.block _ (Array.getElem?_eq_some_iff.1 HI2.out).1).trans HI2.out
  have HI3 : Hid (w3.heap[w.heap.size + 1]? = some (.cells Z8 29 (0, 0))) := hI3
  have HY3 : Hid (w3.heap[w.heap.size]? = some (.cells #[.int .i64 fx, .int .i64 mn, .int .i64 mx, .int .i64 bt] 25 (0, 0))) := (b3.block _ (Array.getElem?_eq_some_iff.1 HY2.out).1).trans HY2.out
  clear hway b3 c0 c1 c2 c3
  by_cases hE : wayN fx mn mx bt = 0
  case neg =>
    have hRe : P = ([], [], wayN fx mn mx bt) := by rw [HP.out, if_pos hE]
    obtain ⟨ER, hER⟩ : ∃ ER, wayN fx mn mx bt = ER := ⟨_, rfl⟩
    rw [hER] at hRe hE ⊢
    clear HP
    subst hRe
    have hne : (ER != 0) = true := by rw [bne_iff_ne]; exact hE
    have HE : Hid (ER ≠ 0) := hE
    obtain ⟨z0, z1, z2, z3, z4, z5, z6, z7⟩ := I8.cells (b0 := 0) (b1 := 0) (b2 := 0) (b3 := 0) (b4 := 0) (b5 := 0) (b6 := 0) (b7 := 0) (I8.zero hI3)
    obtain ⟨f0, f1, f2, f3, f4, f5, f6, f7⟩ := (I8.zero hI3).free
    have HB9 : Hid (Below w.heap.size w (set8 w3 (w.heap.size + 1) 0 0 0 0 0 0 0 0)) := below_set8 HB3.out (by omega) _ _ _ _ _ _ _ _
    clear hER hE hchk hI3
    go_wp2_with fail
    refine bodyPost_ret (v := .tuple #[.slice none 0 0, .agg #[B 0, B 0, B 0, B 0, B 0, B 0, B 0, B 0], .int .i64 ER]) ?_ rfl ⟨_, List.replicate 8 0, rfl, rfl, HB9.out, fun _ => ⟨rfl, rfl⟩, fun e => absurd e HE.out⟩
    have hres : Tryz.f7.results = #[.tmp 4, .cell 5 29, .tmp 6] := by kernel_rfl
    simp only [results, hres]
    go_simp
    rfl
  have HWy : Hid (wayN fx mn mx bt = 0) := hE
  have HP2 : Hid (P = if Wk.world (its l) ≠ 0 then ([], [], Wk.world (its l)) else Wk.plantDir (cutF fx mn mx bt) (its l) 9 [] []) := by show _ = _; rw [HP.out, if_neg (fun q => q hE)]
  rw [hE]
  clear HP hE hI3
  go_wp2_with fail
  refine (hchk w3 HB3.out).mono ?_
  rintro e w4 ⟨rfl, b4⟩
  have HB4 : Hid (Below w.heap.size w w4) := HB3.out.trans (b4.mono HB3.out.size)
  have hI4 : w4.heap[w.heap.size + 1]? = some (.cells Z8 29 (0, 0)) := (b4.block _ (Array.getElem?_eq_some_iff.1 HI3.out).1).trans HI3.out
  have HI4 : Hid (w4.heap[w.heap.size + 1]? = some (.cells Z8 29 (0, 0))) := hI4
  have hY4 : w4.heap[w.heap.size]? = some (.cells #[.int .i64 fx, .int .i64 mn, .int .i64 mx, .int .i64 bt] 25 (0, 0)) := (b4.block _ (Array.getElem?_eq_some_iff.1 HY3.out).1).trans HY3.out
  clear hchk b4
  by_cases hE : Wk.world (its l) = 0
  case neg =>
    have hRe : P = ([], [], Wk.world (its l)) := by rw [HP2.out, if_pos hE]
    obtain ⟨ER, hER⟩ : ∃ ER, Wk.world (its l) = ER := ⟨_, rfl⟩
    rw [hER] at hRe hE ⊢
    clear HP2
    subst hRe
    have hne : (ER != 0) = true := by rw [bne_iff_ne]; exact hE
    have HE : Hid (ER ≠ 0) := hE
    obtain ⟨z0, z1, z2, z3, z4, z5, z6, z7⟩ := I8.cells (b0 := 0) (b1 := 0) (b2 := 0) (b3 := 0) (b4 := 0) (b5 := 0) (b6 := 0) (b7 := 0) (I8.zero hI4)
    obtain ⟨f0, f1, f2, f3, f4, f5, f6, f7⟩ := (I8.zero hI4).free
    have HB9 : Hid (Below w.heap.size w (set8 w4 (w.heap.size + 1) 0 0 0 0 0 0 0 0)) := below_set8 HB4.out (by omega) _ _ _ _ _ _ _ _
    clear hER hE hI4
    go_wp2_with fail
    refine bodyPost_ret (v := .tuple #[.slice none 0 0, .agg #[B 0, B 0, B 0, B 0, B 0, B 0, B 0, B 0], .int .i64 ER]) ?_ rfl ⟨_, List.replicate 8 0, rfl, rfl, HB9.out, fun _ => ⟨rfl, rfl⟩, fun e => absurd e HE.out⟩
    have hres : Tryz.f7.results = #[.tmp 4, .cell 5 29, .tmp 6] := by kernel_rfl
    simp only [results, hres]
    go_simp
    rfl
  have HP3 : Hid (P = Wk.plantDir (cutF fx mn mx bt) (its l) 9 [] []) := by show _ = _; rw [HP2.out, if_neg (fun q => q hE)]
  obtain ⟨hw100, hright⟩ := Wk.world_ok hE
  rw [its_length] at hw100
  have HAll : Hid (dI l 9 [] = l) := dI_all hE
  have hgd : Gd fx mn mx bt l := ⟨hright, HK.out, HWy.out⟩
  have hmk := run_makeMap (P := Tryz.prog) 57 w4
  obtain ⟨base, hbase⟩ : ∃ base, base = w4.heap.size := ⟨_, rfl⟩
  obtain ⟨W6, hW6⟩ : ∃ W6, W6 = (w4.alloc (.map #[] 0)).alloc (.cells #[.int .i64 fx, .int .i64 mn, .int .i64 mx, .int .i64 bt, .slice a LN c, .map (some w4.heap.size), .slice none 0 0] 59) := ⟨_, rfl⟩
  obtain ⟨t1, t2, t3, t4⟩ := two_new w4 (.map #[] 0) (.cells #[.int .i64 fx, .int .i64 mn, .int .i64 mx, .int .i64 bt, .slice a LN c, .map (some w4.heap.size), .slice none 0 0] 59)
  rw [← hW6] at t1 t2 t3 t4
  have hws : w.heap.size ≤ w4.heap.size := HB4.out.size
  have hQ6 : Pq base (w4.heap.size + 1) w4.heap.size fx mn mx bt 0 W6 (dI l 9 [] ++ []) [] := by
    rw [List.append_nil, HAll.out]
    refine ⟨Nat.le_refl _, 0, Nat.le_refl _, ⟨⟨_, _, t2, (HX.out.below HB4.out).below t4, fun a' n c' e hl0 => ?_, World.ownsRow_nil _ _ _ _⟩, ?_, by omega, by omega⟩⟩
    · have := HVb.out a' n c' e hl0
      omega
    · have hm0 := Mp.new w4
      have hb : Below (w4.alloc (.map #[] 0)).heap.size (w4.alloc (.map #[] 0)) W6 := by rw [hW6]; exact (Below.refl _ _).alloc (Nat.le_refl _) _
      exact hm0.below hb
  have hdir := dir_all hgd 9 (by omega) [] [] [] 0 W6 (by simp) (fun _ q => absurd q List.not_mem_nil) (fun _ q => absurd q List.not_mem_nil) (fun _ q => by simp at q) (by rw [HAll.out]; omega) hQ6 (fun W hW => HT.out.below (HB4.out.trans ((t4.mono (Nat.le_refl _)).trans (hW.mono (by omega)) |>.mono hws))) P HP3.out
  rw [HAll.out] at hdir
  have hdir' : Calls Tryz.prog 22 #[.pointer (some ⟨w4.heap.size + 1, 0, none⟩), .string ⟨#[]⟩] W6 fun e w' => ∃ id, e = .returned (.tuple #[idV id, .int .i64 P.2.2]) ∧ id.length = 8 ∧ Pf base W6 w' ∧ (P.2.2 = 0 → id = P.2.1 ∧ ∃ bs', pl bs' = P.1 ∧ Pq base (w4.heap.size + 1) w4.heap.size fx mn mx bt (0 + 300 * l.length + 1) w' [] bs') := hdir
  have HB6 : Hid (Below w.heap.size w W6) := HB4.out.trans (t4.mono hws)
  have HI6 : Hid (W6.heap[w.heap.size + 1]? = some (.cells Z8 29 (0, 0))) := (t4.block _ (Array.getElem?_eq_some_iff.1 HI4.out).1).trans HI4.out
  have HBs : Hid (base = w4.heap.size ∧ l.length ≤ 100 ∧ w.heap.size + 2 ≤ base) := ⟨hbase, hw100, by have := (Array.getElem?_eq_some_iff.1 hI4).1; omega⟩
  obtain ⟨c0, c1, c2, c3⟩ : w4.cell? ⟨w.heap.size, 0, none⟩ = some (.int .i64 fx) ∧ w4.cell? ⟨w.heap.size, 1, none⟩ = some (.int .i64 mn) ∧ w4.cell? ⟨w.heap.size, 2, none⟩ = some (.int .i64 mx) ∧ w4.cell? ⟨w.heap.size, 3, none⟩ = some (.int .i64 bt) := by
    refine ⟨?_, ?_, ?_, ?_⟩ <;> simp [World.cell?, hY4]
  have hy4 : w.heap.size < w4.heap.size := (Array.getElem?_eq_some_iff.1 hY4).1
  rw [hE]
  clear hdir hQ6 t1 t2 t3 t4 hgd HP2 hright hw100 hE hI4 hY4 hbase
  go_upto_region 8 with fail
  rw [← hW6]
  clear hW6 c0 c1 c2 c3 hmk
  go_wp2_with fail
  refine hdir'.mono ?_
  rintro e w7 ⟨id, rfl, hid, f7, hz⟩
  obtain ⟨b0, b1, b2, b3, b4, b5, b6, b7, rfl⟩ := eight id hid
  have eV : idV [b0, b1, b2, b3, b4, b5, b6, b7] = .agg #[.int .u8 (b0.toNat : Int), .int .u8 (b1.toNat : Int), .int .u8 (b2.toNat : Int), .int .u8 (b3.toNat : Int), .int .u8 (b4.toNat : Int), .int .u8 (b5.toNat : Int), .int .u8 (b6.toNat : Int), .int .u8 (b7.toNat : Int)] := rfl
  rw [eV]
  have HZ : Hid (P.2.2 = 0 → [b0, b1, b2, b3, b4, b5, b6, b7] = P.2.1 ∧ ∃ bs', pl bs' = P.1 ∧ Pq base (w4.heap.size + 1) w4.heap.size fx mn mx bt (0 + 300 * l.length + 1) w7 [] bs') := hz
  have hI7 : w7.heap[w.heap.size + 1]? = some (.cells Z8 29 (0, 0)) := f7.cells HI6.out (by decide) (by decide)
  have HB7 : Hid (Below w.heap.size w w7) := HB6.out.trans (f7.low.mono (by have := HBs.out; omega))
  have HI7 : Hid (w7.heap[w.heap.size + 1]? = some (.cells Z8 29 (0, 0))) := hI7
  have hw7 : w.heap.size + 1 < w7.heap.size := (Array.getElem?_eq_some_iff.1 hI7).1
  clear hdir' f7 eV hid
  by_cases hE : P.2.2 = 0
  case neg =>
    obtain ⟨P1, P2, ER⟩ := P
    dsimp only at hE hz ⊢
    have hne : (ER != 0) = true := by rw [bne_iff_ne]; exact hE
    have HE : Hid (ER ≠ 0) := hE
    obtain ⟨z0, z1, z2, z3, z4, z5, z6, z7⟩ := I8.cells (b0 := 0) (b1 := 0) (b2 := 0) (b3 := 0) (b4 := 0) (b5 := 0) (b6 := 0) (b7 := 0) (I8.zero hI7)
    obtain ⟨f0, f1, f2, f3, f4, f5, f6, f7⟩ := (I8.zero hI7).free
    have HB9 : Hid (Below w.heap.size w ((set8 w7 (w.heap.size + 1) 0 0 0 0 0 0 0 0).alloc (.cells #[.int .u8 (b0.toNat : Int), .int .u8 (b1.toNat : Int), .int .u8 (b2.toNat : Int), .int .u8 (b3.toNat : Int), .int .u8 (b4.toNat : Int), .int .u8 (b5.toNat : Int), .int .u8 (b6.toNat : Int), .int .u8 (b7.toNat : Int)] 29))) := by
      have hb := below_set8 HB7.out (Nat.le_succ _) 0 0 0 0 0 0 0 0
      exact hb.alloc hb.size _
    clear hE hz hI7
    go_wp2_with fail
    refine bodyPost_ret (v := .tuple #[.slice none 0 0, .agg #[B 0, B 0, B 0, B 0, B 0, B 0, B 0, B 0], .int .i64 ER]) ?_ rfl ⟨_, List.replicate 8 0, rfl, rfl, HB9.out, fun _ => ⟨rfl, rfl⟩, fun e => absurd e HE.out⟩
    have hres : Tryz.f7.results = #[.tmp 4, .cell 5 29, .tmp 6] := by kernel_rfl
    simp only [results, hres]
    go_simp
    rfl
  obtain ⟨hid, bs', hb1, hb2⟩ := hz hE
  obtain ⟨hq1, nq, hq2, ⟨⟨lv, bv, p1, p2, p3, p4⟩, _, _, _⟩⟩ := hb2
  obtain ⟨d0, d1, d2, d3, d4, d5, d6, dlt⟩ := sev_at p1
  obtain ⟨ba, bc, ebv⟩ := own_form p4
  subst ebv
  obtain ⟨z0, z1, z2, z3, z4, z5, z6, z7⟩ := I8.cells (b0 := 0) (b1 := 0) (b2 := 0) (b3 := 0) (b4 := 0) (b5 := 0) (b6 := 0) (b7 := 0) (I8.zero hI7)
  obtain ⟨f0, f1, f2, f3, f4, f5, f6, f7⟩ := (I8.zero hI7).free
  have HB9 : Hid (Below w.heap.size w (((set8 w7 (w.heap.size + 1) b0 b1 b2 b3 b4 b5 b6 b7).alloc (.cells #[.int .u8 (b0.toNat : Int), .int .u8 (b1.toNat : Int), .int .u8 (b2.toNat : Int), .int .u8 (b3.toNat : Int), .int .u8 (b4.toNat : Int), .int .u8 (b5.toNat : Int), .int .u8 (b6.toNat : Int), .int .u8 (b7.toNat : Int)] 29)).drew)) := by
    have hb := below_set8 HB7.out (Nat.le_succ _) b0 b1 b2 b3 b4 b5 b6 b7
    exact (hb.alloc hb.size _).drew
  have HO9 : Hid ((((set8 w7 (w.heap.size + 1) b0 b1 b2 b3 b4 b5 b6 b7).alloc (.cells #[.int .u8 (b0.toNat : Int), .int .u8 (b1.toNat : Int), .int .u8 (b2.toNat : Int), .int .u8 (b3.toNat : Int), .int .u8 (b4.toNat : Int), .int .u8 (b5.toNat : Int), .int .u8 (b6.toNat : Int), .int .u8 (b7.toNat : Int)] 29)).drew).ownsRow w.heap.size 37 2 (.slice ba bs'.length bc) bs'.length (rowR blC bs')) :=
    ((own_lower (own_kt p4 (I8.kt8 hI7 b0 b1 b2 b3 b4 b5 b6 b7) (by decide)) (by have := HBs.out; omega)).alloc _).drew
  have HFin : Hid (P.2.2 = 0 ∧ pl bs' = P.1 ∧ [b0, b1, b2, b3, b4, b5, b6, b7] = P.2.1 ∧ bs'.length ≤ 1000000) := ⟨hE, hb1, hid, by have := HBs.out; omega⟩
  obtain ⟨BN, hBN⟩ : ∃ BN, BN = bs'.length := ⟨_, rfl⟩
  rw [← hBN] at d6
  rw [hE]
  clear p1 p2 p3 p4 hq1 hq2 hz hI7 hb1 hid
  go_wp2_with fail
  go_region
  all_goals
    go_wp2_with fail
    subst hBN
    refine bodyPost_ret (v := .tuple #[.slice ba bs'.length bc, .agg #[B b0, B b1, B b2, B b3, B b4, B b5, B b6, B b7], .int .i64 0]) ?_ rfl ⟨_, [b0, b1, b2, b3, b4, b5, b6, b7], by rw [HFin.out.1]; rfl, rfl, HB9.out, fun e => absurd HFin.out.1 e, fun _ => ⟨bs', HFin.out.2.1, HFin.out.2.2.1, HO9.out, HFin.out.2.2.2⟩⟩
    have hres : Tryz.f7.results = #[.tmp 4, .cell 5 29, .tmp 6] := by kernel_rfl
    simp only [results, hres]
    go_simp
    exact ⟨rfl, rfl, rfl, rfl, rfl, rfl, rfl, rfl⟩
end Go.Proofs.YtimdioacmojkeaaGreatDoor

namespace Go.Proofs.YtimdioacmojkeaaGreatDoor
namespace Wk
open Nn (Name)
open Pk (Bl)

/-- a right world whose times a machine has, and a way of cutting that loses nothing -/
structure Good (cutf : Bs → List Bs) (w : List It) : Prop where
  right : Right w
  time : ∀ x ∈ w, -9223372036854775808 ≤ x.time ∧ x.time ≤ 9223372036854775807
  cut : ∀ x ∈ w, x.kind = 1 → (cutf x.bytes).flatten = x.bytes
/-- one item and all beneath it -/
def block (w : List It) (k : Nat) (x : It) : List It := x :: (if x.dir then dfs It.nms It.dir w k x.nms else [])
theorem dfs_succ (w : List It) (k : Nat) (p : List Name) : dfs It.nms It.dir w (k + 1) p = (kids It.nms w p).flatMap (block w k) := rfl
/-- what a planted directory is: nothing is lost, and it is reaped as it was -/
def Back (w : List It) (k : Nat) (p : List Name) (l l1 : List Bl) (id : Bs) : Prop :=
  (∀ x ∈ l, x ∈ l1) ∧ (Fine l → Fine l1) ∧ id.length = 8 ∧ ∀ L, Fine L → (∀ x ∈ l1, x ∈ L) → ∀ acc, acc.length + (dfs It.nms It.dir w k p).length ≤ 100 → reapDir L k id p acc = (acc ++ dfs It.nms It.dir w k p, 0)
theorem getLastD_snoc (p : List Name) (s : Name) : (p ++ [s]).getLastD [] = s := by simp
theorem name_path {x : It} {p : List Name} {s : Name} (hx : iErr x = 0) (e : x.nms = p ++ [s]) : Nn.joinB (p ++ [x.nms.getLastD []]) = x.path := by
  rw [e, getLastD_snoc, ← e]
  exact (path_eq (iErr_ok hx)).symm
theorem thing_back {cutf : Bs → List Bs} {w : List It} (hg : Good cutf w) {k : Nat} (ih : ∀ p l l1 id, plantDir cutf w k p l = (l1, id, 0) → Back w k p l l1 id) {x : It} (hx : x ∈ w) {p : List Name} {s : Name} (e : x.nms = p ++ [s])
    {l l1 : List Bl} {ids : List Bs} (h : thing cutf (plantDir cutf w k) x l = (l1, ids, 0)) :
    (∀ y ∈ l, y ∈ l1) ∧ (Fine l → Fine l1) ∧ Td.Wn (node x ids) ∧ ∀ L, Fine L → (∀ y ∈ l1, y ∈ L) → ∀ acc, acc.length + (block w k x).length ≤ 100 →
      ∃ bytes, (if (node x ids).kind = 1 then reapFile L (node x ids).size (node x ids).parts [] else ((node x ids).link, 0)) = (bytes, 0) ∧ item p (node x ids) bytes = x ∧
        (if (node x ids).kind = 2 then reapDir L k ((node x ids).parts.headD []) (p ++ [(node x ids).name]) (acc ++ [x]) else (acc ++ [x], 0)) = (acc ++ block w k x, 0) := by
  have hxo := hg.right.each x hx
  have ho := iErr_ok hxo
  have ht := hg.time x hx
  have hitem : ∀ bytes, bytes = x.bytes → item p (node x ids) bytes = x := fun bytes hb => by
    subst hb
    show (⟨Nn.joinB (p ++ [x.nms.getLastD []]), x.kind, x.mode, x.time, x.bytes⟩ : It) = x
    rw [name_path hxo e]
  unfold thing at h
  by_cases k1 : x.kind = 1
  · rw [if_pos k1] at h
    obtain ⟨h1, h2, h3, h4⟩ := pieces_ok _ _ _ _ h
    refine ⟨h3, h4, ⟨ht.1, ht.2, fun q hq => ?_⟩, fun L hF hL acc _ => ⟨x.bytes, ?_, hitem _ rfl, ?_⟩⟩
    · have hq : q ∈ ids := hq
      rw [h1] at hq
      obtain ⟨y, _, rfl⟩ := List.mem_map.1 hq
      exact Pk.bid_length _
    · rw [if_pos (show (node x ids).kind = 1 from k1)]
      show reapFile L (if x.kind = 1 then (x.bytes.length : Int) else 0) ids [] = _
      rw [if_pos k1, h1]
      have := reapFile_ok hF (cutf x.bytes) [] x.bytes.length (fun q hq => hL _ (h2 q hq)) (by rw [List.nil_append, hg.cut x hx k1])
      rw [List.nil_append, hg.cut x hx k1] at this
      exact this
    · rw [if_neg (show ¬ (node x ids).kind = 2 from by show ¬ x.kind = 2; omega)]
      unfold block
      rw [if_neg (by unfold It.dir; simp; omega)]
  · rw [if_neg k1] at h
    by_cases k2 : x.kind = 2
    · rw [if_pos k2] at h
      rcases hp : plantDir cutf w k x.nms l with ⟨l2, id, e2⟩
      rw [hp] at h
      obtain rfl : l2 = l1 := congrArg (fun z => z.1) h
      obtain rfl : [id] = ids := congrArg (fun z => z.2.1) h
      obtain rfl : e2 = 0 := congrArg (fun z => z.2.2) h
      obtain ⟨b1, b2, b3, b4⟩ := ih _ _ _ _ hp
      have hdir : x.dir = true := by unfold It.dir; simp [k2]
      refine ⟨b1, b2, ⟨ht.1, ht.2, fun q hq => by rw [List.mem_singleton.1 (show q ∈ [id] from hq)]; exact b3⟩, fun L hF hL acc hacc => ⟨x.bytes, ?_, hitem _ rfl, ?_⟩⟩
      · rw [if_neg (show ¬ (node x [id]).kind = 1 from k1)]
        show ((if x.kind = 3 then x.bytes else []), (0 : Int)) = _
        rw [if_neg (by omega), ho.nodir k2]
      · rw [if_pos (show (node x [id]).kind = 2 from k2)]
        have hn : p ++ [(node x [id]).name] = x.nms := by
          show p ++ [x.nms.getLastD []] = x.nms
          rw [e, getLastD_snoc]
        rw [hn]
        show reapDir L k id x.nms (acc ++ [x]) = _
        unfold block at hacc ⊢
        rw [if_pos hdir] at hacc ⊢
        rw [b4 L hF hL (acc ++ [x]) (by rw [List.length_cons] at hacc; rw [List.length_append, List.length_singleton]; omega), List.append_assoc]
        rfl
    · rw [if_neg k2] at h
      obtain rfl : l = l1 := congrArg (fun z => z.1) h
      obtain rfl : [] = ids := congrArg (fun z => z.2.1) h
      have k3 : x.kind = 3 := by have := ho.kind; omega
      refine ⟨fun _ q => q, fun q => q, ⟨ht.1, ht.2, fun q hq => absurd (show q ∈ ([] : List Bs) from hq) List.not_mem_nil⟩, fun L hF hL acc _ => ⟨x.bytes, ?_, hitem _ rfl, ?_⟩⟩
      · rw [if_neg (show ¬ (node x []).kind = 1 from k1)]
        show ((if x.kind = 3 then x.bytes else []), (0 : Int)) = _
        rw [if_pos k3]
      · rw [if_neg (show ¬ (node x []).kind = 2 from k2)]
        unfold block
        rw [if_neg (by unfold It.dir; simp; omega)]
theorem things_back {cutf : Bs → List Bs} {w : List It} (hg : Good cutf w) {k : Nat} (ih : ∀ p l l1 id, plantDir cutf w k p l = (l1, id, 0) → Back w k p l l1 id) (p : List Name) : ∀ (xs : List It) (l l1 : List Bl) (nodes : List Td.Nd), (∀ x ∈ xs, x ∈ w ∧ ∃ s, x.nms = p ++ [s]) →
    things cutf (plantDir cutf w k) xs l = (l1, nodes, 0) →
    (∀ y ∈ l, y ∈ l1) ∧ (Fine l → Fine l1) ∧ (∀ n ∈ nodes, Td.Wn n) ∧ ∀ L, Fine L → (∀ y ∈ l1, y ∈ L) → ∀ acc, acc.length + (xs.flatMap (block w k)).length ≤ 100 → reapNodes L (reapDir L k) p nodes acc = (acc ++ xs.flatMap (block w k), 0)
  | [], l, l1, nodes, _, h => by
    cases h
    exact ⟨fun _ q => q, fun q => q, fun n hn => absurd hn List.not_mem_nil, fun L _ _ acc _ => by rw [reapNodes, List.flatMap_nil, List.append_nil]⟩
  | x :: xs, l, l1, nodes, hxs, h => by
    rw [things] at h
    rcases ht : thing cutf (plantDir cutf w k) x l with ⟨l2, ids, e1⟩
    rw [ht] at h
    simp only at h
    split at h
    · rename_i q; exact absurd (congrArg (fun z => z.2.2) h) q
    rename_i q
    obtain rfl := Decidable.not_not.mp q
    rcases hr : things cutf (plantDir cutf w k) xs l2 with ⟨l3, ns, e2⟩
    rw [hr] at h
    obtain rfl : l3 = l1 := congrArg (fun z => z.1) h
    obtain rfl : node x ids :: ns = nodes := congrArg (fun z => z.2.1) h
    obtain rfl : e2 = 0 := congrArg (fun z => z.2.2) h
    obtain ⟨hxw, s, es⟩ := hxs x List.mem_cons_self
    obtain ⟨a1, a2, a3, a4⟩ := thing_back hg ih hxw es ht
    obtain ⟨c1, c2, c3, c4⟩ := things_back hg ih p xs l2 l3 ns (fun y hy => hxs y (List.mem_cons_of_mem _ hy)) hr
    refine ⟨fun y hy => c1 y (a1 y hy), fun q => c2 (a2 q), fun n hn => ?_, fun L hF hL acc hacc => ?_⟩
    · rcases List.mem_cons.1 hn with e | hn
      · rw [e]; exact a3
      · exact c3 n hn
    · have hb : 1 ≤ (block w k x).length := by unfold block; rw [List.length_cons]; omega
      rw [List.flatMap_cons, List.length_append] at hacc
      obtain ⟨bytes, f1, f2, f3⟩ := a4 L hF (fun y hy => hL y (c1 y hy)) acc (by omega)
      have h8 : ¬ 8 ≤ p.length := by
        have := errsF_few _ 0 (errs_nms (iErr_ok (hg.right.each x hxw))) (by omega)
        rw [es, List.length_append, List.length_singleton] at this
        omega
      have h100 : ¬ 100 ≤ acc.length := by omega
      rw [reapNodes, if_neg h8, if_neg h100, f1]
      simp only [ne_eq, not_true, if_false, f2]
      rw [f3]
      simp only [not_true, if_false]
      rw [c4 L hF hL (acc ++ block w k x) (by rw [List.length_append]; omega), List.flatMap_cons, List.append_assoc]
/-- what was planted is reaped as it was, out of whatever blobs hold it -/
theorem plant_back {cutf : Bs → List Bs} {w : List It} (hg : Good cutf w) : ∀ (k : Nat) (p : List Name) (l l1 : List Bl) (id : Bs), plantDir cutf w k p l = (l1, id, 0) → Back w k p l l1 id
  | 0, p, l, l1, id, h => by
    rw [plantDir] at h
    exact absurd (congrArg (fun z => z.2.2) h) (by simp)
  | k + 1, p, l, l1, id, h => by
    rw [plantDir] at h
    rcases ht : things cutf (plantDir cutf w k) (kids It.nms w p) l with ⟨l2, nodes, e1⟩
    rw [ht] at h
    simp only at h
    split at h
    · rename_i q; exact absurd (congrArg (fun z => z.2.2) h) q
    rename_i q
    obtain rfl := Decidable.not_not.mp q
    rcases hs : Td.write nodes with ⟨s, e2⟩
    rw [hs] at h
    simp only at h
    split at h
    · rename_i q; exact absurd (congrArg (fun z => z.2.2) h) q
    rename_i q
    obtain rfl := Decidable.not_not.mp q
    obtain ⟨_, rfl, i3, i4, i5, _⟩ := into_ok h
    obtain ⟨c1, c2, c3, c4⟩ := things_back hg (plant_back hg k) p (kids It.nms w p) l l2 nodes (fun x hx => mem_kids.1 hx) ht
    refine ⟨fun x hx => i4 x (c1 x hx), fun q => i5 (c2 q), Pk.bid_length _, fun L hF hL acc hacc => ?_⟩
    rw [dfs_succ] at hacc ⊢
    have hbl : blobOf L (Pk.bid ((2, s) : Bl)) 2 = (s, 0) := blobOf_in hF (hL _ i3)
    rw [reapDir, hbl]
    simp only [ne_eq, not_true, if_false]
    rw [Td.read_write c3 hs]
    simp only [not_true, if_false]
    exact c4 L hF (fun y hy => hL y (i4 y hy)) acc hacc
/-- the whole of P47 and P48: a right world, planted, is reaped out of whatever fine blobs hold its own -/
theorem world_back {cutf : Bs → List Bs} {w : List It} (hw : world w = 0) (ht : ∀ x ∈ w, -9223372036854775808 ≤ x.time ∧ x.time ≤ 9223372036854775807) (hc : ∀ x ∈ w, x.kind = 1 → (cutf x.bytes).flatten = x.bytes)
    {l : List Bl} {id : Bs} (h : plantDir cutf w 9 [] [] = (l, id, 0)) : Fine l ∧ ∀ L, Fine L → (∀ x ∈ l, x ∈ L) → reapDir L 9 id [] [] = (w, 0) := by
  obtain ⟨hl, hr⟩ := world_ok hw
  obtain ⟨_, b2, _, b4⟩ := plant_back ⟨hr, ht, hc⟩ 9 [] [] l id h
  have hd : dfs It.nms It.dir w 9 [] = w := dfs_all hr.sorted hr.closed 9 fun x hx => by
    have := errsF_few _ 0 (errs_nms (iErr_ok (hr.each x hx))) (by omega)
    omega
  refine ⟨b2 ⟨fun _ q => absurd q List.not_mem_nil, fun _ q => absurd q List.not_mem_nil⟩, fun L hF hL => ?_⟩
  have := b4 L hF hL [] (by rw [hd, List.length_nil]; omega)
  rwa [hd, List.nil_append] at this
end Wk
end Go.Proofs.YtimdioacmojkeaaGreatDoor

namespace Go.Proofs.YtimdioacmojkeaaGreatDoor
namespace Wk
open Nn (Name)
open Pk (Bl)

/-- MERKLE: without a clash two worlds have one root just if they are the same -/
theorem world_root {cutf : Bs → List Bs} {a b : List It} (ha : world a = 0) (hb : world b = 0) (ta : ∀ x ∈ a, -9223372036854775808 ≤ x.time ∧ x.time ≤ 9223372036854775807) (tb : ∀ x ∈ b, -9223372036854775808 ≤ x.time ∧ x.time ≤ 9223372036854775807)
    (hc : ∀ s : Bs, s.length ≤ 4096 → (cutf s).flatten = s) {l m : List Bl} {x y : Bs} (hx : plantDir cutf a 9 [] [] = (l, x, 0)) (hy : plantDir cutf b 9 [] [] = (m, y, 0)) (hF : Fine (l ++ m)) : x = y ↔ a = b := by
  have cut : ∀ {w : List It}, world w = 0 → ∀ z ∈ w, z.kind = 1 → (cutf z.bytes).flatten = z.bytes := fun hw z hz hk => hc _ ((iErr_ok ((world_ok hw).2.each z hz)).file hk)
  constructor
  · rintro rfl
    have h1 := (world_back ha ta (cut ha) hx).2 (l ++ m) hF (fun z hz => List.mem_append_left _ hz)
    have h2 := (world_back hb tb (cut hb) hy).2 (l ++ m) hF (fun z hz => List.mem_append_right _ hz)
    exact (congrArg Prod.fst (h1.symm.trans h2))
  · rintro rfl
    rw [hx] at hy
    exact congrArg (fun z => z.2.1) hy

/-- the IDs of an item's parts -/
def idsOf (cutf : Bs → List Bs) (sub : List Name → Bs) (x : It) : List Bs :=
  if x.kind = 1 then (cutf x.bytes).map (fun p => Pk.bid (1, p)) else if x.kind = 2 then [Pk.bid (2, sub x.nms)] else []
/-- a directory's text -/
def tx (cutf : Bs → List Bs) (w : List It) : Nat → List Name → Bs
  | 0, _ => []
  | k + 1, p => Td.textB ((kids It.nms w p).map fun x => node x (idsOf cutf (tx cutf w k) x))
/-- the blobs that an item makes, in order -/
def blobsIn (cutf : Bs → List Bs) (sub : List Name → List Bl) (x : It) : List Bl :=
  if x.kind = 1 then (cutf x.bytes).map (fun p => ((1, p) : Bl)) else if x.kind = 2 then sub x.nms else []
/-- the blobs of a directory, in order, the directory's own the last -/
def blobsOf (cutf : Bs → List Bs) (w : List It) : Nat → List Name → List Bl
  | 0, _ => []
  | k + 1, p => (kids It.nms w p).flatMap (blobsIn cutf (blobsOf cutf w k)) ++ [((2, tx cutf w (k + 1) p) : Bl)]
/-- told, each once -/
def tell (l : List Bl) (bs : List Bl) : List Bl := bs.foldl (fun l b => if b ∈ l then l else l ++ [b]) l
theorem tell_nil (l : List Bl) : tell l [] = l := rfl
theorem tell_cons (l : List Bl) (b : Bl) (bs : List Bl) : tell l (b :: bs) = tell (if b ∈ l then l else l ++ [b]) bs := rfl
theorem tell_app (l bs cs : List Bl) : tell l (bs ++ cs) = tell (tell l bs) cs := by unfold tell; rw [List.foldl_append]
theorem mem_tell : ∀ (bs l : List Bl) (b : Bl), b ∈ tell l bs ↔ b ∈ l ∨ b ∈ bs
  | [], l, b => by simp [tell_nil]
  | c :: bs, l, b => by
    rw [tell_cons, mem_tell bs _ b]
    split
    · rename_i h
      constructor
      · rintro (q | q)
        · exact .inl q
        · exact .inr (List.mem_cons_of_mem _ q)
      · rintro (q | q)
        · exact .inl q
        · rcases List.mem_cons.1 q with rfl | q
          · exact .inl h
          · exact .inr q
    · rw [List.mem_append, List.mem_singleton, List.mem_cons, or_assoc]
theorem tell_nodup : ∀ (bs l : List Bl), l.Nodup → (tell l bs).Nodup
  | [], _, h => h
  | c :: bs, l, h => by
    rw [tell_cons]
    split
    · exact tell_nodup bs l h
    · rename_i q
      refine tell_nodup bs _ (List.nodup_append.2 ⟨h, by simp, fun a ha b hb e => ?_⟩)
      rw [List.mem_singleton.1 hb] at e
      subst e
      exact q ha
theorem into_tell {l l' : List Bl} {b : Bl} {id : Bs} (h : into l b = (l', id, 0)) : l' = if b ∈ l then l else l ++ [b] := by
  unfold into at h
  split at h
  · rename_i q; exact absurd (congrArg (fun z => z.2.2) h) q
  cases hf : l.find? (fun x => Pk.bid x == Pk.bid b) with
  | none =>
    rw [hf] at h
    have hb : b ∉ l := fun hb => by
      have := List.find?_eq_none.1 hf b hb
      simp at this
    rw [if_neg hb]
    exact (congrArg (fun z => z.1) h).symm
  | some x =>
    rw [hf] at h
    simp only at h
    split at h
    · rename_i e
      subst e
      rw [if_pos (List.mem_of_find?_eq_some hf)]
      exact (congrArg (fun z => z.1) h).symm
    · exact absurd (congrArg (fun z => z.2.2) h) (by simp)
theorem pieces_tell : ∀ (ps : List Bs) (l l' : List Bl) (ids : List Bs), pieces ps l = (l', ids, 0) → l' = tell l (ps.map fun p => ((1, p) : Bl))
  | [], l, l', ids, h => (congrArg (fun z => z.1) h).symm
  | p :: ps, l, l', ids, h => by
    rw [pieces] at h
    rcases hi : into l (1, p) with ⟨l1, id, e⟩
    rw [hi] at h
    simp only at h
    split at h
    · rename_i q; exact absurd (congrArg (fun z => z.2.2) h) q
    rename_i q
    obtain rfl := Decidable.not_not.mp q
    rcases hp : pieces ps l1 with ⟨l2, ids2, e2⟩
    rw [hp] at h
    obtain rfl : l2 = l' := congrArg (fun z => z.1) h
    obtain rfl : e2 = 0 := congrArg (fun z => z.2.2) h
    rw [List.map_cons, tell_cons, ← into_tell hi]
    exact pieces_tell ps l1 l2 ids2 hp
theorem write_text {x : List Td.Nd} {s : Bs} (h : Td.write x = (s, 0)) : s = Td.textB x ∧ Td.check x = 0 := by
  unfold Td.write at h
  split at h
  · rename_i q; exact absurd (congrArg (fun z => z.2) h) q
  rename_i q
  split at h
  · exact absurd (congrArg (fun z => z.2) h) (by simp)
  · exact ⟨(congrArg (fun z => z.1) h).symm, Decidable.not_not.mp q⟩
theorem things_pure {cutf : Bs → List Bs} {w : List It} {k : Nat} (ih : ∀ p l l1 id, plantDir cutf w k p l = (l1, id, 0) → id = Pk.bid (2, tx cutf w k p) ∧ l1 = tell l (blobsOf cutf w k p)) : ∀ (xs : List It) (l l1 : List Bl) (nodes : List Td.Nd),
    things cutf (plantDir cutf w k) xs l = (l1, nodes, 0) → nodes = (xs.map fun x => node x (idsOf cutf (tx cutf w k) x)) ∧ l1 = tell l (xs.flatMap (blobsIn cutf (blobsOf cutf w k)))
  | [], l, l1, nodes, h => by
    cases h
    exact ⟨rfl, rfl⟩
  | x :: xs, l, l1, nodes, h => by
    rw [things] at h
    rcases ht : thing cutf (plantDir cutf w k) x l with ⟨l2, ids, e1⟩
    rw [ht] at h
    simp only at h
    split at h
    · rename_i q; exact absurd (congrArg (fun z => z.2.2) h) q
    rename_i q
    obtain rfl := Decidable.not_not.mp q
    rcases hr : things cutf (plantDir cutf w k) xs l2 with ⟨l3, ns, e2⟩
    rw [hr] at h
    obtain rfl : l3 = l1 := congrArg (fun z => z.1) h
    obtain rfl : node x ids :: ns = nodes := congrArg (fun z => z.2.1) h
    obtain rfl : e2 = 0 := congrArg (fun z => z.2.2) h
    obtain ⟨r1, r2⟩ := things_pure ih xs l2 l3 ns hr
    have hx : ids = idsOf cutf (tx cutf w k) x ∧ l2 = tell l (blobsIn cutf (blobsOf cutf w k) x) := by
      unfold thing at ht
      unfold idsOf blobsIn
      by_cases k1 : x.kind = 1
      · rw [if_pos k1] at ht ⊢
        rw [if_pos k1]
        exact ⟨(pieces_ok _ _ _ _ ht).1, pieces_tell _ _ _ _ ht⟩
      · rw [if_neg k1] at ht ⊢
        rw [if_neg k1]
        by_cases k2 : x.kind = 2
        · rw [if_pos k2] at ht ⊢
          rw [if_pos k2]
          rcases hp : plantDir cutf w k x.nms l with ⟨l4, id, e3⟩
          rw [hp] at ht
          obtain rfl : l4 = l2 := congrArg (fun z => z.1) ht
          obtain rfl : [id] = ids := congrArg (fun z => z.2.1) ht
          obtain rfl : e3 = 0 := congrArg (fun z => z.2.2) ht
          obtain ⟨i1, i2⟩ := ih _ _ _ _ hp
          exact ⟨by rw [i1], i2⟩
        · rw [if_neg k2] at ht ⊢
          rw [if_neg k2]
          exact ⟨(congrArg (fun z => z.2.1) ht).symm, (congrArg (fun z => z.1) ht).symm⟩
    refine ⟨by rw [r1, hx.1]; rfl, ?_⟩
    rw [r2, hx.2, List.flatMap_cons, tell_app]
/-- what Plant tells: each blob of the directory once, in order; the ID is that of its text -/
theorem plant_pure (cutf : Bs → List Bs) (w : List It) : ∀ (k : Nat) (p : List Name) (l l1 : List Bl) (id : Bs), plantDir cutf w k p l = (l1, id, 0) → id = Pk.bid (2, tx cutf w k p) ∧ l1 = tell l (blobsOf cutf w k p)
  | 0, p, l, l1, id, h => by
    rw [plantDir] at h
    exact absurd (congrArg (fun z => z.2.2) h) (by simp)
  | k + 1, p, l, l1, id, h => by
    rw [plantDir] at h
    rcases ht : things cutf (plantDir cutf w k) (kids It.nms w p) l with ⟨l2, nodes, e1⟩
    rw [ht] at h
    simp only at h
    split at h
    · rename_i q; exact absurd (congrArg (fun z => z.2.2) h) q
    rename_i q
    obtain rfl := Decidable.not_not.mp q
    rcases hs : Td.write nodes with ⟨s, e2⟩
    rw [hs] at h
    simp only at h
    split at h
    · rename_i q; exact absurd (congrArg (fun z => z.2.2) h) q
    rename_i q
    obtain rfl := Decidable.not_not.mp q
    obtain ⟨_, i2, _⟩ := into_ok h
    have i1 := into_tell h
    obtain ⟨r1, r2⟩ := things_pure (plant_pure cutf w k) (kids It.nms w p) l l2 nodes ht
    have hst : s = tx cutf w (k + 1) p := by rw [(write_text hs).1, r1]; rfl
    refine ⟨by rw [i2, hst], ?_⟩
    rw [blobsOf, tell_app, ← r2, i1, ← hst]
    rfl
end Wk
end Go.Proofs.YtimdioacmojkeaaGreatDoor

namespace Go.Proofs.YtimdioacmojkeaaGreatDoor
namespace Wk
open Nn (Name)
open Pk (Bl)

theorem nodup_le {α : Type} [DecidableEq α] : ∀ {a b : List α}, a.Nodup → (∀ x ∈ a, x ∈ b) → a.length ≤ b.length
  | [], _, _, _ => Nat.zero_le _
  | x :: a, b, h, hs => by
    obtain ⟨h1, h2⟩ := List.nodup_cons.1 h
    have hx : x ∈ b := hs x List.mem_cons_self
    have := nodup_le (a := a) (b := b.erase x) h2 fun y hy => by
      have hne : y ≠ x := fun e => h1 (e ▸ hy)
      exact (List.mem_erase_of_ne hne).2 (hs y (List.mem_cons_of_mem _ hy))
    rw [List.length_erase_of_mem hx] at this
    have : 0 < b.length := List.length_pos_of_mem hx
    rw [List.length_cons]
    omega
theorem map_same {α : Type} {f : α → α} : ∀ (l : List α), (∀ y ∈ l, f y = y) → l.map f = l
  | [], _ => rfl
  | y :: l, h => by rw [List.map_cons, h y List.mem_cons_self, map_same l fun z hz => h z (List.mem_cons_of_mem _ hz)]
/-- an item with other bytes, if it is the one -/
def chg (q : List Name) (s : Bs) (y : It) : It := if y.nms = q then ⟨y.path, y.kind, y.mode, y.time, s⟩ else y
theorem chg_nms (q : List Name) (s : Bs) (y : It) : (chg q s y).nms = y.nms := by unfold chg; split <;> rfl
theorem chg_kind (q : List Name) (s : Bs) (y : It) : (chg q s y).kind = y.kind := by unfold chg; split <;> rfl
theorem chg_other {q : List Name} {s : Bs} {y : It} (h : y.nms ≠ q) : chg q s y = y := by unfold chg; rw [if_neg h]
theorem kids_chg (w : List It) (q p : List Name) (s : Bs) : kids It.nms (w.map (chg q s)) p = (kids It.nms w p).map (chg q s) := by
  unfold kids
  rw [List.filter_map]
  congr 1
  refine List.filter_congr fun y _ => ?_
  simp only [Function.comp_apply, chg_nms]
section
variable {cutf : Bs → List Bs} {w : List It} {q : List Name} {s : Bs}
/-- a directory in which it does not lie is as it was -/
theorem same_dir (k : Nat) : ∀ (p : List Name), (¬ ∃ r, r ≠ [] ∧ q = p ++ r) → tx cutf (w.map (chg q s)) k p = tx cutf w k p ∧ blobsOf cutf (w.map (chg q s)) k p = blobsOf cutf w k p := by
  induction k with
  | zero =>
    intro p _
    exact ⟨by rw [tx, tx], by rw [blobsOf, blobsOf]⟩
  | succ k ihk =>
    intro p hp
    have hk : ∀ y ∈ kids It.nms w p, chg q s y = y ∧ ¬ ∃ r, r ≠ [] ∧ q = y.nms ++ r := fun y hy => by
      obtain ⟨_, t, e⟩ := mem_kids.1 hy
      refine ⟨chg_other fun h => hp ⟨[t], by simp, by rw [← h, e]⟩, fun ⟨r, _, er⟩ => hp ⟨t :: r, by simp, by rw [er, e, List.append_assoc]; rfl⟩⟩
    have hkids : kids It.nms (w.map (chg q s)) p = kids It.nms w p := by
      rw [kids_chg]
      exact map_same _ fun y hy => (hk y hy).1
    have htx : tx cutf (w.map (chg q s)) (k + 1) p = tx cutf w (k + 1) p := by
      have hm : ((kids It.nms w p).map fun x => node x (idsOf cutf (tx cutf (w.map (chg q s)) k) x)) = (kids It.nms w p).map fun x => node x (idsOf cutf (tx cutf w k) x) := List.map_congr_left fun y hy => by
        have hi : idsOf cutf (tx cutf (w.map (chg q s)) k) y = idsOf cutf (tx cutf w k) y := by
          unfold idsOf
          rw [(ihk y.nms (hk y hy).2).1]
        rw [hi]
      rw [tx, tx, hkids, hm]
    refine ⟨htx, ?_⟩
    have : ∀ l : List It, (∀ y ∈ l, y ∈ kids It.nms w p) → l.flatMap (blobsIn cutf (blobsOf cutf (w.map (chg q s)) k)) = l.flatMap (blobsIn cutf (blobsOf cutf w k)) := fun l hl => by
      induction l with
      | nil => rw [List.flatMap_nil, List.flatMap_nil]
      | cons y l ih =>
        have hi : blobsIn cutf (blobsOf cutf (w.map (chg q s)) k) y = blobsIn cutf (blobsOf cutf w k) y := by
          unfold blobsIn
          rw [(ihk y.nms (hk y (hl y List.mem_cons_self)).2).2]
        rw [List.flatMap_cons, List.flatMap_cons, ih fun z hz => hl z (List.mem_cons_of_mem _ hz), hi]
    rw [blobsOf, blobsOf, hkids, htx, this _ fun _ h => h]
/-- the directories on the way -/
def wayT (cutf : Bs → List Bs) (v : List It) : Nat → List Name → List Name → List Bl
  | _, _, [] => []
  | k, p, t :: r => ((2, tx cutf v k p) : Bl) :: wayT cutf v (k - 1) (p ++ [t]) r
theorem wayT_length (v : List It) : ∀ (r : List Name) (k : Nat) (p : List Name), (wayT cutf v k p r).length = r.length
  | [], _, _ => rfl
  | t :: r, k, p => by rw [wayT, List.length_cons, wayT_length v r, List.length_cons]
/-- what is new lies on the way, or is a piece of it -/
theorem new_blobs (hq : ∀ y ∈ w, y.nms = q → y.kind = 1) : ∀ (k : Nat) (p r : List Name), r ≠ [] → q = p ++ r → ∀ b ∈ blobsOf cutf (w.map (chg q s)) k p,
    b ∈ blobsOf cutf w k p ∨ b ∈ (cutf s).map (fun x => ((1, x) : Bl)) ∨ b ∈ wayT cutf (w.map (chg q s)) k p r
  | 0, _, _, _, _, b, hb => absurd hb List.not_mem_nil
  | k + 1, p, [], hr, _, b, hb => absurd rfl hr
  | k + 1, p, t :: r, _, hp, b, hb => by
    rw [blobsOf] at hb
    rcases List.mem_append.1 hb with hb | hb
    · rw [kids_chg, List.mem_flatMap] at hb
      obtain ⟨z, hz, hb⟩ := hb
      obtain ⟨y, hy, rfl⟩ := List.mem_map.1 hz
      obtain ⟨hyw, t', et⟩ := mem_kids.1 hy
      have inw : b ∈ blobsIn cutf (blobsOf cutf w k) y → b ∈ blobsOf cutf w (k + 1) p := fun h => by
        rw [blobsOf]
        exact List.mem_append_left _ (List.mem_flatMap.2 ⟨y, hy, h⟩)
      by_cases hyq : y.nms = q
      · have k1 := hq y hyw hyq
        unfold blobsIn at hb
        rw [if_pos (by rw [chg_kind]; exact k1)] at hb
        have : (chg q s y).bytes = s := by unfold chg; rw [if_pos hyq]
        rw [this] at hb
        exact .inr (.inl hb)
      · rw [chg_other hyq] at hb
        unfold blobsIn at hb inw
        by_cases k1 : y.kind = 1
        · rw [if_pos k1] at hb inw
          exact .inl (inw hb)
        · rw [if_neg k1] at hb inw
          by_cases k2 : y.kind = 2
          · rw [if_pos k2] at hb inw
            by_cases hbn : ∃ r', r' ≠ [] ∧ q = y.nms ++ r'
            · obtain ⟨r', hr', er'⟩ := hbn
              have e2 : t' :: r' = t :: r := by
                rw [er', et, List.append_assoc] at hp
                exact List.append_cancel_left hp
              obtain ⟨rfl, rfl⟩ := List.cons.inj e2
              rcases new_blobs hq k y.nms r' hr' er' b hb with h | h | h
              · exact .inl (inw h)
              · exact .inr (.inl h)
              · refine .inr (.inr ?_)
                rw [wayT, Nat.add_sub_cancel]
                rw [et] at h
                exact List.mem_cons_of_mem _ h
            · rw [(same_dir k y.nms hbn).2] at hb
              exact .inl (inw hb)
          · rw [if_neg k2] at hb
            exact absurd hb List.not_mem_nil
    · refine .inr (.inr ?_)
      rw [List.mem_singleton.1 hb, wayT]
      exact List.mem_cons_self
/-- P47: how much is new -/
theorem new_few (hq : ∀ y ∈ w, y.nms = q → y.kind = 1) (hne : q ≠ []) {l m : List Bl} {x y : Bs} (hl : plantDir cutf w 9 [] [] = (l, x, 0)) (hm : plantDir cutf (w.map (chg q s)) 9 [] [] = (m, y, 0)) :
    ((m.filter fun b => decide (b ∉ l)).filter fun b => decide (b.1 = 2)).length ≤ q.length ∧ ((m.filter fun b => decide (b ∉ l)).filter fun b => decide (b.1 ≠ 2)).length ≤ (cutf s).length := by
  have el := (plant_pure cutf w 9 [] [] l x hl).2
  have em := (plant_pure cutf _ 9 [] [] m y hm).2
  have hnd : m.Nodup := by rw [em]; exact tell_nodup _ [] List.nodup_nil
  have key : ∀ b ∈ m, b ∉ l → b ∈ (cutf s).map (fun x => ((1, x) : Bl)) ∨ b ∈ wayT cutf (w.map (chg q s)) 9 [] q := fun b hb hn => by
    have hb : b ∈ blobsOf cutf (w.map (chg q s)) 9 [] := by
      rw [em, mem_tell] at hb
      exact hb.resolve_left List.not_mem_nil
    rcases new_blobs hq 9 [] q hne rfl b hb with h | h
    · exact absurd (by rw [el, mem_tell]; exact .inr h) hn
    · exact h
  have hw2 : ∀ (r : List Name) (k : Nat) (p : List Name), ∀ b ∈ wayT cutf (w.map (chg q s)) k p r, b.1 = 2 := fun r => by
    induction r with
    | nil => exact fun _ _ b hb => absurd hb List.not_mem_nil
    | cons t r ih =>
      intro k p b hb
      rw [wayT] at hb
      rcases List.mem_cons.1 hb with rfl | hb
      · rfl
      · exact ih _ _ b hb
  refine ⟨?_, ?_⟩
  · rw [← wayT_length (cutf := cutf) (w.map (chg q s)) q 9 []]
    refine nodup_le ((hnd.filter _).filter _) fun b hb => ?_
    obtain ⟨hb, h2⟩ := List.mem_filter.1 hb
    obtain ⟨hb, h1⟩ := List.mem_filter.1 hb
    rcases key b hb (of_decide_eq_true h1) with h | h
    · obtain ⟨z, _, rfl⟩ := List.mem_map.1 h
      have := of_decide_eq_true h2
      simp at this
    · exact h
  · rw [← List.length_map (f := fun x => ((1, x) : Bl))]
    refine nodup_le ((hnd.filter _).filter _) fun b hb => ?_
    obtain ⟨hb, h2⟩ := List.mem_filter.1 hb
    obtain ⟨hb, h1⟩ := List.mem_filter.1 hb
    rcases key b hb (of_decide_eq_true h1) with h | h
    · exact h
    · exact absurd (hw2 _ _ _ b h) (of_decide_eq_true h2)
end
end Wk
end Go.Proofs.YtimdioacmojkeaaGreatDoor

namespace Go.Proofs.YtimdioacmojkeaaGreatDoor
namespace Wk
open Nn (Name)
open Pk (Bl)

theorem tell_snoc (l bs : List Bl) (c : Bl) : tell l (bs ++ [c]) = if c ∈ tell l bs then tell l bs else tell l bs ++ [c] := by rw [tell_app]; rfl
/-- where a blob stands that is told: what came ahead of it was told ahead of it -/
theorem tell_first : ∀ (n : Nat) (bs : List Bl), bs.length = n → ∀ (i : Nat) (b : Bl), (tell [] bs)[i]? = some b → ∃ pre post, bs = pre ++ b :: post ∧ (tell [] bs).take i = tell [] pre := by
  intro n
  induction n with
  | zero =>
    intro bs h i b hb
    rw [List.length_eq_zero_iff.1 h] at hb
    simp [tell_nil] at hb
  | succ n ih =>
    intro bs h i b hb
    have hne : bs ≠ [] := fun e => by rw [e] at h; cases h
    obtain ⟨bs', c, rfl⟩ : ∃ bs' c, bs = bs' ++ [c] := ⟨bs.dropLast, bs.getLast hne, (List.dropLast_concat_getLast hne).symm⟩
    rw [List.length_append, List.length_singleton] at h
    rw [tell_snoc] at hb ⊢
    by_cases hc : c ∈ tell [] bs'
    · rw [if_pos hc] at hb ⊢
      obtain ⟨pre, post, e1, e2⟩ := ih bs' (by omega) i b hb
      exact ⟨pre, post ++ [c], by rw [e1, List.append_assoc]; rfl, e2⟩
    · rw [if_neg hc] at hb ⊢
      rcases Nat.lt_or_ge i (tell [] bs').length with hi | hi
      · rw [List.getElem?_append_left hi] at hb
        obtain ⟨pre, post, e1, e2⟩ := ih bs' (by omega) i b hb
        exact ⟨pre, post ++ [c], by rw [e1, List.append_assoc]; rfl, by rw [List.take_append_of_le_length (by omega)]; exact e2⟩
      · rw [List.getElem?_append_right hi] at hb
        have hi0 : i - (tell [] bs').length = 0 := by
          have := (List.getElem?_eq_some_iff.1 hb).1
          simpa using this
        rw [hi0] at hb
        obtain rfl : c = b := by simpa using hb
        obtain rfl : i = (tell [] bs').length := by omega
        exact ⟨bs', [], rfl, by rw [List.take_append_of_le_length (Nat.le_refl _), List.take_length]⟩
theorem fine_ids {l : List Bl} (hF : Fine l) (hn : l.Nodup) : (l.map Pk.bid).Nodup := by
  induction l with
  | nil => simp
  | cons b l ih =>
    obtain ⟨h1, h2⟩ := List.nodup_cons.1 hn
    rw [List.map_cons, List.nodup_cons]
    refine ⟨fun hm => ?_, ih ⟨fun x hx => hF.ok x (List.mem_cons_of_mem _ hx), fun x hx y hy => hF.one x (List.mem_cons_of_mem _ hx) y (List.mem_cons_of_mem _ hy)⟩ h2⟩
    obtain ⟨y, hy, e⟩ := List.mem_map.1 hm
    have := hF.one y (List.mem_cons_of_mem _ hy) b List.mem_cons_self e
    subst this
    exact h1 hy
/-- a directory's nodes -/
def nodesOf (cutf : Bs → List Bs) (w : List It) (k : Nat) (p : List Name) : List Td.Nd := (kids It.nms w p).map fun x => node x (idsOf cutf (tx cutf w k) x)
theorem tx_succ (cutf : Bs → List Bs) (w : List It) (k : Nat) (p : List Name) : tx cutf w (k + 1) p = Td.textB (nodesOf cutf w k p) := rfl
/-- a tree blob that is read as nodes whose parts are told ahead -/
def Told (ahead : List Bl) (b : Bl) : Prop := b.1 = 2 → ∃ nodes, Td.read b.2 = (nodes, 0) ∧ ∀ n ∈ nodes, ∀ id ∈ n.parts, ∃ c ∈ ahead, Pk.bid c = id
/-- each is told ahead of who needs it -/
def Ord (bs : List Bl) : Prop := ∀ pre b post, bs = pre ++ b :: post → Told pre b
theorem Told.more {a a' : List Bl} {b : Bl} (h : Told a b) (hs : ∀ x ∈ a, x ∈ a') : Told a' b := fun h2 => by
  obtain ⟨n, e, k⟩ := h h2
  exact ⟨n, e, fun m hm id hid => by
    obtain ⟨c, hc, e⟩ := k m hm id hid
    exact ⟨c, hs c hc, e⟩⟩
theorem Ord.nil : Ord [] := fun pre b post h => by
  have := congrArg List.length h
  simp at this
theorem Ord.append {a b : List Bl} (ha : Ord a) (hb : Ord b) : Ord (a ++ b) := fun pre c post h => by
  rcases List.append_eq_append_iff.1 h with ⟨m, h1, h2⟩ | ⟨m, h1, h2⟩
  · exact (hb m c post h2).more fun x hx => by rw [h1]; exact List.mem_append_right _ hx
  · cases m with
    | nil =>
      rw [List.append_nil] at h1
      exact (hb [] c post h2.symm).more fun x hx => absurd hx List.not_mem_nil
    | cons d m =>
      obtain ⟨rfl, h3⟩ := List.cons.inj h2
      exact ha pre c m h1
theorem Ord.flat {α : Type} {f : α → List Bl} : ∀ (l : List α), (∀ x ∈ l, Ord (f x)) → Ord (l.flatMap f)
  | [], _ => by rw [List.flatMap_nil]; exact Ord.nil
  | x :: l, h => by
    rw [List.flatMap_cons]
    exact (h x List.mem_cons_self).append (Ord.flat l fun y hy => h y (List.mem_cons_of_mem _ hy))
theorem Ord.pieces (ps : List Bs) : Ord (ps.map fun p => ((1, p) : Bl)) := fun pre b post h h2 => by
  have : b ∈ ps.map fun p => ((1, p) : Bl) := by rw [h]; simp
  obtain ⟨p, _, rfl⟩ := List.mem_map.1 this
  cases h2
theorem Ord.snoc {a : List Bl} {b : Bl} (ha : Ord a) (hb : Told a b) : Ord (a ++ [b]) := fun pre c post h => by
  rcases List.append_eq_append_iff.1 h with ⟨m, h1, h2⟩ | ⟨m, h1, h2⟩
  · cases m with
    | nil =>
      obtain ⟨rfl, _⟩ := List.cons.inj h2
      rw [h1, List.append_nil]
      exact hb
    | cons d m =>
      have := congrArg List.length h2
      simp at this
  · cases m with
    | nil =>
      rw [List.append_nil] at h1
      obtain ⟨rfl, _⟩ := List.cons.inj h2
      rw [← h1]
      exact hb
    | cons d m =>
      obtain ⟨rfl, h3⟩ := List.cons.inj h2
      exact ha pre c m h1
theorem own_in {cutf : Bs → List Bs} {w : List It} {p : List Name} (k : Nat) (h : k ≠ 0) : ((2, tx cutf w k p) : Bl) ∈ blobsOf cutf w k p := by
  cases k with
  | zero => exact absurd rfl h
  | succ k => rw [blobsOf]; exact List.mem_append_right _ (by simp)
/-- a directory that could be planted: it and all beneath it are read as they were written -/
theorem plant_ord {cutf : Bs → List Bs} {w : List It} (hg : Good cutf w) : ∀ (k : Nat) (p : List Name) (l l1 : List Bl) (id : Bs), plantDir cutf w k p l = (l1, id, 0) → Ord (blobsOf cutf w k p) := by
  intro k
  induction k with
  | zero =>
    intro p l l1 id h
    rw [plantDir] at h
    exact absurd (congrArg (fun z => z.2.2) h) (by simp)
  | succ k ih =>
    intro p l l1 id h
    rw [plantDir] at h
    rcases ht : things cutf (plantDir cutf w k) (kids It.nms w p) l with ⟨l2, nodes, e1⟩
    rw [ht] at h
    simp only at h
    split at h
    · rename_i q; exact absurd (congrArg (fun z => z.2.2) h) q
    rename_i q
    obtain rfl := Decidable.not_not.mp q
    rcases hs : Td.write nodes with ⟨s, e2⟩
    rw [hs] at h
    simp only at h
    split at h
    · rename_i q; exact absurd (congrArg (fun z => z.2.2) h) q
    rename_i q
    obtain rfl := Decidable.not_not.mp q
    obtain ⟨r1, _⟩ := things_pure (plant_pure cutf w k) (kids It.nms w p) l l2 nodes ht
    obtain ⟨_, _, c3, _⟩ := things_back hg (plant_back hg k) p (kids It.nms w p) l l2 nodes (fun x hx => mem_kids.1 hx) ht
    have hst : s = tx cutf w (k + 1) p := by rw [(write_text hs).1, r1]; rfl
    have hread : Td.read (tx cutf w (k + 1) p) = (nodes, 0) := by rw [← hst]; exact Td.read_write c3 hs
    -- every directory in it was planted
    have sub : ∀ (xs : List It) (l l1 : List Bl) (nodes : List Td.Nd), things cutf (plantDir cutf w k) xs l = (l1, nodes, 0) → ∀ x ∈ xs, x.kind = 2 → Ord (blobsOf cutf w k x.nms) ∧ k ≠ 0 := by
      intro xs
      induction xs with
      | nil => exact fun _ _ _ _ x hx => absurd hx List.not_mem_nil
      | cons y xs ihx =>
        intro l l1 nodes h x hx k2
        rw [things] at h
        rcases hty : thing cutf (plantDir cutf w k) y l with ⟨l2, ids, e1⟩
        rw [hty] at h
        simp only at h
        split at h
        · rename_i q; exact absurd (congrArg (fun z => z.2.2) h) q
        rename_i q
        obtain rfl := Decidable.not_not.mp q
        rcases hr : things cutf (plantDir cutf w k) xs l2 with ⟨l3, ns, e2⟩
        rw [hr] at h
        obtain rfl : e2 = 0 := congrArg (fun z => z.2.2) h
        rcases List.mem_cons.1 hx with rfl | hx
        · unfold thing at hty
          rw [if_neg (by omega), if_pos k2] at hty
          rcases hp : plantDir cutf w k x.nms l with ⟨l4, id, e3⟩
          rw [hp] at hty
          obtain rfl : e3 = 0 := congrArg (fun z => z.2.2) hty
          refine ⟨ih _ _ _ _ hp, fun e => ?_⟩
          subst e
          rw [plantDir] at hp
          exact absurd (congrArg (fun z => z.2.2) hp) (by simp)
        · exact ihx l2 l3 ns hr x hx k2
    rw [blobsOf]
    refine Ord.snoc (Ord.flat _ fun x hx => ?_) ?_
    · unfold blobsIn
      split
      · exact Ord.pieces _
      · split
        · rename_i k2
          exact (sub _ _ _ _ ht x hx k2).1
        · exact Ord.nil
    · intro _
      refine ⟨nodes, hread, fun n hn id hid => ?_⟩
      rw [r1] at hn
      obtain ⟨x, hx, rfl⟩ := List.mem_map.1 hn
      have hid : id ∈ idsOf cutf (tx cutf w k) x := hid
      unfold idsOf at hid
      by_cases k1 : x.kind = 1
      · rw [if_pos k1] at hid
        obtain ⟨q, hq, rfl⟩ := List.mem_map.1 hid
        refine ⟨(1, q), List.mem_flatMap.2 ⟨x, hx, ?_⟩, rfl⟩
        unfold blobsIn
        rw [if_pos k1]
        exact List.mem_map_of_mem hq
      · rw [if_neg k1] at hid
        by_cases k2 : x.kind = 2
        · rw [if_pos k2] at hid
          rw [List.mem_singleton.1 hid]
          refine ⟨(2, tx cutf w k x.nms), List.mem_flatMap.2 ⟨x, hx, ?_⟩, rfl⟩
          unfold blobsIn
          rw [if_neg k1, if_pos k2]
          exact own_in k (sub _ _ _ _ ht x hx k2).2
        · rw [if_neg k2] at hid
          exact absurd hid List.not_mem_nil
/-- P47, P49: what is told, in order: IDs that are unlike, each tree's parts told ahead of it -/
theorem told_once {cutf : Bs → List Bs} {w : List It} (hg : Good cutf w) {l : List Bl} {id : Bs} (h : plantDir cutf w 9 [] [] = (l, id, 0)) :
    Fine l ∧ (l.map Pk.bid).Nodup ∧ ∀ i b, l[i]? = some b → Told (l.take i) b := by
  obtain ⟨_, b2, _⟩ := plant_back hg 9 [] [] l id h
  have hF : Fine l := b2 ⟨fun _ q => absurd q List.not_mem_nil, fun _ q => absurd q List.not_mem_nil⟩
  have el := (plant_pure cutf w 9 [] [] l id h).2
  have hnd : l.Nodup := by rw [el]; exact tell_nodup _ [] List.nodup_nil
  refine ⟨hF, fine_ids hF hnd, fun i b hb => ?_⟩
  have ho := plant_ord hg 9 [] [] l id h
  rw [el] at hb ⊢
  obtain ⟨pre, post, e1, e2⟩ := tell_first _ _ rfl i b hb
  rw [e2]
  exact (ho pre b post e1).more fun x hx => (mem_tell pre [] x).2 (.inr hx)
end Wk
end Go.Proofs.YtimdioacmojkeaaGreatDoor

namespace Go.Proofs.YtimdioacmojkeaaGreatDoor
namespace Wk
open Nn (Name)
open Pk (Bl)

/-- what a planted directory's things were planted with -/
theorem things_at {cutf : Bs → List Bs} {w : List It} {k : Nat} : ∀ (xs : List It) (l l1 : List Bl) (nodes : List Td.Nd), things cutf (plantDir cutf w k) xs l = (l1, nodes, 0) → ∀ x ∈ xs, x.kind = 2 →
    ∃ l' l1' id, plantDir cutf w k x.nms l' = (l1', id, 0) ∧ ∀ y ∈ l1', y ∈ l1 := by
  intro xs
  induction xs with
  | nil => exact fun _ _ _ _ x hx => absurd hx List.not_mem_nil
  | cons y xs ihx =>
    intro l l1 nodes h x hx k2
    rw [things] at h
    rcases hty : thing cutf (plantDir cutf w k) y l with ⟨l2, ids, e1⟩
    rw [hty] at h
    simp only at h
    split at h
    · rename_i q; exact absurd (congrArg (fun z => z.2.2) h) q
    rename_i q
    obtain rfl := Decidable.not_not.mp q
    rcases hr : things cutf (plantDir cutf w k) xs l2 with ⟨l3, ns, e2⟩
    rw [hr] at h
    obtain rfl : l3 = l1 := congrArg (fun z => z.1) h
    obtain rfl : e2 = 0 := congrArg (fun z => z.2.2) h
    rcases List.mem_cons.1 hx with rfl | hx
    · unfold thing at hty
      rw [if_neg (by omega), if_pos k2] at hty
      rcases hp : plantDir cutf w k x.nms l with ⟨l4, id, e3⟩
      rw [hp] at hty
      obtain rfl : l4 = l2 := congrArg (fun z => z.1) hty
      obtain rfl : e3 = 0 := congrArg (fun z => z.2.2) hty
      exact ⟨_, _, _, hp, things_pure_sub hr⟩
    · exact ihx l2 l3 ns hr x hx k2
where
  things_pure_sub {cutf : Bs → List Bs} {w : List It} {k : Nat} {xs : List It} {l l1 : List Bl} {nodes : List Td.Nd} (h : things cutf (plantDir cutf w k) xs l = (l1, nodes, 0)) : ∀ y ∈ l, y ∈ l1 := fun y hy => by
    rw [(things_pure (plant_pure cutf w k) xs l l1 nodes h).2]
    exact (mem_tell _ _ y).2 (.inl hy)
/-- a directory that was planted: its nodes, read out of its text -/
theorem dir_read {cutf : Bs → List Bs} {w : List It} (hg : Good cutf w) {k : Nat} {p : List Name} {l l1 : List Bl} {id : Bs} (h : plantDir cutf w (k + 1) p l = (l1, id, 0)) :
    Td.read (tx cutf w (k + 1) p) = (nodesOf cutf w k p, 0) ∧ ∀ x ∈ kids It.nms w p, x.kind = 2 → ∃ l' l1' id', plantDir cutf w k x.nms l' = (l1', id', 0) ∧ ∀ y ∈ l1', y ∈ l1 := by
  rw [plantDir] at h
  rcases ht : things cutf (plantDir cutf w k) (kids It.nms w p) l with ⟨l2, nodes, e1⟩
  rw [ht] at h
  simp only at h
  split at h
  · rename_i q; exact absurd (congrArg (fun z => z.2.2) h) q
  rename_i q
  obtain rfl := Decidable.not_not.mp q
  rcases hs : Td.write nodes with ⟨s, e2⟩
  rw [hs] at h
  simp only at h
  split at h
  · rename_i q; exact absurd (congrArg (fun z => z.2.2) h) q
  rename_i q
  obtain rfl := Decidable.not_not.mp q
  obtain ⟨r1, r2⟩ := things_pure (plant_pure cutf w k) (kids It.nms w p) l l2 nodes ht
  obtain ⟨_, _, c3, _⟩ := things_back hg (plant_back hg k) p (kids It.nms w p) l l2 nodes (fun x hx => mem_kids.1 hx) ht
  obtain ⟨_, _, _, i4, _⟩ := into_ok h
  have hst : s = tx cutf w (k + 1) p := by rw [(write_text hs).1, r1]; rfl
  refine ⟨?_, fun x hx k2 => (things_at _ _ _ _ ht x hx k2).imp fun _ h => h.imp fun _ h => h.imp fun _ h => ⟨h.1, fun y hy => i4 y (h.2 y hy)⟩⟩
  rw [← hst, Td.read_write c3 hs, r1]
  rfl
/-- who needs a blob -/
def Needed (bs : List Bl) (b : Bl) : Prop := ∃ t ∈ bs, t.1 = 2 ∧ ∃ nodes, Td.read t.2 = (nodes, 0) ∧ ∃ n ∈ nodes, Pk.bid b ∈ n.parts
/-- all but the directory's own are needed -/
theorem all_needed {cutf : Bs → List Bs} {w : List It} (hg : Good cutf w) : ∀ (k : Nat) (p : List Name) (l l1 : List Bl) (id : Bs), plantDir cutf w k p l = (l1, id, 0) → ∀ b ∈ blobsOf cutf w k p, b = (2, tx cutf w k p) ∨ Needed (blobsOf cutf w k p) b := by
  intro k
  induction k with
  | zero =>
    intro p l l1 id h
    rw [plantDir] at h
    exact absurd (congrArg (fun z => z.2.2) h) (by simp)
  | succ k ih =>
    intro p l l1 id h b hb
    obtain ⟨hread, hsub⟩ := dir_read hg h
    have hown : ((2, tx cutf w (k + 1) p) : Bl) ∈ blobsOf cutf w (k + 1) p := own_in (k + 1) (by omega)
    have need : ∀ x ∈ kids It.nms w p, ∀ i ∈ idsOf cutf (tx cutf w k) x, Pk.bid b = i → Needed (blobsOf cutf w (k + 1) p) b := fun x hx i hi e =>
      ⟨_, hown, rfl, _, hread, node x (idsOf cutf (tx cutf w k) x), List.mem_map_of_mem hx, by rw [e]; exact hi⟩
    have hb' := hb
    rw [blobsOf] at hb'
    rcases List.mem_append.1 hb' with hb' | hb'
    · right
      obtain ⟨x, hx, hbx⟩ := List.mem_flatMap.1 hb'
      unfold blobsIn at hbx
      by_cases k1 : x.kind = 1
      · rw [if_pos k1] at hbx
        obtain ⟨q, hq, rfl⟩ := List.mem_map.1 hbx
        refine need x hx _ ?_ rfl
        unfold idsOf
        rw [if_pos k1]
        exact List.mem_map_of_mem (f := fun p => Pk.bid (1, p)) hq
      · rw [if_neg k1] at hbx
        by_cases k2 : x.kind = 2
        · rw [if_pos k2] at hbx
          obtain ⟨l', l1', id', hp, _⟩ := hsub x hx k2
          rcases ih _ _ _ _ hp b hbx with rfl | ⟨t, ht, h1, h2⟩
          · refine need x hx _ ?_ rfl
            unfold idsOf
            rw [if_neg k1, if_pos k2]
            exact List.mem_singleton.2 rfl
          · refine ⟨t, ?_, h1, h2⟩
            rw [blobsOf]
            refine List.mem_append_left _ (List.mem_flatMap.2 ⟨x, hx, ?_⟩)
            unfold blobsIn
            rw [if_neg k1, if_pos k2]
            exact ht
        · rw [if_neg k2] at hbx
          exact absurd hbx List.not_mem_nil
    · exact .inl (List.mem_singleton.1 hb')
/-- a tree blob among the blobs of a directory is a directory's, which was planted -/
theorem tree_at {cutf : Bs → List Bs} {w : List It} (hg : Good cutf w) : ∀ (k : Nat) (p : List Name) (l l1 : List Bl) (id : Bs), plantDir cutf w k p l = (l1, id, 0) → ∀ b ∈ blobsOf cutf w k p, b.1 = 2 →
    ∃ k' q l' l1' id', plantDir cutf w k' q l' = (l1', id', 0) ∧ b = (2, tx cutf w k' q) ∧ (∀ y ∈ l1', y ∈ l1) ∧ (q = p ∨ ∃ d ∈ w, d.nms = q) := by
  intro k
  induction k with
  | zero =>
    intro p l l1 id h
    rw [plantDir] at h
    exact absurd (congrArg (fun z => z.2.2) h) (by simp)
  | succ k ih =>
    intro p l l1 id h b hb b2
    obtain ⟨_, hsub⟩ := dir_read hg h
    rw [blobsOf] at hb
    rcases List.mem_append.1 hb with hb | hb
    · obtain ⟨x, hx, hbx⟩ := List.mem_flatMap.1 hb
      unfold blobsIn at hbx
      by_cases k1 : x.kind = 1
      · rw [if_pos k1] at hbx
        obtain ⟨q, _, rfl⟩ := List.mem_map.1 hbx
        cases b2
      · rw [if_neg k1] at hbx
        by_cases k2 : x.kind = 2
        · rw [if_pos k2] at hbx
          obtain ⟨l', l1', id', hp, hs⟩ := hsub x hx k2
          obtain ⟨k', q, a, a1, i, h1, h2, h3, h4⟩ := ih _ _ _ _ hp b hbx b2
          refine ⟨k', q, a, a1, i, h1, h2, fun y hy => hs y (h3 y hy), .inr ?_⟩
          rcases h4 with h4 | h4
          · exact ⟨x, (mem_kids.1 hx).1, h4.symm⟩
          · exact h4
        · rw [if_neg k2] at hbx
          exact absurd hbx List.not_mem_nil
    · exact ⟨k + 1, p, l, l1, id, h, List.mem_singleton.1 hb, fun _ q => q, .inl rfl⟩
/-- how many items lie beneath an ID -/
def cnt (L : List Bl) : Nat → Bs → Nat
  | 0, _ => 0
  | k + 1, id => ((Td.read (blobOf L id 2).1).1.map fun n => 1 + (if n.kind = 2 then cnt L k (n.parts.headD []) else 0)).sum
theorem reap_cnt (L : List Bl) : ∀ (k : Nat) (id : Bs) (p : List Name) (acc r : List It), reapDir L k id p acc = (r, 0) → r.length = acc.length + cnt L k id ∧ ∀ j, cnt L (k + j) id = cnt L k id := by
  intro k
  induction k with
  | zero =>
    intro id p acc r h
    rw [reapDir] at h
    exact absurd (congrArg (fun z => z.2) h) (by simp)
  | succ k ih =>
    intro id p acc r h
    rw [reapDir] at h
    split at h
    · rename_i q; exact absurd (congrArg (fun z => z.2) h) q
    simp only at h
    split at h
    · rename_i q; exact absurd (congrArg (fun z => z.2) h) q
    have inner : ∀ (nodes : List Td.Nd) (acc r : List It), reapNodes L (reapDir L k) p nodes acc = (r, 0) → r.length = acc.length + (nodes.map fun n => 1 + (if n.kind = 2 then cnt L k (n.parts.headD []) else 0)).sum ∧
        ∀ j, (nodes.map fun n => 1 + (if n.kind = 2 then cnt L (k + j) (n.parts.headD []) else 0)).sum = (nodes.map fun n => 1 + (if n.kind = 2 then cnt L k (n.parts.headD []) else 0)).sum := by
      intro nodes
      induction nodes with
      | nil =>
        intro acc r h
        rw [reapNodes] at h
        obtain rfl : acc = r := congrArg (fun z => z.1) h
        exact ⟨by simp, fun j => by simp⟩
      | cons n nodes ihn =>
        intro acc r h
        rw [reapNodes] at h
        split at h
        · exact absurd (congrArg (fun z => z.2) h) (by simp)
        split at h
        · exact absurd (congrArg (fun z => z.2) h) (by simp)
        rcases hf : (if n.kind = 1 then reapFile L n.size n.parts [] else (n.link, 0)) with ⟨bt, e1⟩
        simp only [hf] at h
        by_cases h1 : e1 ≠ 0
        · rw [if_pos h1] at h
          exact absurd (congrArg (fun z => z.2) h) h1
        rw [if_neg h1] at h
        rcases hsd : (if n.kind = 2 then reapDir L k (n.parts.headD []) (p ++ [n.name]) (acc ++ [item p n bt]) else (acc ++ [item p n bt], 0)) with ⟨w1, e2⟩
        simp only [hsd] at h
        by_cases h2 : e2 ≠ 0
        · rw [if_pos h2] at h
          exact absurd (congrArg (fun z => z.2) h) h2
        rw [if_neg h2] at h
        obtain rfl := Decidable.not_not.mp h2
        obtain ⟨i1, i2⟩ := ihn _ _ h
        by_cases k2 : n.kind = 2
        · rw [if_pos k2] at hsd
          obtain ⟨d1, d2⟩ := ih _ _ _ _ hsd
          refine ⟨?_, fun j => ?_⟩
          · rw [i1, d1, List.map_cons, List.sum_cons, if_pos k2, List.length_append, List.length_singleton]
            omega
          · rw [List.map_cons, List.map_cons, List.sum_cons, List.sum_cons, i2 j, if_pos k2, if_pos k2, d2 j]
        · rw [if_neg k2] at hsd
          obtain rfl : acc ++ [item p n bt] = w1 := congrArg (fun z => z.1) hsd
          refine ⟨?_, fun j => ?_⟩
          · rw [i1, List.map_cons, List.sum_cons, if_neg k2, List.length_append, List.length_singleton]
            omega
          · rw [List.map_cons, List.map_cons, List.sum_cons, List.sum_cons, i2 j, if_neg k2, if_neg k2]
    obtain ⟨a1, a2⟩ := inner _ _ _ h
    refine ⟨by rw [a1, cnt], fun j => ?_⟩
    rw [show k + 1 + j = (k + j) + 1 from by omega, cnt, cnt, a2 j]
theorem dfs_sub {w : List It} : ∀ (k : Nat) (p : List Name) (x : It), x ∈ dfs It.nms It.dir w k p → x ∈ w
  | 0, _, _, h => absurd h List.not_mem_nil
  | k + 1, p, x, h => by
    rw [dfs, List.mem_flatMap] at h
    obtain ⟨y, hy, hx⟩ := h
    rcases List.mem_cons.1 hx with rfl | hx
    · exact (mem_kids.1 hy).1
    · split at hx
      · exact dfs_sub k y.nms x hx
      · exact absurd hx List.not_mem_nil
theorem dfs_nodup {w : List It} (hs : Sorted It.nms w) (k : Nat) (p : List Name) : (dfs It.nms It.dir w k p).Nodup := by
  refine List.Pairwise.imp ?_ (dfs_sorted hs k p)
  intro a b h e
  rw [e, Nn.ahead_irr] at h
  cases h
/-- the root's blob is told last: no directory beneath it has its text -/
theorem root_last {cutf : Bs → List Bs} {w : List It} (hg : Good cutf w) (hw : w.length ≤ 100) {l : List Bl} {id : Bs} (h : plantDir cutf w 9 [] [] = (l, id, 0)) :
    ((2, tx cutf w 9 []) : Bl) ∉ (kids It.nms w []).flatMap (blobsIn cutf (blobsOf cutf w 8)) := fun hm => by
  obtain ⟨x, hx, hbx⟩ := List.mem_flatMap.1 hm
  have hid := (plant_pure cutf w 9 [] [] l id h).1
  obtain ⟨_, b2, _, b4⟩ := plant_back hg 9 [] [] l id h
  have hF : Fine l := b2 ⟨fun _ q => absurd q List.not_mem_nil, fun _ q => absurd q List.not_mem_nil⟩
  have hd9 : dfs It.nms It.dir w 9 [] = w := dfs_all hg.right.sorted hg.right.closed 9 fun x hx => by
    have := errsF_few _ 0 (errs_nms (iErr_ok (hg.right.each x hx))) (by omega)
    omega
  have hroot := b4 l hF (fun _ q => q) [] (by rw [hd9, List.length_nil]; omega)
  rw [hd9, List.nil_append] at hroot
  obtain ⟨c1, c2⟩ := reap_cnt l 9 id [] [] w hroot
  -- a directory beneath with the root's text
  obtain ⟨k', q, a, a1, i, h1, h2, h3, d, hdw, hdq⟩ : ∃ k' q l' l1' id', plantDir cutf w k' q l' = (l1', id', 0) ∧ ((2, tx cutf w 9 []) : Bl) = (2, tx cutf w k' q) ∧ (∀ y ∈ l1', y ∈ l) ∧ ∃ d ∈ w, d.nms = q := by
    unfold blobsIn at hbx
    by_cases k1 : x.kind = 1
    · rw [if_pos k1] at hbx
      obtain ⟨q, _, e⟩ := List.mem_map.1 hbx
      cases congrArg Prod.fst e
    · rw [if_neg k1] at hbx
      by_cases k2 : x.kind = 2
      · rw [if_pos k2] at hbx
        obtain ⟨l', l1', id', hp, hs⟩ := (dir_read hg h).2 x hx k2
        obtain ⟨k', q, a, a1, i, h1, h2, h3, h4⟩ := tree_at hg _ _ _ _ _ hp _ hbx rfl
        refine ⟨k', q, a, a1, i, h1, h2, fun y hy => hs y (h3 y hy), ?_⟩
        rcases h4 with h4 | h4
        · exact ⟨x, (mem_kids.1 hx).1, h4.symm⟩
        · exact h4
      · rw [if_neg k2] at hbx
        exact absurd hbx List.not_mem_nil
  have hsub : (dfs It.nms It.dir w k' q).length + 1 ≤ w.length := by
    haveI : DecidableEq It := fun _ _ => Classical.propDecidable _
    have := nodup_le (a := d :: dfs It.nms It.dir w k' q) (b := w) (List.nodup_cons.2 ⟨fun hm => ?_, dfs_nodup hg.right.sorted k' q⟩) fun y hy => ?_
    · rwa [List.length_cons] at this
    · obtain ⟨r, hr, er⟩ := dfs_beneath k' q d hm
      rw [hdq] at er
      exact hr (List.append_cancel_left (er.symm.trans (List.append_nil q).symm))
    · rcases List.mem_cons.1 hy with rfl | hy
      · exact hdw
      · exact dfs_sub _ _ _ hy
  obtain ⟨_, _, _, e4⟩ := plant_back hg k' q a a1 i h1
  have hi : i = id := by rw [(plant_pure cutf w k' q a a1 i h1).1, ← h2, hid]
  have hq := e4 l hF h3 [] (by rw [List.length_nil]; omega)
  rw [hi, List.nil_append] at hq
  obtain ⟨f1, f2⟩ := reap_cnt l k' id q [] _ hq
  have e1 := c2 k'
  have e2 := f2 9
  rw [Nat.add_comm] at e1
  rw [List.length_nil] at c1 f1
  omega
end Wk
end Go.Proofs.YtimdioacmojkeaaGreatDoor

namespace Go.Proofs.YtimdioacmojkeaaGreatDoor
namespace Wk
/-- a file in a directory -/
def small : List It := [⟨[47, 100], 2, 0, 0, []⟩, ⟨[47, 100, 47, 102], 1, 0, 0, [48, 49, 50, 51, 52, 53, 54, 55, 56, 57, 97, 98, 99, 100, 101, 102, 48, 49, 50, 51, 52, 53, 54, 55, 56, 57, 97, 98, 99, 100, 101, 102, 33]⟩]
theorem small_world : world small = 0 := by decide +kernel
theorem small_plant : (plantDir (Ck.fixed 16) small 9 [] []).2.2 = 0 ∧ (plantDir (Ck.fixed 16) small 9 [] []).1.length = 4 := by decide +kernel
end Wk
end Go.Proofs.YtimdioacmojkeaaGreatDoor

namespace Go.Proofs.YtimdioacmojkeaaGreatDoor
open Go.RowKit
set_option maxRecDepth 4000
namespace Wk
/-- blobs into a heap, one by one -/
def gath : List Pk.Bl → List Pk.Bl → List Pk.Bl × Int
  | [], l => (l, 0)
  | b :: r, l => if (into l b).2.2 ≠ 0 then ([], (into l b).2.2) else gath r (into l b).1
def heapP (l : List Pk.Bl) : List Pk.Bl × Int := if 1000 < l.length then ([], 2) else gath l []
end Wk
theorem pl_length (l : List Blb) : (pl l).length = l.length := List.length_map _
theorem gath_step {l : List Blb} {j : Nat} {x : Blb} (hx : l[j]? = some x) {bk : List Blb} {R : List Pk.Bl × Int} (h : R = Wk.gath (pl (l.drop j)) (pl bk)) :
    (errI bk x ≠ 0 → R = ([], errI bk x)) ∧ (errI bk x = 0 → R = Wk.gath (pl (l.drop (j + 1))) (pl (more bk x))) := by
  have hlt := (List.getElem?_eq_some_iff.1 hx).1
  have e0 : pl (l.drop j) = x.p :: pl (l.drop (j + 1)) := by
    rw [List.drop_eq_getElem_cons hlt, (List.getElem?_eq_some_iff.1 hx).2]; rfl
  rw [e0, Wk.gath] at h
  constructor
  · intro hE
    rw [h, if_pos (show (Wk.into (pl bk) x.p).2.2 ≠ 0 from hE)]; rfl
  · intro hE
    rw [h, if_neg (show ¬ (Wk.into (pl bk) x.p).2.2 ≠ 0 from fun q => q hE), more_pl hE]
theorem Mp.keptne {w w' : World} {m n : Nat} {l : List (List UInt8 × Value)} (h : Mp w m n l) (hb : Below w.heap.size w w') : Mp w' m n l := h.below hb

set_option maxHeartbeats 4000000 in
set_option maxRecDepth 10000 in
theorem heapOf_any (v : Value) (l : List Blb) (w : World) (h : Bx w v l) (hok : BOk l) (hl : l.length ≤ 140737488351232) (R : List Pk.Bl × Int) (hR : R = Wk.heapP (pl l)) :
    Calls Tryz.prog 36 #[v] w fun e w' => ∃ hv, e = .returned (.tuple #[hv, .int .i64 R.2]) ∧ Below w.heap.size w w' ∧ (R.2 ≠ 0 → hv = .map none) ∧ (R.2 = 0 → ∃ m n bs, hv = .map (some m) ∧ n ≤ 1000 ∧ bs.length ≤ 1000 ∧ pl bs = R.1 ∧ w.heap.size ≤ m ∧ Mp w' m n (mpB bs)) := by
  obtain ⟨a, c, rfl, hc1, hc2⟩ := h.slice
  by_cases h1000 : 1000 < l.length
  · have HR : Hid (R = ([], 2)) := by show _ = _; rw [hR]; unfold Wk.heapP; rw [if_pos (by rw [pl_length]; exact h1000)]
    clear hR
    generalize l.length = n at *
    go_enter Tryz.func36, Tryz.ntmps36
    go_wp2_with fail
    go_ret2
    exact ⟨_, by rw [HR.out]; rfl, Below.refl _ _, fun _ => rfl, fun e => by rw [HR.out] at e; cases e⟩
  have HR0 : Hid (R = Wk.gath (pl (l.drop 0)) (pl [])) := by
    show _ = _; rw [hR]; unfold Wk.heapP; rw [if_neg (by rw [pl_length]; exact h1000)]; rfl
  have HX : Hid (Bx w (.slice a l.length c) l) := h
  have HK : Hid (BOk l) := hok
  have hmk := run_makeMap (P := Tryz.prog) 57 w
  have HM0 : Hid (Mp (w.alloc (.map #[] 0)) w.heap.size 0 (mpB [])) := Mp.new w
  have HB0 : Hid (Below w.heap.size w (w.alloc (.map #[] 0))) := (Below.refl _ w).alloc (Nat.le_refl _) _
  have hl1000 : l.length ≤ 1000 := by omega
  obtain ⟨N, hN⟩ : ∃ N, N = l.length := ⟨_, rfl⟩
  have HN : Hid (N = l.length) := hN
  rw [← hN] at HX hl1000 hc1 ⊢
  clear h hok hR h1000 hN
  go_enter Tryz.func36, Tryz.ntmps36
  go_wp2_with fail
  go_loopw [16] (fun i wr => ∃ (j n : Nat) (bk : List Blb), j ≤ N ∧ i = .int .i64 j ∧ n ≤ j ∧ bk.length ≤ j ∧ Hid (R = Wk.gath (pl (l.drop j)) (pl bk)) ∧ Hid (Mp wr w.heap.size n (mpB bk)) ∧ Hid (Below w.heap.size w wr)) (fun i _ => N - (intOf i).toNat)
  case atStart => exact ⟨0, 0, [], by omega, rfl, Nat.le_refl _, by simp, HR0, HM0, HB0⟩
  case round =>
    clear HR0 HM0 HB0 hmk
    obtain ⟨j, n, bk, hj, rfl, hnj, hbj, HR, HM, HB⟩ := hrel
    by_cases hlt : j < N
    · have hjl : j < l.length := by rw [← HN.out]; exact hlt
      obtain ⟨x, hx⟩ : ∃ x, l[j]? = some x := ⟨_, List.getElem?_eq_getElem hjl⟩
      have hXr := HX.out.below HB.out
      rw [HN.out] at hXr
      obtain ⟨kb, ko, rfl, hkb, x0, x1⟩ := hXr.blob j x hx
      obtain ⟨s1, s2⟩ := gath_step hx HR.out
      have HS1 : Hid (errI bk x ≠ 0 → R = ([], errI bk x)) := s1
      have HS2 : Hid (errI bk x = 0 → R = Wk.gath (pl (l.drop (j + 1))) (pl (more bk x))) := s2
      have hmore := more_length bk x
      obtain ⟨WA, hWA⟩ : ∃ WA, WA = wr.alloc (.cells #[.int .i64 x.kind, .string x.bytes] 37) := ⟨_, rfl⟩
      have hbA : Below wr.heap.size wr WA := by rw [hWA]; exact (Below.refl _ wr).alloc (Nat.le_refl _) _
      have HBA : Hid (Below w.heap.size w WA) := HB.out.trans (hbA.mono HB.out.size)
      have hput := hput_any w.heap.size n bk x WA (HM.out.below hbA) (by omega) (HK.out x (List.mem_of_getElem? hx)).2
      obtain ⟨b0, b1, b2, b3, b4, b5, b6, b7, hL⟩ := eight _ (idI_length bk x)
      have hput' : Calls Tryz.prog 56 #[.map (some w.heap.size), .agg #[.int .i64 x.kind, .string x.bytes]] WA fun e w' => e = .returned (.tuple #[.agg #[.int .u8 (b0.toNat : Int), .int .u8 (b1.toNat : Int), .int .u8 (b2.toNat : Int), .int .u8 (b3.toNat : Int), .int .u8 (b4.toNat : Int), .int .u8 (b5.toNat : Int), .int .u8 (b6.toNat : Int), .int .u8 (b7.toNat : Int)], .bool (newI bk x), .int .i64 (errI bk x)]) ∧ (∃ n', n' ≤ n + 1 ∧ Mp w' w.heap.size n' (mpB (more bk x))) ∧ Kept (fun k => k ≠ w.heap.size) WA w' := by
        rw [hL] at hput
        exact hput
      have hmw : w.heap.size < WA.heap.size := by have := HM.out.lt; have := hbA.size; omega
      generalize newI bk x = NW at *
      generalize errI bk x = ER at *
      generalize more bk x = MB at *
      obtain ⟨xk, xb⟩ := x
      dsimp only at *
      clear hput hL s1 s2 hXr hx hjl hbA HM HR
      go_wp2_with fail
      rw [← hWA]
      refine hput'.mono ?_
      rintro e w3 ⟨rfl, ⟨n', hn', hm3⟩, k3⟩
      have HB3 : Hid (Below w.heap.size w w3) := HBA.out.trans (k3.below (Nat.le_of_lt hmw) (fun k hk => by omega))
      have HM3 : Hid (Mp w3 w.heap.size n' (mpB MB)) := hm3
      have hs3 := HB3.out.size
      clear hWA hput' hm3 k3 x0 x1 hkb hmw HB HBA
      by_cases hE : ER = 0
      · have HR2 := (show Hid _ from HS2.out hE)
        subst hE
        have HB4 : Hid (Below w.heap.size w (w3.alloc (.cells #[.int .u8 (b0.toNat : Int), .int .u8 (b1.toNat : Int), .int .u8 (b2.toNat : Int), .int .u8 (b3.toNat : Int), .int .u8 (b4.toNat : Int), .int .u8 (b5.toNat : Int), .int .u8 (b6.toNat : Int), .int .u8 (b7.toNat : Int)] 29))) := HB3.out.alloc hs3 _
        have HM4 : Hid (Mp (w3.alloc (.cells #[.int .u8 (b0.toNat : Int), .int .u8 (b1.toNat : Int), .int .u8 (b2.toNat : Int), .int .u8 (b3.toNat : Int), .int .u8 (b4.toNat : Int), .int .u8 (b5.toNat : Int), .int .u8 (b6.toNat : Int), .int .u8 (b7.toNat : Int)] 29)) w.heap.size n' (mpB MB)) := HM3.out.below ((Below.refl _ w3).alloc (Nat.le_refl _) _)
        clear HS1 HS2
        go_wp2_with fail
        go_roundw
        case measure => simp only [intOf]; omega
        case rel => exact ⟨j + 1, n', MB, by omega, by go_num, by omega, by omega, HR2, HM4, HB4⟩
      · have hRe := HS1.out hE
        have HRe : Hid (R = ([], ER)) := hRe
        have hne : (ER != 0) = true := by rw [bne_iff_ne]; exact hE
        have HE : Hid (ER ≠ 0) := hE
        have HB4 : Hid (Below w.heap.size w (w3.alloc (.cells #[.int .u8 (b0.toNat : Int), .int .u8 (b1.toNat : Int), .int .u8 (b2.toNat : Int), .int .u8 (b3.toNat : Int), .int .u8 (b4.toNat : Int), .int .u8 (b5.toNat : Int), .int .u8 (b6.toNat : Int), .int .u8 (b7.toNat : Int)] 29))) := HB3.out.alloc hs3 _
        clear HS1 HS2 hRe hE
        go_wp2_with fail
        go_ret2
        exact ⟨_, by rw [HRe.out]; rfl, HB4.out, fun _ => rfl, fun e => by rw [HRe.out] at e; exact absurd e HE.out⟩
    · obtain rfl : j = N := by omega
      have HRe : Hid (R = (pl bk, 0)) := by
        have e : l.drop j = [] := by rw [HN.out]; exact List.drop_of_length_le (Nat.le_refl _)
        show _ = _
        rw [HR.out, e]; rfl
      clear HR
      go_wp2_with fail
      go_ret2
      exact ⟨_, by rw [HRe.out]; rfl, HB.out, fun e => absurd (by rw [HRe.out]) e, fun _ => ⟨_, n, bk, rfl, by omega, by omega, by rw [HRe.out], Nat.le_refl _, HM.out⟩⟩
end Go.Proofs.YtimdioacmojkeaaGreatDoor

namespace Go.Proofs.YtimdioacmojkeaaGreatDoor
open Go.RowKit
set_option maxRecDepth 4000

theorem rfile_step {L : List Pk.Bl} {size : Int} {ps : List Wk.Bs} {j : Nat} {id : Wk.Bs} (hx : ps[j]? = some id) {out : Wk.Bs} {R : Wk.Bs × Int} (h : R = Wk.reapFile L size (ps.drop j) out) :
    ((Wk.blobOf L id 1).2 ≠ 0 → R = ([], (Wk.blobOf L id 1).2)) ∧ ((Wk.blobOf L id 1).2 = 0 → size < ((out ++ (Wk.blobOf L id 1).1).length : Int) → R = ([], 4)) ∧
    ((Wk.blobOf L id 1).2 = 0 → ¬ size < ((out ++ (Wk.blobOf L id 1).1).length : Int) → R = Wk.reapFile L size (ps.drop (j + 1)) (out ++ (Wk.blobOf L id 1).1)) := by
  have hlt := (List.getElem?_eq_some_iff.1 hx).1
  have e0 : ps.drop j = id :: ps.drop (j + 1) := by rw [List.drop_eq_getElem_cons hlt, (List.getElem?_eq_some_iff.1 hx).2]
  rw [e0, Wk.reapFile] at h
  refine ⟨fun hE => ?_, fun hE hs => ?_, fun hE hs => ?_⟩
  · rw [h, if_pos hE]
  · rw [h, if_neg (fun q => q hE), if_pos hs]
  · rw [h, if_neg (fun q => q hE), if_neg hs]
/-- blobs of a heap are of at most 4096 bytes -/
def Sm (bs : List Blb) : Prop := ∀ x ∈ bs, x.bytes.size ≤ 4096
theorem blobOf_small {bs : List Blb} (h : Sm bs) (id : Wk.Bs) (k : Int) : (Wk.blobOf (pl bs) id k).1.length ≤ 4096 := by
  unfold Wk.blobOf
  rcases find_bid bs id with ⟨h1, _⟩ | ⟨o, ho, h1, _⟩
  · rw [h1]; simp
  · rw [h1]
    dsimp only
    split
    · simp
    · have := h o ho
      rw [Lib.size_eq] at this
      exact this

set_option maxHeartbeats 4000000 in
set_option maxRecDepth 10000 in
theorem rfile_any (b m nq : Nat) (bs : List Blb) (n : Nod) (pv iv : Value) (w : World) (hb : w.heap[b]? = some (.cells #[.map (some m), iv] 79 (0, 0))) (hm : Mp w m nq (mpB bs)) (hsm : Sm bs)
    (hp : Rx 8 idC w pv n.parts) (h8 : ∀ t ∈ n.parts, t.length = 8) (hs0 : 0 ≤ n.size) (hs1 : n.size ≤ 4096) (hl : n.parts.length ≤ 300) (R : Wk.Bs × Int) (hR : R = Wk.reapFile (pl bs) n.size n.parts []) :
    Calls Tryz.prog 84 #[.pointer (some ⟨b, 0, none⟩), .agg (ndC n pv).toArray] w fun e w' => e = .returned (.tuple #[.string ⟨R.1.toArray⟩, .int .i64 R.2]) ∧ Below w.heap.size w w' ∧ R.1.length ≤ 4096 := by
  obtain ⟨i0, hi, hz0, hz1, hz2⟩ := info_parts info_u8
  obtain ⟨name, kind, mode, time, size, parts, link⟩ := n
  dsimp only [ndC] at *
  obtain ⟨sz, rfl⟩ := Int.eq_ofNat_of_zero_le hs0
  obtain ⟨pa, pc, rfl, hpc1, hpc2⟩ := hp.slice
  obtain ⟨W1, hW1⟩ : ∃ W1, W1 = w.alloc (.cells #[.string name, .int .i64 kind, .int .i64 mode, .int .i64 time, .int .i64 sz, .slice pa parts.length pc, .string link] 89) := ⟨_, rfl⟩
  have hB1 : Below w.heap.size w W1 := by rw [hW1]; exact (Below.refl _ w).alloc (Nat.le_refl _) _
  have HB1 : Hid (Below w.heap.size w W1) := hB1
  have HW1s : Hid (W1.heap.size = w.heap.size + 1) := by show _ = _; rw [hW1, World.size_alloc]
  have HM : Hid (W1.heap[w.heap.size]? = some (.cells #[.string name, .int .i64 kind, .int .i64 mode, .int .i64 time, .int .i64 sz, .slice pa parts.length pc, .string link] 89 (0, 0))) := by rw [hW1]; exact heap_alloc_new w _
  have HR0 : Hid (R = Wk.reapFile (pl bs) sz (parts.drop 0) []) := hR
  have HX : Hid (Rx 8 idC w (.slice pa parts.length pc) parts) := hp
  have HR2 : Hid (w.heap[b]? = some (.cells #[.map (some m), iv] 79 (0, 0))) := hb
  have HMp : Hid (Mp w m nq (mpB bs)) := hm
  have HSm : Hid (Sm bs) := hsm
  have H8 : Hid (∀ t ∈ parts, t.length = 8) := h8
  obtain ⟨n0, n1, n2, n3, n4, n5, n6, nlt⟩ := sev_at HM.out
  obtain ⟨N, hN⟩ : ∃ N, N = parts.length := ⟨_, rfl⟩
  have HN : Hid (N = parts.length) := hN
  rw [← hN] at HX n5 HM hl ⊢
  obtain ⟨PB, hPB⟩ : ∃ PB, PB = w.heap.size := ⟨_, rfl⟩
  have HPB : Hid (PB = w.heap.size) := hPB
  rw [← hN] at hW1
  clear hR hp hb hm hsm h8 hB1 hpc1 hpc2 hN
  go_enter Tryz.func84, Tryz.ntmps84
  go_upto_region 1 with fail
  rw [← hW1]
  clear hW1
  rw [← hPB] at HM n0 n1 n2 n3 n4 n5 n6 nlt ⊢
  clear hPB
  go_wp2_with fail
  go_loopw [6, 14] (fun vo i wr => ∃ (j : Nat) (out : Wk.Bs), j ≤ N ∧ i = .int .i64 j ∧ out.length ≤ 4096 ∧ (out.length : Int) ≤ sz ∧ Hid (R = Wk.reapFile (pl bs) sz (parts.drop j) out) ∧ Hid (wr.ownsRow (w.heap.size + 1) 5 1 vo out.length (out.map B)) ∧ Hid (Below w.heap.size w wr) ∧ Hid (Below W1.heap.size W1 wr)) (fun _ i _ => N - (intOf i).toNat)
  case atStart => exact ⟨0, [], by omega, rfl, by simp, by simp, HR0, World.ownsRow_nil _ _ _ _, HB1, Below.refl _ _⟩
  case round =>
    clear HR0 HB1
    obtain ⟨j, out, hj, rfl, ho1, ho2, HR, HO, HB, HB1⟩ := hrel
    have hnd := (HB1.out.block _ (Array.getElem?_eq_some_iff.1 HM.out).1).trans HM.out
    obtain ⟨d0, d1, d2, d3, d4, d5, d6, dlt⟩ := sev_at hnd
    clear n0 n1 n2 n3 n4 n5 n6 nlt
    obtain ⟨oa, oc, evo⟩ := own_form HO.out
    subst evo
    by_cases hlt : j < N
    · have hjl : j < parts.length := by rw [← HN.out]; exact hlt
      obtain ⟨id, hx⟩ : ∃ id, parts[j]? = some id := ⟨_, List.getElem?_eq_getElem hjl⟩
      have hid := H8.out id (List.mem_of_getElem? hx)
      obtain ⟨s1, s2, s3⟩ := rfile_step hx HR.out
      have hXr := HX.out.below HB.out
      rw [HN.out] at hXr
      obtain ⟨kb, ko, rfl, hkb, hcell⟩ := hXr.get j id hx
      obtain ⟨b0, b1, b2, b3, b4, b5, b6, b7, rfl⟩ := eight id hid
      obtain ⟨x0, x1, x2, x3, x4, x5, x6, x7⟩ : wr.cell? ⟨kb, ko + j * 8, none⟩ = some (.int .u8 (b0.toNat : Int)) ∧ wr.cell? ⟨kb, ko + j * 8 + 1, none⟩ = some (.int .u8 (b1.toNat : Int)) ∧ wr.cell? ⟨kb, ko + j * 8 + 2, none⟩ = some (.int .u8 (b2.toNat : Int)) ∧ wr.cell? ⟨kb, ko + j * 8 + 3, none⟩ = some (.int .u8 (b3.toNat : Int)) ∧
          wr.cell? ⟨kb, ko + j * 8 + 4, none⟩ = some (.int .u8 (b4.toNat : Int)) ∧ wr.cell? ⟨kb, ko + j * 8 + 5, none⟩ = some (.int .u8 (b5.toNat : Int)) ∧ wr.cell? ⟨kb, ko + j * 8 + 6, none⟩ = some (.int .u8 (b6.toNat : Int)) ∧ wr.cell? ⟨kb, ko + j * 8 + 7, none⟩ = some (.int .u8 (b7.toNat : Int)) :=
        ⟨hcell 0 _ rfl, hcell 1 _ rfl, hcell 2 _ rfl, hcell 3 _ rfl, hcell 4 _ rfl, hcell 5 _ rfl, hcell 6 _ rfl, hcell 7 _ rfl⟩
      have hgl := blobOf_small HSm.out [b0, b1, b2, b3, b4, b5, b6, b7] 1
      obtain ⟨WA, hWA⟩ : ∃ WA, WA = wr.alloc (.cells #[.int .u8 (b0.toNat : Int), .int .u8 (b1.toNat : Int), .int .u8 (b2.toNat : Int), .int .u8 (b3.toNat : Int), .int .u8 (b4.toNat : Int), .int .u8 (b5.toNat : Int), .int .u8 (b6.toNat : Int), .int .u8 (b7.toNat : Int)] 29) := ⟨_, rfl⟩
      have hbA : Below wr.heap.size wr WA := by rw [hWA]; exact (Below.refl _ wr).alloc (Nat.le_refl _) _
      have HBA : Hid (Below w.heap.size w WA) := HB.out.trans (hbA.mono HB.out.size)
      have HB1A : Hid (Below W1.heap.size W1 WA) := HB1.out.trans (hbA.mono HB1.out.size)
      have HOA : Hid (WA.ownsRow (w.heap.size + 1) 5 1 (.slice oa out.length oc) out.length (out.map B)) := own_below HO.out hbA
      have hIA : WA.heap[wr.heap.size]? = some (.cells #[.int .u8 (b0.toNat : Int), .int .u8 (b1.toNat : Int), .int .u8 (b2.toNat : Int), .int .u8 (b3.toNat : Int), .int .u8 (b4.toNat : Int), .int .u8 (b5.toNat : Int), .int .u8 (b6.toNat : Int), .int .u8 (b7.toNat : Int)] 29 (0, 0)) := by rw [hWA]; exact heap_alloc_new wr _
      have HcI : Hid (∀ W, Gw WA W → W.cell? ⟨wr.heap.size, 0, none⟩ = some (.int .u8 (b0.toNat : Int)) ∧ W.cell? ⟨wr.heap.size, 1, none⟩ = some (.int .u8 (b1.toNat : Int)) ∧ W.cell? ⟨wr.heap.size, 2, none⟩ = some (.int .u8 (b2.toNat : Int)) ∧ W.cell? ⟨wr.heap.size, 3, none⟩ = some (.int .u8 (b3.toNat : Int)) ∧ W.cell? ⟨wr.heap.size, 4, none⟩ = some (.int .u8 (b4.toNat : Int)) ∧ W.cell? ⟨wr.heap.size, 5, none⟩ = some (.int .u8 (b5.toNat : Int)) ∧ W.cell? ⟨wr.heap.size, 6, none⟩ = some (.int .u8 (b6.toNat : Int)) ∧ W.cell? ⟨wr.heap.size, 7, none⟩ = some (.int .u8 (b7.toNat : Int))) := fun W hW =>
        (I8.laid ((Below.block hW _ (Array.getElem?_eq_some_iff.1 hIA).1).trans hIA)).cells
      have HcB : Hid (∀ W, Gw WA W → W.cell? ⟨b, 0, none⟩ = some (.map (some m))) := fun W hW => by
        have h1 := (HBA.out.block _ (Array.getElem?_eq_some_iff.1 HR2.out).1).trans HR2.out
        have h2 := (Below.block hW _ (Array.getElem?_eq_some_iff.1 h1).1).trans h1
        simp [World.cell?, h2]
      have hget : ∀ W, Gw WA W → Calls Tryz.prog 57 #[.map (some m), .agg #[.int .u8 (b0.toNat : Int), .int .u8 (b1.toNat : Int), .int .u8 (b2.toNat : Int), .int .u8 (b3.toNat : Int), .int .u8 (b4.toNat : Int), .int .u8 (b5.toNat : Int), .int .u8 (b6.toNat : Int), .int .u8 (b7.toNat : Int)], .int .i64 1] W fun e w' => e = .returned (.tuple #[.string ⟨(Wk.blobOf (pl bs) [b0, b1, b2, b3, b4, b5, b6, b7] 1).1.toArray⟩, .int .i64 (Wk.blobOf (pl bs) [b0, b1, b2, b3, b4, b5, b6, b7] 1).2]) ∧ Below W.heap.size W w' :=
        fun W hW => hget_any m nq bs [b0, b1, b2, b3, b4, b5, b6, b7] rfl 1 W ((HMp.out.below HBA.out).below hW)
      rcases hG : Wk.blobOf (pl bs) [b0, b1, b2, b3, b4, b5, b6, b7] 1 with ⟨gs, GE⟩
      rw [hG] at hget s1 s2 s3 hgl
      dsimp only at hget s1 s2 s3 hgl
      obtain ⟨GS, hGS⟩ : ∃ GS : ByteArray, GS = ⟨gs.toArray⟩ := ⟨_, rfl⟩
      have hGd : GS.data.toList = gs := by rw [hGS]
      rw [← hGS] at hget
      obtain ⟨gz, hgz⟩ : ∃ gz, gz = GS.size := ⟨_, rfl⟩
      have hgsz : gz = gs.length := by rw [hgz, Lib.size_eq, hGd]
      rw [← hGd, List.length_append] at s2 s3
      have HS1 : Hid (GE ≠ 0 → R = ([], GE)) := s1
      have HS2 : Hid (GE = 0 → (sz : Int) < ((out.length + GS.data.toList.length : Nat) : Int) → R = ([], 4)) := s2
      have HS3 : Hid (GE = 0 → ¬ (sz : Int) < ((out.length + GS.data.toList.length : Nat) : Int) → R = Wk.reapFile (pl bs) sz (parts.drop (j + 1)) (out ++ GS.data.toList)) := s3
      have HGz : Hid (GS.data.toList.length = gz ∧ gz = GS.size ∧ gz ≤ 4096) := ⟨by rw [hGd, hgsz], hgz, by omega⟩
      have hgz2 : GS.size ≤ 4096 := by omega
      obtain ⟨ON, hON⟩ : ∃ ON, ON = out.length := ⟨_, rfl⟩
      have HON : Hid (ON = out.length) := hON
      rw [← hON] at HOA ho1 ho2 ⊢
      clear s1 s2 s3 hG hGS hGd hgz hgsz hgl hXr hx hid hcell hIA hbA HO HB HB1 HR hON hjl
      go_upto_region 5 with fail
      rw [← hWA]
      clear hWA x0 x1 x2 x3 x4 x5 x6 x7 hkb d0 d1 d2 d3 d4 d5 d6 dlt hnd
      by_cases hE : GE = 0
      case neg =>
        have HRe : Hid (R = ([], GE)) := HS1.out hE
        have hne : (GE != 0) = true := by rw [bne_iff_ne]; exact hE
        clear HS1 HS2 HS3 hE
        refine wp_region_rel (G := Gw) (W0 := WA) Gw.refl Gw.trans (by kernel_rfl) (by kernel_rfl) (by kernel_rfl) (Below.refl _ WA).drew ?_
        refine .inl ⟨.pointer (some ⟨b, 0, none⟩), fun v W hW hd => step_run rfl _ W (by clear hd; go_simp) rfl (Gw.refl _), ?_⟩
        simp only [Act.put, List.setIfInBounds_toArray, List.set_cons_zero, List.set_cons_succ]
        refine .inl ⟨.pointer (some ⟨b, 0, none⟩), fun v W hW hd => step_run rfl _ W (by clear hd; go_simp) rfl (Gw.refl _), ?_⟩
        simp only [Act.put, List.setIfInBounds_toArray, List.set_cons_zero, List.set_cons_succ]
        refine .inl ⟨.pointer (some ⟨b, 0, none⟩), fun v W hW hd => step_run rfl _ W (by clear hd; go_simp) rfl (Gw.refl _), ?_⟩
        simp only [Act.put, List.setIfInBounds_toArray, List.set_cons_zero, List.set_cons_succ]
        refine .inl ⟨.map (some m), fun v W hW hd => step_run rfl _ W (by clear hd; have ce := HcB.out W hW; go_simp) rfl (Gw.refl _), ?_⟩
        simp only [Act.put, List.setIfInBounds_toArray, List.set_cons_zero, List.set_cons_succ]
        refine .inl ⟨.agg #[.int .u8 (b0.toNat : Int), .int .u8 (b1.toNat : Int), .int .u8 (b2.toNat : Int), .int .u8 (b3.toNat : Int), .int .u8 (b4.toNat : Int), .int .u8 (b5.toNat : Int), .int .u8 (b6.toNat : Int), .int .u8 (b7.toNat : Int)], fun v W hW hd => step_run rfl _ W (by clear hd; obtain ⟨c0, c1, c2, c3, c4, c5, c6, c7⟩ := HcI.out W hW; go_simp) rfl (Gw.refl _), ?_⟩
        simp only [Act.put, List.setIfInBounds_toArray, List.set_cons_zero, List.set_cons_succ]
        refine .inl ⟨.tuple #[.string GS, .int .i64 GE], fun v W hW hd => step_call rfl 57 #[.map (some m), .agg #[.int .u8 (b0.toNat : Int), .int .u8 (b1.toNat : Int), .int .u8 (b2.toNat : Int), .int .u8 (b3.toNat : Int), .int .u8 (b4.toNat : Int), .int .u8 (b5.toNat : Int), .int .u8 (b6.toNat : Int), .int .u8 (b7.toNat : Int)], .int .i64 1] (by clear hd; go_simp) ((hget W hW).mono fun e w' h => ⟨_, h.1, rfl, h.2⟩), ?_⟩
        simp only [Act.put, List.setIfInBounds_toArray, List.set_cons_zero, List.set_cons_succ]
        refine .inl ⟨.tuple #[.string GS, .int .i64 GE], fun v W hW hd => step_run rfl _ W (by clear hd; go_simp) rfl (Gw.refl _), ?_⟩
        simp only [Act.put, List.setIfInBounds_toArray, List.set_cons_zero, List.set_cons_succ]
        refine .inl ⟨.string GS, fun v W hW hd => step_run rfl _ W (by clear hd; go_simp) rfl (Gw.refl _), ?_⟩
        simp only [Act.put, List.setIfInBounds_toArray, List.set_cons_zero, List.set_cons_succ]
        refine .inl ⟨.int .i64 GE, fun v W hW hd => step_run rfl _ W (by clear hd; go_simp) rfl (Gw.refl _), ?_⟩
        simp only [Act.put, List.setIfInBounds_toArray, List.set_cons_zero, List.set_cons_succ]
        refine .inl ⟨.string GS, fun v W hW hd => step_run rfl _ W (by clear hd; go_simp) rfl (Gw.refl _), ?_⟩
        simp only [Act.put, List.setIfInBounds_toArray, List.set_cons_zero, List.set_cons_succ]
        refine .inl ⟨.int .i64 GE, fun v W hW hd => step_run rfl _ W (by clear hd; go_simp) rfl (Gw.refl _), ?_⟩
        simp only [Act.put, List.setIfInBounds_toArray, List.set_cons_zero, List.set_cons_succ]
        intro v w3 hW3 hV
        clear hV
        have HB3 : Hid (Below w.heap.size w w3) := HBA.out.trans (Below.mono hW3 HBA.out.size)
        clear hget HcI HcB hW3
        go_wp2_with fail
        go_ret2
        exact ⟨by rw [HRe.out]; rfl, HB3.out, by rw [HRe.out]; simp⟩
      have HSz := (show Hid _ from HS2.out hE)
      have HSy := (show Hid _ from HS3.out hE)
      subst hE
      clear HS1 HS2 HS3
      refine wp_region_rel (G := Gw) (W0 := WA) Gw.refl Gw.trans (by kernel_rfl) (by kernel_rfl) (by kernel_rfl) (Below.refl _ WA).drew ?_
      refine .inl ⟨.pointer (some ⟨b, 0, none⟩), fun v W hW hd => step_run rfl _ W (by clear hd; go_simp) rfl (Gw.refl _), ?_⟩
      simp only [Act.put, List.setIfInBounds_toArray, List.set_cons_zero, List.set_cons_succ]
      refine .inl ⟨.pointer (some ⟨b, 0, none⟩), fun v W hW hd => step_run rfl _ W (by clear hd; go_simp) rfl (Gw.refl _), ?_⟩
      simp only [Act.put, List.setIfInBounds_toArray, List.set_cons_zero, List.set_cons_succ]
      refine .inl ⟨.pointer (some ⟨b, 0, none⟩), fun v W hW hd => step_run rfl _ W (by clear hd; go_simp) rfl (Gw.refl _), ?_⟩
      simp only [Act.put, List.setIfInBounds_toArray, List.set_cons_zero, List.set_cons_succ]
      refine .inl ⟨.map (some m), fun v W hW hd => step_run rfl _ W (by clear hd; have ce := HcB.out W hW; go_simp) rfl (Gw.refl _), ?_⟩
      simp only [Act.put, List.setIfInBounds_toArray, List.set_cons_zero, List.set_cons_succ]
      refine .inl ⟨.agg #[.int .u8 (b0.toNat : Int), .int .u8 (b1.toNat : Int), .int .u8 (b2.toNat : Int), .int .u8 (b3.toNat : Int), .int .u8 (b4.toNat : Int), .int .u8 (b5.toNat : Int), .int .u8 (b6.toNat : Int), .int .u8 (b7.toNat : Int)], fun v W hW hd => step_run rfl _ W (by clear hd; obtain ⟨c0, c1, c2, c3, c4, c5, c6, c7⟩ := HcI.out W hW; go_simp) rfl (Gw.refl _), ?_⟩
      simp only [Act.put, List.setIfInBounds_toArray, List.set_cons_zero, List.set_cons_succ]
      refine .inl ⟨.tuple #[.string GS, .int .i64 0], fun v W hW hd => step_call rfl 57 #[.map (some m), .agg #[.int .u8 (b0.toNat : Int), .int .u8 (b1.toNat : Int), .int .u8 (b2.toNat : Int), .int .u8 (b3.toNat : Int), .int .u8 (b4.toNat : Int), .int .u8 (b5.toNat : Int), .int .u8 (b6.toNat : Int), .int .u8 (b7.toNat : Int)], .int .i64 1] (by clear hd; go_simp) ((hget W hW).mono fun e w' h => ⟨_, h.1, rfl, h.2⟩), ?_⟩
      simp only [Act.put, List.setIfInBounds_toArray, List.set_cons_zero, List.set_cons_succ]
      refine .inl ⟨.tuple #[.string GS, .int .i64 0], fun v W hW hd => step_run rfl _ W (by clear hd; go_simp) rfl (Gw.refl _), ?_⟩
      simp only [Act.put, List.setIfInBounds_toArray, List.set_cons_zero, List.set_cons_succ]
      refine .inl ⟨.string GS, fun v W hW hd => step_run rfl _ W (by clear hd; go_simp) rfl (Gw.refl _), ?_⟩
      simp only [Act.put, List.setIfInBounds_toArray, List.set_cons_zero, List.set_cons_succ]
      refine .inl ⟨.int .i64 0, fun v W hW hd => step_run rfl _ W (by clear hd; go_simp) rfl (Gw.refl _), ?_⟩
      simp only [Act.put, List.setIfInBounds_toArray, List.set_cons_zero, List.set_cons_succ]
      refine .inl ⟨.string GS, fun v W hW hd => step_run rfl _ W (by clear hd; go_simp) rfl (Gw.refl _), ?_⟩
      simp only [Act.put, List.setIfInBounds_toArray, List.set_cons_zero, List.set_cons_succ]
      refine .inl ⟨.int .i64 0, fun v W hW hd => step_run rfl _ W (by clear hd; go_simp) rfl (Gw.refl _), ?_⟩
      simp only [Act.put, List.setIfInBounds_toArray, List.set_cons_zero, List.set_cons_succ]
      intro v w3 hW3 hV
      clear hV
      have HB3 : Hid (Below w.heap.size w w3) := HBA.out.trans (Below.mono hW3 HBA.out.size)
      have HB13 : Hid (Below W1.heap.size W1 w3) := HB1A.out.trans (Below.mono hW3 HB1A.out.size)
      have ho3 : w3.ownsRow (w.heap.size + 1) 5 1 (.slice oa ON oc) ON (out.map B) := own_below HOA.out hW3
      have hws : w.heap.size + 1 ≤ w3.heap.size := by
        have h1 := HB13.out.size
        have h2 := (Array.getElem?_eq_some_iff.1 HM.out).1
        have h3 := HPB.out
        omega
      clear hget HcI HcB hW3
      go_wp2_with (at_builtin; refine Lib.wpList_append_own_string _ rfl (.tmp 30) (.tmp 31) 84 9 rfl (w.heap.size + 1) 5 i0 Tryz.underlying84 Tryz.underlying9 hi hz0 hz1 hz2 _ _ _ rfl ho3 GS rfl ?c3 ?c4 ?c5 ?_)
      case c3 => unfold maxLen; omega
      case c4 => omega
      intro v1 w5 hown5 hgrow _
      have hb5 : Below (w.heap.size + 1) w3 w5 := (Below.refl _ w3).grown hgrow hws fun q hq => (ho3.lt q hq).1
      have HB5 : Hid (Below w.heap.size w w5) := HB3.out.trans (hb5.mono (by omega))
      have HB15 : Hid (Below W1.heap.size W1 w5) := HB13.out.trans (hb5.mono (Nat.le_of_eq HW1s.out))
      have hnd5 := (HB15.out.block _ (Array.getElem?_eq_some_iff.1 HM.out).1).trans HM.out
      obtain ⟨d0, d1, d2, d3, d4, d5, d6, dlt⟩ := sev_at hnd5
      have HO5 : Hid (w5.ownsRow (w.heap.size + 1) 5 1 v1 (out ++ GS.data.toList).length ((out ++ GS.data.toList).map B)) := by
        show World.ownsRow _ _ _ _ _ _ _
        rw [List.length_append, ← HON.out, HGz.out.1, HGz.out.2.1, List.map_append]
        exact hown5
      have HLn : Hid ((out.length + GS.data.toList.length : Nat) = ON + GS.size) := by show _ = _; rw [← HON.out, HGz.out.1, HGz.out.2.1]
      obtain ⟨va, vc, ev1⟩ := own_form hown5
      subst ev1
      clear hown5 hgrow hb5 ho3 hnd5
      by_cases hgt : sz < ON + GS.size
      · have HRe : Hid (R = ([], 4)) := HSz.out (by rw [HLn.out]; exact_mod_cast hgt)
        clear HSz HSy
        go_wp2_with fail
        go_ret2
        exact ⟨by rw [HRe.out]; rfl, HB5.out, by rw [HRe.out]; simp⟩
      · have HRn : Hid (R = Wk.reapFile (pl bs) sz (parts.drop (j + 1)) (out ++ GS.data.toList)) := HSy.out (by rw [HLn.out]; omega)
        have ho5 : (out ++ GS.data.toList).length ≤ 4096 := by rw [List.length_append, HLn.out]; omega
        have ho6 : (((out ++ GS.data.toList).length : Nat) : Int) ≤ sz := by rw [List.length_append, HLn.out]; omega
        clear HSz HSy
        go_wp2_with fail
        go_roundw
        case measure => simp only [intOf]; omega
        case rel => exact ⟨j + 1, out ++ GS.data.toList, by omega, by go_num, ho5, ho6, HRn, HO5, HB5, HB15⟩
    · obtain rfl : j = N := by omega
      have hRz : R = if (out.length : Int) ≠ sz then ([], 4) else (out, 0) := by
        have e : parts.drop j = [] := by rw [HN.out]; exact List.drop_of_length_le (Nat.le_refl _)
        rw [HR.out, e]; rfl
      have hstr := run_str HO.out
      have HOl : Hid (out.length ≤ 4096) := ho1
      by_cases hsz : out.length < sz
      · have HRe : Hid (R = ([], 4)) := by show _ = _; rw [hRz, if_pos (by omega)]
        generalize out.length = ON at *
        clear hRz HR
        go_wp2_with fail
        go_ret2
        exact ⟨by rw [HRe.out]; rfl, HB.out, by rw [HRe.out]; simp⟩
      · have HRe : Hid (R = (out, 0)) := by show _ = _; rw [hRz, if_neg (by omega)]
        obtain ⟨OS, hOS⟩ : ∃ OS : ByteArray, OS = ⟨out.toArray⟩ := ⟨_, rfl⟩
        have HOS : Hid (OS = ⟨out.toArray⟩) := hOS
        rw [← hOS] at hstr
        generalize hON : out.length = ON at *
        clear hRz HR hOS
        go_wp2_with fail
        go_ret2
        exact ⟨by rw [HRe.out, HOS.out]; rfl, HB.out, by rw [HRe.out]; show out.length ≤ 4096; rw [hON]; exact HOl.out⟩
end Go.Proofs.YtimdioacmojkeaaGreatDoor

namespace Go.Proofs
open Go.Shelf
def Tryz.lays138_ren : Go.Shelf.Ren := ⟨fun | 138 => 83 | 195 => 108 | 218 => 109 | 143 => 110 | 219 => 137 | 217 => 106 | 225 => 154 | 224 => 155 | 267 => 156 | 266 => 135 | 314 => 168 | n => n, fun | 9 => 9 | 3 => 3 | 4 => 4 | 5 => 5 | 0 => 0 | 46 => 111 | 146 => 137 | 51 => 136 | n => n, fun | 1 => 0 | n => n⟩
theorem Tryz.lays138 : Go.Proofs.Lays.n138 Tryz.prog Tryz.lays138_ren := {
  mixed := by kernel_rfl
  f138 := Tryz.func83.trans (congrArg some (by kernel_rfl))
  f143 := Tryz.func110.trans (congrArg some (by kernel_rfl))
  f195 := Tryz.func108.trans (congrArg some (by kernel_rfl))
  f217 := Tryz.func106.trans (congrArg some (by kernel_rfl))
  f218 := Tryz.func109.trans (congrArg some (by kernel_rfl))
  f219 := Tryz.func137.trans (congrArg some (by kernel_rfl))
  f224 := Tryz.func155.trans (congrArg some (by kernel_rfl))
  f225 := Tryz.func154.trans (congrArg some (by kernel_rfl))
  f266 := Tryz.func135.trans (congrArg some (by kernel_rfl))
  f267 := Tryz.func156.trans (congrArg some (by kernel_rfl))
  f314 := Tryz.func168.trans (congrArg some (by kernel_rfl))
  t0 := Tryz.underlying0
  a0 := Tryz.isAgg0
  z0 := Tryz.sizeOf0
  v0 := Tryz.zeroValue0
  t3 := Tryz.underlying3
  a3 := Tryz.isAgg3
  z3 := Tryz.sizeOf3
  v3 := Tryz.zeroValue3
  t4 := Tryz.underlying4
  a4 := Tryz.isAgg4
  z4 := Tryz.sizeOf4
  v4 := Tryz.zeroValue4
  t5 := Tryz.underlying5
  a5 := Tryz.isAgg5
  z5 := Tryz.sizeOf5
  v5 := Tryz.zeroValue5
  t9 := Tryz.underlying9
  a9 := Tryz.isAgg9
  z9 := Tryz.sizeOf9
  v9 := Tryz.zeroValue9
  t46 := Tryz.underlying111
  a46 := Tryz.isAgg111
  z46 := Tryz.sizeOf111
  v46 := Tryz.zeroValue111
  t51 := Tryz.underlying136
  a51 := Tryz.isAgg136
  z51 := Tryz.sizeOf136
  v51 := Tryz.zeroValue136
  t146 := Tryz.underlying137
  a146 := Tryz.isAgg137
  z146 := Tryz.sizeOf137
  v146 := Tryz.zeroValue137
  g1 := by kernel_rfl }
open Go.RowKit Go.Lib in
theorem Tryz.strings_Count_one (s : ByteArray) (c : UInt8) (w : World) :
    Calls Tryz.prog 83 #[.string s, .string ⟨#[c]⟩] w fun e w' => e = .returned (.int .i64 (Lib.countByte s.data.toList c)) ∧ w' = w := Any.strings_Count_one Tryz.lays138 s c w
end Go.Proofs

namespace Go.Proofs.YtimdioacmojkeaaGreatDoor
open Go.RowKit
set_option maxRecDepth 4000
open Nn (Name)

namespace Wk
/-- what one node of a directory leaves -/
def rstep (l : List Pk.Bl) (sub : Bs → List Name → List It → List It × Int) (path : List Name) (n : Td.Nd) (w : List It) : List It × Int :=
  if 8 ≤ path.length then ([], 14) else if 100 ≤ w.length then ([], 2) else
  if (if n.kind = 1 then reapFile l n.size n.parts [] else (n.link, 0)).2 ≠ 0 then ([], (if n.kind = 1 then reapFile l n.size n.parts [] else (n.link, 0)).2) else
  if n.kind = 2 then sub (n.parts.headD []) (path ++ [n.name]) (w ++ [item path n (if n.kind = 1 then reapFile l n.size n.parts [] else (n.link, 0)).1]) else (w ++ [item path n (if n.kind = 1 then reapFile l n.size n.parts [] else (n.link, 0)).1], 0)
theorem rnodes_step (l : List Pk.Bl) (sub : Bs → List Name → List It → List It × Int) (path : List Name) (n : Td.Nd) (r : List Td.Nd) (w : List It) :
    reapNodes l sub path (n :: r) w = if (rstep l sub path n w).2 ≠ 0 then ([], (rstep l sub path n w).2) else reapNodes l sub path r (rstep l sub path n w).1 := by
  rw [reapNodes]
  unfold rstep
  by_cases h1 : 8 ≤ path.length
  · rw [if_pos h1, if_pos h1, if_pos (by decide)]
  rw [if_neg h1, if_neg h1]
  by_cases h2 : 100 ≤ w.length
  · rw [if_pos h2, if_pos h2, if_pos (by decide)]
  rw [if_neg h2, if_neg h2]
  dsimp only
  by_cases h3 : (if n.kind = 1 then reapFile l n.size n.parts [] else (n.link, 0)).2 ≠ 0
  · rw [if_pos h3, if_pos h3, if_pos h3]
  rw [if_neg h3, if_neg h3]
end Wk

/-- the reaper in block b: its heap m, what was told -/
structure Rpt (base b m nq : Nat) (bs : List Blb) (w : World) (items : List Im) : Prop where
  ex : ∃ iv, w.heap[b]? = some (.cells #[.map (some m), iv] 79 (0, 0)) ∧ w.ownsRow base 46 5 iv items.length (rowR imC items)
  map : Mp w m nq (mpB bs)
  at_ : base ≤ b
  atm : base ≤ m
  few : items.length ≤ 100
structure Rf (base : Nat) (A B : World) : Prop where
  low : Below base A B
  ko : Ko pR A B
theorem Rf.refl {base : Nat} (A : World) : Rf base A A := ⟨Below.refl _ _, Ko.refl _ _⟩
theorem Rf.trans {base : Nat} {A B C : World} (h : Rf base A B) (k : Rf base B C) : Rf base A C := ⟨h.low.trans k.low, h.ko.trans k.ko⟩
theorem Rf.of_below {base : Nat} {A B : World} (h : Below A.heap.size A B) (hb : base ≤ A.heap.size) : Rf base A B := ⟨h.mono hb, Ko.of_below h⟩
theorem Rf.size {base : Nat} {A B : World} (h : Rf base A B) : A.heap.size ≤ B.heap.size := h.ko.size
theorem Rf.cells {base : Nat} {A B : World} (h : Rf base A B) {k : Nat} {cur : Array Value} {t : TypeId} {fr : Nat × Nat} (ho : A.heap[k]? = some (.cells cur t fr)) (h1 : t ≠ 46) (h2 : t ≠ 79) : B.heap[k]? = some (.cells cur t fr) :=
  h.ko.obj k _ ho ⟨h1, h2⟩
theorem Rpt.below {base b m nq : Nat} {bs : List Blb} {w w' : World} {items : List Im} (h : Rpt base b m nq bs w items) (hb : Below w.heap.size w w') : Rpt base b m nq bs w' items := by
  obtain ⟨⟨iv, p1, p2⟩, hm, ha, hc, hf⟩ := h
  exact ⟨⟨iv, (hb.block b (Array.getElem?_eq_some_iff.1 p1).1).trans p1, own_below p2 hb⟩, hm.below hb, ha, hc, hf⟩
theorem info_itm : (Tryz.prog.info? 46).map (fun i => (i.zero, i.size, i.bytes)) = some (some (.agg #[.string ⟨#[]⟩, .int .i64 0, .int .i64 0, .int .i64 0, .string ⟨#[]⟩]), 5, 56) := by kernel_rfl
theorem itm_at {W : World} {B : Nat} {v0 v1 v2 v3 v4 : Value} (h0 : W.cell? ⟨B, 0, none⟩ = some v0) (h1 : W.cell? ⟨B, 1, none⟩ = some v1) (h2 : W.cell? ⟨B, 2, none⟩ = some v2) (h3 : W.cell? ⟨B, 3, none⟩ = some v3) (h4 : W.cell? ⟨B, 4, none⟩ = some v4) :
    ∀ j u, [v0, v1, v2, v3, v4][j]? = some u → W.cell? ((⟨B, 0, none⟩ : Addr).add j) = some u := by
  intro j u hj
  rw [Addr.add_mid, Nat.zero_add]
  match j, hj with
  | 0, hj => rw [h0]; exact hj
  | 1, hj => rw [h1]; exact hj
  | 2, hj => rw [h2]; exact hj
  | 3, hj => rw [h3]; exact hj
  | 4, hj => rw [h4]; exact hj
theorem set_one {W : World} {M : Nat} {x y : Value} {T : TypeId} {fr : Nat × Nat} (h : W.heap[M]? = some (.cells #[x, y] T fr)) (a : Value) : (W.setCell ⟨M, 1, none⟩ a).heap[M]? = some (.cells #[x, a] T fr) := by
  simp [World.setCell, Array.getElem?_modify, h]
theorem pair_at {w : World} {b : Nat} {T : TypeId} {fr : Nat × Nat} {x0 x1 : Value} (h : w.heap[b]? = some (.cells #[x0, x1] T fr)) : w.cell? ⟨b, 0, none⟩ = some x0 ∧ w.cell? ⟨b, 1, none⟩ = some x1 := by
  constructor <;> simp [World.cell?, h]

/-- what directory of the reaper answers -/
def RDirOk (base b m nq : Nat) (bs : List Blb) (k : Nat) : Prop := ∀ (path : List Name) (id : Wk.Bs) (items : List Im) (w : World), path.length + k = 9 → (∀ s ∈ path, (47 : UInt8) ∉ s ∧ s.length ≤ 1024) → id.length = 8 → Rpt base b m nq bs w items → (∀ W, Below base w W → Tabs W) →
  ∀ R, R = Wk.reapDir (pl bs) k id path (its items) →
  Calls Tryz.prog 37 #[.pointer (some ⟨b, 0, none⟩), idV id, .string (mkB (Nn.tails path))] w fun e w' => e = .returned (.int .i64 R.2) ∧ Rf base w w' ∧ (R.2 = 0 → ∃ items', its items' = R.1 ∧ Rpt base b m nq bs w' items')
/-- what is sure of a node that was read -/
structure Nk (n : Nod) : Prop where
  kind : n.kind = 1 ∨ n.kind = 2 ∨ n.kind = 3
  name : (47 : UInt8) ∉ n.name.data.toList ∧ n.name.data.toList.length ≤ 1024
  size : 0 ≤ n.size ∧ n.size ≤ 4096
  many : n.parts.length ≤ 300
  dir : n.kind = 2 → n.parts.length = 1 ∧ n.link.data.toList = []

set_option maxHeartbeats 4000000 in
set_option maxRecDepth 10000 in
theorem rnode_file (base b m nq : Nat) (bs : List Blb) (hsm : Sm bs) (k : Nat) (_ : 1 ≤ k → RDirOk base b m nq bs k) (path : List Name) (hpk : path.length + (k + 1) = 9) (hps : ∀ s ∈ path, (47 : UInt8) ∉ s ∧ s.length ≤ 1024) (n : Nod) (pv : Value) (hnk : Nk n) (hkd : n.kind = 1) (items : List Im) (w : World)
    (h : Rpt base b m nq bs w items) (hng : NdG w n (ndC n pv)) (hT : ∀ W, Below base w W → Tabs W) (R : List Wk.It × Int) (hR : R = Wk.rstep (pl bs) (Wk.reapDir (pl bs) k) path n.nd (its items)) :
    Calls Tryz.prog 58 #[.pointer (some ⟨b, 0, none⟩), .agg (ndC n pv).toArray, .string (mkB (Nn.tails (path ++ [n.name.data.toList])))] w fun e w' => e = .returned (.int .i64 R.2) ∧ Rf base w w' ∧ (R.2 = 0 → ∃ items', its items' = R.1 ∧ Rpt base b m nq bs w' items') := by
  obtain ⟨i0, hi, hz0, hz1, hz2⟩ := info_parts info_itm
  obtain ⟨PS, hPS⟩ : ∃ PS, PS = mkB (Nn.tails (path ++ [n.name.data.toList])) := ⟨_, rfl⟩
  have hns : ∀ s ∈ path ++ [n.name.data.toList], (47 : UInt8) ∉ s ∧ s.length ≤ 1024 := fun s hs => by
    rcases List.mem_append.1 hs with q | q
    · exact hps s q
    · rw [List.mem_singleton.1 q]; exact hnk.name
  have hcnt : ∀ W, Calls Tryz.prog 83 #[.string PS, .string ⟨#[47]⟩] W fun e w' => e = .returned (.int .i64 ((path.length + 1 : Nat) : Int)) ∧ w' = W := fun W => by
    have := Tryz.strings_Count_one PS 47 W
    have e : Lib.countByte PS.data.toList 47 = path.length + 1 := by
      rw [hPS]
      show (Nn.tails (path ++ [n.name.data.toList])).count 47 = _
      rw [Wk.count_tails _ fun s hs => (hns s hs).1]
      simp
    rw [e] at this
    exact this
  have HItm : Hid (∀ (by_ : ByteArray), (⟨PS, n.kind, n.mode, n.time, by_⟩ : Im).it = Wk.item path n.nd by_.data.toList) := fun by_ => by
    show Wk.It.mk _ _ _ _ _ = Wk.It.mk _ _ _ _ _
    have e : PS.data.toList = Nn.joinB (path ++ [n.nd.name]) := by
      rw [Wk.joinB_tails (by simp), hPS]; rfl
    rw [e]; rfl
  have HPS : Hid (PS = mkB (Nn.tails (path ++ [n.name.data.toList]))) := hPS
  rw [← hPS]
  obtain ⟨⟨iv, p1, p2⟩, hmp, ha, hm, hfew⟩ := h
  have hblt : b < w.heap.size := (Array.getElem?_eq_some_iff.1 p1).1
  have hbase : base ≤ w.heap.size := by omega
  have hcells := pair_at p1
  obtain ⟨ia, ic, rfl⟩ := own_form p2
  have HIl : Hid ((its items).length = items.length) := its_length items
  have HR : Hid (R = Wk.rstep (pl bs) (Wk.reapDir (pl bs) k) path n.nd (its items)) := hR
  have HP1 : Hid (w.heap[b]? = some (.cells #[.map (some m), .slice ia items.length ic] 79 (0, 0))) := p1
  have HP2 : Hid (w.ownsRow base 46 5 (.slice ia items.length ic) items.length (rowR imC items)) := p2
  have HMp : Hid (Mp w m nq (mpB bs)) := hmp
  have HNg : Hid (NdG w n (ndC n pv)) := hng
  have HT : Hid (∀ W, Below base w W → Tabs W) := hT
  have HAt : Hid (base ≤ b ∧ base ≤ m) := ⟨ha, hm⟩
  obtain ⟨pv0, epv, hrx, hty, hno⟩ := hng
  obtain ⟨W1, hW1⟩ : ∃ W1, W1 = w.alloc (.cells (ndC n pv).toArray 89) := ⟨_, rfl⟩
  have hB1 : Below w.heap.size w W1 := by rw [hW1]; exact (Below.refl _ w).alloc (Nat.le_refl _) _
  have HB1 : Hid (Below w.heap.size w W1) := hB1
  have HM : Hid (W1.heap[w.heap.size]? = some (.cells (ndC n pv).toArray 89 (0, 0))) := by rw [hW1]; exact heap_alloc_new w _
  have HS1 : Hid (W1.heap.size = w.heap.size + 1) := by show _ = _; rw [hW1, World.size_alloc]
  have hb1 : W1.heap[b]? = some (.cells #[.map (some m), .slice ia items.length ic] 79 (0, 0)) := (hB1.block b hblt).trans p1
  obtain ⟨c0, c1⟩ := pair_at hb1
  skip
  obtain ⟨name, kind, mode, time, size, parts, link⟩ := n
  dsimp only [ndC] at *
  subst hkd
  obtain ⟨pa, pc, epc, hpc1, hpc2⟩ := hrx.slice
  cases epv
  subst epc
  obtain ⟨n0, n1, n2, n3, n4, n5, n6, nlt⟩ := sev_at HM.out
  have HK : Hid (Nk ⟨name, 1, mode, time, size, parts, link⟩) := hnk
  obtain ⟨PN, hPN⟩ : ∃ PN, PN = parts.length := ⟨_, rfl⟩
  have HPN : Hid (PN = parts.length) := hPN
  obtain ⟨IN, hIN⟩ : ∃ IN, IN = items.length := ⟨_, rfl⟩
  have HIN : Hid (IN = items.length) := hIN
  rw [← hIN] at HP1 c1 hfew hb1
  rw [← hPN] at n5 hW1 HM ⊢
  clear hPS hR hcells p1 hmp hT ha hm hrx hty hno hnk hB1 hPN hIN hpc1 hpc2 hb1
  go_enter Tryz.func58, Tryz.ntmps58
  go_upto_region 1 with fail
  rw [← hW1]
  clear hW1
  go_wp2_with fail
  refine (hcnt _).mono ?_
  rintro e u ⟨rfl, hu⟩
  obtain rfl := hu.symm
  clear hcnt hu
  by_cases hdp : 8 ≤ path.length
  · have HRe : Hid (R = ([], 14)) := by show _ = _; rw [HR.out]; unfold Wk.rstep; rw [if_pos hdp]
    have hgt : ((path.length + 1 : Nat) : Int) > 8 := by omega
    generalize path.length = PL at *
    clear HR
    go_wp2_with fail
    go_ret
    exact ⟨by rw [HRe.out]; rfl, Rf.of_below HB1.out hbase, fun e => by rw [HRe.out] at e; cases e⟩
  have hgt : ¬ ((path.length + 1 : Nat) : Int) > 8 := by omega
  by_cases hfl : IN = 100
  · have HRe : Hid (R = ([], 2)) := by show _ = _; rw [HR.out]; unfold Wk.rstep; rw [if_neg hdp, if_pos (by rw [HIl.out, ← HIN.out, hfl]; exact Nat.le_refl _)]
    generalize path.length = PL at *
    subst hfl
    clear HR
    go_wp2_with fail
    go_ret
    exact ⟨by rw [HRe.out]; rfl, Rf.of_below HB1.out hbase, fun e => by rw [HRe.out] at e; cases e⟩
  have hne1 : (((IN : Nat) : Int) == 100) = false := by rw [beq_eq_false_iff_ne]; omega
  obtain ⟨XI, hXI⟩ : ∃ XI, XI = W1.heap.size := ⟨_, rfl⟩
  have HXI : Hid (XI = w.heap.size + 1) := by show _ = _; rw [hXI]; exact HS1.out
  obtain ⟨W2, hW2⟩ : ∃ W2, W2 = W1.alloc (.cells #[.string PS, .int .i64 1, .int .i64 mode, .int .i64 time, .string ⟨#[]⟩] 46) := ⟨_, rfl⟩
  have hB2 : Below W1.heap.size W1 W2 := by rw [hW2]; exact (Below.refl _ W1).alloc (Nat.le_refl _) _
  have HB2 : Hid (Below w.heap.size w W2) := HB1.out.trans (hB2.mono HB1.out.size)
  have HN2 : Hid (W2.heap[w.heap.size]? = some (.cells #[.string name, .int .i64 1, .int .i64 mode, .int .i64 time, .int .i64 size, .slice pa PN pc, .string link] 89 (0, 0))) := (hB2.block _ (Array.getElem?_eq_some_iff.1 HM.out).1).trans HM.out
  have HIT2 : Hid (W2.heap[W1.heap.size]? = some (.cells #[.string PS, .int .i64 1, .int .i64 mode, .int .i64 time, .string ⟨#[]⟩] 46 (0, 0))) := by rw [hW2]; exact heap_alloc_new W1 _
  obtain ⟨F, hF⟩ : ∃ F, F = Wk.reapFile (pl bs) size parts [] := ⟨_, rfl⟩
  have hng2 : NdG W2 ⟨name, 1, mode, time, size, parts, link⟩ [.string name, .int .i64 1, .int .i64 mode, .int .i64 time, .int .i64 size, .slice pa parts.length pc, .string link] :=
    HNg.out.keep HB2.out.size fun q cur fr ho => (HB2.out.block q (Array.getElem?_eq_some_iff.1 ho).1).trans ho
  obtain ⟨pv9, e9, hr9, _, ho9⟩ := hng2
  cases e9
  have hfile := rfile_any b m nq bs ⟨name, 1, mode, time, size, parts, link⟩ (.slice pa parts.length pc) (.slice ia IN ic) W2 ((HB2.out.block b hblt).trans HP1.out) (HMp.out.below HB2.out) hsm hr9 ho9.ids HK.out.size.1 HK.out.size.2 HK.out.many F hF
  dsimp only [ndC] at hfile
  rw [← HPN.out] at hfile
  have HF : Hid (F = Wk.reapFile (pl bs) size parts []) := hF
  obtain ⟨j0, j1, j2, j3, j4, j5, j6, jlt⟩ := sev_at HN2.out
  obtain ⟨PL, hPL⟩ : ∃ PL, PL = path.length := ⟨_, rfl⟩
  have HPL : Hid (PL = path.length) := hPL
  rw [← hPL] at hgt ⊢
  clear hPL hr9 ho9 hF
  go_wp2_with fail
  go_upto_region 9 with fail
  rw [← hW2]
  clear hW2 n0 n1 n2 n3 n4 n5 n6 nlt c0 c1
  rw [← hXI] at HIT2 ⊢
  clear hXI
  have hfile' : Calls Tryz.prog 84 #[.pointer (some ⟨b, 0, none⟩), .agg #[.string name, .int .i64 1, .int .i64 mode, .int .i64 time, .int .i64 size, .slice pa PN pc, .string link]] W2 fun e w' => e = .returned (.tuple #[.string ⟨F.1.toArray⟩, .int .i64 F.2]) ∧ Below W2.heap.size W2 w' ∧ F.1.length ≤ 4096 := hfile
  obtain ⟨BY, hBY⟩ : ∃ BY : ByteArray, BY = ⟨F.1.toArray⟩ := ⟨_, rfl⟩
  have HBY : Hid (BY = ⟨F.1.toArray⟩) := hBY
  rw [← hBY] at hfile'
  clear hBY hfile
  go_wp2_with fail
  refine hfile'.mono ?_
  rintro e w3 ⟨rfl, b3, _⟩
  have hit3 : w3.heap[XI]? = some (.cells #[.string PS, .int .i64 1, .int .i64 mode, .int .i64 time, .string ⟨#[]⟩] 46 (0, 0)) := (b3.block _ (Array.getElem?_eq_some_iff.1 HIT2.out).1).trans HIT2.out
  have hn3 : w3.heap[w.heap.size]? = some (.cells #[.string name, .int .i64 1, .int .i64 mode, .int .i64 time, .int .i64 size, .slice pa PN pc, .string link] 89 (0, 0)) := (b3.block _ (Array.getElem?_eq_some_iff.1 HN2.out).1).trans HN2.out
  have HB3 : Hid (Below w.heap.size w w3) := HB2.out.trans (b3.mono HB2.out.size)
  obtain ⟨k0, k1, k2, k3, k4, klt⟩ := five_at hit3
  have kf := free_at hit3 4
  obtain ⟨WX, hWX⟩ : ∃ WX, WX = w3.setCell ⟨XI, 4, none⟩ (.string BY) := ⟨_, rfl⟩
  have HBX : Hid (Below w.heap.size w WX) := by
    have hx := HXI.out
    rw [hWX]; exact HB3.out.setCell (by show w.heap.size ≤ XI; omega) _
  have HNX : Hid (WX.heap[w.heap.size]? = some (.cells #[.string name, .int .i64 1, .int .i64 mode, .int .i64 time, .int .i64 size, .slice pa PN pc, .string link] 89 (0, 0))) := by
    have hx := HXI.out
    show _ = _
    rw [hWX, Below.heap_setCell _ _ _ _ (by show w.heap.size ≠ XI; omega)]; exact hn3
  have HITX : Hid (WX.heap[XI]? = some (.cells #[.string PS, .int .i64 1, .int .i64 mode, .int .i64 time, .string BY] 46 (0, 0))) := by
    show _ = _
    rw [hWX]
    simpa using set_at hit3 4 (.string BY)
  obtain ⟨j0, j1, j2, j3, j4, j5, j6, jlt⟩ := sev_at HNX.out
  clear hfile' b3 hit3 hn3
  by_cases hE : F.2 = 0
  case neg =>
    have HRe : Hid (R = ([], F.2)) := by
      show _ = _
      rw [HR.out]
      unfold Wk.rstep
      rw [if_neg hdp, if_neg (by rw [HIl.out, ← HIN.out]; omega)]
      have e : (if (Nod.nd ⟨name, 1, mode, time, size, parts, link⟩).kind = 1 then Wk.reapFile (pl bs) (Nod.nd ⟨name, 1, mode, time, size, parts, link⟩).size (Nod.nd ⟨name, 1, mode, time, size, parts, link⟩).parts [] else ((Nod.nd ⟨name, 1, mode, time, size, parts, link⟩).link, 0)) = F := by rw [HF.out]; rfl
      rw [e, if_pos hE]
    obtain ⟨ER, hER⟩ : ∃ ER, F.2 = ER := ⟨_, rfl⟩
    have hne : (ER != 0) = true := by rw [← hER, bne_iff_ne]; exact hE
    have HE : Hid (ER ≠ 0) := by show _ ≠ _; rw [← hER]; exact hE
    rw [hER] at HRe ⊢
    clear hER hE HR
    go_wp2_with fail
    rw [← hWX]
    go_ret
    exact ⟨by rw [HRe.out]; rfl, Rf.of_below HBX.out hbase, fun e => by rw [HRe.out] at e; exact absurd e HE.out⟩
  rw [hE]
  go_upto_region 14 with fail
  rw [← hWX]
  clear hWX k0 k1 k2 k3 k4 kf klt
  have hp2X : WX.ownsRow base 46 5 (.slice ia IN ic) IN (rowR imC items) := by rw [HIN.out]; exact own_below HP2.out HBX.out
  have HP2X : Hid (WX.ownsRow base 46 5 (.slice ia IN ic) IN (rowR imC items)) := hp2X
  have HP1X : Hid (WX.heap[b]? = some (.cells #[.map (some m), .slice ia IN ic] 79 (0, 0))) := (HBX.out.block b hblt).trans HP1.out
  obtain ⟨u0, u1, u2, u3, u4, ult⟩ := five_at HITX.out
  obtain ⟨c0, c1⟩ := pair_at HP1X.out
  have HObl : Hid (∀ g, (Value.slice ia IN ic).ownBlock = some g → g ≠ b ∧ g < WX.heap.size ∧ base ≤ g ∧ g ≠ m ∧ ∃ cur, WX.heap[g]? = some (.cells cur 46 (0, 0))) := fun g hg => by
    obtain ⟨cur, hc, h2, h3⟩ := own_block HP2X.out hg
    refine ⟨fun e => ?_, h3, h2, fun e => ?_, cur, hc⟩
    · subst e; rw [HP1X.out] at hc; cases hc
    · subst e
      obtain ⟨es, ck, hk⟩ := (HMp.out.below HBX.out).isMap
      rw [hk] at hc
      cases hc
  have hrow : ∀ o2, ((WX.alloc o2).drew).ownsRow base 46 5 (.slice ia IN ic) IN (rowR imC items) := fun o2 => (hp2X.alloc o2).drew
  have HQ : Hid (∀ o2 w1, ((WX.alloc o2).drew).grownBy w1 (Value.slice ia IN ic).ownBlock → w1.heap[b]? = some (.cells #[.map (some m), .slice ia IN ic] 79 (0, 0)) ∧ Kept (fun k => (Value.slice ia IN ic).ownBlock ≠ some k) WX w1) := by
    intro o2 w1 hg
    have hk : Kept (fun k => (Value.slice ia IN ic).ownBlock ≠ some k) WX w1 := Kept.grown ((Kept.refl _ WX).alloc o2).drew hg fun k hk hp => hp hk
    exact ⟨hk.obj (fun e => (HObl.out _ e).1 rfl) HP1X.out, hk⟩
  have hbX : b < WX.heap.size := (Array.getElem?_eq_some_iff.1 HP1X.out).1
  have hbw : base ≤ WX.heap.size := Nat.le_trans hbase HBX.out.size
  go_cut [] from 45 (fun wx => Hid (∃ g cap, wx.ownsRow base 46 5 (.slice (some ⟨g, 0, none⟩) (IN + 1) cap) (IN + 1) (rowR imC items ++ [.string PS, .int .i64 1, .int .i64 mode, .int .i64 time, .string BY]) ∧
    wx.heap[b]? = some (.cells #[.map (some m), .slice (some ⟨g, 0, none⟩) (IN + 1) cap] 79 (0, 0)) ∧ Kept (fun k => k ≠ b ∧ (Value.slice ia IN ic).ownBlock ≠ some k) WX wx))
  case first =>
    go_region_law ((refine step_append_lies _ (by rfl) (.tmp 49) (.tmp 51) 26 (by rfl) base 46 i0 (.agg #[.string ⟨#[]⟩, .int .i64 0, .int .i64 0, .int .i64 0, .string ⟨#[]⟩]) 5 56 Tryz.underlying26 hi hz0 hz1 hz2 rfl (by decide) (.slice ia IN ic) IN (rowR imC items) (by rfl) (hrow _) ⟨WX.heap.size, 0, none⟩ 1 1 [.string PS, .int .i64 1, .int .i64 mode, .int .i64 time, .string BY] (by rfl) (by rfl) (itm_at (by simp) (by simp) (by simp) (by simp) (by simp)) (by simp [Value.oneCell']) (by decide) (by unfold maxLen; omega) (by omega) (by simp; omega) (WX.heap.size + 1) (by simp) ?_; intro g cap w1 hown1 hgrow hat hlt; obtain ⟨q1, q2⟩ := HQ.out _ _ hgrow; obtain ⟨z0, z1⟩ := pair_at q1; have zf := free_at q1 1))
    all_goals
      go_wp2_with fail
      go_meet
      have hgb : g ≠ b := fun e => by
        rcases hat with h | h
        · exact (HObl.out g h).1 e
        · omega
      exact ⟨g, cap, own_kept hown1 ((Kept.refl _ w1).setCell (p := fun k => k ≠ b) (by simp) _) (fun g' hg' e => hgb (by cases hg'; exact e)), set_one q1 _, (q2.mono fun _ h => h.2).setCell (fun h => h.1 rfl) _⟩
  case rest =>
  obtain ⟨g, cap, hown, hbc, hk⟩ := hcut.out
  have HK9 : Hid (Kept (fun k => k ≠ b ∧ (Value.slice ia IN ic).ownBlock ≠ some k) WX wc) := hk
  have HRf : Hid (Rf base w wc) := by
    refine ⟨(HBX.out.mono hbase).trans (hk.below hbw fun j hj => ⟨by have := HAt.out.1; omega, fun e => by have := (HObl.out j e).2.2.1; omega⟩), (Ko.of_below HBX.out).trans (Ko.of_kept hk fun j o ho hp => ⟨fun e => ?_, fun e => ?_⟩)⟩
    · subst e
      rw [HP1X.out] at ho
      cases ho
      exact hp.2 rfl
    · obtain ⟨cur, hc⟩ := (HObl.out j e).2.2.2.2
      rw [hc] at ho
      cases ho
      exact hp.1 rfl
  have HRp : Hid (Rpt base b m nq bs wc (items ++ [⟨PS, 1, mode, time, BY⟩])) := by
    refine ⟨⟨_, hbc, ?_⟩, (HMp.out.below HBX.out).obj fun es ck ho => (hk.block m ((HMp.out.below HBX.out).lt) ⟨fun e => ?_, fun e => (HObl.out m e).2.2.2.1 rfl⟩).trans ho, HAt.out.1, HAt.out.2, by rw [List.length_append, ← HIN.out]; simp; omega⟩
    · rw [List.length_append, ← HIN.out, rowR_more]
      exact hown
    · subst e
      rw [HP1X.out] at ho
      cases ho
  have HItx : Hid (its (items ++ [⟨PS, 1, mode, time, BY⟩]) = its items ++ [Wk.item path (Nod.nd ⟨name, 1, mode, time, size, parts, link⟩) BY.data.toList]) := by
    show _ = _
    rw [← HItm.out BY]
    simp [its]
  have hn9 : wc.heap[w.heap.size]? = some (.cells #[.string name, .int .i64 1, .int .i64 mode, .int .i64 time, .int .i64 size, .slice pa PN pc, .string link] 89 (0, 0)) := by
    have h1 := HNX.out
    have h2 := hk.block w.heap.size (Array.getElem?_eq_some_iff.1 h1).1 ⟨fun e => by omega, fun e => by
      obtain ⟨cur, hc⟩ := (HObl.out _ e).2.2.2.2
      rw [h1] at hc
      cases hc⟩
    exact h2.trans h1
  obtain ⟨n0, n1, n2, n3, n4, n5, n6, nlt⟩ := sev_at hn9
  clear hown hbc hk hcut HQ hrow u0 u1 u2 u3 u4 c0 c1 hp2X hn9
  have HRe : Hid (R = (its items ++ [Wk.item path (Nod.nd ⟨name, 1, mode, time, size, parts, link⟩) BY.data.toList], 0)) := by
    show _ = _
    rw [HR.out, HBY.out]
    unfold Wk.rstep
    rw [if_neg hdp, if_neg (by rw [HIl.out, ← HIN.out]; omega)]
    have e : (if (Nod.nd ⟨name, 1, mode, time, size, parts, link⟩).kind = 1 then Wk.reapFile (pl bs) (Nod.nd ⟨name, 1, mode, time, size, parts, link⟩).size (Nod.nd ⟨name, 1, mode, time, size, parts, link⟩).parts [] else ((Nod.nd ⟨name, 1, mode, time, size, parts, link⟩).link, 0)) = F := by rw [HF.out]; rfl
    rw [e, if_neg (fun q => q hE), if_neg (by show ¬ (1 : Int) = 2; decide)]
  clear HR
  go_wp2_with fail
  go_ret
  exact ⟨by rw [HRe.out]; rfl, HRf.out, fun _ => ⟨_, by rw [HItx.out, HRe.out], HRp.out⟩⟩

set_option maxHeartbeats 4000000 in
set_option maxRecDepth 10000 in
theorem rnode_dir (base b m nq : Nat) (bs : List Blb) (_ : Sm bs) (k : Nat) (hd : 1 ≤ k → RDirOk base b m nq bs k) (path : List Name) (hpk : path.length + (k + 1) = 9) (hps : ∀ s ∈ path, (47 : UInt8) ∉ s ∧ s.length ≤ 1024) (n : Nod) (pv : Value) (hnk : Nk n) (hkd : n.kind = 2) (items : List Im) (w : World)
    (h : Rpt base b m nq bs w items) (hng : NdG w n (ndC n pv)) (hT : ∀ W, Below base w W → Tabs W) (R : List Wk.It × Int) (hR : R = Wk.rstep (pl bs) (Wk.reapDir (pl bs) k) path n.nd (its items)) :
    Calls Tryz.prog 58 #[.pointer (some ⟨b, 0, none⟩), .agg (ndC n pv).toArray, .string (mkB (Nn.tails (path ++ [n.name.data.toList])))] w fun e w' => e = .returned (.int .i64 R.2) ∧ Rf base w w' ∧ (R.2 = 0 → ∃ items', its items' = R.1 ∧ Rpt base b m nq bs w' items') := by
  obtain ⟨i0, hi, hz0, hz1, hz2⟩ := info_parts info_itm
  obtain ⟨PS, hPS⟩ : ∃ PS, PS = mkB (Nn.tails (path ++ [n.name.data.toList])) := ⟨_, rfl⟩
  have hns : ∀ s ∈ path ++ [n.name.data.toList], (47 : UInt8) ∉ s ∧ s.length ≤ 1024 := fun s hs => by
    rcases List.mem_append.1 hs with q | q
    · exact hps s q
    · rw [List.mem_singleton.1 q]; exact hnk.name
  have hcnt : ∀ W, Calls Tryz.prog 83 #[.string PS, .string ⟨#[47]⟩] W fun e w' => e = .returned (.int .i64 ((path.length + 1 : Nat) : Int)) ∧ w' = W := fun W => by
    have := Tryz.strings_Count_one PS 47 W
    have e : Lib.countByte PS.data.toList 47 = path.length + 1 := by
      rw [hPS]
      show (Nn.tails (path ++ [n.name.data.toList])).count 47 = _
      rw [Wk.count_tails _ fun s hs => (hns s hs).1]
      simp
    rw [e] at this
    exact this
  have HItm : Hid (∀ (by_ : ByteArray), (⟨PS, n.kind, n.mode, n.time, by_⟩ : Im).it = Wk.item path n.nd by_.data.toList) := fun by_ => by
    show Wk.It.mk _ _ _ _ _ = Wk.It.mk _ _ _ _ _
    have e : PS.data.toList = Nn.joinB (path ++ [n.nd.name]) := by
      rw [Wk.joinB_tails (by simp), hPS]; rfl
    rw [e]; rfl
  have HPS : Hid (PS = mkB (Nn.tails (path ++ [n.name.data.toList]))) := hPS
  rw [← hPS]
  obtain ⟨⟨iv, p1, p2⟩, hmp, ha, hm, hfew⟩ := h
  have hblt : b < w.heap.size := (Array.getElem?_eq_some_iff.1 p1).1
  have hbase : base ≤ w.heap.size := by omega
  have hcells := pair_at p1
  obtain ⟨ia, ic, rfl⟩ := own_form p2
  have HIl : Hid ((its items).length = items.length) := its_length items
  have HR : Hid (R = Wk.rstep (pl bs) (Wk.reapDir (pl bs) k) path n.nd (its items)) := hR
  have HP1 : Hid (w.heap[b]? = some (.cells #[.map (some m), .slice ia items.length ic] 79 (0, 0))) := p1
  have HP2 : Hid (w.ownsRow base 46 5 (.slice ia items.length ic) items.length (rowR imC items)) := p2
  have HMp : Hid (Mp w m nq (mpB bs)) := hmp
  have HNg : Hid (NdG w n (ndC n pv)) := hng
  have HT : Hid (∀ W, Below base w W → Tabs W) := hT
  have HAt : Hid (base ≤ b ∧ base ≤ m) := ⟨ha, hm⟩
  obtain ⟨pv0, epv, hrx, hty, hno⟩ := hng
  obtain ⟨W1, hW1⟩ : ∃ W1, W1 = w.alloc (.cells (ndC n pv).toArray 89) := ⟨_, rfl⟩
  have hB1 : Below w.heap.size w W1 := by rw [hW1]; exact (Below.refl _ w).alloc (Nat.le_refl _) _
  have HB1 : Hid (Below w.heap.size w W1) := hB1
  have HM : Hid (W1.heap[w.heap.size]? = some (.cells (ndC n pv).toArray 89 (0, 0))) := by rw [hW1]; exact heap_alloc_new w _
  have HS1 : Hid (W1.heap.size = w.heap.size + 1) := by show _ = _; rw [hW1, World.size_alloc]
  have hb1 : W1.heap[b]? = some (.cells #[.map (some m), .slice ia items.length ic] 79 (0, 0)) := (hB1.block b hblt).trans p1
  obtain ⟨c0, c1⟩ := pair_at hb1
  skip
  obtain ⟨name, kind, mode, time, size, parts, link⟩ := n
  dsimp only [ndC] at *
  subst hkd
  obtain ⟨pa, pc, epc, hpc1, hpc2⟩ := hrx.slice
  cases epv
  subst epc
  obtain ⟨n0, n1, n2, n3, n4, n5, n6, nlt⟩ := sev_at HM.out
  have HK : Hid (Nk ⟨name, 2, mode, time, size, parts, link⟩) := hnk
  obtain ⟨PN, hPN⟩ : ∃ PN, PN = parts.length := ⟨_, rfl⟩
  have HPN : Hid (PN = parts.length) := hPN
  obtain ⟨IN, hIN⟩ : ∃ IN, IN = items.length := ⟨_, rfl⟩
  have HIN : Hid (IN = items.length) := hIN
  rw [← hIN] at HP1 c1 hfew hb1
  rw [← hPN] at n5 hW1 HM ⊢
  clear hPS hR hcells p1 hmp hT ha hm hrx hty hno hnk hB1 hPN hIN hpc1 hpc2 hb1
  go_enter Tryz.func58, Tryz.ntmps58
  go_upto_region 1 with fail
  rw [← hW1]
  clear hW1
  go_wp2_with fail
  refine (hcnt _).mono ?_
  rintro e u ⟨rfl, hu⟩
  obtain rfl := hu.symm
  clear hcnt hu
  by_cases hdp : 8 ≤ path.length
  · have HRe : Hid (R = ([], 14)) := by show _ = _; rw [HR.out]; unfold Wk.rstep; rw [if_pos hdp]
    have hgt : ((path.length + 1 : Nat) : Int) > 8 := by omega
    generalize path.length = PL at *
    clear HR
    go_wp2_with fail
    go_ret
    exact ⟨by rw [HRe.out]; rfl, Rf.of_below HB1.out hbase, fun e => by rw [HRe.out] at e; cases e⟩
  have hgt : ¬ ((path.length + 1 : Nat) : Int) > 8 := by omega
  by_cases hfl : IN = 100
  · have HRe : Hid (R = ([], 2)) := by show _ = _; rw [HR.out]; unfold Wk.rstep; rw [if_neg hdp, if_pos (by rw [HIl.out, ← HIN.out, hfl]; exact Nat.le_refl _)]
    generalize path.length = PL at *
    subst hfl
    clear HR
    go_wp2_with fail
    go_ret
    exact ⟨by rw [HRe.out]; rfl, Rf.of_below HB1.out hbase, fun e => by rw [HRe.out] at e; cases e⟩
  have hne1 : (((IN : Nat) : Int) == 100) = false := by rw [beq_eq_false_iff_ne]; omega
  obtain ⟨XI, hXI⟩ : ∃ XI, XI = W1.heap.size := ⟨_, rfl⟩
  have HXI : Hid (XI = w.heap.size + 1) := by show _ = _; rw [hXI]; exact HS1.out
  obtain ⟨WX, hWX⟩ : ∃ WX, WX = W1.alloc (.cells #[.string PS, .int .i64 2, .int .i64 mode, .int .i64 time, .string ⟨#[]⟩] 46) := ⟨_, rfl⟩
  have hBX : Below W1.heap.size W1 WX := by rw [hWX]; exact (Below.refl _ W1).alloc (Nat.le_refl _) _
  have HBX : Hid (Below w.heap.size w WX) := HB1.out.trans (hBX.mono HB1.out.size)
  have HNX : Hid (WX.heap[w.heap.size]? = some (.cells #[.string name, .int .i64 2, .int .i64 mode, .int .i64 time, .int .i64 size, .slice pa PN pc, .string link] 89 (0, 0))) := (hBX.block _ (Array.getElem?_eq_some_iff.1 HM.out).1).trans HM.out
  have hitX : WX.heap[W1.heap.size]? = some (.cells #[.string PS, .int .i64 2, .int .i64 mode, .int .i64 time, .string ⟨#[]⟩] 46 (0, 0)) := by rw [hWX]; exact heap_alloc_new W1 _
  obtain ⟨PL, hPL⟩ : ∃ PL, PL = path.length := ⟨_, rfl⟩
  have HPL : Hid (PL = path.length) := hPL
  rw [← hPL] at hgt ⊢
  clear hPL
  go_wp2_with fail
  go_upto_region 14 with fail
  rw [← hWX]
  clear hWX hBX n0 n1 n2 n3 n4 n5 n6 nlt c0 c1
  rw [← hXI] at hitX ⊢
  clear hXI
  obtain ⟨BY, hBY⟩ : ∃ BY : ByteArray, BY = ⟨#[]⟩ := ⟨_, rfl⟩
  have HBY : Hid (BY = ⟨#[]⟩) := hBY
  rw [← hBY] at hitX
  clear hBY
  have HITX : Hid (WX.heap[XI]? = some (.cells #[.string PS, .int .i64 2, .int .i64 mode, .int .i64 time, .string BY] 46 (0, 0))) := hitX
  clear hitX
  have hp2X : WX.ownsRow base 46 5 (.slice ia IN ic) IN (rowR imC items) := by rw [HIN.out]; exact own_below HP2.out HBX.out
  have HP2X : Hid (WX.ownsRow base 46 5 (.slice ia IN ic) IN (rowR imC items)) := hp2X
  have HP1X : Hid (WX.heap[b]? = some (.cells #[.map (some m), .slice ia IN ic] 79 (0, 0))) := (HBX.out.block b hblt).trans HP1.out
  obtain ⟨u0, u1, u2, u3, u4, ult⟩ := five_at HITX.out
  obtain ⟨c0, c1⟩ := pair_at HP1X.out
  have HObl : Hid (∀ g, (Value.slice ia IN ic).ownBlock = some g → g ≠ b ∧ g < WX.heap.size ∧ base ≤ g ∧ g ≠ m ∧ ∃ cur, WX.heap[g]? = some (.cells cur 46 (0, 0))) := fun g hg => by
    obtain ⟨cur, hc, h2, h3⟩ := own_block HP2X.out hg
    refine ⟨fun e => ?_, h3, h2, fun e => ?_, cur, hc⟩
    · subst e; rw [HP1X.out] at hc; cases hc
    · subst e
      obtain ⟨es, ck, hk⟩ := (HMp.out.below HBX.out).isMap
      rw [hk] at hc
      cases hc
  have hrow : ∀ o2, ((WX.alloc o2).drew).ownsRow base 46 5 (.slice ia IN ic) IN (rowR imC items) := fun o2 => (hp2X.alloc o2).drew
  have HQ : Hid (∀ o2 w1, ((WX.alloc o2).drew).grownBy w1 (Value.slice ia IN ic).ownBlock → w1.heap[b]? = some (.cells #[.map (some m), .slice ia IN ic] 79 (0, 0)) ∧ Kept (fun k => (Value.slice ia IN ic).ownBlock ≠ some k) WX w1) := by
    intro o2 w1 hg
    have hk : Kept (fun k => (Value.slice ia IN ic).ownBlock ≠ some k) WX w1 := Kept.grown ((Kept.refl _ WX).alloc o2).drew hg fun k hk hp => hp hk
    exact ⟨hk.obj (fun e => (HObl.out _ e).1 rfl) HP1X.out, hk⟩
  have hbX : b < WX.heap.size := (Array.getElem?_eq_some_iff.1 HP1X.out).1
  have hbw : base ≤ WX.heap.size := Nat.le_trans hbase HBX.out.size
  go_cut [] from 45 (fun wx => Hid (∃ g cap, wx.ownsRow base 46 5 (.slice (some ⟨g, 0, none⟩) (IN + 1) cap) (IN + 1) (rowR imC items ++ [.string PS, .int .i64 2, .int .i64 mode, .int .i64 time, .string BY]) ∧
    wx.heap[b]? = some (.cells #[.map (some m), .slice (some ⟨g, 0, none⟩) (IN + 1) cap] 79 (0, 0)) ∧ Kept (fun k => k ≠ b ∧ (Value.slice ia IN ic).ownBlock ≠ some k) WX wx))
  case first =>
    go_region_law ((refine step_append_lies _ (by rfl) (.tmp 49) (.tmp 51) 26 (by rfl) base 46 i0 (.agg #[.string ⟨#[]⟩, .int .i64 0, .int .i64 0, .int .i64 0, .string ⟨#[]⟩]) 5 56 Tryz.underlying26 hi hz0 hz1 hz2 rfl (by decide) (.slice ia IN ic) IN (rowR imC items) (by rfl) (hrow _) ⟨WX.heap.size, 0, none⟩ 1 1 [.string PS, .int .i64 2, .int .i64 mode, .int .i64 time, .string BY] (by rfl) (by rfl) (itm_at (by simp) (by simp) (by simp) (by simp) (by simp)) (by simp [Value.oneCell']) (by decide) (by unfold maxLen; omega) (by omega) (by simp; omega) (WX.heap.size + 1) (by simp) ?_; intro g cap w1 hown1 hgrow hat hlt; obtain ⟨q1, q2⟩ := HQ.out _ _ hgrow; obtain ⟨z0, z1⟩ := pair_at q1; have zf := free_at q1 1))
    all_goals
      go_wp2_with fail
      go_meet
      have hgb : g ≠ b := fun e => by
        rcases hat with h | h
        · exact (HObl.out g h).1 e
        · omega
      exact ⟨g, cap, own_kept hown1 ((Kept.refl _ w1).setCell (p := fun k => k ≠ b) (by simp) _) (fun g' hg' e => hgb (by cases hg'; exact e)), set_one q1 _, (q2.mono fun _ h => h.2).setCell (fun h => h.1 rfl) _⟩
  case rest =>
  obtain ⟨g, cap, hown, hbc, hk⟩ := hcut.out
  have HK9 : Hid (Kept (fun k => k ≠ b ∧ (Value.slice ia IN ic).ownBlock ≠ some k) WX wc) := hk
  have HRf : Hid (Rf base w wc) := by
    refine ⟨(HBX.out.mono hbase).trans (hk.below hbw fun j hj => ⟨by have := HAt.out.1; omega, fun e => by have := (HObl.out j e).2.2.1; omega⟩), (Ko.of_below HBX.out).trans (Ko.of_kept hk fun j o ho hp => ⟨fun e => ?_, fun e => ?_⟩)⟩
    · subst e
      rw [HP1X.out] at ho
      cases ho
      exact hp.2 rfl
    · obtain ⟨cur, hc⟩ := (HObl.out j e).2.2.2.2
      rw [hc] at ho
      cases ho
      exact hp.1 rfl
  have HRp : Hid (Rpt base b m nq bs wc (items ++ [⟨PS, 2, mode, time, BY⟩])) := by
    refine ⟨⟨_, hbc, ?_⟩, (HMp.out.below HBX.out).obj fun es ck ho => (hk.block m ((HMp.out.below HBX.out).lt) ⟨fun e => ?_, fun e => (HObl.out m e).2.2.2.1 rfl⟩).trans ho, HAt.out.1, HAt.out.2, by rw [List.length_append, ← HIN.out]; simp; omega⟩
    · rw [List.length_append, ← HIN.out, rowR_more]
      exact hown
    · subst e
      rw [HP1X.out] at ho
      cases ho
  have HItx : Hid (its (items ++ [⟨PS, 2, mode, time, BY⟩]) = its items ++ [Wk.item path (Nod.nd ⟨name, 2, mode, time, size, parts, link⟩) BY.data.toList]) := by
    show _ = _
    rw [← HItm.out BY]
    simp [its]
  have hn9 : wc.heap[w.heap.size]? = some (.cells #[.string name, .int .i64 2, .int .i64 mode, .int .i64 time, .int .i64 size, .slice pa PN pc, .string link] 89 (0, 0)) := by
    have h1 := HNX.out
    have h2 := hk.block w.heap.size (Array.getElem?_eq_some_iff.1 h1).1 ⟨fun e => by omega, fun e => by
      obtain ⟨cur, hc⟩ := (HObl.out _ e).2.2.2.2
      rw [h1] at hc
      cases hc⟩
    exact h2.trans h1
  obtain ⟨n0, n1, n2, n3, n4, n5, n6, nlt⟩ := sev_at hn9
  clear hown hbc hk hcut HQ hrow u0 u1 u2 u3 u4 c0 c1 hp2X hn9
  have hp1 : parts.length = 1 := (HK.out.dir rfl).1
  have hlk : link.data.toList = [] := (HK.out.dir rfl).2
  obtain ⟨idp, rfl⟩ : ∃ idp, parts = [idp] := by
    match parts, hp1 with
    | [x], _ => exact ⟨x, rfl⟩
  have HRe : Hid (R = Wk.reapDir (pl bs) k idp (path ++ [name.data.toList]) (its items ++ [Wk.item path (Nod.nd ⟨name, 2, mode, time, size, [idp], link⟩) BY.data.toList])) := by
    show _ = _
    rw [HR.out, HBY.out]
    unfold Wk.rstep
    rw [if_neg hdp, if_neg (by rw [HIl.out, ← HIN.out]; omega)]
    have e : (if (Nod.nd ⟨name, 2, mode, time, size, [idp], link⟩).kind = 1 then Wk.reapFile (pl bs) (Nod.nd ⟨name, 2, mode, time, size, [idp], link⟩).size (Nod.nd ⟨name, 2, mode, time, size, [idp], link⟩).parts [] else ((Nod.nd ⟨name, 2, mode, time, size, [idp], link⟩).link, 0)) = ([], 0) := by
      rw [if_neg (by show ¬ (2 : Int) = 1; decide)]
      exact Prod.ext hlk rfl
    rw [e, if_neg (fun q => q rfl), if_pos (show (Nod.nd ⟨name, 2, mode, time, size, [idp], link⟩).kind = 2 from rfl)]
    rfl
  have hng9 : NdG wc ⟨name, 2, mode, time, size, [idp], link⟩ [.string name, .int .i64 2, .int .i64 mode, .int .i64 time, .int .i64 size, .slice pa [idp].length pc, .string link] :=
    HNg.out.keep (Nat.le_trans HBX.out.size HK9.out.size) fun q cur fr ho => by
      have h1 := (HBX.out.block q (Array.getElem?_eq_some_iff.1 ho).1).trans ho
      exact (HK9.out.block q (Array.getElem?_eq_some_iff.1 h1).1 ⟨fun e => (by subst e; rw [HP1X.out] at h1; cases h1), fun e => by
        obtain ⟨cur', hc⟩ := (HObl.out _ e).2.2.2.2
        rw [h1] at hc
        cases hc⟩).trans h1
  obtain ⟨pv9, e9, hr9, _, ho9⟩ := hng9
  cases e9
  have hid8 := ho9.ids idp List.mem_cons_self
  obtain ⟨kb, ko, rfl, hkb, hcell⟩ := hr9.get 0 idp rfl
  have hpnn : PN = 1 := HPN.out
  subst hpnn
  have hdir := hd (by omega) (path ++ [name.data.toList]) idp _ wc (by rw [List.length_append]; simp; omega) (fun s hs => by
    rcases List.mem_append.1 hs with q | q
    · exact hps s q
    · rw [List.mem_singleton.1 q]; exact HK.out.name) hid8 HRp.out (fun W hW => HT.out W (HRf.out.low.trans hW)) R (by rw [HRe.out, HItx.out])
  rw [← HPS.out] at hdir
  obtain ⟨b0, b1, b2, b3, b4, b5, b6, b7, rfl⟩ := eight idp hid8
  obtain ⟨x0, x1, x2, x3, x4, x5, x6, x7⟩ : wc.cell? ⟨kb, ko, none⟩ = some (.int .u8 (b0.toNat : Int)) ∧ wc.cell? ⟨kb, ko + 1, none⟩ = some (.int .u8 (b1.toNat : Int)) ∧ wc.cell? ⟨kb, ko + 2, none⟩ = some (.int .u8 (b2.toNat : Int)) ∧ wc.cell? ⟨kb, ko + 3, none⟩ = some (.int .u8 (b3.toNat : Int)) ∧
      wc.cell? ⟨kb, ko + 4, none⟩ = some (.int .u8 (b4.toNat : Int)) ∧ wc.cell? ⟨kb, ko + 5, none⟩ = some (.int .u8 (b5.toNat : Int)) ∧ wc.cell? ⟨kb, ko + 6, none⟩ = some (.int .u8 (b6.toNat : Int)) ∧ wc.cell? ⟨kb, ko + 7, none⟩ = some (.int .u8 (b7.toNat : Int)) := by
    have q := fun r u hu => hcell r u hu
    simp only [Nat.zero_mul, Nat.add_zero] at q
    exact ⟨q 0 _ rfl, q 1 _ rfl, q 2 _ rfl, q 3 _ rfl, q 4 _ rfl, q 5 _ rfl, q 6 _ rfl, q 7 _ rfl⟩
  have hdir' : Calls Tryz.prog 37 #[.pointer (some ⟨b, 0, none⟩), .agg #[.int .u8 (b0.toNat : Int), .int .u8 (b1.toNat : Int), .int .u8 (b2.toNat : Int), .int .u8 (b3.toNat : Int), .int .u8 (b4.toNat : Int), .int .u8 (b5.toNat : Int), .int .u8 (b6.toNat : Int), .int .u8 (b7.toNat : Int)], .string PS] wc fun e w' => e = .returned (.int .i64 R.2) ∧ Rf base wc w' ∧ (R.2 = 0 → ∃ items', its items' = R.1 ∧ Rpt base b m nq bs w' items') := hdir
  clear hdir hr9 ho9 hcell hid8 hp1 hd HR
  go_wp2_with fail
  refine hdir'.mono ?_
  rintro e w9 ⟨rfl, f9, hz⟩
  have HZ : Hid (Rf base w w9 ∧ (R.2 = 0 → ∃ items', its items' = R.1 ∧ Rpt base b m nq bs w9 items')) := ⟨HRf.out.trans f9, hz⟩
  clear hdir' f9 hz x0 x1 x2 x3 x4 x5 x6 x7
  go_wp2_with fail
  go_ret
  exact ⟨rfl, HZ.out.1, HZ.out.2⟩

set_option maxHeartbeats 4000000 in
set_option maxRecDepth 10000 in
theorem rnode_link (base b m nq : Nat) (bs : List Blb) (_ : Sm bs) (k : Nat) (_ : 1 ≤ k → RDirOk base b m nq bs k) (path : List Name) (hpk : path.length + (k + 1) = 9) (hps : ∀ s ∈ path, (47 : UInt8) ∉ s ∧ s.length ≤ 1024) (n : Nod) (pv : Value) (hnk : Nk n) (hkd : n.kind = 3) (items : List Im) (w : World)
    (h : Rpt base b m nq bs w items) (hng : NdG w n (ndC n pv)) (hT : ∀ W, Below base w W → Tabs W) (R : List Wk.It × Int) (hR : R = Wk.rstep (pl bs) (Wk.reapDir (pl bs) k) path n.nd (its items)) :
    Calls Tryz.prog 58 #[.pointer (some ⟨b, 0, none⟩), .agg (ndC n pv).toArray, .string (mkB (Nn.tails (path ++ [n.name.data.toList])))] w fun e w' => e = .returned (.int .i64 R.2) ∧ Rf base w w' ∧ (R.2 = 0 → ∃ items', its items' = R.1 ∧ Rpt base b m nq bs w' items') := by
  obtain ⟨i0, hi, hz0, hz1, hz2⟩ := info_parts info_itm
  obtain ⟨PS, hPS⟩ : ∃ PS, PS = mkB (Nn.tails (path ++ [n.name.data.toList])) := ⟨_, rfl⟩
  have hns : ∀ s ∈ path ++ [n.name.data.toList], (47 : UInt8) ∉ s ∧ s.length ≤ 1024 := fun s hs => by
    rcases List.mem_append.1 hs with q | q
    · exact hps s q
    · rw [List.mem_singleton.1 q]; exact hnk.name
  have hcnt : ∀ W, Calls Tryz.prog 83 #[.string PS, .string ⟨#[47]⟩] W fun e w' => e = .returned (.int .i64 ((path.length + 1 : Nat) : Int)) ∧ w' = W := fun W => by
    have := Tryz.strings_Count_one PS 47 W
    have e : Lib.countByte PS.data.toList 47 = path.length + 1 := by
      rw [hPS]
      show (Nn.tails (path ++ [n.name.data.toList])).count 47 = _
      rw [Wk.count_tails _ fun s hs => (hns s hs).1]
      simp
    rw [e] at this
    exact this
  have HItm : Hid (∀ (by_ : ByteArray), (⟨PS, n.kind, n.mode, n.time, by_⟩ : Im).it = Wk.item path n.nd by_.data.toList) := fun by_ => by
    show Wk.It.mk _ _ _ _ _ = Wk.It.mk _ _ _ _ _
    have e : PS.data.toList = Nn.joinB (path ++ [n.nd.name]) := by
      rw [Wk.joinB_tails (by simp), hPS]; rfl
    rw [e]; rfl
  have HPS : Hid (PS = mkB (Nn.tails (path ++ [n.name.data.toList]))) := hPS
  rw [← hPS]
  obtain ⟨⟨iv, p1, p2⟩, hmp, ha, hm, hfew⟩ := h
  have hblt : b < w.heap.size := (Array.getElem?_eq_some_iff.1 p1).1
  have hbase : base ≤ w.heap.size := by omega
  have hcells := pair_at p1
  obtain ⟨ia, ic, rfl⟩ := own_form p2
  have HIl : Hid ((its items).length = items.length) := its_length items
  have HR : Hid (R = Wk.rstep (pl bs) (Wk.reapDir (pl bs) k) path n.nd (its items)) := hR
  have HP1 : Hid (w.heap[b]? = some (.cells #[.map (some m), .slice ia items.length ic] 79 (0, 0))) := p1
  have HP2 : Hid (w.ownsRow base 46 5 (.slice ia items.length ic) items.length (rowR imC items)) := p2
  have HMp : Hid (Mp w m nq (mpB bs)) := hmp
  have HNg : Hid (NdG w n (ndC n pv)) := hng
  have HT : Hid (∀ W, Below base w W → Tabs W) := hT
  have HAt : Hid (base ≤ b ∧ base ≤ m) := ⟨ha, hm⟩
  obtain ⟨pv0, epv, hrx, hty, hno⟩ := hng
  obtain ⟨W1, hW1⟩ : ∃ W1, W1 = w.alloc (.cells (ndC n pv).toArray 89) := ⟨_, rfl⟩
  have hB1 : Below w.heap.size w W1 := by rw [hW1]; exact (Below.refl _ w).alloc (Nat.le_refl _) _
  have HB1 : Hid (Below w.heap.size w W1) := hB1
  have HM : Hid (W1.heap[w.heap.size]? = some (.cells (ndC n pv).toArray 89 (0, 0))) := by rw [hW1]; exact heap_alloc_new w _
  have HS1 : Hid (W1.heap.size = w.heap.size + 1) := by show _ = _; rw [hW1, World.size_alloc]
  have hb1 : W1.heap[b]? = some (.cells #[.map (some m), .slice ia items.length ic] 79 (0, 0)) := (hB1.block b hblt).trans p1
  obtain ⟨c0, c1⟩ := pair_at hb1
  skip
  obtain ⟨name, kind, mode, time, size, parts, link⟩ := n
  dsimp only [ndC] at *
  subst hkd
  obtain ⟨pa, pc, epc, hpc1, hpc2⟩ := hrx.slice
  cases epv
  subst epc
  obtain ⟨n0, n1, n2, n3, n4, n5, n6, nlt⟩ := sev_at HM.out
  have HK : Hid (Nk ⟨name, 3, mode, time, size, parts, link⟩) := hnk
  obtain ⟨PN, hPN⟩ : ∃ PN, PN = parts.length := ⟨_, rfl⟩
  have HPN : Hid (PN = parts.length) := hPN
  obtain ⟨IN, hIN⟩ : ∃ IN, IN = items.length := ⟨_, rfl⟩
  have HIN : Hid (IN = items.length) := hIN
  rw [← hIN] at HP1 c1 hfew hb1
  rw [← hPN] at n5 hW1 HM ⊢
  clear hPS hR hcells p1 hmp hT ha hm hrx hty hno hnk hB1 hPN hIN hpc1 hpc2 hb1
  go_enter Tryz.func58, Tryz.ntmps58
  go_upto_region 1 with fail
  rw [← hW1]
  clear hW1
  go_wp2_with fail
  refine (hcnt _).mono ?_
  rintro e u ⟨rfl, hu⟩
  obtain rfl := hu.symm
  clear hcnt hu
  by_cases hdp : 8 ≤ path.length
  · have HRe : Hid (R = ([], 14)) := by show _ = _; rw [HR.out]; unfold Wk.rstep; rw [if_pos hdp]
    have hgt : ((path.length + 1 : Nat) : Int) > 8 := by omega
    generalize path.length = PL at *
    clear HR
    go_wp2_with fail
    go_ret
    exact ⟨by rw [HRe.out]; rfl, Rf.of_below HB1.out hbase, fun e => by rw [HRe.out] at e; cases e⟩
  have hgt : ¬ ((path.length + 1 : Nat) : Int) > 8 := by omega
  by_cases hfl : IN = 100
  · have HRe : Hid (R = ([], 2)) := by show _ = _; rw [HR.out]; unfold Wk.rstep; rw [if_neg hdp, if_pos (by rw [HIl.out, ← HIN.out, hfl]; exact Nat.le_refl _)]
    generalize path.length = PL at *
    subst hfl
    clear HR
    go_wp2_with fail
    go_ret
    exact ⟨by rw [HRe.out]; rfl, Rf.of_below HB1.out hbase, fun e => by rw [HRe.out] at e; cases e⟩
  have hne1 : (((IN : Nat) : Int) == 100) = false := by rw [beq_eq_false_iff_ne]; omega
  obtain ⟨XI, hXI⟩ : ∃ XI, XI = W1.heap.size := ⟨_, rfl⟩
  have HXI : Hid (XI = w.heap.size + 1) := by show _ = _; rw [hXI]; exact HS1.out
  obtain ⟨WX, hWX⟩ : ∃ WX, WX = W1.alloc (.cells #[.string PS, .int .i64 3, .int .i64 mode, .int .i64 time, .string link] 46) := ⟨_, rfl⟩
  have hBX : Below W1.heap.size W1 WX := by rw [hWX]; exact (Below.refl _ W1).alloc (Nat.le_refl _) _
  have HBX : Hid (Below w.heap.size w WX) := HB1.out.trans (hBX.mono HB1.out.size)
  have HNX : Hid (WX.heap[w.heap.size]? = some (.cells #[.string name, .int .i64 3, .int .i64 mode, .int .i64 time, .int .i64 size, .slice pa PN pc, .string link] 89 (0, 0))) := (hBX.block _ (Array.getElem?_eq_some_iff.1 HM.out).1).trans HM.out
  have hitX : WX.heap[W1.heap.size]? = some (.cells #[.string PS, .int .i64 3, .int .i64 mode, .int .i64 time, .string link] 46 (0, 0)) := by rw [hWX]; exact heap_alloc_new W1 _
  obtain ⟨PL, hPL⟩ : ∃ PL, PL = path.length := ⟨_, rfl⟩
  have HPL : Hid (PL = path.length) := hPL
  rw [← hPL] at hgt ⊢
  clear hPL
  go_wp2_with fail
  go_upto_region 14 with fail
  rw [← hWX]
  clear hWX hBX n0 n1 n2 n3 n4 n5 n6 nlt c0 c1
  rw [← hXI] at hitX ⊢
  clear hXI
  obtain ⟨BY, hBY⟩ : ∃ BY : ByteArray, BY = link := ⟨_, rfl⟩
  have HBY : Hid (BY = link) := hBY
  rw [← hBY] at hitX
  clear hBY
  have HITX : Hid (WX.heap[XI]? = some (.cells #[.string PS, .int .i64 3, .int .i64 mode, .int .i64 time, .string BY] 46 (0, 0))) := hitX
  clear hitX
  have hp2X : WX.ownsRow base 46 5 (.slice ia IN ic) IN (rowR imC items) := by rw [HIN.out]; exact own_below HP2.out HBX.out
  have HP2X : Hid (WX.ownsRow base 46 5 (.slice ia IN ic) IN (rowR imC items)) := hp2X
  have HP1X : Hid (WX.heap[b]? = some (.cells #[.map (some m), .slice ia IN ic] 79 (0, 0))) := (HBX.out.block b hblt).trans HP1.out
  obtain ⟨u0, u1, u2, u3, u4, ult⟩ := five_at HITX.out
  obtain ⟨c0, c1⟩ := pair_at HP1X.out
  have HObl : Hid (∀ g, (Value.slice ia IN ic).ownBlock = some g → g ≠ b ∧ g < WX.heap.size ∧ base ≤ g ∧ g ≠ m ∧ ∃ cur, WX.heap[g]? = some (.cells cur 46 (0, 0))) := fun g hg => by
    obtain ⟨cur, hc, h2, h3⟩ := own_block HP2X.out hg
    refine ⟨fun e => ?_, h3, h2, fun e => ?_, cur, hc⟩
    · subst e; rw [HP1X.out] at hc; cases hc
    · subst e
      obtain ⟨es, ck, hk⟩ := (HMp.out.below HBX.out).isMap
      rw [hk] at hc
      cases hc
  have hrow : ∀ o2, ((WX.alloc o2).drew).ownsRow base 46 5 (.slice ia IN ic) IN (rowR imC items) := fun o2 => (hp2X.alloc o2).drew
  have HQ : Hid (∀ o2 w1, ((WX.alloc o2).drew).grownBy w1 (Value.slice ia IN ic).ownBlock → w1.heap[b]? = some (.cells #[.map (some m), .slice ia IN ic] 79 (0, 0)) ∧ Kept (fun k => (Value.slice ia IN ic).ownBlock ≠ some k) WX w1) := by
    intro o2 w1 hg
    have hk : Kept (fun k => (Value.slice ia IN ic).ownBlock ≠ some k) WX w1 := Kept.grown ((Kept.refl _ WX).alloc o2).drew hg fun k hk hp => hp hk
    exact ⟨hk.obj (fun e => (HObl.out _ e).1 rfl) HP1X.out, hk⟩
  have hbX : b < WX.heap.size := (Array.getElem?_eq_some_iff.1 HP1X.out).1
  have hbw : base ≤ WX.heap.size := Nat.le_trans hbase HBX.out.size
  go_cut [] from 45 (fun wx => Hid (∃ g cap, wx.ownsRow base 46 5 (.slice (some ⟨g, 0, none⟩) (IN + 1) cap) (IN + 1) (rowR imC items ++ [.string PS, .int .i64 3, .int .i64 mode, .int .i64 time, .string BY]) ∧
    wx.heap[b]? = some (.cells #[.map (some m), .slice (some ⟨g, 0, none⟩) (IN + 1) cap] 79 (0, 0)) ∧ Kept (fun k => k ≠ b ∧ (Value.slice ia IN ic).ownBlock ≠ some k) WX wx))
  case first =>
    go_region_law ((refine step_append_lies _ (by rfl) (.tmp 49) (.tmp 51) 26 (by rfl) base 46 i0 (.agg #[.string ⟨#[]⟩, .int .i64 0, .int .i64 0, .int .i64 0, .string ⟨#[]⟩]) 5 56 Tryz.underlying26 hi hz0 hz1 hz2 rfl (by decide) (.slice ia IN ic) IN (rowR imC items) (by rfl) (hrow _) ⟨WX.heap.size, 0, none⟩ 1 1 [.string PS, .int .i64 3, .int .i64 mode, .int .i64 time, .string BY] (by rfl) (by rfl) (itm_at (by simp) (by simp) (by simp) (by simp) (by simp)) (by simp [Value.oneCell']) (by decide) (by unfold maxLen; omega) (by omega) (by simp; omega) (WX.heap.size + 1) (by simp) ?_; intro g cap w1 hown1 hgrow hat hlt; obtain ⟨q1, q2⟩ := HQ.out _ _ hgrow; obtain ⟨z0, z1⟩ := pair_at q1; have zf := free_at q1 1))
    all_goals
      go_wp2_with fail
      go_meet
      have hgb : g ≠ b := fun e => by
        rcases hat with h | h
        · exact (HObl.out g h).1 e
        · omega
      exact ⟨g, cap, own_kept hown1 ((Kept.refl _ w1).setCell (p := fun k => k ≠ b) (by simp) _) (fun g' hg' e => hgb (by cases hg'; exact e)), set_one q1 _, (q2.mono fun _ h => h.2).setCell (fun h => h.1 rfl) _⟩
  case rest =>
  obtain ⟨g, cap, hown, hbc, hk⟩ := hcut.out
  have HK9 : Hid (Kept (fun k => k ≠ b ∧ (Value.slice ia IN ic).ownBlock ≠ some k) WX wc) := hk
  have HRf : Hid (Rf base w wc) := by
    refine ⟨(HBX.out.mono hbase).trans (hk.below hbw fun j hj => ⟨by have := HAt.out.1; omega, fun e => by have := (HObl.out j e).2.2.1; omega⟩), (Ko.of_below HBX.out).trans (Ko.of_kept hk fun j o ho hp => ⟨fun e => ?_, fun e => ?_⟩)⟩
    · subst e
      rw [HP1X.out] at ho
      cases ho
      exact hp.2 rfl
    · obtain ⟨cur, hc⟩ := (HObl.out j e).2.2.2.2
      rw [hc] at ho
      cases ho
      exact hp.1 rfl
  have HRp : Hid (Rpt base b m nq bs wc (items ++ [⟨PS, 3, mode, time, BY⟩])) := by
    refine ⟨⟨_, hbc, ?_⟩, (HMp.out.below HBX.out).obj fun es ck ho => (hk.block m ((HMp.out.below HBX.out).lt) ⟨fun e => ?_, fun e => (HObl.out m e).2.2.2.1 rfl⟩).trans ho, HAt.out.1, HAt.out.2, by rw [List.length_append, ← HIN.out]; simp; omega⟩
    · rw [List.length_append, ← HIN.out, rowR_more]
      exact hown
    · subst e
      rw [HP1X.out] at ho
      cases ho
  have HItx : Hid (its (items ++ [⟨PS, 3, mode, time, BY⟩]) = its items ++ [Wk.item path (Nod.nd ⟨name, 3, mode, time, size, parts, link⟩) BY.data.toList]) := by
    show _ = _
    rw [← HItm.out BY]
    simp [its]
  have hn9 : wc.heap[w.heap.size]? = some (.cells #[.string name, .int .i64 3, .int .i64 mode, .int .i64 time, .int .i64 size, .slice pa PN pc, .string link] 89 (0, 0)) := by
    have h1 := HNX.out
    have h2 := hk.block w.heap.size (Array.getElem?_eq_some_iff.1 h1).1 ⟨fun e => by omega, fun e => by
      obtain ⟨cur, hc⟩ := (HObl.out _ e).2.2.2.2
      rw [h1] at hc
      cases hc⟩
    exact h2.trans h1
  obtain ⟨n0, n1, n2, n3, n4, n5, n6, nlt⟩ := sev_at hn9
  clear hown hbc hk hcut HQ hrow u0 u1 u2 u3 u4 c0 c1 hp2X hn9
  have HRe : Hid (R = (its items ++ [Wk.item path (Nod.nd ⟨name, 3, mode, time, size, parts, link⟩) BY.data.toList], 0)) := by
    show _ = _
    rw [HR.out, HBY.out]
    unfold Wk.rstep
    rw [if_neg hdp, if_neg (by rw [HIl.out, ← HIN.out]; omega)]
    rfl
  clear HR
  go_wp2_with fail
  go_ret
  exact ⟨by rw [HRe.out]; rfl, HRf.out, fun _ => ⟨_, by rw [HItx.out, HRe.out], HRp.out⟩⟩

end Go.Proofs.YtimdioacmojkeaaGreatDoor

namespace Go.Proofs.YtimdioacmojkeaaGreatDoor
open Go.RowKit
set_option maxRecDepth 4000
open Nn (Name)

theorem rnode_any (base b m nq : Nat) (bs : List Blb) (hsm : Sm bs) (k : Nat) (hd : 1 ≤ k → RDirOk base b m nq bs k) (path : List Name) (hpk : path.length + (k + 1) = 9) (hps : ∀ s ∈ path, (47 : UInt8) ∉ s ∧ s.length ≤ 1024) (n : Nod) (pv : Value) (hnk : Nk n) (items : List Im) (w : World)
    (h : Rpt base b m nq bs w items) (hng : NdG w n (ndC n pv)) (hT : ∀ W, Below base w W → Tabs W) (R : List Wk.It × Int) (hR : R = Wk.rstep (pl bs) (Wk.reapDir (pl bs) k) path n.nd (its items)) :
    Calls Tryz.prog 58 #[.pointer (some ⟨b, 0, none⟩), .agg (ndC n pv).toArray, .string (mkB (Nn.tails (path ++ [n.name.data.toList])))] w fun e w' => e = .returned (.int .i64 R.2) ∧ Rf base w w' ∧ (R.2 = 0 → ∃ items', its items' = R.1 ∧ Rpt base b m nq bs w' items') := by
  rcases hnk.kind with e | e | e
  · exact rnode_file base b m nq bs hsm k hd path hpk hps n pv hnk e items w h hng hT R hR
  · exact rnode_dir base b m nq bs hsm k hd path hpk hps n pv hnk e items w h hng hT R hR
  · exact rnode_link base b m nq bs hsm k hd path hpk hps n pv hnk e items w h hng hT R hR
theorem nk_of {l : List Nod} (h : Td.check (nds l) = 0) {n : Nod} (hn : n ∈ l) : Nk n := by
  have hc := (Td.check_ok h).2 n.nd (List.mem_map_of_mem hn)
  obtain ⟨q1, _, _, q4, q5, q6, q7, q8, _⟩ := Td.nErr_ok hc
  have q7 : 1 ≤ n.kind := q7
  have q8 : n.kind ≤ 3 := q8
  refine ⟨by omega, ⟨(Nn.nm_ok q1).2.2.2, Nat.le_trans (Nn.nm_long q1) (by omega)⟩, ⟨q4, q5⟩, q6, fun e => ?_⟩
  have e' : n.nd.kind = 2 := e
  unfold Td.nErr at hc
  split at hc
  · rename_i z; exact absurd hc z
  split at hc
  · cases hc
  split at hc
  · cases hc
  split at hc
  · cases hc
  rename_i z
  by_cases h1 : n.parts.length = 1
  · by_cases h2 : n.link.data.toList = []
    · exact ⟨h1, h2⟩
    · exact absurd (.inr (.inr (.inl ⟨e', .inr h2⟩))) z
  · exact absurd (.inr (.inr (.inl ⟨e', .inl h1⟩))) z

set_option maxHeartbeats 4000000 in
set_option maxRecDepth 10000 in
theorem rdir_step (base b m nq : Nat) (bs : List Blb) (hsm : Sm bs) (k : Nat) (ih : 1 ≤ k → RDirOk base b m nq bs k) : RDirOk base b m nq bs (k + 1) := by
  intro path id items w hpk hps hid h hT R hR
  obtain ⟨b0, b1, b2, b3, b4, b5, b6, b7, rfl⟩ := eight id hid
  have eV : idV [b0, b1, b2, b3, b4, b5, b6, b7] = .agg #[.int .u8 (b0.toNat : Int), .int .u8 (b1.toNat : Int), .int .u8 (b2.toNat : Int), .int .u8 (b3.toNat : Int), .int .u8 (b4.toNat : Int), .int .u8 (b5.toNat : Int), .int .u8 (b6.toNat : Int), .int .u8 (b7.toNat : Int)] := rfl
  rw [eV]
  obtain ⟨⟨iv, p1, p2⟩, hmp, ha, hm, hfew⟩ := h
  have hblt : b < w.heap.size := (Array.getElem?_eq_some_iff.1 p1).1
  have hbase : base ≤ w.heap.size := by omega
  have HRp : Hid (Rpt base b m nq bs w items) := ⟨⟨iv, p1, p2⟩, hmp, ha, hm, hfew⟩
  have HT : Hid (∀ W, Below base w W → Tabs W) := hT
  obtain ⟨WA, hWA⟩ : ∃ WA, WA = w.alloc (.cells #[.int .u8 (b0.toNat : Int), .int .u8 (b1.toNat : Int), .int .u8 (b2.toNat : Int), .int .u8 (b3.toNat : Int), .int .u8 (b4.toNat : Int), .int .u8 (b5.toNat : Int), .int .u8 (b6.toNat : Int), .int .u8 (b7.toNat : Int)] 29) := ⟨_, rfl⟩
  have hbA : Below w.heap.size w WA := by rw [hWA]; exact (Below.refl _ w).alloc (Nat.le_refl _) _
  have HBA : Hid (Below w.heap.size w WA) := hbA
  have hIA : WA.heap[w.heap.size]? = some (.cells #[.int .u8 (b0.toNat : Int), .int .u8 (b1.toNat : Int), .int .u8 (b2.toNat : Int), .int .u8 (b3.toNat : Int), .int .u8 (b4.toNat : Int), .int .u8 (b5.toNat : Int), .int .u8 (b6.toNat : Int), .int .u8 (b7.toNat : Int)] 29 (0, 0)) := by rw [hWA]; exact heap_alloc_new w _
  have HcI : Hid (∀ W, Gw WA W → W.cell? ⟨w.heap.size, 0, none⟩ = some (.int .u8 (b0.toNat : Int)) ∧ W.cell? ⟨w.heap.size, 1, none⟩ = some (.int .u8 (b1.toNat : Int)) ∧ W.cell? ⟨w.heap.size, 2, none⟩ = some (.int .u8 (b2.toNat : Int)) ∧ W.cell? ⟨w.heap.size, 3, none⟩ = some (.int .u8 (b3.toNat : Int)) ∧ W.cell? ⟨w.heap.size, 4, none⟩ = some (.int .u8 (b4.toNat : Int)) ∧ W.cell? ⟨w.heap.size, 5, none⟩ = some (.int .u8 (b5.toNat : Int)) ∧ W.cell? ⟨w.heap.size, 6, none⟩ = some (.int .u8 (b6.toNat : Int)) ∧ W.cell? ⟨w.heap.size, 7, none⟩ = some (.int .u8 (b7.toNat : Int))) := fun W hW =>
    (I8.laid ((Below.block hW _ (Array.getElem?_eq_some_iff.1 hIA).1).trans hIA)).cells
  have HcB : Hid (∀ W, Gw WA W → W.cell? ⟨b, 0, none⟩ = some (.map (some m))) := fun W hW => by
    have h1 := (HBA.out.block _ hblt).trans p1
    have h2 := (Below.block hW _ (Array.getElem?_eq_some_iff.1 h1).1).trans h1
    exact (pair_at h2).1
  have hget : ∀ W, Gw WA W → Calls Tryz.prog 57 #[.map (some m), .agg #[.int .u8 (b0.toNat : Int), .int .u8 (b1.toNat : Int), .int .u8 (b2.toNat : Int), .int .u8 (b3.toNat : Int), .int .u8 (b4.toNat : Int), .int .u8 (b5.toNat : Int), .int .u8 (b6.toNat : Int), .int .u8 (b7.toNat : Int)], .int .i64 2] W fun e w' => e = .returned (.tuple #[.string ⟨(Wk.blobOf (pl bs) [b0, b1, b2, b3, b4, b5, b6, b7] 2).1.toArray⟩, .int .i64 (Wk.blobOf (pl bs) [b0, b1, b2, b3, b4, b5, b6, b7] 2).2]) ∧ Below W.heap.size W w' :=
    fun W hW => hget_any m nq bs [b0, b1, b2, b3, b4, b5, b6, b7] rfl 2 W ((hmp.below HBA.out).below hW)
  have hgl := blobOf_small hsm [b0, b1, b2, b3, b4, b5, b6, b7] 2
  have HRd : Hid (R = if (Wk.blobOf (pl bs) [b0, b1, b2, b3, b4, b5, b6, b7] 2).2 ≠ 0 then ([], (Wk.blobOf (pl bs) [b0, b1, b2, b3, b4, b5, b6, b7] 2).2) else if (Td.read (Wk.blobOf (pl bs) [b0, b1, b2, b3, b4, b5, b6, b7] 2).1).2 ≠ 0 then ([], (Td.read (Wk.blobOf (pl bs) [b0, b1, b2, b3, b4, b5, b6, b7] 2).1).2) else Wk.reapNodes (pl bs) (Wk.reapDir (pl bs) k) path (Td.read (Wk.blobOf (pl bs) [b0, b1, b2, b3, b4, b5, b6, b7] 2).1).1 (its items)) := hR
  rcases hG : Wk.blobOf (pl bs) [b0, b1, b2, b3, b4, b5, b6, b7] 2 with ⟨gs, GE⟩
  rw [hG] at hget HRd hgl
  dsimp only at hget HRd hgl
  obtain ⟨GS, hGS⟩ : ∃ GS : ByteArray, GS = ⟨gs.toArray⟩ := ⟨_, rfl⟩
  have hGd : gs = GS.data.toList := by rw [hGS]
  rw [← hGS] at hget
  rw [hGd] at HRd
  have hgsz : GS.size ≤ 4096 := by rw [Lib.size_eq, ← hGd]; exact hgl
  obtain ⟨PT, hPT⟩ : ∃ PT, PT = mkB (Nn.tails path) := ⟨_, rfl⟩
  have HPT : Hid (PT = mkB (Nn.tails path)) := hPT
  rw [← hPT]
  have Hmisc : Hid (path.length + (k + 1) = 9 ∧ (∀ s ∈ path, (47 : UInt8) ∉ s ∧ s.length ≤ 1024)) := ⟨hpk, hps⟩
  have HPl : Hid (PT.size ≤ 100000) := by
    show _ ≤ _
    rw [hPT, mkB, Lib.size_eq]
    have ht : ∀ l : List Name, (∀ s ∈ l, s.length ≤ 1024) → (Nn.tails l).length ≤ l.length * 1025 := fun l => by
      induction l with
      | nil => simp [Nn.tails]
      | cons s l ih =>
        intro hl
        have h1 := hl s List.mem_cons_self
        have h2 := ih fun t ht => hl t (List.mem_cons_of_mem _ ht)
        have e : Nn.tails (s :: l) = 47 :: (s ++ Nn.tails l) := rfl
        rw [e, List.length_cons, List.length_append, List.length_cons]
        omega
    have := ht path fun s hs => (hps s hs).2
    simp
    omega
  clear hR eV hmp p2 hT hG hGS hGd hgl hbA hIA hid hPT hps hpk hm ha hfew p1
  go_enter Tryz.func37, Tryz.ntmps37
  go_upto_region 1 with fail
  rw [← hWA]
  clear hWA
  by_cases hE : GE = 0
  case neg =>
    have HRe : Hid (R = ([], GE)) := by show _ = _; rw [HRd.out, if_pos hE]
    have hne : (GE != 0) = true := by rw [bne_iff_ne]; exact hE
    have HE : Hid (GE ≠ 0) := hE
    clear HRd hE
    refine wp_region_rel (G := Gw) (W0 := WA) Gw.refl Gw.trans (by kernel_rfl) (by kernel_rfl) (by kernel_rfl) (Below.refl _ WA).drew ?_
    refine .inl ⟨.pointer (some ⟨b, 0, none⟩), fun v W hW hd => step_run rfl _ W (by clear hd; go_simp) rfl (Gw.refl _), ?_⟩
    simp only [Act.put, List.setIfInBounds_toArray, List.set_cons_zero, List.set_cons_succ]
    refine .inl ⟨.pointer (some ⟨b, 0, none⟩), fun v W hW hd => step_run rfl _ W (by clear hd; go_simp) rfl (Gw.refl _), ?_⟩
    simp only [Act.put, List.setIfInBounds_toArray, List.set_cons_zero, List.set_cons_succ]
    refine .inl ⟨.pointer (some ⟨b, 0, none⟩), fun v W hW hd => step_run rfl _ W (by clear hd; go_simp) rfl (Gw.refl _), ?_⟩
    simp only [Act.put, List.setIfInBounds_toArray, List.set_cons_zero, List.set_cons_succ]
    refine .inl ⟨.map (some m), fun v W hW hd => step_run rfl _ W (by clear hd; have ce := HcB.out W hW; go_simp) rfl (Gw.refl _), ?_⟩
    simp only [Act.put, List.setIfInBounds_toArray, List.set_cons_zero, List.set_cons_succ]
    refine .inl ⟨.agg #[.int .u8 (b0.toNat : Int), .int .u8 (b1.toNat : Int), .int .u8 (b2.toNat : Int), .int .u8 (b3.toNat : Int), .int .u8 (b4.toNat : Int), .int .u8 (b5.toNat : Int), .int .u8 (b6.toNat : Int), .int .u8 (b7.toNat : Int)], fun v W hW hd => step_run rfl _ W (by clear hd; obtain ⟨c0, c1, c2, c3, c4, c5, c6, c7⟩ := HcI.out W hW; go_simp) rfl (Gw.refl _), ?_⟩
    simp only [Act.put, List.setIfInBounds_toArray, List.set_cons_zero, List.set_cons_succ]
    refine .inl ⟨.tuple #[.string GS, .int .i64 GE], fun v W hW hd => step_call rfl 57 #[.map (some m), .agg #[.int .u8 (b0.toNat : Int), .int .u8 (b1.toNat : Int), .int .u8 (b2.toNat : Int), .int .u8 (b3.toNat : Int), .int .u8 (b4.toNat : Int), .int .u8 (b5.toNat : Int), .int .u8 (b6.toNat : Int), .int .u8 (b7.toNat : Int)], .int .i64 2] (by clear hd; go_simp) ((hget W hW).mono fun e w' h => ⟨_, h.1, rfl, h.2⟩), ?_⟩
    simp only [Act.put, List.setIfInBounds_toArray, List.set_cons_zero, List.set_cons_succ]
    refine .inl ⟨.tuple #[.string GS, .int .i64 GE], fun v W hW hd => step_run rfl _ W (by clear hd; go_simp) rfl (Gw.refl _), ?_⟩
    simp only [Act.put, List.setIfInBounds_toArray, List.set_cons_zero, List.set_cons_succ]
    refine .inl ⟨.string GS, fun v W hW hd => step_run rfl _ W (by clear hd; go_simp) rfl (Gw.refl _), ?_⟩
    simp only [Act.put, List.setIfInBounds_toArray, List.set_cons_zero, List.set_cons_succ]
    refine .inl ⟨.int .i64 GE, fun v W hW hd => step_run rfl _ W (by clear hd; go_simp) rfl (Gw.refl _), ?_⟩
    simp only [Act.put, List.setIfInBounds_toArray, List.set_cons_zero, List.set_cons_succ]
    refine .inl ⟨.string GS, fun v W hW hd => step_run rfl _ W (by clear hd; go_simp) rfl (Gw.refl _), ?_⟩
    simp only [Act.put, List.setIfInBounds_toArray, List.set_cons_zero, List.set_cons_succ]
    refine .inl ⟨.int .i64 GE, fun v W hW hd => step_run rfl _ W (by clear hd; go_simp) rfl (Gw.refl _), ?_⟩
    simp only [Act.put, List.setIfInBounds_toArray, List.set_cons_zero, List.set_cons_succ]
    intro v w3 hW3 hV
    clear hV
    have HB3 : Hid (Below w.heap.size w w3) := HBA.out.trans (Below.mono hW3 HBA.out.size)
    clear hget HcI HcB hW3
    go_wp2_with fail
    go_ret
    exact ⟨by rw [HRe.out]; rfl, Rf.of_below HB3.out hbase, fun e => by rw [HRe.out] at e; exact absurd e HE.out⟩
  have HRd2 : Hid (R = if (Td.read GS.data.toList).2 ≠ 0 then ([], (Td.read GS.data.toList).2) else Wk.reapNodes (pl bs) (Wk.reapDir (pl bs) k) path (Td.read GS.data.toList).1 (its items)) := by show _ = _; rw [HRd.out, if_neg (fun q => q hE)]
  subst hE
  clear HRd
  refine wp_region_rel (G := Gw) (W0 := WA) Gw.refl Gw.trans (by kernel_rfl) (by kernel_rfl) (by kernel_rfl) (Below.refl _ WA).drew ?_
  refine .inl ⟨.pointer (some ⟨b, 0, none⟩), fun v W hW hd => step_run rfl _ W (by clear hd; go_simp) rfl (Gw.refl _), ?_⟩
  simp only [Act.put, List.setIfInBounds_toArray, List.set_cons_zero, List.set_cons_succ]
  refine .inl ⟨.pointer (some ⟨b, 0, none⟩), fun v W hW hd => step_run rfl _ W (by clear hd; go_simp) rfl (Gw.refl _), ?_⟩
  simp only [Act.put, List.setIfInBounds_toArray, List.set_cons_zero, List.set_cons_succ]
  refine .inl ⟨.pointer (some ⟨b, 0, none⟩), fun v W hW hd => step_run rfl _ W (by clear hd; go_simp) rfl (Gw.refl _), ?_⟩
  simp only [Act.put, List.setIfInBounds_toArray, List.set_cons_zero, List.set_cons_succ]
  refine .inl ⟨.map (some m), fun v W hW hd => step_run rfl _ W (by clear hd; have ce := HcB.out W hW; go_simp) rfl (Gw.refl _), ?_⟩
  simp only [Act.put, List.setIfInBounds_toArray, List.set_cons_zero, List.set_cons_succ]
  refine .inl ⟨.agg #[.int .u8 (b0.toNat : Int), .int .u8 (b1.toNat : Int), .int .u8 (b2.toNat : Int), .int .u8 (b3.toNat : Int), .int .u8 (b4.toNat : Int), .int .u8 (b5.toNat : Int), .int .u8 (b6.toNat : Int), .int .u8 (b7.toNat : Int)], fun v W hW hd => step_run rfl _ W (by clear hd; obtain ⟨c0, c1, c2, c3, c4, c5, c6, c7⟩ := HcI.out W hW; go_simp) rfl (Gw.refl _), ?_⟩
  simp only [Act.put, List.setIfInBounds_toArray, List.set_cons_zero, List.set_cons_succ]
  refine .inl ⟨.tuple #[.string GS, .int .i64 0], fun v W hW hd => step_call rfl 57 #[.map (some m), .agg #[.int .u8 (b0.toNat : Int), .int .u8 (b1.toNat : Int), .int .u8 (b2.toNat : Int), .int .u8 (b3.toNat : Int), .int .u8 (b4.toNat : Int), .int .u8 (b5.toNat : Int), .int .u8 (b6.toNat : Int), .int .u8 (b7.toNat : Int)], .int .i64 2] (by clear hd; go_simp) ((hget W hW).mono fun e w' h => ⟨_, h.1, rfl, h.2⟩), ?_⟩
  simp only [Act.put, List.setIfInBounds_toArray, List.set_cons_zero, List.set_cons_succ]
  refine .inl ⟨.tuple #[.string GS, .int .i64 0], fun v W hW hd => step_run rfl _ W (by clear hd; go_simp) rfl (Gw.refl _), ?_⟩
  simp only [Act.put, List.setIfInBounds_toArray, List.set_cons_zero, List.set_cons_succ]
  refine .inl ⟨.string GS, fun v W hW hd => step_run rfl _ W (by clear hd; go_simp) rfl (Gw.refl _), ?_⟩
  simp only [Act.put, List.setIfInBounds_toArray, List.set_cons_zero, List.set_cons_succ]
  refine .inl ⟨.int .i64 0, fun v W hW hd => step_run rfl _ W (by clear hd; go_simp) rfl (Gw.refl _), ?_⟩
  simp only [Act.put, List.setIfInBounds_toArray, List.set_cons_zero, List.set_cons_succ]
  refine .inl ⟨.string GS, fun v W hW hd => step_run rfl _ W (by clear hd; go_simp) rfl (Gw.refl _), ?_⟩
  simp only [Act.put, List.setIfInBounds_toArray, List.set_cons_zero, List.set_cons_succ]
  refine .inl ⟨.int .i64 0, fun v W hW hd => step_run rfl _ W (by clear hd; go_simp) rfl (Gw.refl _), ?_⟩
  simp only [Act.put, List.setIfInBounds_toArray, List.set_cons_zero, List.set_cons_succ]
  intro v w3 hW3 hV
  clear hV
  have HB3 : Hid (Below w.heap.size w w3) := HBA.out.trans (Below.mono hW3 HBA.out.size)
  clear hget HcI HcB hW3
  have hrd := tread_oy GS w3 (by omega) (HT.out w3 (HB3.out.mono hbase))
  unfold TgOy at hrd
  go_wp2_with fail
  refine hrd.mono ?_
  rintro e w4 ⟨v4, l4, B4, rfl, hd4, ho4, hl4, hb4⟩
  have HB4 : Hid (Below w.heap.size w w4) := HB3.out.trans (hb4.mono HB3.out.size)
  have HO4 : Hid (Oy 7 89 NdG B4 w4 v4 l4) := ho4
  obtain ⟨na, nc, rfl⟩ := ho4.ry.slice
  have HRp4 : Hid (Rpt base b m nq bs w4 items) := HRp.out.below HB4.out
  have HD4 : Hid (nds l4 = (Td.read GS.data.toList).1) := hd4
  clear hrd hb4 ho4 hd4
  by_cases hE : (Td.read GS.data.toList).2 = 0
  case neg =>
    have HRe : Hid (R = ([], (Td.read GS.data.toList).2)) := by show _ = _; rw [HRd2.out, if_pos hE]
    have hne : ((Td.read GS.data.toList).2 != 0) = true := by rw [bne_iff_ne]; exact hE
    have HE : Hid ((Td.read GS.data.toList).2 ≠ 0) := hE
    generalize (Td.read GS.data.toList).2 = ER at *
    clear HRd2 hE
    go_wp2_with fail
    go_ret
    exact ⟨by rw [HRe.out]; rfl, Rf.of_below HB4.out hbase, fun e => by rw [HRe.out] at e; exact absurd e HE.out⟩
  have hchk : Td.check (nds l4) = 0 := by
    rw [HD4.out]
    exact (Td.write_read (Prod.ext rfl hE)).2.1
  have HNk : Hid (∀ n ∈ l4, Nk n) := fun n hn => nk_of hchk hn
  have HRn : Hid (R = Wk.reapNodes (pl bs) (Wk.reapDir (pl bs) k) path (nds (l4.drop 0)) (its items)) := by
    show _ = _
    rw [HRd2.out, if_neg (fun q => q hE), ← HD4.out]; rfl
  have HRf4 : Hid (Rf base w w4) := Rf.of_below HB4.out hbase
  obtain ⟨N, hN⟩ : ∃ N, N = l4.length := ⟨_, rfl⟩
  have HN : Hid (N = l4.length) := hN
  rw [← hN] at HO4 hl4 ⊢
  rw [hE]
  have HPl2 : Hid ((Nn.tails path).length ≤ 100000) := by
    have h1 := HPl.out
    rw [HPT.out, mkB, Lib.size_eq] at h1
    exact h1
  clear HRd2 hE hchk hN HD4
  go_wp2_with fail
  go_loopw [35] (fun i wr => ∃ (j : Nat) (ij : List Im), j ≤ N ∧ i = .int .i64 j ∧ Hid (R = Wk.reapNodes (pl bs) (Wk.reapDir (pl bs) k) path (nds (l4.drop j)) (its ij)) ∧ Hid (Rpt base b m nq bs wr ij) ∧ Hid (Rf base w wr) ∧ Hid (Oy 7 89 NdG B4 wr (.slice na N nc) l4)) (fun i _ => N - (intOf i).toNat)
  case atStart => exact ⟨0, items, by omega, rfl, HRn, HRp4, HRf4, HO4⟩
  case round =>
    clear HRn HRp4 HRf4 HO4
    obtain ⟨j, ij, hj, rfl, HRn, HRp, HRf, HO⟩ := hrel
    by_cases hlt : j < N
    · have hjl : j < l4.length := by rw [← HN.out]; exact hlt
      obtain ⟨n, hx⟩ : ∃ n, l4[j]? = some n := ⟨_, List.getElem?_eq_getElem hjl⟩
      have hnk := HNk.out n (List.mem_of_getElem? hx)
      obtain ⟨kb, ko, cs, rfl, hkb, hcl, hng, hcell⟩ := HO.out.ry.get j n hx
      obtain ⟨pv, ecs, hrx, hty, hno⟩ := hng
      subst ecs
      have hdrop : nds (l4.drop j) = n.nd :: nds (l4.drop (j + 1)) := by
        rw [List.drop_eq_getElem_cons hjl, (List.getElem?_eq_some_iff.1 hx).2]; rfl
      obtain ⟨S, hS⟩ : ∃ S, S = Wk.rstep (pl bs) (Wk.reapDir (pl bs) k) path n.nd (its ij) := ⟨_, rfl⟩
      have HRs : Hid (R = if S.2 ≠ 0 then ([], S.2) else Wk.reapNodes (pl bs) (Wk.reapDir (pl bs) k) path (nds (l4.drop (j + 1))) S.1) := by
        show _ = _
        rw [HRn.out, hdrop, Wk.rnodes_step, ← hS]
      obtain ⟨WB, hWB⟩ : ∃ WB, WB = wr.alloc (.cells (ndC n pv).toArray 89) := ⟨_, rfl⟩
      have hbB : Below wr.heap.size wr WB := by rw [hWB]; exact (Below.refl _ wr).alloc (Nat.le_refl _) _
      have hbw : base ≤ wr.heap.size := Nat.le_trans hbase HRf.out.size
      have HfB : Hid (Rf base w WB) := HRf.out.trans (Rf.of_below hbB hbw)
      have hngB : NdG WB n (ndC n pv) := NdG.keep hbB.size (fun q cur fr ho => (hbB.block q (Array.getElem?_eq_some_iff.1 ho).1).trans ho) ⟨pv, rfl, hrx, hty, hno⟩
      have hnode := rnode_any base b m nq bs hsm k ih path Hmisc.out.1 Hmisc.out.2 n pv hnk ij WB (HRp.out.below hbB) hngB (fun W hW => HT.out W (HfB.out.low.trans hW)) S hS
      have HOB : Hid (Oy 7 89 NdG B4 WB (.slice (some ⟨kb, ko, none⟩) N nc) l4) := HO.out.belowN hbB
      have hc1 : ∀ W : World, (Op.stringOp .add PT ⟨#[47]⟩).run Tryz.prog W = .ok (.string ⟨(Nn.tails path ++ [47]).toArray⟩) W := fun W => by
        have := run_string_add_lists (P := Tryz.prog) W (Nn.tails path) [47] (by have := HPl2.out; omega) (by simp)
        rw [HPT.out]
        exact this
      obtain ⟨PT2, hPT2⟩ : ∃ PT2 : ByteArray, PT2 = ⟨(Nn.tails path ++ [47]).toArray⟩ := ⟨_, rfl⟩
      rw [← hPT2] at hc1
      have hc2 : ∀ W : World, (Op.stringOp .add PT2 n.name).run Tryz.prog W = .ok (.string (mkB (Nn.tails (path ++ [n.name.data.toList])))) W := fun W => by
        have := run_string_add_lists (P := Tryz.prog) W (Nn.tails path ++ [47]) n.name.data.toList (by have := HPl2.out; simp; omega) (by have := hnk.name.2; omega)
        rw [hPT2, Wk.tails_snoc]
        rw [List.append_assoc] at this
        exact this
      obtain ⟨PN, hPN⟩ : ∃ PN, PN = mkB (Nn.tails (path ++ [n.name.data.toList])) := ⟨_, rfl⟩
      rw [← hPN] at hnode hc2
      obtain ⟨name, kind, mode, time, size, parts, link⟩ := n
      dsimp only [ndC] at *
      obtain ⟨pa, pc, epc, _, _⟩ := hrx.slice
      subst epc
      have x0 := hcell 0 _ rfl
      have x1 := hcell 1 _ rfl
      have x2 := hcell 2 _ rfl
      have x3 := hcell 3 _ rfl
      have x4 := hcell 4 _ rfl
      have x5 := hcell 5 _ rfl
      have x6 := hcell 6 _ rfl
      rw [Nat.add_zero] at x0
      generalize parts.length = PL at *
      clear hcell hdrop hngB hrx hty hno hPT2 hPN hx hS hjl hbB HRp HO HRn hcl hnk
      go_wp2_with fail
      rw [← hWB]
      refine hnode.mono ?_
      rintro e w5 ⟨rfl, f5, hz⟩
      have HF5 : Hid (Rf base w w5) := HfB.trans f5
      have HO5 : Hid (Oy 7 89 NdG B4 w5 (.slice (some ⟨kb, ko, none⟩) N nc) l4) := HOB.out.keep f5.size fun q cur t fr ht ho => f5.cells ho (by rcases ht with e | e <;> (rw [e]; decide)) (by rcases ht with e | e <;> (rw [e]; decide))
      have HZ : Hid (S.2 = 0 → ∃ items', its items' = S.1 ∧ Rpt base b m nq bs w5 items') := hz
      clear hWB hnode f5 hz x0 x1 x2 x3 x4 x5 x6 hc1 hc2 hkb HfB HOB
      by_cases hE : S.2 = 0
      · obtain ⟨ij', hi1, hi2⟩ := HZ.out hE
        have HRn : Hid (R = Wk.reapNodes (pl bs) (Wk.reapDir (pl bs) k) path (nds (l4.drop (j + 1))) (its ij')) := by show _ = _; rw [HRs.out, if_neg (fun q => q hE), hi1]
        have HRp : Hid (Rpt base b m nq bs w5 ij') := hi2
        rw [hE]
        clear HRs HZ hi1 hi2 hE
        go_wp2_with fail
        go_roundw
        case measure => simp only [intOf]; omega
        case rel => exact ⟨j + 1, ij', by omega, by go_num, HRn, HRp, HF5, HO5⟩
      · have HRe : Hid (R = ([], S.2)) := by show _ = _; rw [HRs.out, if_pos hE]
        have hne : (S.2 != 0) = true := by rw [bne_iff_ne]; exact hE
        have HE : Hid (S.2 ≠ 0) := hE
        generalize S.2 = ER at *
        clear HRs HZ hE
        go_wp2_with fail
        go_ret
        exact ⟨by rw [HRe.out]; rfl, HF5.out, fun e => by rw [HRe.out] at e; exact absurd e HE.out⟩
    · obtain rfl : j = N := by omega
      have HRe : Hid (R = (its ij, 0)) := by
        have e : l4.drop j = [] := by rw [HN.out]; exact List.drop_of_length_le (Nat.le_refl _)
        show _ = _
        rw [HRn.out, e]; rfl
      clear HRn HO
      go_wp2_with fail
      go_ret
      exact ⟨by rw [HRe.out]; rfl, HRf.out, fun _ => ⟨ij, by rw [HRe.out], HRp.out⟩⟩
theorem rdir_all {base b m nq : Nat} {bs : List Blb} (hsm : Sm bs) : ∀ k, 1 ≤ k → RDirOk base b m nq bs k
  | 0, h => by omega
  | k + 1, _ => rdir_step base b m nq bs hsm k fun h => rdir_all hsm k h
end Go.Proofs.YtimdioacmojkeaaGreatDoor

namespace Go.Proofs.YtimdioacmojkeaaGreatDoor
open Go.RowKit
set_option maxRecDepth 4000
open Nn (Name)
namespace Wk
/-- what Reap tells, in plain words -/
def reapP (l : List Pk.Bl) (root : Bs) : List It × Int := if (heapP l).2 ≠ 0 then ([], (heapP l).2) else reapDir (heapP l).1 9 root [] []
theorem gath_ok : ∀ (r acc L : List Pk.Bl), gath r acc = (L, 0) → (∀ b ∈ acc, b ∈ L) ∧ (∀ b ∈ r, b ∈ L) ∧ (∀ b ∈ L, b ∈ acc ∨ b ∈ r) ∧ (∀ b ∈ r, Pk.bErr b = 0) ∧ (Fine acc → Fine L)
  | [], acc, L, h => by
    rw [gath] at h
    cases h
    exact ⟨fun _ q => q, fun _ q => absurd q List.not_mem_nil, fun _ q => .inl q, fun _ q => absurd q List.not_mem_nil, fun q => q⟩
  | b :: r, acc, L, h => by
    rw [gath] at h
    split at h
    · rename_i q; exact absurd (congrArg Prod.snd h) q
    rename_i q
    rcases hi : into acc b with ⟨l1, id, e⟩
    rw [hi] at h q
    dsimp only at h q
    obtain rfl := Decidable.not_not.mp q
    obtain ⟨i1, i2, i3, i4, i5, i6⟩ := into_ok hi
    obtain ⟨g1, g2, g3, g4, g5⟩ := gath_ok r l1 L h
    refine ⟨fun x hx => g1 x (i4 x hx), fun x hx => ?_, fun x hx => ?_, fun x hx => ?_, fun q => g5 (i5 q)⟩
    · rcases List.mem_cons.1 hx with e | hx
      · rw [e]; exact g1 b i3
      · exact g2 x hx
    · rcases g3 x hx with q | q
      · rcases i6 with e | e
        · rw [e] at q; exact .inl q
        · rw [e] at q
          rcases List.mem_append.1 q with q | q
          · exact .inl q
          · rw [List.mem_singleton.1 q]; exact .inr List.mem_cons_self
      · exact .inr (List.mem_cons_of_mem _ q)
    · rcases List.mem_cons.1 hx with e | hx
      · rw [e]; exact i1
      · exact g4 x hx
end Wk
theorem bErr_small {b : Pk.Bl} (h : Pk.bErr b = 0) : b.2.length ≤ 4096 := by
  unfold Pk.bErr at h
  split at h
  · split at h
    · cases h
    · omega
  · cases h
theorem heap_small {l : List Pk.Bl} {bs : List Blb} (h : Wk.heapP l = (pl bs, 0)) : Sm bs := by
  unfold Wk.heapP at h
  split at h
  · exact absurd (congrArg Prod.snd h) (by simp)
  intro x hx
  obtain ⟨_, _, g3, g4, _⟩ := Wk.gath_ok l [] (pl bs) h
  have hm : x.p ∈ pl bs := List.mem_map_of_mem hx
  rcases g3 x.p hm with q | q
  · exact absurd q List.not_mem_nil
  · have := bErr_small (g4 x.p q)
    rw [Lib.size_eq]
    exact this
/-- what Reap answers -/
def RpOut (l : List Blb) (root : Wk.Bs) (w : World) (e : Ending) (w' : World) : Prop :=
  ∃ v, e = .returned (.tuple #[v, .int .i64 (Wk.reapP (pl l) root).2]) ∧ Below w.heap.size w w' ∧ ((Wk.reapP (pl l) root).2 ≠ 0 → v = .slice none 0 0) ∧
    ((Wk.reapP (pl l) root).2 = 0 → ∃ items, its items = (Wk.reapP (pl l) root).1 ∧ w'.ownsRow w.heap.size 46 5 v items.length (rowR imC items) ∧ items.length ≤ 100)

set_option maxHeartbeats 4000000 in
set_option maxRecDepth 10000 in
theorem reap_any (v : Value) (l : List Blb) (root : Wk.Bs) (w : World) (h : Bx w v l) (hok : BOk l) (hl : l.length ≤ 140737488351232) (hr : root.length = 8) (hT : Tabs w) :
    Calls Tryz.prog 17 #[v, idV root] w (RpOut l root w) := by
  unfold RpOut
  obtain ⟨R, hR⟩ : ∃ R, R = Wk.reapP (pl l) root := ⟨_, rfl⟩
  rw [← hR]
  obtain ⟨b0, b1, b2, b3, b4, b5, b6, b7, rfl⟩ := eight root hr
  have eV : idV [b0, b1, b2, b3, b4, b5, b6, b7] = .agg #[.int .u8 (b0.toNat : Int), .int .u8 (b1.toNat : Int), .int .u8 (b2.toNat : Int), .int .u8 (b3.toNat : Int), .int .u8 (b4.toNat : Int), .int .u8 (b5.toNat : Int), .int .u8 (b6.toNat : Int), .int .u8 (b7.toNat : Int)] := rfl
  rw [eV]
  obtain ⟨W1, hW1⟩ : ∃ W1, W1 = w.alloc (.cells #[.int .u8 (b0.toNat : Int), .int .u8 (b1.toNat : Int), .int .u8 (b2.toNat : Int), .int .u8 (b3.toNat : Int), .int .u8 (b4.toNat : Int), .int .u8 (b5.toNat : Int), .int .u8 (b6.toNat : Int), .int .u8 (b7.toNat : Int)] 29) := ⟨_, rfl⟩
  have hB1 : Below w.heap.size w W1 := by rw [hW1]; exact (Below.refl _ w).alloc (Nat.le_refl _) _
  have HB1 : Hid (Below w.heap.size w W1) := hB1
  have HI1 : Hid (W1.heap[w.heap.size]? = some (.cells #[.int .u8 (b0.toNat : Int), .int .u8 (b1.toNat : Int), .int .u8 (b2.toNat : Int), .int .u8 (b3.toNat : Int), .int .u8 (b4.toNat : Int), .int .u8 (b5.toNat : Int), .int .u8 (b6.toNat : Int), .int .u8 (b7.toNat : Int)] 29 (0, 0))) := by rw [hW1]; exact heap_alloc_new w _
  have HT : Hid (Tabs w) := hT
  obtain ⟨H, hH⟩ : ∃ H, H = Wk.heapP (pl l) := ⟨_, rfl⟩
  have HH : Hid (H = Wk.heapP (pl l)) := hH
  have HR : Hid (R = if H.2 ≠ 0 then ([], H.2) else Wk.reapDir H.1 9 [b0, b1, b2, b3, b4, b5, b6, b7] [] []) := by show _ = _; rw [hR, hH]; rfl
  have hheap := heapOf_any v l W1 (h.below hB1) hok hl H hH
  obtain ⟨va, vc, rfl, _, _⟩ := h.slice
  generalize l.length = LN at *
  clear hR h hok hT hH hB1 eV hr
  go_enter Tryz.func17, Tryz.ntmps17
  go_upto_region 1 with fail
  rw [← hW1]
  clear hW1
  go_wp2_with fail
  refine hheap.mono ?_
  rintro e w2 ⟨hv, rfl, b2', hv1, hv2⟩
  have HB2 : Hid (Below w.heap.size w w2) := HB1.out.trans (b2'.mono HB1.out.size)
  by_cases hE : H.2 = 0
  case neg =>
    have HRe : Hid (R = ([], H.2)) := by show _ = _; rw [HR.out, if_pos hE]
    have hne : (H.2 != 0) = true := by rw [bne_iff_ne]; exact hE
    have HE : Hid (H.2 ≠ 0) := hE
    obtain rfl := hv1 hE
    generalize H.2 = ER at *
    clear HR hE hheap hv1 hv2 HH
    go_wp2_with fail
    go_ret2
    exact ⟨_, by rw [HRe.out]; rfl, HB2.out, fun _ => rfl, fun e => by rw [HRe.out] at e; exact absurd e HE.out⟩
  obtain ⟨m, n, bs, rfl, hn, hbl, hpl, hmw, hmp⟩ := hv2 hE
  have hHe : H = (pl bs, 0) := Prod.ext hpl.symm hE
  have hsm : Sm bs := heap_small (by rw [← HH.out]; exact hHe)
  have HR2 : Hid (R = Wk.reapDir (pl bs) 9 [b0, b1, b2, b3, b4, b5, b6, b7] [] (its [])) := by show _ = _; rw [HR.out, hHe]; rfl
  obtain ⟨W3, hW3⟩ : ∃ W3, W3 = w2.alloc (.cells #[.map (some m), .slice none 0 0] 79) := ⟨_, rfl⟩
  have hB3 : Below w2.heap.size w2 W3 := by rw [hW3]; exact (Below.refl _ w2).alloc (Nat.le_refl _) _
  have hb3 : W3.heap[w2.heap.size]? = some (.cells #[.map (some m), .slice none 0 0] 79 (0, 0)) := by rw [hW3]; exact heap_alloc_new w2 _
  have hb12 := b2'.size
  have hRp : Rpt W1.heap.size w2.heap.size m n bs W3 [] := ⟨⟨_, hb3, World.ownsRow_nil _ _ _ _⟩, hmp.below hB3, hb12, hmw, by simp⟩
  have HB3 : Hid (Below w.heap.size w W3) := HB2.out.trans (hB3.mono HB2.out.size)
  have hdir := rdir_all (base := W1.heap.size) (b := w2.heap.size) (m := m) (nq := n) hsm 9 (by omega) [] [b0, b1, b2, b3, b4, b5, b6, b7] [] W3 (by simp) (fun _ q => absurd q List.not_mem_nil) rfl hRp (fun W hW => HT.out.below (HB3.out.trans ((hW.mono HB1.out.size)))) R HR2.out
  have hdir' : Calls Tryz.prog 37 #[.pointer (some ⟨w2.heap.size, 0, none⟩), .agg #[.int .u8 (b0.toNat : Int), .int .u8 (b1.toNat : Int), .int .u8 (b2.toNat : Int), .int .u8 (b3.toNat : Int), .int .u8 (b4.toNat : Int), .int .u8 (b5.toNat : Int), .int .u8 (b6.toNat : Int), .int .u8 (b7.toNat : Int)], .string ⟨#[]⟩] W3 fun e w' => e = .returned (.int .i64 R.2) ∧ Rf W1.heap.size W3 w' ∧ (R.2 = 0 → ∃ items', its items' = R.1 ∧ Rpt W1.heap.size w2.heap.size m n bs w' items') := hdir
  have hI3 : W3.heap[w.heap.size]? = some (.cells #[.int .u8 (b0.toNat : Int), .int .u8 (b1.toNat : Int), .int .u8 (b2.toNat : Int), .int .u8 (b3.toNat : Int), .int .u8 (b4.toNat : Int), .int .u8 (b5.toNat : Int), .int .u8 (b6.toNat : Int), .int .u8 (b7.toNat : Int)] 29 (0, 0)) := by
    have h2 := (b2'.block _ (Array.getElem?_eq_some_iff.1 HI1.out).1).trans HI1.out
    exact (hB3.block _ (Array.getElem?_eq_some_iff.1 h2).1).trans h2
  obtain ⟨c0, c1, c2, c3, c4, c5, c6, c7⟩ := (I8.laid hI3).cells
  rw [hE]
  clear hdir hheap hv1 hv2 b2' HR hE hHe hpl hI3 hb3 hB3 hRp hmp
  go_upto_region 5 with fail
  rw [← hW3]
  clear hW3
  go_wp2_with fail
  refine hdir'.mono ?_
  rintro e w7 ⟨rfl, f7, hz⟩
  have HB7 : Hid (Below w.heap.size w w7) := HB3.out.trans (f7.low.mono HB1.out.size)
  clear hdir' c0 c1 c2 c3 c4 c5 c6 c7
  by_cases hE : R.2 = 0
  · obtain ⟨items, hi1, ⟨⟨iv, q1, q2⟩, _, _, _, q6⟩⟩ := hz hE
    obtain ⟨d0, d1⟩ := pair_at q1
    have HF : Hid (R.2 = 0 ∧ its items = R.1 ∧ w7.ownsRow w.heap.size 46 5 iv items.length (rowR imC items) ∧ items.length ≤ 100) := ⟨hE, hi1, own_lower q2 HB1.out.size, q6⟩
    obtain ⟨ia, ic, rfl⟩ := own_form q2
    obtain ⟨IN, hIN⟩ : ∃ IN, IN = items.length := ⟨_, rfl⟩
    rw [← hIN] at d1
    rw [hE]
    have HIN : Hid (IN = items.length) := hIN
    clear hz q1 q2 hi1 hE hIN
    go_wp2_with fail
    go_ret2
    exact ⟨_, by rw [HF.out.1]; rfl, HB7.out, fun e => absurd HF.out.1 e, fun _ => ⟨items, HF.out.2.1, by rw [HIN.out]; exact HF.out.2.2.1, HF.out.2.2.2⟩⟩
  · have hne : (R.2 != 0) = true := by rw [bne_iff_ne]; exact hE
    have HE : Hid (R.2 ≠ 0) := hE
    clear hz hE
    go_wp2_with fail
    go_ret2
    exact ⟨_, rfl, HB7.out, fun _ => rfl, fun e => absurd e HE.out⟩
end Go.Proofs.YtimdioacmojkeaaGreatDoor

namespace Go.Proofs.YtimdioacmojkeaaGreatDoor
namespace Wk

theorem Fine.sub {l l' : List Pk.Bl} (h : Fine l) (hs : ∀ x ∈ l', x ∈ l) : Fine l' := ⟨fun b hb => h.ok b (hs b hb), fun a ha b hb => h.one a (hs a ha) b (hs b hb)⟩
theorem gath_fine : ∀ (r acc : List Pk.Bl), Fine (acc ++ r) → (gath r acc).2 = 0
  | [], _, _ => rfl
  | b :: r, acc, h => by
    have hb : Pk.bErr b = 0 := h.ok b (by simp)
    have hi : (into acc b).2.2 = 0 ∧ ∀ x ∈ (into acc b).1, x ∈ acc ∨ x = b := by
      unfold into
      rw [if_neg (by simp [hb])]
      cases hf : acc.find? (fun x => Pk.bid x == Pk.bid b) with
      | none => exact ⟨rfl, fun x hx => by simpa using hx⟩
      | some x =>
        have hx : Pk.bid x = Pk.bid b := by simpa using List.find?_some hf
        have hm := List.mem_of_find?_eq_some hf
        have e : x = b := h.one x (List.mem_append_left _ hm) b (by simp) hx
        simp only [e, if_true]
        exact ⟨trivial, fun y hy => .inl hy⟩
    rw [gath, if_neg (by simp [hi.1])]
    refine gath_fine r _ (h.sub fun x hx => ?_)
    rcases List.mem_append.1 hx with k | k
    · rcases hi.2 x k with q | q
      · exact List.mem_append_left _ q
      · rw [q]; simp
    · exact List.mem_append_right _ (List.mem_cons_of_mem _ k)
theorem reap_back {w : List It} {l : List Pk.Bl} {id : Bs} (hb : ∀ L, Fine L → (∀ x ∈ l, x ∈ L) → reapDir L 9 id [] [] = (w, 0)) {l' : List Pk.Bl} (hF : Fine l') (hn : l'.length ≤ 1000) (hs : ∀ x ∈ l, x ∈ l') : reapP l' id = (w, 0) := by
  have hg : (gath l' []).2 = 0 := gath_fine l' [] (by simpa using hF)
  obtain ⟨L, hL⟩ : ∃ L, gath l' [] = (L, 0) := ⟨_, Prod.ext rfl hg⟩
  have hp : heapP l' = (L, 0) := by rw [heapP, if_neg (by omega), hL]
  obtain ⟨_, h2, _, _, h5⟩ := gath_ok l' [] L hL
  rw [reapP, hp]
  simp only [ne_eq, not_true, if_false]
  exact hb L (h5 ⟨fun _ q => absurd q List.not_mem_nil, fun _ q => absurd q List.not_mem_nil⟩) fun x hx => h2 x (hs x hx)
theorem reap_large {l' : List Pk.Bl} (h : 1000 < l'.length) (id : Bs) : reapP l' id = ([], 2) := by
  have hp : heapP l' = ([], 2) := by rw [heapP, if_pos h]
  rw [reapP, hp]
  simp
end Wk
end Go.Proofs.YtimdioacmojkeaaGreatDoor

namespace Go.Proofs.YtimdioacmojkeaaGreatDoor
open Go.RowKit

theorem small_plantP : (plantP 16 0 0 0 Wk.small).2.2 = 0 ∧ (plantP 16 0 0 0 Wk.small).1.length = 4 := by decide +kernel

/-- what a planted world is -/
structure Pld (fx mn mx bt : Int) (l : List Im) (bs : List Pk.Bl) (root : Wk.Bs) : Prop where
  way : wayN fx mn mx bt = 0
  world : Wk.world (its l) = 0
  few : (its l).length ≤ 100
  plant : Wk.plantDir (cutF fx mn mx bt) (its l) 9 [] [] = (bs, root, 0)
  good : Wk.Good (cutF fx mn mx bt) (its l)
  fine : Wk.Fine bs
  back : ∀ L, Wk.Fine L → (∀ x ∈ bs, x ∈ L) → Wk.reapDir L 9 root [] [] = (its l, 0)

theorem its_time {l : List Im} (hok : ∀ x ∈ l, x.Ok) : ∀ x ∈ its l, -9223372036854775808 ≤ x.time ∧ x.time ≤ 9223372036854775807 := fun x hx => by
  obtain ⟨y, hy, rfl⟩ := List.mem_map.1 hx
  exact (hok y hy).time2

theorem Pld.of {fx mn mx bt : Int} {l : List Im} (hok : ∀ x ∈ l, x.Ok) (h : (plantP fx mn mx bt (its l)).2.2 = 0) : Pld fx mn mx bt l (plantP fx mn mx bt (its l)).1 (plantP fx mn mx bt (its l)).2.1 := by
  by_cases hw : wayN fx mn mx bt = 0
  case neg =>
    rw [plantP, if_pos hw] at h
    exact absurd h hw
  by_cases hd : Wk.world (its l) = 0
  case neg =>
    rw [plantP, if_neg (fun q => q hw), if_pos hd] at h
    exact absurd h hd
  have hp : plantP fx mn mx bt (its l) = Wk.plantDir (cutF fx mn mx bt) (its l) 9 [] [] := by rw [plantP, if_neg (fun q => q hw), if_neg (fun q => q hd)]
  obtain ⟨h1, h2⟩ := Wk.world_ok hd
  have hc : ∀ x ∈ its l, x.kind = 1 → (cutF fx mn mx bt x.bytes).flatten = x.bytes := fun x hx hk => cutF_join hw x.bytes ((Wk.iErr_ok (h2.each x hx)).file hk)
  have hpl : Wk.plantDir (cutF fx mn mx bt) (its l) 9 [] [] = ((plantP fx mn mx bt (its l)).1, (plantP fx mn mx bt (its l)).2.1, 0) := by
    rw [← hp, ← h]
  obtain ⟨b1, b2⟩ := Wk.world_back hd (its_time hok) hc hpl
  exact ⟨hw, hd, h1, hpl, ⟨h2, its_time hok, hc⟩, b1, b2⟩

theorem bok_fine {bs : List Blb} (h : Wk.Fine (pl bs)) : BOk bs := fun b hb => by
  obtain ⟨h1, h2⟩ := Pk.bErr_ok (h.ok b.p (List.mem_map_of_mem hb))
  have h2 : b.bytes.data.toList.length ≤ 4096 := h2
  have hk : b.kind = 1 ∨ b.kind = 2 ∨ b.kind = 3 := h1
  refine ⟨?_, by rw [Lib.size_eq]; omega⟩
  rcases hk with k | k | k <;> rw [k] <;> decide

end Go.Proofs.YtimdioacmojkeaaGreatDoor

namespace Go.Proofs.YtimdioacmojkeaaGreatDoor
open Go.RowKit
set_option maxRecDepth 4000

theorem eqf_nil {P : Program} (W : World) (d : Nat) (xs ys : Array Value) : (Op.eqFields d xs ys []).run P W = .ok true W := by
  simp only [Op.eqFields, Sem.run_pure]

theorem eqf_cons {P : Program} (W : World) (d : Nat) (xs ys : Array Value) (f : Field) (fs : List Field) (v u : Value) (a b : Bool) (n : f.name ≠ "_")
    (p : (part f.type xs f.offset).run P W = .ok v W) (q : (part f.type ys f.offset).run P W = .ok u W) (e : (Op.equalIn d f.type v u).run P W = .ok a W) (h : (Op.eqFields d xs ys fs).run P W = .ok b W) :
    (Op.eqFields d xs ys (f :: fs)).run P W = .ok (a && b) W := by
  cases a <;> simp only [Op.eqFields, if_pos n, Sem.run_bind, p, q, Result.andThen_ok, e, Bool.not_true, Bool.not_false, Bool.false_eq_true, if_false, if_true, Sem.run_pure, Bool.true_and, Bool.false_and, h]

theorem fields_it : ∃ f0 f1 f2 f3 f4, (Tryz.prog.fieldsOf 46).toList = [f0, f1, f2, f3, f4] ∧ f0.type = 9 ∧ f0.offset = 0 ∧ f0.name ≠ "_" ∧ f1.type = 3 ∧ f1.offset = 1 ∧ f1.name ≠ "_" ∧ f2.type = 3 ∧ f2.offset = 2 ∧ f2.name ≠ "_" ∧ f3.type = 3 ∧ f3.offset = 3 ∧ f3.name ≠ "_" ∧ f4.type = 9 ∧ f4.offset = 4 ∧ f4.name ≠ "_" := by
  rw [show (Tryz.prog.fieldsOf 46) = _ from by unfold Program.fieldsOf; rw [Tryz.underlying46]]
  exact ⟨_, _, _, _, _, rfl, rfl, rfl, by decide, rfl, rfl, by decide, rfl, rfl, by decide, rfl, rfl, by decide, rfl, rfl, by decide⟩

/-- are two items the same? -/
def imSame (a b : Im) : Bool := (a.path.toList == b.path.toList) && ((a.kind == b.kind) && ((a.mode == b.mode) && ((a.time == b.time) && ((a.bytes.toList == b.bytes.toList) && true))))

theorem imSame_iff {a b : Im} : imSame a b = true ↔ a = b := by
  constructor
  · intro h
    simp only [imSame, Bool.and_eq_true, beq_iff_eq, Lib.toList_data] at h
    obtain ⟨h0, h1, h2, h3, h4, _⟩ := h
    refine Im.it_inj ?_
    simp only [Im.it, h0, h1, h2, h3, h4]
  · rintro rfl
    simp [imSame]

theorem it_cmp_at (d : Nat) (W : World) (a b : Im) :
    (Op.equalIn (d + 1 + 1) 46 (imV a) (imV b)).run Tryz.prog W = .ok (imSame a b) W := by
  have hp : Tryz.prog.stoodInHeld 46 = false := by kernel_rfl
  have hf : Tryz.prog.underlying 46 = some (.struct (Tryz.prog.fieldsOf 46)) := by kernel_rfl
  obtain ⟨f0, f1, f2, f3, f4, hfs, t0, o0, n0, t1, o1, n1, t2, o2, n2, t3, o3, n3, t4, o4, n4⟩ := fields_it
  have hs : ∀ s t : ByteArray, (Op.equalIn (d + 1) 9 (.string s) (.string t)).run Tryz.prog W = .ok (s.toList == t.toList) W := fun s t => run_equalIn_string (P := Tryz.prog) W d 9 s t (by kernel_rfl)
  have hi : ∀ x y : Int, (Op.equalIn (d + 1) 3 (.int .i64 x) (.int .i64 y)).run Tryz.prog W = .ok (x == y) W := fun x y => run_equalIn_int W d 3 .i64 .i64 x y (by kernel_rfl)
  rw [run_equalIn_struct W (d + 1) 46 _ _ hf hp, hfs]
  refine eqf_cons W (d + 1) _ _ f0 _ (.string a.path) (.string b.path) _ _ n0 (by rw [t0, o0]; simp [part, go_sem]) (by rw [t0, o0]; simp [part, go_sem]) (by rw [t0]; exact hs _ _) ?_
  refine eqf_cons W (d + 1) _ _ f1 _ (.int .i64 a.kind) (.int .i64 b.kind) _ _ n1 (by rw [t1, o1]; simp [part, go_sem]) (by rw [t1, o1]; simp [part, go_sem]) (by rw [t1]; exact hi _ _) ?_
  refine eqf_cons W (d + 1) _ _ f2 _ (.int .i64 a.mode) (.int .i64 b.mode) _ _ n2 (by rw [t2, o2]; simp [part, go_sem]) (by rw [t2, o2]; simp [part, go_sem]) (by rw [t2]; exact hi _ _) ?_
  refine eqf_cons W (d + 1) _ _ f3 _ (.int .i64 a.time) (.int .i64 b.time) _ _ n3 (by rw [t3, o3]; simp [part, go_sem]) (by rw [t3, o3]; simp [part, go_sem]) (by rw [t3]; exact hi _ _) ?_
  refine eqf_cons W (d + 1) _ _ f4 _ (.string a.bytes) (.string b.bytes) _ _ n4 (by rw [t4, o4]; simp [part, go_sem]) (by rw [t4, o4]; simp [part, go_sem]) (by rw [t4]; exact hs _ _) ?_
  exact eqf_nil W (d + 1) _ _

theorem it_cmp (W : World) (a b : Im) : (Op.equalIn 10000 46 (.agg #[.string a.path, .int .i64 a.kind, .int .i64 a.mode, .int .i64 a.time, .string a.bytes]) (.agg #[.string b.path, .int .i64 b.kind, .int .i64 b.mode, .int .i64 b.time, .string b.bytes])).run Tryz.prog W = .ok (imSame a b) W := it_cmp_at 9998 W a b

set_option maxHeartbeats 2000000 in
theorem equal_items (v1 v2 : Value) (l m : List Im) (w : World) (h1 : Ims w v1 l) (h2 : Ims w v2 m) (hl : l.length ≤ 140737488351232) :
    Calls Tryz.prog 18 #[v1, v2] w fun e w' => ∃ b : Bool, e = .returned (.bool b) ∧ (b = true ↔ l = m) ∧ Below w.heap.size w w' := by
  obtain ⟨a1, c1, rfl, j1, j2⟩ := h1.slice
  obtain ⟨a2, c2, rfl, j3, j4⟩ := h2.slice
  clear j1 j2 j3 j4
  obtain ⟨n1, hn1⟩ : ∃ n, n = l.length := ⟨_, rfl⟩
  obtain ⟨n2, hn2⟩ : ∃ n, n = m.length := ⟨_, rfl⟩
  have HN1 : Hid (n1 = l.length) := hn1
  have HN2 : Hid (n2 = m.length) := hn2
  rw [← hn1] at h1 hl ⊢
  rw [← hn2] at h2 ⊢
  clear hn1 hn2
  by_cases hq : n1 = n2
  case neg =>
    have hb : ((n1 : Int) != (n2 : Int)) = true := by rw [bne_iff_ne]; omega
    have HF : Hid (l ≠ m) := by rintro rfl; exact hq (HN1.out.trans HN2.out.symm)
    clear hq h1 h2
    go_enter Tryz.func18, Tryz.ntmps18
    go_wp2_with fail
    go_ret
    exact ⟨false, rfl, ⟨fun q => absurd q (by decide), fun q => absurd q HF.out⟩, Below.refl _ _⟩
  subst hq
  have hb : ((n1 : Int) != (n1 : Int)) = false := by simp
  go_enter Tryz.func18, Tryz.ntmps18
  go_wp2_with fail
  clear hb
  go_loopw [13] (fun i wr => ∃ k : Nat, k ≤ n1 ∧ i = .int .i64 k ∧ l.take k = m.take k ∧ Below w.heap.size w wr) (fun i _ => n1 - (intOf i).toNat)
  case atStart => exact ⟨0, by omega, rfl, rfl, Below.refl _ _⟩
  case round =>
    obtain ⟨k, hk, rfl, hpre, hbel⟩ := hrel
    have HP : Hid (l.take k = m.take k) := hpre
    clear hpre
    by_cases hlt : k < n1
    · obtain ⟨t, ht⟩ : ∃ t, l[k]? = some t := ⟨_, List.getElem?_eq_getElem (by have := HN1.out; omega)⟩
      obtain ⟨u, hu⟩ : ∃ u, m[k]? = some u := ⟨_, List.getElem?_eq_getElem (by have := HN2.out; omega)⟩
      obtain ⟨bk, o, rfl, hbk, c0, c1, c2, c3, c4⟩ := (h1.below hbel).item k t ht
      obtain ⟨bk', o', rfl, hbk', d0, d1, d2, d3, d4⟩ := (h2.below hbel).item k u hu
      have HT : Hid (l[k]? = some t ∧ m[k]? = some u) := ⟨ht, hu⟩
      clear h1 h2 ht hu
      have x0 : ∀ X : Since wr.heap.size wr, X.val.cell? ⟨bk, o + k * 5, none⟩ = some (.string t.path) := fun X => (X.property.cell (p := ⟨bk, o + k * 5, none⟩) hbk).trans c0
      have x1 : ∀ X : Since wr.heap.size wr, X.val.cell? ⟨bk, o + k * 5 + 1, none⟩ = some (.int .i64 t.kind) := fun X => (X.property.cell (p := ⟨bk, o + k * 5 + 1, none⟩) hbk).trans c1
      have x2 : ∀ X : Since wr.heap.size wr, X.val.cell? ⟨bk, o + k * 5 + 2, none⟩ = some (.int .i64 t.mode) := fun X => (X.property.cell (p := ⟨bk, o + k * 5 + 2, none⟩) hbk).trans c2
      have x3 : ∀ X : Since wr.heap.size wr, X.val.cell? ⟨bk, o + k * 5 + 3, none⟩ = some (.int .i64 t.time) := fun X => (X.property.cell (p := ⟨bk, o + k * 5 + 3, none⟩) hbk).trans c3
      have x4 : ∀ X : Since wr.heap.size wr, X.val.cell? ⟨bk, o + k * 5 + 4, none⟩ = some (.string t.bytes) := fun X => (X.property.cell (p := ⟨bk, o + k * 5 + 4, none⟩) hbk).trans c4
      have y0 : ∀ X : Since wr.heap.size wr, X.val.cell? ⟨bk', o' + k * 5, none⟩ = some (.string u.path) := fun X => (X.property.cell (p := ⟨bk', o' + k * 5, none⟩) hbk').trans d0
      have y1 : ∀ X : Since wr.heap.size wr, X.val.cell? ⟨bk', o' + k * 5 + 1, none⟩ = some (.int .i64 u.kind) := fun X => (X.property.cell (p := ⟨bk', o' + k * 5 + 1, none⟩) hbk').trans d1
      have y2 : ∀ X : Since wr.heap.size wr, X.val.cell? ⟨bk', o' + k * 5 + 2, none⟩ = some (.int .i64 u.mode) := fun X => (X.property.cell (p := ⟨bk', o' + k * 5 + 2, none⟩) hbk').trans d2
      have y3 : ∀ X : Since wr.heap.size wr, X.val.cell? ⟨bk', o' + k * 5 + 3, none⟩ = some (.int .i64 u.time) := fun X => (X.property.cell (p := ⟨bk', o' + k * 5 + 3, none⟩) hbk').trans d3
      have y4 : ∀ X : Since wr.heap.size wr, X.val.cell? ⟨bk', o' + k * 5 + 4, none⟩ = some (.string u.bytes) := fun X => (X.property.cell (p := ⟨bk', o' + k * 5 + 4, none⟩) hbk').trans d4
      clear c0 c1 c2 c3 c4 d0 d1 d2 d3 d4
      have heq := fun W => it_cmp W t u
      have HS : Hid (imSame t u = true ↔ t = u) := imSame_iff
      have hne : Nonempty (Since wr.heap.size wr) := ⟨⟨wr, Below.refl _ _⟩⟩
      generalize imSame t u = S at *
      cases S
      · go_wp2_with fail
        refine wp_region_since (B := wr.heap.size) (W0 := wr) (by kernel_rfl) (by kernel_rfl) (Below.refl _ _) ?_
        repeat (go_big_quiet_step (fail))
        refine wpQuiet_nil ?_
        rintro w7 ⟨U, rfl⟩
        have hU := U.property
        have HB3 : Hid (Below w.heap.size w U.val) := hbel.trans (hU.mono hbel.size)
        generalize U.val = w7 at *
        clear hU hbel x0 x1 x2 x3 x4 y0 y1 y2 y3 y4 heq hne
        go_wp2_with fail
        go_ret
        refine ⟨false, rfl, ⟨fun q => absurd q (by decide), ?_⟩, HB3.out⟩
        rintro rfl
        have := HT.out.1.symm.trans HT.out.2
        have := HS.out.2 (Option.some.inj this)
        cases this
      · go_wp2_with fail
        refine wp_region_since (B := wr.heap.size) (W0 := wr) (by kernel_rfl) (by kernel_rfl) (Below.refl _ _) ?_
        repeat (go_big_quiet_step (fail))
        refine wpQuiet_nil ?_
        rintro w7 ⟨U, rfl⟩
        have hU := U.property
        have HB3 : Hid (Below w.heap.size w U.val) := hbel.trans (hU.mono hbel.size)
        generalize U.val = w7 at *
        clear hU hbel x0 x1 x2 x3 x4 y0 y1 y2 y3 y4 heq hne
        go_wp2_with fail
        go_roundw
        case rel =>
          refine ⟨k + 1, by omega, by go_num, ?_, HB3.out⟩
          rw [List.take_add_one, List.take_add_one, HP.out, HT.out.1, HT.out.2, HS.out.1 (by first | exact trivial | rfl)]
        case measure => simp only [intOf]; omega
    · go_wp2_with fail
      go_ret
      refine ⟨true, rfl, ⟨fun _ => ?_, fun _ => rfl⟩, hbel⟩
      have h := HP.out
      have := HN1.out
      have := HN2.out
      rwa [List.take_of_length_le (by omega), List.take_of_length_le (by omega)] at h

end Go.Proofs.YtimdioacmojkeaaGreatDoor

namespace Go.Proofs.YtimdioacmojkeaaGreatDoor
open Go.RowKit
set_option maxRecDepth 4000

theorem some_way (w : World) : Calls Tryz.prog 34 #[] w fun e w' => e = .returned (wayV 16 0 0 0) ∧ Below w.heap.size w w' := by
  have HB : Hid (∀ o, Below w.heap.size w (w.alloc o)) := fun o => (Below.refl _ w).alloc (Nat.le_refl _) o
  go_enter Tryz.func34, Tryz.ntmps34
  go_wp2_with fail
  refine bodyPost_ret (v := wayV 16 0 0 0) ?_ rfl ⟨rfl, HB.out _⟩
  simp [results, asAddr, go_sem]

/-- the small world as it lies in memory -/
def smallM : List Im := [⟨⟨#[47, 100]⟩, 2, 0, 0, ⟨#[]⟩⟩, ⟨⟨#[47, 100, 47, 102]⟩, 1, 0, 0, ⟨#[48, 49, 50, 51, 52, 53, 54, 55, 56, 57, 97, 98, 99, 100, 101, 102, 48, 49, 50, 51, 52, 53, 54, 55, 56, 57, 97, 98, 99, 100, 101, 102, 33]⟩⟩]

theorem smallM_its : its smallM = Wk.small := rfl

theorem some_world (w : World) : Calls Tryz.prog 35 #[] w fun e w' => ∃ a c, e = .returned (.slice (some a) 2 c) ∧ Ims w' (.slice (some a) 2 c) smallM ∧ Below w.heap.size w w' := by
  have HB : Hid (∀ o, Below w.heap.size w (w.alloc o)) := fun o => (Below.refl _ w).alloc (Nat.le_refl _) o
  go_enter Tryz.func35, Tryz.ntmps35
  go_wp2_with fail
  go_ret
  refine ⟨_, _, rfl, ?_, HB.out _⟩
  refine Rx.of_own (base := w.heap.size) (T := 46) imC_length ⟨by rfl, .inr ⟨w.heap.size, 2, _, rfl, Nat.le_refl _, heap_alloc_new w _, Nat.le_refl _, by unfold maxLen; decide, rfl, rfl⟩⟩

/-- Plant at a world that it takes -/
theorem plant_ok {fx mn mx bt : Int} {v : Value} {l : List Im} {w : World} (h : Ims w v l) (hl : l.length ≤ 140737488351232) (hok : ∀ x ∈ l, x.Ok) (hT : Tabs w) {P : List Pk.Bl × Wk.Bs × Int} (hP : P = plantP fx mn mx bt (its l)) (h0 : P.2.2 = 0) :
    Calls Tryz.prog 7 #[wayV fx mn mx bt, v] w fun e w' => ∃ v' bs, e = .returned (.tuple #[v', idV P.2.1, .int .i64 0]) ∧ pl bs = P.1 ∧ P.2.1.length = 8 ∧ w'.ownsRow w.heap.size 37 2 v' bs.length (rowR blC bs) ∧ Bx w' v' bs ∧ BOk bs ∧ bs.length ≤ 1000000 ∧ Below w.heap.size w w' := by
  refine (plant_any fx mn mx bt v l w h hl hok hT).mono ?_
  rintro e w' ⟨v', id, he, h8, hb, _, hk⟩
  rw [← hP, h0] at he hk
  obtain ⟨bs, e1, e2, e3, e4⟩ := hk rfl
  have hF : Wk.Fine (pl bs) := by
    rw [e1, hP]
    exact (Pld.of hok (by rw [← hP]; exact h0)).fine
  refine ⟨v', bs, by rw [he, e2], e1, by rw [← e2]; exact h8, e3, Rx.of_own blC_length e3, bok_fine hF, e4, hb⟩

/-- Reap of whatever blobs with those of a planted world among them -/
theorem reap_ok {v : Value} {bs : List Blb} {root : Wk.Bs} {w : World} (h : Bx w v bs) (hok : BOk bs) (hl : bs.length ≤ 140737488351232) (hr : root.length = 8) (hT : Tabs w) {l : List Im} (hR : Wk.reapP (pl bs) root = (its l, 0)) :
    Calls Tryz.prog 17 #[v, idV root] w fun e w' => ∃ v', e = .returned (.tuple #[v', .int .i64 0]) ∧ Ims w' v' l ∧ w'.ownsRow w.heap.size 46 5 v' l.length (rowR imC l) ∧ l.length ≤ 100 ∧ Below w.heap.size w w' := by
  refine (reap_any v bs root w h hok hl hr hT).mono ?_
  rintro e w' ⟨v', he, hb, _, hk⟩
  rw [hR] at he hk
  obtain ⟨items, e1, e2, e3⟩ := hk rfl
  obtain rfl := its_inj e1
  exact ⟨v', he, Rx.of_own imC_length e2, e2, e3, hb⟩

/-- Reap of what it refuses -/
theorem reap_bad {v : Value} {bs : List Blb} {root : Wk.Bs} {w : World} (h : Bx w v bs) (hok : BOk bs) (hl : bs.length ≤ 140737488351232) (hr : root.length = 8) (hT : Tabs w) {E : Int} (hR : (Wk.reapP (pl bs) root).2 = E) (h0 : E ≠ 0) :
    Calls Tryz.prog 17 #[v, idV root] w fun e w' => e = .returned (.tuple #[.slice none 0 0, .int .i64 E]) ∧ Below w.heap.size w w' := by
  refine (reap_any v bs root w h hok hl hr hT).mono ?_
  rintro e w' ⟨v', he, hb, hk, _⟩
  rw [hR] at he hk
  obtain rfl := hk h0
  exact ⟨he, hb⟩

set_option maxHeartbeats 4000000 in
theorem walked_any (w : World) (hT : Tabs w) : Calls Tryz.prog 14 #[] w fun e w' => e = .returned (.bool true) ∧ Below w.heap.size w w' := by
  have hok : ∀ x ∈ smallM, x.Ok := fun x hx => by
    rcases List.mem_cons.1 hx with rfl | hx
    · exact ⟨by decide, by decide, by decide⟩
    rcases List.mem_cons.1 hx with rfl | hx
    · exact ⟨by decide, by decide, by decide⟩
    exact absurd hx List.not_mem_nil
  have HOK : Hid (∀ x ∈ smallM, x.Ok) := hok
  obtain ⟨P, hP⟩ : ∃ P, P = plantP 16 0 0 0 (its smallM) := ⟨_, rfl⟩
  have HP : Hid (P = plantP 16 0 0 0 (its smallM)) := hP
  have HZ : Hid (P.2.2 = 0) := by show _ = _; rw [hP]; exact small_plantP.1
  have HL : Hid (P.1.length = 4) := by show _ = _; rw [hP]; exact small_plantP.2
  have HF : Hid (Pld 16 0 0 0 smallM P.1 P.2.1) := by
    show Pld _ _ _ _ _ _ _
    rw [hP]
    exact Pld.of hok small_plantP.1
  have hw := some_way
  have hm := some_world
  have HT : Hid (Tabs w) := hT
  clear hok hT hP
  go_enter Tryz.func14, Tryz.ntmps14
  go_wp2_with fail
  refine (hw _).mono ?_
  rintro e w1 ⟨rfl, b1⟩
  have HB1 : Hid (Below w.heap.size w w1) := b1
  clear hw b1
  go_wp2_with fail
  refine (hm _).mono ?_
  rintro e w2 ⟨a2, c2, rfl, x2, b2⟩
  have HB2 : Hid (Below w.heap.size w w2) := HB1.out.trans (b2.mono HB1.out.size)
  have hp := plant_ok x2 (by decide) HOK.out (HT.out.below HB2.out) HP.out HZ.out
  clear b2 x2
  go_wp2_with fail
  refine hp.mono ?_
  rintro e w3 ⟨v3, bs, rfl, hbs, h8, o3, x3, k3, n3, b3⟩
  have HB3 : Hid (Below w.heap.size w w3) := HB2.out.trans (b3.mono HB2.out.size)
  have HX3 : Hid (Bx w3 v3 bs ∧ BOk bs) := ⟨x3, k3⟩
  have HBS : Hid (pl bs = P.1) := hbs
  have hbl : bs.length = 4 := by rw [← pl_length, hbs, HL.out]
  obtain ⟨d0, d1, d2, d3, d4, d5, d6, d7, hid⟩ := eight _ h8
  have hag : idV [d0, d1, d2, d3, d4, d5, d6, d7] = .agg #[.int .u8 (d0.toNat : Int), .int .u8 (d1.toNat : Int), .int .u8 (d2.toNat : Int), .int .u8 (d3.toNat : Int), .int .u8 (d4.toNat : Int), .int .u8 (d5.toNat : Int), .int .u8 (d6.toNat : Int), .int .u8 (d7.toNat : Int)] := rfl
  rw [hid, hag]
  have HID : Hid (P.2.1 = [d0, d1, d2, d3, d4, d5, d6, d7]) := hid
  obtain ⟨W4, hW4⟩ : ∃ W4, W4 = w3.alloc (.cells #[.int .u8 (d0.toNat : Int), .int .u8 (d1.toNat : Int), .int .u8 (d2.toNat : Int), .int .u8 (d3.toNat : Int), .int .u8 (d4.toNat : Int), .int .u8 (d5.toNat : Int), .int .u8 (d6.toNat : Int), .int .u8 (d7.toNat : Int)] 29) := ⟨_, rfl⟩
  have HB4 : Hid (Below w.heap.size w W4) := by rw [hW4]; exact HB3.out.trans (((Below.refl _ w3).alloc (Nat.le_refl _) _).mono HB3.out.size)
  have HX4 : Hid (Bx W4 v3 bs) := HX3.out.1.below (by rw [hW4]; exact (Below.refl _ w3).alloc (Nat.le_refl _) _)
  obtain ⟨a3, c3, e3, _, _⟩ := x3.slice
  subst e3
  rw [hbl] at HX4 ⊢
  have hr := reap_ok (root := [d0, d1, d2, d3, d4, d5, d6, d7]) HX4.out k3 (by omega) rfl (HT.out.below HB4.out) (l := smallM) (Wk.reap_back (by rw [← hid]; exact HF.out.back) (by rw [hbs]; exact HF.out.fine) (by rw [pl_length]; omega) (fun x hx => by rw [hbs]; exact hx))
  rw [hag] at hr
  clear hp b3 h8 o3 n3 hbs hid x3 k3 hag
  have HM4 : Hid (I8 W4 w3.heap.size [d0, d1, d2, d3, d4, d5, d6, d7]) := by rw [hW4]; exact I8.laid (heap_alloc_new w3 _)
  obtain ⟨y0, y1, y2, y3, y4, y5, y6, y7⟩ := HM4.out.cells
  obtain ⟨bk, hbk⟩ : ∃ bk, bk = w3.heap.size := ⟨_, rfl⟩
  go_upto_region 2 with fail
  rw [← hW4]
  rw [← hbk] at y0 y1 y2 y3 y4 y5 y6 y7 ⊢
  clear hW4 hbk HM4
  go_wp2_with fail
  refine hr.mono ?_
  rintro e w5 ⟨v5, rfl, x5, o5, n5, b5⟩
  have HB5 : Hid (Below w.heap.size w w5) := HB4.out.trans (b5.mono HB4.out.size)
  obtain ⟨a5, c5, rfl, _, _⟩ := x5.slice
  have HX5 : Hid (Ims w5 (.slice a5 smallM.length c5) smallM) := x5
  have hln : smallM.length = 2 := rfl
  rw [hln] at HX5 ⊢
  clear hr b5 x5 o5 n5 hln y0 y1 y2 y3 y4 y5 y6 y7
  go_wp2_with fail
  refine (hm _).mono ?_
  rintro e w6 ⟨a6, c6, rfl, x6, b6⟩
  have HB6 : Hid (Below w.heap.size w w6) := HB5.out.trans (b6.mono HB5.out.size)
  have he := equal_items (.slice a5 2 c5) (.slice (some a6) 2 c6) smallM smallM w6 (HX5.out.below b6) x6 (by decide)
  clear b6 x6 hm
  go_wp2_with fail
  refine he.mono ?_
  rintro e w7 ⟨b, rfl, hb, b7⟩
  have HB7 : Hid (Below w.heap.size w w7) := HB6.out.trans (b7.mono HB6.out.size)
  obtain rfl : b = true := hb.2 (by first | exact trivial | rfl)
  clear he b7 hb
  go_wp2_with fail
  go_ret
  exact ⟨rfl, HB7.out⟩

end Go.Proofs.YtimdioacmojkeaaGreatDoor

namespace Go.Proofs
open Go.Shelf
def Tryz.revBl_ren : Go.Shelf.Ren := ⟨fun | 35 => 16 | n => n, fun | 22 => 27 | 23 => 37 | 3 => 3 | 4 => 4 | 0 => 0 | n => n, fun | n => n⟩
theorem Tryz.revBl : Go.Proofs.SlLaysE0.n35 Tryz.prog Tryz.revBl_ren := {
  mixed := by kernel_rfl
  f35 := ⟨Tryz.f16.name, by decide, Tryz.func16.trans (congrArg some (by kernel_rfl))⟩
  t0 := Tryz.underlying0
  a0 := Tryz.isAgg0
  z0 := Tryz.sizeOf0
  v0 := Tryz.zeroValue0
  t3 := Tryz.underlying3
  a3 := Tryz.isAgg3
  z3 := Tryz.sizeOf3
  v3 := Tryz.zeroValue3
  t4 := Tryz.underlying4
  a4 := Tryz.isAgg4
  z4 := Tryz.sizeOf4
  v4 := Tryz.zeroValue4
  t22 := Tryz.underlying27
  a22 := Tryz.isAgg27
  z22 := Tryz.sizeOf27
  v22 := Tryz.zeroValue27 }
end Go.Proofs

namespace Go.Proofs.YtimdioacmojkeaaGreatDoor
open Go.RowKit Go.Sort Go.Lib

/-- the blob of nothing -/
def bl0 : Blb := ⟨0, ⟨#[]⟩⟩

theorem Rx.srcw {α : Type} {k : Nat} {C : α → List Value} {w : World} {a : Option Addr} {n c : Nat} {l : List α} (hC : ∀ t, (C t).length = k) (hk : 0 < k) (h : Rx k C w (.slice a n c) l) : (a = none → l.length = 0) ∧ ∀ ad, a = some ad → ∀ j u, (rowR C l)[j]? = some u → w.cell? (ad.add j) = some u := by
  rcases h.at_ with ⟨_, rfl⟩ | ⟨bk, o, cap, h1, h3, h4⟩
  · exact ⟨fun _ => rfl, fun ad _ j u hj => by simp [rowR] at hj⟩
  · rw [Value.slice.injEq] at h1
    obtain ⟨rfl, rfl, rfl⟩ := h1
    refine ⟨fun e => by simp at e, fun ad e j u hj => ?_⟩
    obtain rfl := Option.some.inj e
    have hjl : j < l.length * k := by
      have := (List.getElem?_eq_some_iff.1 hj).1
      rwa [rowR_length hC] at this
    have hr : j % k < k := Nat.mod_lt _ hk
    have hq : j / k < l.length := (Nat.div_lt_iff_lt_mul hk).2 hjl
    have ej : j / k * k + j % k = j := by have := Nat.div_add_mod j k; rw [Nat.mul_comm] at this; exact this
    rw [← ej, rowR_get hC l (j / k) (j % k) l[j / k] (List.getElem?_eq_getElem hq) hr] at hj
    have := h4 (j / k) _ (List.getElem?_eq_getElem hq) (j % k) u hj
    rw [Nat.add_assoc, ej] at this
    rw [show ((⟨bk, o, none⟩ : Addr).add j) = ⟨bk, o + j, none⟩ from by unfold Addr.add; split <;> simp_all]
    exact this

theorem info_b3 {P : Program} {e : TypeId} {z : Option Value} {s b : Nat} (h : (P.info? e).map (fun i => (i.zero, i.size, i.bytes)) = some (z, s, b)) : ∃ i, P.info? e = some i ∧ i.zero = z ∧ i.size = s ∧ i.bytes = b := by
  cases hi : P.info? e with
  | none => rw [hi] at h; cases h
  | some i =>
    rw [hi] at h
    simp only [Option.map_some, Option.some.injEq, Prod.mk.injEq] at h
    exact ⟨i, rfl, h.1, h.2.1, h.2.2⟩

theorem info_blz : (Tryz.prog.info? 37).map (fun i => (i.zero, i.size, i.bytes)) = some (some (blV bl0), 2, 24) := by kernel_rfl

theorem wk_holds_own {α : Type} [Inhabited α] {k : Nat} {C : α → List Value} (hC : ∀ t, (C t).length = k) (hk : 0 < k) {base g cap : Nat} {T : TypeId} {w : World} {l : List α} (h : w.ownsRow base T k (.slice (some ⟨g, 0, none⟩) l.length cap) l.length (rowR C l)) : HoldsK C k w g 0 l.toArray := by
  intro t ht
  have hs : t < l.length * k := by simpa using ht
  have hj : t / k < l.length := (Nat.div_lt_iff_lt_mul hk).2 hs
  have hm : t % k < k := Nat.mod_lt _ hk
  have et : t / k * k + t % k = t := by have := Nat.div_add_mod t k; rw [Nat.mul_comm] at this; exact this
  rw [get_flatK C k l.toArray t (by simpa using hs)]
  have e : l.toArray[t / k]! = l[t / k] := by simp [hj]
  rw [e, Nat.zero_add]
  have hr : t % k < (C l[t / k]).length := by rw [hC]; exact hm
  have hq : (rowR C l)[t / k * k + t % k]? = some ((C l[t / k])[t % k]) := by rw [rowR_get hC l (t / k) (t % k) l[t / k] (List.getElem?_eq_getElem hj) hm]; exact List.getElem?_eq_getElem hr
  have hc := World.ownsRow.cells h (g := g) rfl (t / k * k + t % k) _ hq
  rw [et] at hc
  rw [show ((⟨g, 0, none⟩ : Addr).add t) = ⟨g, t, none⟩ from by unfold Addr.add; split <;> simp_all] at hc
  refine ⟨?_, ?_⟩
  · rw [hc]; simp [hr]
  · rcases h.2 with ⟨e', _⟩ | ⟨g', cap', cur, e', _, hh, _⟩
    · simp at e'
    · simp only [Value.slice.injEq, Option.some.injEq, Addr.mk.injEq, true_and, and_true] at e'
      obtain ⟨rfl, rfl⟩ := e'
      exact frozen_of_row w g t cur T hh
theorem wk_rx_holds {α : Type} [Inhabited α] {k : Nat} {C : α → List Value} (hC : ∀ t, (C t).length = k) {g cap : Nat} {w : World} {l : List α} (hg : g < w.heap.size) (h1 : l.length ≤ cap) (h2 : cap ≤ 9223372036854775807) (h : HoldsK C k w g 0 l.toArray) : Rx k C w (.slice (some ⟨g, 0, none⟩) l.length cap) l := by
  refine ⟨.inr ⟨g, 0, cap, rfl, hg, fun j t hj r u hu => ?_⟩, _, _, _, rfl, h1, h2⟩
  obtain ⟨hjl, rfl⟩ := List.getElem?_eq_some_iff.1 hj
  have hr : r < k := by have := (List.getElem?_eq_some_iff.1 hu).1; rwa [hC] at this
  have := (HoldsK.cell h (i := j) (c := r) (by simpa using hjl) hr).1
  rw [this]
  have e : l.toArray[j]! = l[j] := by simp [hjl]
  rw [e]
  obtain ⟨hr', rfl⟩ := List.getElem?_eq_some_iff.1 hu
  simp [hr']
theorem wk_kept_put {α : Type} [Inhabited α] {k n g : Nat} {C : α → List Value} {W : World} {d : Array α} : Kept (fun b => b ≠ g) W (putRowK C k (Sort.ahead W n) g 0 d) := by
  unfold putRowK putRow mapBlock Sort.ahead
  refine ⟨rfl, rfl, rfl, by simp, fun j hj hp => ?_⟩
  show (W.heap.modify g _)[j]? = _
  rw [Array.getElem?_modify, if_neg (fun e => hp e.symm)]

set_option maxHeartbeats 2000000 in
theorem clone_blobs (v : Value) (l : List Blb) (w : World) (h : Bx w v l) (hl : l.length ≤ 1000000) :
    Calls Tryz.prog 15 #[v] w fun e w' => ∃ v', e = .returned v' ∧ w'.ownsRow w.heap.size 37 2 v' l.length (rowR blC l) ∧ Below w.heap.size w w' := by
  obtain ⟨i0, hi, hz0, hz1, hz2⟩ := info_b3 info_blz
  obtain ⟨a, c, rfl, _, _⟩ := h.slice
  have qn : ∀ (w : World) (a : Option Addr) (n c n' c' : Nat), (binOp .eql 27 (.slice a n c) (.slice none n' c')).run Tryz.prog w = .ok (.bool a.isNone) w := fun w a n c n' c' => Lib.run_eql_slice_nil w _ _ a n c n' c' Tryz.underlying27
  obtain ⟨hs1, hs2⟩ := h.srcw blC_length (by omega)
  cases a with
  | none =>
    have hln : l = [] := List.length_eq_zero_iff.1 (hs1 rfl)
    subst hln
    clear hs1 hs2 h
    go_enter Tryz.func15, Tryz.ntmps15
    go_wp2_with fail
    go_ret
    exact ⟨.slice none 0 0, rfl, World.ownsRow_nil _ _ _ _, Below.refl _ _⟩
  | some ad =>
    have hsp := (h.below ((Below.refl w.heap.size w).alloc (Nat.le_refl _) (.cells #[] 37))).srcw blC_length (by omega)
    have hcell2 := hsp.2 ad rfl
    have hown0 : (w.alloc (.cells #[] 37)).ownsRow w.heap.size 37 2 (.slice (some ⟨w.heap.size, 0, none⟩) 0 0) 0 [] := World.ownsRow_lit w #[] 0 (Nat.le_refl _) (by unfold maxLen; omega) rfl
    clear h hs1 hs2 hsp
    go_enter Tryz.func15, Tryz.ntmps15
    go_wp2_with (at_builtin; refine wpList_append_own _ rfl (.tmp 5) (.tmp 6) 27 rfl w.heap.size 37 i0 (blV bl0) 2 24 Tryz.underlying27 hi hz0 hz1 hz2 (by kernel_rfl) (by decide) _ _ _ rfl hown0 ad l.length _ (rowR blC l) rfl (rowR_length blC_length l) hcell2 (rowR_one blC_one l) (by unfold maxLen; omega) (by omega) (by simp) ?_; intro v1 w3 o3 g3 _)
    simp only [Nat.zero_add, List.nil_append] at o3
    have HO : Hid (w3.ownsRow w.heap.size 37 2 v1 l.length (rowR blC l)) := o3
    have HB : Hid (Below w.heap.size w w3) := ((Below.refl _ w).alloc (Nat.le_refl _) _).grown g3 (by simp) (fun k hk => by cases hk; exact Nat.le_refl _)
    clear o3 g3
    go_ret
    exact ⟨v1, rfl, HO.out, HB.out⟩

theorem reverse_blobs (v : Value) (l : List Blb) (w : World) (base : Nat) (h : w.ownsRow base 37 2 v l.length (rowR blC l)) (hl : l.length ≤ 1000000) :
    Calls Tryz.prog 16 #[v] w fun e w' => e = .returned (.tuple #[]) ∧ Bx w' v l.reverse ∧ Below base w w' := by
  haveI : Inhabited Blb := ⟨bl0⟩
  by_cases h0 : l.length = 0
  · have hn : l = [] := List.length_eq_zero_iff.1 h0
    subst hn
    have hp : Bx w v [] := Rx.of_own (l := ([] : List Blb)) blC_length h
    obtain ⟨a, c, rfl, _, _⟩ := hp.slice
    exact (AnyQ.slices_Reverse_empty Tryz.revBl a c w).mono fun e w' ⟨he, hw⟩ => ⟨he, by rw [hw]; exact hp, by rw [hw]; exact Below.refl _ _⟩
  · obtain ⟨g, cap, hv⟩ : ∃ g cap, v = .slice (some ⟨g, 0, none⟩) l.length cap := by
      rcases h.2 with ⟨_, h0'⟩ | ⟨g, cap, cur, rfl, _⟩
      · exact absurd h0' h0
      · exact ⟨_, _, rfl⟩
    subst hv
    obtain ⟨hbg, hg⟩ := h.lt g rfl
    obtain ⟨_, _, _, hc1, hc2⟩ := (Rx.of_own (l := l) blC_length h).slice
    obtain ⟨a', n', c', e', hc1, hc2⟩ := (Rx.of_own (l := l) blC_length h).room
    rw [Value.slice.injEq] at e'
    obtain ⟨rfl, rfl, rfl⟩ := e'
    have hcon := AnyQ.slices_Reverse Tryz.revBl 2 Tryz.isAgg37 Tryz.sizeOf37 blC blC_length blC_one g 0 cap l.toArray w (wk_holds_own blC_length (by omega) h) (by simp; omega)
    rw [List.size_toArray] at hcon
    change Calls Tryz.prog 16 _ _ _ at hcon
    refine hcon.mono fun e w' ⟨he, n, hw⟩ => ⟨he, ?_, ?_⟩
    · have hh : HoldsK blC 2 (putRowK blC 2 (Sort.ahead w n) g 0 l.toArray.reverse) g 0 l.toArray.reverse := holdsK_putRowK blC 2 _ g 0 l.toArray l.toArray.reverse (holdsK_ahead blC 2 w n g 0 _ (wk_holds_own blC_length (by omega) h)) (by simp)
      rw [List.reverse_toArray] at hh
      have hk := wk_kept_put (C := blC) (k := 2) (n := n) (g := g) (W := w) (d := l.toArray.reverse)
      have hx := wk_rx_holds (l := l.reverse) (cap := cap) blC_length (Nat.lt_of_lt_of_le hg hk.size) (by rw [List.length_reverse]; exact hc1) hc2 (by rw [← List.reverse_toArray] at hh ⊢; exact hh)
      rw [List.length_reverse] at hx
      rw [hw]
      exact hx
    · rw [hw]
      exact (wk_kept_put (C := blC) (k := 2) (n := n) (g := g) (W := w) (d := l.toArray.reverse)).below (by omega) fun j hj => by show j ≠ g; omega

end Go.Proofs.YtimdioacmojkeaaGreatDoor

namespace Go.Proofs.YtimdioacmojkeaaGreatDoor
open Go.RowKit
set_option maxRecDepth 4000

/-- a way in a block -/
def WyAt (W : World) (b : Nat) (fx mn mx bt : Int) : Prop := b < W.heap.size ∧ W.cell? ⟨b, 0, none⟩ = some (.int .i64 fx) ∧ W.cell? ⟨b, 1, none⟩ = some (.int .i64 mn) ∧ W.cell? ⟨b, 2, none⟩ = some (.int .i64 mx) ∧ W.cell? ⟨b, 3, none⟩ = some (.int .i64 bt)
theorem WyAt.below {W W' : World} {b : Nat} {fx mn mx bt : Int} (h : WyAt W b fx mn mx bt) (hb : Below W.heap.size W W') : WyAt W' b fx mn mx bt := by
  obtain ⟨h0, h1, h2, h3, h4⟩ := h
  exact ⟨Nat.lt_of_lt_of_le h0 hb.size, (hb.cell (p := ⟨b, 0, none⟩) h0).trans h1, (hb.cell (p := ⟨b, 1, none⟩) h0).trans h2, (hb.cell (p := ⟨b, 2, none⟩) h0).trans h3, (hb.cell (p := ⟨b, 3, none⟩) h0).trans h4⟩

/-- Plant at a world that it refuses -/
theorem plant_bad {fx mn mx bt : Int} {v : Value} {l : List Im} {w : World} (h : Ims w v l) (hl : l.length ≤ 140737488351232) (hok : ∀ x ∈ l, x.Ok) (hT : Tabs w) {E : Int} (hE : E = (plantP fx mn mx bt (its l)).2.2) (h0 : E ≠ 0) :
    Calls Tryz.prog 7 #[wayV fx mn mx bt, v] w fun e w' => e = .returned (.tuple #[.slice none 0 0, .agg #[.int .u8 0, .int .u8 0, .int .u8 0, .int .u8 0, .int .u8 0, .int .u8 0, .int .u8 0, .int .u8 0], .int .i64 E]) ∧ Below w.heap.size w w' := by
  refine (plant_any fx mn mx bt v l w h hl hok hT).mono ?_
  rintro e w' ⟨v', id, he, h8, hb, hk, _⟩
  rw [← hE] at he hk
  obtain ⟨rfl, rfl⟩ := hk h0
  exact ⟨by rw [he]; rfl, hb⟩

set_option maxRecDepth 8000 in
set_option maxHeartbeats 4000000 in
theorem walkBack_walk (fx mn mx bt gx gn gm gt : Int) (v : Value) (l : List Im) (z : l.length ≤ 140737488351232) (f : ∀ x ∈ l, x.Ok) (w : World) (t : Ims w v l) (hT : Tabs w) :
    Calls Tryz.prog 4 #[wayV fx mn mx bt, wayV gx gn gm gt, v] w fun e w' => e = .returned (.bool true) ∧ Below w.heap.size w w' := by
  obtain ⟨W1, hW1⟩ : ∃ W1, W1 = (w.alloc (.cells #[.int .i64 fx, .int .i64 mn, .int .i64 mx, .int .i64 bt] 25)).alloc (.cells #[.int .i64 gx, .int .i64 gn, .int .i64 gm, .int .i64 gt] 25) := ⟨_, rfl⟩
  have HB1 : Hid (Below w.heap.size w W1) := by rw [hW1]; exact ((Below.refl _ w).alloc (Nat.le_refl _) _).alloc (by simp) _
  have HA1 : Hid (WyAt W1 w.heap.size fx mn mx bt) := by rw [hW1]; exact ⟨by simp; omega, by simp, by simp, by simp, by simp⟩
  have HO1 : Hid (WyAt W1 (w.heap.size + 1) gx gn gm gt) := by rw [hW1]; exact ⟨by simp, by simp, by simp, by simp, by simp⟩
  have HX : Hid (Ims w v l) := t
  have HT : Hid (Tabs w) := hT
  have HF : Hid (∀ x ∈ l, x.Ok) := f
  have HZ : Hid (l.length ≤ 140737488351232) := z
  have hwk := walked_any W1 (hT.below HB1.out)
  obtain ⟨P, hP⟩ : ∃ P, P = plantP fx mn mx bt (its l) := ⟨_, rfl⟩
  have HP : Hid (P = plantP fx mn mx bt (its l)) := hP
  obtain ⟨a0, c0, rfl, _, _⟩ := t.slice
  clear t hT f z hP
  go_enter Tryz.func4, Tryz.ntmps4
  go_upto_region 1 with fail
  rw [← hW1]
  obtain ⟨p1, hp1⟩ : ∃ p1, p1 = w.heap.size := ⟨_, rfl⟩
  have HBK : Hid (p1 = w.heap.size) := hp1
  rw [← hp1] at HA1 HO1 ⊢
  clear hW1 hp1
  go_wp2_with fail
  refine hwk.mono ?_
  rintro e w2 ⟨rfl, b2⟩
  have HB2 : Hid (Below w.heap.size w w2) := HB1.out.trans (b2.mono HB1.out.size)
  have HA2 : Hid (WyAt w2 p1 fx mn mx bt) := HA1.out.below b2
  have HO2 : Hid (WyAt w2 (p1 + 1) gx gn gm gt) := HO1.out.below b2
  obtain ⟨_, ca0, ca1, ca2, ca3⟩ := HA2.out
  clear hwk b2
  obtain ⟨N, hN⟩ : ∃ N, N = l.length := ⟨_, rfl⟩
  have HN : Hid (N = l.length) := hN
  have HX2 : Hid (Ims w2 (.slice a0 N c0) l) := by rw [hN]; exact HX.out.below HB2.out
  rw [← hN]
  clear hN
  by_cases hE : P.2.2 = 0
  case neg =>
    have hpl := plant_bad (fx := fx) (mn := mn) (mx := mx) (bt := bt) HX2.out HZ.out HF.out (HT.out.below HB2.out) (E := P.2.2) (by rw [HP.out]) hE
    have hne : (P.2.2 != 0) = true := by rw [bne_iff_ne]; exact hE
    generalize P.2.2 = E at *
    have hzz : ∀ W, (Op.equalIn 10000 29 (.agg #[.int .u8 0, .int .u8 0, .int .u8 0, .int .u8 0, .int .u8 0, .int .u8 0, .int .u8 0, .int .u8 0]) (.agg #[.int .u8 0, .int .u8 0, .int .u8 0, .int .u8 0, .int .u8 0, .int .u8 0, .int .u8 0, .int .u8 0])).run Tryz.prog W = .ok true W := fun W => id_eq W (List.replicate 8 0) (List.replicate 8 0) rfl rfl
    clear hE
    go_wp2_with fail
    refine hpl.mono ?_
    rintro e w3 ⟨rfl, b3⟩
    have HB3 : Hid (Below w.heap.size w w3) := HB2.out.trans (b3.mono HB2.out.size)
    clear hpl b3
    obtain ⟨W4, hW4⟩ : ∃ W4, W4 = w3.alloc (.cells #[.int .u8 0, .int .u8 0, .int .u8 0, .int .u8 0, .int .u8 0, .int .u8 0, .int .u8 0, .int .u8 0] 29) := ⟨_, rfl⟩
    have HB4 : Hid (Below w.heap.size w W4) := by rw [hW4]; exact HB3.out.trans (((Below.refl _ w3).alloc (Nat.le_refl _) _).mono HB3.out.size)
    have HI4 : Hid (I8 W4 w3.heap.size [0, 0, 0, 0, 0, 0, 0, 0]) := by rw [hW4]; exact I8.laid (heap_alloc_new w3 _)
    obtain ⟨y0, y1, y2, y3, y4, y5, y6, y7⟩ := HI4.out.cells
    go_upto_region 4 with fail
    rw [← hW4]
    generalize w3.heap.size = p2 at *
    clear hW4 HI4 ca0 ca1 ca2 ca3
    go_wp2_with fail
    go_ret
    exact ⟨rfl, HB4.out⟩
  have hpl := plant_ok (fx := fx) (mn := mn) (mx := mx) (bt := bt) HX2.out HZ.out HF.out (HT.out.below HB2.out) HP.out hE
  have HE : Hid (P.2.2 = 0) := hE
  have HPl : Hid (Pld fx mn mx bt l P.1 P.2.1) := by
    show Pld _ _ _ _ _ _ _
    rw [HP.out]
    exact Pld.of HF.out (by rw [← HP.out]; exact hE)
  clear hE
  go_wp2_with fail
  refine hpl.mono ?_
  rintro e w3 ⟨v3, bs, rfl, hbs, h8, o3, x3, k3, n3, b3⟩
  have HB3 : Hid (Below w.heap.size w w3) := HB2.out.trans (b3.mono HB2.out.size)
  obtain ⟨d0, d1, d2, d3, d4, d5, d6, d7, hid⟩ := eight _ h8
  have hag : idV [d0, d1, d2, d3, d4, d5, d6, d7] = .agg #[.int .u8 (d0.toNat : Int), .int .u8 (d1.toNat : Int), .int .u8 (d2.toNat : Int), .int .u8 (d3.toNat : Int), .int .u8 (d4.toNat : Int), .int .u8 (d5.toNat : Int), .int .u8 (d6.toNat : Int), .int .u8 (d7.toNat : Int)] := rfl
  rw [hid, hag]
  have HID : Hid (P.2.1 = [d0, d1, d2, d3, d4, d5, d6, d7]) := hid
  have HBS : Hid (pl bs = P.1) := hbs
  have HBN : Hid (bs.length ≤ 1000000) := n3
  have HBO : Hid (BOk bs) := k3
  obtain ⟨a3, c3, e3, _, _⟩ := x3.slice
  subst e3
  obtain ⟨M, hM⟩ : ∃ M, M = bs.length := ⟨_, rfl⟩
  have HM : Hid (M = bs.length) := hM
  rw [← hM] at x3 n3 ⊢
  have HX3 : Hid (Bx w3 (.slice a3 M c3) bs) := x3
  have HA3 : Hid (WyAt w3 p1 fx mn mx bt) := HA2.out.below b3
  have HO3 : Hid (WyAt w3 (p1 + 1) gx gn gm gt) := HO2.out.below b3
  obtain ⟨W4, hW4⟩ : ∃ W4, W4 = w3.alloc (.cells #[.int .u8 (d0.toNat : Int), .int .u8 (d1.toNat : Int), .int .u8 (d2.toNat : Int), .int .u8 (d3.toNat : Int), .int .u8 (d4.toNat : Int), .int .u8 (d5.toNat : Int), .int .u8 (d6.toNat : Int), .int .u8 (d7.toNat : Int)] 29) := ⟨_, rfl⟩
  have h34 : Below w3.heap.size w3 W4 := by rw [hW4]; exact (Below.refl _ w3).alloc (Nat.le_refl _) _
  have HB4 : Hid (Below w.heap.size w W4) := HB3.out.trans (h34.mono HB3.out.size)
  have HX4 : Hid (Bx W4 (.slice a3 M c3) bs) := HX3.out.below h34
  have HA4 : Hid (WyAt W4 p1 fx mn mx bt) := HA3.out.below h34
  have HO4 : Hid (WyAt W4 (p1 + 1) gx gn gm gt) := HO3.out.below h34
  have HI4 : Hid (I8 W4 w3.heap.size [d0, d1, d2, d3, d4, d5, d6, d7]) := by rw [hW4]; exact I8.laid (heap_alloc_new w3 _)
  have hcl := clone_blobs (.slice a3 M c3) bs W4 HX4.out HBN.out
  clear hpl b3 h8 o3 hbs hid x3 k3 hag h34 hM ca0 ca1 ca2 ca3
  go_upto_region 6 with fail
  rw [← hW4]
  obtain ⟨p2, hp2⟩ : ∃ p2, p2 = w3.heap.size := ⟨_, rfl⟩
  rw [← hp2] at HI4 ⊢
  clear hW4 hp2
  go_wp2_with fail
  refine hcl.mono ?_
  rintro e w5 ⟨v5, rfl, o5, b5⟩
  have HB5 : Hid (Below w.heap.size w w5) := HB4.out.trans (b5.mono HB4.out.size)
  have hrv := reverse_blobs v5 bs w5 W4.heap.size o5 HBN.out
  have HX5 : Hid (Bx w5 (.slice a3 M c3) bs) := HX4.out.below b5
  have HA5 : Hid (WyAt w5 p1 fx mn mx bt) := HA4.out.below b5
  have HO5 : Hid (WyAt w5 (p1 + 1) gx gn gm gt) := HO4.out.below b5
  have HI5 : Hid (I8 w5 p2 [d0, d1, d2, d3, d4, d5, d6, d7]) := HI4.out.below b5 HI4.out.lt
  have HW4 : Hid (Below W4.heap.size W4 w5) := b5
  obtain ⟨a5, c5, e5, _, _⟩ := (Rx.of_own (l := bs) blC_length o5).slice
  subst e5
  rw [← HM.out] at hrv ⊢
  clear hcl b5 o5
  go_wp2_with fail
  refine hrv.mono ?_
  rintro e w6 ⟨rfl, x6, b6⟩
  have HB46 : Hid (Below W4.heap.size W4 w6) := HW4.out.trans b6
  have HB6 : Hid (Below w.heap.size w w6) := HB4.out.trans (HB46.out.mono HB4.out.size)
  have HX6 : Hid (Bx w6 (.slice a3 M c3) bs) := HX4.out.below HB46.out
  have HA6 : Hid (WyAt w6 p1 fx mn mx bt) := HA4.out.below HB46.out
  have HO6 : Hid (WyAt w6 (p1 + 1) gx gn gm gt) := HO4.out.below HB46.out
  have HI6 : Hid (I8 w6 p2 [d0, d1, d2, d3, d4, d5, d6, d7]) := HI4.out.below HB46.out HI4.out.lt
  have HV6 : Hid (Bx w6 (.slice a5 M c5) bs.reverse) := x6
  obtain ⟨y0, y1, y2, y3, y4, y5, y6, y7⟩ := HI6.out.cells
  clear hrv b6 x6
  have hr8 : ([d0, d1, d2, d3, d4, d5, d6, d7] : List UInt8).length = 8 := rfl
  have hrM : Hid (pl bs.reverse = (pl bs).reverse) := by show _ = _; unfold pl; rw [List.map_reverse]
  have hplM : Hid ((pl bs).length = M) := by show _ = _; rw [pl_length, ← HM.out]
  have hbor : BOk bs.reverse := fun b hb => HBO.out b (List.mem_reverse.1 hb)
  have hMl : M ≤ 140737488351232 := by have := HBN.out; rw [← HM.out] at this; omega
  have hag : idV [d0, d1, d2, d3, d4, d5, d6, d7] = .agg #[.int .u8 (d0.toNat : Int), .int .u8 (d1.toNat : Int), .int .u8 (d2.toNat : Int), .int .u8 (d3.toNat : Int), .int .u8 (d4.toNat : Int), .int .u8 (d5.toNat : Int), .int .u8 (d6.toNat : Int), .int .u8 (d7.toNat : Int)] := rfl
  by_cases h1000 : 1000 < M
  · have k1 := reap_bad (root := [d0, d1, d2, d3, d4, d5, d6, d7]) HX6.out HBO.out (by rw [← HM.out]; exact hMl) hr8 (HT.out.below HB6.out) (E := 2) (by rw [Wk.reap_large (by rw [hplM.out]; exact h1000)]) (by decide)
    have k2 := fun W (hW : Below w6.heap.size w6 W) => reap_bad (root := [d0, d1, d2, d3, d4, d5, d6, d7]) (HV6.out.below hW) hbor (by rw [List.length_reverse, ← HM.out]; exact hMl) hr8 (HT.out.below (HB6.out.trans (hW.mono HB6.out.size))) (E := 2) (by rw [Wk.reap_large (by rw [hrM.out, List.length_reverse, hplM.out]; exact h1000)]) (by decide)
    rw [hag] at k1 k2
    clear hbor hr8 hag
    go_wp2_with fail
    refine k1.mono ?_
    rintro e w7 ⟨rfl, b7⟩
    have HB7 : Hid (Below w.heap.size w w7) := HB6.out.trans (b7.mono HB6.out.size)
    have k2' := k2 w7 b7
    obtain ⟨z0, z1, z2, z3, z4, z5, z6, z7⟩ := (HI6.out.below b7 HI6.out.lt).cells
    clear k1 k2 b7 y0 y1 y2 y3 y4 y5 y6 y7
    go_wp2_with fail
    refine k2'.mono ?_
    rintro e w8 ⟨rfl, b8⟩
    have HB8 : Hid (Below w.heap.size w w8) := HB7.out.trans (b8.mono HB7.out.size)
    clear k2' b8 z0 z1 z2 z3 z4 z5 z6 z7
    have hM2 : (1000 : Int) < (M : Int) := by omega
    go_wp2_with fail
    go_ret
    exact ⟨rfl, HB8.out⟩
  have hFr : Wk.Fine (pl bs) := by rw [HBS.out]; exact HPl.out.fine
  have hbk : ∀ L, Wk.Fine L → (∀ x ∈ pl bs, x ∈ L) → Wk.reapDir L 9 [d0, d1, d2, d3, d4, d5, d6, d7] [] [] = (its l, 0) := by
    rw [HBS.out, ← HID.out]; exact HPl.out.back
  have k1 := reap_ok (root := [d0, d1, d2, d3, d4, d5, d6, d7]) HX6.out HBO.out (by rw [← HM.out]; exact hMl) hr8 (HT.out.below HB6.out) (Wk.reap_back hbk hFr (by rw [hplM.out]; omega) fun x hx => hx)
  have k2 := fun W (hW : Below w6.heap.size w6 W) => reap_ok (root := [d0, d1, d2, d3, d4, d5, d6, d7]) (HV6.out.below hW) hbor (by rw [List.length_reverse, ← HM.out]; exact hMl) hr8 (HT.out.below (HB6.out.trans (hW.mono HB6.out.size)))
    (Wk.reap_back hbk (hFr.sub fun x hx => by rw [hrM.out] at hx; exact List.mem_reverse.1 hx) (by rw [hrM.out, List.length_reverse, hplM.out]; omega) fun x hx => by rw [hrM.out]; exact List.mem_reverse.2 hx)
  rw [hag] at k1 k2
  clear hbor hr8 hag hFr hbk
  go_wp2_with fail
  refine k1.mono ?_
  rintro e w7 ⟨v7, rfl, x7, _, _, b7⟩
  have HB7 : Hid (Below w.heap.size w w7) := HB6.out.trans (b7.mono HB6.out.size)
  have HX7 : Hid (Ims w7 v7 l) := x7
  have k2' := k2 w7 b7
  obtain ⟨z0, z1, z2, z3, z4, z5, z6, z7⟩ := (HI6.out.below b7 HI6.out.lt).cells
  obtain ⟨a7, c7, rfl, _, _⟩ := x7.slice
  have HO7 : Hid (WyAt w7 (p1 + 1) gx gn gm gt) := HO6.out.below b7
  rw [← HN.out] at HX7 ⊢
  clear k1 k2 b7 x7 y0 y1 y2 y3 y4 y5 y6 y7
  go_wp2_with fail
  refine k2'.mono ?_
  rintro e w8 ⟨v8, rfl, x8, _, _, b8⟩
  have HB8 : Hid (Below w.heap.size w w8) := HB7.out.trans (b8.mono HB7.out.size)
  have HO8 : Hid (WyAt w8 (p1 + 1) gx gn gm gt) := HO7.out.below b8
  obtain ⟨a8, c8, rfl, _, _⟩ := x8.slice
  have HX8 : Hid (Ims w8 (.slice a8 l.length c8) l) := x8
  rw [← HN.out] at HX8 ⊢
  have HX78 : Hid (Ims w8 (.slice a7 N c7) l) := HX7.out.below b8
  have HX08 : Hid (Ims w8 (.slice a0 N c0) l) := by rw [HN.out]; exact HX.out.below HB8.out
  clear k2' b8 x8 z0 z1 z2 z3 z4 z5 z6 z7
  have hM2 : ¬ (1000 : Int) < (M : Int) := by omega
  have q1 := equal_items (.slice a7 N c7) (.slice a0 N c0) l l w8 HX78.out HX08.out HZ.out
  have q2 := fun W (hW : Below w8.heap.size w8 W) => equal_items (.slice a8 N c8) (.slice a0 N c0) l l W (HX8.out.below hW) (HX08.out.below hW) HZ.out
  go_wp2_with fail
  refine q1.mono ?_
  rintro e w9 ⟨r9, rfl, h9, b9⟩
  obtain rfl : r9 = true := h9.2 (by first | exact trivial | rfl)
  have HB9 : Hid (Below w.heap.size w w9) := HB8.out.trans (b9.mono HB8.out.size)
  have HB89 : Hid (Below w8.heap.size w8 w9) := b9
  have q2' := q2 w9 b9
  clear q1 q2 b9 h9
  go_wp2_with fail
  refine q2'.mono ?_
  rintro e w10 ⟨r10, rfl, h10, b10⟩
  obtain rfl : r10 = true := h10.2 (by first | exact trivial | rfl)
  have HB10 : Hid (Below w.heap.size w w10) := HB9.out.trans (b10.mono HB9.out.size)
  have HO10 : Hid (WyAt w10 (p1 + 1) gx gn gm gt) := (HO8.out.below HB89.out).below b10
  have HX10 : Hid (Ims w10 (.slice a0 N c0) l) := by rw [HN.out]; exact HX.out.below HB10.out
  clear q2' b10 h10
  obtain ⟨_, ca0, ca1, ca2, ca3⟩ := HO10.out
  obtain ⟨T, hTq⟩ : ∃ T, T = plantP gx gn gm gt (its l) := ⟨_, rfl⟩
  have HTq : Hid (T = plantP gx gn gm gt (its l)) := hTq
  clear hTq
  by_cases hE2 : T.2.2 = 0
  case neg =>
    have hpl := plant_bad (fx := gx) (mn := gn) (mx := gm) (bt := gt) HX10.out HZ.out HF.out (HT.out.below HB10.out) (E := T.2.2) (by rw [HTq.out]) hE2
    have hne : (T.2.2 != 0) = true := by rw [bne_iff_ne]; exact hE2
    generalize T.2.2 = E at *
    clear hE2
    go_wp2_with fail
    refine hpl.mono ?_
    rintro e w11 ⟨rfl, b11⟩
    have HB12 : Hid (∀ o, Below w.heap.size w (w11.alloc o)) := fun o => by
      have h := HB10.out.trans (b11.mono HB10.out.size)
      exact h.alloc h.size _
    clear hpl b11
    go_wp2_with fail
    go_ret
    exact ⟨rfl, HB12.out _⟩
  have hpl := plant_ok (fx := gx) (mn := gn) (mx := gm) (bt := gt) HX10.out HZ.out HF.out (HT.out.below HB10.out) HTq.out hE2
  have HPl2 : Hid (Pld gx gn gm gt l T.1 T.2.1) := by
    show Pld _ _ _ _ _ _ _
    rw [HTq.out]
    exact Pld.of HF.out (by rw [← HTq.out]; exact hE2)
  clear hE2
  go_wp2_with fail
  refine hpl.mono ?_
  rintro e w11 ⟨v11, cs, rfl, hcs, h8, o11, x11, k11, n11, b11⟩
  have HB11 : Hid (Below w.heap.size w w11) := HB10.out.trans (b11.mono HB10.out.size)
  obtain ⟨q0, q1, q2, q3, q4, q5, q6, q7, hid⟩ := eight _ h8
  have hag : idV [q0, q1, q2, q3, q4, q5, q6, q7] = .agg #[.int .u8 (q0.toNat : Int), .int .u8 (q1.toNat : Int), .int .u8 (q2.toNat : Int), .int .u8 (q3.toNat : Int), .int .u8 (q4.toNat : Int), .int .u8 (q5.toNat : Int), .int .u8 (q6.toNat : Int), .int .u8 (q7.toNat : Int)] := rfl
  rw [hid, hag]
  obtain ⟨a11, c11, e11, _, _⟩ := x11.slice
  subst e11
  obtain ⟨K, hK⟩ : ∃ K, K = cs.length := ⟨_, rfl⟩
  have HK : Hid (K = cs.length) := hK
  rw [← hK] at x11 n11 ⊢
  obtain ⟨W12, hW12⟩ : ∃ W12, W12 = w11.alloc (.cells #[.int .u8 (q0.toNat : Int), .int .u8 (q1.toNat : Int), .int .u8 (q2.toNat : Int), .int .u8 (q3.toNat : Int), .int .u8 (q4.toNat : Int), .int .u8 (q5.toNat : Int), .int .u8 (q6.toNat : Int), .int .u8 (q7.toNat : Int)] 29) := ⟨_, rfl⟩
  have h1112 : Below w11.heap.size w11 W12 := by rw [hW12]; exact (Below.refl _ w11).alloc (Nat.le_refl _) _
  have HB12 : Hid (Below w.heap.size w W12) := HB11.out.trans (h1112.mono HB11.out.size)
  have HX12 : Hid (Bx W12 (.slice a11 K c11) cs) := x11.below h1112
  have HI12 : Hid (I8 W12 w11.heap.size [q0, q1, q2, q3, q4, q5, q6, q7]) := by rw [hW12]; exact I8.laid (heap_alloc_new w11 _)
  obtain ⟨y0, y1, y2, y3, y4, y5, y6, y7⟩ := HI12.out.cells
  have HCO : Hid (BOk cs) := k11
  have HCS : Hid (pl cs = T.1 ∧ T.2.1 = [q0, q1, q2, q3, q4, q5, q6, q7]) := ⟨hcs, hid⟩
  have hX12 : Ims W12 (.slice a0 N c0) l := by rw [HN.out]; exact HX.out.below HB12.out
  have HX0 : Hid (Ims W12 (.slice a0 N c0) l) := hX12
  clear hK hpl b11 x11 o11 k11 hcs hid h8 h1112 hX12 ca0 ca1 ca2 ca3
  go_upto_region 15 with fail
  rw [← hW12]
  generalize w11.heap.size = p3 at *
  clear hW12
  by_cases hK1 : 1000 < K
  · have hK2 : (1000 : Int) < (K : Int) := by omega
    go_wp2_with fail
    go_ret
    exact ⟨rfl, HB12.out⟩
  have hK2 : ¬ (1000 : Int) < (K : Int) := by omega
  have k3 := reap_ok (root := [q0, q1, q2, q3, q4, q5, q6, q7]) HX12.out HCO.out (by rw [← HK.out]; omega) rfl (HT.out.below HB12.out) (l := l)
    (Wk.reap_back (by rw [HCS.out.1, ← HCS.out.2]; exact HPl2.out.back) (by rw [HCS.out.1]; exact HPl2.out.fine) (by rw [pl_length, ← HK.out]; omega) fun x hx => hx)
  rw [hag] at k3
  clear hag
  go_wp2_with fail
  refine k3.mono ?_
  rintro e w13 ⟨v13, rfl, x13, _, _, b13⟩
  have HB13 : Hid (Below w.heap.size w w13) := HB12.out.trans (b13.mono HB12.out.size)
  obtain ⟨a13, c13, rfl, _, _⟩ := x13.slice
  have q9 := equal_items (.slice a13 l.length c13) (.slice a0 N c0) l l w13 x13 (HX0.out.below b13) HZ.out
  rw [← HN.out] at q9 ⊢
  clear k3 b13 x13 y0 y1 y2 y3 y4 y5 y6 y7
  go_wp2_with fail
  refine q9.mono ?_
  rintro e w14 ⟨r14, rfl, h14, b14⟩
  obtain rfl : r14 = true := h14.2 (by first | exact trivial | rfl)
  have HB14 : Hid (Below w.heap.size w w14) := HB13.out.trans (b14.mono HB13.out.size)
  clear q9 b14 h14
  go_wp2_with fail
  go_ret
  exact ⟨rfl, HB14.out⟩
end Go.Proofs.YtimdioacmojkeaaGreatDoor

namespace Go.Proofs.YtimdioacmojkeaaGreatDoor
open Go.RowKit Go.ChangeShapes Go.WideShapes Go.Deep Go.Joins
set_option maxRecDepth 20000

section
variable {H : Type} {enc : TypeId × Value → H} {w : World} {base : Nat} {spare : Nat → Bool} {held : Bool}
/-- rows of IDs -/
theorem open_idrow {fuel : Nat} {sa : Option Addr} {len cap : Nat} {x : DataW H × List MemPlace} (h : DataW.trod enc Tryz.prog w base spare held fuel 53 [.slice sa len cap] = some x) (hlt : ∀ y ∈ x.2, y.block < w.heap.size) :
    ∃ l : List (List UInt8), Rx 8 idC w (.slice sa len cap) l ∧ ∀ b ∈ l, b.length = 8 := by
  obtain ⟨l, hr, _, hs⟩ := open_rows (α := { x : List UInt8 // x.length = 8 }) (k := 8) (C := fun x => idC x.1) (q := fun _ => True) Tryz.underlying53 ce_id (by omega) (fun t => by rw [idC, List.length_map, t.2])
    (fun n cs x hc ho => by
      obtain ⟨l, hl, hcs, _⟩ := open_id8 hc ho
      exact ⟨⟨l, hl⟩, hcs, trivial⟩) h hlt
  refine ⟨l.map (·.1), ⟨?_, hr.room⟩, fun b hb => ?_⟩
  · rcases hr.at_ with ⟨h1, rfl⟩ | ⟨bk, o, cp, h1, h2, h3⟩
    · exact .inl ⟨h1, rfl⟩
    · refine .inr ⟨bk, o, cp, by rw [List.length_map]; exact h1, h2, fun j t hj r u hu => ?_⟩
      rw [List.getElem?_map] at hj
      cases e : l[j]? with
      | none => rw [e] at hj; simp at hj
      | some q =>
        rw [e] at hj
        obtain rfl : q.1 = t := by simpa using hj
        exact h3 j q e r u hu
  · obtain ⟨q, _, rfl⟩ := List.mem_map.1 hb
    exact q.2
/-- rows of things that have rows themselves -/
theorem open_rw {α : Type} {k : Nat} {R : World → α → List Value → Prop} {T E : TypeId} (hu : Tryz.prog.underlying T = some (.slice E)) (hk : Tryz.prog.cellsOf E = k) (hk0 : 0 < k)
    {q : α → DataW H → Prop} (ho : ∀ n cs (x : DataW H × List MemPlace), cs.length = k → DataW.trod enc Tryz.prog w base spare held n E cs = some x → (∀ y ∈ x.2, y.block < w.heap.size) → ∃ t, R w t cs ∧ q t x.1)
    {fuel : Nat} {sa : Option Addr} {len cap : Nat} {x : DataW H × List MemPlace} (h : DataW.trod enc Tryz.prog w base spare held fuel T [.slice sa len cap] = some x) (hlt : ∀ y ∈ x.2, y.block < w.heap.size) :
    ∃ l : List α, Rw k R w (.slice sa len cap) l ∧ len ≤ cap ∧ cap ≤ 9223372036854775807 ∧ (l = [] ∨ ∃ elems sp, x.1 = .slice elems sp ∧ l.length = elems.length ∧ ∀ t ∈ l, ∃ d ∈ elems, q t d) := by
  rcases open_slice hu h with ⟨hcs, hx⟩ | ⟨a, len', cap', m, n, D, Pl, hcs, _, hl, hm, hmm, hx, hall⟩
  · simp at hcs
    obtain ⟨rfl, rfl, rfl⟩ := hcs
    exact ⟨[], Rw.nil _ _, Nat.le_refl _, by omega, .inl rfl⟩
  · simp at hcs
    obtain ⟨rfl, rfl, rfl⟩ := hcs
    have hlm : len ≤ m := by rw [hmm]; split <;> omega
    rw [hk] at hall
    subst hx
    obtain ⟨L, hL, hT⟩ := choose_row (q := fun i t => ∃ cs, w.cells? base (a.add (i * k)) k = some cs ∧ R w t cs ∧ q t (D i)) len (fun i hi => by
      obtain ⟨cs', h1, h2⟩ := hall i (by omega)
      obtain ⟨_, hlen, _⟩ := World.cells?_some h1
      obtain ⟨t, h3⟩ := ho _ _ _ hlen h2 fun y hy => hlt y (List.mem_append_right _ (List.mem_flatMap.2 ⟨i, List.mem_range.2 (by omega), hy⟩))
      exact ⟨t, cs', h1, h3⟩)
    have hm' : cap ≤ 9223372036854775807 := by unfold maxLen at hm; omega
    refine ⟨L, ?_, hl, hm', .inr ⟨_, _, rfl, by simp [hL], fun t ht => ?_⟩⟩
    rotate_left
    · obtain ⟨i, hi, rfl⟩ := List.getElem_of_mem ht
      obtain ⟨_, _, _, h3⟩ := hT i _ (List.getElem?_eq_getElem hi)
      exact ⟨D i, List.mem_map_of_mem (List.mem_range.2 (by omega)), h3⟩
    by_cases hc0 : len = 0
    · subst hc0
      exact ⟨.inl ⟨⟨_, _, rfl⟩, List.length_eq_zero_iff.1 hL⟩⟩
    · have hcell : ∀ j t, L[j]? = some t → ∃ cs : List Value, cs.length = k ∧ R w t cs ∧ ∀ r v, cs[r]? = some v → w.cell? (a.add (j * k + r)) = some v := fun j t hj => by
        obtain ⟨cs, h1, h2, _⟩ := hT j t hj
        obtain ⟨_, hlen, hc⟩ := World.cells?_some h1
        refine ⟨cs, hlen, h2, fun r v hv => ?_⟩
        have hr : r < k := by
          have := (List.getElem?_eq_some_iff.1 hv).1
          omega
        have := hc r hr
        rw [add_add, hv] at this
        exact this
      obtain ⟨b, off, spot⟩ := a
      have hspot : spot = none := by
        obtain ⟨cs, c1, _, c3⟩ := hcell 0 _ (List.getElem?_eq_getElem (by omega))
        have h0 : cs[0]? = some (cs[0]'(by omega)) := List.getElem?_eq_getElem _
        simpa [Addr.add] using World.cell?_spot (c3 0 _ h0)
      subst hspot
      have hpos : 0 < m * k := Nat.mul_pos (by omega) hk0
      have hbW : b < w.heap.size := hlt (.cell b off) (List.mem_append_left _ (MemPlace.mem_row.2 ⟨0, by rw [hk]; exact hpos, by simp⟩))
      refine ⟨.inr ⟨b, off, cap, by rw [hL], by omega, hbW, fun j t hj => ?_⟩⟩
      obtain ⟨cs, c1, c2, c3⟩ := hcell j t hj
      refine ⟨cs, c1, c2, fun r u hu => ?_⟩
      have e := c3 r u hu
      rw [add_plain] at e
      rw [Nat.add_assoc]
      exact e
theorem trod_struct7 {P : Program} {t : TypeId} {f0 f1 f2 f3 f4 f5 f6 : Field} {fuel : Nat} {cs : List Value} {x : DataW H × List MemPlace} (ht : P.underlying t = some (.struct #[f0, f1, f2, f3, f4, f5, f6])) (h : DataW.trod enc P w base spare held fuel t cs = some x) :
    ∃ y0 y1 y2 y3 y4 y5 y6 n, x = (.agg [y0.1, y1.1, y2.1, y3.1, y4.1, y5.1, y6.1], y0.2 ++ (y1.2 ++ (y2.2 ++ (y3.2 ++ (y4.2 ++ (y5.2 ++ y6.2)))))) ∧ cs.length = P.cellsOf t ∧ DataW.trod enc P w base spare held n f0.type ((cs.drop f0.offset).take (P.cellsOf f0.type)) = some y0 ∧
      DataW.trod enc P w base spare held n f1.type ((cs.drop f1.offset).take (P.cellsOf f1.type)) = some y1 ∧ DataW.trod enc P w base spare held n f2.type ((cs.drop f2.offset).take (P.cellsOf f2.type)) = some y2 ∧
      DataW.trod enc P w base spare held n f3.type ((cs.drop f3.offset).take (P.cellsOf f3.type)) = some y3 ∧ DataW.trod enc P w base spare held n f4.type ((cs.drop f4.offset).take (P.cellsOf f4.type)) = some y4 ∧
      DataW.trod enc P w base spare held n f5.type ((cs.drop f5.offset).take (P.cellsOf f5.type)) = some y5 ∧ DataW.trod enc P w base spare held n f6.type ((cs.drop f6.offset).take (P.cellsOf f6.type)) = some y6 := by
  obtain ⟨xs, n, _, rfl, hl, hlen, hf⟩ := DataW.trod_struct ht h
  match xs, hlen with
  | [y0, y1, y2, y3, y4, y5, y6], _ => exact ⟨y0, y1, y2, y3, y4, y5, y6, n, by simp, hl, by simpa using hf 0 f0 rfl, by simpa using hf 1 f1 rfl, by simpa using hf 2 f2 rfl, by simpa using hf 3 f3 rfl, by simpa using hf 4 f4 rfl, by simpa using hf 5 f5 rfl, by simpa using hf 6 f6 rfl⟩
theorem nd_fields : ∃ f0 f1 f2 f3 f4 f5 f6, Tryz.prog.underlying 89 = some (.struct #[f0, f1, f2, f3, f4, f5, f6]) ∧ f0.type = 9 ∧ f0.offset = 0 ∧ f1.type = 3 ∧ f1.offset = 1 ∧ f2.type = 3 ∧ f2.offset = 2 ∧ f3.type = 3 ∧ f3.offset = 3 ∧ f4.type = 3 ∧ f4.offset = 4 ∧ f5.type = 53 ∧ f5.offset = 5 ∧ f6.type = 9 ∧ f6.offset = 6 :=
  ⟨_, _, _, _, _, _, _, Tryz.underlying89, rfl, rfl, rfl, rfl, rfl, rfl, rfl, rfl, rfl, rfl, rfl, rfl, rfl, rfl⟩
theorem open_node {n : Nat} {cs : List Value} {x : DataW H × List MemPlace} (hc : cs.length = 7) (h : DataW.trod enc Tryz.prog w base spare held n 89 cs = some x) (hlt : ∀ y ∈ x.2, y.block < w.heap.size) : ∃ t : Nod, NdR w t cs ∧ ∃ r, x.1 = .agg (.lit (.string t.name.data.toList) :: r) := by
  obtain ⟨f0, f1, f2, f3, f4, f5, f6, hu, t0, o0, t1, o1, t2, o2, t3, o3, t4, o4, t5, o5, t6, o6⟩ := nd_fields
  obtain ⟨y0, y1, y2, y3, y4, y5, y6, m, hx, _, g0, g1, g2, g3, g4, g5, g6⟩ := trod_struct7 hu h
  have ks : Tryz.prog.cellsOf 9 = 1 := by kernel_rfl
  have kr : Tryz.prog.cellsOf 53 = 1 := by kernel_rfl
  match cs, hc with
  | [v0, v1, v2, v3, v4, v5, v6], _ =>
    simp only [t0, o0, t1, o1, ce_int, t2, o2, t3, o3, t4, o4, t5, o5, t6, o6, ks, kr] at g0 g1 g2 g3 g4 g5 g6
    obtain ⟨b0, c0, x0, s0⟩ := DataW.trod_string Tryz.underlying9 g0
    obtain ⟨i1, c1, _, w1⟩ := DataW.trod_int Tryz.underlying3 g1
    obtain ⟨i2, c2, _, w2⟩ := DataW.trod_int Tryz.underlying3 g2
    obtain ⟨i3, c3, _, w3⟩ := DataW.trod_int Tryz.underlying3 g3
    obtain ⟨i4, c4, _, w4⟩ := DataW.trod_int Tryz.underlying3 g4
    obtain ⟨b6, c6, _, s6⟩ := DataW.trod_string Tryz.underlying9 g6
    obtain rfl : v0 = .string b0 := by simpa using c0
    obtain rfl : v1 = .int .i64 i1 := by simpa using c1
    obtain rfl : v2 = .int .i64 i2 := by simpa using c2
    obtain rfl : v3 = .int .i64 i3 := by simpa using c3
    obtain rfl : v4 = .int .i64 i4 := by simpa using c4
    obtain rfl : v6 = .string b6 := by simpa using c6
    have g5 : DataW.trod enc Tryz.prog w base spare held m 53 [v5] = some y5 := g5
    obtain ⟨sa, len, cap, rfl⟩ : ∃ sa len cap, v5 = .slice sa len cap := by
      rcases open_slice Tryz.underlying53 g5 with ⟨hcs, _⟩ | ⟨a, len', cap', _, _, _, _, hcs, _⟩
      · exact ⟨_, _, _, by simpa using hcs⟩
      · exact ⟨_, _, _, by simpa using hcs⟩
    obtain ⟨l, hl, h8⟩ := open_idrow g5 fun y hy => hlt y (by rw [hx]; simp [hy])
    unfold maxLen at s0 s6
    exact ⟨⟨b0, i1, i2, i3, i4, l, b6⟩, ⟨_, rfl, hl, w1, w2, w3, w4, s0, s6, h8⟩, _, by rw [hx, x0]⟩
theorem ce_nd : Tryz.prog.cellsOf 89 = 7 := by kernel_rfl
theorem open_nds {fuel : Nat} {sa : Option Addr} {len cap : Nat} {x : DataW H × List MemPlace} (h : DataW.trod enc Tryz.prog w base spare held fuel 85 [.slice sa len cap] = some x) (hlt : ∀ y ∈ x.2, y.block < w.heap.size) :
    ∃ l : List Nod, Nds w (.slice sa len cap) l ∧ len ≤ cap ∧ cap ≤ 9223372036854775807 ∧ (l = [] ∨ ∃ elems sp, x.1 = .slice elems sp ∧ l.length = elems.length ∧ ∀ t ∈ l, ∃ d ∈ elems, ∃ r, d = .agg (.lit (.string t.name.data.toList) :: r)) :=
  open_rw Tryz.underlying85 ce_nd (by omega) (fun _ _ _ => open_node) h hlt
end
end Go.Proofs.YtimdioacmojkeaaGreatDoor
