/-
  P47: what lumref's plantDir answers.
  P37: what checkAll of package names answers: the first error of names.
  P37, P38 (no Go in it): texts cut at each slash by its first place; cut at most so often.
  The library's contracts at this program: strings_Index_one, stringslite_Index_one, strings_IndexByte (laid by the guide's own tools, written out in plain words).
  strings.SplitN at a slash: at most nine parts, in a row of one's own.
  P37: what Split of package names answers.
  P39: what cmp.Compare and slices.Compare over texts, and Less of package names, answer.
  The library's contracts at this program: slices_Contains_string, slices_Contains_string_empty (laid by the guide's own tools, written out in plain words).
  P46: what checkItem and Check of package walk answer.
  Nothing is laid here: this program has none of it.
  P37: what Join of package names answers.
  P38: what strings.Cut at a slash and Clean of package names answer.
  lumref: what cutAt answers: the parts of a text between its slashes, in a row of one's own.
  lumref: what nameErr, Split, Join, Clean, ahead and Less answer.
  P46, P47: what lumref's itemErr and Way answer.
  P46: what Check of package walk answers.
  lumref: what Join, Clean, ahead and Less answer.
  lumref: what ahead and Less answer.
  P46: what lumref's World answers.
  P47: what directory of walk's planter answers.
  P47: what Plant of package walk answers.
-/
import Derived.Test.YtimdioacmojkeaaGreatDoorXWalkPlants3
import Derived.Test.YtimdioacmojkeaaGreatDoorXWalkPlants2
import Derived.Test.YtimdioacmojkeaaGreatDoorXWalkPlants0
import Derived.Test.YtimdioacmojkeaaGreatDoorXWalkPlants1
import Derived.Lib.Strings
import Derived.Lib.Bytealg
import Derived.Lib.Split
import Derived.Shelf.Small.Strs
import Derived.Shelf.Strings.Search2
import Derived.Shelf.Strings.Search3
import Derived.Test.YtimdioacmojkeaaGreatDoorProg
import Derived.WalkKit
import Derived.Deep.LoopGhost
import Derived.Deep.OwnRows
import Derived.Deep.RegionWith
import Derived.Shelf.Slices.Turned
import Derived.Shelf.Strings.OnBuilder
import Derived.Laws.AppendOwn
import Derived.Deep.Cut
import Derived.BigQuiet
import Derived.OwnWalk

namespace Go.Proofs.YtimdioacmojkeaaGreatDoor
open Go.RowKit
set_option maxRecDepth 4000
open Nn (Name)

theorem nd_ok {x : Im} (hok1 : Wk.Ok1 x.it) (hxo : x.Ok) {nm : ByteArray} (hnm : nm.size ≤ 1048576) (sz : Int) (ids : List Wk.Bs) (lk : ByteArray) (h0 : 0 ≤ sz) (h1 : sz ≤ 9223372036854775807) (h2 : lk.size ≤ 9223372036854775807) (h3 : ∀ t ∈ ids, t.length = 8) : Nod.Ok ⟨nm, x.kind, x.mode, x.time, sz, ids, lk⟩ := by
  have hkd : x.kind = 1 ∨ x.kind = 2 ∨ x.kind = 3 := hok1.kind
  have hmd : 0 ≤ x.mode ∧ x.mode ≤ 511 := hok1.mode
  exact ⟨lit_small (by show _ ≤ x.kind; omega) (by show x.kind ≤ _; omega), lit_small (by show _ ≤ x.mode; omega) (by show x.mode ≤ _; omega), hxo.time, lit_small (by show _ ≤ sz; omega) h1, by show nm.size ≤ _; omega, h2, h3⟩

theorem nd_node {x : Im} {nm : ByteArray} (hnm : nm = mkB (Wk.nam x.it)) (sz : Int) (ids : List Wk.Bs) (lk : ByteArray) (hsz : sz = if x.kind = 1 then (x.bytes.size : Int) else 0) (hlk : lk = if x.kind = 3 then x.bytes else ⟨#[]⟩) : (⟨nm, x.kind, x.mode, x.time, sz, ids, lk⟩ : Nod).nd = Wk.node x.it ids := by
  subst hnm hsz hlk
  show Td.Nd.mk _ _ _ _ _ _ _ = Td.Nd.mk _ _ _ _ _ _ _
  have e : x.it.kind = x.kind := rfl
  rw [e]
  congr 1
  by_cases k : x.kind = 3
  · rw [if_pos k, if_pos k]; rfl
  · rw [if_neg k, if_neg k]

/-- what the switch leaves: a node in block q -/
def Ndq (wx : World) (q : Nat) (x : Im) (ids : List Wk.Bs) : Prop := ∃ (n : Nod) (pa : Option Addr) (pc : Nat), n.nd = Wk.node x.it ids ∧ n.name.size ≤ 1048576 ∧ wx.heap[q]? = some (.cells (ndC n (.slice pa n.parts.length pc)).toArray 89 (0, 0)) ∧ NdG wx n (ndC n (.slice pa n.parts.length pc))

set_option maxHeartbeats 8000000 in
set_option maxRecDepth 20000 in
theorem rp_step (base : Nat) {fx mn mx bt : Int} {v : Value} {l : List Im} (hg : Gd fx mn mx bt l) (h100 : l.length ≤ 100) (hz : ∀ x ∈ l, x.path.size ≤ 1048576) (k : Nat) (ih : 1 ≤ k → RpOk base fx mn mx bt v l k) : RpOk base fx mn mx bt v l (k + 1) := by
  intro p bv bs w hpk hps ho hfew hst R hR
  obtain ⟨W2, hW2⟩ : ∃ W2, W2 = (w.alloc (.cells #[.int .i64 fx, .int .i64 mn, .int .i64 mx, .int .i64 bt] 25)).alloc (.cells #[.int .u8 0, .int .u8 0, .int .u8 0, .int .u8 0, .int .u8 0, .int .u8 0, .int .u8 0, .int .u8 0] 29) := ⟨_, rfl⟩
  obtain ⟨t1, t2, t3, t4⟩ := two_new w (.cells #[.int .i64 fx, .int .i64 mn, .int .i64 mx, .int .i64 bt] 25) (.cells #[.int .u8 0, .int .u8 0, .int .u8 0, .int .u8 0, .int .u8 0, .int .u8 0, .int .u8 0, .int .u8 0] 29)
  rw [← hW2] at t1 t2 t3 t4
  have HO : Hid (Ow base w bv bs ∧ bs.length + 300 * (dI l (k + 1) p).length ≤ 800000000) := ⟨ho, hfew⟩
  have HST : Hid (∀ W, Rk base w W → Ims W v l ∧ Ml W) := hst
  have HP : Hid (p.length + (k + 1) = 9 ∧ ∀ s ∈ p, (47 : UInt8) ∉ s) := ⟨hpk, hps⟩
  have HG : Hid (Gd fx mn mx bt l ∧ l.length ≤ 100 ∧ ∀ x ∈ l, x.path.size ≤ 1048576) := ⟨hg, h100, hz⟩
  have HIH : Hid (1 ≤ k → RpOk base fx mn mx bt v l k) := ih
  have HR0 : Hid (R = Wk.fin (nds []) (Wk.things (cutF fx mn mx bt) (Wk.plantDir (cutF fx mn mx bt) (its l) k) (Wk.kids Wk.It.nms (its (l.drop 0)) p) (pl bs))) := hR
  have HB2 : Hid (Rk base w W2) := Rk.of_below t4 ho.base
  have HY2 : Hid (W2.heap[w.heap.size]? = some (.cells #[.int .i64 fx, .int .i64 mn, .int .i64 mx, .int .i64 bt] 25 (0, 0)) ∧ Tid W2 (w.heap.size + 1)) := ⟨t1, Tid.zero t2⟩
  have hO2 := ho.below t4
  obtain ⟨va, vc, rfl, hvl, hvc⟩ := (hst W2 HB2.out).1.slice
  obtain ⟨ua, uc, rfl⟩ := ho.form
  obtain ⟨N, hN⟩ : ∃ N, N = l.length := ⟨_, rfl⟩
  have HN : Hid (N = l.length) := hN
  rw [← hN] at HST HIH hvl ⊢
  obtain ⟨BN, hBN⟩ : ∃ BN, BN = bs.length := ⟨_, rfl⟩
  have HBN : Hid (BN = bs.length) := hBN
  have HO2 : Hid (Ow base W2 (.slice ua BN uc) bs ∧ bs.length + 300 * remI l (l.drop 0) k p ≤ BN + 300 * (dI l (k + 1) p).length) := by
    rw [hBN]
    exact ⟨hO2, Nat.le_refl _⟩
  rw [← hBN] at ⊢
  obtain ⟨DB, hDB⟩ : ∃ DB, DB = mkB (Nn.tails p) := ⟨_, rfl⟩
  have HDB : Hid (DB = mkB (Nn.tails p)) := hDB
  rw [← hDB]
  have hN100 : N ≤ 100 := by rw [hN]; exact h100
  clear hg h100 hz ih hpk hps ho hfew hst hR t1 t2 t3 t4 hN hBN hDB hO2
  go_enter Tryz.func23, Tryz.ntmps23
  go_upto_region 1 with fail
  rw [← hW2]
  obtain ⟨p0, hp0⟩ : ∃ p0, p0 = w.heap.size := ⟨_, rfl⟩
  have HP0 : Hid (p0 = w.heap.size) := hp0
  rw [← hp0] at HY2 ⊢
  clear hW2 hp0
  go_wp2_with fail
  go_loopw [3, 11, 24] (fun u nv i wr => ∃ (j : Nat) (bj : List Blb) (ns : List Nod), j ≤ N ∧ i = .int .i64 j ∧
    Hid (R = Wk.fin (nds ns) (Wk.things (cutF fx mn mx bt) (Wk.plantDir (cutF fx mn mx bt) (its l) k) (Wk.kids Wk.It.nms (its (l.drop j)) p) (pl bj))) ∧
    Hid (Ow base wr u bj ∧ bj.length + 300 * remI l (l.drop j) k p ≤ BN + 300 * (dI l (k + 1) p).length) ∧
    Hid (Oy 7 89 NdG w.heap.size wr nv ns ∧ ns.length ≤ j ∧ ∀ n ∈ ns, n.name.size ≤ 1048576) ∧ Hid (Rk base w wr) ∧
    Hid (wr.heap[p0]? = some (.cells #[.int .i64 fx, .int .i64 mn, .int .i64 mx, .int .i64 bt] 25 (0, 0)) ∧ Tid wr (p0 + 1))) (fun _ _ i _ => N - (intOf i).toNat)
  case atStart => exact ⟨0, bs, [], by omega, rfl, HR0, HO2, ⟨Oy.nil, Nat.le_refl _, fun _ q => absurd q List.not_mem_nil⟩, HB2, HY2⟩
  case round =>
    clear HR0 HO2 HB2 HY2
    obtain ⟨j, bj, ns, hj, rfl, HRn, HOj, HNs, HRk, HYj⟩ := hrel
    by_cases hlt : j < N
    · have hjl : j < l.length := by rw [← HN.out]; exact hlt
      obtain ⟨x, hx⟩ : ∃ x, l[j]? = some x := ⟨_, List.getElem?_eq_getElem hjl⟩
      have hxm : x ∈ l := List.mem_of_getElem? hx
      have HXM : Hid (x ∈ l) := hxm
      have HOk : Hid (Wk.Ok1 x.it) := HG.out.1.ok1 hxm
      have HXo : Hid (x.Ok ∧ x.path.size ≤ 1048576) := ⟨HG.out.1.ok x hxm, HG.out.2.2 x hxm⟩
      have hdrop : l.drop j = x :: l.drop (j + 1) := by
        rw [List.drop_eq_getElem_cons hjl, (List.getElem?_eq_some_iff.1 hx).2]
      have HDr : Hid (l.drop j = x :: l.drop (j + 1)) := hdrop
      have hXr := (HST.out wr HRk.out).1
      rw [HN.out] at hXr
      obtain ⟨kb, ko, rfl, hkb, x0, x1, x2, x3, x4⟩ := hXr.item j x hx
      have hla := fun W => last_call x.path (Wk.par x.it) (Wk.nam x.it) W (path_parts HOk.out) (Wk.nam_slash HOk.out) (path_size HOk.out HXo.out.1.path)
      have hpz : x.path.size = (Wk.par x.it).length + 1 + (Wk.nam x.it).length := by rw [Lib.size_eq, path_parts HOk.out]; simp; omega
      obtain ⟨PB, hPB⟩ : ∃ PB, PB = x.path.extract 0 (Wk.par x.it).length := ⟨_, rfl⟩
      have HPB : Hid (PB = mkB (Wk.par x.it)) := by
        show _ = _
        rw [hPB, ext_eq, path_parts HOk.out]; simp [mkB]
      obtain ⟨NM, hNM⟩ : ∃ NM, NM = x.path.extract ((Wk.par x.it).length + 1) ((Wk.par x.it).length + 1 + (Wk.nam x.it).length) := ⟨_, rfl⟩
      have HNM : Hid (NM = mkB (Wk.nam x.it)) := by
        show _ = _
        rw [hNM, ext_eq, path_parts HOk.out]
        rw [show Wk.par x.it ++ 47 :: Wk.nam x.it = (Wk.par x.it ++ [47]) ++ Wk.nam x.it by simp, List.drop_left' (by simp)]
        rw [List.take_of_length_le (by omega)]
        rfl
      have HNMz : Hid (NM.size ≤ 1048576) := by
        show _ ≤ _
        have h1 := HXo.out.2
        rw [HNM.out, mkB, Lib.size_eq]; simp; omega
      obtain ⟨PL, hPL⟩ : ∃ PL, PL = (Wk.par x.it).length := ⟨_, rfl⟩
      obtain ⟨NL, hNL⟩ : ∃ NL, NL = (Wk.nam x.it).length := ⟨_, rfl⟩
      rw [← hPL] at hla hpz hPB hNM
      rw [← hNL] at hpz hNM
      obtain ⟨WB, hWB⟩ : ∃ WB, WB = wr.alloc (.cells #[.string x.path, .int .i64 x.kind, .int .i64 x.mode, .int .i64 x.time, .string x.bytes] 46) := ⟨_, rfl⟩
      have hbB : Below wr.heap.size wr WB := by rw [hWB]; exact (Below.refl _ wr).alloc (Nat.le_refl _) _
      have HBB : Hid (Below wr.heap.size wr WB) := hbB
      have hiB : WB.heap[wr.heap.size]? = some (.cells #[.string x.path, .int .i64 x.kind, .int .i64 x.mode, .int .i64 x.time, .string x.bytes] 46 (0, 0)) := by rw [hWB]; exact heap_alloc_new wr _
      obtain ⟨px, hpx⟩ : ∃ px, px = wr.heap.size := ⟨_, rfl⟩
      have HPX : Hid (px = wr.heap.size) := hpx
      have HWs : Hid (WB.heap.size = px + 1) := by show _ = _; rw [hWB, World.size_alloc, hpx]
      rw [← hpx] at hiB
      have HIB : Hid (WB.heap[px]? = some (.cells #[.string x.path, .int .i64 x.kind, .int .i64 x.mode, .int .i64 x.time, .string x.bytes] 46 (0, 0))) := hiB
      obtain ⟨y0, y1, y2, y3, y4, ylt⟩ := five_at hiB
      clear hjl hx hxm hdrop hXr hbB hiB hPL hNL
      go_upto_region 5 with fail
      rw [← hWB, ← hpx]
      clear hWB hpx x0 x1 x2 x3 x4 hkb
      go_wp2_with fail
      refine (hla _).mono ?_
      rintro e u ⟨rfl, hu⟩
      obtain rfl := hu.symm
      clear hla hu
      by_cases heq : PB = DB
      case neg =>
        have hout : ¬ (x.it.nms ≠ [] ∧ x.it.nms.dropLast = p) := fun q => heq (by rw [HPB.out, HDB.out, (in_dir HOk.out HP.out.2).2 q])
        have HRo : Hid (R = Wk.fin (nds ns) (Wk.things (cutF fx mn mx bt) (Wk.plantDir (cutF fx mn mx bt) (its l) k) (Wk.kids Wk.It.nms (its (l.drop (j + 1))) p) (pl bj))) := by
          show _ = _
          rw [HRn.out, HDr.out]
          show Wk.fin _ (Wk.things _ _ (Wk.kids Wk.It.nms (x.it :: its (l.drop (j + 1))) p) _) = _
          rw [Wk.kids_out hout]
        have HOo : Hid (Ow base WB u3 bj ∧ bj.length + 300 * remI l (l.drop (j + 1)) k p ≤ BN + 300 * (dI l (k + 1) p).length) := by
          have := HOj.out.2
          rw [HDr.out, remI_out hout] at this
          exact ⟨HOj.out.1.below HBB.out, this⟩
        have HNo : Hid (Oy 7 89 NdG w.heap.size WB u11 ns ∧ ns.length ≤ j + 1 ∧ ∀ n ∈ ns, n.name.size ≤ 1048576) := ⟨HNs.out.1.belowN HBB.out, by have := HNs.out.2.1; omega, HNs.out.2.2⟩
        have HRo2 : Hid (Rk base w WB) := HRk.out.trans (Rk.of_below HBB.out HOj.out.1.base)
        have HYo : Hid (WB.heap[p0]? = some (.cells #[.int .i64 fx, .int .i64 mn, .int .i64 mx, .int .i64 bt] 25 (0, 0)) ∧ Tid WB (p0 + 1)) := ⟨(HBB.out.block _ (Array.getElem?_eq_some_iff.1 HYj.out.1).1).trans HYj.out.1, HYj.out.2.kt (Kt.of_below (T := 37) HBB.out) (by decide)⟩
        have hq : (PB.toList == DB.toList) = false := beq_eq_false_iff_ne.2 fun e => heq (by rw [Lib.toList_data, Lib.toList_data] at e; have := congrArg List.toArray e; exact ByteArray.ext (by simpa using this))
        have hPB' := hPB.symm
        clear hout hPB HRn HOj HNs HRk HYj hNM
        go_wp2_with fail
        go_roundw
        case measure => simp only [intOf]; omega
        case rel => exact ⟨j + 1, bj, ns, by omega, by go_num, HRo, HOo, HNo, HRo2, HYo⟩
      case pos =>
        have hin : x.it.nms ≠ [] ∧ x.it.nms.dropLast = p := (in_dir HOk.out HP.out.2).1 (by
          have h1 : PB = mkB (Wk.par x.it) := HPB.out
          have h2 : DB = mkB (Nn.tails p) := HDB.out
          have h3 : mkB (Wk.par x.it) = mkB (Nn.tails p) := by rw [← h1, ← h2, heq]
          have := congrArg (fun z : ByteArray => z.data.toList) h3
          simpa [mkB] using this)
        have HIn : Hid (x.it.nms ≠ [] ∧ x.it.nms.dropLast = p) := hin
        obtain ⟨T, hT⟩ : ∃ T, T = Wk.thing (cutF fx mn mx bt) (Wk.plantDir (cutF fx mn mx bt) (its l) k) x.it (pl bj) := ⟨_, rfl⟩
        have HT : Hid (T = Wk.thing (cutF fx mn mx bt) (Wk.plantDir (cutF fx mn mx bt) (its l) k) x.it (pl bj)) := hT
        have HRs : Hid (R = if T.2.2 ≠ 0 then ([], [], T.2.2) else Wk.fin (nds ns ++ [Wk.node x.it T.2.1]) (Wk.things (cutF fx mn mx bt) (Wk.plantDir (cutF fx mn mx bt) (its l) k) (Wk.kids Wk.It.nms (its (l.drop (j + 1))) p) T.1)) := by
          show _ = _
          rw [HRn.out, HDr.out]
          show Wk.fin _ (Wk.things _ _ (Wk.kids Wk.It.nms (x.it :: its (l.drop (j + 1))) p) _) = _
          rw [Wk.kids_in hin, Wk.fin_step, ← hT]
        have HRem : Hid (bj.length + 300 * ((blk l k x).length + remI l (l.drop (j + 1)) k p) ≤ BN + 300 * (dI l (k + 1) p).length) := by
          have := HOj.out.2
          rw [HDr.out, remI_in hin] at this
          exact this
        have hq : (PB.toList == DB.toList) = true := by rw [heq]; exact beq_self_eq_true _
        have hPB' := hPB.symm
        have hNM' := hNM.symm
        have H0 : Hid (∀ W, Gw WB W → W.cell? ⟨px, 0, none⟩ = some (.string x.path) ∧ W.cell? ⟨px, 1, none⟩ = some (.int .i64 x.kind) ∧ W.cell? ⟨px, 2, none⟩ = some (.int .i64 x.mode) ∧ W.cell? ⟨px, 3, none⟩ = some (.int .i64 x.time) ∧ W.cell? ⟨px, 4, none⟩ = some (.string x.bytes)) := fun W hW => by
          have := five_at ((Below.block hW _ (Array.getElem?_eq_some_iff.1 HIB.out).1).trans HIB.out)
          exact ⟨this.1, this.2.1, this.2.2.1, this.2.2.2.1, this.2.2.2.2.1⟩
        have hp1 : ((PL : Int) + 1) ≤ ((PL : Int) + 1 + NL) := by omega
        have hnn : ¬ ((PL : Int) + 1 < 0) := by omega
        have hwp : IntKind.i64.wrap ((PL : Int) + 1) = (PL : Int) + 1 := by
          have := HXo.out.2
          simp only [IntKind.wrap, IntKind.bits, IntKind.signed]
          simp
          omega
        clear hPB hNM hin hT HRn
        go_upto_region 7 with fail
        clear hq hPB'
        refine wp_region_rel_tail (G := Gw) (W0 := WB) 13 1 Gw.refl Gw.trans (by kernel_rfl) (by decide) (by kernel_rfl) (by kernel_rfl) (.inr (by kernel_rfl)) (Below.refl _ WB).drew ?_
        refine .inl ⟨.pointer (some ⟨px, 0, none⟩), fun v W hW hd => step_run rfl _ W (by clear hd; go_simp) rfl (Gw.refl _), ?_⟩
        simp only [Act.put, List.setIfInBounds_toArray, List.set_cons_zero, List.set_cons_succ]
        refine .inl ⟨.string x.path, fun v W hW hd => step_run rfl _ W (by clear hd; obtain ⟨c0, c1, c2, c3, c4⟩ := H0.out W hW; go_simp) rfl (Gw.refl _), ?_⟩
        simp only [Act.put, List.setIfInBounds_toArray, List.set_cons_zero, List.set_cons_succ]
        refine .inl ⟨.int .i64 (PL : Nat), fun v W hW hd => step_run rfl _ W (by clear hd; go_simp) rfl (Gw.refl _), ?_⟩
        simp only [Act.put, List.setIfInBounds_toArray, List.set_cons_zero, List.set_cons_succ]
        refine .inl ⟨.int .i64 ((PL : Int) + 1), fun v W hW hd => step_run rfl _ W (by clear hd; go_simp) rfl (Gw.refl _), ?_⟩
        simp only [Act.put, List.setIfInBounds_toArray, List.set_cons_zero, List.set_cons_succ]
        refine .inl ⟨.string NM, fun v W hW hd => step_run rfl _ W (by clear hd; go_simp) rfl (Gw.refl _), ?_⟩
        simp only [Act.put, List.setIfInBounds_toArray, List.set_cons_zero, List.set_cons_succ]
        refine .inl ⟨.pointer (some ⟨px, 1, none⟩), fun v W hW hd => step_run rfl _ W (by clear hd; go_simp) rfl (Gw.refl _), ?_⟩
        simp only [Act.put, List.setIfInBounds_toArray, List.set_cons_zero, List.set_cons_succ]
        refine .inl ⟨.int .i64 x.kind, fun v W hW hd => step_run rfl _ W (by clear hd; obtain ⟨c0, c1, c2, c3, c4⟩ := H0.out W hW; go_simp) rfl (Gw.refl _), ?_⟩
        simp only [Act.put, List.setIfInBounds_toArray, List.set_cons_zero, List.set_cons_succ]
        refine .inl ⟨.pointer (some ⟨px, 2, none⟩), fun v W hW hd => step_run rfl _ W (by clear hd; go_simp) rfl (Gw.refl _), ?_⟩
        simp only [Act.put, List.setIfInBounds_toArray, List.set_cons_zero, List.set_cons_succ]
        refine .inl ⟨.int .i64 x.mode, fun v W hW hd => step_run rfl _ W (by clear hd; obtain ⟨c0, c1, c2, c3, c4⟩ := H0.out W hW; go_simp) rfl (Gw.refl _), ?_⟩
        simp only [Act.put, List.setIfInBounds_toArray, List.set_cons_zero, List.set_cons_succ]
        refine .inl ⟨.pointer (some ⟨px, 3, none⟩), fun v W hW hd => step_run rfl _ W (by clear hd; go_simp) rfl (Gw.refl _), ?_⟩
        simp only [Act.put, List.setIfInBounds_toArray, List.set_cons_zero, List.set_cons_succ]
        refine .inl ⟨.int .i64 x.time, fun v W hW hd => step_run rfl _ W (by clear hd; obtain ⟨c0, c1, c2, c3, c4⟩ := H0.out W hW; go_simp) rfl (Gw.refl _), ?_⟩
        simp only [Act.put, List.setIfInBounds_toArray, List.set_cons_zero, List.set_cons_succ]
        refine .inl ⟨.agg #[.string NM, .int .i64 x.kind, .int .i64 x.mode, .int .i64 x.time, .int .i64 0, .slice none 0 0, .string ⟨#[]⟩], fun v W hW hd => step_run rfl _ W (by clear hd; go_simp) rfl (Gw.refl _), ?_⟩
        simp only [Act.put, List.setIfInBounds_toArray, List.set_cons_zero, List.set_cons_succ]
        refine .inr ⟨Nz WB.heap.size, Nz.mono, fun v W hW hd => step_run rfl _ (W.alloc (.cells #[.string ⟨#[]⟩, .int .i64 0, .int .i64 0, .int .i64 0, .int .i64 0, .slice none 0 0, .string ⟨#[]⟩] 89)) (by clear hd; go_simp) ⟨_, rfl, heap_alloc_new W _, Below.size hW⟩ ((Below.refl _ W).alloc (Nat.le_refl _) _), ?_⟩
        simp only [Act.put, List.setIfInBounds_toArray, List.set_cons_zero, List.set_cons_succ]
        intro v W hW hV
        have h12 : Nz WB.heap.size (v 12) W := hV 12 (by decide)
        clear hV
        obtain ⟨q, e12, hq, hqe⟩ := h12
        simp only [Nat.reduceAdd]
        rw [e12]
        obtain ⟨z0, z1, z2, z3, z4, z5, z6, zlt⟩ := sev_at hq
        obtain ⟨f0, f1, f2, f3, f4, f5, f6⟩ := free7 hq
        have hs7 := seven_set hq (.string NM) (.int .i64 x.kind) (.int .i64 x.mode) (.int .i64 x.time) (.int .i64 0) (.slice none 0 0) (.string ⟨#[]⟩)
        have hB4 : Below WB.heap.size WB (set7 W q (.string NM) (.int .i64 x.kind) (.int .i64 x.mode) (.int .i64 x.time) (.int .i64 0) (.slice none 0 0) (.string ⟨#[]⟩)) := below_set7 hW hqe _ _ _ _ _ _ _
        obtain ⟨WC, hWC⟩ : ∃ WC, WC = set7 W q (.string NM) (.int .i64 x.kind) (.int .i64 x.mode) (.int .i64 x.time) (.int .i64 0) (.slice none 0 0) (.string ⟨#[]⟩) := ⟨_, rfl⟩
        rw [← hWC] at hs7 hB4
        have HBC : Hid (Below wr.heap.size wr WC) := HBB.out.trans (hB4.mono HBB.out.size)
        have HNC : Hid (WC.heap[q]? = some (.cells #[.string NM, .int .i64 x.kind, .int .i64 x.mode, .int .i64 x.time, .int .i64 0, .slice none 0 0, .string ⟨#[]⟩] 89 (0, 0))) := hs7.1
        have HIC : Hid (WC.heap[px]? = some (.cells #[.string x.path, .int .i64 x.kind, .int .i64 x.mode, .int .i64 x.time, .string x.bytes] 46 (0, 0))) := (hB4.block _ (by rw [HWs.out]; omega)).trans HIB.out
        have HQX : Hid (px < q ∧ q < WC.heap.size) := ⟨by rw [HWs.out] at hqe; show px < q; omega, (Array.getElem?_eq_some_iff.1 hs7.1).1⟩
        clear hs7 hB4 e12 H0 hW hqe zlt hq y0 y1 y2 y3 y4 ylt hp1 hnn hwp hNM' HIB
        unfold set7 at hWC
        refine wpAny_ready (rs := [13]) (by kernel_rfl) (by simp) ?_
        refine AllReady.cons rfl (fun K hK => ?_) AllReady.nil
        rw [if_pos (by rfl)]
        go_simp
        rw [← hWC]
        clear hWC z0 z1 z2 z3 z4 z5 z6 f0 f1 f2 f3 f4 f5 f6
        refine hK _ _ ?_
        clear hK K
        refine wpAny_done (by kernel_rfl) ?_ _
        obtain ⟨y0, y1, y2, y3, y4, ylt⟩ := five_at HIC.out
        go_upto_region 10 with fail
        obtain ⟨WD, hWD⟩ : ∃ WD, WD = WC.alloc (.cells #[.int .u8 0, .int .u8 0, .int .u8 0, .int .u8 0, .int .u8 0, .int .u8 0, .int .u8 0, .int .u8 0] 29) := ⟨_, rfl⟩
        rw [← hWD]
        have hbD : Below WC.heap.size WC WD := by rw [hWD]; exact (Below.refl _ WC).alloc (Nat.le_refl _) _
        have HBD : Hid (Below wr.heap.size wr WD) := HBC.out.trans (hbD.mono HBC.out.size)
        have HRD : Hid (Tid WD WC.heap.size) := Tid.zero (by rw [hWD]; exact heap_alloc_new WC _)
        obtain ⟨r, hr⟩ : ∃ r, r = WC.heap.size := ⟨_, rfl⟩
        have HND : Hid (WD.heap[q]? = some (.cells #[.string NM, .int .i64 x.kind, .int .i64 x.mode, .int .i64 x.time, .int .i64 0, .slice none 0 0, .string ⟨#[]⟩] 89 (0, 0))) := (hbD.block _ HQX.out.2).trans HNC.out
        have HID : Hid (WD.heap[px]? = some (.cells #[.string x.path, .int .i64 x.kind, .int .i64 x.mode, .int .i64 x.time, .string x.bytes] 46 (0, 0))) := (hbD.block _ (by have := HQX.out; omega)).trans HIC.out
        have HQR : Hid (px < q ∧ q < r ∧ WD.heap.size = r + 1) := ⟨HQX.out.1, by rw [hr]; exact HQX.out.2, by rw [hWD, World.size_alloc, hr]⟩
        rw [← hr] at HRD ⊢
        have HRkD : Hid (Rk base w WD) := HRk.out.trans (Rk.of_below HBD.out HOj.out.1.base)
        have HRwD : Hid (Rk base wr WD) := Rk.of_below HBD.out HOj.out.1.base
        have HOD : Hid (Ow base WD u3 bj) := HOj.out.1.below HBD.out
        obtain ⟨ua3, uc3, rfl⟩ := HOD.out.form
        have HXsz : Hid (x.kind = 1 → x.bytes.size ≤ 4096) := fun e => by have := HOk.out.file e; rw [Lib.size_eq]; exact this
        clear hbD hWD hr HBC HNC HIC HQX y0 y1 y2 y3 y4 ylt HWs HBB HBD
        obtain ⟨y0, y1, y2, y3, y4, ylt⟩ := five_at HID.out
        obtain ⟨n0, n1, n2, n3, n4, n5, n6, nlt⟩ := sev_at HND.out
        go_upto_block 2 with fail
        go_cut [3, 16, 19] from 25 to 113 (fun u e y wx => Hid (T.2.2 = 0) ∧ Hid (∃ bk, pl bk = T.1 ∧ Ow base wx u bk ∧ bk.length ≤ bj.length + 300 * (blk l k x).length) ∧ Hid (Rk base wr wx) ∧ Hid (Ndq wx q x T.2.1))
        case first =>
          have hqw : wr.heap.size ≤ q ∧ wr.heap.size ≤ r ∧ q < r := by have := HQR.out; have := HPX.out; omega
          have HQW : Hid (wr.heap.size ≤ q ∧ wr.heap.size ≤ r ∧ q < r) := hqw
          clear hqw
          rcases (show x.kind = 1 ∨ x.kind = 2 ∨ x.kind = 3 from HOk.out.kind) with hk | hk | hk
          · have kb1 : (x.kind == 1) = true := by rw [hk]; rfl
            have HK : Hid (x.kind = 1) := hk
            have hbsz := HXsz.out hk
            obtain ⟨PC, hPC⟩ : ∃ PC, PC = cutW fx mn mx bt x.bytes := ⟨_, rfl⟩
            have hPn : PC.length ≤ 257 := by
              have := cutF_few HG.out.1.way x.bytes.data.toList (by rw [← Lib.size_eq]; exact hbsz)
              have hsz : x.bytes.data.toList.length = x.bytes.size := (Lib.size_eq x.bytes).symm
              rw [hsz] at this
              have : (cutW fx mn mx bt x.bytes).length ≤ x.bytes.size / 16 + 1 := this
              rw [hPC]
              omega
            have HPs : Hid (∀ p ∈ PC, (mkB p).size ≤ 9223372036854775807) := fun p hp => by
              have hj := cutF_join HG.out.1.way x.bytes.data.toList (by rw [← Lib.size_eq]; exact hbsz)
              have hp' : p ∈ cutF fx mn mx bt x.bytes.data.toList := by rw [hPC] at hp; exact hp
              have : p.length ≤ x.bytes.size := by
                have := mem_flat hp'
                rw [hj, ← Lib.size_eq] at this
                exact this
              rw [mkB, Lib.size_eq]
              simp
              omega
            have HT0 : Hid (T = ((Wk.pieces (PC.drop 0) (pl bj)).1, [] ++ (Wk.pieces (PC.drop 0) (pl bj)).2.1, (Wk.pieces (PC.drop 0) (pl bj)).2.2)) := by
              show _ = _
              rw [HT.out]; unfold Wk.thing
              rw [if_pos (by exact hk), hPC]
              rfl
            have HBz : Hid (0 ≤ (x.bytes.size : Int) ∧ (x.bytes.size : Int) ≤ 9223372036854775807) := ⟨by omega, by omega⟩
            have fz4 := free_at HND.out 4
            obtain ⟨WE, hWE⟩ : ∃ WE, WE = WD.setCell ⟨q, 4, none⟩ (.int .i64 x.bytes.size) := ⟨_, rfl⟩
            have hkE : Kt 89 WD WE := by rw [hWE]; exact Kt.set HND.out 4 _
            have HNE : Hid (WE.heap[q]? = some (.cells #[.string NM, .int .i64 x.kind, .int .i64 x.mode, .int .i64 x.time, .int .i64 x.bytes.size, .slice none 0 0, .string ⟨#[]⟩] 89 (0, 0))) := by
              show _ = _; rw [hWE]; simpa using set_at HND.out 4 (.int .i64 x.bytes.size)
            have HRE : Hid (Rk base wr WE) := by rw [hWE]; exact HRwD.out.then ((Below.refl wr.heap.size WD).setCell (p := ⟨q, 4, none⟩) HQW.out.1 _) HOj.out.1.base
            have HOE : Hid (Ow base WE (.slice ua3 bj.length uc3) bj ∧ bj.length ≤ bj.length + 0) := ⟨HOD.out.kt hkE (by decide), Nat.le_refl _⟩
            have HTE : Hid (Tid WE r) := HRD.out.kt hkE (by decide)
            have HSE : Hid (WE.heap.size = r + 1) := by show _ = _; rw [hWE]; simp only [World.setCell, Array.size_modify]; exact HQR.out.2.2
            have hyw := HRE.out.kt.cell HYj.out.1 (by decide)
            obtain ⟨v0, v1, v2, v3⟩ : WE.cell? ⟨p0, 0, none⟩ = some (.int .i64 fx) ∧ WE.cell? ⟨p0, 1, none⟩ = some (.int .i64 mn) ∧ WE.cell? ⟨p0, 2, none⟩ = some (.int .i64 mx) ∧ WE.cell? ⟨p0, 3, none⟩ = some (.int .i64 bt) := by
              refine ⟨?_, ?_, ?_, ?_⟩ <;> simp [World.cell?, hyw]
            obtain ⟨x0', x1', x2', x3', x4', xlt'⟩ := five_at (hkE.cell HID.out (by decide))
            have hpc := rpc_any fx mn mx bt x.bytes WE
            rw [HSE.out] at hpc
            rw [← hPC] at hpc
            clear hk hbsz hPC hkE hyw x0' x1' x2' x3' xlt' y0 y1 y2 y3
            go_upto_region 13 with fail
            rw [← hWE]
            clear hWE y4 ylt n0 n1 n2 n3 n4 n5 n6 nlt fz4
            go_wp2_with fail
            refine hpc.mono ?_
            rintro e w1 ⟨vp, rfl, o1, b1⟩
            have HPr1 : Hid (w1.ownsRow (r + 1 + 1) 9 1 vp PC.length (PC.map Sv)) := o1
            obtain ⟨a1, c1, rfl⟩ := own_form o1
            have hbw1 : Below WE.heap.size WE w1 := by rw [HSE.out]; exact b1
            have HO1 : Hid (Ow base w1 (.slice ua3 bj.length uc3) bj ∧ bj.length ≤ bj.length + 0) := ⟨HOE.out.1.below hbw1, Nat.le_refl _⟩
            have HR1 : Hid (Rk base wr w1) := HRE.out.trans (Rk.of_below hbw1 HOE.out.1.base)
            have HT1 : Hid (Tid w1 r) := HTE.out.kt (Kt.of_below (T := 37) hbw1) (by decide)
            have HN1 : Hid (∃ pa pc, w1.ownsRow (r + 1) 29 8 (.slice pa 0 pc) 0 (rowR idC []) ∧ w1.heap[q]? = some (.cells #[.string NM, .int .i64 x.kind, .int .i64 x.mode, .int .i64 x.time, .int .i64 x.bytes.size, .slice pa 0 pc, .string ⟨#[]⟩] 89 (0, 0))) := ⟨none, 0, World.ownsRow_nil _ _ _ _, (hbw1.block _ (Array.getElem?_eq_some_iff.1 HNE.out).1).trans HNE.out⟩
            obtain ⟨M, hM⟩ : ∃ M, M = PC.length := ⟨_, rfl⟩
            have HM : Hid (M = PC.length) := hM
            rw [← hM] at HPr1 hPn ⊢
            clear hpc o1 b1 hbw1 hM v0 v1 v2 v3 x4'
            obtain ⟨i0, hi, hz0, hz1, hz2⟩ := info_of' tid_info
            obtain ⟨wo, hwo⟩ : ∃ wo : World, wo = wr := ⟨_, rfl⟩
            subst hwo
            go_wp2_with fail
            go_loopw [3, 62] (fun u i wi => ∃ (kk : Nat) (done : List Wk.Bs) (bk : List Blb), kk ≤ M ∧ i = .int .i64 kk ∧ done.length = kk ∧
              Hid (T = ((Wk.pieces (PC.drop kk) (pl bk)).1, done ++ (Wk.pieces (PC.drop kk) (pl bk)).2.1, (Wk.pieces (PC.drop kk) (pl bk)).2.2)) ∧ Hid (Ow base wi u bk ∧ bk.length ≤ bj.length + kk) ∧
              Hid (∃ pa pc, wi.ownsRow (r + 1) 29 8 (.slice pa kk pc) kk (rowR idC done) ∧ wi.heap[q]? = some (.cells #[.string NM, .int .i64 x.kind, .int .i64 x.mode, .int .i64 x.time, .int .i64 x.bytes.size, .slice pa kk pc, .string ⟨#[]⟩] 89 (0, 0))) ∧
              Hid (∀ t ∈ done, t.length = 8) ∧ Hid (Rk base wo wi) ∧ Hid (Tid wi r) ∧ Hid (wi.ownsRow (r + 1 + 1) 9 1 (.slice a1 M c1) M (PC.map Sv))) (fun _ i _ => M - (intOf i).toNat)
            case atStart => exact ⟨0, [], bj, by omega, rfl, rfl, HT0, HO1, HN1, (fun _ h => absurd h List.not_mem_nil), HR1, HT1, HPr1⟩
            case round =>
              clear HT0 HO1 HN1 HR1 HT1 HPr1 HNE HRE HOE HTE HSE
              obtain ⟨kk, done, bk, hkk, rfl, hdk, HTk, HOk', HNk, H8, HRi, HTi, HPr⟩ := hrel
              obtain ⟨pa, pc0, hpo, hqn⟩ := HNk.out
              have HQN : Hid (wr.heap[q]? = some (.cells #[.string NM, .int .i64 x.kind, .int .i64 x.mode, .int .i64 x.time, .int .i64 x.bytes.size, .slice pa kk pc0, .string ⟨#[]⟩] 89 (0, 0))) := hqn
              have HPO : Hid (wr.ownsRow (r + 1) 29 8 (.slice pa kk pc0) kk (rowR idC done)) := hpo
              clear hpo hqn HNk
              by_cases hlt2 : kk < M
              · have hkP : kk < PC.length := by rw [← HM.out]; exact hlt2
                obtain ⟨pc, hp⟩ : ∃ pc, PC[kk]? = some pc := ⟨_, List.getElem?_eq_getElem hkP⟩
                have hx : Tx wr (.slice a1 M c1) (PC.map mkB) := Tx.of_own (by rw [List.length_map, ← HM.out, ← sv_tv]; exact HPr.out)
                obtain ⟨bk1, o1, rfl, hbk1, hc1⟩ := hx.get kk (by simpa using hkP)
                have hcell : wr.cell? ⟨bk1, o1 + kk, none⟩ = some (.string (mkB pc)) := by
                  rw [hc1, List.getD_eq_getElem?_getD, List.getElem?_map, hp]
                  rfl
                obtain ⟨s1, s2⟩ := pieces_step hp HTk.out
                have HS1 : Hid (errI bk ⟨1, mkB pc⟩ ≠ 0 → T.2.2 = errI bk ⟨1, mkB pc⟩) := s1
                have HS2 : Hid (errI bk ⟨1, mkB pc⟩ = 0 → T = ((Wk.pieces (PC.drop (kk + 1)) (pl (more bk ⟨1, mkB pc⟩))).1, (done ++ [idI bk ⟨1, mkB pc⟩]) ++ (Wk.pieces (PC.drop (kk + 1)) (pl (more bk ⟨1, mkB pc⟩))).2.1, (Wk.pieces (PC.drop (kk + 1)) (pl (more bk ⟨1, mkB pc⟩))).2.2)) := s2
                have hbk9 : bk.length < 900000000 := by
                  have h1 := HRem.out
                  have h2 := HO.out.2
                  have h3 := HBN.out
                  have h4 := HOk'.out.2
                  omega
                have hinto := rinto_q base u3 bk ⟨1, mkB pc⟩ wr HOk'.out.1 hbk9 (fun b hb => by rw [List.mem_singleton.1 hb]; exact ⟨by show (Lit.int .i64 1).wf = true; decide, HPs.out pc (List.mem_of_getElem? hp)⟩)
                have HML : Hid ((more bk ⟨1, mkB pc⟩).length ≤ bj.length + (kk + 1)) := by
                  have h1 := more_length bk ⟨1, mkB pc⟩
                  have h4 := HOk'.out.2
                  show _ ≤ _
                  omega
                obtain ⟨ua4, uc4, rfl⟩ := HOk'.out.1.form
                have hinto' : Calls Tryz.prog 47 #[.slice ua4 bk.length uc4, .agg #[.int .i64 1, .string (mkB pc)]] wr fun e w' => ∃ v' id, e = .returned (.tuple #[v', idV id, .int .i64 (errI bk ⟨1, mkB pc⟩)]) ∧ id.length = 8 ∧ Rk base wr w' ∧ (∃ a n c, v' = .slice a n c) ∧ (errI bk ⟨1, mkB pc⟩ = 0 → id = idI bk ⟨1, mkB pc⟩ ∧ Ow base w' v' (more bk ⟨1, mkB pc⟩)) := hinto
                generalize mkB pc = pcB at *
                generalize errI bk ⟨1, pcB⟩ = ER at *
                generalize more bk ⟨1, pcB⟩ = MB at *
                generalize idI bk ⟨1, pcB⟩ = IM at *
                generalize bk.length = bkn at hinto' ⊢
                clear hinto hx hc1 s1 s2 hkP hp hbk9
                go_wp2_with fail
                refine hinto'.mono ?_
                rintro e w3 ⟨bv', id, rfl, h8, f3, ⟨a', n', c', rfl⟩, hz⟩
                obtain ⟨b0, b1, b2, b3, b4, b5, b6, b7, rfl⟩ := eight id h8
                have eV : idV [b0, b1, b2, b3, b4, b5, b6, b7] = .agg #[.int .u8 (b0.toNat : Int), .int .u8 (b1.toNat : Int), .int .u8 (b2.toNat : Int), .int .u8 (b3.toNat : Int), .int .u8 (b4.toNat : Int), .int .u8 (b5.toNat : Int), .int .u8 (b6.toNat : Int), .int .u8 (b7.toNat : Int)] := rfl
                rw [eV]
                have HZ : Hid (ER = 0 → [b0, b1, b2, b3, b4, b5, b6, b7] = IM ∧ Ow base w3 (.slice a' n' c') MB) := hz
                obtain ⟨d0, d1, d2, d3, d4, d5, d6, d7, hty⟩ := HTi.out.kt f3.kt (by decide)
                have hI8 := I8.laid hty
                obtain ⟨z0, z1, z2, z3, z4, z5, z6, z7⟩ := hI8.cells
                obtain ⟨f0, f1, f2, f3', f4, f5, f6, f7⟩ := hI8.free
                obtain ⟨W9, hW9⟩ : ∃ W9, W9 = set8 w3 r b0 b1 b2 b3 b4 b5 b6 b7 := ⟨_, rfl⟩
                have HI9 : Hid (W9.heap[r]? = some (.cells #[.int .u8 (b0.toNat : Int), .int .u8 (b1.toNat : Int), .int .u8 (b2.toNat : Int), .int .u8 (b3.toNat : Int), .int .u8 (b4.toNat : Int), .int .u8 (b5.toNat : Int), .int .u8 (b6.toNat : Int), .int .u8 (b7.toNat : Int)] 29 (0, 0))) := by rw [hW9]; exact set8_typed hty _ _ _ _ _ _ _ _
                have HR9 : Hid (Rk base wo W9) := by rw [hW9]; exact (HRi.out.trans f3).then (below_set8 (Below.refl _ w3) HQW.out.2.1 _ _ _ _ _ _ _ _) HOj.out.1.base
                have HN9 : Hid (W9.heap[q]? = some (.cells #[.string NM, .int .i64 x.kind, .int .i64 x.mode, .int .i64 x.time, .int .i64 x.bytes.size, .slice pa kk pc0, .string ⟨#[]⟩] 89 (0, 0))) := by
                  rw [hW9]; exact ((below_set8 (Below.refl r w3) (Nat.le_refl _) _ _ _ _ _ _ _ _).block q HQW.out.2.2).trans (f3.kt.cell HQN.out (by decide))
                have HK9 : Hid (Kt 29 w3 W9) := by rw [hW9]; exact I8.kt8 hty _ _ _ _ _ _ _ _
                have HO9 : Hid (W9.ownsRow (r + 1) 29 8 (.slice pa kk pc0) kk (rowR idC done)) := by
                  rw [hW9]
                  have h1 := own_kt HPO.out f3.kt (by decide)
                  exact own_kept h1 (kept_not8 w3 r _ _ _ _ _ _ _ _) fun g hg => by have := own_ge h1 hg; show g ≠ r; omega
                have HP9 : Hid (W9.ownsRow (r + 1 + 1) 9 1 (.slice (some ⟨bk1, o1, none⟩) M c1) M (PC.map Sv)) := own_kt (own_kt HPr.out f3.kt (by decide)) HK9.out (by decide)
                have HRsz : Hid (r < W9.heap.size) := (Array.getElem?_eq_some_iff.1 HI9.out).1
                simp only [set8, B] at hW9
                clear hinto' h8 eV hz hty hI8 f3 hcell hbk1
                go_upto_region 17 with fail
                rw [← hW9]
                clear hW9 z0 z1 z2 z3 z4 z5 z6 z7 f0 f1 f2 f3' f4 f5 f6 f7
                by_cases hE : ER = 0
                case neg =>
                  have hne : (ER != 0) = true := by rw [bne_iff_ne]; exact hE
                  have HE : Hid (ER ≠ 0) := hE
                  have HRe : Hid (R = ([], [], ER)) := by
                    have e := HS1.out hE
                    show _ = _
                    rw [HRs.out, e, if_pos hE]
                  clear hE HS1 HS2 HZ
                  go_wp2_with fail
                  obtain ⟨g0, g1, g2, g3, g4, g5, g6, g7⟩ := (I8.laid HI9.out).cells
                  obtain ⟨c0, c1, c2, c3, c4, c5, c6, c7, hq8⟩ := (HYj.out.2.kt HR9.out.kt (by decide)).i8
                  obtain ⟨m0, m1, m2, m3, m4, m5, m6, m7⟩ := hq8.cells
                  obtain ⟨k0, k1, k2, k3, k4, k5, k6, k7⟩ := hq8.free
                  obtain ⟨WX, hWX⟩ : ∃ WX, WX = set8 W9 (p0 + 1) b0 b1 b2 b3 b4 b5 b6 b7 := ⟨_, rfl⟩
                  have HIX : Hid (I8 WX (p0 + 1) [b0, b1, b2, b3, b4, b5, b6, b7]) := by rw [hWX]; exact hq8.store _ _ _ _ _ _ _ _
                  have HRX : Hid (Rk base w WX) := by rw [hWX]; exact (HRk.out.trans HR9.out).then (below_set8 (Below.refl _ W9) (by have := HP0.out; omega) _ _ _ _ _ _ _ _) HO.out.1.base
                  simp only [set8, B] at hWX
                  clear hq8
                  go_upto_region 18 with fail
                  go_region
                  all_goals
                    rw [← hWX]
                    obtain ⟨j0, j1, j2, j3, j4, j5, j6, j7⟩ := HIX.out.cells
                    clear hWX g0 g1 g2 g3 g4 g5 g6 g7 m0 m1 m2 m3 m4 m5 m6 m7 k0 k1 k2 k3 k4 k5 k6 k7
                    go_wp2_with fail
                    refine bodyPost_ret (v := .tuple #[.slice none 0 0, .agg #[.int .u8 (b0.toNat : Int), .int .u8 (b1.toNat : Int), .int .u8 (b2.toNat : Int), .int .u8 (b3.toNat : Int), .int .u8 (b4.toNat : Int), .int .u8 (b5.toNat : Int), .int .u8 (b6.toNat : Int), .int .u8 (b7.toNat : Int)], .int .i64 ER]) ?_ rfl ⟨_, [b0, b1, b2, b3, b4, b5, b6, b7], by rw [HRe.out]; rfl, rfl, HRX.out.drew, ⟨_, _, _, rfl⟩, fun e => by rw [HRe.out] at e; exact absurd e HE.out⟩
                    have hres : Tryz.f23.results = #[.tmp 8, .cell 9 29, .tmp 10] := by kernel_rfl
                    simp only [results, hres]
                    go_simp
                case pos =>
                  subst hE
                  obtain ⟨hz1', hz2'⟩ := HZ.out rfl
                  subst hz1'
                  have HOz : Hid (Ow base w3 (.slice a' n' c') MB) := hz2'
                  have HT2 := (show Hid _ from HS2.out rfl)
                  obtain ⟨g0, g1, g2, g3, g4, g5, g6, g7⟩ := (I8.laid HI9.out).cells
                  obtain ⟨n0, n1, n2, n3, n4, n5, n6, nlt⟩ := sev_at HN9.out
                  have hO9 := HO9.out
                  have hr9 := HRsz.out
                  clear HZ HS1 HS2 hz2'
                  go_wp2_with (at_builtin; refine wpList_append_own _ rfl (.tmp 79) (.tmp 81) 53 rfl (r + 1) 29 i0 (.agg #[.int .u8 0, .int .u8 0, .int .u8 0, .int .u8 0, .int .u8 0, .int .u8 0, .int .u8 0, .int .u8 0]) 8 8 Tryz.underlying53 hi hz0 hz1 hz2 rfl (by decide) _ _ _ rfl (hO9.alloc _) ⟨W9.heap.size, 0, none⟩ 1 1 [.int .u8 (b0.toNat : Int), .int .u8 (b1.toNat : Int), .int .u8 (b2.toNat : Int), .int .u8 (b3.toNat : Int), .int .u8 (b4.toNat : Int), .int .u8 (b5.toNat : Int), .int .u8 (b6.toNat : Int), .int .u8 (b7.toNat : Int)] rfl rfl ?d1 ?d2 ?d3 ?d4 ?d5 ?_)
                  case d1 => exact eight_new W9 _ _ _ _ _ _ _ _
                  case d2 => simp [Value.oneCell']
                  case d3 => unfold maxLen; omega
                  case d4 => omega
                  case d5 => simp; omega
                  intro v6 w6 hown6 hgrow _
                  have hO9' := hO9.alloc (.cells #[.int .u8 (b0.toNat : Int), .int .u8 (b1.toNat : Int), .int .u8 (b2.toNat : Int), .int .u8 (b3.toNat : Int), .int .u8 (b4.toNat : Int), .int .u8 (b5.toNat : Int), .int .u8 (b6.toNat : Int), .int .u8 (b7.toNat : Int)] 29)
                  have hk6 : Kt 29 W9 w6 := ((Kt.refl _ W9).alloc _).trans (Kt.of_grown hgrow fun g hg => by
                    obtain ⟨cur, q, _⟩ := own_block hO9' hg
                    exact ⟨cur, _, q⟩)
                  have hb6 : Below (r + 1) W9 w6 := ((Below.refl _ W9).alloc (by omega) _).grown hgrow (by simp; omega) fun q hq => (hO9'.lt q hq).1
                  obtain ⟨va6, vc6, rfl⟩ := own_form hown6
                  have hN6 := hk6.cell HN9.out (by decide)
                  have fz5 := free_at hN6 5
                  obtain ⟨m0, m1, m2, m3, m4, m5, m6, mlt⟩ := sev_at hN6
                  obtain ⟨W11, hW11⟩ : ∃ W11, W11 = w6.setCell ⟨q, 5, none⟩ (.slice va6 (kk + 1) vc6) := ⟨_, rfl⟩
                  have hkN : Kt 89 w6 W11 := by rw [hW11]; exact Kt.set hN6 5 _
                  have HQ11 : Hid (∃ pa pc, W11.ownsRow (r + 1) 29 8 (.slice pa (kk + 1) pc) (kk + 1) (rowR idC (done ++ [[b0, b1, b2, b3, b4, b5, b6, b7]])) ∧ W11.heap[q]? = some (.cells #[.string NM, .int .i64 x.kind, .int .i64 x.mode, .int .i64 x.time, .int .i64 x.bytes.size, .slice pa (kk + 1) pc, .string ⟨#[]⟩] 89 (0, 0))) := by
                    refine ⟨va6, vc6, ?_, ?_⟩
                    · rw [rowR_more]
                      exact own_kt hown6 hkN (by decide)
                    · rw [hW11]; simpa using set_at hN6 5 (.slice va6 (kk + 1) vc6)
                  have HO11 : Hid (Ow base W11 (.slice a' n' c') MB ∧ MB.length ≤ bj.length + (kk + 1)) := ⟨((HOz.out.kt HK9.out (by decide)).kt hk6 (by decide)).kt hkN (by decide), HML.out⟩
                  have HR11 : Hid (Rk base wo W11) := by
                    have h1 : Below wo.heap.size w6 W11 := by rw [hW11]; exact (Below.refl wo.heap.size w6).setCell (p := ⟨q, 5, none⟩) HQW.out.1 _
                    exact HR9.out.then ((hb6.mono (by have := HQW.out; omega)).trans h1) HOj.out.1.base
                  have HT11 : Hid (Tid W11 r) := by
                    refine ⟨b0, b1, b2, b3, b4, b5, b6, b7, hkN.cell ((hb6.block r (by omega)).trans HI9.out) (by decide)⟩
                  have HP11 : Hid (W11.ownsRow (r + 1 + 1) 9 1 (.slice (some ⟨bk1, o1, none⟩) M c1) M (PC.map Sv)) := own_kt (own_kt HP9.out hk6 (by decide)) hkN (by decide)
                  have H811 : Hid (∀ t ∈ done ++ [[b0, b1, b2, b3, b4, b5, b6, b7]], t.length = 8) := fun t ht => by
                    rcases List.mem_append.1 ht with q | q
                    · exact H8.out t q
                    · rw [List.mem_singleton.1 q]; rfl
                  have HLd : Hid ((done ++ [[b0, b1, b2, b3, b4, b5, b6, b7]]).length = kk + 1) := by show _ = _; rw [List.length_append, hdk]; rfl
                  clear hown6 hgrow hO9 hO9' hk6 hb6 hkN hN6 g0 g1 g2 g3 g4 g5 g6 g7 n0 n1 n2 n3 n4 n5 n6 nlt H8 HTk HOk' HRi HTi HPr HQN HPO HO9 HP9 HN9 HR9 HK9 HI9 HRsz HML
                  go_wp2_with fail
                  rw [← hW11]
                  clear hW11 m0 m1 m2 m3 m4 m5 m6 mlt fz5
                  go_roundw
                  case measure => simp only [intOf]; omega
                  case rel => exact ⟨kk + 1, _, MB, by omega, by go_num, HLd.out, HT2, HO11, HQ11, H811, HR11, HT11, HP11⟩
              · obtain rfl : kk = M := by omega
                have HTz : Hid (T = (pl bk, done, 0)) := by
                  have e : PC.drop PC.length = [] := List.drop_of_length_le (Nat.le_refl _)
                  show _ = _
                  rw [HTk.out, HM.out, e]
                  simp [Wk.pieces]
                have HND9 : Hid (Ndq wr q x T.2.1) := by
                  refine ⟨⟨NM, x.kind, x.mode, x.time, x.bytes.size, done, ⟨#[]⟩⟩, pa, pc0, ?_, HNMz.out, ?_, ⟨_, rfl, ?_, ?_, nd_ok HOk.out HXo.out.1 HNMz.out _ _ _ HBz.out.1 HBz.out.2 (by decide) H8.out⟩⟩
                  · rw [HTz.out]
                    exact nd_node HNM.out _ _ _ (by rw [if_pos HK.out]) (by rw [if_neg (by rw [HK.out]; decide)])
                  · show wr.heap[q]? = some (.cells #[.string NM, .int .i64 x.kind, .int .i64 x.mode, .int .i64 x.time, .int .i64 x.bytes.size, .slice pa done.length pc0, .string ⟨#[]⟩] 89 (0, 0))
                    rw [hdk]; exact HQN.out
                  · show Rx 8 idC wr (.slice pa done.length pc0) done
                    have := HPO.out
                    rw [← hdk] at this
                    exact rx_own this rfl H8.out
                  · have := own_type HPO.out
                    show ∀ a m c, Value.slice pa done.length pc0 = .slice (some a) m c → _
                    rw [hdk]; exact this
                have HBk : Hid (bk.length ≤ bj.length + 300 * (blk l k x).length) := by
                  have h1 := HOk'.out.2
                  have h2 := blk_pos l k x
                  show _ ≤ _
                  omega
                clear HTk
                go_wp2_with fail
                go_meet
                exact ⟨by show _ = _; rw [HTz.out], ⟨bk, by rw [HTz.out], HOk'.out.1, HBk.out⟩, HRi, HND9⟩
          · have kb1 : (x.kind == 1) = false := by rw [hk]; rfl
            have kb2 : (x.kind == 2) = true := by rw [hk]; rfl
            have HK : Hid (x.kind = 2) := hk
            have hk1 : 1 ≤ k := by
              have h1 := Wk.names_few HOk.out
              have h2 : x.it.nms.dropLast.length = p.length := by rw [HIn.out.2]
              rw [List.length_dropLast] at h2
              have h4 := List.length_pos_iff.2 HIn.out.1
              have h3 := HP.out.1
              omega
            have hnl : x.it.nms.length + k = 9 := by
              have h2 : x.it.nms.dropLast.length = p.length := by rw [HIn.out.2]
              rw [List.length_dropLast] at h2
              have h4 := List.length_pos_iff.2 HIn.out.1
              have h3 := HP.out.1
              omega
            have hbd : bj.length + 300 * (dI l k x.it.nms).length ≤ 800000000 := by
              have h1 := HRem.out
              have h2 := HO.out.2
              have h3 := HBN.out
              rw [blk_dir hk] at h1
              omega
            obtain ⟨Rd, hRd⟩ : ∃ Rd, Rd = Wk.plantDir (cutF fx mn mx bt) (its l) k x.it.nms (pl bj) := ⟨_, rfl⟩
            have HT2 : Hid (T = (Rd.1, [Rd.2.1], Rd.2.2)) := by
              show _ = _
              rw [HT.out]; unfold Wk.thing
              rw [if_neg (by show x.kind ≠ 1; rw [hk]; decide), if_pos (by exact hk), hRd]
            have hdir := HIH.out hk1 x.it.nms (.slice ua3 bj.length uc3) bj WD hnl (nms_noslash HOk.out) HOD.out hbd (fun W hW => HST.out W (HRkD.out.trans hW)) Rd hRd
            have hpe : mkB (Nn.tails x.it.nms) = x.path := by
              have h1 : x.it.path = Nn.tails x.it.nms := Wk.path_tails HOk.out
              rw [← h1]; rfl
            rw [hpe] at hdir
            have HBd : Hid (bj.length + 300 * (dI l k x.it.nms).length + 1 ≤ bj.length + 300 * (blk l k x).length) := by
              show _ ≤ _
              rw [blk_dir hk]; omega
            have hyw := HRwD.out.kt.cell HYj.out.1 (by decide)
            obtain ⟨v0, v1, v2, v3⟩ : WD.cell? ⟨p0, 0, none⟩ = some (.int .i64 fx) ∧ WD.cell? ⟨p0, 1, none⟩ = some (.int .i64 mn) ∧ WD.cell? ⟨p0, 2, none⟩ = some (.int .i64 mx) ∧ WD.cell? ⟨p0, 3, none⟩ = some (.int .i64 bt) := by
              refine ⟨?_, ?_, ?_, ?_⟩ <;> simp [World.cell?, hyw]
            obtain ⟨JN, hJN⟩ : ∃ JN, JN = bj.length := ⟨_, rfl⟩
            have HJN : Hid (JN = bj.length) := hJN
            rw [← hJN] at hdir ⊢
            clear hk hk1 hnl hbd hRd hpe hyw hJN n0 n1 n2 n3 n4 n5 n6 nlt
            go_wp2_with fail
            refine hdir.mono ?_
            rintro e w3 ⟨bv', id, rfl, h8, f3, ⟨a', n', c', rfl⟩, hz⟩
            obtain ⟨b0, b1, b2, b3, b4, b5, b6, b7, rfl⟩ := eight id h8
            have eV : idV [b0, b1, b2, b3, b4, b5, b6, b7] = .agg #[.int .u8 (b0.toNat : Int), .int .u8 (b1.toNat : Int), .int .u8 (b2.toNat : Int), .int .u8 (b3.toNat : Int), .int .u8 (b4.toNat : Int), .int .u8 (b5.toNat : Int), .int .u8 (b6.toNat : Int), .int .u8 (b7.toNat : Int)] := rfl
            rw [eV]
            have HZ : Hid (Rd.2.2 = 0 → [b0, b1, b2, b3, b4, b5, b6, b7] = Rd.2.1 ∧ ∃ bs', pl bs' = Rd.1 ∧ Ow base w3 (.slice a' n' c') bs' ∧ bs'.length ≤ JN + 300 * (dI l k x.it.nms).length + 1) := hz
            have htr := HRD.out.kt f3.kt (by decide)
            obtain ⟨d0, d1, d2, d3, d4, d5, d6, d7, hty⟩ := htr
            have hI8 := I8.laid hty
            obtain ⟨z0, z1, z2, z3, z4, z5, z6, z7⟩ := hI8.cells
            obtain ⟨f0, f1, f2, f3', f4, f5, f6, f7⟩ := hI8.free
            obtain ⟨W9, hW9⟩ : ∃ W9, W9 = set8 w3 r b0 b1 b2 b3 b4 b5 b6 b7 := ⟨_, rfl⟩
            have HI9 : Hid (W9.heap[r]? = some (.cells #[.int .u8 (b0.toNat : Int), .int .u8 (b1.toNat : Int), .int .u8 (b2.toNat : Int), .int .u8 (b3.toNat : Int), .int .u8 (b4.toNat : Int), .int .u8 (b5.toNat : Int), .int .u8 (b6.toNat : Int), .int .u8 (b7.toNat : Int)] 29 (0, 0))) := by rw [hW9]; exact set8_typed hty _ _ _ _ _ _ _ _
            have HR9 : Hid (Rk base wr W9) := by rw [hW9]; exact (HRwD.out.trans f3).then (below_set8 (Below.refl _ w3) HQW.out.2.1 _ _ _ _ _ _ _ _) HOj.out.1.base
            have HN9 : Hid (W9.heap[q]? = some (.cells #[.string NM, .int .i64 x.kind, .int .i64 x.mode, .int .i64 x.time, .int .i64 0, .slice none 0 0, .string ⟨#[]⟩] 89 (0, 0))) := by
              rw [hW9]; exact ((below_set8 (Below.refl r w3) (Nat.le_refl _) _ _ _ _ _ _ _ _).block q HQW.out.2.2).trans (f3.kt.cell HND.out (by decide))
            have HK9 : Hid (Kt 29 w3 W9) := by rw [hW9]; exact I8.kt8 hty _ _ _ _ _ _ _ _
            simp only [set8, B] at hW9
            clear hdir h8 eV hz hty hI8 f3 y0 y1 y2 y3 y4 ylt v0 v1 v2 v3
            go_upto_region 23 with fail
            rw [← hW9]
            clear hW9 z0 z1 z2 z3 z4 z5 z6 z7 f0 f1 f2 f3' f4 f5 f6 f7
            by_cases hE : Rd.2.2 = 0
            case neg =>
              have hne : (Rd.2.2 != 0) = true := by rw [bne_iff_ne]; exact hE
              have HE : Hid (Rd.2.2 ≠ 0) := hE
              have HRe : Hid (R = ([], [], Rd.2.2)) := by
                show _ = _
                rw [HRs.out, HT2.out, if_pos hE]
              generalize Rd.2.2 = ER at *
              clear hE
              go_wp2_with fail
              obtain ⟨g0, g1, g2, g3, g4, g5, g6, g7⟩ := (I8.laid HI9.out).cells
              obtain ⟨c0, c1, c2, c3, c4, c5, c6, c7, hq8⟩ := (HYj.out.2.kt HR9.out.kt (by decide)).i8
              obtain ⟨m0, m1, m2, m3, m4, m5, m6, m7⟩ := hq8.cells
              obtain ⟨k0, k1, k2, k3, k4, k5, k6, k7⟩ := hq8.free
              obtain ⟨WX, hWX⟩ : ∃ WX, WX = set8 W9 (p0 + 1) b0 b1 b2 b3 b4 b5 b6 b7 := ⟨_, rfl⟩
              have HIX : Hid (I8 WX (p0 + 1) [b0, b1, b2, b3, b4, b5, b6, b7]) := by rw [hWX]; exact hq8.store _ _ _ _ _ _ _ _
              have HRX : Hid (Rk base w WX) := by rw [hWX]; exact (HRk.out.trans HR9.out).then (below_set8 (Below.refl _ W9) (by have := HP0.out; omega) _ _ _ _ _ _ _ _) HO.out.1.base
              simp only [set8, B] at hWX
              clear hq8
              go_upto_region 24 with fail
              go_region
              all_goals
                rw [← hWX]
                obtain ⟨j0, j1, j2, j3, j4, j5, j6, j7⟩ := HIX.out.cells
                clear hWX g0 g1 g2 g3 g4 g5 g6 g7 m0 m1 m2 m3 m4 m5 m6 m7 k0 k1 k2 k3 k4 k5 k6 k7
                go_wp2_with fail
                refine bodyPost_ret (v := .tuple #[.slice none 0 0, .agg #[.int .u8 (b0.toNat : Int), .int .u8 (b1.toNat : Int), .int .u8 (b2.toNat : Int), .int .u8 (b3.toNat : Int), .int .u8 (b4.toNat : Int), .int .u8 (b5.toNat : Int), .int .u8 (b6.toNat : Int), .int .u8 (b7.toNat : Int)], .int .i64 ER]) ?_ rfl ⟨_, [b0, b1, b2, b3, b4, b5, b6, b7], by rw [HRe.out]; rfl, rfl, HRX.out.drew, ⟨_, _, _, rfl⟩, fun e => by rw [HRe.out] at e; exact absurd e HE.out⟩
                have hres : Tryz.f23.results = #[.tmp 8, .cell 9 29, .tmp 10] := by kernel_rfl
                simp only [results, hres]
                go_simp
            case pos =>
              obtain ⟨hz1, bs', hz2, hz3, hz4⟩ := HZ.out hE
              rw [hE]
              obtain ⟨g0, g1, g2, g3, g4, g5, g6, g7⟩ := (I8.laid HI9.out).cells
              obtain ⟨n0, n1, n2, n3, n4, n5, n6, nlt⟩ := sev_at HN9.out
              have fz5 := free_at HN9.out 5
              have hqb : q ≠ W9.heap.size := by omega
              have hqb2 : W9.heap.size ≠ q := by omega
              obtain ⟨WS, hWS⟩ : ∃ WS, WS = W9.setCell ⟨q, 5, none⟩ (.slice (some ⟨W9.heap.size, 0, none⟩) 1 1) := ⟨_, rfl⟩
              obtain ⟨WE, hWE⟩ : ∃ WE, WE = WS.alloc (.cells #[.int .u8 (b0.toNat : Int), .int .u8 (b1.toNat : Int), .int .u8 (b2.toNat : Int), .int .u8 (b3.toNat : Int), .int .u8 (b4.toNat : Int), .int .u8 (b5.toNat : Int), .int .u8 (b6.toNat : Int), .int .u8 (b7.toNat : Int)] 29) := ⟨_, rfl⟩
              have hws : WS.heap.size = W9.heap.size := by rw [hWS]; simp [World.setCell]
              have hbs : Below WS.heap.size WS WE := by rw [hWE]; exact (Below.refl _ WS).alloc (Nat.le_refl _) _
              have hkS : Kt 89 W9 WS := by rw [hWS]; exact Kt.set HN9.out 5 _
              have HNE : Hid (WE.heap[q]? = some (.cells #[.string NM, .int .i64 x.kind, .int .i64 x.mode, .int .i64 x.time, .int .i64 0, .slice (some ⟨W9.heap.size, 0, none⟩) 1 1, .string ⟨#[]⟩] 89 (0, 0))) := by
                refine (hbs.block q (by omega)).trans ?_
                rw [hWS]; simpa using set_at HN9.out 5 (.slice (some ⟨W9.heap.size, 0, none⟩) 1 1)
              have HRE : Hid (Rk base wr WE) := by
                have h1 : Below wr.heap.size W9 WS := by rw [hWS]; exact (Below.refl wr.heap.size W9).setCell (p := ⟨q, 5, none⟩) HQW.out.1 _
                exact HR9.out.then (h1.trans (hbs.mono (by rw [hws]; exact HR9.out.size))) HOj.out.1.base
              have HOE : Hid (Ow base WE (.slice a' n' c') bs') := ((hz3.kt HK9.out (by decide)).kt hkS (by decide)).below hbs
              have hIw : WE.heap[W9.heap.size]? = some (.cells #[.int .u8 (b0.toNat : Int), .int .u8 (b1.toNat : Int), .int .u8 (b2.toNat : Int), .int .u8 (b3.toNat : Int), .int .u8 (b4.toNat : Int), .int .u8 (b5.toNat : Int), .int .u8 (b6.toNat : Int), .int .u8 (b7.toNat : Int)] 29 (0, 0)) := by
                rw [hWE, ← hws]
                exact heap_alloc_new WS _
              have HND9 : Hid (Ndq WE q x T.2.1) := by
                have hids : ∀ t ∈ [[b0, b1, b2, b3, b4, b5, b6, b7]], t.length = 8 := fun t ht => by rw [List.mem_singleton.1 ht]; rfl
                refine ⟨⟨NM, x.kind, x.mode, x.time, 0, [[b0, b1, b2, b3, b4, b5, b6, b7]], ⟨#[]⟩⟩, some ⟨W9.heap.size, 0, none⟩, 1, ?_, HNMz.out, HNE.out, ⟨_, rfl, ⟨.inr ⟨W9.heap.size, 0, 1, rfl, (Array.getElem?_eq_some_iff.1 hIw).1, fun i t hi u a hu => ?_⟩, ⟨_, _, _, rfl, Nat.le_refl _, by omega⟩⟩, (fun a m c e => by cases e; exact ⟨_, _, hIw⟩), nd_ok HOk.out HXo.out.1 HNMz.out _ _ _ (by omega) (by omega) (by decide) hids⟩⟩
                · rw [HT2.out]
                  have e1 : [Rd.2.1] = [[b0, b1, b2, b3, b4, b5, b6, b7]] := by rw [← hz1]
                  rw [e1]
                  exact nd_node HNM.out _ _ _ (by rw [if_neg (by rw [HK.out]; decide)]) (by rw [if_neg (by rw [HK.out]; decide)])
                · have hi0 : i = 0 := by
                    have := (List.getElem?_eq_some_iff.1 hi).1
                    simpa using this
                  subst hi0
                  have hit : some [b0, b1, b2, b3, b4, b5, b6, b7] = some t := hi
                  cases hit
                  have hu8 := (List.getElem?_eq_some_iff.1 hu).1
                  rw [show (0 : Nat) + 0 * 8 + u = u from by omega, cell_of_row _ _ _ _ _ _ hIw, ← hu]
                  simp [idC, B]
              have HPe : Hid (pl bs' = T.1 ∧ bs'.length ≤ bj.length + 300 * (blk l k x).length) := ⟨by rw [HT2.out]; exact hz2, by have := HBd.out; have := HJN.out; omega⟩
              have HEr : Hid (T.2.2 = 0) := by show _ = _; rw [HT2.out]; exact hE
              clear hz1 hz2 hz3 hz4 hE hIw hbs hws hkS
              go_wp2_with fail
              rw [← hWS, ← hWE]
              go_meet
              exact ⟨HEr, ⟨bs', HPe.out.1, HOE.out, HPe.out.2⟩, HRE, HND9⟩
          · have kb1 : (x.kind == 1) = false := by rw [hk]; rfl
            have kb2 : (x.kind == 2) = false := by rw [hk]; rfl
            have kb3 : (x.kind == 3) = true := by rw [hk]; rfl
            have HK : Hid (x.kind = 3) := hk
            have HT3 : Hid (T = (pl bj, [], 0)) := by
              show _ = _
              rw [HT.out]; unfold Wk.thing
              rw [if_neg (by show x.kind ≠ 1; rw [hk]; decide), if_neg (by show x.kind ≠ 2; rw [hk]; decide)]
            have fz6 := free_at HND.out 6
            obtain ⟨WE, hWE⟩ : ∃ WE, WE = WD.setCell ⟨q, 6, none⟩ (.string x.bytes) := ⟨_, rfl⟩
            have HNE : Hid (WE.heap[q]? = some (.cells #[.string NM, .int .i64 x.kind, .int .i64 x.mode, .int .i64 x.time, .int .i64 0, .slice none 0 0, .string x.bytes] 89 (0, 0))) := by
              show _ = _; rw [hWE]; simpa using set_at HND.out 6 (.string x.bytes)
            have HRE : Hid (Rk base wr WE) := by rw [hWE]; exact HRwD.out.then ((Below.refl wr.heap.size WD).setCell (p := ⟨q, 6, none⟩) HQW.out.1 _) HOj.out.1.base
            have HOE : Hid (Ow base WE (.slice ua3 bj.length uc3) bj) := by rw [hWE]; exact HOD.out.kt (Kt.set HND.out 6 _) (by decide)
            have HND9 : Hid (Ndq WE q x T.2.1) := by
              refine ⟨⟨NM, x.kind, x.mode, x.time, 0, [], x.bytes⟩, none, 0, ?_, HNMz.out, HNE.out, ⟨_, rfl, ⟨.inl ⟨⟨_, _, rfl⟩, rfl⟩, ⟨_, _, _, rfl, Nat.le_refl _, by omega⟩⟩, (fun a m c e => by cases e), nd_ok HOk.out HXo.out.1 HNMz.out _ _ _ (by omega) (by omega) (by have := HXo.out.1.bytes; omega) (fun t ht => absurd ht List.not_mem_nil)⟩⟩
              rw [HT3.out]
              exact nd_node HNM.out _ _ _ (by rw [if_neg (by rw [HK.out]; decide)]) (by rw [if_pos HK.out])
            clear hk n0 n1 n2 n3 n4 n5 nlt y0 y1 y2 y3
            go_wp2_with fail
            rw [← hWE]
            go_meet
            exact ⟨by show _ = _; rw [HT3.out], ⟨bj, by rw [HT3.out], HOE.out, by omega⟩, HRE, HND9⟩
        case rest =>
          obtain ⟨HE0, HBc, HRc, HNc⟩ := hcut
          obtain ⟨bk, hbk1, hbk2, hbk3⟩ := HBc.out
          obtain ⟨n, pa, pc, hn1, hn2, hn3, hn4⟩ := HNc.out
          have HRn2 : Hid (R = Wk.fin (nds (ns ++ [n])) (Wk.things (cutF fx mn mx bt) (Wk.plantDir (cutF fx mn mx bt) (its l) k) (Wk.kids Wk.It.nms (its (l.drop (j + 1))) p) (pl bk))) := by
            show _ = _
            rw [HRs.out, if_neg (fun q => q HE0.out), hbk1, ← hn1]
            simp [nds]
          have HOc : Hid (Ow base wc u3 bk ∧ bk.length + 300 * remI l (l.drop (j + 1)) k p ≤ BN + 300 * (dI l (k + 1) p).length) := ⟨hbk2, by have := HRem.out; omega⟩
          have HNr : Hid (∀ t ∈ ns ++ [n], t.name.size ≤ 1048576) := fun t ht => by
            rcases List.mem_append.1 ht with q | q
            · exact HNs.out.2.2 t q
            · rw [List.mem_singleton.1 q]; exact hn2
          have hyc : Rk base w wc := HRk.out.trans HRc.out
          have HYc : Hid (wc.heap[p0]? = some (.cells #[.int .i64 fx, .int .i64 mn, .int .i64 mx, .int .i64 bt] 25 (0, 0)) ∧ Tid wc (p0 + 1) ∧ Rk base w wc) := ⟨HRc.out.kt.cell HYj.out.1 (by decide), HYj.out.2.kt HRc.out.kt (by decide), hyc⟩
          obtain ⟨cc, o1, o2, o2l, o4⟩ := HRc.out.nodes HNs.out.1
          have HO2 : Hid ((∀ c ∈ cc, c.length = 7) ∧ cc.length = ns.length ∧ ∀ (j : Nat) t c, ns[j]? = some t → cc[j]? = some c → NdG wc t c) := ⟨o2, o2l, o4⟩
          have HG3 : Hid (NdG wc n (ndC n (.slice pa n.parts.length pc))) := hn4
          have hnl : ns.length ≤ 100 := by have := HNs.out.2.1; omega
          have HNl : Hid ((ns ++ [n]).length ≤ j + 1) := by show _ ≤ _; rw [List.length_append]; have := HNs.out.2.1; simp; omega
          have hwc : w.heap.size ≤ wc.heap.size := hyc.size
          have hge : ∀ g, u11.ownBlock = some g → w.heap.size ≤ g := fun g hg => own_ge o1 hg
          obtain ⟨an, cn, rfl⟩ := own_form o1
          obtain ⟨np, hnp⟩ : ∃ np, np = n.parts.length := ⟨_, rfl⟩
          rw [← hnp] at hn3 HG3
          obtain ⟨i1, hi', hz0', hz1', hz2'⟩ := info_of' info_nd
          clear hbk1 hbk2 hbk3 hn1 hn2 hn4 hnp o2 o2l o4 hyc HRs HRem HT HOj HRk HYj HRc HBc HNc HE0 HRkD HRwD HOD HND HID HRD HXsz y0 y1 y2 y3 y4 ylt n0 n1 n2 n3 n4 n5 n6 nlt
          obtain ⟨name, kind, mode, time, size, parts, link⟩ := n
          dsimp only [ndC] at *
          obtain ⟨e0, e1, e2, e3, e4, e5, e6, elt⟩ := sev_at hn3
          clear hn3
          go_wp2_with (at_builtin; refine wpList_append_own _ rfl (.tmp 109) (.tmp 111) 85 rfl w.heap.size 89 i1 (.agg #[.string ⟨#[]⟩, .int .i64 0, .int .i64 0, .int .i64 0, .int .i64 0, .slice none 0 0, .string ⟨#[]⟩]) 7 88 Tryz.underlying85 hi' hz0' hz1' hz2' rfl (by decide) _ _ _ rfl (o1.alloc _) ⟨wc.heap.size, 0, none⟩ 1 1 [.string name, .int .i64 kind, .int .i64 mode, .int .i64 time, .int .i64 size, .slice pa np pc, .string link] rfl rfl (seven_new wc _ _ _ _ _ _ _) ?b2 ?b3 ?b4 ?b5 ?_)
          case b2 => simp [Value.oneCell']
          case b3 => unfold maxLen; omega
          case b4 => omega
          case b5 => first | omega | (simp; omega)
          intro v6 w5 hown5 hgrow _
          have hk5 : Kt 89 wc w5 := ((Kt.refl _ wc).alloc _).trans (Kt.of_grown hgrow fun g hg => by
            obtain ⟨cur, q, _⟩ := own_block (o1.alloc _) hg
            exact ⟨cur, _, q⟩)
          have hb5 : Below w.heap.size wc w5 := ((Below.refl _ wc).alloc hwc _).grown hgrow (by simp; omega) fun g hg => hge g hg
          have HN5 : Hid (Oy 7 89 NdG w.heap.size w5 v6 (ns ++ [⟨name, kind, mode, time, size, parts, link⟩]) ∧ (ns ++ [(⟨name, kind, mode, time, size, parts, link⟩ : Nod)]).length ≤ j + 1 ∧ ∀ t ∈ ns ++ [(⟨name, kind, mode, time, size, parts, link⟩ : Nod)], t.name.size ≤ 1048576) :=
            ⟨Oy.more HO2.out.1 HO2.out.2.1 (fun j t c a b => NdG.kt hk5 (HO2.out.2.2 j t c a b)) hown5 rfl (NdG.kt hk5 HG3.out), HNl.out, HNr.out⟩
          have HO5 : Hid (Ow base w5 u3 bk ∧ bk.length + 300 * remI l (l.drop (j + 1)) k p ≤ BN + 300 * (dI l (k + 1) p).length) := ⟨HOc.out.1.kt hk5 (by decide), HOc.out.2⟩
          have HR5 : Hid (Rk base w w5) := HYc.out.2.2.then hb5 HO.out.1.base
          have HY5 : Hid (w5.heap[p0]? = some (.cells #[.int .i64 fx, .int .i64 mn, .int .i64 mx, .int .i64 bt] 25 (0, 0)) ∧ Tid w5 (p0 + 1)) := ⟨hk5.cell HYc.out.1 (by decide), HYc.out.2.1.kt hk5 (by decide)⟩
          clear hown5 hgrow hk5 hb5 o1 HO2 HG3 hge hwc e0 e1 e2 e3 e4 e5 e6 elt
          go_wp2_with fail
          go_roundw
          case measure => simp only [intOf]; omega
          case rel => exact ⟨j + 1, bk, _, by omega, by go_num, HRn2, HO5, HN5, HR5, HY5⟩
    · obtain rfl : j = N := by omega
      have hd0 : l.drop j = [] := by rw [HN.out]; exact List.drop_of_length_le (Nat.le_refl _)
      obtain ⟨TW, hTW⟩ : ∃ TW, TW = Td.write (nds ns) := ⟨_, rfl⟩
      have HRz : Hid (R = if TW.2 ≠ 0 then ([], [], TW.2) else Wk.into (pl bj) (2, TW.1)) := by
        show _ = _
        rw [HRn.out, hd0]
        show Wk.fin _ (Wk.things _ _ [] _) = _
        rw [Wk.fin_nil, hTW]
      have HBz : Hid (bj.length ≤ BN + 300 * (dI l (k + 1) p).length ∧ bj.length < 900000000) := by
        have h1 := HOj.out.2
        have h2 := HO.out.2
        have h3 := HBN.out
        exact ⟨by omega, by omega⟩
      have hwr := rwrite_any u11 ns wr (Nds.of_oy HNs.out.1) (by have := HNs.out.2.1; omega) (fun n hn => by have := HNs.out.2.2 n hn; omega) (HST.out wr HRk.out).2
      rw [← hTW] at hwr
      obtain ⟨TS, hTS⟩ : ∃ TS : ByteArray, TS = ⟨TW.1.toArray⟩ := ⟨_, rfl⟩
      have HTS : Hid (TS.data.toList = TW.1 ∧ TS.size ≤ 9223372036854775807) := ⟨by rw [hTS], by rw [hTS, hTW]; exact write_size ns⟩
      rw [← hTS] at hwr
      obtain ⟨an, cn, rfl⟩ := HNs.out.1.ry.slice
      obtain ⟨ub, uc3, rfl⟩ := HOj.out.1.form
      obtain ⟨NS, hNS⟩ : ∃ NS, NS = ns.length := ⟨_, rfl⟩
      rw [← hNS] at hwr ⊢
      obtain ⟨JN, hJN⟩ : ∃ JN, JN = bj.length := ⟨_, rfl⟩
      have HJN : Hid (JN = bj.length) := hJN
      rw [← hJN] at ⊢
      clear hd0 hTW hTS hNS hJN HRn
      go_wp2_with fail
      refine hwr.mono ?_
      rintro e w2 ⟨rfl, b2⟩
      have HO2 : Hid (Ow base w2 (.slice ub bj.length uc3) bj) := HOj.out.1.below b2
      have HR2 : Hid (Rk base w w2) := HRk.out.trans (Rk.of_below b2 HOj.out.1.base)
      have HT2 : Hid (Tid w2 (p0 + 1)) := HYj.out.2.kt (Kt.of_below (T := 37) b2) (by decide)
      clear hwr b2
      by_cases hE : TW.2 = 0
      case neg =>
        have hne : (TW.2 != 0) = true := by rw [bne_iff_ne]; exact hE
        have HE : Hid (TW.2 ≠ 0) := hE
        have HRe : Hid (R = ([], [], TW.2)) := by show _ = _; rw [HRz.out, if_pos hE]
        obtain ⟨d0, d1, d2, d3, d4, d5, d6, d7, hty⟩ := HT2.out
        obtain ⟨z0, z1, z2, z3, z4, z5, z6, z7⟩ := (I8.laid hty).cells
        obtain ⟨f0, f1, f2, f3, f4, f5, f6, f7⟩ := (I8.laid hty).free
        have HRX : Hid (Rk base w (set8 w2 (p0 + 1) 0 0 0 0 0 0 0 0)) := HR2.out.then (below_set8 (Below.refl _ w2) (by have := HP0.out; omega) _ _ _ _ _ _ _ _) HO.out.1.base
        generalize TW.2 = ER at *
        clear hE hty HRz
        go_wp2_with fail
        refine bodyPost_ret (v := .tuple #[.slice none 0 0, .agg #[B 0, B 0, B 0, B 0, B 0, B 0, B 0, B 0], .int .i64 ER]) ?_ rfl ⟨_, List.replicate 8 0, by rw [HRe.out]; rfl, rfl, HRX.out, ⟨_, _, _, rfl⟩, fun e => by rw [HRe.out] at e; exact absurd e HE.out⟩
        have hres : Tryz.f23.results = #[.tmp 8, .cell 9 29, .tmp 10] := by kernel_rfl
        simp only [results, hres]
        go_simp
        rfl
      case pos =>
        have HRz2 : Hid (R = Wk.into (pl bj) (⟨2, TS⟩ : Blb).p) := by
          show _ = _
          rw [HRz.out, if_neg (fun q => q hE), ← HTS.out.1]
          rfl
        have hinto := rinto_q base (.slice ub bj.length uc3) bj ⟨2, TS⟩ w2 HO2.out HBz.out.2 (fun b hb => by rw [List.mem_singleton.1 hb]; exact ⟨by show (Lit.int .i64 2).wf = true; decide, HTS.out.2⟩)
        have hinto' : Calls Tryz.prog 47 #[.slice ub bj.length uc3, .agg #[.int .i64 2, .string TS]] w2 fun e w' => ∃ v' id, e = .returned (.tuple #[v', idV id, .int .i64 (errI bj ⟨2, TS⟩)]) ∧ id.length = 8 ∧ Rk base w2 w' ∧ (∃ a n c, v' = .slice a n c) ∧ (errI bj ⟨2, TS⟩ = 0 → id = idI bj ⟨2, TS⟩ ∧ Ow base w' v' (more bj ⟨2, TS⟩)) := hinto
        have HER : Hid (R.2.2 = errI bj ⟨2, TS⟩) := by show _ = _; rw [HRz2.out]; rfl
        have HPo : Hid (errI bj ⟨2, TS⟩ = 0 → pl (more bj ⟨2, TS⟩) = R.1 ∧ idI bj ⟨2, TS⟩ = R.2.1) := fun e => by
          have hm := more_pl e
          rw [HRz2.out, hm]
          exact ⟨rfl, by unfold idI; rw [if_pos e]⟩
        have HML : Hid ((more bj ⟨2, TS⟩).length ≤ BN + 300 * (dI l (k + 1) p).length + 1) := by
          have h1 := more_length bj ⟨2, TS⟩
          have h2 := HBz.out.1
          show _ ≤ _
          omega
        rw [hE]
        rw [← HJN.out] at hinto'
        generalize errI bj ⟨2, TS⟩ = ER at *
        generalize more bj ⟨2, TS⟩ = MB at *
        generalize idI bj ⟨2, TS⟩ = IM at *
        clear hinto hE HRz HRz2
        go_wp2_with fail
        refine hinto'.mono ?_
        rintro e w3 ⟨bv', id, rfl, h8, f3, ⟨a', n', c', rfl⟩, hz⟩
        obtain ⟨b0, b1, b2, b3, b4, b5, b6, b7, rfl⟩ := eight id h8
        have eV : idV [b0, b1, b2, b3, b4, b5, b6, b7] = .agg #[.int .u8 (b0.toNat : Int), .int .u8 (b1.toNat : Int), .int .u8 (b2.toNat : Int), .int .u8 (b3.toNat : Int), .int .u8 (b4.toNat : Int), .int .u8 (b5.toNat : Int), .int .u8 (b6.toNat : Int), .int .u8 (b7.toNat : Int)] := rfl
        rw [eV]
        have HZ : Hid (ER = 0 → [b0, b1, b2, b3, b4, b5, b6, b7] = IM ∧ Ow base w3 (.slice a' n' c') MB) := hz
        obtain ⟨d0, d1, d2, d3, d4, d5, d6, d7, hty⟩ := HT2.out.kt f3.kt (by decide)
        have hI8 := I8.laid hty
        obtain ⟨z0, z1, z2, z3, z4, z5, z6, z7⟩ := hI8.cells
        obtain ⟨g0, g1, g2, g3, g4, g5, g6, g7⟩ := hI8.free
        obtain ⟨W9, hW9⟩ : ∃ W9, W9 = set8 w3 (p0 + 1) b0 b1 b2 b3 b4 b5 b6 b7 := ⟨_, rfl⟩
        have HI9 : Hid (I8 W9 (p0 + 1) [b0, b1, b2, b3, b4, b5, b6, b7]) := by rw [hW9]; exact hI8.store _ _ _ _ _ _ _ _
        have HR9 : Hid (Rk base w W9) := by rw [hW9]; exact (HR2.out.trans f3).then (below_set8 (Below.refl _ w3) (by have := HP0.out; omega) _ _ _ _ _ _ _ _) HO.out.1.base
        have HK9 : Hid (Kt 29 w3 W9) := by rw [hW9]; exact I8.kt8 hty _ _ _ _ _ _ _ _
        simp only [set8, B] at hW9
        clear hinto' h8 eV hz hty hI8 f3
        go_wp2_with fail
        rw [← hW9]
        obtain ⟨j0, j1, j2, j3, j4, j5, j6, j7⟩ := HI9.out.cells
        refine bodyPost_ret (v := .tuple #[.slice a' n' c', .agg #[.int .u8 (b0.toNat : Int), .int .u8 (b1.toNat : Int), .int .u8 (b2.toNat : Int), .int .u8 (b3.toNat : Int), .int .u8 (b4.toNat : Int), .int .u8 (b5.toNat : Int), .int .u8 (b6.toNat : Int), .int .u8 (b7.toNat : Int)], .int .i64 ER]) ?_ rfl ⟨_, [b0, b1, b2, b3, b4, b5, b6, b7], by rw [HER.out]; rfl, rfl, HR9.out, ⟨_, _, _, rfl⟩, fun e => ?_⟩
        · have hres : Tryz.f23.results = #[.tmp 8, .cell 9 29, .tmp 10] := by kernel_rfl
          simp only [results, hres]
          go_simp
        · rw [HER.out] at e
          obtain ⟨q1, q2⟩ := HZ.out e
          obtain ⟨q3, q4⟩ := HPo.out e
          refine ⟨q1.trans q4, MB, q3, q2.kt HK9.out (by decide), ?_⟩
          exact HML.out

theorem rp_all {base : Nat} {fx mn mx bt : Int} {v : Value} {l : List Im} (hg : Gd fx mn mx bt l) (h100 : l.length ≤ 100) (hz : ∀ x ∈ l, x.path.size ≤ 1048576) : ∀ k, 1 ≤ k → RpOk base fx mn mx bt v l k
  | 0, h => by omega
  | k + 1, _ => rp_step base hg h100 hz k fun h => rp_all hg h100 hz k h

end Go.Proofs.YtimdioacmojkeaaGreatDoor

namespace Go.Proofs.YtimdioacmojkeaaGreatDoor
open Go.RowKit
set_option maxRecDepth 4000

/-- texts as lists of bytes -/
def dl (l : List ByteArray) : List Nn.Name := l.map (·.data.toList)
/-- no slice is longer than its room -/
def Cp (v : Value) : Prop := ∀ a n c, v = .slice a n c → n ≤ c
theorem Cp.none : Cp (.slice none 0 0) := fun a n c h => by cases h; exact Nat.le_refl _
theorem Cp.of_own {base : Nat} {e : TypeId} {w : World} {v : Value} {n : Nat} {xs : List Value} (h : w.ownsRow base e 1 v n xs) : Cp v := fun a m c hv => by
  rcases h.2 with ⟨rfl, h0⟩ | ⟨g, cap, cur, rfl, _, _, hle, _⟩
  · cases hv; exact Nat.le_refl _
  · cases hv; exact hle
/-- no text is longer than a text may be -/
def Few (l : List ByteArray) : Prop := ∀ s ∈ l, s.size ≤ 9223372036854775807
theorem dl_length (l : List ByteArray) : (dl l).length = l.length := by simp [dl]
theorem errsF_drop (l : List ByteArray) (k : Nat) (hk : k < l.length) : Nn.errsF k (dl (l.drop k)) = if 8 ≤ k then 14 else if Nn.nm (l.getD k ByteArray.empty).data.toList ≠ 0 then Nn.nm (l.getD k ByteArray.empty).data.toList else Nn.errsF (k + 1) (dl (l.drop (k + 1))) := by
  rw [List.drop_eq_getElem_cons hk, List.getD_eq_getElem?_getD, List.getElem?_eq_getElem hk]
  rfl

set_option maxHeartbeats 1000000 in
theorem all_any (v : Value) (l : List ByteArray) (w : World) (h : Tx w v l) (hl : l.length ≤ 140737488351232) (hf : Few l) (hT : Tabs w) :
    Calls Tryz.prog 78 #[v] w fun e w' => e = .returned (.int .i64 (Nn.errs (dl l))) ∧ Below w.heap.size w w' := by
  obtain ⟨a, c, rfl⟩ := h.slice
  have HS : Hid (Nn.errsF 0 (dl (l.drop 0)) = Nn.errs (dl l)) := rfl
  have HX : Hid (Tx w (.slice a l.length c) l) := h
  have HF : Hid (Few l) := hf
  have HT : Hid (Tabs w) := hT
  clear h hf hT
  obtain ⟨N, hN⟩ : ∃ N, N = l.length := ⟨_, rfl⟩
  have HN : Hid (N = l.length) := hN
  rw [← hN] at HX hl ⊢
  clear hN
  generalize Nn.errs (dl l) = Z at *
  go_enter Tryz.func78, Tryz.ntmps78
  go_wp2_with fail
  go_loopw [8] (fun i wr => ∃ k : Nat, k ≤ N ∧ i = .int .i64 k ∧ Hid (Nn.errsF k (dl (l.drop k)) = Z) ∧ Hid (Below w.heap.size w wr)) (fun i _ => N - (intOf i).toNat)
  case atStart => exact ⟨0, by omega, rfl, HS, Below.refl _ _⟩
  case round =>
    clear HS
    obtain ⟨k, hk, rfl, HS, HB⟩ := hrel
    by_cases hlt : k < N
    · obtain ⟨bk, o, rfl, hbk, c0⟩ := (HX.out.below HB.out).get k (by rw [← HN.out]; omega)
      have hz : (l.getD k ByteArray.empty).size ≤ 9223372036854775807 := by
        have hk' : k < l.length := by rw [← HN.out]; exact hlt
        rw [List.getD_eq_getElem?_getD, List.getElem?_eq_getElem hk']
        exact HF.out _ (List.getElem_mem hk')
      have HD : Hid (Z = if 8 ≤ k then 14 else if Nn.nm (l.getD k ByteArray.empty).data.toList ≠ 0 then Nn.nm (l.getD k ByteArray.empty).data.toList else Nn.errsF (k + 1) (dl (l.drop (k + 1)))) := by
        show _ = _
        rw [← errsF_drop _ _ (by rw [← HN.out]; omega)]; exact HS.out.symm
      have hq := check_any (l.getD k ByteArray.empty) wr hz (HT.out.below HB.out)
      generalize l.getD k ByteArray.empty = s at *
      generalize Nn.nm s.data.toList = E at *
      clear HS
      by_cases h8 : 8 ≤ k
      · have HZ : Hid (Z = 14) := by have := HD.out; rwa [if_pos h8] at this
        clear hq
        go_wp2_with fail
        go_ret
        exact ⟨by rw [HZ.out]; rfl, HB.out⟩
      · by_cases h0 : E = 0
        · have HZ : Hid (Nn.errsF (k + 1) (dl (l.drop (k + 1))) = Z) := by have := HD.out; rw [if_neg h8, if_neg (by simpa using h0)] at this; exact this.symm
          rw [h0] at hq
          clear h0 HD
          go_wp2_with fail
          refine hq.mono ?_
          rintro e u ⟨rfl, bu⟩
          have HB2 : Hid (Below w.heap.size w u) := HB.out.trans (bu.mono HB.out.size)
          clear bu
          go_wp2_with fail
          go_roundw
          case rel => exact ⟨k + 1, by omega, by go_num, HZ, HB2⟩
          case measure => simp only [intOf]; omega
        · have HZ : Hid (Z = E) := by have := HD.out; rwa [if_neg h8, if_pos h0] at this
          have hqn : (E != 0) = true := by rw [bne_iff_ne]; exact h0
          clear HD
          go_wp2_with fail
          refine hq.mono ?_
          rintro e u ⟨rfl, bu⟩
          have HB2 : Hid (Below w.heap.size w u) := HB.out.trans (bu.mono HB.out.size)
          clear bu
          go_wp2_with fail
          go_ret
          exact ⟨by rw [HZ.out]; rfl, HB2.out⟩
    · have HZ : Hid (Z = 0) := by
        have := HS.out
        rw [List.drop_eq_nil_of_le (by rw [← HN.out]; omega)] at this
        exact this.symm
      obtain rfl : k = N := by omega
      go_wp2_with fail
      go_ret
      exact ⟨by rw [HZ.out]; rfl, HB.out⟩
end Go.Proofs.YtimdioacmojkeaaGreatDoor

namespace Go.Proofs.YtimdioacmojkeaaGreatDoor
namespace Nn
open Go.Lib

theorem ix_cases (c : UInt8) : ∀ l : List UInt8, (indexByte l c = -1 ∧ c ∉ l) ∨ ∃ i : Nat, indexByte l c = i ∧ i < l.length ∧ l = l.take i ++ c :: l.drop (i + 1) ∧ c ∉ l.take i
  | [] => .inl ⟨rfl, by simp⟩
  | b :: l => by
    by_cases h : b = c
    · subst h
      exact .inr ⟨0, by simp [indexByte], by simp, by simp, by simp⟩
    · have hb : (b == c) = false := beq_eq_false_iff_ne.2 h
      rcases ix_cases c l with ⟨e, hn⟩ | ⟨i, e, h1, h2, h3⟩
      · exact .inl ⟨by rw [indexByte, hb, e]; rfl, by simp [hn, Ne.symm h]⟩
      · refine .inr ⟨i + 1, ?_, by simp; omega, by rw [List.take_succ_cons, List.drop_succ_cons, List.cons_append, ← h2], by simp [h3, Ne.symm h]⟩
        rw [indexByte, hb, e, if_neg (by simp), if_neg (by rw [beq_iff_eq]; omega)]
        omega
theorem cut_none {l : List UInt8} (h : indexByte l 47 = -1) : cut l = [l] := by
  rcases ix_cases 47 l with ⟨_, hn⟩ | ⟨i, e, _⟩
  · exact cut_plain hn
  · rw [h] at e; omega
theorem cut_at {l : List UInt8} {i : Nat} (h : indexByte l 47 = i) : cut l = l.take i :: cut (l.drop (i + 1)) := by
  rcases ix_cases 47 l with ⟨e, _⟩ | ⟨j, e, _, h2, h3⟩
  · rw [h] at e; omega
  · obtain rfl : i = j := by rw [h] at e; omega
    conv => lhs; rw [h2]
    rw [cut_slash, cut_plain h3]
    rfl
/-- cut at most k times -/
def spn : Nat → List UInt8 → List Name
  | 0, l => [l]
  | k + 1, l => if indexByte l 47 = -1 then [l] else l.take (indexByte l 47).toNat :: spn k (l.drop ((indexByte l 47).toNat + 1))
theorem spn_none {k : Nat} {l : List UInt8} (h : indexByte l 47 = -1) : spn k l = [l] := by
  cases k with
  | zero => rfl
  | succ k => rw [spn, if_pos h]
theorem spn_at {k i : Nat} {l : List UInt8} (h : indexByte l 47 = i) : spn (k + 1) l = l.take i :: spn k (l.drop (i + 1)) := by
  rw [spn, if_neg (by omega), h]
  rfl
theorem spn_more : ∀ (k m : Nat) (l : List UInt8), l.length ≤ k → l.length ≤ m → spn k l = spn m l := by
  intro k
  induction k with
  | zero =>
    intro m l h1 h2
    have hl := List.length_eq_zero_iff.1 (Nat.le_zero.1 h1)
    subst hl
    rw [spn_none (by rfl), spn_none (by rfl)]
  | succ k ih =>
    intro m l h1 h2
    rcases ix_cases 47 l with ⟨e, _⟩ | ⟨i, e, hi, _⟩
    · rw [spn_none e, spn_none e]
    · obtain ⟨m, rfl⟩ : ∃ m', m = m' + 1 := ⟨m - 1, by omega⟩
      rw [spn_at e, spn_at e, ih m _ (by rw [List.length_drop]; omega) (by rw [List.length_drop]; omega)]
theorem errs_spn : ∀ (k i : Nat) (l : List UInt8), i + k = 8 → errsF i (spn k l) = errsF i (cut l) := by
  intro k
  induction k with
  | zero =>
    intro i l h
    obtain rfl : i = 8 := by omega
    have hc := cut_ne l
    cases hx : cut l with
    | nil => exact absurd hx hc
    | cons a b => rfl
  | succ k ih =>
    intro i l h
    rcases ix_cases 47 l with ⟨e, _⟩ | ⟨j, e, _⟩
    · rw [spn_none e, cut_none e]
    · rw [spn_at e, cut_at e, errsF, errsF, ih (i + 1) _ (by omega)]
theorem spn_cut : ∀ (k i : Nat) (l : List UInt8), i + k = 8 → errsF i (cut l) = 0 → spn k l = cut l := by
  intro k
  induction k with
  | zero =>
    intro i l h h0
    obtain rfl : i = 8 := by omega
    have hc := cut_ne l
    cases hx : cut l with
    | nil => exact absurd hx hc
    | cons a b => rw [hx, errsF] at h0; simp at h0
  | succ k ih =>
    intro i l h h0
    rcases ix_cases 47 l with ⟨e, _⟩ | ⟨j, e, _⟩
    · rw [spn_none e, cut_none e]
    · rw [cut_at e, errsF, if_neg (by omega)] at h0
      rw [spn_at e, cut_at e]
      split at h0
      · rename_i q; exact absurd h0 q
      · rw [ih (i + 1) _ (by omega) h0]
/-- the same of texts -/
def spB : Nat → ByteArray → List ByteArray
  | 0, s => [s]
  | k + 1, s => if indexByte s.data.toList 47 = -1 then [s] else s.extract 0 (indexByte s.data.toList 47).toNat :: spB k (s.extract ((indexByte s.data.toList 47).toNat + 1) s.size)
theorem spB_none {k : Nat} {s : ByteArray} (h : indexByte s.data.toList 47 = -1) : spB k s = [s] := by
  cases k with
  | zero => rfl
  | succ k => rw [spB, if_pos h]
theorem spB_at {k i : Nat} {s : ByteArray} (h : indexByte s.data.toList 47 = i) : spB (k + 1) s = s.extract 0 i :: spB k (s.extract (i + 1) s.size) := by
  rw [spB, if_neg (by omega), h]
  rfl
theorem ext_drop (s : ByteArray) (i : Nat) : (s.extract i s.size).data.toList = s.data.toList.drop i := by
  rw [ByteArray.data_extract, Array.toList_extract, List.extract_eq_take_drop]
  exact List.take_of_length_le (by rw [List.length_drop, ← Lib.size_eq]; omega)
theorem spB_spn : ∀ (k : Nat) (s : ByteArray), (spB k s).map (·.data.toList) = spn k s.data.toList := by
  intro k
  induction k with
  | zero => intro s; rfl
  | succ k ih =>
    intro s
    rcases ix_cases 47 s.data.toList with ⟨e, _⟩ | ⟨i, e, _⟩
    · rw [spB_none e, spn_none e]; rfl
    · rw [spB_at e, spn_at e, List.map_cons, ih, Lib.extract_from_zero, ext_drop]
theorem spB_len : ∀ (k : Nat) (s : ByteArray), 1 ≤ (spB k s).length ∧ (spB k s).length ≤ k + 1 := by
  intro k
  induction k with
  | zero => intro s; exact ⟨Nat.le_refl _, Nat.le_refl _⟩
  | succ k ih =>
    intro s
    rcases ix_cases 47 s.data.toList with ⟨e, _⟩ | ⟨i, e, _⟩
    · rw [spB_none e]; exact ⟨Nat.le_refl _, by simp⟩
    · rw [spB_at e]
      have := (ih (s.extract (i + 1) s.size)).2
      simp only [List.length_cons]
      omega
theorem spB_size : ∀ (k : Nat) (s t : ByteArray), t ∈ spB k s → t.size ≤ s.size := by
  intro k
  induction k with
  | zero => intro s t h; rw [List.mem_singleton.1 h]; exact Nat.le_refl _
  | succ k ih =>
    intro s t h
    rcases ix_cases 47 s.data.toList with ⟨e, _⟩ | ⟨i, e, _⟩
    · rw [spB_none e] at h; rw [List.mem_singleton.1 h]; exact Nat.le_refl _
    · rw [spB_at e] at h
      rcases List.mem_cons.1 h with rfl | h
      · rw [ByteArray.size_extract]; omega
      · have := ih _ _ h
        rw [ByteArray.size_extract] at this
        omega
end Nn
end Go.Proofs.YtimdioacmojkeaaGreatDoor

namespace Go.Proofs
open Go.Shelf
def Tryz.lays137_ren : Go.Shelf.Ren := ⟨fun | 137 => 81 | 217 => 106 | 266 => 135 | n => n, fun | 9 => 9 | 5 => 5 | 3 => 3 | n => n, fun | n => n⟩
theorem Tryz.lays137 : Go.Proofs.Lays.n137 Tryz.prog Tryz.lays137_ren := {
  mixed := by kernel_rfl
  f137 := Tryz.func81.trans (congrArg some (by kernel_rfl))
  f217 := Tryz.func106.trans (congrArg some (by kernel_rfl))
  f266 := Tryz.func135.trans (congrArg some (by kernel_rfl))
  t3 := Tryz.underlying3
  a3 := Tryz.isAgg3
  z3 := Tryz.sizeOf3
  v3 := Tryz.zeroValue3
  t5 := Tryz.underlying5
  a5 := Tryz.isAgg5
  z5 := Tryz.sizeOf5
  v5 := Tryz.zeroValue5
  t9 := Tryz.underlying9
  a9 := Tryz.isAgg9
  z9 := Tryz.sizeOf9
  v9 := Tryz.zeroValue9 }
open Go.RowKit in
theorem Tryz.strings_IndexByte (s : ByteArray) (c : Int) (w : World) :
    Calls Tryz.prog 81 #[.string s, .int .u8 c] w fun e w' => e = .returned (.int .i64 (Lib.indexByte s.data.toList c.toNat.toUInt8)) ∧ w' = w := Any.strings_IndexByte Tryz.lays137 s c w
def Tryz.lays219_ren : Go.Shelf.Ren := ⟨fun | 219 => 137 | 217 => 106 | 225 => 154 | 224 => 155 | 267 => 156 | 266 => 135 | 314 => 168 | n => n, fun | 9 => 9 | 3 => 3 | 4 => 4 | 5 => 5 | 46 => 111 | 146 => 137 | 51 => 136 | n => n, fun | 1 => 0 | n => n⟩
theorem Tryz.lays219 : Go.Proofs.Lays.n219 Tryz.prog Tryz.lays219_ren := {
  mixed := by kernel_rfl
  f217 := Tryz.func106.trans (congrArg some (by kernel_rfl))
  f219 := Tryz.func137.trans (congrArg some (by kernel_rfl))
  f224 := Tryz.func155.trans (congrArg some (by kernel_rfl))
  f225 := Tryz.func154.trans (congrArg some (by kernel_rfl))
  f266 := Tryz.func135.trans (congrArg some (by kernel_rfl))
  f267 := Tryz.func156.trans (congrArg some (by kernel_rfl))
  f314 := Tryz.func168.trans (congrArg some (by kernel_rfl))
  t3 := Tryz.underlying3
  a3 := Tryz.isAgg3
  z3 := Tryz.sizeOf3
  v3 := Tryz.zeroValue3
  t4 := Tryz.underlying4
  a4 := Tryz.isAgg4
  z4 := Tryz.sizeOf4
  v4 := Tryz.zeroValue4
  t5 := Tryz.underlying5
  a5 := Tryz.isAgg5
  z5 := Tryz.sizeOf5
  v5 := Tryz.zeroValue5
  t9 := Tryz.underlying9
  a9 := Tryz.isAgg9
  z9 := Tryz.sizeOf9
  v9 := Tryz.zeroValue9
  t46 := Tryz.underlying111
  a46 := Tryz.isAgg111
  z46 := Tryz.sizeOf111
  v46 := Tryz.zeroValue111
  t51 := Tryz.underlying136
  a51 := Tryz.isAgg136
  z51 := Tryz.sizeOf136
  v51 := Tryz.zeroValue136
  t146 := Tryz.underlying137
  a146 := Tryz.isAgg137
  z146 := Tryz.sizeOf137
  v146 := Tryz.zeroValue137
  g1 := by kernel_rfl }
open Go.RowKit Go.Lib in
theorem Tryz.stringslite_Index_one (s : ByteArray) (c : UInt8) (w : World) :
    Calls Tryz.prog 137 #[.string s, .string ⟨#[c]⟩] w fun e w' => e = .returned (.int .i64 (Lib.indexByte s.data.toList c)) ∧ w' = w := Any.stringslite_Index_one Tryz.lays219 s c w
def Tryz.lays143_ren : Go.Shelf.Ren := ⟨fun | 143 => 110 | 219 => 137 | 217 => 106 | 225 => 154 | 224 => 155 | 267 => 156 | 266 => 135 | 314 => 168 | n => n, fun | 9 => 9 | 3 => 3 | 4 => 4 | 5 => 5 | 46 => 111 | 146 => 137 | 51 => 136 | n => n, fun | 1 => 0 | n => n⟩
theorem Tryz.lays143 : Go.Proofs.Lays.n143 Tryz.prog Tryz.lays143_ren := {
  mixed := by kernel_rfl
  f143 := Tryz.func110.trans (congrArg some (by kernel_rfl))
  f217 := Tryz.func106.trans (congrArg some (by kernel_rfl))
  f219 := Tryz.func137.trans (congrArg some (by kernel_rfl))
  f224 := Tryz.func155.trans (congrArg some (by kernel_rfl))
  f225 := Tryz.func154.trans (congrArg some (by kernel_rfl))
  f266 := Tryz.func135.trans (congrArg some (by kernel_rfl))
  f267 := Tryz.func156.trans (congrArg some (by kernel_rfl))
  f314 := Tryz.func168.trans (congrArg some (by kernel_rfl))
  t3 := Tryz.underlying3
  a3 := Tryz.isAgg3
  z3 := Tryz.sizeOf3
  v3 := Tryz.zeroValue3
  t4 := Tryz.underlying4
  a4 := Tryz.isAgg4
  z4 := Tryz.sizeOf4
  v4 := Tryz.zeroValue4
  t5 := Tryz.underlying5
  a5 := Tryz.isAgg5
  z5 := Tryz.sizeOf5
  v5 := Tryz.zeroValue5
  t9 := Tryz.underlying9
  a9 := Tryz.isAgg9
  z9 := Tryz.sizeOf9
  v9 := Tryz.zeroValue9
  t46 := Tryz.underlying111
  a46 := Tryz.isAgg111
  z46 := Tryz.sizeOf111
  v46 := Tryz.zeroValue111
  t51 := Tryz.underlying136
  a51 := Tryz.isAgg136
  z51 := Tryz.sizeOf136
  v51 := Tryz.zeroValue136
  t146 := Tryz.underlying137
  a146 := Tryz.isAgg137
  z146 := Tryz.sizeOf137
  v146 := Tryz.zeroValue137
  g1 := by kernel_rfl }
open Go.RowKit Go.Lib in
theorem Tryz.strings_Index_one (s : ByteArray) (c : UInt8) (w : World) :
    Calls Tryz.prog 110 #[.string s, .string ⟨#[c]⟩] w fun e w' => e = .returned (.int .i64 (Lib.indexByte s.data.toList c)) ∧ w' = w := Any.strings_Index_one Tryz.lays143 s c w
end Go.Proofs

namespace Go.Proofs.YtimdioacmojkeaaGreatDoor
open Go.RowKit Go.Lib

set_option maxHeartbeats 1000000 in
theorem gen_any (s : ByteArray) (w : World) (hs : s.size ≤ 140737488355328) (n : Int) (hn : 1 ≤ n) (hn9 : n ≤ 9) (N : Nat) (hN : (N : Int) = min n ((s.size : Int) + 1)) :
    Calls Tryz.prog 102 #[.string s, .string ⟨#[47]⟩, .int .i64 0, .int .i64 n] w fun e w' =>
      e = .returned (.slice (some ⟨w.heap.size, 0, none⟩) (Nn.spB (N - 1) s).length N) ∧ w' = w.alloc (.cells (Lib.cellsOf (Nn.spB (N - 1) s) N) 9) := by
  have hN1 : 1 ≤ N := by omega
  have hNs : N ≤ s.size + 1 := by omega
  have hN9 : N ≤ 9 := by omega
  have hmk := run_make_row' (P := Tryz.prog) 62 9 (.string ByteArray.empty) 16 Tryz.underlying62 (by kernel_rfl) rfl .i64 .i64 N (by omega) (by omega)
  have hne : (n == 0) = false := beq_eq_false_iff_ne.2 (by omega)
  have hng : ¬ n < 0 := by omega
  have hNi : min n ((s.size : Int) + 1) = (N : Int) := hN.symm
  clear hN
  go_enter Tryz.func102, Tryz.ntmps102
  go_wp2_with fail
  clear hmk
  go_loopg [0, 10] (N - 1) (fun g s0 s10 wr => ∃ (done : List ByteArray) (rest : ByteArray), s0 = .string rest ∧ s10 = .int .i64 done.length ∧ done.length ≤ N - 1 ∧ g = N - 1 - done.length ∧ rest.size ≤ s.size ∧
      wr = w.alloc (.cells (Lib.cellsOf done N) 9) ∧ done ++ Nn.spB (N - 1 - done.length) rest = Nn.spB (N - 1) s)
  case atStart => exact ⟨[], s, rfl, rfl, Nat.zero_le _, rfl, Nat.le_refl _, by rw [Lib.cellsOf_nil], rfl⟩
  case round =>
    obtain ⟨done, rest, rfl, rfl, hd, rfl, hrs, rfl, hsp⟩ := hrel
    have hnext : (Lib.cellsOf done N)[done.length]? = some (.string ByteArray.empty) := Lib.cellsOf_next (by omega)
    have HS : Hid (done ++ Nn.spB (N - 1 - done.length) rest = Nn.spB (N - 1) s) := hsp
    clear hsp
    have HFin : Hid (Nn.spB (N - 1 - done.length) rest = [rest] → (Nn.spB (N - 1) s).length = done.length + 1 ∧ (Lib.cellsOf done N).setIfInBounds done.length (.string rest) = Lib.cellsOf (Nn.spB (N - 1) s) N) := fun h => by
      have e := HS.out
      rw [h] at e
      rw [← e]
      exact ⟨by simp, Lib.cellsOf_set (by omega) rest⟩
    by_cases hlt : done.length < N - 1
    · have hltz : ((done.length : Nat) : Int) < (N : Int) - 1 := by omega
      have hI := Tryz.strings_Index_one rest 47 (w.alloc (.cells (Lib.cellsOf done N) 9))
      rcases Nn.ix_cases 47 rest.data.toList with ⟨hix, _⟩ | ⟨i, hix, hroom, _⟩
      · rw [hix] at hI
        go_wp2_with fail
        refine hI.mono ?_
        rintro e w' ⟨rfl, hw⟩
        rw [hw]
        go_wp2_with fail
        go_ret
        obtain ⟨f1, f2⟩ := HFin.out (Nn.spB_none hix)
        rw [f1, ← f2]
        exact ⟨by first | rfl | (congr 2 <;> omega), rfl⟩
      · rw [← Lib.size_eq] at hroom
        have c0 : ¬ ((i : Int) < 0) := by omega
        have c2 : (↑i : Int) ≤ ↑rest.size := by omega
        have c4 : (↑i + 1 : Int) ≤ ↑rest.size := by omega
        have c3 : (0 : Int) ≤ ↑i + 1 := by omega
        have HX : Hid (indexByte rest.data.toList 47 = i) := hix
        rw [hix] at hI
        clear hix
        go_wp2_with fail
        refine hI.mono ?_
        rintro e w' ⟨rfl, hw⟩
        rw [hw]
        clear hw hI
        go_wp2_with fail
        go_roundg (N - 1 - (done.length + 1))
        case measure => omega
        case rel =>
          refine ⟨done ++ [rest.extract 0 i], rest.extract (i + 1) rest.size, rfl, by simp, by simp; omega, by simp, by rw [ByteArray.size_extract]; omega, by rw [← Lib.cellsOf_set (by omega)], ?_⟩
          rw [← HS.out, show N - 1 - done.length = (N - 1 - (done.length + 1)) + 1 by omega, Nn.spB_at HX.out]
          simp
    · have hltz : ¬ (((done.length : Nat) : Int) < (N : Int) - 1) := by omega
      go_wp2_with fail
      go_ret
      obtain ⟨f1, f2⟩ := HFin.out (by rw [show N - 1 - done.length = 0 by omega]; rfl)
      rw [f1, ← f2]
      exact ⟨by first | rfl | (congr 2 <;> omega), rfl⟩
/-- the parts lie in a row of one's own -/
theorem cells_own (w : World) (l : List ByteArray) (N : Nat) (h1 : l.length ≤ N) (hN : N ≤ 9) :
    (w.alloc (.cells (Lib.cellsOf l N) 9)).ownsRow w.heap.size 9 1 (.slice (some ⟨w.heap.size, 0, none⟩) l.length N) l.length (l.map Tv) := by
  refine ⟨by simp, .inr ⟨w.heap.size, N, _, rfl, Nat.le_refl _, heap_alloc_new w _, h1, by unfold maxLen; omega, by rw [Lib.cellsOf_size h1, Nat.mul_one], ?_⟩⟩
  unfold Lib.cellsOf
  rw [Nat.mul_one, List.take_left' (by simp)]
  rfl
theorem splitN_any (s : ByteArray) (w : World) (hs : s.size ≤ 140737488355328) :
    Calls Tryz.prog 77 #[.string s, .string ⟨#[47]⟩, .int .i64 9] w fun e w' => ∃ N, e = .returned (.slice (some ⟨w.heap.size, 0, none⟩) (Nn.spB 8 s).length N) ∧
      w'.ownsRow w.heap.size 9 1 (.slice (some ⟨w.heap.size, 0, none⟩) (Nn.spB 8 s).length N) (Nn.spB 8 s).length ((Nn.spB 8 s).map Tv) ∧ Below w.heap.size w w' := by
  obtain ⟨N, hN⟩ : ∃ N, N = min 9 (s.size + 1) := ⟨_, rfl⟩
  have hg := gen_any s w hs 9 (by omega) (by omega) N (by omega)
  have he : Nn.spB (N - 1) s = Nn.spB 8 s := by
    rcases Nat.lt_or_ge s.size 9 with h | h
    · have hm : (Nn.spB (N - 1) s).map (·.data.toList) = (Nn.spB 8 s).map (·.data.toList) := by
        rw [Nn.spB_spn, Nn.spB_spn, Nn.spn_more (N - 1) 8 _ (by rw [← Lib.size_eq]; omega) (by rw [← Lib.size_eq]; omega)]
      refine List.map_inj_right (f := fun x : ByteArray => x.data.toList) (fun x y h => ?_) |>.1 hm
      exact ByteArray.ext (Array.toList_inj.1 h)
    · rw [show N - 1 = 8 by omega]
  rw [he] at hg
  have hl := (Nn.spB_len (N - 1) s).2
  rw [he] at hl
  have HO : Hid ((w.alloc (.cells (Lib.cellsOf (Nn.spB 8 s) N) 9)).ownsRow w.heap.size 9 1 (.slice (some ⟨w.heap.size, 0, none⟩) (Nn.spB 8 s).length N) (Nn.spB 8 s).length ((Nn.spB 8 s).map Tv)) := cells_own w _ N (by omega) (by omega)
  generalize Nn.spB 8 s = l at *
  clear he hN
  go_enter Tryz.func77, Tryz.ntmps77
  go_wp2_with fail
  refine hg.mono ?_
  rintro e w' ⟨rfl, hw⟩
  rw [hw]
  clear hg hw
  go_wp2_with fail
  go_ret
  exact ⟨N, rfl, HO.out, (Below.refl _ w).alloc (Nat.le_refl _) _⟩
end Go.Proofs.YtimdioacmojkeaaGreatDoor

namespace Go.Proofs.YtimdioacmojkeaaGreatDoor
open Go.RowKit
set_option maxRecDepth 4000

theorem clone_any (s : ByteArray) (w : World) (hs : s.size ≤ 140737488355328) :
    Calls Tryz.prog 79 #[.string s] w fun e w' => e = .returned (.string s) ∧ Below w.heap.size w w' := by
  go_enter Tryz.func79, Tryz.ntmps79
  go_wp2_with (refine (Tryz.stringslite_Clone _ _ (by omega)).mono ?_; rintro e w' ⟨rfl, hb⟩)
  go_ret
  exact ⟨rfl, hb⟩

/-- what Split answers: the names, in memory that was not there, and the error -/
def SpOut (p : ByteArray) (w : World) (e : Ending) (w' : World) : Prop :=
  ∃ v l, e = .returned (.tuple #[v, .int .i64 (Nn.split p.data.toList).2]) ∧ dl l = (Nn.split p.data.toList).1 ∧ Tx w' v l ∧ Cp v ∧ Below w.heap.size w w'
theorem Tx.none (w : World) : Tx w (.slice none 0 0) [] := ⟨.inl ⟨⟨_, _, rfl⟩, rfl⟩⟩

theorem hasPre_slash (s : ByteArray) : Lib.hasPrefix s.data.toList [47] = decide (s.data.toList.head? = some 47) := by
  cases s.data.toList with
  | nil => rfl
  | cons b l =>
    show (([47] : List UInt8).isPrefixOf (b :: l)) = _
    simp only [List.isPrefixOf, Bool.and_true, List.head?_cons, Option.some.injEq]
    by_cases h : b = 47
    · subst h; rfl
    · rw [decide_eq_false h, beq_eq_false_iff_ne]; exact fun e => h e.symm

set_option maxHeartbeats 1000000 in
theorem split_root (w : World) :
    Calls Tryz.prog 49 #[.string ⟨#[47]⟩] w fun e w' => e = .returned (.tuple #[.slice none 0 0, .int .i64 0]) ∧ w' = w := by
  go_enter Tryz.func49, Tryz.ntmps49
  go_wp2_with fail
  go_ret2
  exact ⟨rfl, rfl⟩

set_option maxHeartbeats 1000000 in
theorem split_no (p : ByteArray) (w : World) (h1 : p.data.toList ≠ [47]) (h : p.data.toList.head? ≠ some 47) :
    Calls Tryz.prog 49 #[.string p] w fun e w' => e = .returned (.tuple #[.slice none 0 0, .int .i64 8]) ∧ w' = w := by
  have e1 : (p.toList == [47]) = false := data_ne h1
  have hq := Tryz.strings_HasPrefix p ⟨#[47]⟩ w
  rw [show (⟨#[47]⟩ : ByteArray).data.toList = [47] from rfl, hasPre_slash, decide_eq_false h] at hq
  clear h h1
  go_enter Tryz.func49, Tryz.ntmps49
  go_wp2_with fail
  refine hq.mono ?_
  rintro e u ⟨rfl, hu⟩
  obtain rfl := hu.symm
  go_wp2_with fail
  go_ret2
  exact ⟨rfl, rfl⟩

set_option maxHeartbeats 1000000 in
theorem split_bad (p : ByteArray) (w : World) (hp : p.size ≤ 140737488355328) (hT : Tabs w) (h1 : p.data.toList ≠ [47]) (h : p.data.toList.head? = some 47) (l : List ByteArray) (hl : l = Nn.spB 8 (p.extract 1 p.size)) (E : Int) (hE : E = Nn.errs (dl l)) (h0 : E ≠ 0) :
    Calls Tryz.prog 49 #[.string p] w fun e w' => e = .returned (.tuple #[.slice none 0 0, .int .i64 E]) ∧ Below w.heap.size w w' := by
  have e1 : (p.toList == [47]) = false := data_ne h1
  have hq := Tryz.strings_HasPrefix p ⟨#[47]⟩ w
  rw [show (⟨#[47]⟩ : ByteArray).data.toList = [47] from rfl, hasPre_slash, decide_eq_true h] at hq
  have h1p : 1 ≤ p.size := by
    rw [Lib.size_eq]
    cases hx : p.data.toList with
    | nil => rw [hx] at h; cases h
    | cons a b => simp
  have h1z : (1 : Int) ≤ (p.size : Int) := by omega
  have hz : (p.extract 1 p.size).size ≤ 140737488355328 := by rw [ByteArray.size_extract]; omega
  have hs := splitN_any (p.extract 1 p.size) w hz
  rw [← hl] at hs
  have HF : Hid (Few l) := fun t ht => by
    rw [hl] at ht
    have := Nn.spB_size _ _ _ ht
    omega
  have HL : Hid (l.length ≤ 9) := by
    show _ ≤ _
    rw [hl]; exact (Nn.spB_len 8 _).2
  have HT : Hid (Tabs w) := hT
  have HE : Hid (E = Nn.errs (dl l)) := hE
  have hqn : (E != 0) = true := by rw [bne_iff_ne]; exact h0
  clear h h1 hz hl hT hE
  go_enter Tryz.func49, Tryz.ntmps49
  go_wp2_with fail
  refine hq.mono ?_
  rintro e u ⟨rfl, hu⟩
  obtain rfl := hu.symm
  go_wp2_with fail
  refine hs.mono ?_
  rintro e w1 ⟨N, rfl, o1, b1⟩
  have ha := all_any _ l w1 (Tx.of_own o1) (by have := HL.out; omega) HF.out (HT.out.below b1)
  rw [← HE.out] at ha
  have HB : Hid (Below w.heap.size w w1) := b1
  clear o1 b1
  go_wp2_with fail
  refine ha.mono ?_
  rintro e w2 ⟨rfl, b2⟩
  have HB2 : Hid (Below w.heap.size w w2) := HB.out.trans (b2.mono HB.out.size)
  clear b2
  go_wp2_with fail
  go_ret2
  exact ⟨rfl, HB2.out⟩

set_option maxHeartbeats 1000000 in
theorem split_ok (p : ByteArray) (w : World) (hp : p.size ≤ 140737488355328) (hT : Tabs w) (h1 : p.data.toList ≠ [47]) (h : p.data.toList.head? = some 47) (l : List ByteArray) (hl : l = Nn.spB 8 (p.extract 1 p.size)) (hE : Nn.errs (dl l) = 0) :
    Calls Tryz.prog 49 #[.string p] w fun e w' => ∃ v, e = .returned (.tuple #[v, .int .i64 0]) ∧ w'.ownsRow w.heap.size 9 1 v l.length (l.map Tv) ∧ Below w.heap.size w w' := by
  have e1 : (p.toList == [47]) = false := data_ne h1
  have hq := Tryz.strings_HasPrefix p ⟨#[47]⟩ w
  rw [show (⟨#[47]⟩ : ByteArray).data.toList = [47] from rfl, hasPre_slash, decide_eq_true h] at hq
  have h1p : 1 ≤ p.size := by
    rw [Lib.size_eq]
    cases hx : p.data.toList with
    | nil => rw [hx] at h; cases h
    | cons a b => simp
  have h1z : (1 : Int) ≤ (p.size : Int) := by omega
  have hz : (p.extract 1 p.size).size ≤ 140737488355328 := by rw [ByteArray.size_extract]; omega
  have hs := splitN_any (p.extract 1 p.size) w hz
  rw [← hl] at hs
  have HF : Hid (∀ t ∈ l, t.size ≤ 140737488355328) := fun t ht => by
    rw [hl] at ht
    have := Nn.spB_size _ _ _ ht
    omega
  have HL : Hid (l.length ≤ 9) := by
    show _ ≤ _
    rw [hl]; exact (Nn.spB_len 8 _).2
  have HT : Hid (Tabs w) := hT
  have HE : Hid (Nn.errs (dl l) = 0) := hE
  clear h h1 hz hl hT hE
  go_enter Tryz.func49, Tryz.ntmps49
  go_wp2_with fail
  refine hq.mono ?_
  rintro e u ⟨rfl, hu⟩
  obtain rfl := hu.symm
  go_wp2_with fail
  refine hs.mono ?_
  rintro e w1 ⟨N, rfl, o1, b1⟩
  have ha := all_any _ l w1 (Tx.of_own o1) (by have := HL.out; omega) (fun t ht => Nat.le_trans (HF.out t ht) (by omega)) (HT.out.below b1)
  rw [HE.out] at ha
  have HB : Hid (Below w.heap.size w w1) := b1
  have HO : Hid (w1.ownsRow w.heap.size 9 1 (.slice (some ⟨w.heap.size, 0, none⟩) l.length N) l.length (l.map Tv)) := o1
  clear o1 b1 hs
  go_wp2_with fail
  refine ha.mono ?_
  rintro e w2 ⟨rfl, b2⟩
  have HB2 : Hid (Below w.heap.size w w2) := HB.out.trans (b2.mono HB.out.size)
  have HO2 : Hid (w2.ownsRow w.heap.size 9 1 (.slice (some ⟨w.heap.size, 0, none⟩) l.length N) l.length (l.map Tv)) := own_below HO.out b2
  obtain ⟨B, hB⟩ : ∃ B, B = w.heap.size := ⟨_, rfl⟩
  have HBe : Hid (B = w.heap.size) := hB
  rw [← hB] at HB2 HO2 ⊢
  clear b2 HB HO ha hB
  obtain ⟨M, hM⟩ : ∃ M, M = l.length := ⟨_, rfl⟩
  have HM : Hid (M = l.length) := hM
  rw [← hM] at HO2 ⊢
  have hM9 : M ≤ 9 := by rw [hM]; exact HL.out
  clear hM HL
  go_wp2_with fail
  go_loopw [23] (fun i wr => ∃ k : Nat, k ≤ M ∧ i = .int .i64 k ∧ Hid (wr.ownsRow B 9 1 (.slice (some ⟨B, 0, none⟩) M N) M (l.map Tv)) ∧ Hid (Below B w wr)) (fun i _ => M - (intOf i).toNat)
  case atStart => exact ⟨0, by omega, rfl, HO2, HB2⟩
  case round =>
    clear HO2 HB2
    obtain ⟨k, hk, rfl, HO, HB⟩ := hrel
    by_cases hlt : k < M
    · have hk' : k < l.length := by rw [← HM.out]; exact hlt
      have c0 : wr.cell? ⟨B, k, none⟩ = some (.string l[k]) := by
        rw [HO.out.cellAt k (by omega), List.getElem?_map, List.getElem?_eq_getElem hk']
        rfl
      have hz : l[k].size ≤ 140737488355328 := HF.out _ (List.getElem_mem hk')
      have HS : Hid (l.set k l[k] = l) := List.set_getElem_self hk'
      have hbk : B < wr.heap.size := World.block_lt_of_cell? wr _ c0
      generalize l[k] = t at *
      have hc := fun u => clone_any t u hz
      go_wp2_with fail
      refine (hc _).mono ?_
      rintro e w3 ⟨rfl, b3⟩
      have HO3 : Hid (w3.ownsRow B 9 1 (.slice (some ⟨B, 0, none⟩) M N) M (l.map Tv)) := own_below HO.out b3
      have HB3 : Hid (Below B w w3) := HB.out.trans (b3.mono (by omega))
      have c3 : w3.cell? ⟨B, k, none⟩ = some (.string t) := (b3.cell (p := ⟨B, k, none⟩) hbk).trans c0
      have f3 : w3.frozen? ⟨B, k, none⟩ = false := HO3.out.frozenAt k
      clear b3 HO HB c0
      go_wp2_with fail
      go_roundw
      case rel =>
        refine ⟨k + 1, by omega, by go_num, ?_, HB3.out.setCell (by simp) _⟩
        have := tx_store HO3.out k t
        rw [HS.out] at this
        exact this
      case measure => simp only [intOf]; omega
    · obtain rfl : k = M := by omega
      go_wp2_with fail
      go_ret2
      refine ⟨_, rfl, ?_, ?_⟩
      · rw [← HBe.out, ← HM.out]; exact HO.out
      · rw [← HBe.out]; exact HB.out

theorem split_any (p : ByteArray) (w : World) (hp : p.size ≤ 140737488355328) (hT : Tabs w) :
    Calls Tryz.prog 49 #[.string p] w (SpOut p w) := by
  by_cases h : p.data.toList.head? = some 47
  · by_cases h1 : p.data.toList = [47]
    · obtain rfl := of_data h1
      refine (split_root w).mono ?_
      rintro e w' ⟨rfl, rfl⟩
      exact ⟨_, [], rfl, rfl, Tx.none _, Cp.none, Below.refl _ _⟩
    · have hd : dl (Nn.spB 8 (p.extract 1 p.size)) = Nn.spn 8 p.data.toList.tail := by
        rw [dl, Nn.spB_spn, Nn.ext_drop, List.drop_one]
      have he : Nn.errs (dl (Nn.spB 8 (p.extract 1 p.size))) = Nn.errs (Nn.cut p.data.toList.tail) := by
        rw [hd]; exact Nn.errs_spn 8 0 _ rfl
      by_cases h0 : Nn.errs (Nn.cut p.data.toList.tail) = 0
      · have hs : Nn.split p.data.toList = (Nn.cut p.data.toList.tail, 0) := by
          unfold Nn.split
          rw [if_neg (by simpa using h), if_neg h1, if_neg (by simpa using h0)]
        refine (split_ok p w hp hT h1 h _ rfl (he.trans h0)).mono ?_
        rintro e w' ⟨v, rfl, o, b⟩
        refine ⟨v, _, by rw [hs], ?_, Tx.of_own o, Cp.of_own o, b⟩
        rw [hs, hd]
        exact Nn.spn_cut 8 0 _ rfl h0
      · have hs : Nn.split p.data.toList = ([], Nn.errs (Nn.cut p.data.toList.tail)) := by
          unfold Nn.split
          rw [if_neg (by simpa using h), if_neg h1, if_pos h0]
        refine (split_bad p w hp hT h1 h _ rfl _ he.symm h0).mono ?_
        rintro e w' ⟨rfl, b⟩
        exact ⟨_, [], by rw [hs], by rw [hs]; rfl, Tx.none _, Cp.none, b⟩
  · have hs : Nn.split p.data.toList = ([], 8) := by
      unfold Nn.split
      rw [if_pos h]
    refine (split_no p w (fun e => h (by rw [e]; rfl)) h).mono ?_
    rintro e w' ⟨rfl, rfl⟩
    exact ⟨_, [], by rw [hs], by rw [hs]; rfl, Tx.none _, Cp.none, Below.refl _ _⟩
end Go.Proofs.YtimdioacmojkeaaGreatDoor

namespace Go.Proofs.YtimdioacmojkeaaGreatDoor
open Go.RowKit
set_option maxRecDepth 4000

/-- two texts held against each other by their bytes -/
def cmpB (s t : ByteArray) : Int := if Op.bytesLess s.data.toList t.data.toList then -1 else if Op.bytesLess t.data.toList s.data.toList then 1 else 0
/-- two lists -/
def cmpL : List ByteArray → List ByteArray → Int
  | [], [] => 0
  | [], _ :: _ => -1
  | _ :: _, [] => 1
  | s :: l, t :: m => if cmpB s t ≠ 0 then cmpB s t else cmpL l m
theorem cmpL_ahead : ∀ (l m : List ByteArray), decide (cmpL l m < 0) = Nn.ahead (dl l) (dl m)
  | [], [] => rfl
  | [], _ :: _ => rfl
  | _ :: _, [] => rfl
  | s :: l, t :: m => by
    have ih := cmpL_ahead l m
    show _ = Nn.ahead (s.data.toList :: dl l) (t.data.toList :: dl m)
    rw [Nn.ahead, cmpL]
    unfold cmpB
    by_cases e : s.data.toList = t.data.toList
    · rw [if_pos e, e, Nn.bl_irr]
      simpa using ih
    · rw [if_neg e]
      have ht := Nn.bl_tri _ _ e
      cases h1 : Op.bytesLess s.data.toList t.data.toList
      · rw [h1] at ht
        have h2 : Op.bytesLess t.data.toList s.data.toList = true := by
          cases h : Op.bytesLess t.data.toList s.data.toList
          · rw [h] at ht; cases ht
          · rfl
        simp [h2]
      · simp

theorem isNaN_any (s : ByteArray) (w : World) :
    Calls Tryz.prog 134 #[.string s] w fun e w' => e = .returned (.bool false) ∧ w' = w := by
  go_enter Tryz.func134, Tryz.ntmps134
  go_wp2_with fail
  go_ret
  exact ⟨rfl, rfl⟩

theorem cmpS_any (s t : ByteArray) (w : World) :
    Calls Tryz.prog 105 #[.string s, .string t] w fun e w' => e = .returned (.int .i64 (cmpB s t)) ∧ w' = w := by
  have hx := fun u => isNaN_any s u
  have hy := fun u => isNaN_any t u
  by_cases he : s.data.toList = t.data.toList
  · have HE : Hid (cmpB s t = 0) := by
      show _ = _
      unfold cmpB; rw [he, Nn.bl_irr]; rfl
    have hl : Op.bytesLess s.toList t.toList = false := by rw [Lib.toList_data, Lib.toList_data, he, Nn.bl_irr]
    have hq : (s.toList == t.toList) = true := by rw [Lib.toList_data, Lib.toList_data, he, beq_self_eq_true]
    clear he
    go_enter Tryz.func105, Tryz.ntmps105
    go_wp2_with fail
    refine (hx _).mono ?_
    rintro e u ⟨rfl, hu⟩
    obtain rfl := hu.symm
    go_wp2_with fail
    refine (hy _).mono ?_
    rintro e u ⟨rfl, hu⟩
    obtain rfl := hu.symm
    go_wp2_with fail
    go_ret
    exact ⟨by rw [HE.out]; rfl, rfl⟩
  have ht := Nn.bl_tri _ _ he
  have hq : (s.toList == t.toList) = false := by rw [Lib.toList_data, Lib.toList_data, beq_eq_false_iff_ne]; exact he
  cases h1 : Op.bytesLess s.data.toList t.data.toList
  · have HE : Hid (cmpB s t = 1) := by
      show _ = _
      unfold cmpB
      rw [h1] at ht ⊢
      cases h : Op.bytesLess t.data.toList s.data.toList
      · rw [h] at ht; cases ht
      · rfl
    have hl : Op.bytesLess s.toList t.toList = false := by rw [Lib.toList_data, Lib.toList_data]; exact h1
    clear he ht h1
    go_enter Tryz.func105, Tryz.ntmps105
    go_wp2_with fail
    refine (hx _).mono ?_
    rintro e u ⟨rfl, hu⟩
    obtain rfl := hu.symm
    go_wp2_with fail
    refine (hy _).mono ?_
    rintro e u ⟨rfl, hu⟩
    obtain rfl := hu.symm
    go_wp2_with fail
    go_ret
    exact ⟨by rw [HE.out]; rfl, rfl⟩
  · have HE : Hid (cmpB s t = -1) := by
      show _ = _
      unfold cmpB
      rw [h1]
      rfl
    have hl : Op.bytesLess s.toList t.toList = true := by rw [Lib.toList_data, Lib.toList_data]; exact h1
    clear he ht h1
    go_enter Tryz.func105, Tryz.ntmps105
    go_wp2_with fail
    refine (hx _).mono ?_
    rintro e u ⟨rfl, hu⟩
    obtain rfl := hu.symm
    go_wp2_with fail
    refine (hy _).mono ?_
    rintro e u ⟨rfl, hu⟩
    obtain rfl := hu.symm
    go_wp2_with fail
    go_ret
    exact ⟨by rw [HE.out]; rfl, rfl⟩
theorem cmpL_drop (l m : List ByteArray) (k : Nat) (hk : k < l.length) (hm : k < m.length) : cmpL (l.drop k) (m.drop k) = if cmpB (l.getD k ByteArray.empty) (m.getD k ByteArray.empty) ≠ 0 then cmpB (l.getD k ByteArray.empty) (m.getD k ByteArray.empty) else cmpL (l.drop (k + 1)) (m.drop (k + 1)) := by
  rw [List.drop_eq_getElem_cons hk, List.drop_eq_getElem_cons hm, cmpL, List.getD_eq_getElem?_getD, List.getElem?_eq_getElem hk, List.getD_eq_getElem?_getD, List.getElem?_eq_getElem hm]
  rfl

set_option maxHeartbeats 1000000 in
theorem cmpL_any (v1 v2 : Value) (l m : List ByteArray) (w : World) (h1 : Tx w v1 l) (h2 : Tx w v2 m) (hl : l.length ≤ 140737488351232) (hm : m.length ≤ 140737488351232) :
    Calls Tryz.prog 80 #[v1, v2] w fun e w' => e = .returned (.int .i64 (cmpL l m)) ∧ w' = w := by
  obtain ⟨a1, c1, rfl⟩ := h1.slice
  obtain ⟨a2, c2, rfl⟩ := h2.slice
  have HS : Hid (cmpL (l.drop 0) (m.drop 0) = cmpL l m) := rfl
  have H1 : Hid (Tx w (.slice a1 l.length c1) l) := h1
  have H2 : Hid (Tx w (.slice a2 m.length c2) m) := h2
  obtain ⟨N, hN⟩ : ∃ N, N = l.length := ⟨_, rfl⟩
  obtain ⟨M, hM⟩ : ∃ M, M = m.length := ⟨_, rfl⟩
  have HN : Hid (N = l.length) := hN
  have HM : Hid (M = m.length) := hM
  rw [← hN] at H1 hl ⊢
  rw [← hM] at H2 hm ⊢
  clear h1 h2 hN hM
  generalize cmpL l m = Z at *
  go_enter Tryz.func80, Tryz.ntmps80
  go_wp2_with fail
  go_loop [11] (fun i => ∃ k : Nat, k ≤ N ∧ k ≤ M ∧ i = .int .i64 k ∧ Hid (cmpL (l.drop k) (m.drop k) = Z)) (fun i => N - (intOf i).toNat)
  case atStart => exact ⟨0, by omega, by omega, rfl, HS⟩
  case round =>
    clear HS
    obtain ⟨k, hk, hkm, rfl, HS⟩ := hrel
    by_cases hlt : k < N
    · obtain ⟨bk, o, rfl, hbk, c0⟩ := H1.out.get k (by rw [← HN.out]; omega)
      by_cases hlm : k < M
      · obtain ⟨bk', o', rfl, hbk', d0⟩ := H2.out.get k (by rw [← HM.out]; omega)
        have HD : Hid (Z = if cmpB (l.getD k ByteArray.empty) (m.getD k ByteArray.empty) ≠ 0 then cmpB (l.getD k ByteArray.empty) (m.getD k ByteArray.empty) else cmpL (l.drop (k + 1)) (m.drop (k + 1))) := by
          show _ = _
          rw [← cmpL_drop _ _ _ (by rw [← HN.out]; omega) (by rw [← HM.out]; omega)]; exact HS.out.symm
        generalize l.getD k ByteArray.empty = s at *
        generalize m.getD k ByteArray.empty = t at *
        have hq := cmpS_any s t w
        generalize cmpB s t = E at *
        clear HS
        by_cases h0 : E = 0
        · have HZ : Hid (cmpL (l.drop (k + 1)) (m.drop (k + 1)) = Z) := by have := HD.out; rw [if_neg (by simpa using h0)] at this; exact this.symm
          subst h0
          clear HD
          go_wp2_with fail
          refine hq.mono ?_
          rintro e u ⟨rfl, hu⟩
          obtain rfl := hu.symm
          go_wp2_with fail
          go_round
          case rel => exact ⟨k + 1, by omega, by omega, by go_num, HZ⟩
          case measure => simp only [intOf]; omega
        · have HZ : Hid (Z = E) := by have := HD.out; rwa [if_pos h0] at this
          have hqn : (E != 0) = true := by rw [bne_iff_ne]; exact h0
          clear HD h0
          go_wp2_with fail
          refine hq.mono ?_
          rintro e u ⟨rfl, hu⟩
          obtain rfl := hu.symm
          go_wp2_with fail
          go_ret
          exact ⟨by rw [HZ.out]; rfl, rfl⟩
      · obtain rfl : k = M := by omega
        have HZ : Hid (Z = 1) := by
          have := HS.out
          rw [(List.drop_eq_nil_of_le (by rw [← HM.out]; omega) : m.drop k = []), List.drop_eq_getElem_cons (by rw [← HN.out]; omega), cmpL] at this
          exact this.symm
        clear HS
        go_wp2_with fail
        go_ret
        exact ⟨by rw [HZ.out]; rfl, rfl⟩
    · obtain rfl : k = N := by omega
      by_cases hlm : k < M
      · have HZ : Hid (Z = -1) := by
          have := HS.out
          rw [(List.drop_eq_nil_of_le (by rw [← HN.out]; omega) : l.drop k = []), List.drop_eq_getElem_cons (by rw [← HM.out]; omega), cmpL] at this
          exact this.symm
        clear HS
        go_wp2_with fail
        go_ret
        exact ⟨by rw [HZ.out]; rfl, rfl⟩
      · have HZ : Hid (Z = 0) := by
          have := HS.out
          rw [(List.drop_eq_nil_of_le (by rw [← HN.out]; omega) : l.drop k = []), (List.drop_eq_nil_of_le (by rw [← HM.out]; omega) : m.drop k = []), cmpL] at this
          exact this.symm
        clear HS
        go_wp2_with fail
        go_ret
        exact ⟨by rw [HZ.out]; rfl, rfl⟩

theorem Nn.errsF_len' : ∀ (l : List Nn.Name) (i : Nat), Nn.errsF i l = 0 → i ≤ 8 → i + l.length ≤ 8
  | [], i, _, h => by simpa using h
  | s :: l, i, h, hi => by
    rw [Nn.errsF] at h
    split at h
    · simp at h
    split at h
    · rename_i q; exact absurd h q
    · have := Nn.errsF_len' l (i + 1) h (by omega)
      simp only [List.length_cons]
      omega
theorem Nn.errs_len' {l : List Nn.Name} (h : Nn.errs l = 0) : l.length ≤ 8 := by have := Nn.errsF_len' l 0 h (by omega); omega
/-- a list of names that is right is short -/
theorem split_len {p : List UInt8} (h : (Nn.split p).2 = 0) : (Nn.split p).1.length ≤ 8 := by
  have hj := Nn.split_join (p := p) (m := (Nn.split p).1) (Prod.ext rfl h)
  exact Nn.errs_len' (Nn.join_ok hj).1

set_option maxHeartbeats 1000000 in
theorem less_any (a b : ByteArray) (w : World) (ha : a.size ≤ 140737488351232) (hb : b.size ≤ 140737488351232) (hT : Tabs w) :
    Calls Tryz.prog 51 #[.string a, .string b] w fun e w' => e = .returned (.tuple #[.bool (Nn.less a.data.toList b.data.toList).1, .int .i64 (Nn.less a.data.toList b.data.toList).2]) ∧ Below w.heap.size w w' := by
  have h1 := split_any a w (by omega) hT
  have HT : Hid (Tabs w) := hT
  by_cases e1 : (Nn.split a.data.toList).2 = 0
  · by_cases e2 : (Nn.split b.data.toList).2 = 0
    · have HL : Hid (Nn.less a.data.toList b.data.toList = (Nn.ahead (Nn.split a.data.toList).1 (Nn.split b.data.toList).1, 0)) := by
        show _ = _
        unfold Nn.less
        rw [if_neg (by simpa using e1), if_neg (by simpa using e2)]
      have k1 := split_len e1
      have k2 := split_len e2
      go_enter Tryz.func51, Tryz.ntmps51
      go_wp2_with fail
      refine h1.mono ?_
      rintro e w1 ⟨v1, l1, rfl, hd1, x1, _, b1⟩
      have h2 := split_any b w1 (by omega) (HT.out.below b1)
      rw [← hd1] at HL k1
      rw [e1]
      clear h1 hd1 e1
      go_wp2_with fail
      refine h2.mono ?_
      rintro e w2 ⟨v2, l2, rfl, hd2, x2, _, b2⟩
      rw [← hd2] at HL k2
      rw [e2]
      rw [dl_length] at k1 k2
      have hq := cmpL_any v1 v2 l1 l2 w2 (x1.below b2) x2 (by omega) (by omega)
      have HB : Hid (Below w.heap.size w w2) := b1.trans (b2.mono b1.size)
      have HC : Hid (decide (cmpL l1 l2 < 0) = Nn.ahead (dl l1) (dl l2)) := cmpL_ahead l1 l2
      obtain ⟨a1, c1, rfl⟩ := x1.slice
      obtain ⟨a2, c2, rfl⟩ := x2.slice
      generalize cmpL l1 l2 = Z at *
      clear h2 hd2 e2 x1 x2 b1 b2
      go_wp2_with fail
      refine hq.mono ?_
      rintro e u ⟨rfl, hu⟩
      obtain rfl := hu.symm
      go_wp2_with fail
      go_ret2
      exact ⟨by rw [HL.out, ← HC.out]; rfl, HB.out⟩
    · have HL : Hid (Nn.less a.data.toList b.data.toList = (false, (Nn.split b.data.toList).2)) := by
        show _ = _
        unfold Nn.less
        rw [if_neg (by simpa using e1), if_pos e2]
      go_enter Tryz.func51, Tryz.ntmps51
      go_wp2_with fail
      refine h1.mono ?_
      rintro e w1 ⟨v1, l1, rfl, _, x1, _, b1⟩
      have h2 := split_any b w1 (by omega) (HT.out.below b1)
      have HB : Hid (Below w.heap.size w w1) := b1
      rw [e1]
      obtain ⟨a1, c1, rfl⟩ := x1.slice
      clear h1 e1 x1 b1
      go_wp2_with fail
      refine h2.mono ?_
      rintro e w2 ⟨v2, l2, rfl, _, x2, _, b2⟩
      have HB2 : Hid (Below w.heap.size w w2) := HB.out.trans (b2.mono HB.out.size)
      obtain ⟨a2, c2, rfl⟩ := x2.slice
      generalize (Nn.split b.data.toList).2 = E at *
      have hqn : (E != 0) = true := by rw [bne_iff_ne]; exact e2
      clear h2 e2 x2 b2
      go_wp2_with fail
      go_ret2
      exact ⟨by rw [HL.out]; rfl, HB2.out⟩
  · have HL : Hid (Nn.less a.data.toList b.data.toList = (false, (Nn.split a.data.toList).2)) := by
      show _ = _
      unfold Nn.less
      rw [if_pos e1]
    go_enter Tryz.func51, Tryz.ntmps51
    go_wp2_with fail
    refine h1.mono ?_
    rintro e w1 ⟨v1, l1, rfl, _, x1, _, b1⟩
    have HB : Hid (Below w.heap.size w w1) := b1
    obtain ⟨a1, c1, rfl⟩ := x1.slice
    generalize (Nn.split a.data.toList).2 = E at *
    have hqn : (E != 0) = true := by rw [bne_iff_ne]; exact e1
    clear h1 e1 x1 b1
    go_wp2_with fail
    go_ret2
    exact ⟨by rw [HL.out]; rfl, HB.out⟩
end Go.Proofs.YtimdioacmojkeaaGreatDoor

namespace Go.Proofs
open Go.Shelf
def Tryz.lays110_ren : Go.Shelf.Ren := ⟨fun | 110 => 26 | 109 => 52 | n => n, fun | 31 => 62 | 9 => 9 | 4 => 4 | 3 => 3 | 0 => 0 | n => n, fun | n => n⟩
theorem Tryz.lays110 : Go.Proofs.Lays.n110 Tryz.prog Tryz.lays110_ren := {
  mixed := by kernel_rfl
  f109 := Tryz.func52.trans (congrArg some (by kernel_rfl))
  f110 := Tryz.func26.trans (congrArg some (by kernel_rfl))
  t0 := Tryz.underlying0
  a0 := Tryz.isAgg0
  z0 := Tryz.sizeOf0
  v0 := Tryz.zeroValue0
  t3 := Tryz.underlying3
  a3 := Tryz.isAgg3
  z3 := Tryz.sizeOf3
  v3 := Tryz.zeroValue3
  t4 := Tryz.underlying4
  a4 := Tryz.isAgg4
  z4 := Tryz.sizeOf4
  v4 := Tryz.zeroValue4
  t9 := Tryz.underlying9
  a9 := Tryz.isAgg9
  z9 := Tryz.sizeOf9
  v9 := Tryz.zeroValue9
  t31 := Tryz.underlying62
  a31 := Tryz.isAgg62
  z31 := Tryz.sizeOf62
  v31 := Tryz.zeroValue62 }
open Go.Lib in
theorem Tryz.slices_Contains_string (b off n c : Nat) (zs : List ByteArray) (x : ByteArray) (w : World) (hz : n ≤ zs.length) (hbig : n ≤ 9223372036854775807) (hc : ∀ j, j < zs.length → w.cell? ⟨b, off + j, none⟩ = some (.string (zs.getD j ByteArray.empty))) :
    Calls Tryz.prog 26 #[.slice (some ⟨b, off, none⟩) n c, .string x] w fun e w' => e = .returned (.bool (Lib.containsS (zs.take n) x)) ∧ w' = w := Any.slices_Contains_string Tryz.lays110 b off n c zs x w hz hbig hc
open Go.Lib in
theorem Tryz.slices_Contains_string_empty (a : Option Addr) (c : Nat) (x : ByteArray) (w : World) :
    Calls Tryz.prog 26 #[.slice a 0 c, .string x] w fun e w' => e = .returned (.bool false) ∧ w' = w := Any.slices_Contains_string_empty Tryz.lays110 a c x w
end Go.Proofs

namespace Go.Proofs.YtimdioacmojkeaaGreatDoor
open Go.RowKit
set_option maxRecDepth 4000

def mbN (k : Int) : Int := if k = 1 then 4096 else if k = 3 then 1024 else 0

def knB (k : Int) : Bool := decide (k = 1 ∨ k = 2 ∨ k = 3)

theorem most_any (k : Int) (w : World) :
    Calls Tryz.prog 50 #[.int .i64 k] w fun e w' => e = .returned (.tuple #[.int .i64 (mbN k), .bool (knB k)]) ∧ w' = w := by
  by_cases h1 : k = 1
  · subst h1
    go_enter Tryz.func50, Tryz.ntmps50
    go_wp2_with fail
    go_ret2
    exact ⟨rfl, rfl⟩
  by_cases h2 : k = 2
  · subst h2
    go_enter Tryz.func50, Tryz.ntmps50
    go_wp2_with fail
    go_ret2
    exact ⟨rfl, rfl⟩
  by_cases h3 : k = 3
  · subst h3
    go_enter Tryz.func50, Tryz.ntmps50
    go_wp2_with fail
    go_ret2
    exact ⟨rfl, rfl⟩
  have HE : Hid (knB k = false ∧ mbN k = 0) := ⟨decide_eq_false fun h => by omega, by unfold mbN; rw [if_neg h1, if_neg h3]⟩
  have e1 : (k == 1) = false := beq_eq_false_iff_ne.2 h1
  have e2 : (k == 2) = false := beq_eq_false_iff_ne.2 h2
  have e3 : (k == 3) = false := beq_eq_false_iff_ne.2 h3
  go_enter Tryz.func50, Tryz.ntmps50
  go_wp2_with fail
  go_ret2
  exact ⟨by rw [HE.out.1, HE.out.2]; rfl, rfl⟩

theorem mb_iff {kind : Int} (hk : kind = 1 ∨ kind = 2 ∨ kind = 3) (l : List UInt8) : ((l.length : Int) > mbN kind) ↔ ((kind = 1 ∧ 4096 < l.length) ∨ (kind = 2 ∧ l ≠ []) ∨ (kind = 3 ∧ 1024 < l.length)) := by
  have h0 : l ≠ [] ↔ 0 < l.length := List.length_pos_iff.symm
  rw [h0]
  rcases hk with rfl | rfl | rfl
  · show (l.length : Int) > 4096 ↔ _
    omega
  · show (l.length : Int) > 0 ↔ _
    omega
  · show (l.length : Int) > 1024 ↔ _
    omega

theorem behind_any (a b : ByteArray) (w : World) (ha : a.size ≤ 140737488351232) (hb : b.size ≤ 140737488351232) (hT : Tabs w) :
    Calls Tryz.prog 25 #[.string a, .string b] w fun e w' => e = .returned (.bool (Nn.less b.data.toList a.data.toList).1) ∧ Below w.heap.size w w' := by
  have hl := less_any b a w hb ha hT
  generalize (Nn.less b.data.toList a.data.toList).1 = L at *
  generalize (Nn.less b.data.toList a.data.toList).2 = E at *
  clear hT
  go_enter Tryz.func25, Tryz.ntmps25
  go_wp2_with fail
  refine hl.mono ?_
  rintro e w1 ⟨rfl, b1⟩
  have HB : Hid (Below w.heap.size w w1) := b1
  clear hl b1
  go_wp2_with fail
  go_ret
  exact ⟨rfl, HB.out⟩

set_option maxHeartbeats 2000000 in
theorem citem_any (x : Im) (w : World) (hx : x.Ok) (hT : Tabs w) :
    Calls Tryz.prog 24 #[imV x] w fun e w' => e = .returned (.int .i64 (Wk.iErr x.it)) ∧ Below w.heap.size w w' := by
  obtain ⟨path, kind, mode, time, bytes⟩ := x
  obtain ⟨W1, hW1⟩ : ∃ W1, W1 = w.alloc (.cells #[.string path, .int .i64 kind, .int .i64 mode, .int .i64 time, .string bytes] 46) := ⟨_, rfl⟩
  have hB1 : Below w.heap.size w W1 := by rw [hW1]; exact (Below.refl _ w).alloc (Nat.le_refl _) _
  have HB1 : Hid (Below w.heap.size w W1) := hB1
  have HM : Hid (W1.heap[w.heap.size]? = some (.cells #[.string path, .int .i64 kind, .int .i64 mode, .int .i64 time, .string bytes] 46 (0, 0))) := by rw [hW1]; exact heap_alloc_new w _
  have hsp := split_any path W1 (by have := hx.path; have : path.size ≤ 140737488351232 := this; omega) (hT.below hB1)
  have hmost := fun W => most_any kind W
  obtain ⟨E, hE⟩ : ∃ E, E = Wk.iErr (Im.it ⟨path, kind, mode, time, bytes⟩) := ⟨_, rfl⟩
  rw [← hE]
  have hbz : bytes.data.toList.length = bytes.size := (Lib.size_eq bytes).symm
  have HE : Hid (E = if (Nn.split path.data.toList).2 ≠ 0 then (Nn.split path.data.toList).2 else if (Nn.split path.data.toList).1 = [] then 8 else if kind ≠ 1 ∧ kind ≠ 2 ∧ kind ≠ 3 then 5 else if mode < 0 ∨ 511 < mode then 1
      else if (kind = 1 ∧ 4096 < bytes.data.toList.length) ∨ (kind = 2 ∧ bytes.data.toList ≠ []) ∨ (kind = 3 ∧ 1024 < bytes.data.toList.length) then 2 else if kind = 3 ∧ bytes.data.toList = [] then 4 else 0) := hE
  rw [hbz] at HE
  have HMb : Hid (∀ n : Int, n = mbN kind → knB kind = true → (((bytes.size : Int) > n) ↔ ((kind = 1 ∧ 4096 < bytes.size) ∨ (kind = 2 ∧ bytes.data.toList ≠ []) ∨ (kind = 3 ∧ 1024 < bytes.size)))) := by
    intro n hn hk
    have hk' : kind = 1 ∨ kind = 2 ∨ kind = 3 := of_decide_eq_true hk
    subst hn
    have := mb_iff hk' bytes.data.toList
    rw [hbz] at this
    exact this
  have HKn : Hid (knB kind = false ↔ (kind ≠ 1 ∧ kind ≠ 2 ∧ kind ≠ 3)) := by
    show _ ↔ _
    unfold knB
    rw [decide_eq_false_iff_not]
    omega
  unfold SpOut at hsp
  rcases hS : Nn.split path.data.toList with ⟨sl, se⟩
  rw [hS] at hsp HE
  dsimp only at hsp HE
  have hbz2 : bytes.size ≤ 140737488351232 := hx.bytes
  obtain ⟨m0, m1, m2, m3, m4, mlt⟩ := five_at HM.out
  generalize hmb : mbN kind = MB at *
  generalize hkn : knB kind = KN at *
  clear hE hbz hx hT hB1 hS
  go_enter Tryz.func24, Tryz.ntmps24
  go_wp2_with fail
  rw [← hW1]
  clear hW1
  refine hsp.mono ?_
  rintro e w2 ⟨v, l, rfl, hdl, htx, _, b2⟩
  have HB2 : Hid (Below w.heap.size w w2) := HB1.out.trans (b2.mono HB1.out.size)
  obtain ⟨n0, n1, n2, n3, n4, nlt⟩ := five_at ((b2.block _ (Array.getElem?_eq_some_iff.1 HM.out).1).trans HM.out)
  obtain ⟨a, c, rfl⟩ := htx.slice
  have hl0 : l.length = 0 ↔ sl = [] := by
    rw [← dl_length, hdl]
    exact List.length_eq_zero_iff
  have HL0 : Hid (l.length = 0 ↔ sl = []) := hl0
  generalize l.length = LN at *
  clear hsp b2 htx hdl m0 m1 m2 m3 m4 mlt hl0
  by_cases c1 : se = 0
  case neg =>
    have hne : (se != 0) = true := by rw [bne_iff_ne]; exact c1
    have HEe : Hid (E = se) := by show _ = _; rw [HE.out, if_pos c1]
    clear HE c1
    go_wp2_with fail
    go_ret
    exact ⟨by rw [HEe.out]; rfl, HB2.out⟩
  have hne : (se != 0) = false := by rw [c1]; rfl
  by_cases c2 : LN = 0
  · have HEe : Hid (E = 8) := by show _ = _; rw [HE.out, if_neg (fun q => q c1), if_pos (HL0.out.1 c2)]
    subst c2
    clear HE c1
    go_wp2_with fail
    go_ret
    exact ⟨by rw [HEe.out]; rfl, HB2.out⟩
  have c2' : ¬ sl = [] := fun q => c2 (HL0.out.2 q)
  have hl1 : (((LN : Nat) : Int) == 0) = false := by rw [beq_eq_false_iff_ne]; omega
  cases KN with
  | false =>
    have HEe : Hid (E = 5) := by show _ = _; rw [HE.out, if_neg (fun q => q c1), if_neg c2', if_pos (HKn.out.1 rfl)]
    clear HE c1 c2 c2' HMb HKn
    go_wp2_with fail
    refine (hmost _).mono ?_
    rintro e u ⟨rfl, hu⟩
    obtain rfl := hu.symm
    go_wp2_with fail
    go_ret
    exact ⟨by rw [HEe.out]; rfl, HB2.out⟩
  | true =>
    have c3 : ¬ (kind ≠ 1 ∧ kind ≠ 2 ∧ kind ≠ 3) := fun q => by have := HKn.out.2 q; cases this
    have hMb := HMb.out MB rfl rfl
    have HE2 : Hid (E = if mode < 0 ∨ 511 < mode then 1 else if (bytes.size : Int) > MB then 2 else if kind = 3 ∧ bytes.data.toList = [] then 4 else 0) := by
      show _ = _
      rw [HE.out, if_neg (fun q => q c1), if_neg c2', if_neg c3]
      by_cases q : (bytes.size : Int) > MB
      · rw [if_pos q, if_pos (hMb.1 q)]
      · rw [if_neg q, if_neg (fun z => q (hMb.2 z))]
    clear HE c1 c2 c2' HMb HKn c3 hMb hkn
    go_wp2_with fail
    refine (hmost _).mono ?_
    rintro e u ⟨rfl, hu⟩
    obtain rfl := hu.symm
    clear hmost hu hmb
    by_cases q1 : mode < 0
    · have HEe : Hid (E = 1) := by show _ = _; rw [HE2.out, if_pos (.inl q1)]
      clear HE2
      go_wp2_with fail
      go_ret
      exact ⟨by rw [HEe.out]; rfl, HB2.out⟩
    by_cases q2 : 511 < mode
    · have HEe : Hid (E = 1) := by show _ = _; rw [HE2.out, if_pos (.inr q2)]
      clear HE2
      go_wp2_with fail
      go_ret
      exact ⟨by rw [HEe.out]; rfl, HB2.out⟩
    by_cases q3 : (bytes.size : Int) > MB
    · have HEe : Hid (E = 2) := by show _ = _; rw [HE2.out, if_neg (by omega), if_pos q3]
      clear HE2
      go_wp2_with fail
      go_ret
      exact ⟨by rw [HEe.out]; rfl, HB2.out⟩
    by_cases q4 : kind = 3
    · by_cases q5 : bytes = ⟨#[]⟩
      · have HEe : Hid (E = 4) := by show _ = _; rw [HE2.out, if_neg (by omega), if_neg q3, if_pos ⟨q4, by rw [q5]⟩]
        subst q4
        subst q5
        clear HE2
        go_wp2_with fail
        go_ret
        exact ⟨by rw [HEe.out]; rfl, HB2.out⟩
      · have HEe : Hid (E = 0) := by show _ = _; rw [HE2.out, if_neg (by omega), if_neg q3, if_neg (fun z => q5 (of_data z.2))]
        have hne5 : bytes.toList.isEmpty = false := by
          rw [Lib.toList_data]
          cases h : bytes.data.toList with
          | nil => exact absurd (of_data h) q5
          | cons b r => rfl
        subst q4
        clear HE2
        go_wp2_with fail
        go_ret
        exact ⟨by rw [HEe.out]; rfl, HB2.out⟩
    · have HEe : Hid (E = 0) := by show _ = _; rw [HE2.out, if_neg (by omega), if_neg q3, if_neg (fun z => q4 z.1)]
      have hk3 : (kind == 3) = false := beq_eq_false_iff_ne.2 q4
      clear HE2
      go_wp2_with fail
      go_ret
      exact ⟨by rw [HEe.out]; rfl, HB2.out⟩

end Go.Proofs.YtimdioacmojkeaaGreatDoor

namespace Go.Proofs
end Go.Proofs

namespace Go.Proofs.YtimdioacmojkeaaGreatDoor
open Go.RowKit

namespace Nn
theorem errsF_len : ∀ (l : List Name) (i : Nat), errsF i l = 0 → i ≤ 8 → i + l.length ≤ 8
  | [], i, _, h => by simpa using h
  | s :: l, i, h, hi => by
    rw [errsF] at h
    split at h
    · simp at h
    split at h
    · rename_i q; exact absurd h q
    · have := errsF_len l (i + 1) h (by omega)
      simp only [List.length_cons]
      omega
theorem errs_len {l : List Name} (h : errs l = 0) : l.length ≤ 8 := by have := errsF_len l 0 h (by omega); omega
theorem tails_len : ∀ (l : List Name), (∀ s ∈ l, s.length ≤ 96) → (tails l).length ≤ 97 * l.length
  | [], _ => by simp [tails]
  | s :: l, h => by
    have h1 := h s (List.mem_cons_self ..)
    have h2 := tails_len l fun t ht => h t (List.mem_cons_of_mem _ ht)
    unfold tails at h2 ⊢
    simp only [List.flatMap_cons, List.length_append, List.length_cons]
    omega
theorem tails_few {l : List Name} (h : errs l = 0) : (tails l).length ≤ 776 := by
  have h1 := tails_len l fun s hs => nm_long (errs_ok h s hs)
  have h2 := errs_len h
  omega
theorem join_tails : ∀ (l : List Name), l ≠ [] → 47 :: Lib.join l [47] = tails l
  | [], h => absurd rfl h
  | [s], _ => by simp [Lib.join, tails, List.intercalate]
  | s :: t :: l, _ => by
    have ih := join_tails (t :: l) (by simp)
    unfold Lib.join at ih ⊢
    simp only [List.intercalate, List.intersperse_cons_cons, List.flatten_cons] at ih ⊢
    rw [show tails (s :: t :: l) = 47 :: s ++ tails (t :: l) from by simp [tails], ← ih]
    simp
end Nn

/-- a text of bytes -/
def St (l : List UInt8) : Value := .string ⟨l.toArray⟩
/-- what Join answers -/
def JnOut (L : List Nn.Name) (w : World) (e : Ending) (w' : World) : Prop :=
  e = .returned (.tuple #[St (Nn.join L).1, .int .i64 (Nn.join L).2]) ∧ Below w.heap.size w w'

theorem cat_slash (x : List UInt8) : (⟨#[47]⟩ : ByteArray) ++ ⟨x.toArray⟩ = ⟨(47 :: x).toArray⟩ := by
  apply ByteArray.ext
  apply Array.toList_inj.1
  simp
end Go.Proofs.YtimdioacmojkeaaGreatDoor

namespace Go.Proofs.YtimdioacmojkeaaGreatDoor
open Go.RowKit

/-- a text, what stands ahead of its first slash, what stands behind, and whether there is one -/
def CutR (s t r : ByteArray) (m : Bool) : Prop :=
  (m = true ∧ Nn.cut s.data.toList = t.data.toList :: Nn.cut r.data.toList ∧ t.size + r.size + 1 = s.size) ∨ (m = false ∧ Nn.cut s.data.toList = [t.data.toList] ∧ t.size = s.size)
def CutOut (s : ByteArray) (w : World) (e : Ending) (w' : World) : Prop := ∃ t r m, e = .returned (.tuple #[.string t, .string r, .bool m]) ∧ CutR s t r m ∧ Below w.heap.size w w'

/-- a row without its last text -/
theorem own_last {base : Nat} {w : World} {g n cap : Nat} {l : List ByteArray} (h : w.ownsRow base 9 1 (.slice (some ⟨g, 0, none⟩) n cap) n (l.map Tv)) (hn : 1 ≤ n) :
    w.ownsRow base 9 1 (.slice (some ⟨g, 0, none⟩) (n - 1) cap) (n - 1) (l.dropLast.map Tv) := by
  have hl : l.length = n := by have := h.1; simpa using this
  rcases h.2 with ⟨hv, _⟩ | ⟨g', cap', cur, hv, hb, hg, hle, hm, hs, htk⟩
  · cases hv
  · cases hv
    refine ⟨by simp; omega, .inr ⟨g, cap, cur, rfl, hb, hg, by omega, hm, hs, ?_⟩⟩
    rw [List.map_dropLast, ← htk, List.dropLast_eq_take, List.take_take, List.length_take]
    congr 1
    have : cur.toList.length = cap * 1 := by simpa using hs
    omega
/-- one text more behind a row of one's own -/
theorem own_push {base : Nat} {w wr w1 : World} {v v1 : Value} {l : List ByteArray} {t : ByteArray} {o : Obj} (hown : wr.ownsRow base 9 1 v l.length (l.map Tv))
    (hown1 : w1.ownsRow base 9 1 v1 (l.length + 1) (l.map Tv ++ [.string t])) (hg : (wr.alloc o).grownBy w1 v.ownBlock) (hbel : Below base w wr) (hbase : base ≤ w.heap.size) :
    w1.ownsRow base 9 1 v1 (l ++ [t]).length ((l ++ [t]).map Tv) ∧ Below base w w1 := by
  refine ⟨by simpa [Tv] using hown1, ?_⟩
  have hs := hbel.size
  refine (hbel.alloc (by omega) o).grown hg (by simp; omega) ?_
  intro k hk
  exact (hown.lt k hk).1
theorem info_tx : (Tryz.prog.info? 9).map (fun i => (i.zero, i.size, i.bytes)) = some (some (.string ⟨#[]⟩), 1, 16) := by kernel_rfl
theorem info_of {P : Program} {e : TypeId} {z : Option Value} {s b : Nat} (h : (P.info? e).map (fun i => (i.zero, i.size, i.bytes)) = some (z, s, b)) : ∃ i, P.info? e = some i ∧ i.zero = z ∧ i.size = s ∧ i.bytes = b := by
  cases hi : P.info? e with
  | none => rw [hi] at h; cases h
  | some i =>
    rw [hi] at h
    simp only [Option.map_some, Option.some.injEq, Prod.mk.injEq] at h
    exact ⟨i, rfl, h.1, h.2.1, h.2.2⟩
/-- how Clean ends -/
def Nn.clEnd : Option (List Nn.Name) → List UInt8 × Int
  | none => ([], 8)
  | some l => Nn.join l
/-- what Clean answers -/
def ClOut (p : List UInt8) (w : World) (e : Ending) (w' : World) : Prop :=
  e = .returned (.tuple #[St (Nn.clean p).1, .int .i64 (Nn.clean p).2]) ∧ Below w.heap.size w w'
theorem Nn.stk_skip {st : List Nn.Name} {s : Nn.Name} {r : List Nn.Name} (h : s = [] ∨ s = [46]) : Nn.stk st (s :: r) = Nn.stk st r := by
  rw [Nn.stk, if_neg (by rcases h with rfl | rfl <;> simp), if_pos h]
theorem Nn.stk_up {st : List Nn.Name} {r : List Nn.Name} : Nn.stk st ([46, 46] :: r) = if st = [] then none else Nn.stk st.dropLast r := by
  rw [Nn.stk, if_pos rfl]
theorem Nn.stk_keep {st : List Nn.Name} {s : Nn.Name} {r : List Nn.Name} (h0 : s ≠ []) (h1 : s ≠ [46]) (h2 : s ≠ [46, 46]) : Nn.stk st (s :: r) = Nn.stk (st ++ [s]) r := by
  rw [Nn.stk, if_neg h2, if_neg (by simp only [not_or]; exact ⟨h0, h1⟩)]
/-- one part of the text, and what is left -/
theorem CutR.next {s t r : ByteArray} {m : Bool} {st : List Nn.Name} {Z : Option (List Nn.Name)} (h : CutR s t r m) (hz : Nn.stk st (Nn.cut s.data.toList) = Z) : Nn.stk st (t.data.toList :: (if m then Nn.cut r.data.toList else [])) = Z := by
  rcases h with ⟨rfl, h, _⟩ | ⟨rfl, h, _⟩
  · rw [h] at hz; exact hz
  · rw [h] at hz; exact hz
theorem CutR.less {s t r : ByteArray} {m : Bool} (h : CutR s t r m) : (if m then r.size + 1 else 0) < s.size + 1 ∧ t.size + (if m then r.size else 0) ≤ s.size := by
  rcases h with ⟨rfl, _, h⟩ | ⟨rfl, _, h⟩
  · simp only [if_true]; omega
  · simp only [Bool.false_eq_true, if_false]; omega
/-- how far Clean is: what is kept, what is left, whether there is more -/
structure ClS (Z : Option (List Nn.Name)) (n : Nat) (K : List ByteArray) (left : ByteArray) (m : Bool) : Prop where
  stk : Nn.stk (dl K) (if m then Nn.cut left.data.toList else []) = Z
  few : ∀ s ∈ K, s.size ≤ n
  len : K.length + (if m then left.size else 0) ≤ n
  small : (if m then left.size else 0) ≤ n
theorem dl_app (l : List ByteArray) (t : ByteArray) : dl (l ++ [t]) = dl l ++ [t.data.toList] := by simp [dl]
theorem dl_drop (l : List ByteArray) : dl l.dropLast = (dl l).dropLast := by simp [dl, List.map_dropLast]
end Go.Proofs.YtimdioacmojkeaaGreatDoor

namespace Go.Proofs.YtimdioacmojkeaaGreatDoor
open Go.RowKit
set_option maxRecDepth 4000

/-- what cutAt answers -/
def RcOut (s : ByteArray) (w : World) (e : Ending) (w' : World) : Prop :=
  ∃ v l, e = .returned v ∧ dl l = Nn.cut s.data.toList ∧ (∀ t ∈ l, t.size ≤ s.size) ∧ w'.ownsRow w.heap.size 9 1 v l.length (l.map Tv) ∧ Below w.heap.size w w'
theorem own_one (W : World) (B : Nat) (hB : B ≤ W.heap.size) (x : ByteArray) :
    (W.alloc (.cells #[.string x] 9)).ownsRow B 9 1 (.slice (some ⟨W.heap.size, 0, none⟩) 1 1) 1 ([x].map Tv) :=
  ⟨rfl, .inr ⟨W.heap.size, 1, #[.string x], rfl, hB, heap_alloc_new W _, Nat.le_refl _, by unfold maxLen; omega, rfl, rfl⟩⟩
/-- the row of one text, made behind a world -/
def One (B : Nat) (x : ByteArray) (u : Value) (W : World) : Prop := ∃ g, u = .slice (some ⟨g, 0, none⟩) 1 1 ∧ W.ownsRow B 9 1 u 1 ([x].map Tv)
theorem One.past {B : Nat} {x : ByteArray} (u : Value) (W W' : World) (h : One B x u W) (hg : Gw W W') : One B x u W' := by
  obtain ⟨g, h1, h2⟩ := h
  exact ⟨g, h1, own_below h2 hg⟩
/-- the parts of what is left, as they lie in a world -/
def Cs (r : ByteArray) (n : Nat) (u : Value) (W : World) : Prop := ∃ l, dl l = Nn.cut r.data.toList ∧ (∀ t ∈ l, t.size ≤ n) ∧ Tx W u l
theorem Cs.past {r : ByteArray} {n : Nat} (u : Value) (W W' : World) (h : Cs r n u W) (hg : Gw W W') : Cs r n u W' := by
  obtain ⟨l, h1, h2, h3⟩ := h
  exact ⟨l, h1, h2, h3.below hg⟩
theorem Nn.cut_len : ∀ (l : List UInt8), (Nn.cut l).length ≤ l.length + 1
  | [] => by simp [Nn.cut]
  | b :: l => by
    have := Nn.cut_len l
    rw [Nn.cut]
    split
    · simp only [List.length_cons]; omega
    · simp only [List.length_cons, List.length_tail]; omega

set_option maxHeartbeats 2000000 in
theorem rcut_any : ∀ (n : Nat) (s : ByteArray) (w : World), s.size ≤ n → n ≤ 4194304 →
    Calls Tryz.prog 54 #[.string s] w (RcOut s w) := by
  intro n
  induction n using Nat.strongRecOn with
  | ind n ih =>
  intro s w hsn hn
  have hI := Tryz.strings_IndexByte s 47 w
  rw [show ((47 : Int).toNat.toUInt8) = 47 from rfl] at hI
  rcases Nn.ix_cases 47 s.data.toList with ⟨hix, _⟩ | ⟨i, hix, hroom, _⟩
  · have HC : Hid (Nn.cut s.data.toList = [s.data.toList]) := Nn.cut_none hix
    rw [hix] at hI
    clear hix ih
    go_enter Tryz.func54, Tryz.ntmps54
    go_wp2_with fail
    refine hI.mono ?_
    rintro e u ⟨rfl, hu⟩
    obtain rfl := hu.symm
    go_wp2_with fail
    go_ret
    exact ⟨_, [s], rfl, by rw [HC.out]; rfl, fun t ht => by rw [List.mem_singleton.1 ht]; exact Nat.le_refl _, own_one _ _ (Nat.le_refl _) s, (Below.refl _ _).alloc (Nat.le_refl _) _⟩
  · rw [← Lib.size_eq] at hroom
    obtain ⟨x, hx⟩ : ∃ x, s.extract 0 i = x := ⟨_, rfl⟩
    obtain ⟨r, hr⟩ : ∃ r, s.extract (i + 1) s.size = r := ⟨_, rfl⟩
    have HC : Hid (Nn.cut s.data.toList = x.data.toList :: Nn.cut r.data.toList ∧ x.size ≤ s.size ∧ r.size < s.size) := by
      refine ⟨?_, ?_, ?_⟩
      · rw [Nn.cut_at hix, ← hx, ← hr, Lib.extract_from_zero, Nn.ext_drop]
      · rw [← hx, ByteArray.size_extract]; omega
      · rw [← hr, ByteArray.size_extract]; omega
    have hcall : ∀ W, Calls Tryz.prog 54 #[.string r] W (RcOut r W) := fun W => ih r.size (by have := HC.out.2.2; omega) r W (Nat.le_refl _) (by have := HC.out.2.2; omega)
    have c2 : (↑i : Int) ≤ ↑s.size := by omega
    have c4 : (↑i + 1 : Int) ≤ ↑s.size := by omega
    have c3 : (0 : Int) ≤ ↑i + 1 := by omega
    have c5 : (0 : Int) ≤ (i : Int) := by omega
    rw [hix] at hI
    have hwr : IntKind.i64.wrap ((i : Int) + 1) = (i : Int) + 1 := by
      simp only [IntKind.wrap, IntKind.bits, IntKind.signed]
      simp
      omega
    clear hix ih
    obtain ⟨i0, hi, hz0, hz1, hz2⟩ := info_of info_tx
    go_enter Tryz.func54, Tryz.ntmps54
    go_wp2_with fail
    refine hI.mono ?_
    rintro e u ⟨rfl, hu⟩
    obtain rfl := hu.symm
    go_wp2_with fail
    refine wp_region_rel_tail (G := Gw) (W0 := w) 9 4 Gw.refl Gw.trans (by kernel_rfl) (by decide) (by kernel_rfl) (by kernel_rfl) (.inr (by kernel_rfl)) (Below.refl _ w).drew ?_
    refine .inl ⟨.string s, fun v W hW hd => step_run rfl _ W (by clear hd; go_simp) rfl (Gw.refl _), ?_⟩
    simp only [Act.put, List.setIfInBounds_toArray, List.set_cons_zero, List.set_cons_succ]
    refine .inl ⟨.int .i64 i, fun v W hW hd => step_run rfl _ W (by clear hd; go_simp) rfl (Gw.refl _), ?_⟩
    simp only [Act.put, List.setIfInBounds_toArray, List.set_cons_zero, List.set_cons_succ]
    refine .inl ⟨.string x, fun v W hW hd => step_run rfl _ W (by clear hd; go_simp) rfl (Gw.refl _), ?_⟩
    simp only [Act.put, List.setIfInBounds_toArray, List.set_cons_zero, List.set_cons_succ]
    refine .inr ⟨One w.heap.size x, One.past, fun v W hW _ => step_run rfl _ (W.alloc (.cells #[.string x] 9)) (by go_simp) ⟨_, rfl, own_one W _ hW.size x⟩ ((Below.refl _ W).alloc (Nat.le_refl _) _), ?_⟩
    simp only [Act.put, List.setIfInBounds_toArray, List.set_cons_zero, List.set_cons_succ]
    refine .inl ⟨.string s, fun v W hW hd => step_run rfl _ W (by clear hd; go_simp) rfl (Gw.refl _), ?_⟩
    simp only [Act.put, List.setIfInBounds_toArray, List.set_cons_zero, List.set_cons_succ]
    refine .inl ⟨.int .i64 i, fun v W hW hd => step_run rfl _ W (by clear hd; go_simp) rfl (Gw.refl _), ?_⟩
    simp only [Act.put, List.setIfInBounds_toArray, List.set_cons_zero, List.set_cons_succ]
    refine .inl ⟨.int .i64 ((i : Int) + 1), fun v W hW hd => step_run rfl _ W (by clear hd; go_simp) rfl (Gw.refl _), ?_⟩
    simp only [Act.put, List.setIfInBounds_toArray, List.set_cons_zero, List.set_cons_succ]
    refine .inl ⟨.string r, fun v W hW hd => step_run rfl _ W (by clear hd; go_simp) rfl (Gw.refl _), ?_⟩
    simp only [Act.put, List.setIfInBounds_toArray, List.set_cons_zero, List.set_cons_succ]
    refine .inr ⟨Cs r s.size, Cs.past, fun v W hW _ => step_call rfl 54 #[.string r] (by go_simp) ((hcall W).mono fun e w' ⟨v', l, h1, h2, h3, h4, h5⟩ => ⟨v', h1, ⟨l, h2, fun t ht => Nat.le_trans (h3 t ht) (by have := HC.out.2.2; omega), Tx.of_own h4⟩, h5⟩), ?_⟩
    simp only [Act.put, List.setIfInBounds_toArray, List.set_cons_zero, List.set_cons_succ]
    intro v W hW hV
    have h3 : One w.heap.size x (v 3) W := hV 3 (by decide)
    have h8 : Cs r s.size (v 8) W := hV 8 (by decide)
    clear hV
    obtain ⟨g3, e3, o3⟩ := h3
    obtain ⟨l, d8, k8, x8⟩ := h8
    have hl0 : 1 ≤ l.length := by
      rw [← dl_length, d8]
      exact List.length_pos_iff.2 (Nn.cut_ne _)
    have hl1 : l.length ≤ s.size + 1 := by
      rw [← dl_length, d8]
      have := Nn.cut_len r.data.toList
      rw [← Lib.size_eq] at this
      have := HC.out.2.2
      omega
    obtain ⟨a8, c8, e8⟩ := x8.slice
    rw [e8] at x8
    rw [e3] at o3
    have hsrc := x8.src
    obtain ⟨bk, o, ha, hbk, _⟩ := x8.get 0 (by omega)
    subst ha
    have hsz := hW.size
    simp only [Nat.reduceAdd]
    rw [e3, e8]
    clear e3 e8 hcall hx hr
    refine wpAny_ready (rs := [9]) (by kernel_rfl) (by simp) ?_
    refine AllReady.cons rfl (fun K hK => ?_) AllReady.nil
    rw [if_pos (by rfl)]
    refine wp_append_own W (.tmp 13) (.tmp 18) 62 rfl w.heap.size 9 i0 (.string ⟨#[]⟩) 1 16 Tryz.underlying62 hi hz0 hz1 hz2 rfl (by decide) _ 1 _ rfl o3 ⟨bk, o, none⟩ l.length c8 (l.map Tv) rfl (by simp) (hsrc.2 _ rfl) (tv_one l) (by unfold maxLen; omega) (by omega) hsz ?_
    intro v' w' hown hgrow _
    have HO : Hid (w'.ownsRow w.heap.size 9 1 v' (x :: l).length ((x :: l).map Tv)) := by
      have := hown
      rw [← List.map_append, Nat.add_comm] at this
      exact this
    have HB : Hid (Below w.heap.size w w') := (Below.mono hW (Nat.le_refl _)).grown hgrow hsz fun k hk => by cases hk; exact (o3.lt _ rfl).1
    have HD : Hid (dl (x :: l) = Nn.cut s.data.toList ∧ ∀ t ∈ x :: l, t.size ≤ s.size) := by
      refine ⟨?_, fun t ht => ?_⟩
      · rw [HC.out.1, ← d8]; rfl
      · rcases List.mem_cons.1 ht with rfl | ht
        · exact HC.out.2.1
        · exact k8 t ht
    refine hK _ _ ?_
    clear hK K hown hgrow o3 x8 hsrc d8 k8
    refine wpAny_ready (rs := [10]) (by kernel_rfl) (by simp) ?_
    refine AllReady.cons rfl (fun K hK => ?_) AllReady.nil
    go_simp
    refine hK _ _ ?_
    clear hK K
    refine wpAny_done (by kernel_rfl) ?_ _
    go_wp2_with fail
    go_ret
    exact ⟨_, x :: l, rfl, HD.out.1, HD.out.2, HO.out, HB.out⟩
end Go.Proofs.YtimdioacmojkeaaGreatDoor

namespace Go.Proofs.YtimdioacmojkeaaGreatDoor
open Go.RowKit
set_option maxRecDepth 4000

set_option maxHeartbeats 1000000 in
theorem rerr_any (v : Value) (l : List ByteArray) (w : World) (h : Tx w v l) (hl : l.length ≤ 140737488351232) (hf : ∀ s ∈ l, s.size ≤ 4194304) :
    Calls Tryz.prog 55 #[v] w fun e w' => e = .returned (.int .i64 (Nn.errs (dl l))) ∧ Below w.heap.size w w' := by
  obtain ⟨a, c, rfl⟩ := h.slice
  have HS : Hid (Nn.errsF 0 (dl (l.drop 0)) = Nn.errs (dl l)) := rfl
  have HX : Hid (Tx w (.slice a l.length c) l) := h
  have HF : Hid (∀ s ∈ l, s.size ≤ 4194304) := hf
  clear h hf
  obtain ⟨N, hN⟩ : ∃ N, N = l.length := ⟨_, rfl⟩
  have HN : Hid (N = l.length) := hN
  rw [← hN] at HX hl ⊢
  clear hN
  generalize Nn.errs (dl l) = Z at *
  go_enter Tryz.func55, Tryz.ntmps55
  go_wp2_with fail
  go_loopw [8] (fun i wr => ∃ k : Nat, k ≤ N ∧ i = .int .i64 k ∧ Hid (Nn.errsF k (dl (l.drop k)) = Z) ∧ Hid (Below w.heap.size w wr)) (fun i _ => N - (intOf i).toNat)
  case atStart => exact ⟨0, by omega, rfl, HS, Below.refl _ _⟩
  case round =>
    clear HS
    obtain ⟨k, hk, rfl, HS, HB⟩ := hrel
    by_cases hlt : k < N
    · obtain ⟨bk, o, rfl, hbk, c0⟩ := (HX.out.below HB.out).get k (by rw [← HN.out]; omega)
      have hz : (l.getD k ByteArray.empty).size ≤ 4194304 := by
        have hk' : k < l.length := by rw [← HN.out]; exact hlt
        rw [List.getD_eq_getElem?_getD, List.getElem?_eq_getElem hk']
        exact HF.out _ (List.getElem_mem hk')
      have HD : Hid (Z = if 8 ≤ k then 14 else if Nn.nm (l.getD k ByteArray.empty).data.toList ≠ 0 then Nn.nm (l.getD k ByteArray.empty).data.toList else Nn.errsF (k + 1) (dl (l.drop (k + 1)))) := by
        show _ = _
        rw [← errsF_drop _ _ (by rw [← HN.out]; omega)]; exact HS.out.symm
      have hq := rname_any (l.getD k ByteArray.empty) wr hz
      generalize l.getD k ByteArray.empty = s at *
      generalize Nn.nm s.data.toList = E at *
      clear HS
      by_cases h8 : 8 ≤ k
      · have HZ : Hid (Z = 14) := by have := HD.out; rwa [if_pos h8] at this
        clear hq
        go_wp2_with fail
        go_ret
        exact ⟨by rw [HZ.out]; rfl, HB.out⟩
      · by_cases h0 : E = 0
        · have HZ : Hid (Nn.errsF (k + 1) (dl (l.drop (k + 1))) = Z) := by have := HD.out; rw [if_neg h8, if_neg (by simpa using h0)] at this; exact this.symm
          rw [h0] at hq
          clear h0 HD
          go_wp2_with fail
          refine hq.mono ?_
          rintro e u ⟨rfl, bu⟩
          have HB2 : Hid (Below w.heap.size w u) := HB.out.trans (bu.mono HB.out.size)
          clear bu
          go_wp2_with fail
          go_roundw
          case rel => exact ⟨k + 1, by omega, by go_num, HZ, HB2⟩
          case measure => simp only [intOf]; omega
        · have HZ : Hid (Z = E) := by have := HD.out; rwa [if_neg h8, if_pos h0] at this
          have hqn : (E != 0) = true := by rw [bne_iff_ne]; exact h0
          clear HD
          go_wp2_with fail
          refine hq.mono ?_
          rintro e u ⟨rfl, bu⟩
          have HB2 : Hid (Below w.heap.size w u) := HB.out.trans (bu.mono HB.out.size)
          clear bu
          go_wp2_with fail
          go_ret
          exact ⟨by rw [HZ.out]; rfl, HB2.out⟩
    · have HZ : Hid (Z = 0) := by
        have := HS.out
        rw [List.drop_eq_nil_of_le (by rw [← HN.out]; omega)] at this
        exact this.symm
      obtain rfl : k = N := by omega
      go_wp2_with fail
      go_ret
      exact ⟨by rw [HZ.out]; rfl, HB.out⟩

theorem few_cut {s : ByteArray} (l : List ByteArray) (h : ∀ t ∈ l, t.size ≤ s.size) (hs : s.size ≤ 4194304) : ∀ t ∈ l, t.size ≤ 4194304 := fun t ht => Nat.le_trans (h t ht) hs
theorem rn_tail_data (p : ByteArray) : (p.extract 1 p.size).data.toList = p.data.toList.tail := by rw [Nn.ext_drop, List.drop_one]
theorem cut_len_of {s : ByteArray} {l : List ByteArray} (h : dl l = Nn.cut s.data.toList) : l.length ≤ s.size + 1 := by
  rw [← dl_length, h, Lib.size_eq]
  exact Nn.cut_len _

set_option maxHeartbeats 2000000 in
theorem rsplit_any (p : ByteArray) (w : World) (hp : p.size ≤ 4194304) :
    Calls Tryz.prog 30 #[.string p] w (SpOut p w) := by
  by_cases h0 : p.data.toList = []
  · have HS : Hid (Nn.split p.data.toList = ([], 8)) := by
      show _ = _
      unfold Nn.split; rw [if_pos (by rw [h0]; simp)]
    obtain rfl := of_data h0
    clear h0
    go_enter Tryz.func30, Tryz.ntmps30
    go_wp2_with fail
    go_ret2
    exact ⟨_, [], by rw [HS.out]; rfl, by rw [HS.out]; rfl, Tx.none _, Cp.none, Below.refl _ _⟩
  have e0 : (p.toList == []) = false := data_ne h0
  have e0' : p.toList.isEmpty = false := by
    rw [Lib.toList_data]
    cases hx : p.data.toList with
    | nil => exact absurd hx h0
    | cons a b => rfl
  have h1 : 0 < p.size := by
    rw [Lib.size_eq]; exact List.length_pos_iff.2 h0
  have h1z : (0 : Int) < (p.size : Int) := by omega
  have h1y : (1 : Int) ≤ (p.size : Int) := by omega
  have hhd : p.data.toList.head? = some p[0] := by
    rw [List.head?_eq_getElem?]
    exact Lib.data_getElem? p 0 h1
  obtain ⟨b, hb⟩ : ∃ b, p[0] = b := ⟨_, rfl⟩
  rw [hb] at hhd
  by_cases h47 : b = 47
  · have d1 : ((b.toNat : Int) != 47) = false := by rw [h47]; rfl
    by_cases hr : p.data.toList = [47]
    · have HS : Hid (Nn.split p.data.toList = ([], 0)) := by
        show _ = _
        unfold Nn.split; rw [if_neg (by rw [hhd, h47]; simp), if_pos hr]
      have e1 : (p.toList == [47]) = true := by rw [Lib.toList_data, hr]; rfl
      clear h0 hhd h47 hr
      go_enter Tryz.func30, Tryz.ntmps30
      go_wp2_with fail
      go_ret2
      exact ⟨_, [], by rw [HS.out]; rfl, by rw [HS.out]; rfl, Tx.none _, Cp.none, Below.refl _ _⟩
    have e1 : (p.toList == [47]) = false := data_ne hr
    have hc := rcut_any (p.extract 1 p.size).size (p.extract 1 p.size) w (Nat.le_refl _) (by rw [ByteArray.size_extract]; omega)
    have htz : (p.extract 1 p.size).size ≤ 4194304 := by rw [ByteArray.size_extract]; omega
    have HD : Hid (Nn.split p.data.toList = if Nn.errs (Nn.cut p.data.toList.tail) ≠ 0 then ([], Nn.errs (Nn.cut p.data.toList.tail)) else (Nn.cut p.data.toList.tail, 0)) := by
      show _ = _
      unfold Nn.split; rw [if_neg (by rw [hhd, h47]; simp), if_neg hr]
    have HTl : Hid ((p.extract 1 p.size).data.toList = p.data.toList.tail) := rn_tail_data p
    clear h0 hhd h47 hr
    obtain ⟨q, hqe⟩ : ∃ q, p.extract 1 p.size = q := ⟨_, rfl⟩
    rw [hqe] at hc htz HTl
    go_enter Tryz.func30, Tryz.ntmps30
    go_wp2_with fail
    refine hc.mono ?_
    rintro e w1 ⟨v, l, rfl, hd, hf, ho, hbl⟩
    have hln := cut_len_of hd
    have he := rerr_any v l w1 (Tx.of_own ho) (by omega) (few_cut l hf htz)
    rw [hd, HTl.out] at he
    have HO : Hid (w1.ownsRow w.heap.size 9 1 v l.length (l.map Tv)) := ho
    have HDl : Hid (dl l = Nn.cut p.data.toList.tail) := by rw [← HTl.out]; exact hd
    have HB : Hid (Below w.heap.size w w1) := hbl
    generalize Nn.cut p.data.toList.tail = L at *
    obtain ⟨a1, c1, rfl⟩ := own_len ho
    clear ho hbl hd hf hc HTl hqe
    by_cases hz : Nn.errs L = 0
    · have HS : Hid (Nn.split p.data.toList = (L, 0)) := by
        have := HD.out
        rwa [if_neg (by simpa using hz)] at this
      rw [hz] at he
      clear hz HD
      go_wp2_with fail
      refine he.mono ?_
      rintro e w2 ⟨rfl, b2⟩
      have HB2 : Hid (Below w.heap.size w w2) := HB.out.trans (b2.mono HB.out.size)
      have HX : Hid (Tx w2 (.slice a1 l.length c1) l) := (Tx.of_own HO.out).below b2
      clear b2 he
      go_wp2_with fail
      go_ret2
      exact ⟨_, l, by rw [HS.out]; rfl, by rw [HS.out]; exact HDl.out, HX.out, Cp.of_own HO.out, HB2.out⟩
    · have HS : Hid (Nn.split p.data.toList = ([], Nn.errs L)) := by
        have := HD.out
        rwa [if_pos hz] at this
      generalize Nn.errs L = E at *
      have hqn : (E != 0) = true := by rw [bne_iff_ne]; exact hz
      clear hz HD
      go_wp2_with fail
      refine he.mono ?_
      rintro e w2 ⟨rfl, b2⟩
      have HB2 : Hid (Below w.heap.size w w2) := HB.out.trans (b2.mono HB.out.size)
      clear b2 he
      go_wp2_with fail
      go_ret2
      exact ⟨_, [], by rw [HS.out]; rfl, by rw [HS.out]; rfl, Tx.none _, Cp.none, HB2.out⟩
  · have hbn : b.toNat ≠ 47 := fun h => h47 (UInt8.toNat_inj.1 (by rw [h]; rfl))
    have d1 : ((b.toNat : Int) != 47) = true := by rw [bne_iff_ne]; omega
    have HS : Hid (Nn.split p.data.toList = ([], 8)) := by
      show _ = _
      unfold Nn.split; rw [if_pos (by rw [hhd]; simpa using h47)]
    clear h0 hhd h47 hbn
    go_enter Tryz.func30, Tryz.ntmps30
    go_wp2_with fail
    go_ret2
    exact ⟨_, [], by rw [HS.out]; rfl, by rw [HS.out]; rfl, Tx.none _, Cp.none, Below.refl _ _⟩
end Go.Proofs.YtimdioacmojkeaaGreatDoor

namespace Go.Proofs.YtimdioacmojkeaaGreatDoor
open Go.RowKit
set_option maxRecDepth 4000

set_option maxHeartbeats 2000000 in
theorem rway_any (fx mn mx bt : Int) (w : World) :
    Calls Tryz.prog 12 #[wayV fx mn mx bt] w fun e w' => e = .returned (.int .i64 (wayN fx mn mx bt)) ∧ Below w.heap.size w w' := by
  have hch := fun W => rok_any mn mx bt W
  unfold cutV at hch
  obtain ⟨R, hR⟩ : ∃ R, R = wayN fx mn mx bt := ⟨_, rfl⟩
  rw [← hR]
  obtain ⟨W1, hW1⟩ : ∃ W1, W1 = w.alloc (.cells #[.int .i64 fx, .int .i64 mn, .int .i64 mx, .int .i64 bt] 25) := ⟨_, rfl⟩
  have HB1 : Hid (Below w.heap.size w W1) := by rw [hW1]; exact (Below.refl _ w).alloc (Nat.le_refl _) _
  have c0 : W1.cell? ⟨w.heap.size, 0, none⟩ = some (.int .i64 fx) := by rw [hW1]; simp
  have c1 : W1.cell? ⟨w.heap.size, 1, none⟩ = some (.int .i64 mn) := by rw [hW1]; simp
  have c2 : W1.cell? ⟨w.heap.size, 2, none⟩ = some (.int .i64 mx) := by rw [hW1]; simp
  have c3 : W1.cell? ⟨w.heap.size, 3, none⟩ = some (.int .i64 bt) := by rw [hW1]; simp
  by_cases h0 : fx = 0
  · have HRe : Hid (R = okN mn mx bt) := by show _ = _; rw [hR, wayN, if_pos h0]
    subst h0
    clear hR
    go_enter Tryz.func12, Tryz.ntmps12
    go_wp2_with fail
    rw [← hW1]
    clear hW1
    go_wp2_with fail
    refine (hch _).mono ?_
    rintro e w2 ⟨rfl, b2⟩
    have HB2 : Hid (Below w.heap.size w w2) := HB1.out.trans (b2.mono HB1.out.size)
    clear hch b2 c0 c1 c2 c3
    go_wp2_with fail
    go_ret
    exact ⟨by rw [HRe.out]; rfl, HB2.out⟩
  have he0 : (fx == 0) = false := beq_eq_false_iff_ne.2 h0
  by_cases h1 : fx < 16
  · have HRe : Hid (R = 1) := by show _ = _; rw [hR, wayN, if_neg h0, if_pos (.inl h1)]
    clear hR h0
    go_enter Tryz.func12, Tryz.ntmps12
    go_wp2_with fail
    rw [← hW1]
    clear hW1
    go_wp2_with fail
    go_ret
    exact ⟨by rw [HRe.out]; rfl, HB1.out⟩
  by_cases h2 : 1024 < fx
  · have HRe : Hid (R = 1) := by show _ = _; rw [hR, wayN, if_neg h0, if_pos (.inr h2)]
    clear hR h0
    go_enter Tryz.func12, Tryz.ntmps12
    go_wp2_with fail
    rw [← hW1]
    clear hW1
    go_wp2_with fail
    go_ret
    exact ⟨by rw [HRe.out]; rfl, HB1.out⟩
  have HRe : Hid (R = 0) := by show _ = _; rw [hR, wayN, if_neg h0, if_neg (by omega)]
  clear hR h0
  go_enter Tryz.func12, Tryz.ntmps12
  go_wp2_with fail
  rw [← hW1]
  clear hW1
  go_wp2_with fail
  go_ret
  exact ⟨by rw [HRe.out]; rfl, HB1.out⟩

set_option maxHeartbeats 4000000 in
theorem ritem_any (x : Im) (w : World) (hp : x.path.size ≤ 4194304) (hbs : x.bytes.size ≤ 140737488351232) :
    Calls Tryz.prog 28 #[imV x] w fun e w' => e = .returned (.int .i64 (Wk.iErr x.it)) ∧ Below w.heap.size w w' := by
  obtain ⟨path, kind, mode, time, bytes⟩ := x
  obtain ⟨W1, hW1⟩ : ∃ W1, W1 = w.alloc (.cells #[.string path, .int .i64 kind, .int .i64 mode, .int .i64 time, .string bytes] 46) := ⟨_, rfl⟩
  have hB1 : Below w.heap.size w W1 := by rw [hW1]; exact (Below.refl _ w).alloc (Nat.le_refl _) _
  have HB1 : Hid (Below w.heap.size w W1) := hB1
  have HM : Hid (W1.heap[w.heap.size]? = some (.cells #[.string path, .int .i64 kind, .int .i64 mode, .int .i64 time, .string bytes] 46 (0, 0))) := by rw [hW1]; exact heap_alloc_new w _
  have hsp := rsplit_any path W1 hp
  obtain ⟨E, hE⟩ : ∃ E, E = Wk.iErr (Im.it ⟨path, kind, mode, time, bytes⟩) := ⟨_, rfl⟩
  rw [← hE]
  have hbz : bytes.data.toList.length = bytes.size := (Lib.size_eq bytes).symm
  have HE : Hid (E = if (Nn.split path.data.toList).2 ≠ 0 then (Nn.split path.data.toList).2 else if (Nn.split path.data.toList).1 = [] then 8 else if kind ≠ 1 ∧ kind ≠ 2 ∧ kind ≠ 3 then 5 else if mode < 0 ∨ 511 < mode then 1
      else if (kind = 1 ∧ 4096 < bytes.data.toList.length) ∨ (kind = 2 ∧ bytes.data.toList ≠ []) ∨ (kind = 3 ∧ 1024 < bytes.data.toList.length) then 2 else if kind = 3 ∧ bytes.data.toList = [] then 4 else 0) := hE
  rw [hbz] at HE
  unfold SpOut at hsp
  rcases hS : Nn.split path.data.toList with ⟨sl, se⟩
  rw [hS] at hsp HE
  dsimp only at hsp HE
  have hbz2 : bytes.size ≤ 140737488351232 := hbs
  obtain ⟨m0, m1, m2, m3, m4, mlt⟩ := five_at HM.out
  have hemp : bytes.toList.isEmpty = true ↔ bytes.data.toList = [] := by rw [Lib.toList_data, List.isEmpty_iff]
  have HEm : Hid (bytes.toList.isEmpty = true ↔ bytes.data.toList = []) := hemp
  clear hE hbz hS hB1 hp hbs hemp
  go_enter Tryz.func28, Tryz.ntmps28
  go_wp2_with fail
  rw [← hW1]
  clear hW1
  refine hsp.mono ?_
  rintro e w2 ⟨v, l, rfl, hdl, htx, _, b2⟩
  have HB2 : Hid (Below w.heap.size w w2) := HB1.out.trans (b2.mono HB1.out.size)
  obtain ⟨n0, n1, n2, n3, n4, nlt⟩ := five_at ((b2.block _ (Array.getElem?_eq_some_iff.1 HM.out).1).trans HM.out)
  obtain ⟨a, c, rfl⟩ := htx.slice
  have hl0 : l.length = 0 ↔ sl = [] := by
    rw [← dl_length, hdl]
    exact List.length_eq_zero_iff
  have HL0 : Hid (l.length = 0 ↔ sl = []) := hl0
  generalize l.length = LN at *
  clear hsp b2 htx hdl m0 m1 m2 m3 m4 mlt hl0
  by_cases c1 : se = 0
  case neg =>
    have hne : (se != 0) = true := by rw [bne_iff_ne]; exact c1
    have HEe : Hid (E = se) := by show _ = _; rw [HE.out, if_pos c1]
    clear HE c1
    go_wp2_with fail
    go_ret
    exact ⟨by rw [HEe.out]; rfl, HB2.out⟩
  have hne : (se != 0) = false := by rw [c1]; rfl
  by_cases c2 : LN = 0
  · have HEe : Hid (E = 8) := by show _ = _; rw [HE.out, if_neg (fun q => q c1), if_pos (HL0.out.1 c2)]
    subst c2
    clear HE c1
    go_wp2_with fail
    go_ret
    exact ⟨by rw [HEe.out]; rfl, HB2.out⟩
  have c2' : ¬ sl = [] := fun q => c2 (HL0.out.2 q)
  have hl1 : (((LN : Nat) : Int) == 0) = false := by rw [beq_eq_false_iff_ne]; omega
  have HE2 : Hid (E = if kind ≠ 1 ∧ kind ≠ 2 ∧ kind ≠ 3 then 5 else if mode < 0 ∨ 511 < mode then 1
      else if (kind = 1 ∧ 4096 < bytes.size) ∨ (kind = 2 ∧ bytes.data.toList ≠ []) ∨ (kind = 3 ∧ 1024 < bytes.size) then 2 else if kind = 3 ∧ bytes.data.toList = [] then 4 else 0) := by
    show _ = _; rw [HE.out, if_neg (fun q => q c1), if_neg c2']
  clear HE c1 c2 c2' HL0
  by_cases k0 : kind ≠ 1 ∧ kind ≠ 2 ∧ kind ≠ 3
  · have HEe : Hid (E = 5) := by show _ = _; rw [HE2.out, if_pos k0]
    have e1 : (kind != 1) = true := by rw [bne_iff_ne]; exact k0.1
    have e2 : (kind != 2) = true := by rw [bne_iff_ne]; exact k0.2.1
    have e3 : (kind != 3) = true := by rw [bne_iff_ne]; exact k0.2.2
    clear HE2 k0
    go_wp2_with fail
    go_ret
    exact ⟨by rw [HEe.out]; rfl, HB2.out⟩
  have hk : kind = 1 ∨ kind = 2 ∨ kind = 3 := by omega
  have HE3 : Hid (E = if mode < 0 ∨ 511 < mode then 1
      else if (kind = 1 ∧ 4096 < bytes.size) ∨ (kind = 2 ∧ bytes.data.toList ≠ []) ∨ (kind = 3 ∧ 1024 < bytes.size) then 2 else if kind = 3 ∧ bytes.data.toList = [] then 4 else 0) := by
    show _ = _; rw [HE2.out, if_neg k0]
  clear HE2 k0
  rcases hk with rfl | rfl | rfl
  · by_cases q1 : mode < 0
    · have HEe : Hid (E = 1) := by show _ = _; rw [HE3.out, if_pos (.inl q1)]
      clear HE3
      go_wp2_with fail
      go_ret
      exact ⟨by rw [HEe.out]; rfl, HB2.out⟩
    by_cases q2 : 511 < mode
    · have HEe : Hid (E = 1) := by show _ = _; rw [HE3.out, if_pos (.inr q2)]
      clear HE3
      go_wp2_with fail
      go_ret
      exact ⟨by rw [HEe.out]; rfl, HB2.out⟩
    by_cases q3 : 4096 < bytes.size
    · have HEe : Hid (E = 2) := by show _ = _; rw [HE3.out, if_neg (by omega), if_pos (.inl ⟨rfl, q3⟩)]
      clear HE3
      go_wp2_with fail
      go_ret
      exact ⟨by rw [HEe.out]; rfl, HB2.out⟩
    · have HEe : Hid (E = 0) := by show _ = _; rw [HE3.out, if_neg (by omega), if_neg (by omega), if_neg (by omega)]
      clear HE3
      go_wp2_with fail
      go_ret
      exact ⟨by rw [HEe.out]; rfl, HB2.out⟩
  · by_cases q1 : mode < 0
    · have HEe : Hid (E = 1) := by show _ = _; rw [HE3.out, if_pos (.inl q1)]
      clear HE3
      go_wp2_with fail
      go_ret
      exact ⟨by rw [HEe.out]; rfl, HB2.out⟩
    by_cases q2 : 511 < mode
    · have HEe : Hid (E = 1) := by show _ = _; rw [HE3.out, if_pos (.inr q2)]
      clear HE3
      go_wp2_with fail
      go_ret
      exact ⟨by rw [HEe.out]; rfl, HB2.out⟩
    cases hb : bytes.toList.isEmpty with
    | false =>
      have hb' : ¬ bytes.data.toList = [] := fun q => by have := HEm.out.2 q; rw [hb] at this; cases this
      have HEe : Hid (E = 2) := by show _ = _; rw [HE3.out, if_neg (by omega), if_pos (.inr (.inl ⟨rfl, hb'⟩))]
      clear HE3
      go_wp2_with fail
      go_ret
      exact ⟨by rw [HEe.out]; rfl, HB2.out⟩
    | true =>
      have hb' : bytes.data.toList = [] := HEm.out.1 hb
      have HEe : Hid (E = 0) := by show _ = _; rw [HE3.out, if_neg (by omega), if_neg (by rintro (q | q | q); exact absurd q.1 (by decide); exact q.2 hb'; exact absurd q.1 (by decide)), if_neg (by rintro q; exact absurd q.1 (by decide))]
      clear HE3
      go_wp2_with fail
      go_ret
      exact ⟨by rw [HEe.out]; rfl, HB2.out⟩
  · by_cases q1 : mode < 0
    · have HEe : Hid (E = 1) := by show _ = _; rw [HE3.out, if_pos (.inl q1)]
      clear HE3
      go_wp2_with fail
      go_ret
      exact ⟨by rw [HEe.out]; rfl, HB2.out⟩
    by_cases q2 : 511 < mode
    · have HEe : Hid (E = 1) := by show _ = _; rw [HE3.out, if_pos (.inr q2)]
      clear HE3
      go_wp2_with fail
      go_ret
      exact ⟨by rw [HEe.out]; rfl, HB2.out⟩
    by_cases q3 : 1024 < bytes.size
    · have HEe : Hid (E = 2) := by show _ = _; rw [HE3.out, if_neg (by omega), if_pos (.inr (.inr ⟨rfl, q3⟩))]
      clear HE3
      go_wp2_with fail
      go_ret
      exact ⟨by rw [HEe.out]; rfl, HB2.out⟩
    have HE4 : Hid (E = if bytes.data.toList = [] then 4 else 0) := by
      show _ = _
      rw [HE3.out, if_neg (by omega), if_neg (by omega)]
      simp
    clear HE3
    cases hb : bytes.toList.isEmpty with
    | false =>
      have HEe : Hid (E = 0) := by show _ = _; rw [HE4.out, if_neg (fun q => by have := HEm.out.2 q; rw [hb] at this; cases this)]
      clear HE4
      go_wp2_with fail
      go_ret
      exact ⟨by rw [HEe.out]; rfl, HB2.out⟩
    | true =>
      have HEe : Hid (E = 4) := by show _ = _; rw [HE4.out, if_pos (HEm.out.1 hb)]
      clear HE4
      go_wp2_with fail
      go_ret
      exact ⟨by rw [HEe.out]; rfl, HB2.out⟩

end Go.Proofs.YtimdioacmojkeaaGreatDoor

namespace Go.Proofs.YtimdioacmojkeaaGreatDoor
open Go.RowKit
set_option maxRecDepth 4000

theorem info_stx : (Tryz.prog.info? 9).map (fun i => (i.zero, i.size, i.bytes)) = some (some (.string ⟨#[]⟩), 1, 16) := by kernel_rfl

theorem wErr_step {l : List Im} {j : Nat} {x : Im} (hx : l[j]? = some x) : Wk.wErrF (its (l.take j)) (its (l.drop j)) = if Wk.iErr x.it ≠ 0 then Wk.iErr x.it else if Wk.late (its (l.take j)) x.it = true then 4 else if Wk.lies (its (l.take j)) x.it = false then 9 else Wk.wErrF (its (l.take (j + 1))) (its (l.drop (j + 1))) := by
  have hlt := (List.getElem?_eq_some_iff.1 hx).1
  have e0 : its (l.drop j) = x.it :: its (l.drop (j + 1)) := by
    rw [List.drop_eq_getElem_cons hlt, (List.getElem?_eq_some_iff.1 hx).2]; rfl
  have e1 : its (l.take (j + 1)) = its (l.take j) ++ [x.it] := by
    rw [List.take_succ_eq_append_getElem hlt, (List.getElem?_eq_some_iff.1 hx).2]; simp [its]
  rw [e0, Wk.wErrF, e1]

theorem late_at {l : List Im} {j : Nat} {x y : Im} (hy : l[j]? = some y) : Wk.late (its (l.take (j + 1))) x.it = !(Nn.less y.path.data.toList x.path.data.toList).1 := by
  have hlt := (List.getElem?_eq_some_iff.1 hy).1
  have e1 : its (l.take (j + 1)) = its (l.take j) ++ [y.it] := by
    rw [List.take_succ_eq_append_getElem hlt, (List.getElem?_eq_some_iff.1 hy).2]; simp [its]
  unfold Wk.late
  rw [e1, List.getLast?_concat]
  rfl

theorem dirs_more {l : List Im} {j : Nat} {x : Im} (hx : l[j]? = some x) : Wk.dirs (its (l.take (j + 1))) = if x.kind = 2 then Wk.dirs (its (l.take j)) ++ [x.it.path] else Wk.dirs (its (l.take j)) := by
  have hlt := (List.getElem?_eq_some_iff.1 hx).1
  have e1 : its (l.take (j + 1)) = its (l.take j) ++ [x.it] := by
    rw [List.take_succ_eq_append_getElem hlt, (List.getElem?_eq_some_iff.1 hx).2]; simp [its]
  rw [e1, Wk.dirs_snoc]
  rfl

theorem cont_dirs {D : List ByteArray} {L : List Wk.Bs} (h : dl D = L) (p : Wk.Bs) : Lib.containsS D (mkB p) = decide (p ∈ L) := by
  rw [Bool.eq_iff_iff, Lib.containsS_iff, decide_eq_true_eq, ← h]
  constructor
  · intro hm
    exact List.mem_map.2 ⟨_, hm, rfl⟩
  · intro hm
    obtain ⟨b, hb, e⟩ := List.mem_map.1 hm
    have : b = mkB p := by
      rw [mkB, ← e]
    rw [← this]; exact hb

set_option maxHeartbeats 4000000 in
set_option maxRecDepth 10000 in
theorem wcheck_any (v : Value) (l : List Im) (w : World) (h : Ims w v l) (hl : l.length ≤ 140737488351232) (hok : ∀ x ∈ l, x.Ok) (hT : Tabs w) :
    Calls Tryz.prog 9 #[v] w fun e w' => e = .returned (.int .i64 (Wk.world (its l))) ∧ Below w.heap.size w w' := by
  obtain ⟨i0, hi, hz0, hz1, hz2⟩ := info_parts info_stx
  obtain ⟨a, c, rfl, hlc1, hlc2⟩ := h.slice
  by_cases h100 : 100 < l.length
  · have HE : Hid (Wk.world (its l) = 2) := by show _ = _; unfold Wk.world; rw [if_pos (by rw [its_length]; exact h100)]
    generalize l.length = n at *
    go_enter Tryz.func9, Tryz.ntmps9
    go_wp2_with fail
    go_ret
    exact ⟨by rw [HE.out]; rfl, Below.refl _ _⟩
  have HE0 : Hid (Wk.world (its l) = Wk.wErrF (its (l.take 0)) (its (l.drop 0))) := by
    show _ = _; unfold Wk.world; rw [if_neg (by rw [its_length]; exact h100)]; rfl
  obtain ⟨R, hR⟩ : ∃ R, R = Wk.world (its l) := ⟨_, rfl⟩
  rw [← hR] at HE0 ⊢
  have HX : Hid (Ims w (.slice a l.length c) l) := h
  have HK : Hid (∀ x ∈ l, x.Ok) := hok
  have HT : Hid (Tabs w) := hT
  have hl100 : l.length ≤ 100 := by omega
  obtain ⟨N, hN⟩ : ∃ N, N = l.length := ⟨_, rfl⟩
  have HN : Hid (N = l.length) := hN
  rw [← hN] at HX hl100 hlc1 hl ⊢
  have HD1 : Hid ((w.alloc (.cells #[.string ⟨#[]⟩] 9)).ownsRow w.heap.size 9 1 (.slice (some ⟨w.heap.size, 0, none⟩) 1 1) [mkB []].length ([mkB []].map Tv)) :=
    ⟨by simp, .inr ⟨w.heap.size, 1, #[.string ⟨#[]⟩], rfl, Nat.le_refl _, heap_alloc_new w _, Nat.le_refl _, by unfold maxLen; simp, rfl, rfl⟩⟩
  have HB1 : Hid (Below w.heap.size w (w.alloc (.cells #[.string ⟨#[]⟩] 9))) := (Below.refl _ w).alloc (Nat.le_refl _) _
  clear h hok hT h100 hR hN
  go_enter Tryz.func9, Tryz.ntmps9
  go_wp2_with fail
  go_loopw [3, 13] (fun vd i wr => ∃ (j : Nat) (D : List ByteArray), j ≤ N ∧ i = .int .i64 j ∧ D.length ≤ j + 1 ∧ Hid (dl D = Wk.dirs (its (l.take j))) ∧ Hid (R = Wk.wErrF (its (l.take j)) (its (l.drop j))) ∧ Hid (wr.ownsRow w.heap.size 9 1 vd D.length (D.map Tv)) ∧ Hid (Below w.heap.size w wr)) (fun _ i _ => N - (intOf i).toNat)
  case atStart => exact ⟨0, [mkB []], by omega, rfl, by simp, rfl, HE0, HD1, HB1⟩
  case round =>
    clear HE0 HD1 HB1
    obtain ⟨j, D, hj, rfl, hDj, HD, HE, HO, HB⟩ := hrel
    by_cases hlt : j < N
    · have hjl : j < l.length := by rw [← HN.out]; exact hlt
      obtain ⟨x, hx⟩ : ∃ x, l[j]? = some x := ⟨_, List.getElem?_eq_getElem hjl⟩
      have hxo := HK.out x (List.mem_of_getElem? hx)
      have hst := wErr_step hx
      have HSt : Hid (R = if Wk.iErr x.it ≠ 0 then Wk.iErr x.it else if Wk.late (its (l.take j)) x.it = true then 4 else if Wk.lies (its (l.take j)) x.it = false then 9 else Wk.wErrF (its (l.take (j + 1))) (its (l.drop (j + 1)))) := by
        show _ = _; rw [HE.out, hst]
      have HDm := dirs_more hx
      rw [← HD.out] at HDm
      have hXr := HX.out.below HB.out
      rw [HN.out] at hXr
      obtain ⟨kb, ko, rfl, hkb, x0, x1, x2, x3, x4⟩ := hXr.item j x hx
      have hci := fun W (hW : Below w.heap.size w W) => citem_any x W hxo (HT.out.below hW)
      obtain ⟨a3, c3, e3⟩ := own_form HO.out
      subst e3
      have hok1 : Wk.iErr x.it = 0 → Wk.Ok1 x.it := fun q => Wk.iErr_ok q
      have HP : Hid (Wk.iErr x.it = 0 → (∀ W, Calls Tryz.prog 27 #[.string x.path] W fun e w' => e = .returned (.string (mkB (Wk.par x.it))) ∧ w' = W) ∧ Wk.lies (its (l.take j)) x.it = decide (Wk.par x.it ∈ Wk.dirs (its (l.take j)))) := fun q =>
        ⟨fun W => parent_any x.path (Wk.par x.it) (Wk.nam x.it) W (path_parts (Wk.iErr_ok q)) (Wk.nam_slash (Wk.iErr_ok q)) (path_size (Wk.iErr_ok q) hxo.path), Wk.lies_dirs (Wk.iErr_ok q)⟩
      have HDm2 : Hid (Wk.dirs (its (l.take (j + 1))) = if x.kind = 2 then dl D ++ [x.it.path] else dl D) := HDm
      have HPt : Hid (mkB x.it.path = x.path) := rfl
      obtain ⟨WA, hWA⟩ : ∃ WA, WA = wr.alloc (.cells #[.string x.path, .int .i64 x.kind, .int .i64 x.mode, .int .i64 x.time, .string x.bytes] 46) := ⟨_, rfl⟩
      have hbA : Below wr.heap.size wr WA := by rw [hWA]; exact (Below.refl _ wr).alloc (Nat.le_refl _) _
      have HM : Hid (WA.heap[wr.heap.size]? = some (.cells #[.string x.path, .int .i64 x.kind, .int .i64 x.mode, .int .i64 x.time, .string x.bytes] 46 (0, 0))) := by rw [hWA]; exact heap_alloc_new wr _
      have HBA : Hid (Below w.heap.size w WA) := HB.out.trans (hbA.mono HB.out.size)
      have HOA : Hid (WA.ownsRow w.heap.size 9 1 (.slice a3 D.length c3) D.length (D.map Tv)) := own_below HO.out hbA
      have hciA := hci WA HBA.out
      obtain ⟨PB, hPB⟩ : ∃ PB, PB = wr.heap.size := ⟨_, rfl⟩
      have HPB : Hid (w.heap.size ≤ PB) := by show _ ≤ _; rw [hPB]; exact HB.out.size
      have HPl : Hid (x.path.size ≤ 140737488351232) := hxo.path
      rw [← hPB] at HM
      obtain ⟨DN, hDN⟩ : ∃ DN, DN = D.length := ⟨_, rfl⟩
      have HDN : Hid (DN = D.length) := hDN
      rw [← hDN] at HOA hDj ⊢
      have HHx : Hid (l[j]? = some x) := hx
      obtain ⟨xp, xk, xm, xt, xb⟩ := x
      dsimp only at *
      clear hst HDm hXr hci hbA hx hxo hok1 HE HO HB hDN
      go_wp2_with fail
      rw [← hWA]
      refine hciA.mono ?_
      rintro e w2 ⟨rfl, b2⟩
      have HB2 : Hid (Below w.heap.size w w2) := HBA.out.trans (b2.mono HBA.out.size)
      have hM2 : w2.heap[PB]? = some (.cells #[.string xp, .int .i64 xk, .int .i64 xm, .int .i64 xt, .string xb] 46 (0, 0)) := (b2.block _ (Array.getElem?_eq_some_iff.1 HM.out).1).trans HM.out
      have HM2 : Hid (w2.heap[PB]? = some (.cells #[.string xp, .int .i64 xk, .int .i64 xm, .int .i64 xt, .string xb] 46 (0, 0))) := hM2
      have HO2 : Hid (w2.ownsRow w.heap.size 9 1 (.slice a3 DN c3) DN (D.map Tv)) := own_below HOA.out b2
      obtain ⟨y0, y1, y2, y3, y4, ylt⟩ := five_at hM2
      rw [← hPB]
      clear hWA hciA b2 hM2 x0 x1 x2 x3 x4 hkb HM HOA HBA hPB
      by_cases hE : Wk.iErr (Im.it ⟨xp, xk, xm, xt, xb⟩) = 0
      case neg =>
        have HRe : Hid (R = Wk.iErr (Im.it ⟨xp, xk, xm, xt, xb⟩)) := by show _ = _; rw [HSt.out, if_pos hE]
        have hne : (Wk.iErr (Im.it ⟨xp, xk, xm, xt, xb⟩) != 0) = true := by rw [bne_iff_ne]; exact hE
        generalize Wk.iErr (Im.it ⟨xp, xk, xm, xt, xb⟩) = ER at *
        clear hE HSt HP
        go_wp2_with fail
        go_ret
        exact ⟨by rw [HRe.out]; rfl, HB2.out⟩
      obtain ⟨hpar, hlies⟩ := HP.out hE
      have HSt2 : Hid (R = if Wk.late (its (l.take j)) (Im.it ⟨xp, xk, xm, xt, xb⟩) = true then 4 else if Wk.lies (its (l.take j)) (Im.it ⟨xp, xk, xm, xt, xb⟩) = false then 9 else Wk.wErrF (its (l.take (j + 1))) (its (l.drop (j + 1)))) := by
        show _ = _; rw [HSt.out, if_neg (fun q => q hE)]
      rw [hE]
      obtain ⟨LT, hLT⟩ : ∃ LT, LT = Wk.late (its (l.take j)) (Im.it ⟨xp, xk, xm, xt, xb⟩) := ⟨_, rfl⟩
      have HLT : Hid (LT = Wk.late (its (l.take j)) (Im.it ⟨xp, xk, xm, xt, xb⟩)) := hLT
      clear HSt HP hLT hE
      go_upto_region 10 with fail
      go_cut [36] from 14 to 51 (fun y wx => y = .bool LT ∧ Hid (Below w.heap.size w wx ∧ Below w2.heap.size w2 wx))
      case first =>
        by_cases hj0 : j = 0
        · subst hj0
          have HL0 : Hid (LT = false) := by show _ = _; rw [HLT.out]; rfl
          have hd : decide ((0 : Int) > 0) = false := by decide
          go_region
          all_goals
            go_wp2_with fail
            go_meet
            exact ⟨by rw [HL0.out], HB2.out.drew, (Below.refl _ w2).drew⟩
        · obtain ⟨i, rfl⟩ : ∃ i, j = i + 1 := ⟨j - 1, by omega⟩
          have hil : i < l.length := by omega
          obtain ⟨y, hy⟩ : ∃ y, l[i]? = some y := ⟨_, List.getElem?_eq_getElem hil⟩
          have hyo := HK.out y (List.mem_of_getElem? hy)
          have hla := late_at (x := ⟨xp, xk, xm, xt, xb⟩) hy
          have hX2 := HX.out.below HB2.out
          rw [HN.out] at hX2
          obtain ⟨kb', ko', ee, hkb', u0, _⟩ := hX2.item i y hy
          cases ee
          have hbeh := fun W (hW : Below w2.heap.size w2 W) => behind_any xp y.path W HPl.out hyo.path (HT.out.below (HB2.out.trans (hW.mono HB2.out.size)))
          have HLT' : Hid (LT = Wk.late (its (l.take (i + 1))) (Im.it ⟨xp, xk, xm, xt, xb⟩)) := HLT
          rw [hla] at HLT
          dsimp only at HLT hbeh
          generalize (Nn.less y.path.data.toList xp.data.toList).1 = LS at *
          have hd : decide (((i : Int) + 1) > 0) = true := decide_eq_true (by omega)
          have hij : ((i : Int) + 1 - 1) = i := by omega
          have hgt : ((i : Int) + 1 > 0) := by omega
          have hwr : IntKind.i64.wrap (i : Int) = (i : Int) := by
            simp only [IntKind.wrap, IntKind.bits, IntKind.signed]
            simp
            omega
          have HcX : Hid (∀ W, Gw w2 W → W.cell? ⟨PB, 0, none⟩ = some (.string xp)) := fun W hW => (Below.cell hW (p := ⟨PB, 0, none⟩) ylt).trans y0
          have HcY : Hid (∀ W, Gw w2 W → W.cell? ⟨kb, ko + i * 5, none⟩ = some (.string y.path)) := fun W hW => (Below.cell hW (p := ⟨kb, ko + i * 5, none⟩) hkb').trans u0
          have hiN : (i : Int) < (N : Int) := by omega
          generalize y.path = yp at *
          clear hla hX2 hyo hy hil hj0 hjl HHx
          cases LS with
          | true =>
            have HLf : Hid (LT = false) := HLT
            refine wp_region_rel (G := Gw) (W0 := w2) Gw.refl Gw.trans (by kernel_rfl) (by kernel_rfl) (by kernel_rfl) (Below.refl _ w2).drew ?_
            refine .inl ⟨.int .i64 ((i : Int) + 1), fun v W hW hd => step_run rfl _ W (by clear hd; go_simp) rfl (Gw.refl _), ?_⟩
            simp only [Act.put, List.setIfInBounds_toArray, List.set_cons_zero, List.set_cons_succ]
            refine .inl ⟨.bool true, fun v W hW hd => step_run rfl _ W (by clear hd; have he := hgt; go_simp) rfl (Gw.refl _), ?_⟩
            simp only [Act.put, List.setIfInBounds_toArray, List.set_cons_zero, List.set_cons_succ]
            refine .inl ⟨.bool true, fun v W hW hd => step_run rfl _ W (by clear hd; go_simp) rfl (Gw.refl _), ?_⟩
            simp only [Act.put, List.setIfInBounds_toArray, List.set_cons_zero, List.set_cons_succ]
            refine .inl ⟨.pointer (some ⟨PB, 0, none⟩), fun v W hW hd => step_run rfl _ W (by clear hd; go_simp) rfl (Gw.refl _), ?_⟩
            simp only [Act.put, List.setIfInBounds_toArray, List.set_cons_zero, List.set_cons_succ]
            refine .inl ⟨.string xp, fun v W hW hd => step_run rfl _ W (by clear hd; have ce := HcX.out W hW; go_simp) rfl (Gw.refl _), ?_⟩
            simp only [Act.put, List.setIfInBounds_toArray, List.set_cons_zero, List.set_cons_succ]
            refine .inl ⟨.slice (some ⟨kb, ko, none⟩) N c, fun v W hW hd => step_run rfl _ W (by clear hd; go_simp) rfl (Gw.refl _), ?_⟩
            simp only [Act.put, List.setIfInBounds_toArray, List.set_cons_zero, List.set_cons_succ]
            refine .inl ⟨.int .i64 ((i : Int) + 1), fun v W hW hd => step_run rfl _ W (by clear hd; go_simp) rfl (Gw.refl _), ?_⟩
            simp only [Act.put, List.setIfInBounds_toArray, List.set_cons_zero, List.set_cons_succ]
            refine .inl ⟨.int .i64 (i : Int), fun v W hW hd => step_run rfl _ W (by clear hd; have he := hij; have hf := hwr; go_simp) rfl (Gw.refl _), ?_⟩
            simp only [Act.put, List.setIfInBounds_toArray, List.set_cons_zero, List.set_cons_succ]
            refine .inl ⟨.pointer (some ⟨kb, ko + i * 5, none⟩), fun v W hW hd => step_run rfl _ W (by clear hd; go_simp) rfl (Gw.refl _), ?_⟩
            simp only [Act.put, List.setIfInBounds_toArray, List.set_cons_zero, List.set_cons_succ]
            refine .inl ⟨.pointer (some ⟨kb, ko + i * 5, none⟩), fun v W hW hd => step_run rfl _ W (by clear hd; go_simp) rfl (Gw.refl _), ?_⟩
            simp only [Act.put, List.setIfInBounds_toArray, List.set_cons_zero, List.set_cons_succ]
            refine .inl ⟨.string yp, fun v W hW hd => step_run rfl _ W (by clear hd; have ce := HcY.out W hW; go_simp) rfl (Gw.refl _), ?_⟩
            simp only [Act.put, List.setIfInBounds_toArray, List.set_cons_zero, List.set_cons_succ]
            refine .inl ⟨.bool true, fun v W hW hd => step_call rfl 25 #[.string xp, .string yp] (by clear hd; go_simp) ((hbeh W hW).mono fun e w' h => ⟨_, h.1, rfl, h.2⟩), ?_⟩
            simp only [Act.put, List.setIfInBounds_toArray, List.set_cons_zero, List.set_cons_succ]
            refine .inl ⟨.bool false, fun v W hW hd => step_run rfl _ W (by clear hd; go_simp) rfl (Gw.refl _), ?_⟩
            simp only [Act.put, List.setIfInBounds_toArray, List.set_cons_zero, List.set_cons_succ]
            refine .inl ⟨.bool false, fun v W hW hd => step_run rfl _ W (by clear hd; go_simp) rfl (Gw.refl _), ?_⟩
            simp only [Act.put, List.setIfInBounds_toArray, List.set_cons_zero, List.set_cons_succ]
            intro v w3 hW3 hV
            clear hV
            have b3 : Below w2.heap.size w2 w3 := hW3
            clear hW3
            go_wp2_with fail
            go_meet
            exact ⟨by rw [HLf.out], HB2.out.trans (b3.mono HB2.out.size), b3⟩
          | false =>
            have HLf : Hid (LT = true) := HLT
            refine wp_region_rel (G := Gw) (W0 := w2) Gw.refl Gw.trans (by kernel_rfl) (by kernel_rfl) (by kernel_rfl) (Below.refl _ w2).drew ?_
            refine .inl ⟨.int .i64 ((i : Int) + 1), fun v W hW hd => step_run rfl _ W (by clear hd; go_simp) rfl (Gw.refl _), ?_⟩
            simp only [Act.put, List.setIfInBounds_toArray, List.set_cons_zero, List.set_cons_succ]
            refine .inl ⟨.bool true, fun v W hW hd => step_run rfl _ W (by clear hd; have he := hgt; go_simp) rfl (Gw.refl _), ?_⟩
            simp only [Act.put, List.setIfInBounds_toArray, List.set_cons_zero, List.set_cons_succ]
            refine .inl ⟨.bool true, fun v W hW hd => step_run rfl _ W (by clear hd; go_simp) rfl (Gw.refl _), ?_⟩
            simp only [Act.put, List.setIfInBounds_toArray, List.set_cons_zero, List.set_cons_succ]
            refine .inl ⟨.pointer (some ⟨PB, 0, none⟩), fun v W hW hd => step_run rfl _ W (by clear hd; go_simp) rfl (Gw.refl _), ?_⟩
            simp only [Act.put, List.setIfInBounds_toArray, List.set_cons_zero, List.set_cons_succ]
            refine .inl ⟨.string xp, fun v W hW hd => step_run rfl _ W (by clear hd; have ce := HcX.out W hW; go_simp) rfl (Gw.refl _), ?_⟩
            simp only [Act.put, List.setIfInBounds_toArray, List.set_cons_zero, List.set_cons_succ]
            refine .inl ⟨.slice (some ⟨kb, ko, none⟩) N c, fun v W hW hd => step_run rfl _ W (by clear hd; go_simp) rfl (Gw.refl _), ?_⟩
            simp only [Act.put, List.setIfInBounds_toArray, List.set_cons_zero, List.set_cons_succ]
            refine .inl ⟨.int .i64 ((i : Int) + 1), fun v W hW hd => step_run rfl _ W (by clear hd; go_simp) rfl (Gw.refl _), ?_⟩
            simp only [Act.put, List.setIfInBounds_toArray, List.set_cons_zero, List.set_cons_succ]
            refine .inl ⟨.int .i64 (i : Int), fun v W hW hd => step_run rfl _ W (by clear hd; have he := hij; have hf := hwr; go_simp) rfl (Gw.refl _), ?_⟩
            simp only [Act.put, List.setIfInBounds_toArray, List.set_cons_zero, List.set_cons_succ]
            refine .inl ⟨.pointer (some ⟨kb, ko + i * 5, none⟩), fun v W hW hd => step_run rfl _ W (by clear hd; go_simp) rfl (Gw.refl _), ?_⟩
            simp only [Act.put, List.setIfInBounds_toArray, List.set_cons_zero, List.set_cons_succ]
            refine .inl ⟨.pointer (some ⟨kb, ko + i * 5, none⟩), fun v W hW hd => step_run rfl _ W (by clear hd; go_simp) rfl (Gw.refl _), ?_⟩
            simp only [Act.put, List.setIfInBounds_toArray, List.set_cons_zero, List.set_cons_succ]
            refine .inl ⟨.string yp, fun v W hW hd => step_run rfl _ W (by clear hd; have ce := HcY.out W hW; go_simp) rfl (Gw.refl _), ?_⟩
            simp only [Act.put, List.setIfInBounds_toArray, List.set_cons_zero, List.set_cons_succ]
            refine .inl ⟨.bool false, fun v W hW hd => step_call rfl 25 #[.string xp, .string yp] (by clear hd; go_simp) ((hbeh W hW).mono fun e w' h => ⟨_, h.1, rfl, h.2⟩), ?_⟩
            simp only [Act.put, List.setIfInBounds_toArray, List.set_cons_zero, List.set_cons_succ]
            refine .inl ⟨.bool true, fun v W hW hd => step_run rfl _ W (by clear hd; go_simp) rfl (Gw.refl _), ?_⟩
            simp only [Act.put, List.setIfInBounds_toArray, List.set_cons_zero, List.set_cons_succ]
            refine .inl ⟨.bool true, fun v W hW hd => step_run rfl _ W (by clear hd; go_simp) rfl (Gw.refl _), ?_⟩
            simp only [Act.put, List.setIfInBounds_toArray, List.set_cons_zero, List.set_cons_succ]
            intro v w3 hW3 hV
            clear hV
            have b3 : Below w2.heap.size w2 w3 := hW3
            clear hW3
            go_wp2_with fail
            go_meet
            exact ⟨by rw [HLf.out], HB2.out.trans (b3.mono HB2.out.size), b3⟩
      case rest =>
      obtain ⟨rfl, hbb⟩ := hcut
      have HB3 : Hid (Below w.heap.size w wc) := hbb.out.1
      have HM3 : Hid (wc.heap[PB]? = some (.cells #[.string xp, .int .i64 xk, .int .i64 xm, .int .i64 xt, .string xb] 46 (0, 0))) := (hbb.out.2.block _ (Array.getElem?_eq_some_iff.1 HM2.out).1).trans HM2.out
      have HO3 : Hid (wc.ownsRow w.heap.size 9 1 (.slice a3 DN c3) DN (D.map Tv)) := own_below HO2.out hbb.out.2
      clear HB2 HM2 HO2 hbb y0 y1 y2 y3 y4 ylt
      obtain ⟨y0, y1, y2, y3, y4, ylt⟩ := five_at HM3.out
      have hpw : PB < wc.heap.size := ylt
      cases LT with
      | true =>
        have HRe : Hid (R = 4) := by show _ = _; rw [HSt2.out, ← HLT.out]; rfl
        clear HSt2 hlies hpar
        go_wp2_with fail
        go_ret
        exact ⟨by rw [HRe.out]; rfl, HB3.out⟩
      | false =>
      have HSt3 : Hid (R = if decide (Wk.par (Im.it ⟨xp, xk, xm, xt, xb⟩) ∈ dl D) = false then 9 else Wk.wErrF (its (l.take (j + 1))) (its (l.drop (j + 1)))) := by
        show _ = _
        rw [HSt2.out, ← HLT.out, if_neg (by decide), hlies, HD.out]
      have hcont : Calls Tryz.prog 26 #[.slice a3 DN c3, .string (mkB (Wk.par (Im.it ⟨xp, xk, xm, xt, xb⟩)))] wc fun e w' => e = .returned (.bool (decide (Wk.par (Im.it ⟨xp, xk, xm, xt, xb⟩) ∈ dl D))) ∧ w' = wc := by
        have hx := Tx.of_own (w := wc) (l := D) (v := .slice a3 DN c3) (base := w.heap.size) (by rw [← HDN.out]; exact HO3.out)
        by_cases hD0 : D = []
        · subst hD0
          have : DN = 0 := HDN.out
          subst this
          exact Tryz.slices_Contains_string_empty a3 c3 _ wc
        · have hpos : 0 < D.length := List.length_pos_iff.2 hD0
          obtain ⟨bk, o, rfl, hbk, _⟩ := hx.get 0 hpos
          have := Tryz.slices_Contains_string bk o DN c3 D (mkB (Wk.par (Im.it ⟨xp, xk, xm, xt, xb⟩))) wc (by rw [HDN.out]; exact Nat.le_refl _) (by omega) (fun q hq => by
            obtain ⟨bk', o', ee, _, hc⟩ := hx.get q hq
            cases ee
            exact hc)
          rw [HDN.out, List.take_of_length_le (Nat.le_refl _), ← HDN.out, cont_dirs rfl] at this
          exact this
      generalize mkB (Wk.par (Im.it ⟨xp, xk, xm, xt, xb⟩)) = PP at *
      generalize decide (Wk.par (Im.it ⟨xp, xk, xm, xt, xb⟩) ∈ dl D) = CT at *
      clear HSt2 hlies HLT
      cases CT with
      | false =>
        have HRe : Hid (R = 9) := by show _ = _; rw [HSt3.out]; rfl
        clear HSt3
        go_wp2_with fail
        refine (hpar _).mono ?_
        rintro e u ⟨rfl, hu⟩
        obtain rfl := hu.symm
        clear hu
        go_wp2_with fail
        refine hcont.mono ?_
        rintro e u ⟨rfl, hu⟩
        obtain rfl := hu.symm
        clear hu
        go_wp2_with fail
        go_ret
        exact ⟨by rw [HRe.out]; rfl, HB3.out⟩
      | true =>
        have HRn : Hid (R = Wk.wErrF (its (l.take (j + 1))) (its (l.drop (j + 1)))) := by show _ = _; rw [HSt3.out]; rfl
        clear HSt3
        go_wp2_with fail
        refine (hpar _).mono ?_
        rintro e u ⟨rfl, hu⟩
        obtain rfl := hu.symm
        clear hu hpar
        go_wp2_with fail
        refine hcont.mono ?_
        rintro e u ⟨rfl, hu⟩
        obtain rfl := hu.symm
        clear hu hcont
        by_cases hk2 : xk = 2
        · have HDn : Hid (dl (D ++ [xp]) = Wk.dirs (its (l.take (j + 1)))) := by
            show _ = _
            rw [HDm2.out, if_pos hk2]
            show (D ++ [xp]).map _ = D.map _ ++ _
            rw [List.map_append]; rfl
          have hown := HO3.out
          have hws := HB3.out.size
          subst hk2
          go_wp2_with (at_builtin; refine wpList_append_own _ rfl (.tmp 46) (.tmp 49) 62 rfl w.heap.size 9 i0 (.string ⟨#[]⟩) 1 16 Tryz.underlying62 hi hz0 hz1 hz2 rfl (by decide) _ _ _ rfl (hown.alloc _) ⟨wc.heap.size, 0, none⟩ 1 1 [.string xp] rfl rfl ?c1 ?c2 ?c3 ?c4 ?c5 ?_)
          case c1 => intro q u hq; match q, hq with | 0, hq => simp at hq; subst hq; simp [Addr.add]
          case c2 => simp [Value.oneCell']
          case c3 => unfold maxLen; omega
          case c4 => omega
          case c5 => simp; omega
          intro v1 w5 hown5 hgrow _
          have hB5 : Below w.heap.size w w5 := (HB3.out.alloc hws _).grown hgrow (by rw [World.size_alloc]; omega) fun q hq => (hown.lt q hq).1
          have HB5 : Hid (Below w.heap.size w w5) := hB5
          have HO5 : Hid (w5.ownsRow w.heap.size 9 1 v1 (D ++ [xp]).length ((D ++ [xp]).map Tv)) := by
            show World.ownsRow _ _ _ _ _ _ _
            rw [List.length_append, ← HDN.out, List.map_append]
            exact hown5
          have hD5 : (D ++ [xp]).length ≤ j + 1 + 1 := by rw [List.length_append, ← HDN.out]; simp; omega
          clear hown5 hgrow hown hB5
          go_wp2_with fail
          go_roundw
          case measure => simp only [intOf]; omega
          case rel => exact ⟨j + 1, D ++ [xp], by omega, by go_num, hD5, HDn, HRn, HO5, HB5⟩
        · have HDn : Hid (dl D = Wk.dirs (its (l.take (j + 1)))) := by show _ = _; rw [HDm2.out, if_neg hk2]
          have hk2' : (xk == 2) = false := beq_eq_false_iff_ne.2 hk2
          have hD5 : D.length ≤ j + 1 + 1 := by rw [← HDN.out]; omega
          have HO5 : Hid (wc.ownsRow w.heap.size 9 1 (.slice a3 DN c3) D.length (D.map Tv)) := by rw [← HDN.out]; exact HO3.out
          clear hk2
          go_wp2_with fail
          go_roundw
          case measure => simp only [intOf]; omega
          case rel => exact ⟨j + 1, D, by omega, by go_num, hD5, HDn, HRn, HO5, HB3⟩
    · obtain rfl : j = N := by omega
      have HRe : Hid (R = 0) := by
        have e : l.drop j = [] := by rw [HN.out]; exact List.drop_of_length_le (Nat.le_refl _)
        show _ = _
        rw [HE.out, e]; rfl
      clear HE
      go_wp2_with fail
      go_ret
      exact ⟨by rw [HRe.out]; rfl, HB.out⟩

end Go.Proofs.YtimdioacmojkeaaGreatDoor

namespace Go.Proofs.YtimdioacmojkeaaGreatDoor
open Go.RowKit
set_option maxRecDepth 4000

theorem tails_snoc (l : List Nn.Name) (s : Nn.Name) : Nn.tails (l ++ [s]) = Nn.tails l ++ 47 :: s := by simp [Nn.tails]
theorem dl_take (l : List ByteArray) (k : Nat) (hk : k < l.length) : dl (l.take (k + 1)) = dl (l.take k) ++ [(l.getD k ByteArray.empty).data.toList] := by
  rw [List.take_succ_eq_append_getElem hk, dl_app, List.getD_eq_getElem?_getD, List.getElem?_eq_getElem hk]
  rfl
theorem tails_take {l : List ByteArray} (h : (Nn.tails (dl l)).length ≤ 776) (k : Nat) : (Nn.tails (dl (l.take k))).length ≤ 776 := by
  have e : Nn.tails (dl l) = Nn.tails (dl (l.take k)) ++ Nn.tails (dl (l.drop k)) := by
    unfold Nn.tails
    rw [← List.flatMap_append]
    congr 1
    unfold dl
    rw [← List.map_append, List.take_append_drop]
  rw [e, List.length_append] at h
  omega
theorem cat_more (x : List UInt8) (t : ByteArray) : (⟨x.toArray⟩ : ByteArray) ++ ((⟨#[47]⟩ : ByteArray) ++ t) = ⟨(x ++ 47 :: t.data.toList).toArray⟩ := by
  apply ByteArray.ext
  apply Array.toList_inj.1
  simp

set_option maxHeartbeats 2000000 in
theorem rjoin_any (v : Value) (l : List ByteArray) (w : World) (h : Tx w v l) (hl : l.length ≤ 140737488351232) (hf : ∀ s ∈ l, s.size ≤ 4194304) :
    Calls Tryz.prog 31 #[v] w (JnOut (dl l) w) := by
  have he := rerr_any v l w h hl hf
  obtain ⟨a, c, rfl⟩ := h.slice
  by_cases h0 : Nn.errs (dl l) = 0
  · rw [h0] at he
    by_cases hn : l = []
    · have HJ : Hid (Nn.join (dl l) = ([47], 0)) := by
        show _ = _
        unfold Nn.join
        rw [if_neg (by simpa using h0), hn]; rfl
      subst hn
      clear h h0
      go_enter Tryz.func31, Tryz.ntmps31
      go_wp2_with fail
      refine he.mono ?_
      rintro e w1 ⟨rfl, b1⟩
      have HB : Hid (Below w.heap.size w w1) := b1
      clear b1 he
      go_wp2_with fail
      go_ret2
      exact ⟨by rw [HJ.out]; rfl, HB.out⟩
    · have HJ : Hid (Nn.join (dl l) = (Nn.tails (dl l), 0)) := by
        show _ = _
        unfold Nn.join Nn.joinB
        rw [if_neg (by simpa using h0), if_neg (fun e => hn (by simpa [dl] using e))]
      have HT : Hid ((Nn.tails (dl l)).length ≤ 776) := Nn.tails_few h0
      have HX : Hid (Tx w (.slice a l.length c) l) := h
      have hl8 : l.length ≤ 8 := by
        have := Nn.errs_len h0
        rwa [dl_length] at this
      have hl1 : 1 ≤ l.length := List.length_pos_iff.2 hn
      have HZ : Hid (∀ k, k < l.length → (l.getD k ByteArray.empty).size ≤ 96) := fun k hk => by
        rw [List.getD_eq_getElem?_getD, List.getElem?_eq_getElem hk]
        have := Nn.nm_long (Nn.errs_ok h0 _ (List.mem_map_of_mem (List.getElem_mem hk)))
        rw [← Lib.size_eq] at this
        exact this
      obtain ⟨N, hN⟩ : ∃ N, N = l.length := ⟨_, rfl⟩
      have HN : Hid (N = l.length) := hN
      rw [← hN] at HX he hl8 hl1 ⊢
      have hz : ((N : Int) == 0) = false := by rw [beq_eq_false_iff_ne]; omega
      clear h h0 hn hN hf hl
      go_enter Tryz.func31, Tryz.ntmps31
      go_wp2_with fail
      refine he.mono ?_
      rintro e w1 ⟨rfl, b1⟩
      have HB : Hid (Below w.heap.size w w1) := b1
      have HX1 : Hid (Tx w1 (.slice a N c) l) := HX.out.below b1
      clear b1 he HX
      go_wp2_with fail
      go_loop [5, 18] (fun o i => ∃ k : Nat, k ≤ N ∧ i = .int .i64 k ∧ o = St (Nn.tails (dl (l.take k)))) (fun _ i => N - (intOf i).toNat)
      case atStart => exact ⟨0, by omega, rfl, rfl⟩
      case round =>
        obtain ⟨k, hk, rfl, rfl⟩ := hrel
        by_cases hlt : k < N
        · have hkl : k < l.length := by rw [← HN.out]; exact hlt
          obtain ⟨bk, o, rfl, hbk, c0⟩ := HX1.out.get k hkl
          have h96 := HZ.out k hkl
          have hx := tails_take HT.out k
          have HK : Hid (Nn.tails (dl (l.take (k + 1))) = Nn.tails (dl (l.take k)) ++ 47 :: (l.getD k ByteArray.empty).data.toList) := by
            show _ = _
            rw [dl_take _ _ hkl, tails_snoc]
          generalize l.getD k ByteArray.empty = t at *
          generalize Nn.tails (dl (l.take k)) = X at *
          have hsum : ¬ 9223372036854775807 < X.length + (1 + t.size) := by omega
          have hsum1 : ¬ 9223372036854775807 < 1 + t.size := by omega
          rw [St]
          go_wp2_with fail
          go_round
          case rel => exact ⟨k + 1, by omega, by go_num, by rw [HK.out, cat_more]; rfl⟩
          case measure => simp only [intOf]; omega
        · obtain rfl : k = N := by omega
          have HK : Hid (Nn.tails (dl (l.take k)) = Nn.tails (dl l)) := by
            show _ = _
            rw [HN.out, List.take_length]
          go_wp2_with fail
          go_ret2
          exact ⟨by rw [HJ.out, ← HK.out]; rfl, HB.out⟩
  · have HJ : Hid (Nn.join (dl l) = ([], Nn.errs (dl l))) := by
      show _ = _
      unfold Nn.join
      rw [if_pos h0]
    generalize Nn.errs (dl l) = E at *
    have hqn : (E != 0) = true := by rw [bne_iff_ne]; exact h0
    clear h h0
    go_enter Tryz.func31, Tryz.ntmps31
    go_wp2_with fail
    refine he.mono ?_
    rintro e w1 ⟨rfl, b1⟩
    have HB : Hid (Below w.heap.size w w1) := b1
    clear b1 he
    go_wp2_with fail
    go_ret2
    exact ⟨by rw [HJ.out]; rfl, HB.out⟩

/-- how far Clean is: what is kept, and what is left of the parts -/
structure RlS (Z : Option (List Nn.Name)) (n : Nat) (K L : List ByteArray) (k : Nat) : Prop where
  stk : Nn.stk (dl K) (dl (L.drop k)) = Z
  few : ∀ s ∈ K, s.size ≤ n
  len : K.length ≤ k
theorem dl_cons (L : List ByteArray) (k : Nat) (hk : k < L.length) : dl (L.drop k) = (L.getD k ByteArray.empty).data.toList :: dl (L.drop (k + 1)) := by
  rw [List.drop_eq_getElem_cons hk, List.getD_eq_getElem?_getD, List.getElem?_eq_getElem hk]
  rfl
end Go.Proofs.YtimdioacmojkeaaGreatDoor

namespace Go.Proofs.YtimdioacmojkeaaGreatDoor
open Go.RowKit
set_option maxRecDepth 4000

/-- all but the first text -/
theorem tx_tail {w : World} {bk o n c : Nat} {t : ByteArray} {l : List ByteArray} (h : Tx w (.slice (some ⟨bk, o, none⟩) (n + 1) c) (t :: l)) (hc : n + 1 ≤ c) :
    Tx w (.slice (if c = 1 then some ⟨bk, o, none⟩ else some ⟨bk, o + 1, none⟩) n (c - 1)) l ∧ Cp (.slice (if c = 1 then some (⟨bk, o, none⟩ : Addr) else some ⟨bk, o + 1, none⟩) n (c - 1)) := by
  refine ⟨?_, fun a m d he => by cases he; omega⟩
  rcases h.at_ with ⟨_, hx⟩ | ⟨bk', o', cap, hv, hb, hcell⟩
  · cases hx
  · simp at hv
    obtain ⟨⟨rfl, rfl⟩, rfl, rfl⟩ := hv
    cases l with
    | nil => exact ⟨.inl ⟨⟨_, _, rfl⟩, rfl⟩⟩
    | cons u l =>
      simp only [List.length_cons] at hc
      refine ⟨.inr ⟨bk, o + 1, c - 1, by rw [if_neg (by omega)], hb, fun j hj => ?_⟩⟩
      have := hcell (j + 1) (by simp only [List.length_cons] at hj ⊢; omega)
      rw [show o + 1 + j = o + (j + 1) from by omega, this]
      simp

set_option maxHeartbeats 2000000 in
theorem rahead_any : ∀ (l m : List ByteArray) (v1 v2 : Value) (w : World), Tx w v1 l → Tx w v2 m → Cp v1 → Cp v2 → l.length ≤ 4194305 → m.length ≤ 4194305 →
    Calls Tryz.prog 53 #[v1, v2] w fun e w' => e = .returned (.bool (Nn.ahead (dl l) (dl m))) ∧ Below w.heap.size w w' := by
  intro l
  induction l with
  | nil =>
    intro m v1 v2 w h1 h2 _ _ _ hm
    obtain ⟨a1, c1, rfl⟩ := h1.slice
    obtain ⟨a2, c2, rfl⟩ := h2.slice
    cases m with
    | nil =>
      clear h1 h2
      go_enter Tryz.func53, Tryz.ntmps53
      go_wp2_with fail
      go_ret
      exact ⟨rfl, Below.refl _ _⟩
    | cons t m =>
      have hz : (((t :: m).length : Int) == 0) = false := by rw [beq_eq_false_iff_ne]; simp; omega
      have HA : Hid (Nn.ahead (dl []) (dl (t :: m)) = true) := rfl
      generalize (t :: m).length = n at *
      clear h1 h2
      go_enter Tryz.func53, Tryz.ntmps53
      go_wp2_with fail
      go_ret
      exact ⟨by rw [HA.out]; rfl, Below.refl _ _⟩
  | cons s l ih =>
    intro m v1 v2 w h1 h2 hc1 hc2 hl hm
    obtain ⟨a1, c1, rfl⟩ := h1.slice
    obtain ⟨a2, c2, rfl⟩ := h2.slice
    cases m with
    | nil =>
      have HA : Hid (Nn.ahead (dl (s :: l)) (dl []) = false) := rfl
      generalize (s :: l).length = n at *
      clear h1 h2 ih
      go_enter Tryz.func53, Tryz.ntmps53
      go_wp2_with fail
      go_ret
      exact ⟨by rw [HA.out]; rfl, Below.refl _ _⟩
    | cons t m =>
      have k1 := hc1 _ _ _ rfl
      have k2 := hc2 _ _ _ rfl
      obtain ⟨bk, o, rfl, hbk, d1⟩ := h1.get 0 (by simp)
      obtain ⟨bk', o', rfl, hbk', d2⟩ := h2.get 0 (by simp)
      simp only [List.length_cons] at h1 h2 k1 k2 hl hm ⊢
      rw [Nat.add_zero] at d1 d2
      have d1 : w.cell? ⟨bk, o, none⟩ = some (.string s) := d1
      have d2 : w.cell? ⟨bk', o', none⟩ = some (.string t) := d2
      have x1 := tx_tail h1 k1
      have x2 := tx_tail h2 k2
      have HA : Hid (Nn.ahead (dl (s :: l)) (dl (t :: m)) = if s.data.toList = t.data.toList then Nn.ahead (dl l) (dl m) else Op.bytesLess s.data.toList t.data.toList) := rfl
      have hi := fun u (hu : Below w.heap.size w u) => ih m _ _ u (x1.1.below hu) (x2.1.below hu) x1.2 x2.2 (by omega) (by omega)
      generalize l.length = n1 at *
      generalize m.length = n2 at *
      have z1 : (((n1 + 1 : Nat) : Int) == 0) = false := by rw [beq_eq_false_iff_ne]; omega
      have z2 : (((n2 + 1 : Nat) : Int) == 0) = false := by rw [beq_eq_false_iff_ne]; omega
      clear ih h1 h2 x1 x2 hc1 hc2
      obtain ⟨A1, hA1⟩ : ∃ A1, (if c1 = 1 then some (⟨bk, o, none⟩ : Addr) else some ⟨bk, o + 1, none⟩) = A1 := ⟨_, rfl⟩
      obtain ⟨A2, hA2⟩ : ∃ A2, (if c2 = 1 then some (⟨bk', o', none⟩ : Addr) else some ⟨bk', o' + 1, none⟩) = A2 := ⟨_, rfl⟩
      rw [hA1, hA2] at hi
      by_cases he : s.data.toList = t.data.toList
      · have HE : Hid (Nn.ahead (dl (s :: l)) (dl (t :: m)) = Nn.ahead (dl l) (dl m)) := by
          have := HA.out
          rwa [if_pos he] at this
        have e1 : (s.toList == t.toList) = true := by rw [Lib.toList_data, Lib.toList_data, he, beq_self_eq_true]
        generalize Nn.ahead (dl l) (dl m) = R at *
        clear HA he
        go_enter Tryz.func53, Tryz.ntmps53
        go_wp2_with fail
        go_region
        go_wp2_with fail
        have hsz : w.heap.size ≤ w.drew.heap.size := Nat.le_refl _
        refine wp_region_rel (G := Gw) (W0 := w.drew) Gw.refl Gw.trans (by kernel_rfl) (by kernel_rfl) (by kernel_rfl) (Below.refl _ w.drew).drew ?_
        refine .inl ⟨.slice (some ⟨bk, o, none⟩) (n1 + 1) c1, fun v W hW hd => step_run rfl _ W (by clear hd; go_simp) rfl (Gw.refl _), ?_⟩
        simp only [Act.put, List.setIfInBounds_toArray, List.set_cons_zero, List.set_cons_succ]
        refine .inl ⟨.slice A1 n1 (c1 - 1), fun v W hW hd => step_run rfl _ W (by clear hd hi; go_simp; intro hq; omega) rfl (Gw.refl _), ?_⟩
        simp only [Act.put, List.setIfInBounds_toArray, List.set_cons_zero, List.set_cons_succ]
        refine .inl ⟨.slice (some ⟨bk', o', none⟩) (n2 + 1) c2, fun v W hW hd => step_run rfl _ W (by clear hd; go_simp) rfl (Gw.refl _), ?_⟩
        simp only [Act.put, List.setIfInBounds_toArray, List.set_cons_zero, List.set_cons_succ]
        refine .inl ⟨.slice A2 n2 (c2 - 1), fun v W hW hd => step_run rfl _ W (by clear hd hi; go_simp; intro hq; omega) rfl (Gw.refl _), ?_⟩
        simp only [Act.put, List.setIfInBounds_toArray, List.set_cons_zero, List.set_cons_succ]
        refine .inl ⟨.bool R, fun v W hW hd => step_call rfl 53 #[.slice A1 n1 (c1 - 1), .slice A2 n2 (c2 - 1)] (by clear hd; go_simp) ((hi W ((Below.refl _ w).drew.trans (Below.mono hW hsz))).mono fun e w' h => ⟨_, h.1, rfl, h.2⟩), ?_⟩
        simp only [Act.put, List.setIfInBounds_toArray, List.set_cons_zero, List.set_cons_succ]
        refine .inl ⟨.bool R, fun v W hW hd => step_run rfl _ W (by clear hd; go_simp) rfl (Gw.refl _), ?_⟩
        simp only [Act.put, List.setIfInBounds_toArray, List.set_cons_zero, List.set_cons_succ]
        intro v W hW _
        have HB : Hid (Below w.heap.size w W) := (Below.refl _ w).drew.trans (Below.mono hW hsz)
        clear hi hW hA1 hA2
        go_wp2_with fail
        go_ret
        exact ⟨by rw [HE.out]; rfl, HB.out⟩
      · have HE : Hid (Nn.ahead (dl (s :: l)) (dl (t :: m)) = Op.bytesLess s.toList t.toList) := by
          have := HA.out
          rw [if_neg he] at this
          rw [Lib.toList_data, Lib.toList_data]
          exact this
        have e1 : (s.toList == t.toList) = false := by rw [Lib.toList_data, Lib.toList_data, beq_eq_false_iff_ne]; exact he
        clear HA he hi hA1 hA2
        go_enter Tryz.func53, Tryz.ntmps53
        go_wp2_with fail
        go_region
        go_wp2_with fail
        go_region
        go_wp2_with fail
        go_ret
        exact ⟨by rw [HE.out]; rfl, by first | exact Below.refl _ _ | exact (Below.refl _ _).drew | exact (Below.refl _ _).drew.drew⟩

set_option maxHeartbeats 1000000 in
theorem rless_any (a b : ByteArray) (w : World) (ha : a.size ≤ 4194304) (hb : b.size ≤ 4194304) :
    Calls Tryz.prog 29 #[.string a, .string b] w fun e w' => e = .returned (.tuple #[.bool (Nn.less a.data.toList b.data.toList).1, .int .i64 (Nn.less a.data.toList b.data.toList).2]) ∧ Below w.heap.size w w' := by
  have h1 := rsplit_any a w ha
  by_cases e1 : (Nn.split a.data.toList).2 = 0
  · by_cases e2 : (Nn.split b.data.toList).2 = 0
    · have HL : Hid (Nn.less a.data.toList b.data.toList = (Nn.ahead (Nn.split a.data.toList).1 (Nn.split b.data.toList).1, 0)) := by
        show _ = _
        unfold Nn.less
        rw [if_neg (by simpa using e1), if_neg (by simpa using e2)]
      have k1 := split_len e1
      have k2 := split_len e2
      go_enter Tryz.func29, Tryz.ntmps29
      go_wp2_with fail
      refine h1.mono ?_
      rintro e w1 ⟨v1, l1, rfl, hd1, x1, p1, b1⟩
      have h2 := rsplit_any b w1 hb
      rw [← hd1] at HL k1
      rw [e1]
      clear h1 hd1 e1
      go_wp2_with fail
      refine h2.mono ?_
      rintro e w2 ⟨v2, l2, rfl, hd2, x2, p2, b2⟩
      rw [← hd2] at HL k2
      rw [e2]
      rw [dl_length] at k1 k2
      have hq := rahead_any l1 l2 v1 v2 w2 (x1.below b2) x2 p1 p2 (by omega) (by omega)
      have HB : Hid (Below w.heap.size w w2) := b1.trans (b2.mono b1.size)
      obtain ⟨a1, c1, rfl⟩ := x1.slice
      obtain ⟨a2, c2, rfl⟩ := x2.slice
      generalize Nn.ahead (dl l1) (dl l2) = Z at *
      clear h2 hd2 e2 x1 x2 b1 b2
      go_wp2_with fail
      refine hq.mono ?_
      rintro e u ⟨rfl, hu⟩
      have HB2 : Hid (Below w.heap.size w u) := HB.out.trans (hu.mono HB.out.size)
      clear hu
      go_wp2_with fail
      go_ret2
      exact ⟨by rw [HL.out]; rfl, HB2.out⟩
    · have HL : Hid (Nn.less a.data.toList b.data.toList = (false, (Nn.split b.data.toList).2)) := by
        show _ = _
        unfold Nn.less
        rw [if_neg (by simpa using e1), if_pos e2]
      go_enter Tryz.func29, Tryz.ntmps29
      go_wp2_with fail
      refine h1.mono ?_
      rintro e w1 ⟨v1, l1, rfl, _, x1, _, b1⟩
      have h2 := rsplit_any b w1 hb
      have HB : Hid (Below w.heap.size w w1) := b1
      rw [e1]
      obtain ⟨a1, c1, rfl⟩ := x1.slice
      clear h1 e1 x1 b1
      go_wp2_with fail
      refine h2.mono ?_
      rintro e w2 ⟨v2, l2, rfl, _, x2, _, b2⟩
      have HB2 : Hid (Below w.heap.size w w2) := HB.out.trans (b2.mono HB.out.size)
      obtain ⟨a2, c2, rfl⟩ := x2.slice
      generalize (Nn.split b.data.toList).2 = E at *
      have hqn : (E != 0) = true := by rw [bne_iff_ne]; exact e2
      clear h2 e2 x2 b2
      go_wp2_with fail
      go_ret2
      exact ⟨by rw [HL.out]; rfl, HB2.out⟩
  · have HL : Hid (Nn.less a.data.toList b.data.toList = (false, (Nn.split a.data.toList).2)) := by
      show _ = _
      unfold Nn.less
      rw [if_pos e1]
    go_enter Tryz.func29, Tryz.ntmps29
    go_wp2_with fail
    refine h1.mono ?_
    rintro e w1 ⟨v1, l1, rfl, _, x1, _, b1⟩
    have HB : Hid (Below w.heap.size w w1) := b1
    obtain ⟨a1, c1, rfl⟩ := x1.slice
    generalize (Nn.split a.data.toList).2 = E at *
    have hqn : (E != 0) = true := by rw [bne_iff_ne]; exact e1
    clear h1 e1 x1 b1
    go_wp2_with fail
    go_ret2
    exact ⟨by rw [HL.out]; rfl, HB.out⟩
end Go.Proofs.YtimdioacmojkeaaGreatDoor

namespace Go.Proofs.YtimdioacmojkeaaGreatDoor
open Go.RowKit
set_option maxRecDepth 4000

/-- is the directory there among the first so many? -/
def fnd (l : List Im) (i : Nat) (U : ByteArray) : Bool := decide (U.data.toList = [47]) || (l.take i).any fun y => decide (y.path = U) && decide (y.kind = 2)

theorem fnd_lies (l : List Im) (i : Nat) (x : Im) (U : ByteArray) (hU : U.data.toList = Wk.up x.it) : fnd l i U = Wk.lies (its (l.take i)) x.it := by
  unfold fnd Wk.lies its
  rw [List.any_map, hU]
  congr 2
  funext y
  have e : decide (y.path = U) = decide (y.it.path = Wk.up x.it) := by
    rw [decide_eq_decide, ← hU]
    show _ ↔ y.path.data.toList = _
    constructor
    · intro h; rw [h]
    · intro h
      have := congrArg List.toArray h
      exact ByteArray.ext (by simpa using this)
  rw [e]
  rfl

theorem fnd_step {l : List Im} {i : Nat} {y : Im} (hy : l[i]? = some y) (U : ByteArray) : fnd l (i + 1) U = (fnd l i U || (decide (y.path = U) && decide (y.kind = 2))) := by
  unfold fnd
  rw [List.take_add_one, hy, Option.toList_some, List.any_append]
  simp [Bool.or_assoc]

theorem tx_front {w : World} {a : Option Addr} {n c : Nat} {l : List ByteArray} (h : Tx w (.slice a n c) l) (k : Nat) (hk : k ≤ l.length) : Tx w (.slice a k c) (l.take k) := by
  rcases h.at_ with ⟨_, rfl⟩ | ⟨bk, o, cap, h1, h3, h4⟩
  · obtain rfl : k = 0 := by simpa using hk
    exact ⟨.inl ⟨⟨_, _, rfl⟩, rfl⟩⟩
  · simp at h1
    obtain ⟨rfl, rfl, rfl⟩ := h1
    have hlt : (l.take k).length = k := by rw [List.length_take]; omega
    refine ⟨.inr ⟨bk, o, c, by rw [hlt], h3, fun j hj => ?_⟩⟩
    rw [hlt] at hj
    rw [h4 j (by omega), List.getD_eq_getElem?_getD, List.getD_eq_getElem?_getD, List.getElem?_take, if_pos hj]

set_option maxHeartbeats 4000000 in
set_option maxRecDepth 10000 in
theorem rworld_any (v : Value) (l : List Im) (w : World) (h : Ims w v l) (hs : ∀ x ∈ l, x.path.size ≤ 1048576 ∧ x.bytes.size ≤ 1048576) :
    Calls Tryz.prog 10 #[v] w fun e w' => e = .returned (.int .i64 (Wk.world (its l))) ∧ Below w.heap.size w w' := by
  obtain ⟨a, c, rfl, hlc1, hlc2⟩ := h.slice
  by_cases h100 : 100 < l.length
  · have HE : Hid (Wk.world (its l) = 2) := by show _ = _; unfold Wk.world; rw [if_pos (by rw [its_length]; exact h100)]
    have hg : (l.length : Int) > 100 := by omega
    generalize l.length = n at *
    go_enter Tryz.func10, Tryz.ntmps10
    go_wp2_with fail
    go_ret
    exact ⟨by rw [HE.out]; rfl, Below.refl _ _⟩
  have HE0 : Hid (Wk.world (its l) = Wk.wErrF (its (l.take 0)) (its (l.drop 0))) := by
    show _ = _; unfold Wk.world; rw [if_neg (by rw [its_length]; exact h100)]; rfl
  obtain ⟨R, hR⟩ : ∃ R, R = Wk.world (its l) := ⟨_, rfl⟩
  rw [← hR] at HE0 ⊢
  have HX : Hid (Ims w (.slice a l.length c) l) := h
  have HK : Hid (∀ x ∈ l, x.path.size ≤ 1048576 ∧ x.bytes.size ≤ 1048576) := hs
  have hl100 : ¬ (l.length : Int) > 100 := by omega
  obtain ⟨N, hN⟩ : ∃ N, N = l.length := ⟨_, rfl⟩
  have HN : Hid (N = l.length) := hN
  rw [← hN] at HX hl100 hlc1 ⊢
  clear h hs h100 hR hN
  go_enter Tryz.func10, Tryz.ntmps10
  go_wp2_with fail
  go_loopw [20] (fun i wr => ∃ (j : Nat), j ≤ N ∧ i = .int .i64 j ∧ Hid (R = Wk.wErrF (its (l.take j)) (its (l.drop j))) ∧ Hid (Below w.heap.size w wr)) (fun i _ => N - (intOf i).toNat)
  case atStart => exact ⟨0, by omega, rfl, HE0, Below.refl _ _⟩
  case round =>
    clear HE0
    obtain ⟨j, hj, rfl, HE, HB⟩ := hrel
    by_cases hlt : j < N
    · have hjl : j < l.length := by rw [← HN.out]; exact hlt
      obtain ⟨x, hx⟩ : ∃ x, l[j]? = some x := ⟨_, List.getElem?_eq_getElem hjl⟩
      have hxo := HK.out x (List.mem_of_getElem? hx)
      have hst := wErr_step hx
      have HSt : Hid (R = if Wk.iErr x.it ≠ 0 then Wk.iErr x.it else if Wk.late (its (l.take j)) x.it = true then 4 else if Wk.lies (its (l.take j)) x.it = false then 9 else Wk.wErrF (its (l.take (j + 1))) (its (l.drop (j + 1)))) := by
        show _ = _; rw [HE.out, hst]
      have hXr := HX.out.below HB.out
      rw [HN.out] at hXr
      obtain ⟨kb, ko, rfl, hkb, x0, x1, x2, x3, x4⟩ := hXr.item j x hx
      obtain ⟨WA, hWA⟩ : ∃ WA, WA = wr.alloc (.cells #[.string x.path, .int .i64 x.kind, .int .i64 x.mode, .int .i64 x.time, .string x.bytes] 46) := ⟨_, rfl⟩
      have hbA : Below wr.heap.size wr WA := by rw [hWA]; exact (Below.refl _ wr).alloc (Nat.le_refl _) _
      have HM : Hid (WA.heap[wr.heap.size]? = some (.cells #[.string x.path, .int .i64 x.kind, .int .i64 x.mode, .int .i64 x.time, .string x.bytes] 46 (0, 0))) := by rw [hWA]; exact heap_alloc_new wr _
      have HBA : Hid (Below w.heap.size w WA) := HB.out.trans (hbA.mono HB.out.size)
      have hci := ritem_any x WA (by omega) (by omega)
      have HHx : Hid (l[j]? = some x) := hx
      have HPz : Hid (x.path.size ≤ 1048576) := hxo.1
      have HIE : Hid (Wk.iErr x.it = 0 → Wk.Ok1 x.it) := fun q => Wk.iErr_ok q
      obtain ⟨PB, hPB⟩ : ∃ PB, PB = wr.heap.size := ⟨_, rfl⟩
      rw [← hPB] at HM
      clear hst hXr hbA hx hxo HE
      go_upto_region 6 with fail
      rw [← hWA, ← hPB]
      obtain ⟨y0, y1, y2, y3, y4, ylt⟩ := five_at HM.out
      clear hWA hPB x0 x1 x2 x3 x4 hkb
      go_wp2_with fail
      refine hci.mono ?_
      rintro e w2 ⟨rfl, b2⟩
      have HB2 : Hid (Below w.heap.size w w2) := HBA.out.trans (b2.mono HBA.out.size)
      have HM2 : Hid (w2.heap[PB]? = some (.cells #[.string x.path, .int .i64 x.kind, .int .i64 x.mode, .int .i64 x.time, .string x.bytes] 46 (0, 0))) := (b2.block _ (Array.getElem?_eq_some_iff.1 HM.out).1).trans HM.out
      clear hci b2 y0 y1 y2 y3 y4 ylt HM HBA
      by_cases hE : Wk.iErr x.it = 0
      case neg =>
        have HRe : Hid (R = Wk.iErr x.it) := by show _ = _; rw [HSt.out, if_pos hE]
        have hne : (Wk.iErr x.it != 0) = true := by rw [bne_iff_ne]; exact hE
        generalize Wk.iErr x.it = ER at *
        clear hE HSt HIE
        go_wp2_with fail
        go_ret
        exact ⟨by rw [HRe.out]; rfl, HB2.out⟩
      have hok := HIE.out hE
      have HOk : Hid (Wk.Ok1 x.it) := hok
      have HSt2 : Hid (R = if Wk.late (its (l.take j)) x.it = true then 4 else if Wk.lies (its (l.take j)) x.it = false then 9 else Wk.wErrF (its (l.take (j + 1))) (its (l.drop (j + 1)))) := by
        show _ = _; rw [HSt.out, if_neg (fun q => q hE)]
      rw [hE]
      clear HSt HIE hE hok
      go_upto_if 31 with fail
      go_cut [6, 7] from 21 to 86 (fun y z wx => Hid (Wk.late (its (l.take j)) x.it = false) ∧ Hid (Below w2.heap.size w2 wx))
      case first =>
        by_cases hj0 : j = 0
        · subst hj0
          have hd : decide ((0 : Int) > 0) = false := by decide
          go_wp2_with fail
          go_meet
          exact ⟨rfl, Below.refl _ _⟩
        · obtain ⟨i, rfl⟩ : ∃ i, j = i + 1 := ⟨j - 1, by omega⟩
          have hil : i < l.length := by omega
          obtain ⟨y, hy⟩ : ∃ y, l[i]? = some y := ⟨_, List.getElem?_eq_getElem hil⟩
          have hyo := HK.out y (List.mem_of_getElem? hy)
          have hla := late_at (x := x) hy
          have hX2 := HX.out.below HB2.out
          rw [HN.out] at hX2
          obtain ⟨kb', ko', ee, hkb', u0, _⟩ := hX2.item i y hy
          cases ee
          have hless := fun W => rless_any y.path x.path W (by omega) (by have := HPz.out; omega)
          obtain ⟨m0, _, _, _, _, mlt⟩ := five_at HM2.out
          obtain ⟨LS, hLS⟩ : ∃ LS, LS = (Nn.less y.path.data.toList x.path.data.toList).1 := ⟨_, rfl⟩
          obtain ⟨LE, hLE⟩ : ∃ LE, LE = (Nn.less y.path.data.toList x.path.data.toList).2 := ⟨_, rfl⟩
          rw [← hLS, ← hLE] at hless
          rw [← hLS] at hla
          have HLA : Hid (Wk.late (its (l.take (i + 1))) x.it = !LS) := hla
          have hd : decide (((i : Int) + 1) > 0) = true := decide_eq_true (by omega)
          have hij : ((i : Int) + 1 - 1) = i := by omega
          have hgt : ((i : Int) + 1 > 0) := by omega
          have hwr : IntKind.i64.wrap (i : Int) = (i : Int) := by
            simp only [IntKind.wrap, IntKind.bits, IntKind.signed]
            simp
            omega
          have HcX : Hid (∀ W, Gw w2 W → W.cell? ⟨PB, 0, none⟩ = some (.string x.path)) := fun W hW => (Below.cell hW (p := ⟨PB, 0, none⟩) mlt).trans m0
          have HcY : Hid (∀ W, Gw w2 W → W.cell? ⟨kb, ko + i * 5, none⟩ = some (.string y.path)) := fun W hW => (Below.cell hW (p := ⟨kb, ko + i * 5, none⟩) hkb').trans u0
          have hiN : (i : Int) < (N : Int) := by omega
          clear hla hX2 hyo hy hil hj0 hjl HHx hLS hLE u0 m0 mlt hkb'
          generalize y.path = yp at *
          go_upto_region 10 with fail
          refine wp_region_rel (G := Gw) (W0 := w2) Gw.refl Gw.trans (by kernel_rfl) (by kernel_rfl) (by kernel_rfl) (Below.refl _ w2).drew ?_
          refine .inl ⟨.slice (some ⟨kb, ko, none⟩) N c, fun v W hW hd => step_run rfl _ W (by clear hd; go_simp) rfl (Gw.refl _), ?_⟩
          simp only [Act.put, List.setIfInBounds_toArray, List.set_cons_zero, List.set_cons_succ]
          refine .inl ⟨.int .i64 ((i : Int) + 1), fun v W hW hd => step_run rfl _ W (by clear hd; go_simp) rfl (Gw.refl _), ?_⟩
          simp only [Act.put, List.setIfInBounds_toArray, List.set_cons_zero, List.set_cons_succ]
          refine .inl ⟨.int .i64 (i : Int), fun v W hW hd => step_run rfl _ W (by clear hd; have he := hij; have hf := hwr; go_simp) rfl (Gw.refl _), ?_⟩
          simp only [Act.put, List.setIfInBounds_toArray, List.set_cons_zero, List.set_cons_succ]
          refine .inl ⟨.pointer (some ⟨kb, ko + i * 5, none⟩), fun v W hW hd => step_run rfl _ W (by clear hd; go_simp) rfl (Gw.refl _), ?_⟩
          simp only [Act.put, List.setIfInBounds_toArray, List.set_cons_zero, List.set_cons_succ]
          refine .inl ⟨.pointer (some ⟨kb, ko + i * 5, none⟩), fun v W hW hd => step_run rfl _ W (by clear hd; go_simp) rfl (Gw.refl _), ?_⟩
          simp only [Act.put, List.setIfInBounds_toArray, List.set_cons_zero, List.set_cons_succ]
          refine .inl ⟨.string yp, fun v W hW hd => step_run rfl _ W (by clear hd; have ce := HcY.out W hW; go_simp) rfl (Gw.refl _), ?_⟩
          simp only [Act.put, List.setIfInBounds_toArray, List.set_cons_zero, List.set_cons_succ]
          refine .inl ⟨.pointer (some ⟨PB, 0, none⟩), fun v W hW hd => step_run rfl _ W (by clear hd; go_simp) rfl (Gw.refl _), ?_⟩
          simp only [Act.put, List.setIfInBounds_toArray, List.set_cons_zero, List.set_cons_succ]
          refine .inl ⟨.string x.path, fun v W hW hd => step_run rfl _ W (by clear hd; have ce := HcX.out W hW; go_simp) rfl (Gw.refl _), ?_⟩
          simp only [Act.put, List.setIfInBounds_toArray, List.set_cons_zero, List.set_cons_succ]
          refine .inl ⟨.tuple #[.bool LS, .int .i64 LE], fun v W hW hd => step_call rfl 29 #[.string yp, .string x.path] (by clear hd; go_simp) ((hless W).mono fun e w' h => ⟨_, h.1, rfl, h.2⟩), ?_⟩
          simp only [Act.put, List.setIfInBounds_toArray, List.set_cons_zero, List.set_cons_succ]
          refine .inl ⟨.tuple #[.bool LS, .int .i64 LE], fun v W hW hd => step_run rfl _ W (by clear hd; go_simp) rfl (Gw.refl _), ?_⟩
          simp only [Act.put, List.setIfInBounds_toArray, List.set_cons_zero, List.set_cons_succ]
          refine .inl ⟨.bool LS, fun v W hW hd => step_run rfl _ W (by clear hd; go_simp) rfl (Gw.refl _), ?_⟩
          simp only [Act.put, List.setIfInBounds_toArray, List.set_cons_zero, List.set_cons_succ]
          refine .inl ⟨.int .i64 LE, fun v W hW hd => step_run rfl _ W (by clear hd; go_simp) rfl (Gw.refl _), ?_⟩
          simp only [Act.put, List.setIfInBounds_toArray, List.set_cons_zero, List.set_cons_succ]
          refine .inl ⟨.bool LS, fun v W hW hd => step_run rfl _ W (by clear hd; go_simp) rfl (Gw.refl _), ?_⟩
          simp only [Act.put, List.setIfInBounds_toArray, List.set_cons_zero, List.set_cons_succ]
          refine .inl ⟨.int .i64 LE, fun v W hW hd => step_run rfl _ W (by clear hd; go_simp) rfl (Gw.refl _), ?_⟩
          simp only [Act.put, List.setIfInBounds_toArray, List.set_cons_zero, List.set_cons_succ]
          intro v w3 hW3 hV
          have HB3 : Hid (Below w2.heap.size w2 w3) := hW3
          clear hV hW3 hless HcX HcY
          cases LS with
          | true =>
            go_wp2_with fail
            go_meet
            exact ⟨HLA.out, HB3.out⟩
          | false =>
            have HRe : Hid (R = 4) := by
              show _ = _
              rw [HSt2.out, HLA.out, if_pos (by decide)]
            have HBe : Hid (Below w.heap.size w w3) := HB2.out.trans (HB3.out.mono HB2.out.size)
            clear HSt2
            go_wp2_with fail
            go_ret
            exact ⟨by rw [HRe.out]; rfl, HBe.out⟩
      case rest =>
      obtain ⟨HL, HBc⟩ := hcut
      have HSt3 : Hid (R = if Wk.lies (its (l.take j)) x.it = false then 9 else Wk.wErrF (its (l.take (j + 1))) (its (l.drop (j + 1)))) := by
        show _ = _
        rw [HSt2.out, HL.out, if_neg (by decide)]
      have HB3 : Hid (Below w.heap.size w wc) := HB2.out.trans (HBc.out.mono HB2.out.size)
      have hM3 := (HBc.out.block _ (Array.getElem?_eq_some_iff.1 HM2.out).1).trans HM2.out
      obtain ⟨y0, y1, y2, y3, y4, ylt⟩ := five_at hM3
      have hsp := rsplit_any x.path wc (by have := HPz.out; omega)
      unfold SpOut at hsp
      have hs0 : (Nn.split x.path.data.toList).2 = 0 := HOk.out.spl
      rw [hs0] at hsp
      clear HSt2 HL hM3 hs0
      go_wp2_with fail
      refine hsp.mono ?_
      rintro e w4 ⟨v4, l4, rfl, hdl, htx, hcp, b4⟩
      have HB4 : Hid (Below w.heap.size w w4) := HB3.out.trans (b4.mono HB3.out.size)
      have hnm : x.it.nms = dl l4 := hdl.symm
      have hne4 : l4 ≠ [] := fun e => HOk.out.ne (by rw [hnm, e]; rfl)
      obtain ⟨a4, c4, rfl⟩ := htx.slice
      obtain ⟨m, hm⟩ : ∃ m, l4.length = m + 1 := ⟨l4.length - 1, by have := List.length_pos_iff.2 hne4; omega⟩
      have htk := tx_front htx m (by omega)
      have hdt : dl (l4.take m) = x.it.nms.dropLast := by
        rw [hnm, List.dropLast_eq_take, dl_length, hm]
        simp [dl]
      have heu := Wk.errs_up HOk.out
      rw [← hdt] at heu
      have h8 := Wk.errsF_few _ 0 heu (by omega)
      rw [dl_length, List.length_take, hm] at h8
      have hjo := rjoin_any (.slice a4 m c4) (l4.take m) w4 htk (by rw [List.length_take]; omega) fun s hs => by
        have := Nn.nm_long (Nn.errs_ok heu _ (List.mem_map_of_mem hs))
        rw [Lib.size_eq]; omega
      unfold JnOut at hjo
      have hjn : Nn.join (dl (l4.take m)) = (Nn.joinB (dl (l4.take m)), 0) := by unfold Nn.join; rw [if_neg (by simpa using heu)]
      rw [hjn] at hjo
      obtain ⟨UP, hUP⟩ : ∃ UP : ByteArray, UP = ⟨(Nn.joinB (dl (l4.take m))).toArray⟩ := ⟨_, rfl⟩
      have HUP : Hid (UP.data.toList = Wk.up x.it) := by
        show _ = _
        rw [hUP, hdt]; rfl
      unfold St at hjo
      dsimp only at hjo
      rw [← hUP] at hjo
      have hwr : IntKind.i64.wrap (m : Int) = (m : Int) := by
        simp only [IntKind.wrap, IntKind.bits, IntKind.signed]
        simp
        omega
      have hij : ((m : Int) + 1 - 1) = m := by omega
      have hmc : m ≤ c4 := by
        rcases htx.at_ with ⟨_, e⟩ | ⟨bk, o, cap, h1, _, _⟩
        · exact absurd e hne4
        · simp at h1
          obtain ⟨rfl, rfl⟩ := h1
          have := hcp _ _ _ rfl
          omega
      rw [hm]
      clear hsp b4 hdl hcp hnm hne4 htk hdt heu hjn hUP htx y0 y1 y2 y3 y4 ylt
      generalize hl4 : l4.length = LL at *
      subst hm
      clear hl4
      go_wp2_with fail
      refine hjo.mono ?_
      rintro e w5 ⟨rfl, b5⟩
      have HB5 : Hid (Below w.heap.size w w5) := HB4.out.trans (b5.mono HB4.out.size)
      clear hjo b5 hij hwr
      go_wp2_with fail
      have HF0 : Hid (Value.bool (UP.toList == [47]) = .bool (fnd l 0 UP)) := by
        show _ = _
        unfold fnd
        rw [Lib.toList_data]
        by_cases e : UP.data.toList = [47] <;> simp [e]
      go_loopw [12, 67] (fun f i wx => ∃ ii : Nat, ii ≤ j ∧ i = .int .i64 ii ∧ f = .bool (fnd l ii UP) ∧ Hid (Below w.heap.size w wx)) (fun _ i _ => j - (intOf i).toNat)
      case atStart => exact ⟨0, by omega, rfl, HF0.out, HB5⟩
      case round =>
        obtain ⟨ii, hii, rfl, rfl, HBx⟩ := hrel
        by_cases hlt2 : ii < j
        · have hil : ii < l.length := by omega
          obtain ⟨y, hy⟩ : ∃ y, l[ii]? = some y := ⟨_, List.getElem?_eq_getElem hil⟩
          have hstep := fnd_step hy UP
          have hX2 := HX.out.below HBx.out
          rw [HN.out] at hX2
          obtain ⟨kb', ko', ee, hkb', u0', u1', u2', u3', u4'⟩ := hX2.item ii y hy
          cases ee
          obtain ⟨WY, hWY⟩ : ∃ WY, WY = wr.alloc (.cells #[.string y.path, .int .i64 y.kind, .int .i64 y.mode, .int .i64 y.time, .string y.bytes] 46) := ⟨_, rfl⟩
          have HBy : Hid (Below w.heap.size w WY) := by rw [hWY]; exact HBx.out.alloc HBx.out.size _
          have hMy : WY.heap[wr.heap.size]? = some (.cells #[.string y.path, .int .i64 y.kind, .int .i64 y.mode, .int .i64 y.time, .string y.bytes] 46 (0, 0)) := by rw [hWY]; exact heap_alloc_new wr _
          have HF : Hid (fnd l (ii + 1) UP = (fnd l ii UP || (decide (y.path = UP) && decide (y.kind = 2)))) := hstep
          obtain ⟨m0, m1, m2, m3, m4, mlt⟩ := five_at hMy
          obtain ⟨QB, hQB⟩ : ∃ QB, QB = wr.heap.size := ⟨_, rfl⟩
          rw [← hQB] at m0 m1 m2 m3 m4 mlt
          clear hstep hX2 hy hil hMy
          generalize hfb : fnd l ii UP = fb at *
          clear hfb
          go_upto_region 19 with fail
          rw [← hWY, ← hQB]
          clear hWY hQB u0' u1' u2' u3' u4' hkb'
          cases fb with
          | true =>
            have HF2 : Hid (fnd l (ii + 1) UP = true) := by show _ = _; rw [HF.out]; rfl
            clear HF
            go_wp2_with fail
            go_roundw
            case measure => simp only [intOf]; omega
            case rel => exact ⟨ii + 1, by omega, by go_num, by have e := HF2.out; first | (rw [e]; done) | (rw [e]; rfl) | (rw [e]; simp), HBy⟩
          | false =>
            have HF2 : Hid (fnd l (ii + 1) UP = (decide (y.path = UP) && decide (y.kind = 2))) := by show _ = _; rw [HF.out]; rfl
            clear HF
            obtain ⟨yp, yk, ym, yt, yb⟩ := y
            dsimp only at *
            by_cases he : yp = UP
            · by_cases hk : yk = 2
              · have HF3 : Hid (fnd l (ii + 1) UP = true) := by show _ = _; rw [HF2.out, decide_eq_true he, decide_eq_true hk]; rfl
                subst he hk
                clear HF2
                go_wp2_with fail
                go_roundw
                case measure => simp only [intOf]; omega
                case rel => exact ⟨ii + 1, by omega, by go_num, by have e := HF3.out; first | (rw [e]; done) | (rw [e]; rfl) | (rw [e]; simp), HBy⟩
              · have HF3 : Hid (fnd l (ii + 1) UP = false) := by show _ = _; rw [HF2.out, decide_eq_true he, decide_eq_false hk]; rfl
                have hkf : (yk == 2) = false := by rw [beq_eq_false_iff_ne]; exact hk
                subst he
                clear HF2 hk
                go_wp2_with fail
                go_roundw
                case measure => simp only [intOf]; omega
                case rel => exact ⟨ii + 1, by omega, by go_num, by have e := HF3.out; first | (rw [e]; done) | (rw [e]; rfl) | (rw [e]; simp), HBy⟩
            · have HF3 : Hid (fnd l (ii + 1) UP = false) := by show _ = _; rw [HF2.out, decide_eq_false he]; rfl
              have hpf : (yp.toList == UP.toList) = false := by
                rw [beq_eq_false_iff_ne, Lib.toList_data, Lib.toList_data]
                exact fun e => he (ByteArray.ext (by simpa using congrArg List.toArray e))
              clear HF2 he
              go_wp2_with fail
              go_roundw
              case measure => simp only [intOf]; omega
              case rel => exact ⟨ii + 1, by omega, by go_num, by have e := HF3.out; first | (rw [e]; done) | (rw [e]; rfl) | (rw [e]; simp), HBy⟩
        · obtain rfl : ii = j := by omega
          have HLs : Hid (fnd l ii UP = Wk.lies (its (l.take ii)) x.it) := fnd_lies l ii x UP HUP.out
          have HSt4 : Hid (R = if fnd l ii UP = false then 9 else Wk.wErrF (its (l.take (ii + 1))) (its (l.drop (ii + 1)))) := by
            show _ = _
            rw [HSt3.out, HLs.out]
          clear HSt3 HLs
          generalize hfb : fnd l ii UP = fb at *
          clear hfb
          cases fb with
          | true =>
            have HEn : Hid (R = Wk.wErrF (its (l.take (ii + 1))) (its (l.drop (ii + 1)))) := by show _ = _; rw [HSt4.out, if_neg (by decide)]
            clear HSt4
            go_wp2_with fail
            go_roundw
            case measure => simp only [intOf]; omega
            case rel => exact ⟨ii + 1, by omega, by go_num, HEn, HBx⟩
          | false =>
            have HRe : Hid (R = 9) := by show _ = _; rw [HSt4.out, if_pos rfl]
            clear HSt4
            go_wp2_with fail
            go_ret
            exact ⟨by rw [HRe.out]; rfl, HBx.out⟩
    · obtain rfl : j = N := by omega
      have HRe : Hid (R = 0) := by
        have e : l.drop j = [] := by rw [HN.out]; exact List.drop_of_length_le (Nat.le_refl _)
        show _ = _
        rw [HE.out, e]; rfl
      go_wp2_with fail
      go_ret
      exact ⟨by rw [HRe.out]; rfl, HB.out⟩
end Go.Proofs.YtimdioacmojkeaaGreatDoor

namespace Go.Proofs.YtimdioacmojkeaaGreatDoor
open Go.RowKit
set_option maxRecDepth 4000
open Nn (Name)

def lenV : Value → Nat
  | .slice _ n _ => n
  | _ => 0

theorem Oy.pf {base base' : Nat} {w W : World} {v : Value} {l : List Nod} (h : Oy 7 89 NdG base' w v l) (hk : Pf base w W) : Oy 7 89 NdG base' W v l :=
  h.obj (fun t c ⟨u, e, hr, ht, ho⟩ => by
    refine ⟨u, e, ⟨?_, hr.room⟩, fun a m c hv => ?_, ho⟩
    · rcases hr.at_ with h1 | ⟨bk, o, cap, h1, h2, h3⟩
      · exact .inl h1
      · obtain ⟨cur, fr, hb⟩ := ht _ _ _ h1
        have hb' := hk.cells hb (by decide) (by decide)
        refine .inr ⟨bk, o, cap, h1, Nat.lt_of_lt_of_le h2 hk.size, fun j t hj r u hu => ?_⟩
        rw [← h3 j t hj r u hu]
        simp only [World.cell?] at hb hb' ⊢
        rw [hb, hb']
    · obtain ⟨cur, fr, hb⟩ := ht a m c hv
      exact ⟨cur, fr, hk.cells hb (by decide) (by decide)⟩) fun g cur fr ho => hk.cells ho (by decide) (by decide)

theorem Pf.of_pl {base : Nat} {A B : World} (hk : Kt 59 A B) (hb : Below base A B) : Pf base A B :=
  ⟨hb, ⟨hk.os, hk.tape, hk.output, hk.size, fun k o ho hp => hk.obj k o ho (fun ⟨_, _, e⟩ => by subst e; exact hp.2 rfl)⟩⟩

theorem take_flat {α β : Type} {f : α → List β} {K : List α} {j : Nat} {x : α} (hx : K[j]? = some x) : ((K.take (j + 1)).flatMap f).length = ((K.take j).flatMap f).length + (f x).length ∧ ((K.take (j + 1)).flatMap f).length ≤ (K.flatMap f).length := by
  have hlt := (List.getElem?_eq_some_iff.1 hx).1
  constructor
  · rw [List.take_succ_eq_append_getElem hlt, (List.getElem?_eq_some_iff.1 hx).2, List.flatMap_append, List.length_append]
    simp
  · conv => rhs; rw [← List.take_append_drop (j + 1) K]
    rw [List.flatMap_append, List.length_append]
    omega

/-- what things leave, when some of them have been made -/
theorem things_step {cutf : Wk.Bs → List Wk.Bs} {sub : List Name → List Pk.Bl → List Pk.Bl × Wk.Bs × Int} {K : List Im} {j : Nat} {x : Im} (hx : K[j]? = some x) {l : List Pk.Bl} {T : List Pk.Bl × List Td.Nd × Int} {done : List Td.Nd}
    (h : T = ((Wk.things cutf sub (its (K.drop j)) l).1, done ++ (Wk.things cutf sub (its (K.drop j)) l).2.1, (Wk.things cutf sub (its (K.drop j)) l).2.2)) :
    ((Wk.thing cutf sub x.it l).2.2 ≠ 0 → T.2.2 = (Wk.thing cutf sub x.it l).2.2) ∧
    ((Wk.thing cutf sub x.it l).2.2 = 0 → T = ((Wk.things cutf sub (its (K.drop (j + 1))) (Wk.thing cutf sub x.it l).1).1, (done ++ [Wk.node x.it (Wk.thing cutf sub x.it l).2.1]) ++ (Wk.things cutf sub (its (K.drop (j + 1))) (Wk.thing cutf sub x.it l).1).2.1, (Wk.things cutf sub (its (K.drop (j + 1))) (Wk.thing cutf sub x.it l).1).2.2)) := by
  have hlt := (List.getElem?_eq_some_iff.1 hx).1
  have e0 : its (K.drop j) = x.it :: its (K.drop (j + 1)) := by
    rw [List.drop_eq_getElem_cons hlt, (List.getElem?_eq_some_iff.1 hx).2]; rfl
  rw [e0, Wk.things] at h
  constructor
  · intro hE
    rw [h]
    dsimp only
    rw [if_pos hE]
  · intro hE
    rw [h]
    dsimp only
    rw [if_neg (fun q => q hE)]
    simp

set_option maxHeartbeats 4000000 in
set_option maxRecDepth 10000 in
theorem dir_step {base b m : Nat} {fx mn mx bt : Int} {W0 : List Im} (hg : Gd fx mn mx bt W0) (k : Nat) (ih : 1 ≤ k → DirOk base b m fx mn mx bt W0 k) : DirOk base b m fx mn mx bt W0 (k + 1) := by
  intro p rest bs c w hpk hps hr hn hc h hT R hR
  obtain ⟨i0, hi, hz0, hz1, hz2⟩ := info_of' info_nd
  have hbase := h.base
  obtain ⟨K, hK⟩ : ∃ K, K = kI W0 p := ⟨_, rfl⟩
  have HKm : Hid (∀ x ∈ K, x ∈ W0 ∧ ∃ s, x.it.nms = p ++ [s]) := fun x hx => by rw [hK] at hx; exact mem_kI.1 hx
  rw [dI_succ, ← hK] at h hc
  rw [dI_succ, ← hK]
  rw [Wk.plantDir, ← kI_its, ← hK] at hR
  obtain ⟨T, hTd⟩ : ∃ T, T = Wk.things (cutF fx mn mx bt) (Wk.plantDir (cutF fx mn mx bt) (its W0) k) (its K) (pl bs) := ⟨_, rfl⟩
  rw [← hTd] at hR
  have HT0 : Hid (T = ((Wk.things (cutF fx mn mx bt) (Wk.plantDir (cutF fx mn mx bt) (its W0) k) (its (K.drop 0)) (pl bs)).1, nds [] ++ (Wk.things (cutF fx mn mx bt) (Wk.plantDir (cutF fx mn mx bt) (its W0) k) (its (K.drop 0)) (pl bs)).2.1, (Wk.things (cutF fx mn mx bt) (Wk.plantDir (cutF fx mn mx bt) (its W0) k) (its (K.drop 0)) (pl bs)).2.2)) := by
    show _ = _
    rw [hTd]; simp [nds]
  have HRR : Hid (R = if T.2.2 ≠ 0 then ([], [], T.2.2) else if (Td.write T.2.1).2 ≠ 0 then ([], [], (Td.write T.2.1).2) else Wk.into T.1 (2, (Td.write T.2.1).1)) := hR
  obtain ⟨W1, hW1⟩ : ∃ W1, W1 = w.alloc (.cells #[.int .u8 0, .int .u8 0, .int .u8 0, .int .u8 0, .int .u8 0, .int .u8 0, .int .u8 0, .int .u8 0] 29) := ⟨_, rfl⟩
  have hB1 : Below w.heap.size w W1 := by rw [hW1]; exact (Below.refl _ w).alloc (Nat.le_refl _) _
  have HF1 : Hid (Pf base w W1) := Pf.of_below hB1 hbase
  have HI1 : Hid (W1.heap[w.heap.size]? = some (.cells Z8 29 (0, 0))) := by rw [hW1]; exact heap_alloc_new w _
  have HQ1 : Hid (Pq base b m fx mn mx bt (c + 300 * ((K.take 0).flatMap (blk W0 k)).length) W1 ((K.drop 0).flatMap (blk W0 k) ++ rest) bs) := h.below hB1
  have HS1 : Hid (w.heap.size + 1 ≤ W1.heap.size) := by show _ ≤ _; rw [hW1, World.size_alloc]; exact Nat.le_refl _
  have HTb : Hid (∀ W, Below base w W → Tabs W) := hT
  have HG : Hid (Gd fx mn mx bt W0) := hg
  have HIh : Hid (1 ≤ k → DirOk base b m fx mn mx bt W0 k) := ih
  have Hmisc : Hid (p.length + (k + 1) = 9 ∧ (∀ s ∈ p, (47 : UInt8) ∉ s) ∧ (∀ y ∈ rest, y ∈ W0) ∧ Nb0 p rest ∧ c + 300 * (K.flatMap (blk W0 k)).length ≤ 800000000) := ⟨hpk, hps, hr, hn, hc⟩
  obtain ⟨N, hN⟩ : ∃ N, N = K.length := ⟨_, rfl⟩
  have HN : Hid (N = K.length) := hN
  clear hTd hR hK h hB1 hT hg ih hpk hps hr hn hc hN
  go_enter Tryz.func22, Tryz.ntmps22
  go_upto_region 1 with fail
  rw [← hW1]
  clear hW1
  go_wp2_with fail
  go_loopw [6] (fun v wr => ∃ (j : Nat) (l : List Nod) (bk : List Blb), j ≤ N ∧ l.length = j ∧ lenV v = j ∧
    Hid (T = ((Wk.things (cutF fx mn mx bt) (Wk.plantDir (cutF fx mn mx bt) (its W0) k) (its (K.drop j)) (pl bk)).1, nds l ++ (Wk.things (cutF fx mn mx bt) (Wk.plantDir (cutF fx mn mx bt) (its W0) k) (its (K.drop j)) (pl bk)).2.1, (Wk.things (cutF fx mn mx bt) (Wk.plantDir (cutF fx mn mx bt) (its W0) k) (its (K.drop j)) (pl bk)).2.2)) ∧
    Hid (Pq base b m fx mn mx bt (c + 300 * ((K.take j).flatMap (blk W0 k)).length) wr ((K.drop j).flatMap (blk W0 k) ++ rest) bk) ∧ Hid (Oy 7 89 NdG (w.heap.size + 1) wr v l) ∧ Hid (Pf base w wr) ∧ Hid (wr.heap[w.heap.size]? = some (.cells Z8 29 (0, 0)))) (fun v _ => N - lenV v)
  case atStart => exact ⟨0, [], bs, by omega, rfl, rfl, HT0, HQ1, Oy.nil, HF1, HI1⟩
  case round =>
    clear HT0 HQ1 HF1 HI1 HS1
    obtain ⟨j, l, bk, hj, hlj, hlv, HTj, HQ, HO, HF, HI⟩ := hrel
    by_cases hlt : j < N
    · have hjK : j < K.length := by rw [← HN.out]; exact hlt
      obtain ⟨x, hx⟩ : ∃ x, K[j]? = some x := ⟨_, List.getElem?_eq_getElem hjK⟩
      obtain ⟨hxW, s, hs⟩ := HKm.out x (List.mem_of_getElem? hx)
      have hok1 := HG.out.ok1 hxW
      have hxo := HG.out.ok x hxW
      obtain ⟨hpar, hnam⟩ := nms_last hs
      have hpc := fun W => parent_any x.path (Wk.par x.it) (Wk.nam x.it) W (path_parts hok1) (Wk.nam_slash hok1) (path_size hok1 hxo.path)
      rw [hpar] at hpc
      have hdrop : K.drop j = x :: K.drop (j + 1) := by rw [List.drop_eq_getElem_cons hjK, (List.getElem?_eq_some_iff.1 hx).2]
      obtain ⟨rr, hrr⟩ : ∃ rr, rr = (K.drop (j + 1)).flatMap (blk W0 k) ++ rest := ⟨_, rfl⟩
      have hleft : (K.drop j).flatMap (blk W0 k) ++ rest = x :: ((if x.it.dir then dI W0 k x.it.nms else []) ++ rr) := by
        rw [hdrop, List.flatMap_cons, hrr]; simp [blk]
      have HQx : Hid (Pq base b m fx mn mx bt (c + 300 * ((K.take j).flatMap (blk W0 k)).length) wr (x :: ((if x.it.dir then dI W0 k x.it.nms else []) ++ rr)) bk) := by rw [← hleft]; exact HQ.out
      obtain ⟨hq1, nq, hq2, hpl⟩ := HQx.out
      obtain ⟨⟨lv, bv, p1, p2, p3, p4⟩, hmp, ha, hm⟩ := hpl
      obtain ⟨la, lc, rfl, hlc1, hlc2⟩ := p2.slice
      obtain ⟨kb, ko, rfl, hkb, x0, x1, x2, x3, x4⟩ := p2.item 0 x rfl
      rw [Nat.zero_mul, Nat.add_zero] at x0 x1 x2 x3 x4
      obtain ⟨LL, hLL⟩ : ∃ LL, LL = (if x.it.dir then dI W0 k x.it.nms else []) ++ rr := ⟨_, rfl⟩
      rw [← hLL] at p2
      have hlv' := p2.rest
      obtain ⟨A1, hA1⟩ : ∃ A1, (if lc = 1 then some (⟨kb, ko, none⟩ : Addr) else some ⟨kb, ko + 5, none⟩) = A1 := ⟨_, rfl⟩
      have hA1b : ∀ a n c, Value.slice A1 LL.length (lc - 1) = .slice (some a) n c → LL ≠ [] → a.block < base := fun a n c e _ => by
        rw [← hA1] at e
        have hkb := p3 ⟨kb, ko, none⟩ _ _ rfl (by simp)
        split at e <;> (cases e; exact hkb)
      rw [hA1] at hlv'
      have hPl : Plt base b m fx mn mx bt wr (x :: LL) bk nq := by rw [hLL]; exact ⟨⟨_, bv, p1, by rw [← hLL]; exact p2, p3, p4⟩, hmp, ha, hm⟩
      obtain ⟨hs4, hs5, hs6⟩ := hPl.set4 (.slice A1 LL.length (lc - 1)) hlv' hA1b
      obtain ⟨WA, hWA⟩ : ∃ WA, WA = (wr.setCell ⟨b, 4, none⟩ (.slice A1 LL.length (lc - 1))).alloc (.cells #[.string x.path, .int .i64 x.kind, .int .i64 x.mode, .int .i64 x.time, .string x.bytes] 46) := ⟨_, rfl⟩
      have hbs : base ≤ (wr.setCell ⟨b, 4, none⟩ (.slice A1 LL.length (lc - 1))).heap.size := Nat.le_trans hbase (Nat.le_trans HF.out.size hs5.size)
      have hbA : Below (wr.setCell ⟨b, 4, none⟩ (.slice A1 LL.length (lc - 1))).heap.size (wr.setCell ⟨b, 4, none⟩ (.slice A1 LL.length (lc - 1))) WA := by rw [hWA]; exact (Below.refl _ _).alloc (Nat.le_refl _) _
      have HFA : Hid (Pf base wr WA) := (Pf.of_pl hs5 hs6).trans (Pf.of_below hbA hbs)
      have HQA : Hid (Pq base b m fx mn mx bt (c + 300 * ((K.take j).flatMap (blk W0 k)).length) WA ((if x.it.dir then dI W0 k x.it.nms else []) ++ rr) bk) := by
        rw [← hLL]
        exact ⟨hq1, nq, hq2, hs4.below hbA⟩
      obtain ⟨tf1, tf2⟩ := take_flat (f := blk W0 k) hx
      obtain ⟨t, ht⟩ : ∃ t, t = Wk.thing (cutF fx mn mx bt) (Wk.plantDir (cutF fx mn mx bt) (its W0) k) x.it (pl bk) := ⟨_, rfl⟩
      have HTs := things_step hx HTj.out
      rw [← ht] at HTs
      have HTS1 : Hid (t.2.2 ≠ 0 → T.2.2 = t.2.2) := HTs.1
      have HTS2 : Hid (t.2.2 = 0 → T = ((Wk.things (cutF fx mn mx bt) (Wk.plantDir (cutF fx mn mx bt) (its W0) k) (its (K.drop (j + 1))) t.1).1, (nds l ++ [Wk.node x.it t.2.1]) ++ (Wk.things (cutF fx mn mx bt) (Wk.plantDir (cutF fx mn mx bt) (its W0) k) (its (K.drop (j + 1))) t.1).2.1, (Wk.things (cutF fx mn mx bt) (Wk.plantDir (cutF fx mn mx bt) (its W0) k) (its (K.drop (j + 1))) t.1).2.2)) := HTs.2
      have hrrW : ∀ y ∈ rr, y ∈ W0 := fun y hy => by
        rw [hrr] at hy
        rcases List.mem_append.1 hy with q | q
        · obtain ⟨z, hz, hyz⟩ := List.mem_flatMap.1 q
          exact mem_blk (HKm.out z (List.mem_of_mem_drop hz)).1 hyz
        · exact Hmisc.out.2.2.1 y q
      have hnode := node_any HG.out HIh.out hxW hs Hmisc.out.1 rr hrrW (fun _ => by rw [hrr]; exact nb_sub (fun y hy => (HKm.out y (List.mem_of_mem_drop hy)).2) Hmisc.out.2.2.2.1) bk WA (by have := Hmisc.out.2.2.2.2; omega) HQA.out (fun W hW => HTb.out W ((HF.out.low.trans HFA.out.low).trans hW)) t ht
      have Hcj : Hid (c + 300 * ((K.take (j + 1)).flatMap (blk W0 k)).length = c + 300 * ((K.take j).flatMap (blk W0 k)).length + 300 * (blk W0 k x).length) := by show _ = _; omega
      rw [← Hcj.out] at hnode
      have HRr : Hid (rr = (K.drop (j + 1)).flatMap (blk W0 k) ++ rest) := hrr
      obtain ⟨d0, d1, d2, d3, d4, d5, d6, dlt⟩ := sev_at p1
      have d4f := free_at p1 4
      rw [← hLL] at d4
      have heq : ((mkB (Nn.tails p)).toList == (mkB (Nn.tails p)).toList) = true := by simp
      have hpc' : ∀ W, Calls Tryz.prog 27 #[.string x.path] W fun e w' => e = .returned (.string (mkB (Nn.tails p))) ∧ w' = W := hpc
      generalize mkB (Nn.tails p) = PS at *
      obtain ⟨xp, xk, xm, xt, xb⟩ := x
      dsimp only at *
      rw [List.length_cons] at d4 hlc1
      generalize LL.length = LN at *
      clear hpc HTs tf1 tf2 hs4 hs5 hs6 hbs hbA hPl hlv' hA1b p1 p2 p3 p4 hmp hq1 hq2 hrr hLL hleft hdrop hxo hok1 hpar hnam ht hjK hrrW HQx HQ HTj ha hm hs hxW
      go_wp2_with fail
      refine (hpc' _).mono ?_
      rintro e u ⟨rfl, hu⟩
      obtain rfl := hu.symm
      clear hpc' hu
      go_wp2_with fail
      rw [← hWA]
      refine hnode.mono ?_
      rintro e w3 ⟨n, a, q, q', rfl, f3, hz⟩
      have HF3 : Hid (Pf base w w3) := (HF.out.trans HFA.out).trans f3
      have HO3 : Hid (Oy 7 89 NdG (w.heap.size + 1) w3 u6 l) := (HO.out.pf HFA.out).pf f3
      have hI3 : w3.heap[w.heap.size]? = some (.cells Z8 29 (0, 0)) := f3.cells (HFA.out.cells HI.out (by decide) (by decide)) (by decide) (by decide)
      have HI3 : Hid (w3.heap[w.heap.size]? = some (.cells Z8 29 (0, 0))) := hI3
      have hs3 : w.heap.size + 1 ≤ w3.heap.size := (Array.getElem?_eq_some_iff.1 hI3).1
      obtain ⟨nn, nk, nm, nt, ns, np, nl⟩ := n
      dsimp only [ndC] at *
      clear hWA hnode f3 HF HFA HO HI d0 d1 d2 d3 d4 d5 d6 d4f x0 x1 x2 x3 x4 heq dlt hA1 hlc1 hlc2 hkb
      by_cases hE : t.2.2 = 0
      · obtain ⟨hq, hnd, hng, bk', hb1, hb2⟩ := hz hE
        have hT2 := HTS2.out hE
        rw [← hnd, ← hb1] at hT2
        rw [hE]
        have HT2 : Hid (T = ((Wk.things (cutF fx mn mx bt) (Wk.plantDir (cutF fx mn mx bt) (its W0) k) (its (K.drop (j + 1))) (pl bk')).1, nds (l ++ [⟨nn, nk, nm, nt, ns, np, nl⟩]) ++ (Wk.things (cutF fx mn mx bt) (Wk.plantDir (cutF fx mn mx bt) (its W0) k) (its (K.drop (j + 1))) (pl bk')).2.1, (Wk.things (cutF fx mn mx bt) (Wk.plantDir (cutF fx mn mx bt) (its W0) k) (its (K.drop (j + 1))) (pl bk')).2.2)) := by
          show _ = _
          rw [hT2]; simp [nds]
        have HQ3 : Hid (Pq base b m fx mn mx bt (c + 300 * ((K.take (j + 1)).flatMap (blk W0 k)).length) w3 ((K.drop (j + 1)).flatMap (blk W0 k) ++ rest) bk') := by rw [← HRr.out]; exact hb2
        obtain ⟨cc, o1, o2, o2l, o4⟩ := HO3.out
        have HO4 : Hid ((∀ c ∈ cc, c.length = 7) ∧ cc.length = l.length ∧ ∀ (j : Nat) t c, l[j]? = some t → cc[j]? = some c → NdG w3 t c) := ⟨o2, o2l, o4⟩
        have HNg : Hid (NdG w3 ⟨nn, nk, nm, nt, ns, np, nl⟩ [.string nn, .int .i64 nk, .int .i64 nm, .int .i64 nt, .int .i64 ns, .slice a q q', .string nl]) := hng
        have hl64 : l.length ≤ 100000000000 := by
          have h1 := HF3.out.size
          have h2 := Hmisc.out.2.2.2.2
          have h3 : K.length ≤ (K.flatMap (blk W0 k)).length := by
            have : ∀ L : List Im, L.length ≤ (L.flatMap (blk W0 k)).length := fun L => by
              induction L with
              | nil => simp
              | cons y L ih => rw [List.flatMap_cons, List.length_append, List.length_cons]; have : 1 ≤ (blk W0 k y).length := by simp [blk]
                               omega
            exact this K
          have h4 := HN.out
          omega
        clear hz hT2 hnd hb1 hb2 hng HTS1 HTS2 o2 o2l o4 HQA hI3 hq hE
        go_wp2_with (at_builtin; refine wpList_append_own _ rfl (.tmp 54) (.tmp 56) 85 rfl (w.heap.size + 1) 89 i0 (.agg #[.string ⟨#[]⟩, .int .i64 0, .int .i64 0, .int .i64 0, .int .i64 0, .slice none 0 0, .string ⟨#[]⟩]) 7 88 Tryz.underlying85 hi hz0 hz1 hz2 rfl (by decide) _ _ _ rfl ((o1.alloc _).alloc _) ⟨w3.heap.size + 1, 0, none⟩ 1 1 [.string nn, .int .i64 nk, .int .i64 nm, .int .i64 nt, .int .i64 ns, .slice a q q', .string nl] rfl rfl ?c1 ?c2 ?c3 ?c4 ?c5 ?_)
        case c1 => have := seven_new (w3.alloc (.cells #[.string nn, .int .i64 nk, .int .i64 nm, .int .i64 nt, .int .i64 ns, .slice a q q', .string nl] 89)) (.string nn) (.int .i64 nk) (.int .i64 nm) (.int .i64 nt) (.int .i64 ns) (.slice a q q') (.string nl) (T := 89); rwa [World.size_alloc] at this
        case c2 => simp [Value.oneCell']
        case c3 => unfold maxLen; omega
        case c4 => omega
        case c5 => first | omega | (simp; omega)
        intro v6 w5 hown5 hgrow _
        have o1' := (o1.alloc (.cells #[.string nn, .int .i64 nk, .int .i64 nm, .int .i64 nt, .int .i64 ns, .slice a q q', .string nl] 89)).alloc (.cells #[.string nn, .int .i64 nk, .int .i64 nm, .int .i64 nt, .int .i64 ns, .slice a q q', .string nl] 89)
        have hk5 : Kt 89 w3 w5 := (((Kt.refl _ w3).alloc _).alloc _).trans (Kt.of_grown hgrow fun g hg => by
          obtain ⟨cur, q, _⟩ := own_block o1' hg
          exact ⟨cur, _, q⟩)
        have hb5 : Below (w.heap.size + 1) w3 w5 := (((Below.refl _ w3).alloc hs3 _).alloc (by rw [World.size_alloc]; omega) _).grown hgrow (by rw [World.size_alloc, World.size_alloc]; omega) fun q hq => (o1'.lt q hq).1
        have HF5 : Hid (Pf base w w5) := HF3.out.then (hb5.mono (by omega)) hbase
        have HQ5 : Hid (Pq base b m fx mn mx bt (c + 300 * ((K.take (j + 1)).flatMap (blk W0 k)).length) w5 ((K.drop (j + 1)).flatMap (blk W0 k) ++ rest) bk') := HQ3.out.kt hk5 (hb5.mono (by omega)) (by decide) (by decide)
        have HI5 : Hid (w5.heap[w.heap.size]? = some (.cells Z8 29 (0, 0))) := hk5.cell HI3.out (by decide)
        have HOn : Hid (Oy 7 89 NdG (w.heap.size + 1) w5 v6 (l ++ [⟨nn, nk, nm, nt, ns, np, nl⟩])) := Oy.more HO4.out.1 HO4.out.2.1 (fun j t c a b => NdG.kt hk5 (HO4.out.2.2 j t c a b)) (by rw [hlj]; exact hown5) rfl (NdG.kt hk5 HNg.out)
        have hlv6 : lenV v6 = j + 1 := by
          obtain ⟨a6, c6, e6⟩ := own_form hown5
          rw [e6]
          rfl
        have hlj6 : (l ++ [(⟨nn, nk, nm, nt, ns, np, nl⟩ : Nod)]).length = j + 1 := by rw [List.length_append, hlj]; rfl
        obtain ⟨a6, c6, e6⟩ := own_form hown5
        subst e6
        clear hown5 hgrow hk5 hb5 o1 o1' HO4 HNg HF3 HI3 HQ3 HO3 Hcj HRr
        go_wp2_with fail
        go_roundw
        case measure =>
          show N - lenV _ < N - lenV _
          rw [hlv]
          have : lenV (.slice a6 (j + 1) c6) = j + 1 := hlv6
          first | omega | (rw [this]; omega)
        case rel => exact ⟨j + 1, _, bk', by omega, hlj6, hlv6, HT2, HQ5, HOn, HF5, HI5⟩
      · have hT2 := HTS1.out hE
        have hRe : R = ([], [], t.2.2) := by rw [HRR.out, if_pos (by rw [hT2]; exact hE), hT2]
        clear HRR
        obtain ⟨ER, hER⟩ : ∃ ER, t.2.2 = ER := ⟨_, rfl⟩
        rw [hER] at hRe hE ⊢
        subst hRe
        have hne : (ER != 0) = true := by rw [bne_iff_ne]; exact hE
        have HE : Hid (ER ≠ 0) := hE
        have hwl : w.heap.size < w3.heap.size := by omega
        obtain ⟨z0, z1, z2, z3, z4, z5, z6, z7⟩ := I8.cells (b0 := 0) (b1 := 0) (b2 := 0) (b3 := 0) (b4 := 0) (b5 := 0) (b6 := 0) (b7 := 0) (I8.zero hI3)
        obtain ⟨f0, f1, f2, f3, f4, f5, f6, f7⟩ := (I8.zero hI3).free
        have HB9 : Hid (Below w.heap.size w3 ((set8 w3 w.heap.size 0 0 0 0 0 0 0 0).alloc (.cells #[.string nn, .int .i64 nk, .int .i64 nm, .int .i64 nt, .int .i64 ns, .slice a q q', .string nl] 89))) := by
          have hb := below_set8 (Below.refl w.heap.size w3) (Nat.le_refl _) 0 0 0 0 0 0 0 0
          exact hb.alloc (Nat.le_trans (Nat.le_of_lt hwl) hb.size) _
        clear hER hz HTS1 HTS2 hE hT2 hI3 HQA
        go_wp2_with fail
        refine bodyPost_ret (v := .tuple #[.agg #[B 0, B 0, B 0, B 0, B 0, B 0, B 0, B 0], .int .i64 ER]) ?_ rfl ⟨List.replicate 8 0, rfl, rfl, HF3.out.then HB9.out hbase, fun e => absurd e HE.out⟩
        have hres : Tryz.f22.results = #[.cell 4 29, .tmp 5] := by kernel_rfl
        simp only [results, hres]
        go_simp
        rfl
    · obtain rfl : j = N := by omega
      have hdN : K.drop j = [] := by rw [HN.out]; exact List.drop_of_length_le (Nat.le_refl _)
      have htN : K.take j = K := by rw [HN.out]; exact List.take_of_length_le (Nat.le_refl _)
      have hTz : T = (pl bk, nds l, 0) := by
        rw [HTj.out, hdN]
        simp [its, Wk.things]
      have hRx : R = if (Td.write (nds l)).2 ≠ 0 then ([], [], (Td.write (nds l)).2) else Wk.into (pl bk) (2, (Td.write (nds l)).1) := by
        rw [HRR.out, hTz]
        simp
      have HQz : Hid (Pq base b m fx mn mx bt (c + 300 * (K.flatMap (blk W0 k)).length) wr rest bk) := by
        have := HQ.out
        rw [hdN, htN] at this
        exact this
      have HRx : Hid (R = if (Td.write (nds l)).2 ≠ 0 then ([], [], (Td.write (nds l)).2) else Wk.into (pl bk) (2, (Td.write (nds l)).1)) := hRx
      clear hRx hTz hdN htN HTj HQ HRR
      obtain ⟨hq1, nq, hq2, hpl⟩ := HQz.out
      obtain ⟨⟨lv, bv, p1, p2, p3, p4⟩, hmp, ha, hm⟩ := hpl
      obtain ⟨d0, d1, d2, d3, d4, d5, d6, dlt⟩ := sev_at p1
      have htw := twrite_any u6 l wr (Nds.of_oy HO.out) (by
        have h4 := HN.out
        have h2 := Hmisc.out.2.2.2.2
        have h3 : ∀ L : List Im, L.length ≤ (L.flatMap (blk W0 k)).length := fun L => by
          induction L with
          | nil => simp
          | cons y L ih => rw [List.flatMap_cons, List.length_append, List.length_cons]; have : 1 ≤ (blk W0 k y).length := by simp [blk]
                           omega
        have := h3 K
        omega) (HTb.out wr HF.out.low)
      generalize hTW : Td.write (nds l) = TW at *
      have hTWs : (⟨TW.1.toArray⟩ : ByteArray).size ≤ 9223372036854775807 := by rw [← hTW]; exact write_size l
      clear hTW
      have hbw : base ≤ wr.heap.size := Nat.le_trans hbase HF.out.size
      obtain ⟨na, nc, eu⟩ := HO.out.ry.slice
      subst eu
      rw [hlj] at htw
      cases rest with
      | nil =>
        obtain ⟨la, lc, rfl, hlc1, hlc2⟩ := p2.slice
        rw [List.length_nil] at d4
        clear p1 p2 p3 p4 hmp hq1 hq2
        go_wp2_with fail
        refine htw.mono ?_
        rintro e w4 ⟨rfl, b4⟩
        have HF4 : Hid (Pf base w w4) := HF.out.trans (Pf.of_below b4 hbw)
        have hI4 : w4.heap[w.heap.size]? = some (.cells Z8 29 (0, 0)) := (b4.block _ (Array.getElem?_eq_some_iff.1 HI.out).1).trans HI.out
        have HI4 : Hid (w4.heap[w.heap.size]? = some (.cells Z8 29 (0, 0))) := hI4
        have hwl : w.heap.size < w4.heap.size := (Array.getElem?_eq_some_iff.1 hI4).1
        by_cases hE : TW.2 = 0
        · have HQ4 := HQz.out.below b4
          have hRy : R = Wk.into (pl bk) (2, TW.1) := by rw [HRx.out, if_neg (fun q => q hE)]
          have htell := tell_q base b m (c + 300 * (K.flatMap (blk W0 k)).length) fx mn mx bt _ bk ⟨2, ⟨TW.1.toArray⟩⟩ w4 HQ4 (by have := Hmisc.out.2.2.2.2; omega) hTWs
          have hEI : errI bk ⟨2, ⟨TW.1.toArray⟩⟩ = R.2.2 := by rw [hRy]; rfl
          obtain ⟨b0, b1, b2, b3, b4', b5, b6, b7, hL⟩ := eight _ (idI_length bk ⟨2, ⟨TW.1.toArray⟩⟩)
          have HRz : Hid (R.2.2 = 0 → [b0, b1, b2, b3, b4', b5, b6, b7] = R.2.1 ∧ R.1 = pl (more bk ⟨2, ⟨TW.1.toArray⟩⟩)) := fun h0 => by
            have hE0 : errI bk ⟨2, ⟨TW.1.toArray⟩⟩ = 0 := by rw [hEI]; exact h0
            have hm := more_pl hE0
            have e1 : (⟨2, ⟨TW.1.toArray⟩⟩ : Blb).p = (2, TW.1) := rfl
            rw [e1, ← hRy] at hm
            rw [← hL]
            unfold idI
            rw [if_pos hE0, hm]
            exact ⟨rfl, rfl⟩
          rw [hL, hEI] at htell
          have htell' : Calls Tryz.prog 44 #[.pointer (some ⟨b, 0, none⟩), .agg #[.int .i64 2, .string ⟨TW.1.toArray⟩]] w4 fun e w' => e = .returned (.tuple #[.agg #[.int .u8 (b0.toNat : Int), .int .u8 (b1.toNat : Int), .int .u8 (b2.toNat : Int), .int .u8 (b3.toNat : Int), .int .u8 (b4'.toNat : Int), .int .u8 (b5.toNat : Int), .int .u8 (b6.toNat : Int), .int .u8 (b7.toNat : Int)], .int .i64 R.2.2]) ∧ Pq base b m fx mn mx bt (c + 300 * (K.flatMap (blk W0 k)).length + 1) w' _ (more bk ⟨2, ⟨TW.1.toArray⟩⟩) ∧ Pf base w4 w' := htell
          generalize more bk ⟨2, ⟨TW.1.toArray⟩⟩ = MB at *
          rw [hE]
          clear htell hL hEI hRy HRx htw b4 hI4 HQ4 HQz HF HI
          go_wp2_with fail
          refine htell'.mono ?_
          rintro e w5 ⟨rfl, q5, pf5⟩
          have hI5 : w5.heap[w.heap.size]? = some (.cells Z8 29 (0, 0)) := pf5.cells HI4.out (by decide) (by decide)
          obtain ⟨z0, z1, z2, z3, z4, z5, z6, z7⟩ := I8.cells (b0 := 0) (b1 := 0) (b2 := 0) (b3 := 0) (b4 := 0) (b5 := 0) (b6 := 0) (b7 := 0) (I8.zero hI5)
          obtain ⟨f0, f1, f2, f3, f4, f5, f6, f7⟩ := (I8.zero hI5).free
          have HF5 : Hid (Pf base w w5) := HF4.out.trans pf5
          have HB9 : Hid (Below w.heap.size w5 (set8 w5 w.heap.size b0 b1 b2 b3 b4' b5 b6 b7)) := below_set8 (Below.refl _ _) (Nat.le_refl _) _ _ _ _ _ _ _ _
          have HQ9 : Hid (Pq base b m fx mn mx bt (c + 300 * (K.flatMap (blk W0 k)).length + 1) (set8 w5 w.heap.size b0 b1 b2 b3 b4' b5 b6 b7) _ MB) := q5.kt (I8.kt8 hI5 _ _ _ _ _ _ _ _) (HB9.out.mono hbase) (by decide) (by decide)
          clear htell' q5 pf5 hI5
          go_wp2_with fail
          refine bodyPost_ret (v := .tuple #[.agg #[B b0, B b1, B b2, B b3, B b4', B b5, B b6, B b7], .int .i64 R.2.2]) ?_ rfl ⟨[b0, b1, b2, b3, b4', b5, b6, b7], rfl, rfl, HF5.out.then HB9.out hbase, fun h0 => ⟨(HRz.out h0).1, MB, (HRz.out h0).2.symm, HQ9.out⟩⟩
          have hres : Tryz.f22.results = #[.cell 4 29, .tmp 5] := by kernel_rfl
          simp only [results, hres]
          go_simp
          exact ⟨rfl, rfl, rfl, rfl, rfl, rfl, rfl, rfl⟩
        · have hRe : R = ([], [], TW.2) := by rw [HRx.out, if_pos hE]
          clear HRx
          obtain ⟨ER, hER⟩ : ∃ ER, TW.2 = ER := ⟨_, rfl⟩
          rw [hER] at hRe hE ⊢
          subst hRe
          have hne : (ER != 0) = true := by rw [bne_iff_ne]; exact hE
          have HE : Hid (ER ≠ 0) := hE
          obtain ⟨z0, z1, z2, z3, z4, z5, z6, z7⟩ := I8.cells (b0 := 0) (b1 := 0) (b2 := 0) (b3 := 0) (b4 := 0) (b5 := 0) (b6 := 0) (b7 := 0) (I8.zero hI4)
          obtain ⟨f0, f1, f2, f3, f4, f5, f6, f7⟩ := (I8.zero hI4).free
          have HB9 : Hid (Below w.heap.size w4 (set8 w4 w.heap.size 0 0 0 0 0 0 0 0)) := below_set8 (Below.refl _ _) (Nat.le_refl _) _ _ _ _ _ _ _ _
          clear hER hE htw b4 hI4 HQz
          go_wp2_with fail
          refine bodyPost_ret (v := .tuple #[.agg #[B 0, B 0, B 0, B 0, B 0, B 0, B 0, B 0], .int .i64 ER]) ?_ rfl ⟨List.replicate 8 0, rfl, rfl, HF4.out.then HB9.out hbase, fun e => absurd e HE.out⟩
          have hres : Tryz.f22.results = #[.cell 4 29, .tmp 5] := by kernel_rfl
          simp only [results, hres]
          go_simp
          rfl
      | cons y rest =>
        have hyW : y ∈ W0 := Hmisc.out.2.2.1 y List.mem_cons_self
        have hok1 := HG.out.ok1 hyW
        have hyo := HG.out.ok y hyW
        have hpc := fun W => parent_any y.path (Wk.par y.it) (Wk.nam y.it) W (path_parts hok1) (Wk.nam_slash hok1) (path_size hok1 hyo.path)
        have hneq : ¬ (mkB (Wk.par y.it)) = mkB (Nn.tails p) := fun e => by
          have e1 : Wk.par y.it = Nn.tails p := by
            have := congrArg (fun z : ByteArray => z.data.toList) e
            simpa [mkB] using this
          have e2 : y.it.nms.dropLast = p := tails_inj (fun s hs => nms_noslash hok1 s (List.dropLast_subset _ hs)) Hmisc.out.2.1 e1
          have e3 := Wk.nms_snoc hok1
          rw [e2] at e3
          exact Hmisc.out.2.2.2.1 y rfl ⟨_, by simp, e3⟩
        have heq := text_ne hneq
        have hpc' : ∀ W, Calls Tryz.prog 27 #[.string y.path] W fun e w' => e = .returned (.string (mkB (Wk.par y.it))) ∧ w' = W := hpc
        obtain ⟨la, lc, rfl, hlc1, hlc2⟩ := p2.slice
        obtain ⟨kb, ko, rfl, hkb, x0, x1, x2, x3, x4⟩ := p2.item 0 y rfl
        rw [Nat.zero_mul, Nat.add_zero] at x0 x1 x2 x3 x4
        rw [List.length_cons] at d4 hlc1
        generalize mkB (Nn.tails p) = PS at *
        generalize mkB (Wk.par y.it) = PY at *
        generalize hrl : rest.length = LN at *
        clear p1 p2 p3 p4 hmp hq1 hq2 hpc hneq hok1 hyo hyW hrl
        go_wp2_with fail
        refine (hpc' _).mono ?_
        rintro e u ⟨rfl, hu⟩
        obtain rfl := hu.symm
        clear hpc' hu x0 x1 x2 x3 x4
        go_wp2_with fail
        refine htw.mono ?_
        rintro e w4 ⟨rfl, b4⟩
        have HF4 : Hid (Pf base w w4) := HF.out.trans (Pf.of_below b4 hbw)
        have hI4 : w4.heap[w.heap.size]? = some (.cells Z8 29 (0, 0)) := (b4.block _ (Array.getElem?_eq_some_iff.1 HI.out).1).trans HI.out
        have HI4 : Hid (w4.heap[w.heap.size]? = some (.cells Z8 29 (0, 0))) := hI4
        have hwl : w.heap.size < w4.heap.size := (Array.getElem?_eq_some_iff.1 hI4).1
        by_cases hE : TW.2 = 0
        · have HQ4 := HQz.out.below b4
          have hRy : R = Wk.into (pl bk) (2, TW.1) := by rw [HRx.out, if_neg (fun q => q hE)]
          have htell := tell_q base b m (c + 300 * (K.flatMap (blk W0 k)).length) fx mn mx bt _ bk ⟨2, ⟨TW.1.toArray⟩⟩ w4 HQ4 (by have := Hmisc.out.2.2.2.2; omega) hTWs
          have hEI : errI bk ⟨2, ⟨TW.1.toArray⟩⟩ = R.2.2 := by rw [hRy]; rfl
          obtain ⟨b0, b1, b2, b3, b4', b5, b6, b7, hL⟩ := eight _ (idI_length bk ⟨2, ⟨TW.1.toArray⟩⟩)
          have HRz : Hid (R.2.2 = 0 → [b0, b1, b2, b3, b4', b5, b6, b7] = R.2.1 ∧ R.1 = pl (more bk ⟨2, ⟨TW.1.toArray⟩⟩)) := fun h0 => by
            have hE0 : errI bk ⟨2, ⟨TW.1.toArray⟩⟩ = 0 := by rw [hEI]; exact h0
            have hm := more_pl hE0
            have e1 : (⟨2, ⟨TW.1.toArray⟩⟩ : Blb).p = (2, TW.1) := rfl
            rw [e1, ← hRy] at hm
            rw [← hL]
            unfold idI
            rw [if_pos hE0, hm]
            exact ⟨rfl, rfl⟩
          rw [hL, hEI] at htell
          have htell' : Calls Tryz.prog 44 #[.pointer (some ⟨b, 0, none⟩), .agg #[.int .i64 2, .string ⟨TW.1.toArray⟩]] w4 fun e w' => e = .returned (.tuple #[.agg #[.int .u8 (b0.toNat : Int), .int .u8 (b1.toNat : Int), .int .u8 (b2.toNat : Int), .int .u8 (b3.toNat : Int), .int .u8 (b4'.toNat : Int), .int .u8 (b5.toNat : Int), .int .u8 (b6.toNat : Int), .int .u8 (b7.toNat : Int)], .int .i64 R.2.2]) ∧ Pq base b m fx mn mx bt (c + 300 * (K.flatMap (blk W0 k)).length + 1) w' _ (more bk ⟨2, ⟨TW.1.toArray⟩⟩) ∧ Pf base w4 w' := htell
          generalize more bk ⟨2, ⟨TW.1.toArray⟩⟩ = MB at *
          rw [hE]
          clear htell hL hEI hRy HRx htw b4 hI4 HQ4 HQz HF HI
          go_wp2_with fail
          refine htell'.mono ?_
          rintro e w5 ⟨rfl, q5, pf5⟩
          have hI5 : w5.heap[w.heap.size]? = some (.cells Z8 29 (0, 0)) := pf5.cells HI4.out (by decide) (by decide)
          obtain ⟨z0, z1, z2, z3, z4, z5, z6, z7⟩ := I8.cells (b0 := 0) (b1 := 0) (b2 := 0) (b3 := 0) (b4 := 0) (b5 := 0) (b6 := 0) (b7 := 0) (I8.zero hI5)
          obtain ⟨f0, f1, f2, f3, f4, f5, f6, f7⟩ := (I8.zero hI5).free
          have HF5 : Hid (Pf base w w5) := HF4.out.trans pf5
          have HB9 : Hid (Below w.heap.size w5 (set8 w5 w.heap.size b0 b1 b2 b3 b4' b5 b6 b7)) := below_set8 (Below.refl _ _) (Nat.le_refl _) _ _ _ _ _ _ _ _
          have HQ9 : Hid (Pq base b m fx mn mx bt (c + 300 * (K.flatMap (blk W0 k)).length + 1) (set8 w5 w.heap.size b0 b1 b2 b3 b4' b5 b6 b7) _ MB) := q5.kt (I8.kt8 hI5 _ _ _ _ _ _ _ _) (HB9.out.mono hbase) (by decide) (by decide)
          clear htell' q5 pf5 hI5
          go_wp2_with fail
          refine bodyPost_ret (v := .tuple #[.agg #[B b0, B b1, B b2, B b3, B b4', B b5, B b6, B b7], .int .i64 R.2.2]) ?_ rfl ⟨[b0, b1, b2, b3, b4', b5, b6, b7], rfl, rfl, HF5.out.then HB9.out hbase, fun h0 => ⟨(HRz.out h0).1, MB, (HRz.out h0).2.symm, HQ9.out⟩⟩
          have hres : Tryz.f22.results = #[.cell 4 29, .tmp 5] := by kernel_rfl
          simp only [results, hres]
          go_simp
          exact ⟨rfl, rfl, rfl, rfl, rfl, rfl, rfl, rfl⟩
        · have hRe : R = ([], [], TW.2) := by rw [HRx.out, if_pos hE]
          clear HRx
          obtain ⟨ER, hER⟩ : ∃ ER, TW.2 = ER := ⟨_, rfl⟩
          rw [hER] at hRe hE ⊢
          subst hRe
          have hne : (ER != 0) = true := by rw [bne_iff_ne]; exact hE
          have HE : Hid (ER ≠ 0) := hE
          obtain ⟨z0, z1, z2, z3, z4, z5, z6, z7⟩ := I8.cells (b0 := 0) (b1 := 0) (b2 := 0) (b3 := 0) (b4 := 0) (b5 := 0) (b6 := 0) (b7 := 0) (I8.zero hI4)
          obtain ⟨f0, f1, f2, f3, f4, f5, f6, f7⟩ := (I8.zero hI4).free
          have HB9 : Hid (Below w.heap.size w4 (set8 w4 w.heap.size 0 0 0 0 0 0 0 0)) := below_set8 (Below.refl _ _) (Nat.le_refl _) _ _ _ _ _ _ _ _
          clear hER hE htw b4 hI4 HQz
          go_wp2_with fail
          refine bodyPost_ret (v := .tuple #[.agg #[B 0, B 0, B 0, B 0, B 0, B 0, B 0, B 0], .int .i64 ER]) ?_ rfl ⟨List.replicate 8 0, rfl, rfl, HF4.out.then HB9.out hbase, fun e => absurd e HE.out⟩
          have hres : Tryz.f22.results = #[.cell 4 29, .tmp 5] := by kernel_rfl
          simp only [results, hres]
          go_simp
          rfl

end Go.Proofs.YtimdioacmojkeaaGreatDoor

namespace Go.Proofs.YtimdioacmojkeaaGreatDoor
open Go.RowKit
set_option maxRecDepth 4000
open Nn (Name)

theorem dir_all {base b m : Nat} {fx mn mx bt : Int} {W0 : List Im} (hg : Gd fx mn mx bt W0) : ∀ k, 1 ≤ k → DirOk base b m fx mn mx bt W0 k
  | 0, h => by omega
  | k + 1, _ => dir_step hg k fun h => dir_all hg k h

/-- what Plant tells, in plain words -/
def plantP (fx mn mx bt : Int) (l : List Wk.It) : List Pk.Bl × Wk.Bs × Int :=
  if wayN fx mn mx bt ≠ 0 then ([], [], wayN fx mn mx bt) else if Wk.world l ≠ 0 then ([], [], Wk.world l) else Wk.plantDir (cutF fx mn mx bt) l 9 [] []

theorem dI_all {l : List Im} (h : Wk.world (its l) = 0) : dI l 9 [] = l := by
  obtain ⟨_, hr⟩ := Wk.world_ok h
  have hs : Wk.Sorted (fun x : Im => x.it.nms) l := by
    have := hr.sorted
    unfold Wk.Sorted its at this
    rw [List.pairwise_map] at this
    exact this
  have hc : Wk.Closed (fun x : Im => x.it.nms) (fun x => x.it.dir) l := fun x hx => by
    obtain ⟨c1, c2⟩ := hr.closed _ (List.mem_map_of_mem (f := Im.it) hx)
    refine ⟨c1, c2.imp id fun ⟨y, hy, e1, e2⟩ => ?_⟩
    obtain ⟨z, hz, rfl⟩ := List.mem_map.1 hy
    exact ⟨z, hz, e1, e2⟩
  refine Wk.dfs_all hs hc 9 fun x hx => ?_
  have := Wk.names_few (Wk.iErr_ok (hr.each _ (List.mem_map_of_mem (f := Im.it) hx)))
  omega

/-- what Plant answers -/
def PlOut (fx mn mx bt : Int) (l : List Im) (w : World) (e : Ending) (w' : World) : Prop :=
  ∃ v id, e = .returned (.tuple #[v, idV id, .int .i64 (plantP fx mn mx bt (its l)).2.2]) ∧ id.length = 8 ∧ Below w.heap.size w w' ∧ ((plantP fx mn mx bt (its l)).2.2 ≠ 0 → v = .slice none 0 0 ∧ id = List.replicate 8 0) ∧
    ((plantP fx mn mx bt (its l)).2.2 = 0 → ∃ bs, pl bs = (plantP fx mn mx bt (its l)).1 ∧ id = (plantP fx mn mx bt (its l)).2.1 ∧ w'.ownsRow w.heap.size 37 2 v bs.length (rowR blC bs) ∧ bs.length ≤ 1000000)

set_option maxHeartbeats 4000000 in
set_option maxRecDepth 10000 in
theorem plant_any (fx mn mx bt : Int) (v : Value) (l : List Im) (w : World) (h : Ims w v l) (hl : l.length ≤ 140737488351232) (hok : ∀ x ∈ l, x.Ok) (hT : Tabs w) :
    Calls Tryz.prog 7 #[wayV fx mn mx bt, v] w (PlOut fx mn mx bt l w) := by
  unfold PlOut
  obtain ⟨P, hP⟩ : ∃ P, P = plantP fx mn mx bt (its l) := ⟨_, rfl⟩
  rw [← hP]
  have HP : Hid (P = if wayN fx mn mx bt ≠ 0 then ([], [], wayN fx mn mx bt) else if Wk.world (its l) ≠ 0 then ([], [], Wk.world (its l)) else Wk.plantDir (cutF fx mn mx bt) (its l) 9 [] []) := hP
  obtain ⟨a, c, rfl, hlc1, hlc2⟩ := h.slice
  obtain ⟨W2, hW2⟩ : ∃ W2, W2 = (w.alloc (.cells #[.int .i64 fx, .int .i64 mn, .int .i64 mx, .int .i64 bt] 25)).alloc (.cells #[.int .u8 0, .int .u8 0, .int .u8 0, .int .u8 0, .int .u8 0, .int .u8 0, .int .u8 0, .int .u8 0] 29) := ⟨_, rfl⟩
  obtain ⟨t1, t2, t3, t4⟩ := two_new w (.cells #[.int .i64 fx, .int .i64 mn, .int .i64 mx, .int .i64 bt] 25) (.cells #[.int .u8 0, .int .u8 0, .int .u8 0, .int .u8 0, .int .u8 0, .int .u8 0, .int .u8 0, .int .u8 0] 29)
  rw [← hW2] at t1 t2 t3 t4
  have HB2 : Hid (Below w.heap.size w W2) := t4
  have HS2 : Hid (W2.heap.size = w.heap.size + 2) := t3
  have HI2 : Hid (W2.heap[w.heap.size + 1]? = some (.cells Z8 29 (0, 0))) := t2
  have HY2 : Hid (W2.heap[w.heap.size]? = some (.cells #[.int .i64 fx, .int .i64 mn, .int .i64 mx, .int .i64 bt] 25 (0, 0))) := t1
  have HX : Hid (Ims w (.slice a l.length c) l) := h
  have HVb : Hid (∀ a' n c', Value.slice a l.length c = .slice (some a') n c' → l ≠ [] → a'.block < w.heap.size) := fun a' n c' e hl0 => by
    rcases h.at_ with ⟨_, e2⟩ | ⟨bk, o, cap, e2, h3, _⟩
    · exact absurd e2 hl0
    · rw [e2] at e; cases e; exact h3
  have HK : Hid (∀ x ∈ l, x.Ok) := hok
  have HT : Hid (Tabs w) := hT
  have hway := wayok_any fx mn mx bt W2
  have hchk := fun W (hW : Below w.heap.size w W) => wcheck_any _ l W (HX.out.below hW) hl HK.out (HT.out.below hW)
  obtain ⟨c0, c1, c2, c3⟩ : W2.cell? ⟨w.heap.size, 0, none⟩ = some (.int .i64 fx) ∧ W2.cell? ⟨w.heap.size, 1, none⟩ = some (.int .i64 mn) ∧ W2.cell? ⟨w.heap.size, 2, none⟩ = some (.int .i64 mx) ∧ W2.cell? ⟨w.heap.size, 3, none⟩ = some (.int .i64 bt) := by
    refine ⟨?_, ?_, ?_, ?_⟩ <;> simp [World.cell?, t1]
  obtain ⟨LN, hLN⟩ : ∃ LN, LN = l.length := ⟨_, rfl⟩
  have HLN : Hid (LN = l.length) := hLN
  rw [← hLN] at HX hchk HVb ⊢
  clear hP h hok hT t1 t2 t3 t4 hLN hlc1 hlc2 hl
  go_enter Tryz.func7, Tryz.ntmps7
  go_upto_region 1 with fail
  rw [← hW2]
  clear hW2
  go_wp2_with fail
  refine hway.mono ?_
  rintro e w3 ⟨rfl, b3⟩
  have HB3 : Hid (Below w.heap.size w w3) := HB2.out.trans (b3.mono HB2.out.size)
  have hI3 : w3.heap[w.heap.size + 1]? = some (.cells Z8 29 (0, 0)) := (b3.block _ (Array.getElem?_eq_some_iff.1 HI2.out).1).trans HI2.out
  have HI3 : Hid (w3.heap[w.heap.size + 1]? = some (.cells Z8 29 (0, 0))) := hI3
  have HY3 : Hid (w3.heap[w.heap.size]? = some (.cells #[.int .i64 fx, .int .i64 mn, .int .i64 mx, .int .i64 bt] 25 (0, 0))) := (b3.block _ (Array.getElem?_eq_some_iff.1 HY2.out).1).trans HY2.out
  clear hway b3 c0 c1 c2 c3
  by_cases hE : wayN fx mn mx bt = 0
  case neg =>
    have hRe : P = ([], [], wayN fx mn mx bt) := by rw [HP.out, if_pos hE]
    obtain ⟨ER, hER⟩ : ∃ ER, wayN fx mn mx bt = ER := ⟨_, rfl⟩
    rw [hER] at hRe hE ⊢
    clear HP
    subst hRe
    have hne : (ER != 0) = true := by rw [bne_iff_ne]; exact hE
    have HE : Hid (ER ≠ 0) := hE
    obtain ⟨z0, z1, z2, z3, z4, z5, z6, z7⟩ := I8.cells (b0 := 0) (b1 := 0) (b2 := 0) (b3 := 0) (b4 := 0) (b5 := 0) (b6 := 0) (b7 := 0) (I8.zero hI3)
    obtain ⟨f0, f1, f2, f3, f4, f5, f6, f7⟩ := (I8.zero hI3).free
    have HB9 : Hid (Below w.heap.size w (set8 w3 (w.heap.size + 1) 0 0 0 0 0 0 0 0)) := below_set8 HB3.out (by omega) _ _ _ _ _ _ _ _
    clear hER hE hchk hI3
    go_wp2_with fail
    refine bodyPost_ret (v := .tuple #[.slice none 0 0, .agg #[B 0, B 0, B 0, B 0, B 0, B 0, B 0, B 0], .int .i64 ER]) ?_ rfl ⟨_, List.replicate 8 0, rfl, rfl, HB9.out, fun _ => ⟨rfl, rfl⟩, fun e => absurd e HE.out⟩
    have hres : Tryz.f7.results = #[.tmp 4, .cell 5 29, .tmp 6] := by kernel_rfl
    simp only [results, hres]
    go_simp
    rfl
  have HWy : Hid (wayN fx mn mx bt = 0) := hE
  have HP2 : Hid (P = if Wk.world (its l) ≠ 0 then ([], [], Wk.world (its l)) else Wk.plantDir (cutF fx mn mx bt) (its l) 9 [] []) := by show _ = _; rw [HP.out, if_neg (fun q => q hE)]
  rw [hE]
  clear HP hE hI3
  go_wp2_with fail
  refine (hchk w3 HB3.out).mono ?_
  rintro e w4 ⟨rfl, b4⟩
  have HB4 : Hid (Below w.heap.size w w4) := HB3.out.trans (b4.mono HB3.out.size)
  have hI4 : w4.heap[w.heap.size + 1]? = some (.cells Z8 29 (0, 0)) := (b4.block _ (Array.getElem?_eq_some_iff.1 HI3.out).1).trans HI3.out
  have HI4 : Hid (w4.heap[w.heap.size + 1]? = some (.cells Z8 29 (0, 0))) := hI4
  have hY4 : w4.heap[w.heap.size]? = some (.cells #[.int .i64 fx, .int .i64 mn, .int .i64 mx, .int .i64 bt] 25 (0, 0)) := (b4.block _ (Array.getElem?_eq_some_iff.1 HY3.out).1).trans HY3.out
  clear hchk b4
  by_cases hE : Wk.world (its l) = 0
  case neg =>
    have hRe : P = ([], [], Wk.world (its l)) := by rw [HP2.out, if_pos hE]
    obtain ⟨ER, hER⟩ : ∃ ER, Wk.world (its l) = ER := ⟨_, rfl⟩
    rw [hER] at hRe hE ⊢
    clear HP2
    subst hRe
    have hne : (ER != 0) = true := by rw [bne_iff_ne]; exact hE
    have HE : Hid (ER ≠ 0) := hE
    obtain ⟨z0, z1, z2, z3, z4, z5, z6, z7⟩ := I8.cells (b0 := 0) (b1 := 0) (b2 := 0) (b3 := 0) (b4 := 0) (b5 := 0) (b6 := 0) (b7 := 0) (I8.zero hI4)
    obtain ⟨f0, f1, f2, f3, f4, f5, f6, f7⟩ := (I8.zero hI4).free
    have HB9 : Hid (Below w.heap.size w (set8 w4 (w.heap.size + 1) 0 0 0 0 0 0 0 0)) := below_set8 HB4.out (by omega) _ _ _ _ _ _ _ _
    clear hER hE hI4
    go_wp2_with fail
    refine bodyPost_ret (v := .tuple #[.slice none 0 0, .agg #[B 0, B 0, B 0, B 0, B 0, B 0, B 0, B 0], .int .i64 ER]) ?_ rfl ⟨_, List.replicate 8 0, rfl, rfl, HB9.out, fun _ => ⟨rfl, rfl⟩, fun e => absurd e HE.out⟩
    have hres : Tryz.f7.results = #[.tmp 4, .cell 5 29, .tmp 6] := by kernel_rfl
    simp only [results, hres]
    go_simp
    rfl
  have HP3 : Hid (P = Wk.plantDir (cutF fx mn mx bt) (its l) 9 [] []) := by show _ = _; rw [HP2.out, if_neg (fun q => q hE)]
  obtain ⟨hw100, hright⟩ := Wk.world_ok hE
  rw [its_length] at hw100
  have HAll : Hid (dI l 9 [] = l) := dI_all hE
  have hgd : Gd fx mn mx bt l := ⟨hright, HK.out, HWy.out⟩
  have hmk := run_makeMap (P := Tryz.prog) 57 w4
  obtain ⟨base, hbase⟩ : ∃ base, base = w4.heap.size := ⟨_, rfl⟩
  obtain ⟨W6, hW6⟩ : ∃ W6, W6 = (w4.alloc (.map #[] 0)).alloc (.cells #[.int .i64 fx, .int .i64 mn, .int .i64 mx, .int .i64 bt, .slice a LN c, .map (some w4.heap.size), .slice none 0 0] 59) := ⟨_, rfl⟩
  obtain ⟨t1, t2, t3, t4⟩ := two_new w4 (.map #[] 0) (.cells #[.int .i64 fx, .int .i64 mn, .int .i64 mx, .int .i64 bt, .slice a LN c, .map (some w4.heap.size), .slice none 0 0] 59)
  rw [← hW6] at t1 t2 t3 t4
  have hws : w.heap.size ≤ w4.heap.size := HB4.out.size
  have hQ6 : Pq base (w4.heap.size + 1) w4.heap.size fx mn mx bt 0 W6 (dI l 9 [] ++ []) [] := by
    rw [List.append_nil, HAll.out]
    refine ⟨Nat.le_refl _, 0, Nat.le_refl _, ⟨⟨_, _, t2, (HX.out.below HB4.out).below t4, fun a' n c' e hl0 => ?_, World.ownsRow_nil _ _ _ _⟩, ?_, by omega, by omega⟩⟩
    · have := HVb.out a' n c' e hl0
      omega
    · have hm0 := Mp.new w4
      have hb : Below (w4.alloc (.map #[] 0)).heap.size (w4.alloc (.map #[] 0)) W6 := by rw [hW6]; exact (Below.refl _ _).alloc (Nat.le_refl _) _
      exact hm0.below hb
  have hdir := dir_all hgd 9 (by omega) [] [] [] 0 W6 (by simp) (fun _ q => absurd q List.not_mem_nil) (fun _ q => absurd q List.not_mem_nil) (fun _ q => by simp at q) (by rw [HAll.out]; omega) hQ6 (fun W hW => HT.out.below (HB4.out.trans ((t4.mono (Nat.le_refl _)).trans (hW.mono (by omega)) |>.mono hws))) P HP3.out
  rw [HAll.out] at hdir
  have hdir' : Calls Tryz.prog 22 #[.pointer (some ⟨w4.heap.size + 1, 0, none⟩), .string ⟨#[]⟩] W6 fun e w' => ∃ id, e = .returned (.tuple #[idV id, .int .i64 P.2.2]) ∧ id.length = 8 ∧ Pf base W6 w' ∧ (P.2.2 = 0 → id = P.2.1 ∧ ∃ bs', pl bs' = P.1 ∧ Pq base (w4.heap.size + 1) w4.heap.size fx mn mx bt (0 + 300 * l.length + 1) w' [] bs') := hdir
  have HB6 : Hid (Below w.heap.size w W6) := HB4.out.trans (t4.mono hws)
  have HI6 : Hid (W6.heap[w.heap.size + 1]? = some (.cells Z8 29 (0, 0))) := (t4.block _ (Array.getElem?_eq_some_iff.1 HI4.out).1).trans HI4.out
  have HBs : Hid (base = w4.heap.size ∧ l.length ≤ 100 ∧ w.heap.size + 2 ≤ base) := ⟨hbase, hw100, by have := (Array.getElem?_eq_some_iff.1 hI4).1; omega⟩
  obtain ⟨c0, c1, c2, c3⟩ : w4.cell? ⟨w.heap.size, 0, none⟩ = some (.int .i64 fx) ∧ w4.cell? ⟨w.heap.size, 1, none⟩ = some (.int .i64 mn) ∧ w4.cell? ⟨w.heap.size, 2, none⟩ = some (.int .i64 mx) ∧ w4.cell? ⟨w.heap.size, 3, none⟩ = some (.int .i64 bt) := by
    refine ⟨?_, ?_, ?_, ?_⟩ <;> simp [World.cell?, hY4]
  have hy4 : w.heap.size < w4.heap.size := (Array.getElem?_eq_some_iff.1 hY4).1
  rw [hE]
  clear hdir hQ6 t1 t2 t3 t4 hgd HP2 hright hw100 hE hI4 hY4 hbase
  go_upto_region 8 with fail
  rw [← hW6]
  clear hW6 c0 c1 c2 c3 hmk
  go_wp2_with fail
  refine hdir'.mono ?_
  rintro e w7 ⟨id, rfl, hid, f7, hz⟩
  obtain ⟨b0, b1, b2, b3, b4, b5, b6, b7, rfl⟩ := eight id hid
  have eV : idV [b0, b1, b2, b3, b4, b5, b6, b7] = .agg #[.int .u8 (b0.toNat : Int), .int .u8 (b1.toNat : Int), .int .u8 (b2.toNat : Int), .int .u8 (b3.toNat : Int), .int .u8 (b4.toNat : Int), .int .u8 (b5.toNat : Int), .int .u8 (b6.toNat : Int), .int .u8 (b7.toNat : Int)] := rfl
  rw [eV]
  have HZ : Hid (P.2.2 = 0 → [b0, b1, b2, b3, b4, b5, b6, b7] = P.2.1 ∧ ∃ bs', pl bs' = P.1 ∧ Pq base (w4.heap.size + 1) w4.heap.size fx mn mx bt (0 + 300 * l.length + 1) w7 [] bs') := hz
  have hI7 : w7.heap[w.heap.size + 1]? = some (.cells Z8 29 (0, 0)) := f7.cells HI6.out (by decide) (by decide)
  have HB7 : Hid (Below w.heap.size w w7) := HB6.out.trans (f7.low.mono (by have := HBs.out; omega))
  have HI7 : Hid (w7.heap[w.heap.size + 1]? = some (.cells Z8 29 (0, 0))) := hI7
  have hw7 : w.heap.size + 1 < w7.heap.size := (Array.getElem?_eq_some_iff.1 hI7).1
  clear hdir' f7 eV hid
  by_cases hE : P.2.2 = 0
  case neg =>
    obtain ⟨P1, P2, ER⟩ := P
    dsimp only at hE hz ⊢
    have hne : (ER != 0) = true := by rw [bne_iff_ne]; exact hE
    have HE : Hid (ER ≠ 0) := hE
    obtain ⟨z0, z1, z2, z3, z4, z5, z6, z7⟩ := I8.cells (b0 := 0) (b1 := 0) (b2 := 0) (b3 := 0) (b4 := 0) (b5 := 0) (b6 := 0) (b7 := 0) (I8.zero hI7)
    obtain ⟨f0, f1, f2, f3, f4, f5, f6, f7⟩ := (I8.zero hI7).free
    have HB9 : Hid (Below w.heap.size w ((set8 w7 (w.heap.size + 1) 0 0 0 0 0 0 0 0).alloc (.cells #[.int .u8 (b0.toNat : Int), .int .u8 (b1.toNat : Int), .int .u8 (b2.toNat : Int), .int .u8 (b3.toNat : Int), .int .u8 (b4.toNat : Int), .int .u8 (b5.toNat : Int), .int .u8 (b6.toNat : Int), .int .u8 (b7.toNat : Int)] 29))) := by
      have hb := below_set8 HB7.out (Nat.le_succ _) 0 0 0 0 0 0 0 0
      exact hb.alloc hb.size _
    clear hE hz hI7
    go_wp2_with fail
    refine bodyPost_ret (v := .tuple #[.slice none 0 0, .agg #[B 0, B 0, B 0, B 0, B 0, B 0, B 0, B 0], .int .i64 ER]) ?_ rfl ⟨_, List.replicate 8 0, rfl, rfl, HB9.out, fun _ => ⟨rfl, rfl⟩, fun e => absurd e HE.out⟩
    have hres : Tryz.f7.results = #[.tmp 4, .cell 5 29, .tmp 6] := by kernel_rfl
    simp only [results, hres]
    go_simp
    rfl
  obtain ⟨hid, bs', hb1, hb2⟩ := hz hE
  obtain ⟨hq1, nq, hq2, ⟨⟨lv, bv, p1, p2, p3, p4⟩, _, _, _⟩⟩ := hb2
  obtain ⟨d0, d1, d2, d3, d4, d5, d6, dlt⟩ := sev_at p1
  obtain ⟨ba, bc, ebv⟩ := own_form p4
  subst ebv
  obtain ⟨z0, z1, z2, z3, z4, z5, z6, z7⟩ := I8.cells (b0 := 0) (b1 := 0) (b2 := 0) (b3 := 0) (b4 := 0) (b5 := 0) (b6 := 0) (b7 := 0) (I8.zero hI7)
  obtain ⟨f0, f1, f2, f3, f4, f5, f6, f7⟩ := (I8.zero hI7).free
  have HB9 : Hid (Below w.heap.size w (((set8 w7 (w.heap.size + 1) b0 b1 b2 b3 b4 b5 b6 b7).alloc (.cells #[.int .u8 (b0.toNat : Int), .int .u8 (b1.toNat : Int), .int .u8 (b2.toNat : Int), .int .u8 (b3.toNat : Int), .int .u8 (b4.toNat : Int), .int .u8 (b5.toNat : Int), .int .u8 (b6.toNat : Int), .int .u8 (b7.toNat : Int)] 29)).drew)) := by
    have hb := below_set8 HB7.out (Nat.le_succ _) b0 b1 b2 b3 b4 b5 b6 b7
    exact (hb.alloc hb.size _).drew
  have HO9 : Hid ((((set8 w7 (w.heap.size + 1) b0 b1 b2 b3 b4 b5 b6 b7).alloc (.cells #[.int .u8 (b0.toNat : Int), .int .u8 (b1.toNat : Int), .int .u8 (b2.toNat : Int), .int .u8 (b3.toNat : Int), .int .u8 (b4.toNat : Int), .int .u8 (b5.toNat : Int), .int .u8 (b6.toNat : Int), .int .u8 (b7.toNat : Int)] 29)).drew).ownsRow w.heap.size 37 2 (.slice ba bs'.length bc) bs'.length (rowR blC bs')) :=
    ((own_lower (own_kt p4 (I8.kt8 hI7 b0 b1 b2 b3 b4 b5 b6 b7) (by decide)) (by have := HBs.out; omega)).alloc _).drew
  have HFin : Hid (P.2.2 = 0 ∧ pl bs' = P.1 ∧ [b0, b1, b2, b3, b4, b5, b6, b7] = P.2.1 ∧ bs'.length ≤ 1000000) := ⟨hE, hb1, hid, by have := HBs.out; omega⟩
  obtain ⟨BN, hBN⟩ : ∃ BN, BN = bs'.length := ⟨_, rfl⟩
  rw [← hBN] at d6
  rw [hE]
  clear p1 p2 p3 p4 hq1 hq2 hz hI7 hb1 hid
  go_wp2_with fail
  go_region
  all_goals
    go_wp2_with fail
    subst hBN
    refine bodyPost_ret (v := .tuple #[.slice ba bs'.length bc, .agg #[B b0, B b1, B b2, B b3, B b4, B b5, B b6, B b7], .int .i64 0]) ?_ rfl ⟨_, [b0, b1, b2, b3, b4, b5, b6, b7], by rw [HFin.out.1]; rfl, rfl, HB9.out, fun e => absurd HFin.out.1 e, fun _ => ⟨bs', HFin.out.2.1, HFin.out.2.2.1, HO9.out, HFin.out.2.2.2⟩⟩
    have hres : Tryz.f7.results = #[.tmp 4, .cell 5 29, .tmp 6] := by kernel_rfl
    simp only [results, hres]
    go_simp
    exact ⟨rfl, rfl, rfl, rfl, rfl, rfl, rfl, rfl⟩

end Go.Proofs.YtimdioacmojkeaaGreatDoor
