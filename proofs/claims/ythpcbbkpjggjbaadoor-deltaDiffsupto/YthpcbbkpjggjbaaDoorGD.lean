/-
  Package delta: what sideBySide answers of two rows of api.Edit and api.Edit.
  Package delta: what Join answers.
  P52 (no Go in it): what the statement about joined edits leans on.
  What the statement about joined edits answers.
  As OwG, without places: appending within the capacity; a block that may be written; a list with two more things behind it.
  slices.Clone over items and over edits.
  lumref: what itemAt and editAt answer.
  lumref, for package delta: one text more behind a row of one's own; a row behind another one.
  A structure of the library's at this program (laid by the guide's own tools, written out in plain words).
  slices.Insert of one text into a row of texts of one's own.
  lumref: what char answers: the character at the front of a text.
  lumref: what Chars and Name answer.
  Nothing is laid here: this program has none of it.
  P37: what Join of package names answers.
  P38: what strings.Cut at a slash and Clean of package names answer.
  lumref: what cutAt answers: the parts of a text between its slashes, in a row of one's own.
  lumref: what nameErr, Split, Join, Clean, ahead and Less answer.
  lumref: what Join, Clean, ahead and Less answer.
  lumref: what ahead and Less answer.
  lumref: what allPaths answers: all paths in order, each once.
-/
import Derived.Test.YthpcbbkpjggjbaaDoorGB
import Derived.Deep.Cut
import Derived.Deep.CutBlock
import Derived.Deep.DeepCutAuto
import Derived.Test.YthpcbbkpjggjbaaDoorGC
import Derived.Test.YthpcbbkpjggjbaaDoorGA
import Derived.Deep.RegionHeld3
import Derived.Deep.MidRow
import Derived.Lib.SliceRun
import Derived.Maps.AppendAt
import Derived.Laws.AppendOwnNone
import Derived.Lib.Strings
import Derived.OwnWalk
import Derived.Laws.AppendOwn
import Derived.Shelf.Spec.SlicesInsertGrow
import Derived.Test.YthpcbbkpjggjbaaDoorProg
import Derived.Below
import Derived.WalkKit
import Derived.WalkSpells
import Derived.WalkLawsBesides
import Derived.Laws.IdiomStrings
import Derived.Lib.IndexBytes
import Derived.Deep.LoopGhost
import Derived.Shelf.Strings.OnBuilder
import Derived.Deep.RegionWith

namespace Go.Proofs.YthpcbbkpjggjbaaDoor
open Go.RowKit
set_option maxRecDepth 4000

def lenEE : Value → Nat
  | .slice _ n _ => n
  | _ => 0

abbrev sdEE : List Em → List Em → List (Option Em × Option Em) := Dl.side (fun x : Em => x.ed.path) (fun y : Em => y.ed.path)

/-- how far two rows have been gone through -/
structure SdEE (w : World) (a : List Em) (b : List Em) (p q s : Value) (W : World) (la : List Em) (lb : List Em) (done : List (Option Em × Option Em)) : Prop where
  ra : Eds w p la
  rb : Eds w q lb
  oa : ∀ x ∈ la, x.Ok
  ob : ∀ x ∈ lb, x.Ok
  row : W.ownsRow w.heap.size 67 16 s done.length (rowR eeC done)
  bel : Below w.heap.size w W
  eq : sdEE a b = done ++ sdEE la lb
  len : done.length + (la.length + lb.length) ≤ a.length + b.length

theorem info_ee : (Tryd.prog.info? 67).map (fun i => (i.zero, i.size, i.bytes)) = some (some (.agg #[.string ⟨#[]⟩, .bool false, .string ⟨#[]⟩, .int .i64 0, .int .i64 0, .int .i64 0, .string ⟨#[]⟩, .string ⟨#[]⟩, .bool false, .string ⟨#[]⟩, .int .i64 0, .int .i64 0, .int .i64 0, .string ⟨#[]⟩, .bool false, .bool false]), 16, 168) := by kernel_rfl

theorem inf_ee : (Tryd.prog.info? 67).map (·.size) = some 16 := by kernel_rfl

theorem eeC_len (z : Option Em × Option Em) : (eeC z).length = 16 := by rfl

theorem eeC_one (z : Option Em × Option Em) : ∀ u ∈ eeC z, u.oneCell' = true := prC_one emC_one emC_one z

theorem setA_ee {W : World} {b : Nat} {x0 : Em} {y0 : Em} {f g : Bool} {xp xi xb : ByteArray} {xg : Bool} {xk xm xt : Int} (h : W.heap[b]? = some (.cells (qC emC emC x0 y0 f g).toArray 67 (0, 0))) : (W.setCells b 0 (emC ⟨xp, xg, ⟨xi, xk, xm, xt, xb⟩⟩)).heap[b]? = some (.cells (qC emC emC ⟨xp, xg, ⟨xi, xk, xm, xt, xb⟩⟩ y0 f g).toArray 67 (0, 0)) := by
  exact sets_blk (post := emC y0 ++ [.bool f, .bool g]) (emC ⟨xp, xg, ⟨xi, xk, xm, xt, xb⟩⟩) [] (emC x0) W h rfl

theorem setB_ee {W : World} {b : Nat} {x0 : Em} {y0 : Em} {f g : Bool} {yp yi yb : ByteArray} {yg : Bool} {yk ym yt : Int} (h : W.heap[b]? = some (.cells (qC emC emC x0 y0 f g).toArray 67 (0, 0))) : (W.setCells b 7 (emC ⟨yp, yg, ⟨yi, yk, ym, yt, yb⟩⟩)).heap[b]? = some (.cells (qC emC emC x0 ⟨yp, yg, ⟨yi, yk, ym, yt, yb⟩⟩ f g).toArray 67 (0, 0)) := by
  exact sets_blk (post := [.bool f, .bool g]) (emC ⟨yp, yg, ⟨yi, yk, ym, yt, yb⟩⟩) (emC x0) (emC y0) W h rfl

theorem flgA_ee {W : World} {b : Nat} {x0 : Em} {y0 : Em} {f g : Bool} (h : W.heap[b]? = some (.cells (qC emC emC x0 y0 f g).toArray 67 (0, 0))) : (W.setCell ⟨b, 14, none⟩ (.bool true)).heap[b]? = some (.cells (qC emC emC x0 y0 true g).toArray 67 (0, 0)) := set_blk h 14 (.bool true)

theorem flgB_ee {W : World} {b : Nat} {x0 : Em} {y0 : Em} {f g : Bool} (h : W.heap[b]? = some (.cells (qC emC emC x0 y0 f g).toArray 67 (0, 0))) : (W.setCell ⟨b, 15, none⟩ (.bool true)).heap[b]? = some (.cells (qC emC emC x0 y0 f true).toArray 67 (0, 0)) := set_blk h 15 (.bool true)

theorem more_ee (base : Nat) (v : Value) (l : List (Option Em × Option Em)) (t : Option Em × Option Em) (w : World) (h : w.ownsRow base 67 16 v l.length (rowR eeC l)) (g : Nat) (hg : w.heap[g]? = some (.cells (eeC t).toArray 67 (0, 0)))
    (hl : l.length < 100000) (hbase : base ≤ w.heap.size) :
    ∃ v' w', (Builtin.append_ #[63, 63] 63 #[v, .slice (some ⟨g, 0, none⟩) 1 1]).run Tryd.prog w = .ok v' w' ∧ w'.ownsRow base 67 16 v' (l ++ [t]).length (rowR eeC (l ++ [t])) ∧ w.grownBy w' v.ownBlock :=
  row_more Tryd.underlying63 info_ee rfl (by decide) eeC_len eeC_one base v l t w h g hg (by omega) (by omega) hbase

set_option maxHeartbeats 16000000 in
theorem sideEE_any (va vb : Value) (a : List Em) (b : List Em) (w : World) (ha : Eds w va a) (hb : Eds w vb b) (hla : a.length + b.length ≤ 1000) (oa : ∀ x ∈ a, x.Ok) (ob : ∀ x ∈ b, x.Ok) (hT : Tabs w) :
    Calls Tryd.prog 32 #[va, vb, .func (.func 33) #[] #[]] w fun e w' => ∃ v, e = .returned v ∧ w'.ownsRow w.heap.size 67 16 v (sdEE a b).length (rowR eeC (sdEE a b)) ∧ Below w.heap.size w w' := by
  obtain ⟨sa, sc, rfl, _, _⟩ := ha.slice
  obtain ⟨sb, tc, rfl, _, _⟩ := hb.slice
  have HT : Hid (Tabs w) := hT
  have HL0 : Hid (a.length + b.length ≤ 1000) := hla
  have H0 : Hid (SdEE w a b (.slice sa a.length sc) (.slice sb b.length tc) (.slice none 0 0) w a b []) := ⟨ha, hb, oa, ob, World.ownsRow_nil _ _ _ _, Below.refl _ _, rfl, by simp⟩
  generalize hna : a.length = na at *
  generalize hnb : b.length = nb at *
  clear ha hb hla oa ob hT
  go_enter Tryd.func32, Tryd.ntmps32
  go_upto_block 0 with fail
  go_cut [0, 1, 7] from 8 to 51 (fun p q s wx => ∃ la lb done, Hid (SdEE w a b p q s wx la lb done) ∧ Hid (la = [] ∨ lb = []))
  case first =>
    go_wp2_with fail
    go_loopw [0, 1, 7] (fun p q s wr => ∃ la lb done, Hid (SdEE w a b p q s wr la lb done)) (fun p q _ _ => lenEE p + lenEE q)
    case atStart => exact ⟨a, b, [], H0⟩
    case round =>
      clear H0
      obtain ⟨la, lb, done, H⟩ := hrel
      cases la with
      | nil =>
        obtain ⟨pa, pc, rfl, _, _⟩ := H.out.ra.slice
        go_wp2_with fail
        go_meet
        exact ⟨[], lb, done, H, .inl rfl⟩
      | cons x la =>
        cases lb with
        | nil =>
          obtain ⟨pa, pc, rfl, _, _⟩ := H.out.ra.slice
          obtain ⟨qa, qc, rfl, _, _⟩ := H.out.rb.slice
          go_wp2_with fail
          go_meet
          exact ⟨x :: la, [], done, H, .inr rfl⟩
        | cons y lb =>
          obtain ⟨pa, pc, rfl, hpc1, hpc2⟩ := H.out.ra.slice
          obtain ⟨qa, qc, rfl, hqc1, hqc2⟩ := H.out.rb.slice
          obtain ⟨bk, o, rfl, hbk, hxa⟩ := H.out.ra.get 0 x rfl
          obtain ⟨bkk, oo, rfl, hbkk, hxb⟩ := H.out.rb.get 0 y rfl
          obtain ⟨va, hva⟩ : ∃ va, va = Value.slice (if pc = 1 then some ⟨bk, o, none⟩ else some ⟨bk, o + 7, none⟩) la.length (pc - 1) := ⟨_, rfl⟩
          obtain ⟨vb, hvb⟩ : ∃ vb, vb = Value.slice (if qc = 1 then some ⟨bkk, oo, none⟩ else some ⟨bkk, oo + 7, none⟩) lb.length (qc - 1) := ⟨_, rfl⟩
          have HRa : Hid (Eds w va la) := by rw [hva]; exact H.out.ra.rest
          have HRb : Hid (Eds w vb lb) := by rw [hvb]; exact H.out.rb.rest
          have HXa : Hid (∀ W, Below wr.heap.size wr W → W.rangeAt bk o (emC x)) := fun W hW r u hu => by
            have h := hxa r u hu
            rw [Nat.zero_mul, Nat.add_zero] at h
            exact ((H.out.bel.trans (hW.mono H.out.bel.size)).cell (p := ⟨bk, _, none⟩) hbk).trans h
          have HXb : Hid (∀ W, Below wr.heap.size wr W → W.rangeAt bkk oo (emC y)) := fun W hW r u hu => by
            have h := hxb r u hu
            rw [Nat.zero_mul, Nat.add_zero] at h
            exact ((H.out.bel.trans (hW.mono H.out.bel.size)).cell (p := ⟨bkk, _, none⟩) hbkk).trans h
          have HCl : Hid (∀ W, Below wr.heap.size wr W → Calls Tryd.prog 33 #[emV x, emV y] W fun e w' => e = .returned (.int .i64 (Dl.cmp x.ed.path y.ed.path)) ∧ Below W.heap.size W w') := fun W hW => cmpEE_any x y W (H.out.oa x List.mem_cons_self) (H.out.ob y List.mem_cons_self) (HT.out.below (H.out.bel.trans (hW.mono H.out.bel.size)))
          obtain ⟨n1, hn1⟩ : ∃ n, n = la.length := ⟨_, rfl⟩
          obtain ⟨n2, hn2⟩ : ∃ n, n = lb.length := ⟨_, rfl⟩
          have HN1 : Hid (n1 = la.length) := hn1
          have HN2 : Hid (n2 = lb.length) := hn2
          rw [List.length_cons, ← hn1] at hpc1 H
          rw [List.length_cons, ← hn2] at hqc1 H
          rw [← hn1] at hva
          rw [← hn2] at hvb
          rw [List.length_cons, ← hn1, List.length_cons, ← hn2]
          have HLa : Hid (lenEE va = n1) := by show _ = _; rw [hva]; rfl
          have HLb : Hid (lenEE vb = n2) := by show _ = _; rw [hvb]; rfl
          have Hva : Hid (va = Value.slice (if pc = 1 then some ⟨bk, o, none⟩ else some ⟨bk, o + 7, none⟩) n1 (pc - 1)) := hva
          have Hvb : Hid (vb = Value.slice (if qc = 1 then some ⟨bkk, oo, none⟩ else some ⟨bkk, oo + 7, none⟩) n2 (qc - 1)) := hvb
          obtain ⟨C, hC⟩ : ∃ C, C = Dl.cmp x.ed.path y.ed.path := ⟨_, rfl⟩
          rw [← hC] at HCl
          have HC3 : Hid ((C = 0 ∧ x.ed.path = y.ed.path) ∨ (C = -1 ∧ x.ed.path ≠ y.ed.path ∧ (Nn.less x.ed.path y.ed.path).1 = true) ∨ (C = 1 ∧ x.ed.path ≠ y.ed.path ∧ (Nn.less x.ed.path y.ed.path).1 = false)) := by
            show _ ∨ _
            rw [hC]
            unfold Dl.cmp
            by_cases e : x.ed.path = y.ed.path
            · rw [if_pos e]; exact .inl ⟨rfl, e⟩
            · rw [if_neg e]
              cases k : (Nn.less x.ed.path y.ed.path).1 with
              | true => exact .inr (.inl ⟨rfl, e, rfl⟩)
              | false => exact .inr (.inr ⟨rfl, e, rfl⟩)
          clear hva hvb hn1 hn2 hC hxa hxb hbk hbkk
          obtain ⟨xp, xg, ⟨xi, xk, xm, xt, xb⟩⟩ := x
          obtain ⟨yp, yg, ⟨yi, yk, ym, yt, yb⟩⟩ := y
          have hg1 : ((n1 : Int) + 1 > 0) := by omega
          have hg2 : ((n2 : Int) + 1 > 0) := by omega
          obtain ⟨W1, hW1⟩ : ∃ W1, W1 = wr.alloc (.cells #[.string ⟨#[]⟩, .bool false, .string ⟨#[]⟩, .int .i64 0, .int .i64 0, .int .i64 0, .string ⟨#[]⟩, .string ⟨#[]⟩, .bool false, .string ⟨#[]⟩, .int .i64 0, .int .i64 0, .int .i64 0, .string ⟨#[]⟩, .bool false, .bool false] 67) := ⟨_, rfl⟩
          have HBr1 : Hid (Below wr.heap.size wr W1) := by rw [hW1]; exact (Below.refl _ wr).alloc (Nat.le_refl _) _
          have HM1 : Hid (W1.heap[wr.heap.size]? = some (.cells (eeC (none, none)).toArray 67 (0, 0))) := by rw [hW1]; exact heap_alloc_new wr _
          go_upto_region 4 with fail
          rw [← hW1]
          clear hW1
          refine wp_region_rel (G := Gw) (W0 := W1) Gw.refl Gw.trans (by kernel_rfl) (by kernel_rfl) (by kernel_rfl) (Below.refl _ W1).drew ?_
          refine .inl ⟨.func (.func 33) #[] #[], fun v W hW hd => step_run (by first | rfl | simp [Region.wanted, yielded]) _ W (by clear hd; go_simp) rfl (Gw.refl _), ?_⟩
          simp only [Act.put, List.setIfInBounds_toArray, List.set_cons_zero, List.set_cons_succ]
          refine .inl ⟨.slice (some ⟨bk, o, none⟩) (n1 + 1) pc, fun v W hW hd => step_run (by first | rfl | simp [Region.wanted, yielded]) _ W (by clear hd; go_simp) rfl (Gw.refl _), ?_⟩
          simp only [Act.put, List.setIfInBounds_toArray, List.set_cons_zero, List.set_cons_succ]
          refine .inl ⟨.pointer (some ⟨bk, o, none⟩), fun v W hW hd => step_run (by first | rfl | simp [Region.wanted, yielded]) _ W (by clear hd; go_simp) rfl (Gw.refl _), ?_⟩
          simp only [Act.put, List.setIfInBounds_toArray, List.set_cons_zero, List.set_cons_succ]
          refine .inl ⟨.agg #[.string xp, .bool xg, .string xi, .int .i64 xk, .int .i64 xm, .int .i64 xt, .string xb], fun v W hW hd => step_run rfl _ W (exec_ld 31 (.tmp 24) rfl bk o rfl (emC ⟨xp, xg, ⟨xi, xk, xm, xt, xb⟩⟩) _ (HXa.out W (HBr1.out.trans (Below.mono hW HBr1.out.size))) Tryd.underlying31 rfl (by kernel_rfl)) rfl (Gw.refl _), ?_⟩
          simp only [Act.put, List.setIfInBounds_toArray, List.set_cons_zero, List.set_cons_succ]
          refine .inl ⟨.slice (some ⟨bkk, oo, none⟩) (n2 + 1) qc, fun v W hW hd => step_run (by first | rfl | simp [Region.wanted, yielded]) _ W (by clear hd; go_simp) rfl (Gw.refl _), ?_⟩
          simp only [Act.put, List.setIfInBounds_toArray, List.set_cons_zero, List.set_cons_succ]
          refine .inl ⟨.pointer (some ⟨bkk, oo, none⟩), fun v W hW hd => step_run (by first | rfl | simp [Region.wanted, yielded]) _ W (by clear hd; go_simp) rfl (Gw.refl _), ?_⟩
          simp only [Act.put, List.setIfInBounds_toArray, List.set_cons_zero, List.set_cons_succ]
          refine .inl ⟨.agg #[.string yp, .bool yg, .string yi, .int .i64 yk, .int .i64 ym, .int .i64 yt, .string yb], fun v W hW hd => step_run rfl _ W (exec_ld 31 (.tmp 27) rfl bkk oo rfl (emC ⟨yp, yg, ⟨yi, yk, ym, yt, yb⟩⟩) _ (HXb.out W (HBr1.out.trans (Below.mono hW HBr1.out.size))) Tryd.underlying31 rfl (by kernel_rfl)) rfl (Gw.refl _), ?_⟩
          simp only [Act.put, List.setIfInBounds_toArray, List.set_cons_zero, List.set_cons_succ]
          refine .inl ⟨.int .i64 C, fun v W hW hd => step_call (by first | rfl | simp [Region.wanted, yielded]) 33 #[.agg #[.string xp, .bool xg, .string xi, .int .i64 xk, .int .i64 xm, .int .i64 xt, .string xb], .agg #[.string yp, .bool yg, .string yi, .int .i64 yk, .int .i64 ym, .int .i64 yt, .string yb]] (by clear hd; go_simp) ((HCl.out W (HBr1.out.trans (Below.mono hW HBr1.out.size))).mono fun e w' h => ⟨_, h.1, rfl, h.2⟩), ?_⟩
          simp only [Act.put, List.setIfInBounds_toArray, List.set_cons_zero, List.set_cons_succ]
          refine .inl ⟨.int .i64 C, fun v W hW hd => step_run (by first | rfl | simp [Region.wanted, yielded]) _ W (by clear hd; go_simp) rfl (Gw.refl _), ?_⟩
          simp only [Act.put, List.setIfInBounds_toArray, List.set_cons_zero, List.set_cons_succ]
          intro v W2 hW2 hV
          have HB2 : Hid (Below wr.heap.size wr W2) := HBr1.out.trans (Below.mono hW2 HBr1.out.size)
          have HM2 : Hid (W2.heap[wr.heap.size]? = some (.cells (eeC (none, none)).toArray 67 (0, 0))) := (Below.block hW2 _ (Array.getElem?_eq_some_iff.1 HM1.out).1).trans HM1.out
          clear hV hW2 HM1 HBr1 HCl
          rcases HC3.out with ⟨rfl, he⟩ | ⟨rfl, hne, hls⟩ | ⟨rfl, hne, hls⟩
          · have HE : Hid ((⟨xp, xg, ⟨xi, xk, xm, xt, xb⟩⟩ : Em).ed.path = (⟨yp, yg, ⟨yi, yk, ym, yt, yb⟩⟩ : Em).ed.path) := he
            clear he HC3
            go_upto_region 6 with fail
            have HGa : Hid (∀ W, GA emC emC 67 wr.heap.size ⟨xp, xg, ⟨xi, xk, xm, xt, xb⟩⟩ W2 W → W.rangeAt bk o (emC ⟨xp, xg, ⟨xi, xk, xm, xt, xb⟩⟩)) := fun W hW => HXa.out W (HB2.out.trans (hW.kept.below HB2.out.size fun q hq e => by omega))
            refine wp_region_rel (G := GA emC emC 67 wr.heap.size ⟨xp, xg, ⟨xi, xk, xm, xt, xb⟩⟩) (W0 := W2) GA.refl GA.trans (by kernel_rfl) (by kernel_rfl) (by kernel_rfl) (GA.drew W2) ?_
            refine .inl ⟨.slice (some ⟨bk, o, none⟩) (n1 + 1) pc, fun v W hW hd => step_run (by first | rfl | simp [Region.wanted, yielded]) _ W (by clear hd; go_simp) rfl (GA.refl _), ?_⟩
            simp only [Act.put, List.setIfInBounds_toArray, List.set_cons_zero, List.set_cons_succ]
            refine .inl ⟨.pointer (some ⟨bk, o, none⟩), fun v W hW hd => step_run (by first | rfl | simp [Region.wanted, yielded]) _ W (by clear hd; go_simp) rfl (GA.refl _), ?_⟩
            simp only [Act.put, List.setIfInBounds_toArray, List.set_cons_zero, List.set_cons_succ]
            refine .inl ⟨.agg #[.string xp, .bool xg, .string xi, .int .i64 xk, .int .i64 xm, .int .i64 xt, .string xb], fun v W hW hd => step_run rfl _ W (exec_ld 31 (.tmp 33) rfl bk o rfl (emC ⟨xp, xg, ⟨xi, xk, xm, xt, xb⟩⟩) _ (HGa.out W hW) Tryd.underlying31 rfl (by kernel_rfl)) rfl (GA.refl _), ?_⟩
            simp only [Act.put, List.setIfInBounds_toArray, List.set_cons_zero, List.set_cons_succ]
            refine .inl ⟨.slice (some ⟨bk, o, none⟩) (n1 + 1) pc, fun v W hW hd => step_run (by first | rfl | simp [Region.wanted, yielded]) _ W (by clear hd; go_simp) rfl (GA.refl _), ?_⟩
            simp only [Act.put, List.setIfInBounds_toArray, List.set_cons_zero, List.set_cons_succ]
            refine .inl ⟨va, fun v W hW hd => step_run (by first | rfl | simp [Region.wanted, yielded]) _ W (by clear hd; have hv := Hva.out; have hq : ¬ ((n1 : Int) + 1 < 1) := (by omega); go_simp) rfl (GA.refl _), ?_⟩
            simp only [Act.put, List.setIfInBounds_toArray, List.set_cons_zero, List.set_cons_succ]
            refine .inl ⟨.pointer (some ⟨wr.heap.size, 0, none⟩), fun v W hW hd => step_run (by first | rfl | simp [Region.wanted, yielded]) _ W (by clear hd; go_simp) rfl (GA.refl _), ?_⟩
            simp only [Act.put, List.setIfInBounds_toArray, List.set_cons_zero, List.set_cons_succ]
            refine .inr ⟨fun _ W => ∃ f, W.heap[wr.heap.size]? = some (.cells (qC emC emC ⟨xp, xg, ⟨xi, xk, xm, xt, xb⟩⟩ (em0) f false).toArray 67 (0, 0)), fun u W W' hv hg => ?_, fun v W hW hd => ?_, ?_⟩
            · obtain ⟨f, hv⟩ := hv
              obtain ⟨x1, f1, e, _, h⟩ := hg.blk _ _ _ _ hv
              exact ⟨f1, by rw [show x1 = _ from e.elim id id] at h; exact h⟩
            · clear hd
              obtain ⟨x1, f1, _, _, hq⟩ := hW.blk em0 (em0) false false HM2.out
              exact step_still rfl (W.setCells wr.heap.size 0 (emC ⟨xp, xg, ⟨xi, xk, xm, xt, xb⟩⟩)) (exec_st 31 (.tmp 37) (.tmp 34) rfl wr.heap.size 0 #[.string xp, .bool xg, .string xi, .int .i64 xk, .int .i64 xm, .int .i64 xt, .string xb] rfl rfl (blk_there hq (Nat.le_of_ble_eq_true rfl)) (by kernel_rfl) (all_oneCell_toArray (emC_one ⟨xp, xg, ⟨xi, xk, xm, xt, xb⟩⟩))) ⟨f1, setA_ee hq⟩ ⟨(Kept.refl _ _).sets (fun e => e rfl) _ _, fun x0 y0 f g h => ⟨_, _, .inr rfl, id, setA_ee h⟩⟩
            simp only [Act.put]
            refine .inl ⟨.pointer (some ⟨wr.heap.size, 14, none⟩), fun v W hW hd => step_run (by first | rfl | simp [Region.wanted, yielded]) _ W (by clear hd; go_simp) rfl (GA.refl _), ?_⟩
            simp only [Act.put, List.setIfInBounds_toArray, List.set_cons_zero, List.set_cons_succ]
            refine .inr ⟨fun _ W => ∃ x0, W.heap[wr.heap.size]? = some (.cells (qC emC emC x0 (em0) true false).toArray 67 (0, 0)), fun u W W' hv hg => ?_, fun v W hW hd => ?_, ?_⟩
            · obtain ⟨x0, hv⟩ := hv
              obtain ⟨x1, f1, _, e, h⟩ := hg.blk _ _ _ _ hv
              exact ⟨x1, by rw [e rfl] at h; exact h⟩
            · clear hd
              obtain ⟨x1, f1, _, _, hq⟩ := hW.blk em0 (em0) false false HM2.out
              have hth := (blk_there (o := 14) (k := 1) hq (Nat.le_of_ble_eq_true rfl)) 0 (by omega)
              have hf1 := hth.2
              obtain ⟨hcv, hf2⟩ := Option.isSome_iff_exists.1 hth.1
              simp only [Nat.add_zero] at hf1 hf2
              exact step_still rfl (W.setCell ⟨wr.heap.size, 14, none⟩ (.bool true)) (by clear hW hq hth; go_simp) ⟨x1, flgA_ee hq⟩ ⟨(Kept.refl _ _).setCell (a := ⟨wr.heap.size, 14, none⟩) (fun e => e rfl) _, fun x0 y0 f g h => ⟨_, _, .inl rfl, fun _ => rfl, flgA_ee h⟩⟩
            simp only [Act.put]
            refine .inl ⟨va, fun v W hW hd => step_run (by first | rfl | simp [Region.wanted, yielded]) _ W (by clear hd; go_simp) rfl (GA.refl _), ?_⟩
            simp only [Act.put, List.setIfInBounds_toArray, List.set_cons_zero]
            intro v W3 hW3 hV
            have h6 : ∃ f, W3.heap[wr.heap.size]? = some (.cells (qC emC emC ⟨xp, xg, ⟨xi, xk, xm, xt, xb⟩⟩ (em0) f false).toArray 67 (0, 0)) := hV 6 (by decide)
            have h8 : ∃ x0, W3.heap[wr.heap.size]? = some (.cells (qC emC emC x0 (em0) true false).toArray 67 (0, 0)) := hV 8 (by decide)
            obtain ⟨f6, h6⟩ := h6
            obtain ⟨x8, h8⟩ := h8
            have HM4 : Hid (W3.heap[wr.heap.size]? = some (.cells (qC emC emC ⟨xp, xg, ⟨xi, xk, xm, xt, xb⟩⟩ (em0) true false).toArray 67 (0, 0))) := by
              show _ = _
              rw [flagA (by rfl) h6 h8] at h6
              exact h6
            have HB4 : Hid (Below wr.heap.size wr W3) := HB2.out.trans (hW3.kept.below HB2.out.size fun q hq e => by omega)
            clear hV hW3 h6 h8 HGa HM2
            have HM2 := HM4
            have HB2 := HB4
            clear HM4 HB4
            go_upto_region 8 with fail
            have HGb : Hid (∀ W, GB emC emC 67 wr.heap.size ⟨yp, yg, ⟨yi, yk, ym, yt, yb⟩⟩ W3 W → W.rangeAt bkk oo (emC ⟨yp, yg, ⟨yi, yk, ym, yt, yb⟩⟩)) := fun W hW => HXb.out W (HB2.out.trans (hW.kept.below HB2.out.size fun q hq e => by omega))
            refine wp_region_rel (G := GB emC emC 67 wr.heap.size ⟨yp, yg, ⟨yi, yk, ym, yt, yb⟩⟩) (W0 := W3) GB.refl GB.trans (by kernel_rfl) (by kernel_rfl) (by kernel_rfl) (GB.drew W3) ?_
            refine .inl ⟨.slice (some ⟨bkk, oo, none⟩) (n2 + 1) qc, fun v W hW hd => step_run (by first | rfl | simp [Region.wanted, yielded]) _ W (by clear hd; go_simp) rfl (GB.refl _), ?_⟩
            simp only [Act.put, List.setIfInBounds_toArray, List.set_cons_zero, List.set_cons_succ]
            refine .inl ⟨.pointer (some ⟨bkk, oo, none⟩), fun v W hW hd => step_run (by first | rfl | simp [Region.wanted, yielded]) _ W (by clear hd; go_simp) rfl (GB.refl _), ?_⟩
            simp only [Act.put, List.setIfInBounds_toArray, List.set_cons_zero, List.set_cons_succ]
            refine .inl ⟨.agg #[.string yp, .bool yg, .string yi, .int .i64 yk, .int .i64 ym, .int .i64 yt, .string yb], fun v W hW hd => step_run rfl _ W (exec_ld 31 (.tmp 42) rfl bkk oo rfl (emC ⟨yp, yg, ⟨yi, yk, ym, yt, yb⟩⟩) _ (HGb.out W hW) Tryd.underlying31 rfl (by kernel_rfl)) rfl (GB.refl _), ?_⟩
            simp only [Act.put, List.setIfInBounds_toArray, List.set_cons_zero, List.set_cons_succ]
            refine .inl ⟨.slice (some ⟨bkk, oo, none⟩) (n2 + 1) qc, fun v W hW hd => step_run (by first | rfl | simp [Region.wanted, yielded]) _ W (by clear hd; go_simp) rfl (GB.refl _), ?_⟩
            simp only [Act.put, List.setIfInBounds_toArray, List.set_cons_zero, List.set_cons_succ]
            refine .inl ⟨vb, fun v W hW hd => step_run (by first | rfl | simp [Region.wanted, yielded]) _ W (by clear hd; have hv := Hvb.out; have hq : ¬ ((n2 : Int) + 1 < 1) := (by omega); go_simp) rfl (GB.refl _), ?_⟩
            simp only [Act.put, List.setIfInBounds_toArray, List.set_cons_zero, List.set_cons_succ]
            refine .inl ⟨.pointer (some ⟨wr.heap.size, 7, none⟩), fun v W hW hd => step_run (by first | rfl | simp [Region.wanted, yielded]) _ W (by clear hd; go_simp) rfl (GB.refl _), ?_⟩
            simp only [Act.put, List.setIfInBounds_toArray, List.set_cons_zero, List.set_cons_succ]
            refine .inr ⟨fun _ W => ∃ g, W.heap[wr.heap.size]? = some (.cells (qC emC emC ⟨xp, xg, ⟨xi, xk, xm, xt, xb⟩⟩ ⟨yp, yg, ⟨yi, yk, ym, yt, yb⟩⟩ true g).toArray 67 (0, 0)), fun u W W' hv hg => ?_, fun v W hW hd => ?_, ?_⟩
            · obtain ⟨f, hv⟩ := hv
              obtain ⟨x1, f1, e, _, h⟩ := hg.blk _ _ _ _ hv
              exact ⟨f1, by rw [show x1 = _ from e.elim id id] at h; exact h⟩
            · clear hd
              obtain ⟨x1, f1, _, _, hq⟩ := hW.blk ⟨xp, xg, ⟨xi, xk, xm, xt, xb⟩⟩ (em0) true false HM2.out
              exact step_still rfl (W.setCells wr.heap.size 7 (emC ⟨yp, yg, ⟨yi, yk, ym, yt, yb⟩⟩)) (exec_st 31 (.tmp 46) (.tmp 43) rfl wr.heap.size 7 #[.string yp, .bool yg, .string yi, .int .i64 yk, .int .i64 ym, .int .i64 yt, .string yb] rfl rfl (blk_there hq (Nat.le_of_ble_eq_true rfl)) (by kernel_rfl) (all_oneCell_toArray (emC_one ⟨yp, yg, ⟨yi, yk, ym, yt, yb⟩⟩))) ⟨f1, setB_ee hq⟩ ⟨(Kept.refl _ _).sets (fun e => e rfl) _ _, fun x0 y0 f g h => ⟨_, _, .inr rfl, id, setB_ee h⟩⟩
            simp only [Act.put]
            refine .inl ⟨.pointer (some ⟨wr.heap.size, 15, none⟩), fun v W hW hd => step_run (by first | rfl | simp [Region.wanted, yielded]) _ W (by clear hd; go_simp) rfl (GB.refl _), ?_⟩
            simp only [Act.put, List.setIfInBounds_toArray, List.set_cons_zero, List.set_cons_succ]
            refine .inr ⟨fun _ W => ∃ y0, W.heap[wr.heap.size]? = some (.cells (qC emC emC ⟨xp, xg, ⟨xi, xk, xm, xt, xb⟩⟩ y0 true true).toArray 67 (0, 0)), fun u W W' hv hg => ?_, fun v W hW hd => ?_, ?_⟩
            · obtain ⟨x0, hv⟩ := hv
              obtain ⟨x1, f1, _, e, h⟩ := hg.blk _ _ _ _ hv
              exact ⟨x1, by rw [e rfl] at h; exact h⟩
            · clear hd
              obtain ⟨x1, f1, _, _, hq⟩ := hW.blk ⟨xp, xg, ⟨xi, xk, xm, xt, xb⟩⟩ (em0) true false HM2.out
              have hth := (blk_there (o := 15) (k := 1) hq (Nat.le_of_ble_eq_true rfl)) 0 (by omega)
              have hf1 := hth.2
              obtain ⟨hcv, hf2⟩ := Option.isSome_iff_exists.1 hth.1
              simp only [Nat.add_zero] at hf1 hf2
              exact step_still rfl (W.setCell ⟨wr.heap.size, 15, none⟩ (.bool true)) (by clear hW hq hth; go_simp) ⟨x1, flgB_ee hq⟩ ⟨(Kept.refl _ _).setCell (a := ⟨wr.heap.size, 15, none⟩) (fun e => e rfl) _, fun x0 y0 f g h => ⟨_, _, .inl rfl, fun _ => rfl, flgB_ee h⟩⟩
            simp only [Act.put]
            refine .inl ⟨vb, fun v W hW hd => step_run (by first | rfl | simp [Region.wanted, yielded]) _ W (by clear hd; go_simp) rfl (GB.refl _), ?_⟩
            simp only [Act.put, List.setIfInBounds_toArray, List.set_cons_zero, List.set_cons_succ]
            intro v W4 hW3 hV
            have h6 : ∃ g, W4.heap[wr.heap.size]? = some (.cells (qC emC emC ⟨xp, xg, ⟨xi, xk, xm, xt, xb⟩⟩ ⟨yp, yg, ⟨yi, yk, ym, yt, yb⟩⟩ true g).toArray 67 (0, 0)) := hV 6 (by decide)
            have h8 : ∃ y0, W4.heap[wr.heap.size]? = some (.cells (qC emC emC ⟨xp, xg, ⟨xi, xk, xm, xt, xb⟩⟩ y0 true true).toArray 67 (0, 0)) := hV 8 (by decide)
            obtain ⟨f6, h6⟩ := h6
            obtain ⟨x8, h8⟩ := h8
            have HM4 : Hid (W4.heap[wr.heap.size]? = some (.cells (qC emC emC ⟨xp, xg, ⟨xi, xk, xm, xt, xb⟩⟩ ⟨yp, yg, ⟨yi, yk, ym, yt, yb⟩⟩ true true).toArray 67 (0, 0))) := by
              show _ = _
              rw [flagB (by rfl) h6 h8] at h6
              exact h6
            have HB4 : Hid (Below wr.heap.size wr W4) := HB2.out.trans (hW3.kept.below HB2.out.size fun q hq e => by omega)
            clear hV hW3 h6 h8 HGb HM2
            have HZ : Hid (W4.heap.size = W4.heap.size) := rfl
            obtain ⟨s2, W6, hr6, ho6, hg6⟩ := more_ee w.heap.size u7 done ((some ⟨xp, xg, ⟨xi, xk, xm, xt, xb⟩⟩, some ⟨yp, yg, ⟨yi, yk, ym, yt, yb⟩⟩) : Option Em × Option Em) (W4.alloc (.cells #[.string xp, .bool xg, .string xi, .int .i64 xk, .int .i64 xm, .int .i64 xt, .string xb, .string yp, .bool yg, .string yi, .int .i64 yk, .int .i64 ym, .int .i64 yt, .string yb, .bool true, .bool true] 67)) ((own_below H.out.row HB4.out).alloc _) W4.heap.size (heap_alloc_new W4 _) (by have := HL0.out; have := H.out.len; have := HN1.out; have := HN2.out; simp only [List.length_cons] at *; omega) (by have := H.out.bel.size; have := HB4.out.size; simp; omega)
            have HO6 : Hid (W6.ownsRow w.heap.size 67 16 s2 (done ++ [((some ⟨xp, xg, ⟨xi, xk, xm, xt, xb⟩⟩, some ⟨yp, yg, ⟨yi, yk, ym, yt, yb⟩⟩) : Option Em × Option Em)]).length (rowR eeC (done ++ [((some ⟨xp, xg, ⟨xi, xk, xm, xt, xb⟩⟩, some ⟨yp, yg, ⟨yi, yk, ym, yt, yb⟩⟩) : Option Em × Option Em)]))) := ho6
            have HB6 : Hid (Below w.heap.size w W6) := ((H.out.bel.trans (HB4.out.mono H.out.bel.size)).alloc (Nat.le_trans H.out.bel.size HB4.out.size) _).grown hg6 (by have := H.out.bel.size; have := HB4.out.size; simp; omega) fun g hg => (H.out.row.lt g hg).1
            have hrg := blk_range HM4.out
            clear ho6 hg6 HZ
            go_upto_region 9 with fail
            refine wp_region_lit ?_
            refine wpList_plain rfl fun C hC => ?_
            go_simp
            refine hC _ _ ?_
            clear hC C
            refine wpList_load_mid rfl 67 (.tmp 8) rfl wr.heap.size 0 rfl [.string xp, .bool xg, .string xi, .int .i64 xk, .int .i64 xm, .int .i64 xt, .string xb, .string yp, .bool yg, .string yi, .int .i64 yk, .int .i64 ym, .int .i64 yt, .string yb, .bool true, .bool true] _ hrg Tryd.underlying67 rfl (by kernel_rfl) ?_
            refine wpList_plain rfl fun C hC => ?_
            go_simp
            refine hC _ _ ?_
            clear hC C
            refine wpL_append_run rfl (.tmp 48) (.tmp 50) 63 63 rfl rfl _ _ s2 W6 rfl rfl hr6 ?_
            refine wpList_plain rfl fun C hC => ?_
            go_simp
            refine hC _ _ ?_
            clear hC C hr6 hrg HM4
            go_wp2_with fail
            go_roundw
            case rel => exact ⟨la, lb, done ++ [((some ⟨xp, xg, ⟨xi, xk, xm, xt, xb⟩⟩, some ⟨yp, yg, ⟨yi, yk, ym, yt, yb⟩⟩) : Option Em × Option Em)], ⟨HRa.out, HRb.out, (fun q hq => H.out.oa q (List.mem_cons_of_mem _ hq)), (fun q hq => H.out.ob q (List.mem_cons_of_mem _ hq)), HO6.out, HB6.out, by rw [H.out.eq]; exact (congrArg (done ++ ·) (Dl.side_eq (f := fun x : Em => x.ed.path) (g := fun y : Em => y.ed.path) HE.out la lb)).trans (by simp), by have := H.out.len; simp only [List.length_append, List.length_cons, List.length_nil] at *; omega⟩⟩
            case measure => have q1 := HLa.out; have q2 := HLb.out; have q3 := HN1.out; have q4 := HN2.out; (try rw [q1]); (try rw [q2]); simp only [lenEE]; omega
          · have HE : Hid ((⟨xp, xg, ⟨xi, xk, xm, xt, xb⟩⟩ : Em).ed.path ≠ (⟨yp, yg, ⟨yi, yk, ym, yt, yb⟩⟩ : Em).ed.path) := hne
            have HE2 : Hid ((Nn.less (⟨xp, xg, ⟨xi, xk, xm, xt, xb⟩⟩ : Em).ed.path (⟨yp, yg, ⟨yi, yk, ym, yt, yb⟩⟩ : Em).ed.path).1 = true) := hls
            clear hne hls HC3
            go_upto_region 6 with fail
            have HGa : Hid (∀ W, GA emC emC 67 wr.heap.size ⟨xp, xg, ⟨xi, xk, xm, xt, xb⟩⟩ W2 W → W.rangeAt bk o (emC ⟨xp, xg, ⟨xi, xk, xm, xt, xb⟩⟩)) := fun W hW => HXa.out W (HB2.out.trans (hW.kept.below HB2.out.size fun q hq e => by omega))
            refine wp_region_rel (G := GA emC emC 67 wr.heap.size ⟨xp, xg, ⟨xi, xk, xm, xt, xb⟩⟩) (W0 := W2) GA.refl GA.trans (by kernel_rfl) (by kernel_rfl) (by kernel_rfl) (GA.drew W2) ?_
            refine .inl ⟨.slice (some ⟨bk, o, none⟩) (n1 + 1) pc, fun v W hW hd => step_run (by first | rfl | simp [Region.wanted, yielded]) _ W (by clear hd; go_simp) rfl (GA.refl _), ?_⟩
            simp only [Act.put, List.setIfInBounds_toArray, List.set_cons_zero, List.set_cons_succ]
            refine .inl ⟨.pointer (some ⟨bk, o, none⟩), fun v W hW hd => step_run (by first | rfl | simp [Region.wanted, yielded]) _ W (by clear hd; go_simp) rfl (GA.refl _), ?_⟩
            simp only [Act.put, List.setIfInBounds_toArray, List.set_cons_zero, List.set_cons_succ]
            refine .inl ⟨.agg #[.string xp, .bool xg, .string xi, .int .i64 xk, .int .i64 xm, .int .i64 xt, .string xb], fun v W hW hd => step_run rfl _ W (exec_ld 31 (.tmp 33) rfl bk o rfl (emC ⟨xp, xg, ⟨xi, xk, xm, xt, xb⟩⟩) _ (HGa.out W hW) Tryd.underlying31 rfl (by kernel_rfl)) rfl (GA.refl _), ?_⟩
            simp only [Act.put, List.setIfInBounds_toArray, List.set_cons_zero, List.set_cons_succ]
            refine .inl ⟨.slice (some ⟨bk, o, none⟩) (n1 + 1) pc, fun v W hW hd => step_run (by first | rfl | simp [Region.wanted, yielded]) _ W (by clear hd; go_simp) rfl (GA.refl _), ?_⟩
            simp only [Act.put, List.setIfInBounds_toArray, List.set_cons_zero, List.set_cons_succ]
            refine .inl ⟨va, fun v W hW hd => step_run (by first | rfl | simp [Region.wanted, yielded]) _ W (by clear hd; have hv := Hva.out; have hq : ¬ ((n1 : Int) + 1 < 1) := (by omega); go_simp) rfl (GA.refl _), ?_⟩
            simp only [Act.put, List.setIfInBounds_toArray, List.set_cons_zero, List.set_cons_succ]
            refine .inl ⟨.pointer (some ⟨wr.heap.size, 0, none⟩), fun v W hW hd => step_run (by first | rfl | simp [Region.wanted, yielded]) _ W (by clear hd; go_simp) rfl (GA.refl _), ?_⟩
            simp only [Act.put, List.setIfInBounds_toArray, List.set_cons_zero, List.set_cons_succ]
            refine .inr ⟨fun _ W => ∃ f, W.heap[wr.heap.size]? = some (.cells (qC emC emC ⟨xp, xg, ⟨xi, xk, xm, xt, xb⟩⟩ (em0) f false).toArray 67 (0, 0)), fun u W W' hv hg => ?_, fun v W hW hd => ?_, ?_⟩
            · obtain ⟨f, hv⟩ := hv
              obtain ⟨x1, f1, e, _, h⟩ := hg.blk _ _ _ _ hv
              exact ⟨f1, by rw [show x1 = _ from e.elim id id] at h; exact h⟩
            · clear hd
              obtain ⟨x1, f1, _, _, hq⟩ := hW.blk em0 (em0) false false HM2.out
              exact step_still rfl (W.setCells wr.heap.size 0 (emC ⟨xp, xg, ⟨xi, xk, xm, xt, xb⟩⟩)) (exec_st 31 (.tmp 37) (.tmp 34) rfl wr.heap.size 0 #[.string xp, .bool xg, .string xi, .int .i64 xk, .int .i64 xm, .int .i64 xt, .string xb] rfl rfl (blk_there hq (Nat.le_of_ble_eq_true rfl)) (by kernel_rfl) (all_oneCell_toArray (emC_one ⟨xp, xg, ⟨xi, xk, xm, xt, xb⟩⟩))) ⟨f1, setA_ee hq⟩ ⟨(Kept.refl _ _).sets (fun e => e rfl) _ _, fun x0 y0 f g h => ⟨_, _, .inr rfl, id, setA_ee h⟩⟩
            simp only [Act.put]
            refine .inl ⟨.pointer (some ⟨wr.heap.size, 14, none⟩), fun v W hW hd => step_run (by first | rfl | simp [Region.wanted, yielded]) _ W (by clear hd; go_simp) rfl (GA.refl _), ?_⟩
            simp only [Act.put, List.setIfInBounds_toArray, List.set_cons_zero, List.set_cons_succ]
            refine .inr ⟨fun _ W => ∃ x0, W.heap[wr.heap.size]? = some (.cells (qC emC emC x0 (em0) true false).toArray 67 (0, 0)), fun u W W' hv hg => ?_, fun v W hW hd => ?_, ?_⟩
            · obtain ⟨x0, hv⟩ := hv
              obtain ⟨x1, f1, _, e, h⟩ := hg.blk _ _ _ _ hv
              exact ⟨x1, by rw [e rfl] at h; exact h⟩
            · clear hd
              obtain ⟨x1, f1, _, _, hq⟩ := hW.blk em0 (em0) false false HM2.out
              have hth := (blk_there (o := 14) (k := 1) hq (Nat.le_of_ble_eq_true rfl)) 0 (by omega)
              have hf1 := hth.2
              obtain ⟨hcv, hf2⟩ := Option.isSome_iff_exists.1 hth.1
              simp only [Nat.add_zero] at hf1 hf2
              exact step_still rfl (W.setCell ⟨wr.heap.size, 14, none⟩ (.bool true)) (by clear hW hq hth; go_simp) ⟨x1, flgA_ee hq⟩ ⟨(Kept.refl _ _).setCell (a := ⟨wr.heap.size, 14, none⟩) (fun e => e rfl) _, fun x0 y0 f g h => ⟨_, _, .inl rfl, fun _ => rfl, flgA_ee h⟩⟩
            simp only [Act.put]
            refine .inl ⟨va, fun v W hW hd => step_run (by first | rfl | simp [Region.wanted, yielded]) _ W (by clear hd; go_simp) rfl (GA.refl _), ?_⟩
            simp only [Act.put, List.setIfInBounds_toArray, List.set_cons_zero]
            intro v W3 hW3 hV
            have h6 : ∃ f, W3.heap[wr.heap.size]? = some (.cells (qC emC emC ⟨xp, xg, ⟨xi, xk, xm, xt, xb⟩⟩ (em0) f false).toArray 67 (0, 0)) := hV 6 (by decide)
            have h8 : ∃ x0, W3.heap[wr.heap.size]? = some (.cells (qC emC emC x0 (em0) true false).toArray 67 (0, 0)) := hV 8 (by decide)
            obtain ⟨f6, h6⟩ := h6
            obtain ⟨x8, h8⟩ := h8
            have HM4 : Hid (W3.heap[wr.heap.size]? = some (.cells (qC emC emC ⟨xp, xg, ⟨xi, xk, xm, xt, xb⟩⟩ (em0) true false).toArray 67 (0, 0))) := by
              show _ = _
              rw [flagA (by rfl) h6 h8] at h6
              exact h6
            have HB4 : Hid (Below wr.heap.size wr W3) := HB2.out.trans (hW3.kept.below HB2.out.size fun q hq e => by omega)
            clear hV hW3 h6 h8 HGa HM2
            have HZ : Hid (W3.heap.size = W3.heap.size) := rfl
            obtain ⟨s2, W6, hr6, ho6, hg6⟩ := more_ee w.heap.size u7 done ((some ⟨xp, xg, ⟨xi, xk, xm, xt, xb⟩⟩, none) : Option Em × Option Em) (W3.alloc (.cells #[.string xp, .bool xg, .string xi, .int .i64 xk, .int .i64 xm, .int .i64 xt, .string xb, .string ⟨#[]⟩, .bool false, .string ⟨#[]⟩, .int .i64 0, .int .i64 0, .int .i64 0, .string ⟨#[]⟩, .bool true, .bool false] 67)) ((own_below H.out.row HB4.out).alloc _) W3.heap.size (heap_alloc_new W3 _) (by have := HL0.out; have := H.out.len; have := HN1.out; have := HN2.out; simp only [List.length_cons] at *; omega) (by have := H.out.bel.size; have := HB4.out.size; simp; omega)
            have HO6 : Hid (W6.ownsRow w.heap.size 67 16 s2 (done ++ [((some ⟨xp, xg, ⟨xi, xk, xm, xt, xb⟩⟩, none) : Option Em × Option Em)]).length (rowR eeC (done ++ [((some ⟨xp, xg, ⟨xi, xk, xm, xt, xb⟩⟩, none) : Option Em × Option Em)]))) := ho6
            have HB6 : Hid (Below w.heap.size w W6) := ((H.out.bel.trans (HB4.out.mono H.out.bel.size)).alloc (Nat.le_trans H.out.bel.size HB4.out.size) _).grown hg6 (by have := H.out.bel.size; have := HB4.out.size; simp; omega) fun g hg => (H.out.row.lt g hg).1
            have hrg := blk_range HM4.out
            clear ho6 hg6 HZ
            go_upto_region 9 with fail
            refine wp_region_lit ?_
            refine wpList_plain rfl fun C hC => ?_
            go_simp
            refine hC _ _ ?_
            clear hC C
            refine wpList_load_mid rfl 67 (.tmp 8) rfl wr.heap.size 0 rfl [.string xp, .bool xg, .string xi, .int .i64 xk, .int .i64 xm, .int .i64 xt, .string xb, .string ⟨#[]⟩, .bool false, .string ⟨#[]⟩, .int .i64 0, .int .i64 0, .int .i64 0, .string ⟨#[]⟩, .bool true, .bool false] _ hrg Tryd.underlying67 rfl (by kernel_rfl) ?_
            refine wpList_plain rfl fun C hC => ?_
            go_simp
            refine hC _ _ ?_
            clear hC C
            refine wpL_append_run rfl (.tmp 48) (.tmp 50) 63 63 rfl rfl _ _ s2 W6 rfl rfl hr6 ?_
            refine wpList_plain rfl fun C hC => ?_
            go_simp
            refine hC _ _ ?_
            clear hC C hr6 hrg HM4
            go_wp2_with fail
            go_roundw
            case rel => exact ⟨la, ⟨yp, yg, ⟨yi, yk, ym, yt, yb⟩⟩ :: lb, done ++ [((some ⟨xp, xg, ⟨xi, xk, xm, xt, xb⟩⟩, none) : Option Em × Option Em)], ⟨HRa.out, H.out.rb, (fun q hq => H.out.oa q (List.mem_cons_of_mem _ hq)), H.out.ob, HO6.out, HB6.out, by rw [H.out.eq]; exact (congrArg (done ++ ·) (Dl.side_lt (f := fun x : Em => x.ed.path) (g := fun y : Em => y.ed.path) HE.out HE2.out la lb)).trans (by simp), by have := H.out.len; simp only [List.length_append, List.length_cons, List.length_nil] at *; omega⟩⟩
            case measure => have q1 := HLa.out; have q2 := HLb.out; have q3 := HN1.out; have q4 := HN2.out; (try rw [q1]); (try rw [q2]); simp only [lenEE]; omega
          · have HE : Hid ((⟨xp, xg, ⟨xi, xk, xm, xt, xb⟩⟩ : Em).ed.path ≠ (⟨yp, yg, ⟨yi, yk, ym, yt, yb⟩⟩ : Em).ed.path) := hne
            have HE2 : Hid ((Nn.less (⟨xp, xg, ⟨xi, xk, xm, xt, xb⟩⟩ : Em).ed.path (⟨yp, yg, ⟨yi, yk, ym, yt, yb⟩⟩ : Em).ed.path).1 = false) := hls
            clear hne hls HC3
            go_upto_region 8 with fail
            have HGb : Hid (∀ W, GB emC emC 67 wr.heap.size ⟨yp, yg, ⟨yi, yk, ym, yt, yb⟩⟩ W2 W → W.rangeAt bkk oo (emC ⟨yp, yg, ⟨yi, yk, ym, yt, yb⟩⟩)) := fun W hW => HXb.out W (HB2.out.trans (hW.kept.below HB2.out.size fun q hq e => by omega))
            refine wp_region_rel (G := GB emC emC 67 wr.heap.size ⟨yp, yg, ⟨yi, yk, ym, yt, yb⟩⟩) (W0 := W2) GB.refl GB.trans (by kernel_rfl) (by kernel_rfl) (by kernel_rfl) (GB.drew W2) ?_
            refine .inl ⟨.slice (some ⟨bkk, oo, none⟩) (n2 + 1) qc, fun v W hW hd => step_run (by first | rfl | simp [Region.wanted, yielded]) _ W (by clear hd; go_simp) rfl (GB.refl _), ?_⟩
            simp only [Act.put, List.setIfInBounds_toArray, List.set_cons_zero, List.set_cons_succ]
            refine .inl ⟨.pointer (some ⟨bkk, oo, none⟩), fun v W hW hd => step_run (by first | rfl | simp [Region.wanted, yielded]) _ W (by clear hd; go_simp) rfl (GB.refl _), ?_⟩
            simp only [Act.put, List.setIfInBounds_toArray, List.set_cons_zero, List.set_cons_succ]
            refine .inl ⟨.agg #[.string yp, .bool yg, .string yi, .int .i64 yk, .int .i64 ym, .int .i64 yt, .string yb], fun v W hW hd => step_run rfl _ W (exec_ld 31 (.tmp 42) rfl bkk oo rfl (emC ⟨yp, yg, ⟨yi, yk, ym, yt, yb⟩⟩) _ (HGb.out W hW) Tryd.underlying31 rfl (by kernel_rfl)) rfl (GB.refl _), ?_⟩
            simp only [Act.put, List.setIfInBounds_toArray, List.set_cons_zero, List.set_cons_succ]
            refine .inl ⟨.slice (some ⟨bkk, oo, none⟩) (n2 + 1) qc, fun v W hW hd => step_run (by first | rfl | simp [Region.wanted, yielded]) _ W (by clear hd; go_simp) rfl (GB.refl _), ?_⟩
            simp only [Act.put, List.setIfInBounds_toArray, List.set_cons_zero, List.set_cons_succ]
            refine .inl ⟨vb, fun v W hW hd => step_run (by first | rfl | simp [Region.wanted, yielded]) _ W (by clear hd; have hv := Hvb.out; have hq : ¬ ((n2 : Int) + 1 < 1) := (by omega); go_simp) rfl (GB.refl _), ?_⟩
            simp only [Act.put, List.setIfInBounds_toArray, List.set_cons_zero, List.set_cons_succ]
            refine .inl ⟨.pointer (some ⟨wr.heap.size, 7, none⟩), fun v W hW hd => step_run (by first | rfl | simp [Region.wanted, yielded]) _ W (by clear hd; go_simp) rfl (GB.refl _), ?_⟩
            simp only [Act.put, List.setIfInBounds_toArray, List.set_cons_zero, List.set_cons_succ]
            refine .inr ⟨fun _ W => ∃ g, W.heap[wr.heap.size]? = some (.cells (qC emC emC em0 ⟨yp, yg, ⟨yi, yk, ym, yt, yb⟩⟩ false g).toArray 67 (0, 0)), fun u W W' hv hg => ?_, fun v W hW hd => ?_, ?_⟩
            · obtain ⟨f, hv⟩ := hv
              obtain ⟨x1, f1, e, _, h⟩ := hg.blk _ _ _ _ hv
              exact ⟨f1, by rw [show x1 = _ from e.elim id id] at h; exact h⟩
            · clear hd
              obtain ⟨x1, f1, _, _, hq⟩ := hW.blk em0 (em0) false false HM2.out
              exact step_still rfl (W.setCells wr.heap.size 7 (emC ⟨yp, yg, ⟨yi, yk, ym, yt, yb⟩⟩)) (exec_st 31 (.tmp 46) (.tmp 43) rfl wr.heap.size 7 #[.string yp, .bool yg, .string yi, .int .i64 yk, .int .i64 ym, .int .i64 yt, .string yb] rfl rfl (blk_there hq (Nat.le_of_ble_eq_true rfl)) (by kernel_rfl) (all_oneCell_toArray (emC_one ⟨yp, yg, ⟨yi, yk, ym, yt, yb⟩⟩))) ⟨f1, setB_ee hq⟩ ⟨(Kept.refl _ _).sets (fun e => e rfl) _ _, fun x0 y0 f g h => ⟨_, _, .inr rfl, id, setB_ee h⟩⟩
            simp only [Act.put]
            refine .inl ⟨.pointer (some ⟨wr.heap.size, 15, none⟩), fun v W hW hd => step_run (by first | rfl | simp [Region.wanted, yielded]) _ W (by clear hd; go_simp) rfl (GB.refl _), ?_⟩
            simp only [Act.put, List.setIfInBounds_toArray, List.set_cons_zero, List.set_cons_succ]
            refine .inr ⟨fun _ W => ∃ y0, W.heap[wr.heap.size]? = some (.cells (qC emC emC em0 y0 false true).toArray 67 (0, 0)), fun u W W' hv hg => ?_, fun v W hW hd => ?_, ?_⟩
            · obtain ⟨x0, hv⟩ := hv
              obtain ⟨x1, f1, _, e, h⟩ := hg.blk _ _ _ _ hv
              exact ⟨x1, by rw [e rfl] at h; exact h⟩
            · clear hd
              obtain ⟨x1, f1, _, _, hq⟩ := hW.blk em0 (em0) false false HM2.out
              have hth := (blk_there (o := 15) (k := 1) hq (Nat.le_of_ble_eq_true rfl)) 0 (by omega)
              have hf1 := hth.2
              obtain ⟨hcv, hf2⟩ := Option.isSome_iff_exists.1 hth.1
              simp only [Nat.add_zero] at hf1 hf2
              exact step_still rfl (W.setCell ⟨wr.heap.size, 15, none⟩ (.bool true)) (by clear hW hq hth; go_simp) ⟨x1, flgB_ee hq⟩ ⟨(Kept.refl _ _).setCell (a := ⟨wr.heap.size, 15, none⟩) (fun e => e rfl) _, fun x0 y0 f g h => ⟨_, _, .inl rfl, fun _ => rfl, flgB_ee h⟩⟩
            simp only [Act.put]
            refine .inl ⟨vb, fun v W hW hd => step_run (by first | rfl | simp [Region.wanted, yielded]) _ W (by clear hd; go_simp) rfl (GB.refl _), ?_⟩
            simp only [Act.put, List.setIfInBounds_toArray, List.set_cons_zero, List.set_cons_succ]
            intro v W3 hW3 hV
            have h6 : ∃ g, W3.heap[wr.heap.size]? = some (.cells (qC emC emC em0 ⟨yp, yg, ⟨yi, yk, ym, yt, yb⟩⟩ false g).toArray 67 (0, 0)) := hV 6 (by decide)
            have h8 : ∃ y0, W3.heap[wr.heap.size]? = some (.cells (qC emC emC em0 y0 false true).toArray 67 (0, 0)) := hV 8 (by decide)
            obtain ⟨f6, h6⟩ := h6
            obtain ⟨x8, h8⟩ := h8
            have HM4 : Hid (W3.heap[wr.heap.size]? = some (.cells (qC emC emC em0 ⟨yp, yg, ⟨yi, yk, ym, yt, yb⟩⟩ false true).toArray 67 (0, 0))) := by
              show _ = _
              rw [flagB (by rfl) h6 h8] at h6
              exact h6
            have HB4 : Hid (Below wr.heap.size wr W3) := HB2.out.trans (hW3.kept.below HB2.out.size fun q hq e => by omega)
            clear hV hW3 h6 h8 HGb HM2
            have HZ : Hid (W3.heap.size = W3.heap.size) := rfl
            obtain ⟨s2, W6, hr6, ho6, hg6⟩ := more_ee w.heap.size u7 done ((none, some ⟨yp, yg, ⟨yi, yk, ym, yt, yb⟩⟩) : Option Em × Option Em) (W3.alloc (.cells #[.string ⟨#[]⟩, .bool false, .string ⟨#[]⟩, .int .i64 0, .int .i64 0, .int .i64 0, .string ⟨#[]⟩, .string yp, .bool yg, .string yi, .int .i64 yk, .int .i64 ym, .int .i64 yt, .string yb, .bool false, .bool true] 67)) ((own_below H.out.row HB4.out).alloc _) W3.heap.size (heap_alloc_new W3 _) (by have := HL0.out; have := H.out.len; have := HN1.out; have := HN2.out; simp only [List.length_cons] at *; omega) (by have := H.out.bel.size; have := HB4.out.size; simp; omega)
            have HO6 : Hid (W6.ownsRow w.heap.size 67 16 s2 (done ++ [((none, some ⟨yp, yg, ⟨yi, yk, ym, yt, yb⟩⟩) : Option Em × Option Em)]).length (rowR eeC (done ++ [((none, some ⟨yp, yg, ⟨yi, yk, ym, yt, yb⟩⟩) : Option Em × Option Em)]))) := ho6
            have HB6 : Hid (Below w.heap.size w W6) := ((H.out.bel.trans (HB4.out.mono H.out.bel.size)).alloc (Nat.le_trans H.out.bel.size HB4.out.size) _).grown hg6 (by have := H.out.bel.size; have := HB4.out.size; simp; omega) fun g hg => (H.out.row.lt g hg).1
            have hrg := blk_range HM4.out
            clear ho6 hg6 HZ
            go_upto_region 9 with fail
            refine wp_region_lit ?_
            refine wpList_plain rfl fun C hC => ?_
            go_simp
            refine hC _ _ ?_
            clear hC C
            refine wpList_load_mid rfl 67 (.tmp 8) rfl wr.heap.size 0 rfl [.string ⟨#[]⟩, .bool false, .string ⟨#[]⟩, .int .i64 0, .int .i64 0, .int .i64 0, .string ⟨#[]⟩, .string yp, .bool yg, .string yi, .int .i64 yk, .int .i64 ym, .int .i64 yt, .string yb, .bool false, .bool true] _ hrg Tryd.underlying67 rfl (by kernel_rfl) ?_
            refine wpList_plain rfl fun C hC => ?_
            go_simp
            refine hC _ _ ?_
            clear hC C
            refine wpL_append_run rfl (.tmp 48) (.tmp 50) 63 63 rfl rfl _ _ s2 W6 rfl rfl hr6 ?_
            refine wpList_plain rfl fun C hC => ?_
            go_simp
            refine hC _ _ ?_
            clear hC C hr6 hrg HM4
            go_wp2_with fail
            go_roundw
            case rel => exact ⟨⟨xp, xg, ⟨xi, xk, xm, xt, xb⟩⟩ :: la, lb, done ++ [((none, some ⟨yp, yg, ⟨yi, yk, ym, yt, yb⟩⟩) : Option Em × Option Em)], ⟨H.out.ra, HRb.out, H.out.oa, (fun q hq => H.out.ob q (List.mem_cons_of_mem _ hq)), HO6.out, HB6.out, by rw [H.out.eq]; exact (congrArg (done ++ ·) (Dl.side_gt (f := fun x : Em => x.ed.path) (g := fun y : Em => y.ed.path) HE.out HE2.out la lb)).trans (by simp), by have := H.out.len; simp only [List.length_append, List.length_cons, List.length_nil] at *; omega⟩⟩
            case measure => have q1 := HLa.out; have q2 := HLb.out; have q3 := HN1.out; have q4 := HN2.out; (try rw [q1]); (try rw [q2]); simp only [lenEE]; omega
  case rest =>
    obtain ⟨la, lb, done, H, HE⟩ := hcut
    obtain ⟨pa, pc, rfl, hpc1, hpc2⟩ := H.out.ra.slice
    obtain ⟨qa, qc, rfl, hqc1, hqc2⟩ := H.out.rb.slice
    obtain ⟨n1, hn1⟩ : ∃ n, n = la.length := ⟨_, rfl⟩
    obtain ⟨n2, hn2⟩ : ∃ n, n = lb.length := ⟨_, rfl⟩
    have HN1 : Hid (n1 = la.length) := hn1
    have HN2 : Hid (n2 = lb.length) := hn2
    have HLn : Hid (done.length + (la.length + lb.length) ≤ na + nb) := by have := H.out.len; show _ ≤ _; omega
    have HF : Hid (sdEE a b = (done ++ la.map (fun x : Em => ((some x, none) : Option Em × Option Em))) ++ lb.map (fun y : Em => ((none, some y) : Option Em × Option Em))) := by
      show _ = _
      rw [H.out.eq]
      rcases HE.out with e | e
      · subst e
        exact (congrArg (done ++ ·) (Dl.side_nil lb)).trans (by simp)
      · subst e
        exact (congrArg (done ++ ·) (Dl.side_nil2 la)).trans (by simp)
    rw [← hn1] at hpc1 H ⊢
    rw [← hn2] at hqc1 H ⊢
    clear hn1 hn2 HE
    go_wp2_with fail
    go_loopw [7, 54] (fun s i wr => ∃ k : Nat, k ≤ n1 ∧ i = .int .i64 k ∧ Hid (wr.ownsRow w.heap.size 67 16 s (done ++ (la.take k).map (fun x : Em => ((some x, none) : Option Em × Option Em))).length (rowR eeC (done ++ (la.take k).map (fun x : Em => ((some x, none) : Option Em × Option Em))))) ∧ Hid (Below w.heap.size w wr)) (fun _ i _ => n1 - (intOf i).toNat)
    case atStart => exact ⟨0, by omega, rfl, by show World.ownsRow _ _ _ _ _ _ _; simpa using H.out.row, H.out.bel⟩
    case round =>
      obtain ⟨k, hk, rfl, HO, HB⟩ := hrel
      by_cases hlt : k < n1
      · obtain ⟨t, ht⟩ : ∃ t, la[k]? = some t := ⟨_, List.getElem?_eq_getElem (by have := HN1.out; omega)⟩
        obtain ⟨bk, o, rfl, hbk, c0, c1, c2, c3, c4, c5, c6⟩ := (H.out.ra.below HB.out).edit k t ht
        have HDn : Hid ((done ++ (la.take (k + 1)).map (fun x : Em => ((some x, none) : Option Em × Option Em))) = (done ++ (la.take k).map (fun x : Em => ((some x, none) : Option Em × Option Em))) ++ [(fun x : Em => ((some x, none) : Option Em × Option Em)) t]) := by show _ = _; rw [List.take_add_one, ht]; simp
        obtain ⟨xp, xg, ⟨xi, xk, xm, xt, xb⟩⟩ := t
        dsimp only at c0 c1 c2 c3 c4 c5 c6
        obtain ⟨s2, W6, hr6, ho6, hg6⟩ := more_ee w.heap.size u7 _ ((fun x : Em => ((some x, none) : Option Em × Option Em)) ⟨xp, xg, ⟨xi, xk, xm, xt, xb⟩⟩) ((wr.alloc (.cells #[.string xp, .bool xg, .string xi, .int .i64 xk, .int .i64 xm, .int .i64 xt, .string xb] 31)).alloc (.cells #[.string xp, .bool xg, .string xi, .int .i64 xk, .int .i64 xm, .int .i64 xt, .string xb, .string ⟨#[]⟩, .bool false, .string ⟨#[]⟩, .int .i64 0, .int .i64 0, .int .i64 0, .string ⟨#[]⟩, .bool true, .bool false] 67)) ((HO.out.alloc _).alloc _) (wr.heap.size + 1) (by rw [show wr.heap.size + 1 = (wr.alloc (.cells #[.string xp, .bool xg, .string xi, .int .i64 xk, .int .i64 xm, .int .i64 xt, .string xb] 31)).heap.size from by simp]; exact heap_alloc_new _ _) (by have := HL0.out; have := HLn.out; have := HN1.out; have := HN2.out; simp only [List.length_append, List.length_map, List.length_take]; omega) (by have := HB.out.size; simp; omega)
        have HO6 : Hid (W6.ownsRow w.heap.size 67 16 s2 (done ++ (la.take (k + 1)).map (fun x : Em => ((some x, none) : Option Em × Option Em))).length (rowR eeC (done ++ (la.take (k + 1)).map (fun x : Em => ((some x, none) : Option Em × Option Em))))) := by
          rw [HDn.out]; exact ho6
        have HB6 : Hid (Below w.heap.size w W6) := (((HB.out.alloc HB.out.size _).alloc (by have := HB.out.size; simp; omega) _)).grown hg6 (by have := HB.out.size; simp; omega) fun g hg => (HO.out.lt g hg).1
        clear ho6 hg6 ht HDn
        go_wp2_with (at_builtin; refine wpL_append_run rfl (.tmp 58) (.tmp 61) 63 63 rfl rfl _ _ s2 W6 rfl rfl hr6 ?_)
        clear hr6 c0 c1 c2 c3 c4 c5 c6
        go_roundw
        case measure => simp only [intOf]; omega
        case rel => exact ⟨k + 1, by omega, by go_num, HO6, HB6⟩
      · obtain rfl : k = n1 := by omega
        have HO1 : Hid (wr.ownsRow w.heap.size 67 16 u7 (done ++ la.map (fun x : Em => ((some x, none) : Option Em × Option Em))).length (rowR eeC (done ++ la.map (fun x : Em => ((some x, none) : Option Em × Option Em))))) := by
          have h := HO.out
          rw [List.take_of_length_le (by have := HN1.out; omega)] at h
          exact h
        clear HO
        go_wp2_with fail
        go_loopw [7, 66] (fun s i wr => ∃ k : Nat, k ≤ n2 ∧ i = .int .i64 k ∧ Hid (wr.ownsRow w.heap.size 67 16 s ((done ++ la.map (fun x : Em => ((some x, none) : Option Em × Option Em))) ++ (lb.take k).map (fun y : Em => ((none, some y) : Option Em × Option Em))).length (rowR eeC ((done ++ la.map (fun x : Em => ((some x, none) : Option Em × Option Em))) ++ (lb.take k).map (fun y : Em => ((none, some y) : Option Em × Option Em))))) ∧ Hid (Below w.heap.size w wr)) (fun _ i _ => n2 - (intOf i).toNat)
        case atStart => exact ⟨0, by omega, rfl, by show World.ownsRow _ _ _ _ _ _ _; simpa using HO1.out, HB.out⟩
        case round =>
          obtain ⟨k, hk, rfl, HO, HB⟩ := hrel
          clear HO1
          by_cases hlt : k < n2
          · obtain ⟨t, ht⟩ : ∃ t, lb[k]? = some t := ⟨_, List.getElem?_eq_getElem (by have := HN2.out; omega)⟩
            obtain ⟨bk, o, rfl, hbk, c0, c1, c2, c3, c4, c5, c6⟩ := (H.out.rb.below HB.out).edit k t ht
            have HDn : Hid (((done ++ la.map (fun x : Em => ((some x, none) : Option Em × Option Em))) ++ (lb.take (k + 1)).map (fun y : Em => ((none, some y) : Option Em × Option Em))) = ((done ++ la.map (fun x : Em => ((some x, none) : Option Em × Option Em))) ++ (lb.take k).map (fun y : Em => ((none, some y) : Option Em × Option Em))) ++ [(fun y : Em => ((none, some y) : Option Em × Option Em)) t]) := by show _ = _; rw [List.take_add_one, ht]; simp
            obtain ⟨yp, yg, ⟨yi, yk, ym, yt, yb⟩⟩ := t
            dsimp only at c0 c1 c2 c3 c4 c5 c6
            obtain ⟨s2, W6, hr6, ho6, hg6⟩ := more_ee w.heap.size u7 _ ((fun y : Em => ((none, some y) : Option Em × Option Em)) ⟨yp, yg, ⟨yi, yk, ym, yt, yb⟩⟩) ((wr.alloc (.cells #[.string yp, .bool yg, .string yi, .int .i64 yk, .int .i64 ym, .int .i64 yt, .string yb] 31)).alloc (.cells #[.string ⟨#[]⟩, .bool false, .string ⟨#[]⟩, .int .i64 0, .int .i64 0, .int .i64 0, .string ⟨#[]⟩, .string yp, .bool yg, .string yi, .int .i64 yk, .int .i64 ym, .int .i64 yt, .string yb, .bool false, .bool true] 67)) ((HO.out.alloc _).alloc _) (wr.heap.size + 1) (by rw [show wr.heap.size + 1 = (wr.alloc (.cells #[.string yp, .bool yg, .string yi, .int .i64 yk, .int .i64 ym, .int .i64 yt, .string yb] 31)).heap.size from by simp]; exact heap_alloc_new _ _) (by have := HL0.out; have := HLn.out; have := HN1.out; have := HN2.out; simp only [List.length_append, List.length_map, List.length_take]; omega) (by have := HB.out.size; simp; omega)
            have HO6 : Hid (W6.ownsRow w.heap.size 67 16 s2 ((done ++ la.map (fun x : Em => ((some x, none) : Option Em × Option Em))) ++ (lb.take (k + 1)).map (fun y : Em => ((none, some y) : Option Em × Option Em))).length (rowR eeC ((done ++ la.map (fun x : Em => ((some x, none) : Option Em × Option Em))) ++ (lb.take (k + 1)).map (fun y : Em => ((none, some y) : Option Em × Option Em))))) := by
              rw [HDn.out]; exact ho6
            have HB6 : Hid (Below w.heap.size w W6) := (((HB.out.alloc HB.out.size _).alloc (by have := HB.out.size; simp; omega) _)).grown hg6 (by have := HB.out.size; simp; omega) fun g hg => (HO.out.lt g hg).1
            clear ho6 hg6 ht HDn
            go_wp2_with (at_builtin; refine wpL_append_run rfl (.tmp 70) (.tmp 73) 63 63 rfl rfl _ _ s2 W6 rfl rfl hr6 ?_)
            clear hr6 c0 c1 c2 c3 c4 c5 c6
            go_roundw
            case measure => simp only [intOf]; omega
            case rel => exact ⟨k + 1, by omega, by go_num, HO6, HB6⟩
          · obtain rfl : k = n2 := by omega
            have HO2 : Hid (wr.ownsRow w.heap.size 67 16 u7 (sdEE a b).length (rowR eeC (sdEE a b))) := by
              have h := HO.out
              rw [List.take_of_length_le (by have := HN2.out; omega), ← HF.out] at h
              exact h
            go_wp2_with fail
            go_ret
            exact ⟨_, rfl, HO2.out, HB.out⟩

end Go.Proofs.YthpcbbkpjggjbaaDoor

namespace Go.Proofs.YthpcbbkpjggjbaaDoor
open Go.RowKit
set_option maxRecDepth 4000

set_option maxHeartbeats 16000000 in
theorem djoin_any (va vb : Value) (a : List Em) (b : List Em) (w : World) (ha : Eds w va a) (hb : Eds w vb b) (la : a.length ≤ 140737488351232) (lb : b.length ≤ 140737488351232) (oa : ∀ x ∈ a, x.Ok) (ob : ∀ x ∈ b, x.Ok) (hT : Tabs w) :
    Calls Tryd.prog 13 #[va, vb] w fun e w' => ∃ v l, e = .returned (.tuple #[v, .int .i64 (Dl.join (edl a) (edl b)).2]) ∧ w'.ownsRow w.heap.size 31 7 v l.length (rowR emC l) ∧ edl l = (Dl.join (edl a) (edl b)).1 ∧ (∀ x ∈ l, x.Ok) ∧ Below w.heap.size w w' := by
  have hca := dcheck_any va a w ha la oa hT
  have HCb : Hid (∀ W, Below w.heap.size w W → Calls Tryd.prog 15 #[vb] W fun e w' => e = .returned (.int .i64 (Dl.check (edl b))) ∧ Below W.heap.size W w') := fun W hW => dcheck_any vb b W (hb.below hW) lb ob (hT.below hW)
  have HSd : Hid (a.length + b.length ≤ 1000 → ∀ W, Below w.heap.size w W → Calls Tryd.prog 32 #[va, vb, .func (.func 33) #[] #[]] W fun e w' => ∃ v, e = .returned v ∧ w'.ownsRow W.heap.size 67 16 v (sdEE a b).length (rowR eeC (sdEE a b)) ∧ Below W.heap.size W w') := fun h W hW => sideEE_any va vb a b W (ha.below hW) (hb.below hW) h oa ob (hT.below hW)
  have HP : Hid (Dl.join (edl a) (edl b) = if Dl.check (edl a) ≠ 0 then ([], Dl.check (edl a)) else if Dl.check (edl b) ≠ 0 then ([], Dl.check (edl b)) else if 200 < (Dl.joinL (edl a) (edl b)).length then ([], 2) else (Dl.joinL (edl a) (edl b), 0)) := rfl
  have HT : Hid (Tabs w) := hT
  have HOa : Hid (∀ x ∈ a, x.Ok) := oa
  have HOb : Hid (∀ x ∈ b, x.Ok) := ob
  obtain ⟨RP, hRP⟩ : ∃ RP, RP = Dl.join (edl a) (edl b) := ⟨_, rfl⟩
  rw [← hRP] at HP ⊢
  obtain ⟨EA, hEA⟩ : ∃ EA, EA = Dl.check (edl a) := ⟨_, rfl⟩
  obtain ⟨EB, hEB⟩ : ∃ EB, EB = Dl.check (edl b) := ⟨_, rfl⟩
  rw [← hEA] at hca
  rw [← hEB] at HCb
  have HEA : Hid (EA = Dl.check (edl a)) := hEA
  have HEB : Hid (EB = Dl.check (edl b)) := hEB
  clear ha hb la lb oa ob hT hRP hEA hEB
  go_enter Tryd.func13, Tryd.ntmps13
  go_wp2_with fail
  refine hca.mono ?_
  rintro e w1 ⟨rfl, b1⟩
  have HB1 : Hid (Below w.heap.size w w1) := b1
  clear hca b1
  by_cases c1 : EA = 0
  case neg =>
    have hne : (EA != 0) = true := by rw [bne_iff_ne]; exact c1
    have HRe : Hid (RP = ([], EA)) := by show _ = _; rw [HP.out, ← HEA.out, if_pos c1]
    clear HP HSd HCb
    go_wp2_with fail
    go_ret2
    exact ⟨_, [], by rw [HRe.out]; rfl, World.ownsRow_nil _ _ _ _, by rw [HRe.out]; rfl, fun x hx => absurd hx List.not_mem_nil, HB1.out⟩
  have hne : (EA != 0) = false := by rw [c1]; rfl
  have HEA0 : Hid (Dl.check (edl a) = 0) := by show _ = _; rw [← HEA.out]; exact c1
  go_wp2_with fail
  refine (HCb.out _ HB1.out).mono ?_
  rintro e w2 ⟨rfl, b2⟩
  have HB2 : Hid (Below w.heap.size w w2) := HB1.out.trans (b2.mono HB1.out.size)
  clear HCb b2 hne c1
  by_cases c2 : EB = 0
  case neg =>
    have hne : (EB != 0) = true := by rw [bne_iff_ne]; exact c2
    have HRe : Hid (RP = ([], EB)) := by show _ = _; rw [HP.out, if_neg (fun q => q HEA0.out), ← HEB.out, if_pos c2]
    clear HP HSd
    go_wp2_with fail
    go_ret2
    exact ⟨_, [], by rw [HRe.out]; rfl, World.ownsRow_nil _ _ _ _, by rw [HRe.out]; rfl, fun x hx => absurd hx List.not_mem_nil, HB2.out⟩
  have hne : (EB != 0) = false := by rw [c2]; rfl
  have HEB0 : Hid (Dl.check (edl b) = 0) := by show _ = _; rw [← HEB.out]; exact c2
  have hlen : a.length + b.length ≤ 1000 := by
    have h1 := (Dl.check_ok.1 HEA0.out).1; have h2 := (Dl.check_ok.1 HEB0.out).1; rw [edl_length] at h1 h2; omega
  have hside := HSd.out hlen _ HB2.out
  obtain ⟨S, hS⟩ : ∃ S, S = sdEE a b := ⟨_, rfl⟩
  have HS : Hid (S = sdEE a b) := hS
  have HS3 : Hid (S.length ≤ 1000) := by
    show _ ≤ _
    rw [hS]
    exact Nat.le_trans (Dl.side_len _ _) hlen
  rw [← hS] at hside
  clear HSd c2 hlen hS
  go_wp2_with fail
  refine hside.mono ?_
  rintro e w4 ⟨vs, rfl, hs, b4⟩
  have HB4 : Hid (Below w.heap.size w w4) := HB2.out.trans (b4.mono HB2.out.size)
  have hR := Rx.of_own (C := eeC) (k := 16) eeC_len hs
  obtain ⟨sa, sc, rfl⟩ := own_form hs
  obtain ⟨N, hN⟩ : ∃ N, N = S.length := ⟨_, rfl⟩
  have HN : Hid (N = S.length) := hN
  rw [← hN] at hR ⊢
  have HR : Hid (Rx 16 eeC w4 (.slice sa N sc) S) := hR
  have hN3 : N ≤ 1000 := by have := HN.out; have := HS3.out; omega
  clear hside hs b4 hR hN hne
  go_wp2_with fail
  go_loopw [8, 25] (fun s i wr => ∃ k : Nat, k ≤ N ∧ i = .int .i64 k ∧ Hid (wr.ownsRow w4.heap.size 31 7 s ((S.take k).filterMap tJ).length (rowR emC ((S.take k).filterMap tJ))) ∧ Hid (Below w4.heap.size w4 wr)) (fun _ i _ => N - (intOf i).toNat)
  case atStart => exact ⟨0, by omega, rfl, World.ownsRow_nil _ _ _ _, Below.refl _ _⟩
  case round =>
    obtain ⟨k, hk, rfl, HO, HB⟩ := hrel
    by_cases hlt : k < N
    · obtain ⟨z, ht⟩ : ∃ z, S[k]? = some z := ⟨_, List.getElem?_eq_getElem (by have := HN.out; omega)⟩
      have hz := side_in a b z (by have := List.mem_of_getElem? ht; rw [HS.out] at this; exact this)
      obtain ⟨bk, o, rfl, hbk, hc⟩ := (HR.out.below HB.out).get k z ht
      obtain ⟨zx, zy⟩ := z
      cases zy with
      | none =>
        cases zx with
        | none => exact absurd hz.1 (by simp)
        | some x =>
          obtain ⟨xp, xg, ⟨xi, xk, xm, xt, xb⟩⟩ := x
          have hrg : wr.rangeAt bk (o + k * 16) (eeC ((some ⟨xp, xg, ⟨xi, xk, xm, xt, xb⟩⟩, none) : Option Em × Option Em)) := fun r u hu => hc r u hu
          obtain ⟨W1, hW1⟩ : ∃ W1, W1 = (wr.alloc (.cells #[.string ⟨#[]⟩, .bool false, .string ⟨#[]⟩, .int .i64 0, .int .i64 0, .int .i64 0, .string ⟨#[]⟩, .string ⟨#[]⟩, .bool false, .string ⟨#[]⟩, .int .i64 0, .int .i64 0, .int .i64 0, .string ⟨#[]⟩, .bool false, .bool false] 67)).setCells wr.heap.size 0 (eeC ((some ⟨xp, xg, ⟨xi, xk, xm, xt, xb⟩⟩, none) : Option Em × Option Em)) := ⟨_, rfl⟩
          have hz0 := heap_alloc_new wr (.cells #[.string ⟨#[]⟩, .bool false, .string ⟨#[]⟩, .int .i64 0, .int .i64 0, .int .i64 0, .string ⟨#[]⟩, .string ⟨#[]⟩, .bool false, .string ⟨#[]⟩, .int .i64 0, .int .i64 0, .int .i64 0, .string ⟨#[]⟩, .bool false, .bool false] 67)
          have hth := blk_there (o := 0) (k := 16) hz0 (Nat.le_of_ble_eq_true rfl)
          have HB1 : Hid (Below w4.heap.size w4 W1) := by rw [hW1]; exact setCells_below (HB.out.alloc HB.out.size _) HB.out.size _
          have HBr : Below wr.heap.size wr W1 := by rw [hW1]; exact setCells_below ((Below.refl _ wr).alloc (Nat.le_refl _) _) (Nat.le_refl _) _
          have HM1 : W1.heap[wr.heap.size]? = some (.cells (eeC ((some ⟨xp, xg, ⟨xi, xk, xm, xt, xb⟩⟩, none) : Option Em × Option Em)).toArray 67 (0, 0)) := by
            rw [hW1]
            have h := sets_blk (post := []) (eeC ((some ⟨xp, xg, ⟨xi, xk, xm, xt, xb⟩⟩, none) : Option Em × Option Em)) [] (eeC (none, none)) _ hz0 rfl
            rwa [List.append_nil] at h
          have key := fun j => cell_of_row W1 wr.heap.size j _ _ _ HM1
          have cf : W1.cell? ⟨wr.heap.size, 15, none⟩ = some (.bool false) := key 15
          have c0 : W1.cell? ⟨wr.heap.size, 0, none⟩ = some (.string xp) := key 0
          have c1 : W1.cell? ⟨wr.heap.size, 1, none⟩ = some (.bool xg) := key 1
          have c2 : W1.cell? ⟨wr.heap.size, 2, none⟩ = some (.string xi) := key 2
          have c3 : W1.cell? ⟨wr.heap.size, 3, none⟩ = some (.int .i64 xk) := key 3
          have c4 : W1.cell? ⟨wr.heap.size, 4, none⟩ = some (.int .i64 xm) := key 4
          have c5 : W1.cell? ⟨wr.heap.size, 5, none⟩ = some (.int .i64 xt) := key 5
          have c6 : W1.cell? ⟨wr.heap.size, 6, none⟩ = some (.string xb) := key 6
          obtain ⟨s2, W6, hr6, ho6, hg6⟩ := more_ae w4.heap.size u8 ((S.take k).filterMap tJ) (⟨xp, xg, ⟨xi, xk, xm, xt, xb⟩⟩ : Em) (W1.alloc (.cells #[.string xp, .bool xg, .string xi, .int .i64 xk, .int .i64 xm, .int .i64 xt, .string xb] 31)) ((own_below HO.out HBr).alloc _) W1.heap.size (heap_alloc_new W1 _) (by have h1 := List.length_filterMap_le tJ (S.take k); rw [List.length_take] at h1; have := HS3.out; have := HN.out; omega) (by have := HB1.out.size; simp; omega)
          have HO6 : Hid (W6.ownsRow w4.heap.size 31 7 s2 ((S.take (k + 1)).filterMap tJ).length (rowR emC ((S.take (k + 1)).filterMap tJ))) := by
            rw [told_step ht, show tJ ((some ⟨xp, xg, ⟨xi, xk, xm, xt, xb⟩⟩, none) : Option Em × Option Em) = some (⟨xp, xg, ⟨xi, xk, xm, xt, xb⟩⟩ : Em) from by rfl, Option.toList_some]; exact ho6
          have HB6 : Hid (Below w4.heap.size w4 W6) := ((HB1.out.alloc HB1.out.size _)).grown hg6 (by have := HB1.out.size; simp; omega) fun g hg => (HO.out.lt g hg).1
          clear ho6 hg6 ht hz0 HM1 key HBr hc
          go_upto_region 10 with fail
          refine wp_region_lit ?_
          refine wpList_plain rfl fun C hC => ?_
          go_simp
          refine hC _ _ ?_
          clear hC C
          refine wpList_load_mid rfl 67 (.tmp 27) rfl bk (o + k * 16) rfl [.string xp, .bool xg, .string xi, .int .i64 xk, .int .i64 xm, .int .i64 xt, .string xb, .string ⟨#[]⟩, .bool false, .string ⟨#[]⟩, .int .i64 0, .int .i64 0, .int .i64 0, .string ⟨#[]⟩, .bool true, .bool false] _ hrg Tryd.underlying67 rfl (by kernel_rfl) ?_
          refine wpList_plain rfl fun C hC => ?_
          go_simp
          refine hC _ _ ?_
          clear hC C
          refine wpList_store_mid rfl 67 (.tmp 10) (.tmp 28) rfl wr.heap.size 0 #[.string xp, .bool xg, .string xi, .int .i64 xk, .int .i64 xm, .int .i64 xt, .string xb, .string ⟨#[]⟩, .bool false, .string ⟨#[]⟩, .int .i64 0, .int .i64 0, .int .i64 0, .string ⟨#[]⟩, .bool true, .bool false] rfl rfl hth (by kernel_rfl) (all_oneCell_toArray (eeC_one ((some ⟨xp, xg, ⟨xi, xk, xm, xt, xb⟩⟩, none) : Option Em × Option Em))) ?_
          rw [show (#[.string xp, .bool xg, .string xi, .int .i64 xk, .int .i64 xm, .int .i64 xt, .string xb, .string ⟨#[]⟩, .bool false, .string ⟨#[]⟩, .int .i64 0, .int .i64 0, .int .i64 0, .string ⟨#[]⟩, .bool true, .bool false] : Array Value).toList = eeC ((some ⟨xp, xg, ⟨xi, xk, xm, xt, xb⟩⟩, none) : Option Em × Option Em) from rfl, ← hW1]
          clear hW1 hth hrg
          go_wp2_with (at_builtin; refine wpL_append_run rfl (.tmp 36) (.tmp 39) 23 23 rfl rfl _ _ s2 W6 rfl rfl hr6 ?_)
          clear hr6 cf c0 c1 c2 c3 c4 c5 c6
          go_roundw
          case measure => simp only [intOf]; omega
          case rel => exact ⟨k + 1, by omega, by go_num, HO6, HB6⟩
      | some y =>
        obtain ⟨yp, yg, ⟨yi, yk, ym, yt, yb⟩⟩ := y
        cases zx with
        | none =>
          have hrg : wr.rangeAt bk (o + k * 16) (eeC ((none, some ⟨yp, yg, ⟨yi, yk, ym, yt, yb⟩⟩) : Option Em × Option Em)) := fun r u hu => hc r u hu
          obtain ⟨W1, hW1⟩ : ∃ W1, W1 = (wr.alloc (.cells #[.string ⟨#[]⟩, .bool false, .string ⟨#[]⟩, .int .i64 0, .int .i64 0, .int .i64 0, .string ⟨#[]⟩, .string ⟨#[]⟩, .bool false, .string ⟨#[]⟩, .int .i64 0, .int .i64 0, .int .i64 0, .string ⟨#[]⟩, .bool false, .bool false] 67)).setCells wr.heap.size 0 (eeC ((none, some ⟨yp, yg, ⟨yi, yk, ym, yt, yb⟩⟩) : Option Em × Option Em)) := ⟨_, rfl⟩
          have hz0 := heap_alloc_new wr (.cells #[.string ⟨#[]⟩, .bool false, .string ⟨#[]⟩, .int .i64 0, .int .i64 0, .int .i64 0, .string ⟨#[]⟩, .string ⟨#[]⟩, .bool false, .string ⟨#[]⟩, .int .i64 0, .int .i64 0, .int .i64 0, .string ⟨#[]⟩, .bool false, .bool false] 67)
          have hth := blk_there (o := 0) (k := 16) hz0 (Nat.le_of_ble_eq_true rfl)
          have HB1 : Hid (Below w4.heap.size w4 W1) := by rw [hW1]; exact setCells_below (HB.out.alloc HB.out.size _) HB.out.size _
          have HBr : Below wr.heap.size wr W1 := by rw [hW1]; exact setCells_below ((Below.refl _ wr).alloc (Nat.le_refl _) _) (Nat.le_refl _) _
          have HM1 : W1.heap[wr.heap.size]? = some (.cells (eeC ((none, some ⟨yp, yg, ⟨yi, yk, ym, yt, yb⟩⟩) : Option Em × Option Em)).toArray 67 (0, 0)) := by
            rw [hW1]
            have h := sets_blk (post := []) (eeC ((none, some ⟨yp, yg, ⟨yi, yk, ym, yt, yb⟩⟩) : Option Em × Option Em)) [] (eeC (none, none)) _ hz0 rfl
            rwa [List.append_nil] at h
          have key := fun j => cell_of_row W1 wr.heap.size j _ _ _ HM1
          have cf : W1.cell? ⟨wr.heap.size, 15, none⟩ = some (.bool true) := key 15
          have c0 : W1.cell? ⟨wr.heap.size, 7, none⟩ = some (.string yp) := key 7
          have c1 : W1.cell? ⟨wr.heap.size, 8, none⟩ = some (.bool yg) := key 8
          have c2 : W1.cell? ⟨wr.heap.size, 9, none⟩ = some (.string yi) := key 9
          have c3 : W1.cell? ⟨wr.heap.size, 10, none⟩ = some (.int .i64 yk) := key 10
          have c4 : W1.cell? ⟨wr.heap.size, 11, none⟩ = some (.int .i64 ym) := key 11
          have c5 : W1.cell? ⟨wr.heap.size, 12, none⟩ = some (.int .i64 yt) := key 12
          have c6 : W1.cell? ⟨wr.heap.size, 13, none⟩ = some (.string yb) := key 13
          obtain ⟨s2, W6, hr6, ho6, hg6⟩ := more_ae w4.heap.size u8 ((S.take k).filterMap tJ) (⟨yp, yg, ⟨yi, yk, ym, yt, yb⟩⟩ : Em) (W1.alloc (.cells #[.string yp, .bool yg, .string yi, .int .i64 yk, .int .i64 ym, .int .i64 yt, .string yb] 31)) ((own_below HO.out HBr).alloc _) W1.heap.size (heap_alloc_new W1 _) (by have h1 := List.length_filterMap_le tJ (S.take k); rw [List.length_take] at h1; have := HS3.out; have := HN.out; omega) (by have := HB1.out.size; simp; omega)
          have HO6 : Hid (W6.ownsRow w4.heap.size 31 7 s2 ((S.take (k + 1)).filterMap tJ).length (rowR emC ((S.take (k + 1)).filterMap tJ))) := by
            rw [told_step ht, show tJ ((none, some ⟨yp, yg, ⟨yi, yk, ym, yt, yb⟩⟩) : Option Em × Option Em) = some (⟨yp, yg, ⟨yi, yk, ym, yt, yb⟩⟩ : Em) from by rfl, Option.toList_some]; exact ho6
          have HB6 : Hid (Below w4.heap.size w4 W6) := ((HB1.out.alloc HB1.out.size _)).grown hg6 (by have := HB1.out.size; simp; omega) fun g hg => (HO.out.lt g hg).1
          clear ho6 hg6 ht hz0 HM1 key HBr hc
          go_upto_region 10 with fail
          refine wp_region_lit ?_
          refine wpList_plain rfl fun C hC => ?_
          go_simp
          refine hC _ _ ?_
          clear hC C
          refine wpList_load_mid rfl 67 (.tmp 27) rfl bk (o + k * 16) rfl [.string ⟨#[]⟩, .bool false, .string ⟨#[]⟩, .int .i64 0, .int .i64 0, .int .i64 0, .string ⟨#[]⟩, .string yp, .bool yg, .string yi, .int .i64 yk, .int .i64 ym, .int .i64 yt, .string yb, .bool false, .bool true] _ hrg Tryd.underlying67 rfl (by kernel_rfl) ?_
          refine wpList_plain rfl fun C hC => ?_
          go_simp
          refine hC _ _ ?_
          clear hC C
          refine wpList_store_mid rfl 67 (.tmp 10) (.tmp 28) rfl wr.heap.size 0 #[.string ⟨#[]⟩, .bool false, .string ⟨#[]⟩, .int .i64 0, .int .i64 0, .int .i64 0, .string ⟨#[]⟩, .string yp, .bool yg, .string yi, .int .i64 yk, .int .i64 ym, .int .i64 yt, .string yb, .bool false, .bool true] rfl rfl hth (by kernel_rfl) (all_oneCell_toArray (eeC_one ((none, some ⟨yp, yg, ⟨yi, yk, ym, yt, yb⟩⟩) : Option Em × Option Em))) ?_
          rw [show (#[.string ⟨#[]⟩, .bool false, .string ⟨#[]⟩, .int .i64 0, .int .i64 0, .int .i64 0, .string ⟨#[]⟩, .string yp, .bool yg, .string yi, .int .i64 yk, .int .i64 ym, .int .i64 yt, .string yb, .bool false, .bool true] : Array Value).toList = eeC ((none, some ⟨yp, yg, ⟨yi, yk, ym, yt, yb⟩⟩) : Option Em × Option Em) from rfl, ← hW1]
          clear hW1 hth hrg
          go_wp2_with (at_builtin; refine wpL_append_run rfl (.tmp 31) (.tmp 34) 23 23 rfl rfl _ _ s2 W6 rfl rfl hr6 ?_)
          clear hr6 cf c0 c1 c2 c3 c4 c5 c6
          go_roundw
          case measure => simp only [intOf]; omega
          case rel => exact ⟨k + 1, by omega, by go_num, HO6, HB6⟩
        | some x =>
          obtain ⟨xp, xg, ⟨xi, xk, xm, xt, xb⟩⟩ := x
          have hrg : wr.rangeAt bk (o + k * 16) (eeC ((some ⟨xp, xg, ⟨xi, xk, xm, xt, xb⟩⟩, some ⟨yp, yg, ⟨yi, yk, ym, yt, yb⟩⟩) : Option Em × Option Em)) := fun r u hu => hc r u hu
          obtain ⟨W1, hW1⟩ : ∃ W1, W1 = (wr.alloc (.cells #[.string ⟨#[]⟩, .bool false, .string ⟨#[]⟩, .int .i64 0, .int .i64 0, .int .i64 0, .string ⟨#[]⟩, .string ⟨#[]⟩, .bool false, .string ⟨#[]⟩, .int .i64 0, .int .i64 0, .int .i64 0, .string ⟨#[]⟩, .bool false, .bool false] 67)).setCells wr.heap.size 0 (eeC ((some ⟨xp, xg, ⟨xi, xk, xm, xt, xb⟩⟩, some ⟨yp, yg, ⟨yi, yk, ym, yt, yb⟩⟩) : Option Em × Option Em)) := ⟨_, rfl⟩
          have hz0 := heap_alloc_new wr (.cells #[.string ⟨#[]⟩, .bool false, .string ⟨#[]⟩, .int .i64 0, .int .i64 0, .int .i64 0, .string ⟨#[]⟩, .string ⟨#[]⟩, .bool false, .string ⟨#[]⟩, .int .i64 0, .int .i64 0, .int .i64 0, .string ⟨#[]⟩, .bool false, .bool false] 67)
          have hth := blk_there (o := 0) (k := 16) hz0 (Nat.le_of_ble_eq_true rfl)
          have HB1 : Hid (Below w4.heap.size w4 W1) := by rw [hW1]; exact setCells_below (HB.out.alloc HB.out.size _) HB.out.size _
          have HBr : Below wr.heap.size wr W1 := by rw [hW1]; exact setCells_below ((Below.refl _ wr).alloc (Nat.le_refl _) _) (Nat.le_refl _) _
          have HM1 : W1.heap[wr.heap.size]? = some (.cells (eeC ((some ⟨xp, xg, ⟨xi, xk, xm, xt, xb⟩⟩, some ⟨yp, yg, ⟨yi, yk, ym, yt, yb⟩⟩) : Option Em × Option Em)).toArray 67 (0, 0)) := by
            rw [hW1]
            have h := sets_blk (post := []) (eeC ((some ⟨xp, xg, ⟨xi, xk, xm, xt, xb⟩⟩, some ⟨yp, yg, ⟨yi, yk, ym, yt, yb⟩⟩) : Option Em × Option Em)) [] (eeC (none, none)) _ hz0 rfl
            rwa [List.append_nil] at h
          have key := fun j => cell_of_row W1 wr.heap.size j _ _ _ HM1
          have cf : W1.cell? ⟨wr.heap.size, 15, none⟩ = some (.bool true) := key 15
          have c0 : W1.cell? ⟨wr.heap.size, 7, none⟩ = some (.string yp) := key 7
          have c1 : W1.cell? ⟨wr.heap.size, 8, none⟩ = some (.bool yg) := key 8
          have c2 : W1.cell? ⟨wr.heap.size, 9, none⟩ = some (.string yi) := key 9
          have c3 : W1.cell? ⟨wr.heap.size, 10, none⟩ = some (.int .i64 yk) := key 10
          have c4 : W1.cell? ⟨wr.heap.size, 11, none⟩ = some (.int .i64 ym) := key 11
          have c5 : W1.cell? ⟨wr.heap.size, 12, none⟩ = some (.int .i64 yt) := key 12
          have c6 : W1.cell? ⟨wr.heap.size, 13, none⟩ = some (.string yb) := key 13
          obtain ⟨s2, W6, hr6, ho6, hg6⟩ := more_ae w4.heap.size u8 ((S.take k).filterMap tJ) (⟨yp, yg, ⟨yi, yk, ym, yt, yb⟩⟩ : Em) (W1.alloc (.cells #[.string yp, .bool yg, .string yi, .int .i64 yk, .int .i64 ym, .int .i64 yt, .string yb] 31)) ((own_below HO.out HBr).alloc _) W1.heap.size (heap_alloc_new W1 _) (by have h1 := List.length_filterMap_le tJ (S.take k); rw [List.length_take] at h1; have := HS3.out; have := HN.out; omega) (by have := HB1.out.size; simp; omega)
          have HO6 : Hid (W6.ownsRow w4.heap.size 31 7 s2 ((S.take (k + 1)).filterMap tJ).length (rowR emC ((S.take (k + 1)).filterMap tJ))) := by
            rw [told_step ht, show tJ ((some ⟨xp, xg, ⟨xi, xk, xm, xt, xb⟩⟩, some ⟨yp, yg, ⟨yi, yk, ym, yt, yb⟩⟩) : Option Em × Option Em) = some (⟨yp, yg, ⟨yi, yk, ym, yt, yb⟩⟩ : Em) from by rfl, Option.toList_some]; exact ho6
          have HB6 : Hid (Below w4.heap.size w4 W6) := ((HB1.out.alloc HB1.out.size _)).grown hg6 (by have := HB1.out.size; simp; omega) fun g hg => (HO.out.lt g hg).1
          clear ho6 hg6 ht hz0 HM1 key HBr hc
          go_upto_region 10 with fail
          refine wp_region_lit ?_
          refine wpList_plain rfl fun C hC => ?_
          go_simp
          refine hC _ _ ?_
          clear hC C
          refine wpList_load_mid rfl 67 (.tmp 27) rfl bk (o + k * 16) rfl [.string xp, .bool xg, .string xi, .int .i64 xk, .int .i64 xm, .int .i64 xt, .string xb, .string yp, .bool yg, .string yi, .int .i64 yk, .int .i64 ym, .int .i64 yt, .string yb, .bool true, .bool true] _ hrg Tryd.underlying67 rfl (by kernel_rfl) ?_
          refine wpList_plain rfl fun C hC => ?_
          go_simp
          refine hC _ _ ?_
          clear hC C
          refine wpList_store_mid rfl 67 (.tmp 10) (.tmp 28) rfl wr.heap.size 0 #[.string xp, .bool xg, .string xi, .int .i64 xk, .int .i64 xm, .int .i64 xt, .string xb, .string yp, .bool yg, .string yi, .int .i64 yk, .int .i64 ym, .int .i64 yt, .string yb, .bool true, .bool true] rfl rfl hth (by kernel_rfl) (all_oneCell_toArray (eeC_one ((some ⟨xp, xg, ⟨xi, xk, xm, xt, xb⟩⟩, some ⟨yp, yg, ⟨yi, yk, ym, yt, yb⟩⟩) : Option Em × Option Em))) ?_
          rw [show (#[.string xp, .bool xg, .string xi, .int .i64 xk, .int .i64 xm, .int .i64 xt, .string xb, .string yp, .bool yg, .string yi, .int .i64 yk, .int .i64 ym, .int .i64 yt, .string yb, .bool true, .bool true] : Array Value).toList = eeC ((some ⟨xp, xg, ⟨xi, xk, xm, xt, xb⟩⟩, some ⟨yp, yg, ⟨yi, yk, ym, yt, yb⟩⟩) : Option Em × Option Em) from rfl, ← hW1]
          clear hW1 hth hrg
          go_wp2_with (at_builtin; refine wpL_append_run rfl (.tmp 31) (.tmp 34) 23 23 rfl rfl _ _ s2 W6 rfl rfl hr6 ?_)
          clear hr6 cf c0 c1 c2 c3 c4 c5 c6
          go_roundw
          case measure => simp only [intOf]; omega
          case rel => exact ⟨k + 1, by omega, by go_num, HO6, HB6⟩
    · obtain rfl : k = N := by omega
      have HO1 : Hid (wr.ownsRow w4.heap.size 31 7 u8 (S.filterMap tJ).length (rowR emC (S.filterMap tJ))) := by
        have h := HO.out
        rw [List.take_of_length_le (by have := HN.out; omega)] at h
        exact h
      have HBw : Hid (Below w.heap.size w wr) := HB4.out.trans (HB.out.mono HB4.out.size)
      have HLn : Hid ((S.filterMap tJ).length ≤ 1000) := Nat.le_trans (List.length_filterMap_le _ _) HS3.out
      clear HO HB
      have HK : Hid (∀ x ∈ S.filterMap tJ, x.Ok) := fun q hq => by
        obtain ⟨⟨zx, zy⟩, hz, e⟩ := List.mem_filterMap.1 hq
        have hzz := side_in a b _ (by rw [HS.out] at hz; exact hz)
        cases zy with
        | none => exact HOa.out q (hzz.2.1 q e)
        | some y => cases e; exact HOb.out q (hzz.2.2 q rfl)
      have HAp : Hid (Dl.joinL (edl a) (edl b) = edl (S.filterMap tJ)) := by
        have h := join_told HEA0.out HEB0.out
        show _ = _
        rw [HS.out]
        exact h
      have HR3 : Hid (RP = if 200 < (S.filterMap tJ).length then ([], 2) else (edl (S.filterMap tJ), 0)) := by
        show _ = _
        rw [HP.out, if_neg (fun q => q HEA0.out), if_neg (fun q => q HEB0.out), HAp.out, edl_length]
      obtain ⟨av, ac, rfl⟩ := own_form HO1.out
      obtain ⟨M, hM⟩ : ∃ M, M = (S.filterMap tJ).length := ⟨_, rfl⟩
      have HM : Hid (M = (S.filterMap tJ).length) := hM
      rw [← hM] at HO1 HR3 HLn ⊢
      clear HP hM
      by_cases c3 : 200 < M
      · have hgt : ((M : Int) > 200) := by omega
        have HRe : Hid (RP = ([], 2)) := by show _ = _; rw [HR3.out, if_pos c3]
        clear HR3 c3
        go_wp2_with fail
        go_ret2
        exact ⟨_, [], by rw [HRe.out]; rfl, World.ownsRow_nil _ _ _ _, by rw [HRe.out]; rfl, fun x hx => absurd hx List.not_mem_nil, HBw.out⟩
      have hgt : ¬ ((M : Int) > 200) := by omega
      have HRe : Hid (RP = (edl (S.filterMap tJ), 0)) := by show _ = _; rw [HR3.out, if_neg c3]
      have hown := ownEdits_any (.slice av M ac) (S.filterMap tJ) wr _ (by rw [← HM.out]; exact HO1.out) HK.out (by have := HLn.out; have := HM.out; omega)
      clear HR3 c3
      go_wp2_with fail
      refine hown.mono ?_
      rintro e w6 ⟨rfl, b6⟩
      have HB6 : Hid (Below w.heap.size w w6) := HBw.out.trans (b6.mono HBw.out.size)
      have HO6 : Hid (w6.ownsRow w.heap.size 31 7 (.slice av M ac) (S.filterMap tJ).length (rowR emC (S.filterMap tJ))) := by
        rw [← HM.out]; exact own_lower (own_below HO1.out b6) HB4.out.size
      clear hown b6
      go_wp2_with fail
      go_ret2
      exact ⟨_, S.filterMap tJ, by rw [HRe.out]; rfl, HO6.out, by rw [HRe.out], HK.out, HB6.out⟩

end Go.Proofs.YthpcbbkpjggjbaaDoor

namespace Go.Proofs.YthpcbbkpjggjbaaDoor
namespace Dl
open Wk (Bs It)

theorem join_zero {l m L : List Ed} (h : join l m = (L, 0)) : check l = 0 ∧ check m = 0 ∧ L = joinL l m ∧ (joinL l m).length ≤ 200 := by
  unfold join at h
  split at h
  · rename_i q; exact absurd (congrArg Prod.snd h) q
  · rename_i q1
    split at h
    · rename_i q; exact absurd (congrArg Prod.snd h) q
    · rename_i q2
      split at h
      · exact absurd (show (2 : Int) = 0 from congrArg Prod.snd h) (by decide)
      · rename_i q3
        exact ⟨Decidable.not_not.mp q1, Decidable.not_not.mp q2, (congrArg Prod.fst h).symm, Nat.le_of_not_lt q3⟩

theorem join_mk {l m : List Ed} (hl : check l = 0) (hm : check m = 0) (h : (joinL l m).length ≤ 200) : join l m = (joinL l m, 0) := by
  unfold join
  rw [if_neg (fun q => q hl), if_neg (fun q => q hm), if_neg (by omega)]

theorem apply_zero {a : List It} {l : List Ed} {B : List It} (h : apply a l = (B, 0)) : Wk.world a = 0 ∧ check l = 0 ∧ B = appL a l ∧ Wk.world (appL a l) = 0 := by
  unfold apply at h
  split at h
  · rename_i q; exact absurd (congrArg Prod.snd h) q
  · rename_i q1
    split at h
    · rename_i q; exact absurd (congrArg Prod.snd h) q
    · rename_i q2
      split at h
      · rename_i q; exact absurd (congrArg Prod.snd h) q
      · rename_i q3
        exact ⟨Decidable.not_not.mp q1, Decidable.not_not.mp q2, (congrArg Prod.fst h).symm, Decidable.not_not.mp q3⟩

theorem both {a B C : List It} {l m L : List Ed} (h : join l m = (L, 0)) (h1 : apply a l = (B, 0)) (h2 : apply B m = (C, 0)) : apply a L = (C, 0) := by
  obtain ⟨c1, c2, rfl, c3⟩ := join_zero h
  obtain ⟨a1, _, rfl, a3⟩ := apply_zero h1
  obtain ⟨_, _, rfl, b3⟩ := apply_zero h2
  have e := join_apply (wld a1).2.2 c1 c2 c3 (wld a3).2.2
  unfold apply
  rw [if_neg (fun q => q a1), if_neg (fun q => q (join_check c1 c2 c3)), ← e, if_neg (fun q => q b3)]

theorem join_twice (l : List Ed) : (join l l).2 = check l ∧ (check l = 0 → (join l l).1 = l) := by
  by_cases h : check l = 0
  · have hl := (check_ok.1 h).1
    have e := join_self h
    rw [join_mk h h (by rw [e]; exact hl), e]
    exact ⟨h.symm, fun _ => rfl⟩
  · have e : join l l = ([], check l) := by unfold join; rw [if_pos h]
    rw [e]
    exact ⟨rfl, fun q => absurd q h⟩

theorem join_three {l m n L M : List Ed} (h : join l m = (L, 0)) (k : join m n = (M, 0)) : join L n = join l M := by
  obtain ⟨c1, c2, rfl, c3⟩ := join_zero h
  obtain ⟨_, d2, rfl, d3⟩ := join_zero k
  have e := join_assoc c1 c2 d2 c3 d3
  have u : ∀ {x y : List Ed}, check x = 0 → check y = 0 → join x y = if 200 < (joinL x y).length then ([], 2) else (joinL x y, 0) := fun hx hy => by
    unfold join
    rw [if_neg (fun q => q hx), if_neg (fun q => q hy)]
  rw [u (join_check c1 c2 c3) d2, u c1 (join_check c2 d2 d3), e]

theorem join_one : join [⟨[47, 97], true, it0⟩] [] = ([⟨[47, 97], true, it0⟩], 0) := by
  refine Prod.ext ?_ (by decide +kernel)
  have h : (join [⟨[47, 97], true, it0⟩] []).1 = joinL [⟨[47, 97], true, it0⟩] [] := by
    have h1 : check [⟨[47, 97], true, it0⟩] = 0 := by decide +kernel
    have h2 : check [] = 0 := by decide +kernel
    rw [join_mk h1 h2 (by decide +kernel)]
  rw [h]
  rfl

end Dl

end Go.Proofs.YthpcbbkpjggjbaaDoor

namespace Go.Proofs.YthpcbbkpjggjbaaDoor
open Go.RowKit
set_option maxRecDepth 4000

/-- Join, told with the row's length -/
theorem djoin_say {va vb : Value} {a b : List Em} {w : World} (ha : Eds w va a) (hb : Eds w vb b) (la : a.length ≤ 140737488351232) (lb : b.length ≤ 140737488351232) (oa : ∀ x ∈ a, x.Ok) (ob : ∀ x ∈ b, x.Ok) (hT : Tabs w) {D : List Dl.Ed} {E : Int} (hD : Dl.join (edl a) (edl b) = (D, E)) :
    Calls Tryd.prog 13 #[va, vb] w fun e w' => ∃ sa sc l, e = .returned (.tuple #[.slice sa l.length sc, .int .i64 E]) ∧ Eds w' (.slice sa l.length sc) l ∧ edl l = D ∧ (∀ x ∈ l, x.Ok) ∧ Below w.heap.size w w' := by
  refine (djoin_any va vb a b w ha hb la lb oa ob hT).mono ?_
  rintro e w' ⟨v, l, he, h1, h2, h3, h4⟩
  rw [hD] at he h2
  obtain ⟨sa, sc, rfl⟩ := own_form h1
  exact ⟨sa, sc, l, he, Rx.of_own emC_length h1, h2, h3, h4⟩

theorem join_few {l m L : List Dl.Ed} {E : Int} (h : Dl.join l m = (L, E)) : L.length ≤ 200 := by
  by_cases e : E = 0
  · subst e
    obtain ⟨_, _, rfl, k⟩ := Dl.join_zero h
    exact k
  · have : L = [] := by
      unfold Dl.join at h
      split at h
      · exact (congrArg Prod.fst h).symm
      · split at h
        · exact (congrArg Prod.fst h).symm
        · split at h
          · exact (congrArg Prod.fst h).symm
          · exact absurd (congrArg Prod.snd h).symm e
    rw [this]
    simp

theorem apply_few {a B : List Wk.It} {l : List Dl.Ed} {E : Int} (h : Dl.apply a l = (B, E)) : B.length ≤ 100 := by
  by_cases e : E = 0
  · subst e
    obtain ⟨_, _, rfl, k⟩ := Dl.apply_zero h
    exact (Dl.wld k).1
  · have : B = [] := by
      unfold Dl.apply at h
      split at h
      · exact (congrArg Prod.fst h).symm
      · split at h
        · exact (congrArg Prod.fst h).symm
        · split at h
          · exact (congrArg Prod.fst h).symm
          · exact absurd (congrArg Prod.snd h).symm e
    rw [this]
    simp

set_option maxHeartbeats 16000000 in
theorem deltaJoins_walk (v0 : Value) (l0 : List Im) (v1 : Value) (l1 : List Em) (v2 : Value) (l2 : List Em) (v3 : Value) (l3 : List Em) (z0 : l0.length ≤ 140737488351232) (f0 : ∀ x ∈ l0, x.Ok) (z1 : l1.length ≤ 140737488351232) (f1 : ∀ x ∈ l1, x.Ok) (z2 : l2.length ≤ 140737488351232) (f2 : ∀ x ∈ l2, x.Ok) (z3 : l3.length ≤ 140737488351232) (f3 : ∀ x ∈ l3, x.Ok) (w : World) (t0 : Ims w v0 l0) (t1 : Eds w v1 l1) (t2 : Eds w v2 l2) (t3 : Eds w v3 l3) (hT : Tabs w) :
    Calls Tryd.prog 7 #[v0, v1, v2, v3] w fun e w' => e = .returned (.bool true) ∧ Below w.heap.size w w' := by
  have X0 : Hid (Ims w v0 l0) := t0
  have X1 : Hid (Eds w v1 l1) := t1
  have X2 : Hid (Eds w v2 l2) := t2
  have X3 : Hid (Eds w v3 l3) := t3
  have O0 : Hid (∀ x ∈ l0, x.Ok) := f0
  have O1 : Hid (∀ x ∈ l1, x.Ok) := f1
  have O2 : Hid (∀ x ∈ l2, x.Ok) := f2
  have O3 : Hid (∀ x ∈ l3, x.Ok) := f3
  have HT : Hid (Tabs w) := hT
  obtain ⟨LM, E1, hJ1⟩ : ∃ D E, Dl.join (edl l1) (edl l2) = (D, E) := ⟨_, _, rfl⟩
  have HJ1 : Hid (Dl.join (edl l1) (edl l2) = (LM, E1)) := hJ1
  obtain ⟨BB, Eb, hA1⟩ : ∃ D E, Dl.apply (its l0) (edl l1) = (D, E) := ⟨_, _, rfl⟩
  have HA1 : Hid (Dl.apply (its l0) (edl l1) = (BB, Eb)) := hA1
  clear t0 t1 t2 t3 f0 f1 f2 f3 hT hJ1 hA1
  obtain ⟨W0, hW0⟩ : ∃ W0, W0 = w.alloc (.cells #[.string ⟨#[47, 97]⟩, .bool true, .string ⟨#[]⟩, .int .i64 0, .int .i64 0, .int .i64 0, .string ⟨#[]⟩] 31) := ⟨_, rfl⟩
  have HB0 : Hid (Below w.heap.size w W0) := by rw [hW0]; exact (Below.refl _ w).alloc (Nat.le_refl _) _
  have hk0 : Eds W0 (.slice (some ⟨w.heap.size, 0, none⟩) 1 1) [⟨⟨#[47, 97]⟩, true, im0⟩] := by
    rw [hW0]
    exact Rx.of_own (base := w.heap.size) (T := 31) emC_length ⟨by rfl, .inr ⟨w.heap.size, 1, _, rfl, Nat.le_refl _, heap_alloc_new w _, Nat.le_refl _, by unfold maxLen; decide, rfl, rfl⟩⟩
  have hjo := djoin_say hk0 (eds_nil W0) (by decide) (by decide) (fun x hx => by rw [List.mem_singleton.1 hx]; exact ⟨by decide, im0_ok⟩) (fun x hx => absurd hx List.not_mem_nil) (HT.out.below HB0.out) Dl.join_one
  clear hk0
  go_enter Tryd.func7, Tryd.ntmps7
  go_wp2_with fail
  rw [← hW0]
  clear hW0
  refine hjo.mono ?_
  rintro e w1 ⟨xa, xc, xl, rfl, _, hxl, _, b1⟩
  have hx2 : xl.length = 1 := by have h := congrArg List.length hxl; rw [edl_length] at h; exact h
  rw [hx2]
  have HB1 : Hid (Below w.heap.size w w1) := HB0.out.trans (b1.mono HB0.out.size)
  clear hjo hxl b1 hx2 HB0
  have hq := djoin_say (X1.out.below HB1.out) (X2.out.below HB1.out) z1 z2 O1.out O2.out (HT.out.below HB1.out) HJ1.out
  go_wp2_with fail
  refine hq.mono ?_
  rintro e w2 ⟨a1, c1, m1, rfl, hr1, hm1, hk1, b2⟩
  have HB2 : Hid (Below w.heap.size w w2) := HB1.out.trans (b2.mono HB1.out.size)
  obtain ⟨n1, hn1⟩ : ∃ n, n = m1.length := ⟨_, rfl⟩
  have HN1 : Hid (n1 = m1.length) := hn1
  have hg1 : n1 ≤ 200 := by rw [hn1, ← edl_length, hm1]; exact join_few HJ1.out
  rw [← hn1] at hr1 ⊢
  have HR1 : Hid (Eds w2 (.slice a1 n1 c1) m1 ∧ edl m1 = LM ∧ ∀ x ∈ m1, x.Ok) := ⟨hr1, hm1, hk1⟩
  clear hq b2 hr1 hm1 hk1 hn1 HB1
  have hq := applied_any (X0.out.below HB2.out) (X1.out.below HB2.out) z0 z1 O0.out O1.out (HT.out.below HB2.out) HA1.out
  go_wp2_with fail
  refine hq.mono ?_
  rintro e w3 ⟨a3, c3, m3, rfl, hr3, hm3, hk3, b3⟩
  have HB3 : Hid (Below w.heap.size w w3) := HB2.out.trans (b3.mono HB2.out.size)
  obtain ⟨n3, hn3⟩ : ∃ n, n = m3.length := ⟨_, rfl⟩
  have HN3 : Hid (n3 = m3.length) := hn3
  have hg3 : n3 ≤ 100 := by rw [hn3, ← its_length, hm3]; exact apply_few HA1.out
  have hr3 := Rx.of_own imC_length hr3
  rw [← hn3] at hr3 ⊢
  have HR3 : Hid (Ims w3 (.slice a3 n3 c3) m3 ∧ its m3 = BB ∧ ∀ x ∈ m3, x.Ok) := ⟨hr3, hm3, hk3⟩
  have HX1 : Hid (Eds w3 (.slice a1 n1 c1) m1) := HR1.out.1.below b3
  clear hq b3 hr3 hm3 hk3 hn3 HB2
  by_cases hEb : Eb = 0
  case neg =>
    have hbn : (Eb == 0) = false := by rw [beq_eq_false_iff_ne]; exact hEb
    have HBk : Hid (Below w.heap.size w w3) := HB3.out
    have HLM := HX1
    obtain ⟨wk, rfl⟩ : ∃ wk, wk = w3 := ⟨_, rfl⟩
    have hq := djoin_say (X1.out.below HBk.out) (X1.out.below HBk.out) z1 z1 O1.out O1.out (HT.out.below HBk.out) (D := (Dl.join (edl l1) (edl l1)).1) (E := Dl.check (edl l1)) (Prod.ext rfl (Dl.join_twice (edl l1)).1)
    have HLk : Hid (Eds wk (.slice a1 n1 c1) m1) := HLM
    clear HLM
    go_wp2_with fail
    refine hq.mono ?_
    rintro e w11 ⟨a11, c11, m11, rfl, hr11, hm11, hk11, b11⟩
    have HB11 : Hid (Below w.heap.size w w11) := HBk.out.trans (b11.mono HBk.out.size)
    have HX11 : Hid (Eds w11 (.slice a1 n1 c1) m1) := HLk.out.below b11
    have hg11 : m11.length ≤ 200 := by rw [← edl_length, hm11]; exact join_few (show Dl.join (edl l1) (edl l1) = ((Dl.join (edl l1) (edl l1)).1, (Dl.join (edl l1) (edl l1)).2) from rfl)
    have HE11 : Hid (Dl.check (edl l1) = 0 → m11 = l1) := fun e => edl_inj (hm11.trans ((Dl.join_twice (edl l1)).2 e))
    have HR11 : Hid (Eds w11 (.slice a11 m11.length c11) m11) := hr11
    have hck := fun (W : World) (hW : Below w.heap.size w W) => dcheck_any v1 l1 W (X1.out.below hW) z1 O1.out (HT.out.below hW)
    have HEq : Hid (∀ W, Below w11.heap.size w11 W → Calls Tryd.prog 10 #[.slice a11 m11.length c11, v1] W fun e w' => ∃ b : Bool, e = .returned (.bool b) ∧ (b = true ↔ m11 = l1) ∧ Below W.heap.size W w') := fun W hW => equal_eds _ v1 m11 l1 W (HR11.out.below hW) (X1.out.below (HB11.out.trans (hW.mono HB11.out.size))) (by omega)
    generalize m11.length = n11 at *
    obtain ⟨CK, hCK⟩ : ∃ CK, CK = Dl.check (edl l1) := ⟨_, rfl⟩
    rw [← hCK] at hck HE11 ⊢
    clear hq b11 hr11 hm11 hk11 HLk HBk hCK HR11
    obtain ⟨MN, E2, hJ2⟩ : ∃ D E, Dl.join (edl l2) (edl l3) = (D, E) := ⟨_, _, rfl⟩
    have HJ2 : Hid (Dl.join (edl l2) (edl l3) = (MN, E2)) := hJ2
    clear hJ2
    have hfin : ∀ w12 : World, Hid (Below w11.heap.size w11 w12) → True := fun _ _ => trivial
    clear hfin
    by_cases hc0 : CK = 0
    · have hm : m11 = l1 := HE11.out hc0
      go_wp2_with (first
        | (refine (HEq.out _ hb12.out).mono ?_; rintro e w13 ⟨q13, rfl, hq13, b13⟩; obtain rfl : q13 = true := hq13.2 hm; have HB12 : Hid (Below w11.heap.size w11 w13) := hb12.out.trans (b13.mono hb12.out.size); clear hq13 b13 hb12)
        | (refine (hck _ HB11.out).mono ?_; rintro e w12 ⟨rfl, b12⟩; have hb12 : Hid (Below w11.heap.size w11 w12) := b12; clear b12))
      have HX12 : Hid (Eds w13 (.slice a1 n1 c1) m1) := HX11.out.below HB12.out
      have HBn : Hid (Below w.heap.size w w13) := HB11.out.trans (HB12.out.mono HB11.out.size)
      clear HX11 HEq hck HE11 HB11
      have hq := djoin_say (X2.out.below HBn.out) (X3.out.below HBn.out) z2 z3 O2.out O3.out (HT.out.below HBn.out) HJ2.out
      go_wp2_with fail
      refine hq.mono ?_
      rintro e w14 ⟨a14, c14, m14, rfl, hr14, hm14, hk14, b14⟩
      have HB14 : Hid (Below w.heap.size w w14) := HBn.out.trans (b14.mono HBn.out.size)
      have HX14 : Hid (Eds w14 (.slice a1 n1 c1) m1) := HX12.out.below b14
      have hg14 : m14.length ≤ 200 := by rw [← edl_length, hm14]; exact join_few HJ2.out
      obtain ⟨n14, hn14⟩ : ∃ n, n = m14.length := ⟨_, rfl⟩
      have HN14 : Hid (n14 = m14.length) := hn14
      rw [← hn14] at hr14 hg14 ⊢
      have HR14 : Hid (Eds w14 (.slice a14 n14 c14) m14 ∧ edl m14 = MN ∧ ∀ x ∈ m14, x.Ok) := ⟨hr14, hm14, hk14⟩
      clear hq b14 hr14 hm14 hk14 HX12 HB12 HBn hn14
      by_cases e1 : E1 = 0
      case neg =>
        have hne : (E1 != 0) = true := by rw [bne_iff_ne]; exact e1
        go_wp2_with fail
        go_ret
        exact ⟨rfl, HB14.out⟩
      have hne : (E1 != 0) = false := by rw [e1]; rfl
      by_cases e2 : E2 = 0
      case neg =>
        have hne2 : (E2 != 0) = true := by rw [bne_iff_ne]; exact e2
        go_wp2_with fail
        go_ret
        exact ⟨rfl, HB14.out⟩
      have hne2 : (E2 != 0) = false := by rw [e2]; rfl
      obtain ⟨Q, E3, hJ3⟩ : ∃ D E, Dl.join LM (edl l3) = (D, E) := ⟨_, _, rfl⟩
      have HJ3 : Hid (Dl.join (edl m1) (edl l3) = (Q, E3)) := by show _ = _; rw [HR1.out.2.1]; exact hJ3
      have HJ4 : Hid (Dl.join (edl l1) (edl m14) = (Q, E3)) := by
        show _ = _
        rw [HR14.out.2.1, ← hJ3]
        have h1 := HJ1.out
        have h2 := HJ2.out
        rw [e1] at h1
        rw [e2] at h2
        exact (Dl.join_three h1 h2).symm
      have hq := djoin_say HX14.out (X3.out.below HB14.out) (by have := HN1.out; omega) z3 HR1.out.2.2 O3.out (HT.out.below HB14.out) HJ3.out
      clear hJ3 e1 e2
      go_wp2_with fail
      refine hq.mono ?_
      rintro e w15 ⟨a15, c15, m15, rfl, hr15, hm15, _, b15⟩
      have HB15 : Hid (Below w.heap.size w w15) := HB14.out.trans (b15.mono HB14.out.size)
      have HR15 : Hid (Eds w15 (.slice a15 m15.length c15) m15 ∧ edl m15 = Q) := ⟨hr15, hm15⟩
      have hg15 : m15.length ≤ 200 := by rw [← edl_length, hm15]; exact join_few HJ3.out
      have hX15 : Eds w15 (.slice a14 n14 c14) m14 := HR14.out.1.below b15
      have hq2 := djoin_say (X1.out.below HB15.out) hX15 z1 (by have := HN14.out; omega) O1.out HR14.out.2.2 (HT.out.below HB15.out) HJ4.out
      clear hq b15 hr15 hm15 hX15 HX14 HB14
      go_wp2_with fail
      refine hq2.mono ?_
      rintro e w16 ⟨a16, c16, m16, rfl, hr16, hm16, _, b16⟩
      have HB16 : Hid (Below w.heap.size w w16) := HB15.out.trans (b16.mono HB15.out.size)
      obtain rfl : m16 = m15 := edl_inj (hm16.trans HR15.out.2.symm)
      have heq := equal_eds (.slice a15 m16.length c15) (.slice a16 m16.length c16) m16 m16 w16 (HR15.out.1.below b16) hr16 (by omega)
      clear hq2 b16 hr16 hm16 HR15
      generalize m16.length = n16 at *
      go_wp2_with (refine heq.mono ?_; rintro e w17 ⟨q17, rfl, hq17, b17⟩; obtain rfl : q17 = true := hq17.2 (by first | exact trivial | rfl); have HB17 : Hid (Below w.heap.size w w17) := HB16.out.trans (b17.mono HB16.out.size); clear hq17 b17 heq)
      go_ret
      exact ⟨rfl, HB17.out⟩
    · have hne0 : (CK == 0) = false := by rw [beq_eq_false_iff_ne]; exact hc0
      go_wp2_with (refine (hck _ HB11.out).mono ?_; rintro e w12 ⟨rfl, b12⟩; have HB12 : Hid (Below w11.heap.size w11 w12) := b12; clear b12)
      have HX12 : Hid (Eds w12 (.slice a1 n1 c1) m1) := HX11.out.below HB12.out
      have HBn : Hid (Below w.heap.size w w12) := HB11.out.trans (HB12.out.mono HB11.out.size)
      clear HX11 HEq hck HE11 HB11
      have hq := djoin_say (X2.out.below HBn.out) (X3.out.below HBn.out) z2 z3 O2.out O3.out (HT.out.below HBn.out) HJ2.out
      go_wp2_with fail
      refine hq.mono ?_
      rintro e w14 ⟨a14, c14, m14, rfl, hr14, hm14, hk14, b14⟩
      have HB14 : Hid (Below w.heap.size w w14) := HBn.out.trans (b14.mono HBn.out.size)
      have HX14 : Hid (Eds w14 (.slice a1 n1 c1) m1) := HX12.out.below b14
      have hg14 : m14.length ≤ 200 := by rw [← edl_length, hm14]; exact join_few HJ2.out
      obtain ⟨n14, hn14⟩ : ∃ n, n = m14.length := ⟨_, rfl⟩
      have HN14 : Hid (n14 = m14.length) := hn14
      rw [← hn14] at hr14 hg14 ⊢
      have HR14 : Hid (Eds w14 (.slice a14 n14 c14) m14 ∧ edl m14 = MN ∧ ∀ x ∈ m14, x.Ok) := ⟨hr14, hm14, hk14⟩
      clear hq b14 hr14 hm14 hk14 HX12 HB12 HBn hn14
      by_cases e1 : E1 = 0
      case neg =>
        have hne : (E1 != 0) = true := by rw [bne_iff_ne]; exact e1
        go_wp2_with fail
        go_ret
        exact ⟨rfl, HB14.out⟩
      have hne : (E1 != 0) = false := by rw [e1]; rfl
      by_cases e2 : E2 = 0
      case neg =>
        have hne2 : (E2 != 0) = true := by rw [bne_iff_ne]; exact e2
        go_wp2_with fail
        go_ret
        exact ⟨rfl, HB14.out⟩
      have hne2 : (E2 != 0) = false := by rw [e2]; rfl
      obtain ⟨Q, E3, hJ3⟩ : ∃ D E, Dl.join LM (edl l3) = (D, E) := ⟨_, _, rfl⟩
      have HJ3 : Hid (Dl.join (edl m1) (edl l3) = (Q, E3)) := by show _ = _; rw [HR1.out.2.1]; exact hJ3
      have HJ4 : Hid (Dl.join (edl l1) (edl m14) = (Q, E3)) := by
        show _ = _
        rw [HR14.out.2.1, ← hJ3]
        have h1 := HJ1.out
        have h2 := HJ2.out
        rw [e1] at h1
        rw [e2] at h2
        exact (Dl.join_three h1 h2).symm
      have hq := djoin_say HX14.out (X3.out.below HB14.out) (by have := HN1.out; omega) z3 HR1.out.2.2 O3.out (HT.out.below HB14.out) HJ3.out
      clear hJ3 e1 e2
      go_wp2_with fail
      refine hq.mono ?_
      rintro e w15 ⟨a15, c15, m15, rfl, hr15, hm15, _, b15⟩
      have HB15 : Hid (Below w.heap.size w w15) := HB14.out.trans (b15.mono HB14.out.size)
      have HR15 : Hid (Eds w15 (.slice a15 m15.length c15) m15 ∧ edl m15 = Q) := ⟨hr15, hm15⟩
      have hg15 : m15.length ≤ 200 := by rw [← edl_length, hm15]; exact join_few HJ3.out
      have hX15 : Eds w15 (.slice a14 n14 c14) m14 := HR14.out.1.below b15
      have hq2 := djoin_say (X1.out.below HB15.out) hX15 z1 (by have := HN14.out; omega) O1.out HR14.out.2.2 (HT.out.below HB15.out) HJ4.out
      clear hq b15 hr15 hm15 hX15 HX14 HB14
      go_wp2_with fail
      refine hq2.mono ?_
      rintro e w16 ⟨a16, c16, m16, rfl, hr16, hm16, _, b16⟩
      have HB16 : Hid (Below w.heap.size w w16) := HB15.out.trans (b16.mono HB15.out.size)
      obtain rfl : m16 = m15 := edl_inj (hm16.trans HR15.out.2.symm)
      have heq := equal_eds (.slice a15 m16.length c15) (.slice a16 m16.length c16) m16 m16 w16 (HR15.out.1.below b16) hr16 (by omega)
      clear hq2 b16 hr16 hm16 HR15
      generalize m16.length = n16 at *
      go_wp2_with (refine heq.mono ?_; rintro e w17 ⟨q17, rfl, hq17, b17⟩; obtain rfl : q17 = true := hq17.2 (by first | exact trivial | rfl); have HB17 : Hid (Below w.heap.size w w17) := HB16.out.trans (b17.mono HB16.out.size); clear hq17 b17 heq)
      go_ret
      exact ⟨rfl, HB17.out⟩
  have hbn : (Eb == 0) = true := by rw [hEb]; rfl
  by_cases hE1 : E1 = 0
  case neg =>
    have hen : (E1 == 0) = false := by rw [beq_eq_false_iff_ne]; exact hE1
    have HBk : Hid (Below w.heap.size w w3) := HB3.out
    have HLM := HX1
    obtain ⟨wk, rfl⟩ : ∃ wk, wk = w3 := ⟨_, rfl⟩
    have hq := djoin_say (X1.out.below HBk.out) (X1.out.below HBk.out) z1 z1 O1.out O1.out (HT.out.below HBk.out) (D := (Dl.join (edl l1) (edl l1)).1) (E := Dl.check (edl l1)) (Prod.ext rfl (Dl.join_twice (edl l1)).1)
    have HLk : Hid (Eds wk (.slice a1 n1 c1) m1) := HLM
    clear HLM
    go_wp2_with fail
    refine hq.mono ?_
    rintro e w11 ⟨a11, c11, m11, rfl, hr11, hm11, hk11, b11⟩
    have HB11 : Hid (Below w.heap.size w w11) := HBk.out.trans (b11.mono HBk.out.size)
    have HX11 : Hid (Eds w11 (.slice a1 n1 c1) m1) := HLk.out.below b11
    have hg11 : m11.length ≤ 200 := by rw [← edl_length, hm11]; exact join_few (show Dl.join (edl l1) (edl l1) = ((Dl.join (edl l1) (edl l1)).1, (Dl.join (edl l1) (edl l1)).2) from rfl)
    have HE11 : Hid (Dl.check (edl l1) = 0 → m11 = l1) := fun e => edl_inj (hm11.trans ((Dl.join_twice (edl l1)).2 e))
    have HR11 : Hid (Eds w11 (.slice a11 m11.length c11) m11) := hr11
    have hck := fun (W : World) (hW : Below w.heap.size w W) => dcheck_any v1 l1 W (X1.out.below hW) z1 O1.out (HT.out.below hW)
    have HEq : Hid (∀ W, Below w11.heap.size w11 W → Calls Tryd.prog 10 #[.slice a11 m11.length c11, v1] W fun e w' => ∃ b : Bool, e = .returned (.bool b) ∧ (b = true ↔ m11 = l1) ∧ Below W.heap.size W w') := fun W hW => equal_eds _ v1 m11 l1 W (HR11.out.below hW) (X1.out.below (HB11.out.trans (hW.mono HB11.out.size))) (by omega)
    generalize m11.length = n11 at *
    obtain ⟨CK, hCK⟩ : ∃ CK, CK = Dl.check (edl l1) := ⟨_, rfl⟩
    rw [← hCK] at hck HE11 ⊢
    clear hq b11 hr11 hm11 hk11 HLk HBk hCK HR11
    obtain ⟨MN, E2, hJ2⟩ : ∃ D E, Dl.join (edl l2) (edl l3) = (D, E) := ⟨_, _, rfl⟩
    have HJ2 : Hid (Dl.join (edl l2) (edl l3) = (MN, E2)) := hJ2
    clear hJ2
    have hfin : ∀ w12 : World, Hid (Below w11.heap.size w11 w12) → True := fun _ _ => trivial
    clear hfin
    by_cases hc0 : CK = 0
    · have hm : m11 = l1 := HE11.out hc0
      go_wp2_with (first
        | (refine (HEq.out _ hb12.out).mono ?_; rintro e w13 ⟨q13, rfl, hq13, b13⟩; obtain rfl : q13 = true := hq13.2 hm; have HB12 : Hid (Below w11.heap.size w11 w13) := hb12.out.trans (b13.mono hb12.out.size); clear hq13 b13 hb12)
        | (refine (hck _ HB11.out).mono ?_; rintro e w12 ⟨rfl, b12⟩; have hb12 : Hid (Below w11.heap.size w11 w12) := b12; clear b12))
      have HX12 : Hid (Eds w13 (.slice a1 n1 c1) m1) := HX11.out.below HB12.out
      have HBn : Hid (Below w.heap.size w w13) := HB11.out.trans (HB12.out.mono HB11.out.size)
      clear HX11 HEq hck HE11 HB11
      have hq := djoin_say (X2.out.below HBn.out) (X3.out.below HBn.out) z2 z3 O2.out O3.out (HT.out.below HBn.out) HJ2.out
      go_wp2_with fail
      refine hq.mono ?_
      rintro e w14 ⟨a14, c14, m14, rfl, hr14, hm14, hk14, b14⟩
      have HB14 : Hid (Below w.heap.size w w14) := HBn.out.trans (b14.mono HBn.out.size)
      have HX14 : Hid (Eds w14 (.slice a1 n1 c1) m1) := HX12.out.below b14
      have hg14 : m14.length ≤ 200 := by rw [← edl_length, hm14]; exact join_few HJ2.out
      obtain ⟨n14, hn14⟩ : ∃ n, n = m14.length := ⟨_, rfl⟩
      have HN14 : Hid (n14 = m14.length) := hn14
      rw [← hn14] at hr14 hg14 ⊢
      have HR14 : Hid (Eds w14 (.slice a14 n14 c14) m14 ∧ edl m14 = MN ∧ ∀ x ∈ m14, x.Ok) := ⟨hr14, hm14, hk14⟩
      clear hq b14 hr14 hm14 hk14 HX12 HB12 HBn hn14
      have hne : (E1 != 0) = true := by rw [bne_iff_ne]; exact hE1
      go_wp2_with fail
      go_ret
      exact ⟨rfl, HB14.out⟩
    · have hne0 : (CK == 0) = false := by rw [beq_eq_false_iff_ne]; exact hc0
      go_wp2_with (refine (hck _ HB11.out).mono ?_; rintro e w12 ⟨rfl, b12⟩; have HB12 : Hid (Below w11.heap.size w11 w12) := b12; clear b12)
      have HX12 : Hid (Eds w12 (.slice a1 n1 c1) m1) := HX11.out.below HB12.out
      have HBn : Hid (Below w.heap.size w w12) := HB11.out.trans (HB12.out.mono HB11.out.size)
      clear HX11 HEq hck HE11 HB11
      have hq := djoin_say (X2.out.below HBn.out) (X3.out.below HBn.out) z2 z3 O2.out O3.out (HT.out.below HBn.out) HJ2.out
      go_wp2_with fail
      refine hq.mono ?_
      rintro e w14 ⟨a14, c14, m14, rfl, hr14, hm14, hk14, b14⟩
      have HB14 : Hid (Below w.heap.size w w14) := HBn.out.trans (b14.mono HBn.out.size)
      have HX14 : Hid (Eds w14 (.slice a1 n1 c1) m1) := HX12.out.below b14
      have hg14 : m14.length ≤ 200 := by rw [← edl_length, hm14]; exact join_few HJ2.out
      obtain ⟨n14, hn14⟩ : ∃ n, n = m14.length := ⟨_, rfl⟩
      have HN14 : Hid (n14 = m14.length) := hn14
      rw [← hn14] at hr14 hg14 ⊢
      have HR14 : Hid (Eds w14 (.slice a14 n14 c14) m14 ∧ edl m14 = MN ∧ ∀ x ∈ m14, x.Ok) := ⟨hr14, hm14, hk14⟩
      clear hq b14 hr14 hm14 hk14 HX12 HB12 HBn hn14
      have hne : (E1 != 0) = true := by rw [bne_iff_ne]; exact hE1
      go_wp2_with fail
      go_ret
      exact ⟨rfl, HB14.out⟩
  have hen : (E1 == 0) = true := by rw [hE1]; rfl
  obtain ⟨CC, Ec, hA2⟩ : ∃ D E, Dl.apply (its m3) (edl l2) = (D, E) := ⟨_, _, rfl⟩
  have HA2 : Hid (Dl.apply (its m3) (edl l2) = (CC, Ec)) := hA2
  have hq := applied_any HR3.out.1 (X2.out.below HB3.out) (by have := HN3.out; omega) z2 HR3.out.2.2 O2.out (HT.out.below HB3.out) (D := CC) (E := Ec) hA2
  clear hA2
  go_wp2_with fail
  refine hq.mono ?_
  rintro e w5 ⟨a5, c5, m5, rfl, hr5, hm5, _, b5⟩
  have HB5 : Hid (Below w.heap.size w w5) := HB3.out.trans (b5.mono HB3.out.size)
  have HX5 : Hid (Eds w5 (.slice a1 n1 c1) m1) := HX1.out.below b5
  have HR5 : Hid (Ims w5 (.slice a5 m5.length c5) m5 ∧ its m5 = CC) := ⟨Rx.of_own imC_length hr5, hm5⟩
  have hg5 : m5.length ≤ 100 := by rw [← its_length, hm5]; exact apply_few HA2.out
  clear hq b5 hr5 hm5 HX1 HB3
  by_cases hEc : Ec = 0
  case neg =>
    have hcn : (Ec == 0) = false := by rw [beq_eq_false_iff_ne]; exact hEc
    generalize m5.length = n5 at *
    have HBk : Hid (Below w.heap.size w w5) := HB5.out
    have HLM := HX5
    obtain ⟨wk, rfl⟩ : ∃ wk, wk = w5 := ⟨_, rfl⟩
    have hq := djoin_say (X1.out.below HBk.out) (X1.out.below HBk.out) z1 z1 O1.out O1.out (HT.out.below HBk.out) (D := (Dl.join (edl l1) (edl l1)).1) (E := Dl.check (edl l1)) (Prod.ext rfl (Dl.join_twice (edl l1)).1)
    have HLk : Hid (Eds wk (.slice a1 n1 c1) m1) := HLM
    clear HLM
    go_wp2_with fail
    refine hq.mono ?_
    rintro e w11 ⟨a11, c11, m11, rfl, hr11, hm11, hk11, b11⟩
    have HB11 : Hid (Below w.heap.size w w11) := HBk.out.trans (b11.mono HBk.out.size)
    have HX11 : Hid (Eds w11 (.slice a1 n1 c1) m1) := HLk.out.below b11
    have hg11 : m11.length ≤ 200 := by rw [← edl_length, hm11]; exact join_few (show Dl.join (edl l1) (edl l1) = ((Dl.join (edl l1) (edl l1)).1, (Dl.join (edl l1) (edl l1)).2) from rfl)
    have HE11 : Hid (Dl.check (edl l1) = 0 → m11 = l1) := fun e => edl_inj (hm11.trans ((Dl.join_twice (edl l1)).2 e))
    have HR11 : Hid (Eds w11 (.slice a11 m11.length c11) m11) := hr11
    have hck := fun (W : World) (hW : Below w.heap.size w W) => dcheck_any v1 l1 W (X1.out.below hW) z1 O1.out (HT.out.below hW)
    have HEq : Hid (∀ W, Below w11.heap.size w11 W → Calls Tryd.prog 10 #[.slice a11 m11.length c11, v1] W fun e w' => ∃ b : Bool, e = .returned (.bool b) ∧ (b = true ↔ m11 = l1) ∧ Below W.heap.size W w') := fun W hW => equal_eds _ v1 m11 l1 W (HR11.out.below hW) (X1.out.below (HB11.out.trans (hW.mono HB11.out.size))) (by omega)
    generalize m11.length = n11 at *
    obtain ⟨CK, hCK⟩ : ∃ CK, CK = Dl.check (edl l1) := ⟨_, rfl⟩
    rw [← hCK] at hck HE11 ⊢
    clear hq b11 hr11 hm11 hk11 HLk HBk hCK HR11
    obtain ⟨MN, E2, hJ2⟩ : ∃ D E, Dl.join (edl l2) (edl l3) = (D, E) := ⟨_, _, rfl⟩
    have HJ2 : Hid (Dl.join (edl l2) (edl l3) = (MN, E2)) := hJ2
    clear hJ2
    have hfin : ∀ w12 : World, Hid (Below w11.heap.size w11 w12) → True := fun _ _ => trivial
    clear hfin
    by_cases hc0 : CK = 0
    · have hm : m11 = l1 := HE11.out hc0
      go_wp2_with (first
        | (refine (HEq.out _ hb12.out).mono ?_; rintro e w13 ⟨q13, rfl, hq13, b13⟩; obtain rfl : q13 = true := hq13.2 hm; have HB12 : Hid (Below w11.heap.size w11 w13) := hb12.out.trans (b13.mono hb12.out.size); clear hq13 b13 hb12)
        | (refine (hck _ HB11.out).mono ?_; rintro e w12 ⟨rfl, b12⟩; have hb12 : Hid (Below w11.heap.size w11 w12) := b12; clear b12))
      have HX12 : Hid (Eds w13 (.slice a1 n1 c1) m1) := HX11.out.below HB12.out
      have HBn : Hid (Below w.heap.size w w13) := HB11.out.trans (HB12.out.mono HB11.out.size)
      clear HX11 HEq hck HE11 HB11
      have hq := djoin_say (X2.out.below HBn.out) (X3.out.below HBn.out) z2 z3 O2.out O3.out (HT.out.below HBn.out) HJ2.out
      go_wp2_with fail
      refine hq.mono ?_
      rintro e w14 ⟨a14, c14, m14, rfl, hr14, hm14, hk14, b14⟩
      have HB14 : Hid (Below w.heap.size w w14) := HBn.out.trans (b14.mono HBn.out.size)
      have HX14 : Hid (Eds w14 (.slice a1 n1 c1) m1) := HX12.out.below b14
      have hg14 : m14.length ≤ 200 := by rw [← edl_length, hm14]; exact join_few HJ2.out
      obtain ⟨n14, hn14⟩ : ∃ n, n = m14.length := ⟨_, rfl⟩
      have HN14 : Hid (n14 = m14.length) := hn14
      rw [← hn14] at hr14 hg14 ⊢
      have HR14 : Hid (Eds w14 (.slice a14 n14 c14) m14 ∧ edl m14 = MN ∧ ∀ x ∈ m14, x.Ok) := ⟨hr14, hm14, hk14⟩
      clear hq b14 hr14 hm14 hk14 HX12 HB12 HBn hn14
      have e1 := hE1
      by_cases e2 : E2 = 0
      case neg =>
        have hne2 : (E2 != 0) = true := by rw [bne_iff_ne]; exact e2
        go_wp2_with fail
        go_ret
        exact ⟨rfl, HB14.out⟩
      have hne2 : (E2 != 0) = false := by rw [e2]; rfl
      obtain ⟨Q, E3, hJ3⟩ : ∃ D E, Dl.join LM (edl l3) = (D, E) := ⟨_, _, rfl⟩
      have HJ3 : Hid (Dl.join (edl m1) (edl l3) = (Q, E3)) := by show _ = _; rw [HR1.out.2.1]; exact hJ3
      have HJ4 : Hid (Dl.join (edl l1) (edl m14) = (Q, E3)) := by
        show _ = _
        rw [HR14.out.2.1, ← hJ3]
        have h1 := HJ1.out
        have h2 := HJ2.out
        rw [e1] at h1
        rw [e2] at h2
        exact (Dl.join_three h1 h2).symm
      have hq := djoin_say HX14.out (X3.out.below HB14.out) (by have := HN1.out; omega) z3 HR1.out.2.2 O3.out (HT.out.below HB14.out) HJ3.out
      clear hJ3 e1 e2
      go_wp2_with fail
      refine hq.mono ?_
      rintro e w15 ⟨a15, c15, m15, rfl, hr15, hm15, _, b15⟩
      have HB15 : Hid (Below w.heap.size w w15) := HB14.out.trans (b15.mono HB14.out.size)
      have HR15 : Hid (Eds w15 (.slice a15 m15.length c15) m15 ∧ edl m15 = Q) := ⟨hr15, hm15⟩
      have hg15 : m15.length ≤ 200 := by rw [← edl_length, hm15]; exact join_few HJ3.out
      have hX15 : Eds w15 (.slice a14 n14 c14) m14 := HR14.out.1.below b15
      have hq2 := djoin_say (X1.out.below HB15.out) hX15 z1 (by have := HN14.out; omega) O1.out HR14.out.2.2 (HT.out.below HB15.out) HJ4.out
      clear hq b15 hr15 hm15 hX15 HX14 HB14
      go_wp2_with fail
      refine hq2.mono ?_
      rintro e w16 ⟨a16, c16, m16, rfl, hr16, hm16, _, b16⟩
      have HB16 : Hid (Below w.heap.size w w16) := HB15.out.trans (b16.mono HB15.out.size)
      obtain rfl : m16 = m15 := edl_inj (hm16.trans HR15.out.2.symm)
      have heq := equal_eds (.slice a15 m16.length c15) (.slice a16 m16.length c16) m16 m16 w16 (HR15.out.1.below b16) hr16 (by omega)
      clear hq2 b16 hr16 hm16 HR15
      generalize m16.length = n16 at *
      go_wp2_with (refine heq.mono ?_; rintro e w17 ⟨q17, rfl, hq17, b17⟩; obtain rfl : q17 = true := hq17.2 (by first | exact trivial | rfl); have HB17 : Hid (Below w.heap.size w w17) := HB16.out.trans (b17.mono HB16.out.size); clear hq17 b17 heq)
      go_ret
      exact ⟨rfl, HB17.out⟩
    · have hne0 : (CK == 0) = false := by rw [beq_eq_false_iff_ne]; exact hc0
      go_wp2_with (refine (hck _ HB11.out).mono ?_; rintro e w12 ⟨rfl, b12⟩; have HB12 : Hid (Below w11.heap.size w11 w12) := b12; clear b12)
      have HX12 : Hid (Eds w12 (.slice a1 n1 c1) m1) := HX11.out.below HB12.out
      have HBn : Hid (Below w.heap.size w w12) := HB11.out.trans (HB12.out.mono HB11.out.size)
      clear HX11 HEq hck HE11 HB11
      have hq := djoin_say (X2.out.below HBn.out) (X3.out.below HBn.out) z2 z3 O2.out O3.out (HT.out.below HBn.out) HJ2.out
      go_wp2_with fail
      refine hq.mono ?_
      rintro e w14 ⟨a14, c14, m14, rfl, hr14, hm14, hk14, b14⟩
      have HB14 : Hid (Below w.heap.size w w14) := HBn.out.trans (b14.mono HBn.out.size)
      have HX14 : Hid (Eds w14 (.slice a1 n1 c1) m1) := HX12.out.below b14
      have hg14 : m14.length ≤ 200 := by rw [← edl_length, hm14]; exact join_few HJ2.out
      obtain ⟨n14, hn14⟩ : ∃ n, n = m14.length := ⟨_, rfl⟩
      have HN14 : Hid (n14 = m14.length) := hn14
      rw [← hn14] at hr14 hg14 ⊢
      have HR14 : Hid (Eds w14 (.slice a14 n14 c14) m14 ∧ edl m14 = MN ∧ ∀ x ∈ m14, x.Ok) := ⟨hr14, hm14, hk14⟩
      clear hq b14 hr14 hm14 hk14 HX12 HB12 HBn hn14
      have e1 := hE1
      by_cases e2 : E2 = 0
      case neg =>
        have hne2 : (E2 != 0) = true := by rw [bne_iff_ne]; exact e2
        go_wp2_with fail
        go_ret
        exact ⟨rfl, HB14.out⟩
      have hne2 : (E2 != 0) = false := by rw [e2]; rfl
      obtain ⟨Q, E3, hJ3⟩ : ∃ D E, Dl.join LM (edl l3) = (D, E) := ⟨_, _, rfl⟩
      have HJ3 : Hid (Dl.join (edl m1) (edl l3) = (Q, E3)) := by show _ = _; rw [HR1.out.2.1]; exact hJ3
      have HJ4 : Hid (Dl.join (edl l1) (edl m14) = (Q, E3)) := by
        show _ = _
        rw [HR14.out.2.1, ← hJ3]
        have h1 := HJ1.out
        have h2 := HJ2.out
        rw [e1] at h1
        rw [e2] at h2
        exact (Dl.join_three h1 h2).symm
      have hq := djoin_say HX14.out (X3.out.below HB14.out) (by have := HN1.out; omega) z3 HR1.out.2.2 O3.out (HT.out.below HB14.out) HJ3.out
      clear hJ3 e1 e2
      go_wp2_with fail
      refine hq.mono ?_
      rintro e w15 ⟨a15, c15, m15, rfl, hr15, hm15, _, b15⟩
      have HB15 : Hid (Below w.heap.size w w15) := HB14.out.trans (b15.mono HB14.out.size)
      have HR15 : Hid (Eds w15 (.slice a15 m15.length c15) m15 ∧ edl m15 = Q) := ⟨hr15, hm15⟩
      have hg15 : m15.length ≤ 200 := by rw [← edl_length, hm15]; exact join_few HJ3.out
      have hX15 : Eds w15 (.slice a14 n14 c14) m14 := HR14.out.1.below b15
      have hq2 := djoin_say (X1.out.below HB15.out) hX15 z1 (by have := HN14.out; omega) O1.out HR14.out.2.2 (HT.out.below HB15.out) HJ4.out
      clear hq b15 hr15 hm15 hX15 HX14 HB14
      go_wp2_with fail
      refine hq2.mono ?_
      rintro e w16 ⟨a16, c16, m16, rfl, hr16, hm16, _, b16⟩
      have HB16 : Hid (Below w.heap.size w w16) := HB15.out.trans (b16.mono HB15.out.size)
      obtain rfl : m16 = m15 := edl_inj (hm16.trans HR15.out.2.symm)
      have heq := equal_eds (.slice a15 m16.length c15) (.slice a16 m16.length c16) m16 m16 w16 (HR15.out.1.below b16) hr16 (by omega)
      clear hq2 b16 hr16 hm16 HR15
      generalize m16.length = n16 at *
      go_wp2_with (refine heq.mono ?_; rintro e w17 ⟨q17, rfl, hq17, b17⟩; obtain rfl : q17 = true := hq17.2 (by first | exact trivial | rfl); have HB17 : Hid (Below w.heap.size w w17) := HB16.out.trans (b17.mono HB16.out.size); clear hq17 b17 heq)
      go_ret
      exact ⟨rfl, HB17.out⟩
  have hcn : (Ec == 0) = true := by rw [hEc]; rfl
  have HA3 : Hid (Dl.apply (its l0) (edl m1) = (CC, 0)) := by
    have h1 := HJ1.out
    have h2 := HA1.out
    have h3 := HA2.out
    rw [hE1] at h1
    rw [hEb] at h2
    rw [hEc, HR3.out.2.1] at h3
    show _ = _
    rw [HR1.out.2.1]
    exact Dl.both h1 h2 h3
  have hq := applied_any (X0.out.below HB5.out) HX5.out z0 (by have := HN1.out; omega) O0.out HR1.out.2.2 (HT.out.below HB5.out) (D := CC) (E := 0) HA3.out
  go_wp2_with fail
  refine hq.mono ?_
  rintro e w6 ⟨a6, c6, m6, rfl, hr6, hm6, _, b6⟩
  have HB6 : Hid (Below w.heap.size w w6) := HB5.out.trans (b6.mono HB5.out.size)
  have HX6 : Hid (Eds w6 (.slice a1 n1 c1) m1) := HX5.out.below b6
  obtain rfl : m6 = m5 := its_inj (hm6.trans HR5.out.2.symm)
  have hy := equal_items (.slice a5 m6.length c5) (.slice a6 m6.length c6) m6 m6 w6 (HR5.out.1.below b6) (Rx.of_own imC_length hr6) (by omega)
  clear hq b6 hr6 hm6 HX5 HB5 HR5
  generalize m6.length = n6 at *
  go_wp2_with fail
  refine hy.mono ?_
  rintro e w7 ⟨q7, rfl, hq7, b7⟩
  obtain rfl : q7 = true := hq7.2 (by first | exact trivial | rfl)
  have HBk : Hid (Below w.heap.size w w7) := HB6.out.trans (b7.mono HB6.out.size)
  have HLM : Hid (Eds w7 (.slice a1 n1 c1) m1) := HX6.out.below b7
  clear hq7 b7 hy HX6 HB6
  obtain ⟨wk, rfl⟩ : ∃ wk, wk = w7 := ⟨_, rfl⟩
  have hq := djoin_say (X1.out.below HBk.out) (X1.out.below HBk.out) z1 z1 O1.out O1.out (HT.out.below HBk.out) (D := (Dl.join (edl l1) (edl l1)).1) (E := Dl.check (edl l1)) (Prod.ext rfl (Dl.join_twice (edl l1)).1)
  have HLk : Hid (Eds wk (.slice a1 n1 c1) m1) := HLM
  clear HLM
  go_wp2_with fail
  refine hq.mono ?_
  rintro e w11 ⟨a11, c11, m11, rfl, hr11, hm11, hk11, b11⟩
  have HB11 : Hid (Below w.heap.size w w11) := HBk.out.trans (b11.mono HBk.out.size)
  have HX11 : Hid (Eds w11 (.slice a1 n1 c1) m1) := HLk.out.below b11
  have hg11 : m11.length ≤ 200 := by rw [← edl_length, hm11]; exact join_few (show Dl.join (edl l1) (edl l1) = ((Dl.join (edl l1) (edl l1)).1, (Dl.join (edl l1) (edl l1)).2) from rfl)
  have HE11 : Hid (Dl.check (edl l1) = 0 → m11 = l1) := fun e => edl_inj (hm11.trans ((Dl.join_twice (edl l1)).2 e))
  have HR11 : Hid (Eds w11 (.slice a11 m11.length c11) m11) := hr11
  have hck := fun (W : World) (hW : Below w.heap.size w W) => dcheck_any v1 l1 W (X1.out.below hW) z1 O1.out (HT.out.below hW)
  have HEq : Hid (∀ W, Below w11.heap.size w11 W → Calls Tryd.prog 10 #[.slice a11 m11.length c11, v1] W fun e w' => ∃ b : Bool, e = .returned (.bool b) ∧ (b = true ↔ m11 = l1) ∧ Below W.heap.size W w') := fun W hW => equal_eds _ v1 m11 l1 W (HR11.out.below hW) (X1.out.below (HB11.out.trans (hW.mono HB11.out.size))) (by omega)
  generalize m11.length = n11 at *
  obtain ⟨CK, hCK⟩ : ∃ CK, CK = Dl.check (edl l1) := ⟨_, rfl⟩
  rw [← hCK] at hck HE11 ⊢
  clear hq b11 hr11 hm11 hk11 HLk HBk hCK HR11
  obtain ⟨MN, E2, hJ2⟩ : ∃ D E, Dl.join (edl l2) (edl l3) = (D, E) := ⟨_, _, rfl⟩
  have HJ2 : Hid (Dl.join (edl l2) (edl l3) = (MN, E2)) := hJ2
  clear hJ2
  have hfin : ∀ w12 : World, Hid (Below w11.heap.size w11 w12) → True := fun _ _ => trivial
  clear hfin
  by_cases hc0 : CK = 0
  · have hm : m11 = l1 := HE11.out hc0
    go_wp2_with (first
      | (refine (HEq.out _ hb12.out).mono ?_; rintro e w13 ⟨q13, rfl, hq13, b13⟩; obtain rfl : q13 = true := hq13.2 hm; have HB12 : Hid (Below w11.heap.size w11 w13) := hb12.out.trans (b13.mono hb12.out.size); clear hq13 b13 hb12)
      | (refine (hck _ HB11.out).mono ?_; rintro e w12 ⟨rfl, b12⟩; have hb12 : Hid (Below w11.heap.size w11 w12) := b12; clear b12))
    have HX12 : Hid (Eds w13 (.slice a1 n1 c1) m1) := HX11.out.below HB12.out
    have HBn : Hid (Below w.heap.size w w13) := HB11.out.trans (HB12.out.mono HB11.out.size)
    clear HX11 HEq hck HE11 HB11
    have hq := djoin_say (X2.out.below HBn.out) (X3.out.below HBn.out) z2 z3 O2.out O3.out (HT.out.below HBn.out) HJ2.out
    go_wp2_with fail
    refine hq.mono ?_
    rintro e w14 ⟨a14, c14, m14, rfl, hr14, hm14, hk14, b14⟩
    have HB14 : Hid (Below w.heap.size w w14) := HBn.out.trans (b14.mono HBn.out.size)
    have HX14 : Hid (Eds w14 (.slice a1 n1 c1) m1) := HX12.out.below b14
    have hg14 : m14.length ≤ 200 := by rw [← edl_length, hm14]; exact join_few HJ2.out
    obtain ⟨n14, hn14⟩ : ∃ n, n = m14.length := ⟨_, rfl⟩
    have HN14 : Hid (n14 = m14.length) := hn14
    rw [← hn14] at hr14 hg14 ⊢
    have HR14 : Hid (Eds w14 (.slice a14 n14 c14) m14 ∧ edl m14 = MN ∧ ∀ x ∈ m14, x.Ok) := ⟨hr14, hm14, hk14⟩
    clear hq b14 hr14 hm14 hk14 HX12 HB12 HBn hn14
    have e1 := hE1
    by_cases e2 : E2 = 0
    case neg =>
      have hne2 : (E2 != 0) = true := by rw [bne_iff_ne]; exact e2
      go_wp2_with fail
      go_ret
      exact ⟨rfl, HB14.out⟩
    have hne2 : (E2 != 0) = false := by rw [e2]; rfl
    obtain ⟨Q, E3, hJ3⟩ : ∃ D E, Dl.join LM (edl l3) = (D, E) := ⟨_, _, rfl⟩
    have HJ3 : Hid (Dl.join (edl m1) (edl l3) = (Q, E3)) := by show _ = _; rw [HR1.out.2.1]; exact hJ3
    have HJ4 : Hid (Dl.join (edl l1) (edl m14) = (Q, E3)) := by
      show _ = _
      rw [HR14.out.2.1, ← hJ3]
      have h1 := HJ1.out
      have h2 := HJ2.out
      rw [e1] at h1
      rw [e2] at h2
      exact (Dl.join_three h1 h2).symm
    have hq := djoin_say HX14.out (X3.out.below HB14.out) (by have := HN1.out; omega) z3 HR1.out.2.2 O3.out (HT.out.below HB14.out) HJ3.out
    clear hJ3 e1 e2
    go_wp2_with fail
    refine hq.mono ?_
    rintro e w15 ⟨a15, c15, m15, rfl, hr15, hm15, _, b15⟩
    have HB15 : Hid (Below w.heap.size w w15) := HB14.out.trans (b15.mono HB14.out.size)
    have HR15 : Hid (Eds w15 (.slice a15 m15.length c15) m15 ∧ edl m15 = Q) := ⟨hr15, hm15⟩
    have hg15 : m15.length ≤ 200 := by rw [← edl_length, hm15]; exact join_few HJ3.out
    have hX15 : Eds w15 (.slice a14 n14 c14) m14 := HR14.out.1.below b15
    have hq2 := djoin_say (X1.out.below HB15.out) hX15 z1 (by have := HN14.out; omega) O1.out HR14.out.2.2 (HT.out.below HB15.out) HJ4.out
    clear hq b15 hr15 hm15 hX15 HX14 HB14
    go_wp2_with fail
    refine hq2.mono ?_
    rintro e w16 ⟨a16, c16, m16, rfl, hr16, hm16, _, b16⟩
    have HB16 : Hid (Below w.heap.size w w16) := HB15.out.trans (b16.mono HB15.out.size)
    obtain rfl : m16 = m15 := edl_inj (hm16.trans HR15.out.2.symm)
    have heq := equal_eds (.slice a15 m16.length c15) (.slice a16 m16.length c16) m16 m16 w16 (HR15.out.1.below b16) hr16 (by omega)
    clear hq2 b16 hr16 hm16 HR15
    generalize m16.length = n16 at *
    go_wp2_with (refine heq.mono ?_; rintro e w17 ⟨q17, rfl, hq17, b17⟩; obtain rfl : q17 = true := hq17.2 (by first | exact trivial | rfl); have HB17 : Hid (Below w.heap.size w w17) := HB16.out.trans (b17.mono HB16.out.size); clear hq17 b17 heq)
    go_ret
    exact ⟨rfl, HB17.out⟩
  · have hne0 : (CK == 0) = false := by rw [beq_eq_false_iff_ne]; exact hc0
    go_wp2_with (refine (hck _ HB11.out).mono ?_; rintro e w12 ⟨rfl, b12⟩; have HB12 : Hid (Below w11.heap.size w11 w12) := b12; clear b12)
    have HX12 : Hid (Eds w12 (.slice a1 n1 c1) m1) := HX11.out.below HB12.out
    have HBn : Hid (Below w.heap.size w w12) := HB11.out.trans (HB12.out.mono HB11.out.size)
    clear HX11 HEq hck HE11 HB11
    have hq := djoin_say (X2.out.below HBn.out) (X3.out.below HBn.out) z2 z3 O2.out O3.out (HT.out.below HBn.out) HJ2.out
    go_wp2_with fail
    refine hq.mono ?_
    rintro e w14 ⟨a14, c14, m14, rfl, hr14, hm14, hk14, b14⟩
    have HB14 : Hid (Below w.heap.size w w14) := HBn.out.trans (b14.mono HBn.out.size)
    have HX14 : Hid (Eds w14 (.slice a1 n1 c1) m1) := HX12.out.below b14
    have hg14 : m14.length ≤ 200 := by rw [← edl_length, hm14]; exact join_few HJ2.out
    obtain ⟨n14, hn14⟩ : ∃ n, n = m14.length := ⟨_, rfl⟩
    have HN14 : Hid (n14 = m14.length) := hn14
    rw [← hn14] at hr14 hg14 ⊢
    have HR14 : Hid (Eds w14 (.slice a14 n14 c14) m14 ∧ edl m14 = MN ∧ ∀ x ∈ m14, x.Ok) := ⟨hr14, hm14, hk14⟩
    clear hq b14 hr14 hm14 hk14 HX12 HB12 HBn hn14
    have e1 := hE1
    by_cases e2 : E2 = 0
    case neg =>
      have hne2 : (E2 != 0) = true := by rw [bne_iff_ne]; exact e2
      go_wp2_with fail
      go_ret
      exact ⟨rfl, HB14.out⟩
    have hne2 : (E2 != 0) = false := by rw [e2]; rfl
    obtain ⟨Q, E3, hJ3⟩ : ∃ D E, Dl.join LM (edl l3) = (D, E) := ⟨_, _, rfl⟩
    have HJ3 : Hid (Dl.join (edl m1) (edl l3) = (Q, E3)) := by show _ = _; rw [HR1.out.2.1]; exact hJ3
    have HJ4 : Hid (Dl.join (edl l1) (edl m14) = (Q, E3)) := by
      show _ = _
      rw [HR14.out.2.1, ← hJ3]
      have h1 := HJ1.out
      have h2 := HJ2.out
      rw [e1] at h1
      rw [e2] at h2
      exact (Dl.join_three h1 h2).symm
    have hq := djoin_say HX14.out (X3.out.below HB14.out) (by have := HN1.out; omega) z3 HR1.out.2.2 O3.out (HT.out.below HB14.out) HJ3.out
    clear hJ3 e1 e2
    go_wp2_with fail
    refine hq.mono ?_
    rintro e w15 ⟨a15, c15, m15, rfl, hr15, hm15, _, b15⟩
    have HB15 : Hid (Below w.heap.size w w15) := HB14.out.trans (b15.mono HB14.out.size)
    have HR15 : Hid (Eds w15 (.slice a15 m15.length c15) m15 ∧ edl m15 = Q) := ⟨hr15, hm15⟩
    have hg15 : m15.length ≤ 200 := by rw [← edl_length, hm15]; exact join_few HJ3.out
    have hX15 : Eds w15 (.slice a14 n14 c14) m14 := HR14.out.1.below b15
    have hq2 := djoin_say (X1.out.below HB15.out) hX15 z1 (by have := HN14.out; omega) O1.out HR14.out.2.2 (HT.out.below HB15.out) HJ4.out
    clear hq b15 hr15 hm15 hX15 HX14 HB14
    go_wp2_with fail
    refine hq2.mono ?_
    rintro e w16 ⟨a16, c16, m16, rfl, hr16, hm16, _, b16⟩
    have HB16 : Hid (Below w.heap.size w w16) := HB15.out.trans (b16.mono HB15.out.size)
    obtain rfl : m16 = m15 := edl_inj (hm16.trans HR15.out.2.symm)
    have heq := equal_eds (.slice a15 m16.length c15) (.slice a16 m16.length c16) m16 m16 w16 (HR15.out.1.below b16) hr16 (by omega)
    clear hq2 b16 hr16 hm16 HR15
    generalize m16.length = n16 at *
    go_wp2_with (refine heq.mono ?_; rintro e w17 ⟨q17, rfl, hq17, b17⟩; obtain rfl : q17 = true := hq17.2 (by first | exact trivial | rfl); have HB17 : Hid (Below w.heap.size w w17) := HB16.out.trans (b17.mono HB16.out.size); clear hq17 b17 heq)
    go_ret
    exact ⟨rfl, HB17.out⟩

end Go.Proofs.YthpcbbkpjggjbaaDoor

namespace Go.Proofs.YthpcbbkpjggjbaaDoor
open Go.RowKit

theorem info_three {P : Program} {e : TypeId} {z : Option Value} {s b : Nat} (h : (P.info? e).map (fun i => (i.zero, i.size, i.bytes)) = some (z, s, b)) : ∃ i, P.info? e = some i ∧ i.zero = z ∧ i.size = s ∧ i.bytes = b := by
  cases hi : P.info? e with
  | none => rw [hi] at h; cases h
  | some i =>
    rw [hi] at h
    simp only [Option.map_some, Option.some.injEq, Prod.mk.injEq] at h
    exact ⟨i, rfl, h.1, h.2.1, h.2.2⟩

theorem Rx.src {α : Type} {k : Nat} {C : α → List Value} {w : World} {a : Option Addr} {n c : Nat} {l : List α} (hC : ∀ t, (C t).length = k) (hk : 0 < k) (h : Rx k C w (.slice a n c) l) : (a = none → l.length = 0) ∧ ∀ ad, a = some ad → ∀ j u, (rowR C l)[j]? = some u → w.cell? (ad.add j) = some u := by
  rcases h.at_ with ⟨_, rfl⟩ | ⟨bk, o, cap, h1, h3, h4⟩
  · exact ⟨fun _ => rfl, fun ad _ j u hj => by simp [rowR] at hj⟩
  · rw [Value.slice.injEq] at h1
    obtain ⟨rfl, rfl, rfl⟩ := h1
    refine ⟨fun e => by simp at e, fun ad e j u hj => ?_⟩
    obtain rfl := Option.some.inj e
    have hjl : j < l.length * k := by
      have := (List.getElem?_eq_some_iff.1 hj).1
      rwa [rowR_length hC] at this
    have hr : j % k < k := Nat.mod_lt _ hk
    have hq : j / k < l.length := (Nat.div_lt_iff_lt_mul hk).2 hjl
    have ej : j / k * k + j % k = j := by have := Nat.div_add_mod j k; rw [Nat.mul_comm] at this; exact this
    rw [← ej, rowR_get hC l (j / k) (j % k) l[j / k] (List.getElem?_eq_getElem hq) hr] at hj
    have := h4 (j / k) _ (List.getElem?_eq_getElem hq) (j % k) u hj
    rw [Nat.add_assoc, ej] at this
    rw [show ((⟨bk, o, none⟩ : Addr).add j) = ⟨bk, o + j, none⟩ from Addr.add_mid _ _ _]
    exact this

set_option maxHeartbeats 2000000 in
theorem Kept.setCells {p : Nat → Prop} {A B : World} (h : Kept p A B) {g : Nat} (hg : ¬ p g) (o : Nat) (vs : List Value) : Kept p A (B.setCells g o vs) := by
  induction vs generalizing B o with
  | nil => exact h
  | cons v vs ih => exact ih (h.setCell (a := ⟨g, o, none⟩) hg v) (o + 1)

theorem append_none_c {P : Program} (w : World) (base : Nat) (t ty e : TypeId) (i : TypeInfo) (size : Nat) (ht : P.underlying t = some (.slice e)) (hi : P.info? e = some i) (v : Value) (n : Nat) (xs : List Value) (hown : w.ownsRow base e size v n xs) (c : Nat) :
    (Builtin.append_ #[t, t] ty #[v, .slice none 0 c]).run P w = .ok v w := by
  rcases hown.2 with ⟨rfl, rfl⟩ | ⟨g, cap, cur, rfl, _, _, hnc, _⟩
  · simp [Builtin.append_, run_underlying ht, sizeOf, typeInfo, hi, Builtin.lenOf, Builtin.firstCells]
  · simp [Builtin.append_, run_underlying ht, sizeOf, typeInfo, hi, Builtin.lenOf, Builtin.firstCells, hnc, storeCells]

theorem run_fits_all {P : Program} (w : World) (base : Nat) (t ty e : TypeId) (i : TypeInfo) (size : Nat) (ht : P.underlying t = some (.slice e)) (hi : P.info? e = some i) (hsize : i.size = size)
    (g n cap : Nat) (xs : List Value) (hown : w.ownsRow base e size (.slice (some ⟨g, 0, none⟩) n cap) n xs) (ao : Option Addr) (m c : Nat) (news : List Value) (hl : news.length = m * size) (hnone : ao = none → m = 0)
    (hnews : ∀ ad, ao = some ad → ∀ j u, news[j]? = some u → w.cell? (ad.add j) = some u) (h1 : ∀ u ∈ news, u.oneCell' = true) (hroom : n + m ≤ cap) :
    ∃ w', (Builtin.append_ #[t, t] ty #[.slice (some ⟨g, 0, none⟩) n cap, .slice ao m c]).run P w = .ok (.slice (some ⟨g, 0, none⟩) (n + m) cap) w' ∧
      w'.ownsRow base e size (.slice (some ⟨g, 0, none⟩) (n + m) cap) (n + m) (xs ++ news) ∧ w.grownBy w' (some g) := by
  cases ao with
  | some ad => exact run_append_fits w base t ty e i size ht hi hsize g n cap xs hown ad m c news hl (hnews ad rfl) h1 hroom
  | none =>
    obtain rfl := hnone rfl
    have hnews : news = [] := List.eq_nil_of_length_eq_zero (by simpa using hl)
    subst hnews
    exact ⟨w, append_none_c w base t ty e i size ht hi _ n xs hown c, by simpa using hown, ⟨rfl, rfl, rfl, Nat.le_refl _, fun _ _ _ => rfl⟩⟩

/-- 'append' within the capacity, whatever is appended -/
theorem wpList_fits_all {P : Program} (w : World) {ops : Array Oper} {rest : List Oper} {o : Oper} {a : Act} {Q : Exit → Act → World → Prop}
    (hg : o.guard = none) (s x : Operand) (t : TypeId) (hop : o.op = Op.call { callee := Callee.builtin Builtin.append, args := #[s, x], argTypes := #[t, t] })
    (base : Nat) (e : TypeId) (i : TypeInfo) (size : Nat) (h1 : P.underlying t = some (.slice e)) (h2 : P.info? e = some i) (h4 : i.size = size)
    (g k cap : Nat) (xs : List Value) (hs : a.eval s = .slice (some ⟨g, 0, none⟩) k cap) (hown : w.ownsRow base e size (.slice (some ⟨g, 0, none⟩) k cap) k xs) (ao : Option Addr) (m c : Nat) (news : List Value) (hx : a.eval x = .slice ao m c) (hn : news.length = m * size)
    (hnone : ao = none → m = 0) (hc : ∀ ad, ao = some ad → ∀ j u, news[j]? = some u → w.cell? (ad.add j) = some u) (h1c : ∀ u ∈ news, u.oneCell' = true) (b1 : k + m ≤ cap)
    (hK : ∀ w', w'.ownsRow base e size (.slice (some ⟨g, 0, none⟩) (k + m) cap) (k + m) (xs ++ news) → w.grownBy w' (some g) → wpList P ops Q rest (a.put o.dst (.slice (some ⟨g, 0, none⟩) (k + m) cap)) w') :
    wpList P ops Q (o :: rest) a w := by
  refine wpList_plain hg fun K hK' => ?_
  obtain ⟨w', hrun, r1, r2⟩ := run_fits_all (P := P) w base t o.type e i size h1 h2 h4 g k cap xs hown ao m c news hn hnone hc h1c b1
  unfold Oper.wp
  simp [execOp, hop, resolve, invoke, builtin, hs, hx, hrun, Result.andThen]
  exact hK' _ _ (hK w' r1 r2)

theorem step_of_wp {P : Program} {ops : Array Oper} {o : Oper} {a : Act} {w : World} {K : Act → World → Prop} {Q : Exit → Act → World → Prop} {E : Prop} (hg : o.guard = none) (h : Oper.wp P o a w K Q) : if Region.wanted o (yielded ops a.tmps) = true then Oper.wp P o a w K Q else E := by
  rw [if_pos (by simp [Region.wanted, hg])]
  exact h

theorem step_fits_all {P : Program} (w : World) {ops : Array Oper} {o : Oper} {a : Act} {K : Act → World → Prop} {Q : Exit → Act → World → Prop} {E : Prop}
    (hg : o.guard = none) (s x : Operand) (t : TypeId) (hop : o.op = Op.call { callee := Callee.builtin Builtin.append, args := #[s, x], argTypes := #[t, t] })
    (base : Nat) (e : TypeId) (i : TypeInfo) (size : Nat) (h1 : P.underlying t = some (.slice e)) (h2 : P.info? e = some i) (h4 : i.size = size)
    (g k cap : Nat) (xs : List Value) (hs : a.eval s = .slice (some ⟨g, 0, none⟩) k cap) (hown : w.ownsRow base e size (.slice (some ⟨g, 0, none⟩) k cap) k xs) (ao : Option Addr) (m c : Nat) (news : List Value) (hx : a.eval x = .slice ao m c) (hn : news.length = m * size)
    (hnone : ao = none → m = 0) (hc : ∀ ad, ao = some ad → ∀ j u, news[j]? = some u → w.cell? (ad.add j) = some u) (h1c : ∀ u ∈ news, u.oneCell' = true) (b1 : k + m ≤ cap) (km : Nat) (hkm : km = k + m)
    (hK : ∀ w', w'.ownsRow base e size (.slice (some ⟨g, 0, none⟩) km cap) km (xs ++ news) → w.grownBy w' (some g) → K (a.put o.dst (.slice (some ⟨g, 0, none⟩) km cap)) w') :
    if Region.wanted o (yielded ops a.tmps) = true then Oper.wp P o a w K Q else E := by
  refine step_of_wp hg ?_
  obtain ⟨w', hrun, r1, r2⟩ := run_fits_all (P := P) w base t o.type e i size h1 h2 h4 g k cap xs hown ao m c news hn hnone hc h1c b1
  subst hkm
  unfold Oper.wp
  simp [execOp, hop, resolve, invoke, builtin, hs, hx, hrun, Result.andThen]
  exact hK w' r1 r2

/-- a block of cells that may be written, of n and no other one -/
structure Room (W : World) (g n : Nat) (e : TypeId) : Prop where
  at_ : ∃ cur, W.heap[g]? = some (.cells cur e (0, 0)) ∧ cur.size = n

theorem Room.cell {W : World} {g n : Nat} {e : TypeId} (h : Room W g n e) (j : Nat) (hj : j < n) : (∃ x, W.cell? ⟨g, j, none⟩ = some x) ∧ W.frozen? ⟨g, j, none⟩ = false := by
  obtain ⟨cur, h1, h2⟩ := h.at_
  refine ⟨⟨cur[j]'(by omega), ?_⟩, frozen_of_row W g j cur e h1⟩
  rw [cell_of_row W g j cur e (0, 0) h1]
  simp [h2, hj]

theorem Room.set {W : World} {g n : Nat} {e : TypeId} (h : Room W g n e) (j : Nat) (u : Value) : Room (W.setCell ⟨g, j, none⟩ u) g n e := by
  obtain ⟨cur, h1, h2⟩ := h.at_
  exact ⟨_, heap_setCell_same W g j cur e u h1, by simpa using h2⟩

theorem Room.of_own {W : World} {base g n cap k : Nat} {e : TypeId} {xs : List Value} (h : W.ownsRow base e k (.slice (some ⟨g, 0, none⟩) n cap) n xs) : Room W g (cap * k) e := by
  rcases h.2 with ⟨e, _⟩ | ⟨g', cap', cur, e, _, hh, _, _, hs, _⟩
  · simp at e
  · simp at e
    obtain ⟨rfl, rfl⟩ := e
    exact ⟨cur, hh, hs⟩

theorem Room.kept {p : Nat → Prop} {W W' : World} {g n : Nat} {e : TypeId} (h : Room W g n e) (hk : Kept p W W') (hp : p g) : Room W' g n e := by
  obtain ⟨cur, h1, h2⟩ := h.at_
  exact ⟨cur, hk.obj hp h1, h2⟩

theorem rown_low {base base' : Nat} {e : TypeId} {k : Nat} {v : Value} {n : Nat} {xs : List Value} {w : World} (h : w.ownsRow base e k v n xs) (hb : base' ≤ base) : w.ownsRow base' e k v n xs := by
  refine ⟨h.1, ?_⟩
  rcases h.2 with h' | ⟨g, cap, cur, h1, h2, r⟩
  · exact .inl h'
  · exact .inr ⟨g, cap, cur, h1, Nat.le_trans hb h2, r⟩

theorem addp_at (g o j : Nat) : (⟨g, o, none⟩ : Addr).add j = ⟨g, o + j, none⟩ := Addr.add_mid _ _ _

theorem Room.setCells {g n : Nat} {e : TypeId} : ∀ (vs : List Value) (o : Nat) {W : World}, Room W g n e → Room (W.setCells g o vs) g n e
  | [], _, _, h => h
  | v :: r, o, _, h => Room.setCells r (o + 1) (h.set o v)

theorem Room.there {W : World} {g n o k : Nat} {e : TypeId} (h : Room W g n e) (ho : o + k ≤ n) : W.there g o k := fun j hj => by
  obtain ⟨⟨x, hx⟩, hf⟩ := h.cell (o + j) (by omega)
  exact ⟨by rw [hx]; rfl, hf⟩

theorem range_block {W : World} {g : Nat} {cs : List Value} {e : TypeId} {fr : Nat × Nat} (h : W.heap[g]? = some (.cells cs.toArray e fr)) : W.rangeAt g 0 cs := fun j v hv => by
  rw [Nat.zero_add, cell_of_row W g j _ _ _ h]
  simpa using hv

section
variable {α : Type} {k : Nat} {C : α → List Value}
theorem rowR_two (l : List α) (f : α) : rowR C (l ++ [f, f]) = rowR C l ++ rowR C [f, f] := by simp [rowR]

theorem amp_cell (hC : ∀ t, (C t).length = k) {base g : Nat} {T : TypeId} {w : World} {l : List α} {f : α} (h : w.ownsRow base T k (.slice (some ⟨g, 0, none⟩) (l.length + 2) (l.length + 3)) (l.length + 2) (rowR C (l ++ [f, f]))) (i : Nat) (t : α) (hi : (l ++ [f, f])[i]? = some t) (r : Nat) (u : Value) (hu : (C t)[r]? = some u) : w.cell? ⟨g, i * k + r, none⟩ = some u := by
  have hr : r < k := by
    have := (List.getElem?_eq_some_iff.1 hu).1
    rwa [hC] at this
  have := World.ownsRow.cells h (g := g) rfl (i * k + r) u (by rw [rowR_get hC _ i r t hi hr]; exact hu)
  rwa [addp_at, Nat.zero_add] at this

theorem amp_rx (hC : ∀ t, (C t).length = k) {base g : Nat} {T : TypeId} {w : World} {l : List α} {f : α} (h : w.ownsRow base T k (.slice (some ⟨g, 0, none⟩) (l.length + 2) (l.length + 3)) (l.length + 2) (rowR C (l ++ [f, f]))) (hl : l.length ≤ 140737488351232) : Rx k C w (.slice (some ⟨g, 0, none⟩) l.length (l.length + 3)) l := by
  refine ⟨.inr ⟨g, 0, l.length + 3, rfl, (h.lt g rfl).2, fun j t hj r u hu => ?_⟩, _, _, _, rfl, by omega, by omega⟩
  rw [Nat.zero_add]
  exact amp_cell hC h j t (by rw [List.getElem?_append_left (List.getElem?_eq_some_iff.1 hj).1]; exact hj) r u hu

theorem amp_fill (hC : ∀ t, (C t).length = k) {base g : Nat} {T : TypeId} {w : World} {l : List α} {f : α} (h : w.ownsRow base T k (.slice (some ⟨g, 0, none⟩) (l.length + 2) (l.length + 3)) (l.length + 2) (rowR C (l ++ [f, f]))) (i : Nat) (hi : i = l.length ∨ i = l.length + 1) (r : Nat) (u : Value) (hu : (C f)[r]? = some u) : w.cell? ⟨g, i * k + r, none⟩ = some u := by
  refine amp_cell hC h i f ?_ r u hu
  rcases hi with rfl | rfl <;> simp

theorem two_rows {W : World} {B : Nat} {T : TypeId} {f : α} (h : W.heap[B]? = some (.cells (rowR C [f, f]).toArray T (0, 0))) : ∀ ad, some (⟨B, 0, none⟩ : Addr) = some ad → ∀ j u, (rowR C [f, f])[j]? = some u → W.cell? (ad.add j) = some u := by
  intro ad e j u hj
  obtain rfl := Option.some.inj e
  rw [addp_at, Nat.zero_add, cell_of_row W B j _ _ _ h]
  simpa using hj

end

end Go.Proofs.YthpcbbkpjggjbaaDoor

namespace Go.Proofs.YthpcbbkpjggjbaaDoor
open Go.RowKit
set_option maxRecDepth 4000

theorem info_cim : (Tryd.prog.info? 29).map (fun i => (i.zero, i.size, i.bytes)) = some (some (.agg #[.string ⟨#[]⟩, .int .i64 0, .int .i64 0, .int .i64 0, .string ⟨#[]⟩]), 5, 56) := by kernel_rfl

set_option maxHeartbeats 1000000 in
theorem clone_cim (v : Value) (l : List Im) (w : World) (h : Ims w v l) (hl : l.length * 56 ≤ 140737488355328) :
    Calls Tryd.prog 25 #[v] w fun e w' => ∃ v', e = .returned v' ∧ w'.ownsRow w.heap.size 29 5 v' l.length (rowR imC l) ∧ Below w.heap.size w w' := by
  obtain ⟨i0, hi, hz0, hz1, hz2⟩ := info_three info_cim
  obtain ⟨a, c, rfl, hc1, hc2⟩ := h.slice
  have qn : ∀ (w : World) (a : Option Addr) (n c n' c' : Nat), (binOp .eql 22 (.slice a n c) (.slice none n' c')).run Tryd.prog w = .ok (.bool a.isNone) w := fun w a n c n' c' => Lib.run_eql_slice_nil w _ _ a n c n' c' Tryd.underlying22
  cases a with
  | none =>
    have h0 : l.length = 0 := (h.src imC_length (by decide)).1 rfl
    have HE : Hid (w.ownsRow w.heap.size 29 5 (.slice none 0 0) l.length (rowR imC l)) := by
      show World.ownsRow _ _ _ _ _ _ _
      have : l = [] := List.length_eq_zero_iff.1 h0
      subst this
      exact World.ownsRow_nil _ _ _ _
    clear h
    generalize l.length = n at *
    go_enter Tryd.func25, Tryd.ntmps25
    go_wp2_with fail
    go_ret
    exact ⟨_, rfl, HE.out, Below.refl _ _⟩
  | some ad =>
    have hcell2 : ∀ j u, (rowR imC l)[j]? = some u → (w.alloc (.cells #[] 29)).cell? (ad.add j) = some u := ((h.below ((Below.refl w.heap.size w).alloc (Nat.le_refl _) _)).src imC_length (by decide)).2 _ rfl
    have hown0 : (w.alloc (.cells #[] 29)).ownsRow w.heap.size 29 5 (.slice (some ⟨w.heap.size, 0, none⟩) 0 0) 0 [] := World.ownsRow_lit w #[] 0 (Nat.le_refl _) (by unfold maxLen; omega) rfl
    clear h
    go_enter Tryd.func25, Tryd.ntmps25
    go_wp2_with (at_builtin; refine wpList_append_own _ rfl (.tmp 5) (.tmp 6) 22 rfl w.heap.size 29 i0 (.agg #[.string ⟨#[]⟩, .int .i64 0, .int .i64 0, .int .i64 0, .string ⟨#[]⟩]) 5 56 Tryd.underlying22 hi hz0 hz1 hz2 rfl (by decide) _ _ _ rfl hown0 ad l.length _ (rowR imC l) rfl (by rw [rowR_length imC_length]) hcell2 (rowR_one imC_one l) (by unfold maxLen; omega) (by omega) (by simp) ?_; intro v1 w3 o3 g3 _)
    simp only [Nat.zero_add, List.nil_append] at o3
    have HO : Hid (w3.ownsRow w.heap.size 29 5 v1 l.length (rowR imC l)) := o3
    have HB : Hid (Below w.heap.size w w3) := ((Below.refl _ w).alloc (Nat.le_refl _) _).grown g3 (by simp) (fun k hk => by cases hk; exact Nat.le_refl _)
    clear o3 g3
    go_ret
    exact ⟨_, rfl, HO.out, HB.out⟩

theorem info_cem : (Tryd.prog.info? 31).map (fun i => (i.zero, i.size, i.bytes)) = some (some (.agg #[.string ⟨#[]⟩, .bool false, .string ⟨#[]⟩, .int .i64 0, .int .i64 0, .int .i64 0, .string ⟨#[]⟩]), 7, 80) := by kernel_rfl

set_option maxHeartbeats 1000000 in
theorem clone_cem (v : Value) (l : List Em) (w : World) (h : Eds w v l) (hl : l.length * 80 ≤ 140737488355328) :
    Calls Tryd.prog 34 #[v] w fun e w' => ∃ v', e = .returned v' ∧ w'.ownsRow w.heap.size 31 7 v' l.length (rowR emC l) ∧ Below w.heap.size w w' := by
  obtain ⟨i0, hi, hz0, hz1, hz2⟩ := info_three info_cem
  obtain ⟨a, c, rfl, hc1, hc2⟩ := h.slice
  have qn : ∀ (w : World) (a : Option Addr) (n c n' c' : Nat), (binOp .eql 23 (.slice a n c) (.slice none n' c')).run Tryd.prog w = .ok (.bool a.isNone) w := fun w a n c n' c' => Lib.run_eql_slice_nil w _ _ a n c n' c' Tryd.underlying23
  cases a with
  | none =>
    have h0 : l.length = 0 := (h.src emC_length (by decide)).1 rfl
    have HE : Hid (w.ownsRow w.heap.size 31 7 (.slice none 0 0) l.length (rowR emC l)) := by
      show World.ownsRow _ _ _ _ _ _ _
      have : l = [] := List.length_eq_zero_iff.1 h0
      subst this
      exact World.ownsRow_nil _ _ _ _
    clear h
    generalize l.length = n at *
    go_enter Tryd.func34, Tryd.ntmps34
    go_wp2_with fail
    go_ret
    exact ⟨_, rfl, HE.out, Below.refl _ _⟩
  | some ad =>
    have hcell2 : ∀ j u, (rowR emC l)[j]? = some u → (w.alloc (.cells #[] 31)).cell? (ad.add j) = some u := ((h.below ((Below.refl w.heap.size w).alloc (Nat.le_refl _) _)).src emC_length (by decide)).2 _ rfl
    have hown0 : (w.alloc (.cells #[] 31)).ownsRow w.heap.size 31 7 (.slice (some ⟨w.heap.size, 0, none⟩) 0 0) 0 [] := World.ownsRow_lit w #[] 0 (Nat.le_refl _) (by unfold maxLen; omega) rfl
    clear h
    go_enter Tryd.func34, Tryd.ntmps34
    go_wp2_with (at_builtin; refine wpList_append_own _ rfl (.tmp 5) (.tmp 6) 23 rfl w.heap.size 31 i0 (.agg #[.string ⟨#[]⟩, .bool false, .string ⟨#[]⟩, .int .i64 0, .int .i64 0, .int .i64 0, .string ⟨#[]⟩]) 7 80 Tryd.underlying23 hi hz0 hz1 hz2 rfl (by decide) _ _ _ rfl hown0 ad l.length _ (rowR emC l) rfl (by rw [rowR_length emC_length]) hcell2 (rowR_one emC_one l) (by unfold maxLen; omega) (by omega) (by simp) ?_; intro v1 w3 o3 g3 _)
    simp only [Nat.zero_add, List.nil_append] at o3
    have HO : Hid (w3.ownsRow w.heap.size 31 7 v1 l.length (rowR emC l)) := o3
    have HB : Hid (Below w.heap.size w w3) := ((Below.refl _ w).alloc (Nat.le_refl _) _).grown g3 (by simp) (fun k hk => by cases hk; exact Nat.le_refl _)
    clear o3 g3
    go_ret
    exact ⟨_, rfl, HO.out, HB.out⟩

end Go.Proofs.YthpcbbkpjggjbaaDoor

namespace Go.Proofs.YthpcbbkpjggjbaaDoor
open Go.RowKit
set_option maxRecDepth 4000

/-- what stands at a path -/
def atI (l : List Im) (p : ByteArray) : Option Im := l.find? fun x => decide (x.it.path = p.data.toList)

theorem atI_at (l : List Im) (p : ByteArray) : Dl.at_ Wk.It.path (its l) p.data.toList = (atI l p).map Im.it := by
  unfold Dl.at_ atI its
  rw [List.find?_map]
  rfl

theorem atI_mem {l : List Im} {p : ByteArray} {x : Im} (h : atI l p = some x) : x ∈ l := List.mem_of_find?_eq_some h

theorem atI_step {l : List Im} {p : ByteArray} {k : Nat} {x : Im} (hx : l[k]? = some x) (h : atI (l.take k) p = none) : (x.path = p → atI l p = some x) ∧ (x.path ≠ p → atI (l.take (k + 1)) p = none) := by
  have hlt := (List.getElem?_eq_some_iff.1 hx).1
  have e1 : l.take (k + 1) = l.take k ++ [x] := by rw [List.take_add_one, hx]; rfl
  constructor
  · intro e
    have e2 : l = l.take (k + 1) ++ l.drop (k + 1) := (List.take_append_drop _ _).symm
    unfold atI at h ⊢
    rw [e2, e1, List.find?_append, List.find?_append, h]
    have : ([x] : List Im).find? (fun x => decide (x.it.path = p.data.toList)) = some x := by
      rw [List.find?_cons, show decide (x.it.path = p.data.toList) = true from decide_eq_true (by rw [← e]; rfl)]
    rw [this]
    rfl
  · intro e
    unfold atI at h ⊢
    rw [e1, List.find?_append, h]
    have : ([x] : List Im).find? (fun x => decide (x.it.path = p.data.toList)) = none := by
      rw [List.find?_cons, show decide (x.it.path = p.data.toList) = false from decide_eq_false fun q => e (ba_inj q)]
      rfl
    rw [this]
    rfl

set_option maxHeartbeats 4000000 in
theorem atI_any (v : Value) (l : List Im) (p : ByteArray) (w : World) (h : Ims w v l) (hl : l.length ≤ 140737488351232) :
    Calls Tryd.prog 27 #[v, .string p] w fun e w' => e = .returned (.tuple #[imV ((atI l p).getD im0), .bool (atI l p).isSome]) ∧ Below w.heap.size w w' := by
  obtain ⟨a, c, rfl, hc1, hc2⟩ := h.slice
  have HX : Hid (Ims w (.slice a l.length c) l) := h
  obtain ⟨N, hN⟩ : ∃ N, N = l.length := ⟨_, rfl⟩
  have HN : Hid (N = l.length) := hN
  rw [← hN] at HX hc1 hl ⊢
  have HB0 : Hid (Below w.heap.size w (w.alloc (.cells #[.string ⟨#[]⟩, .int .i64 0, .int .i64 0, .int .i64 0, .string ⟨#[]⟩] 29))) := (Below.refl _ w).alloc (Nat.le_refl _) _
  have HM0 : Hid ((w.alloc (.cells #[.string ⟨#[]⟩, .int .i64 0, .int .i64 0, .int .i64 0, .string ⟨#[]⟩] 29)).heap[w.heap.size]? = some (.cells #[.string ⟨#[]⟩, .int .i64 0, .int .i64 0, .int .i64 0, .string ⟨#[]⟩] 29 (0, 0))) := heap_alloc_new w _
  obtain ⟨RS, hRS⟩ : ∃ RS, RS = atI l p := ⟨_, rfl⟩
  have HRS : Hid (RS = atI l p) := hRS
  rw [← hRS]
  clear h hN hRS
  go_enter Tryd.func27, Tryd.ntmps27
  go_wp2_with fail
  go_loopw [10] (fun i wr => ∃ k : Nat, k ≤ N ∧ i = .int .i64 k ∧ Hid (atI (l.take k) p = none) ∧ Hid (Below w.heap.size w wr) ∧ Hid (wr.heap[w.heap.size]? = some (.cells #[.string ⟨#[]⟩, .int .i64 0, .int .i64 0, .int .i64 0, .string ⟨#[]⟩] 29 (0, 0)))) (fun i _ => N - (intOf i).toNat)
  case atStart => exact ⟨0, by omega, rfl, rfl, HB0.out, HM0.out⟩
  case round =>
    clear HB0 HM0
    obtain ⟨k, hk, rfl, HP, HB, HM⟩ := hrel
    by_cases hlt : k < N
    · obtain ⟨x, hx⟩ : ∃ x, l[k]? = some x := ⟨_, List.getElem?_eq_getElem (by have := HN.out; omega)⟩
      obtain ⟨bk, o, rfl, hbk, x0, x1, x2, x3, x4⟩ := (HX.out.below HB.out).item k x hx
      obtain ⟨hs1, hs2⟩ := atI_step hx HP.out
      obtain ⟨xp, xk, xm, xt, xb⟩ := x
      dsimp only at x0 x1 x2 x3 x4 hs1 hs2
      have hB1 : Below w.heap.size w (wr.alloc (.cells #[.string xp, .int .i64 xk, .int .i64 xm, .int .i64 xt, .string xb] 29)) := HB.out.alloc HB.out.size _
      have hM1 : (wr.alloc (.cells #[.string xp, .int .i64 xk, .int .i64 xm, .int .i64 xt, .string xb] 29)).heap[w.heap.size]? = some (.cells #[.string ⟨#[]⟩, .int .i64 0, .int .i64 0, .int .i64 0, .string ⟨#[]⟩] 29 (0, 0)) := by
        rw [Below.block ((Below.refl _ wr).alloc (Nat.le_refl _) (.cells #[.string xp, .int .i64 xk, .int .i64 xm, .int .i64 xt, .string xb] 29)) _ (Array.getElem?_eq_some_iff.1 HM.out).1]; exact HM.out
      have HB1 : Hid (Below w.heap.size w (wr.alloc (.cells #[.string xp, .int .i64 xk, .int .i64 xm, .int .i64 xt, .string xb] 29))) := hB1
      have HM1 : Hid ((wr.alloc (.cells #[.string xp, .int .i64 xk, .int .i64 xm, .int .i64 xt, .string xb] 29)).heap[w.heap.size]? = some (.cells #[.string ⟨#[]⟩, .int .i64 0, .int .i64 0, .int .i64 0, .string ⟨#[]⟩] 29 (0, 0))) := hM1
      have hlw : w.heap.size < wr.heap.size := (Array.getElem?_eq_some_iff.1 HM.out).1
      by_cases he : xp = p
      · have HRe : Hid (RS = some ⟨xp, xk, xm, xt, xb⟩) := by show _ = _; rw [HRS.out]; exact hs1 he
        have hq : (xp.toList == xp.toList) = true := beq_self_eq_true _
        subst he
        obtain ⟨W1, hW1⟩ : ∃ W1, W1 = wr.alloc (.cells #[.string xp, .int .i64 xk, .int .i64 xm, .int .i64 xt, .string xb] 29) := ⟨_, rfl⟩
        rw [← hW1] at HB1 HM1
        have hzc := fun j => cell_of_row W1 w.heap.size j _ _ _ HM1.out
        have hzf : ∀ j, W1.frozen? ⟨w.heap.size, j, none⟩ = false := fun j => frozen_of_row W1 _ j _ _ HM1.out
        have r0 : W1.cell? ⟨w.heap.size, 0, none⟩ = some (.string ⟨#[]⟩) := hzc 0
        have g0 := hzf 0
        have r1 : W1.cell? ⟨w.heap.size, 1, none⟩ = some (.int .i64 0) := hzc 1
        have g1 := hzf 1
        have r2 : W1.cell? ⟨w.heap.size, 2, none⟩ = some (.int .i64 0) := hzc 2
        have g2 := hzf 2
        have r3 : W1.cell? ⟨w.heap.size, 3, none⟩ = some (.int .i64 0) := hzc 3
        have g3 := hzf 3
        have r4 : W1.cell? ⟨w.heap.size, 4, none⟩ = some (.string ⟨#[]⟩) := hzc 4
        have g4 := hzf 4
        have hMw : W1.heap[wr.heap.size]? = some (.cells #[.string xp, .int .i64 xk, .int .i64 xm, .int .i64 xt, .string xb] 29 (0, 0)) := by rw [hW1]; exact heap_alloc_new wr _
        have key := fun j => cell_of_row W1 wr.heap.size j _ _ _ hMw
        have y0 : W1.cell? ⟨wr.heap.size, 0, none⟩ = some (.string xp) := key 0
        have y1 : W1.cell? ⟨wr.heap.size, 1, none⟩ = some (.int .i64 xk) := key 1
        have y2 : W1.cell? ⟨wr.heap.size, 2, none⟩ = some (.int .i64 xm) := key 2
        have y3 : W1.cell? ⟨wr.heap.size, 3, none⟩ = some (.int .i64 xt) := key 3
        have y4 : W1.cell? ⟨wr.heap.size, 4, none⟩ = some (.string xb) := key 4
        clear hs1 hs2 hzc hzf hMw key hB1 hM1
        go_upto_region 4 with fail
        rw [← hW1]
        clear hW1 x0 x1 x2 x3 x4
        go_wp2_with fail
        refine bodyPost_ret (v := .tuple #[.agg #[.string xp, .int .i64 xk, .int .i64 xm, .int .i64 xt, .string xb], .bool true]) ?_ rfl ⟨by rw [HRe.out]; rfl, (((((HB1.out.setCell (p := ⟨w.heap.size, 0, none⟩) (Nat.le_refl _) _).setCell (p := ⟨w.heap.size, 1, none⟩) (Nat.le_refl _) _).setCell (p := ⟨w.heap.size, 2, none⟩) (Nat.le_refl _) _).setCell (p := ⟨w.heap.size, 3, none⟩) (Nat.le_refl _) _).setCell (p := ⟨w.heap.size, 4, none⟩) (Nat.le_refl _) _)⟩
        simp [results, asAddr, go_sem, r0, r1, r2, r3, r4]
      · have HPn : Hid (atI (l.take (k + 1)) p = none) := hs2 he
        have hq : (xp.toList == p.toList) = false := by
          rw [beq_eq_false_iff_ne, Lib.toList_data, Lib.toList_data]
          exact fun e => he (ba_inj e)
        clear hs1 hs2 hB1 hM1
        go_wp2_with fail
        clear x0 x1 x2 x3 x4
        go_roundw
        case measure => simp only [intOf]; omega
        case rel => exact ⟨k + 1, by omega, by go_num, HPn, HB1, HM1⟩
    · obtain rfl : k = N := by omega
      have HRe : Hid (RS = none) := by
        have h := HP.out
        rw [List.take_of_length_le (by have := HN.out; omega)] at h
        show _ = _
        rw [HRS.out]; exact h
      have hzc := fun j => cell_of_row wr w.heap.size j _ _ _ HM.out
      have hzf : ∀ j, wr.frozen? ⟨w.heap.size, j, none⟩ = false := fun j => frozen_of_row wr _ j _ _ HM.out
      have r0 : wr.cell? ⟨w.heap.size, 0, none⟩ = some (.string ⟨#[]⟩) := hzc 0
      have g0 := hzf 0
      have r1 : wr.cell? ⟨w.heap.size, 1, none⟩ = some (.int .i64 0) := hzc 1
      have g1 := hzf 1
      have r2 : wr.cell? ⟨w.heap.size, 2, none⟩ = some (.int .i64 0) := hzc 2
      have g2 := hzf 2
      have r3 : wr.cell? ⟨w.heap.size, 3, none⟩ = some (.int .i64 0) := hzc 3
      have g3 := hzf 3
      have r4 : wr.cell? ⟨w.heap.size, 4, none⟩ = some (.string ⟨#[]⟩) := hzc 4
      have g4 := hzf 4
      clear hzc hzf
      go_wp2_with fail
      refine bodyPost_ret (v := .tuple #[.agg #[.string ⟨#[]⟩, .int .i64 0, .int .i64 0, .int .i64 0, .string ⟨#[]⟩], .bool false]) ?_ rfl ⟨by rw [HRe.out]; rfl, (((((HB.out.setCell (p := ⟨w.heap.size, 0, none⟩) (Nat.le_refl _) _).setCell (p := ⟨w.heap.size, 1, none⟩) (Nat.le_refl _) _).setCell (p := ⟨w.heap.size, 2, none⟩) (Nat.le_refl _) _).setCell (p := ⟨w.heap.size, 3, none⟩) (Nat.le_refl _) _).setCell (p := ⟨w.heap.size, 4, none⟩) (Nat.le_refl _) _)⟩
      simp [results, asAddr, go_sem, r0, r1, r2, r3, r4]

/-- what stands at a path -/
def atE (l : List Em) (p : ByteArray) : Option Em := l.find? fun x => decide (x.ed.path = p.data.toList)

theorem atE_at (l : List Em) (p : ByteArray) : Dl.at_ Dl.Ed.path (edl l) p.data.toList = (atE l p).map Em.ed := by
  unfold Dl.at_ atE edl
  rw [List.find?_map]
  rfl

theorem atE_mem {l : List Em} {p : ByteArray} {x : Em} (h : atE l p = some x) : x ∈ l := List.mem_of_find?_eq_some h

theorem atE_step {l : List Em} {p : ByteArray} {k : Nat} {x : Em} (hx : l[k]? = some x) (h : atE (l.take k) p = none) : (x.path = p → atE l p = some x) ∧ (x.path ≠ p → atE (l.take (k + 1)) p = none) := by
  have hlt := (List.getElem?_eq_some_iff.1 hx).1
  have e1 : l.take (k + 1) = l.take k ++ [x] := by rw [List.take_add_one, hx]; rfl
  constructor
  · intro e
    have e2 : l = l.take (k + 1) ++ l.drop (k + 1) := (List.take_append_drop _ _).symm
    unfold atE at h ⊢
    rw [e2, e1, List.find?_append, List.find?_append, h]
    have : ([x] : List Em).find? (fun x => decide (x.ed.path = p.data.toList)) = some x := by
      rw [List.find?_cons, show decide (x.ed.path = p.data.toList) = true from decide_eq_true (by rw [← e]; rfl)]
    rw [this]
    rfl
  · intro e
    unfold atE at h ⊢
    rw [e1, List.find?_append, h]
    have : ([x] : List Em).find? (fun x => decide (x.ed.path = p.data.toList)) = none := by
      rw [List.find?_cons, show decide (x.ed.path = p.data.toList) = false from decide_eq_false fun q => e (ba_inj q)]
      rfl
    rw [this]
    rfl

set_option maxHeartbeats 4000000 in
theorem atE_any (v : Value) (l : List Em) (p : ByteArray) (w : World) (h : Eds w v l) (hl : l.length ≤ 140737488351232) :
    Calls Tryd.prog 31 #[v, .string p] w fun e w' => e = .returned (.tuple #[emV ((atE l p).getD em0), .bool (atE l p).isSome]) ∧ Below w.heap.size w w' := by
  obtain ⟨a, c, rfl, hc1, hc2⟩ := h.slice
  have HX : Hid (Eds w (.slice a l.length c) l) := h
  obtain ⟨N, hN⟩ : ∃ N, N = l.length := ⟨_, rfl⟩
  have HN : Hid (N = l.length) := hN
  rw [← hN] at HX hc1 hl ⊢
  have HB0 : Hid (Below w.heap.size w (w.alloc (.cells #[.string ⟨#[]⟩, .bool false, .string ⟨#[]⟩, .int .i64 0, .int .i64 0, .int .i64 0, .string ⟨#[]⟩] 31))) := (Below.refl _ w).alloc (Nat.le_refl _) _
  have HM0 : Hid ((w.alloc (.cells #[.string ⟨#[]⟩, .bool false, .string ⟨#[]⟩, .int .i64 0, .int .i64 0, .int .i64 0, .string ⟨#[]⟩] 31)).heap[w.heap.size]? = some (.cells #[.string ⟨#[]⟩, .bool false, .string ⟨#[]⟩, .int .i64 0, .int .i64 0, .int .i64 0, .string ⟨#[]⟩] 31 (0, 0))) := heap_alloc_new w _
  obtain ⟨RS, hRS⟩ : ∃ RS, RS = atE l p := ⟨_, rfl⟩
  have HRS : Hid (RS = atE l p) := hRS
  rw [← hRS]
  clear h hN hRS
  go_enter Tryd.func31, Tryd.ntmps31
  go_wp2_with fail
  go_loopw [10] (fun i wr => ∃ k : Nat, k ≤ N ∧ i = .int .i64 k ∧ Hid (atE (l.take k) p = none) ∧ Hid (Below w.heap.size w wr) ∧ Hid (wr.heap[w.heap.size]? = some (.cells #[.string ⟨#[]⟩, .bool false, .string ⟨#[]⟩, .int .i64 0, .int .i64 0, .int .i64 0, .string ⟨#[]⟩] 31 (0, 0)))) (fun i _ => N - (intOf i).toNat)
  case atStart => exact ⟨0, by omega, rfl, rfl, HB0.out, HM0.out⟩
  case round =>
    clear HB0 HM0
    obtain ⟨k, hk, rfl, HP, HB, HM⟩ := hrel
    by_cases hlt : k < N
    · obtain ⟨x, hx⟩ : ∃ x, l[k]? = some x := ⟨_, List.getElem?_eq_getElem (by have := HN.out; omega)⟩
      obtain ⟨bk, o, rfl, hbk, x0, x1, x2, x3, x4, x5, x6⟩ := (HX.out.below HB.out).edit k x hx
      obtain ⟨hs1, hs2⟩ := atE_step hx HP.out
      obtain ⟨xp, xg, ⟨xi, xk, xm, xt, xb⟩⟩ := x
      dsimp only at x0 x1 x2 x3 x4 x5 x6 hs1 hs2
      have hB1 : Below w.heap.size w (wr.alloc (.cells #[.string xp, .bool xg, .string xi, .int .i64 xk, .int .i64 xm, .int .i64 xt, .string xb] 31)) := HB.out.alloc HB.out.size _
      have hM1 : (wr.alloc (.cells #[.string xp, .bool xg, .string xi, .int .i64 xk, .int .i64 xm, .int .i64 xt, .string xb] 31)).heap[w.heap.size]? = some (.cells #[.string ⟨#[]⟩, .bool false, .string ⟨#[]⟩, .int .i64 0, .int .i64 0, .int .i64 0, .string ⟨#[]⟩] 31 (0, 0)) := by
        rw [Below.block ((Below.refl _ wr).alloc (Nat.le_refl _) (.cells #[.string xp, .bool xg, .string xi, .int .i64 xk, .int .i64 xm, .int .i64 xt, .string xb] 31)) _ (Array.getElem?_eq_some_iff.1 HM.out).1]; exact HM.out
      have HB1 : Hid (Below w.heap.size w (wr.alloc (.cells #[.string xp, .bool xg, .string xi, .int .i64 xk, .int .i64 xm, .int .i64 xt, .string xb] 31))) := hB1
      have HM1 : Hid ((wr.alloc (.cells #[.string xp, .bool xg, .string xi, .int .i64 xk, .int .i64 xm, .int .i64 xt, .string xb] 31)).heap[w.heap.size]? = some (.cells #[.string ⟨#[]⟩, .bool false, .string ⟨#[]⟩, .int .i64 0, .int .i64 0, .int .i64 0, .string ⟨#[]⟩] 31 (0, 0))) := hM1
      have hlw : w.heap.size < wr.heap.size := (Array.getElem?_eq_some_iff.1 HM.out).1
      by_cases he : xp = p
      · have HRe : Hid (RS = some ⟨xp, xg, ⟨xi, xk, xm, xt, xb⟩⟩) := by show _ = _; rw [HRS.out]; exact hs1 he
        have hq : (xp.toList == xp.toList) = true := beq_self_eq_true _
        subst he
        obtain ⟨W1, hW1⟩ : ∃ W1, W1 = wr.alloc (.cells #[.string xp, .bool xg, .string xi, .int .i64 xk, .int .i64 xm, .int .i64 xt, .string xb] 31) := ⟨_, rfl⟩
        rw [← hW1] at HB1 HM1
        have hzc := fun j => cell_of_row W1 w.heap.size j _ _ _ HM1.out
        have hzf : ∀ j, W1.frozen? ⟨w.heap.size, j, none⟩ = false := fun j => frozen_of_row W1 _ j _ _ HM1.out
        have r0 : W1.cell? ⟨w.heap.size, 0, none⟩ = some (.string ⟨#[]⟩) := hzc 0
        have g0 := hzf 0
        have r1 : W1.cell? ⟨w.heap.size, 1, none⟩ = some (.bool false) := hzc 1
        have g1 := hzf 1
        have r2 : W1.cell? ⟨w.heap.size, 2, none⟩ = some (.string ⟨#[]⟩) := hzc 2
        have g2 := hzf 2
        have r3 : W1.cell? ⟨w.heap.size, 3, none⟩ = some (.int .i64 0) := hzc 3
        have g3 := hzf 3
        have r4 : W1.cell? ⟨w.heap.size, 4, none⟩ = some (.int .i64 0) := hzc 4
        have g4 := hzf 4
        have r5 : W1.cell? ⟨w.heap.size, 5, none⟩ = some (.int .i64 0) := hzc 5
        have g5 := hzf 5
        have r6 : W1.cell? ⟨w.heap.size, 6, none⟩ = some (.string ⟨#[]⟩) := hzc 6
        have g6 := hzf 6
        have hMw : W1.heap[wr.heap.size]? = some (.cells #[.string xp, .bool xg, .string xi, .int .i64 xk, .int .i64 xm, .int .i64 xt, .string xb] 31 (0, 0)) := by rw [hW1]; exact heap_alloc_new wr _
        have key := fun j => cell_of_row W1 wr.heap.size j _ _ _ hMw
        have y0 : W1.cell? ⟨wr.heap.size, 0, none⟩ = some (.string xp) := key 0
        have y1 : W1.cell? ⟨wr.heap.size, 1, none⟩ = some (.bool xg) := key 1
        have y2 : W1.cell? ⟨wr.heap.size, 2, none⟩ = some (.string xi) := key 2
        have y3 : W1.cell? ⟨wr.heap.size, 3, none⟩ = some (.int .i64 xk) := key 3
        have y4 : W1.cell? ⟨wr.heap.size, 4, none⟩ = some (.int .i64 xm) := key 4
        have y5 : W1.cell? ⟨wr.heap.size, 5, none⟩ = some (.int .i64 xt) := key 5
        have y6 : W1.cell? ⟨wr.heap.size, 6, none⟩ = some (.string xb) := key 6
        clear hs1 hs2 hzc hzf hMw key hB1 hM1
        go_upto_region 4 with fail
        rw [← hW1]
        clear hW1 x0 x1 x2 x3 x4 x5 x6
        go_wp2_with fail
        refine bodyPost_ret (v := .tuple #[.agg #[.string xp, .bool xg, .string xi, .int .i64 xk, .int .i64 xm, .int .i64 xt, .string xb], .bool true]) ?_ rfl ⟨by rw [HRe.out]; rfl, (((((((HB1.out.setCell (p := ⟨w.heap.size, 0, none⟩) (Nat.le_refl _) _).setCell (p := ⟨w.heap.size, 1, none⟩) (Nat.le_refl _) _).setCell (p := ⟨w.heap.size, 2, none⟩) (Nat.le_refl _) _).setCell (p := ⟨w.heap.size, 3, none⟩) (Nat.le_refl _) _).setCell (p := ⟨w.heap.size, 4, none⟩) (Nat.le_refl _) _).setCell (p := ⟨w.heap.size, 5, none⟩) (Nat.le_refl _) _).setCell (p := ⟨w.heap.size, 6, none⟩) (Nat.le_refl _) _)⟩
        simp [results, asAddr, go_sem, r0, r1, r2, r3, r4, r5, r6]
      · have HPn : Hid (atE (l.take (k + 1)) p = none) := hs2 he
        have hq : (xp.toList == p.toList) = false := by
          rw [beq_eq_false_iff_ne, Lib.toList_data, Lib.toList_data]
          exact fun e => he (ba_inj e)
        clear hs1 hs2 hB1 hM1
        go_wp2_with fail
        clear x0 x1 x2 x3 x4 x5 x6
        go_roundw
        case measure => simp only [intOf]; omega
        case rel => exact ⟨k + 1, by omega, by go_num, HPn, HB1, HM1⟩
    · obtain rfl : k = N := by omega
      have HRe : Hid (RS = none) := by
        have h := HP.out
        rw [List.take_of_length_le (by have := HN.out; omega)] at h
        show _ = _
        rw [HRS.out]; exact h
      have hzc := fun j => cell_of_row wr w.heap.size j _ _ _ HM.out
      have hzf : ∀ j, wr.frozen? ⟨w.heap.size, j, none⟩ = false := fun j => frozen_of_row wr _ j _ _ HM.out
      have r0 : wr.cell? ⟨w.heap.size, 0, none⟩ = some (.string ⟨#[]⟩) := hzc 0
      have g0 := hzf 0
      have r1 : wr.cell? ⟨w.heap.size, 1, none⟩ = some (.bool false) := hzc 1
      have g1 := hzf 1
      have r2 : wr.cell? ⟨w.heap.size, 2, none⟩ = some (.string ⟨#[]⟩) := hzc 2
      have g2 := hzf 2
      have r3 : wr.cell? ⟨w.heap.size, 3, none⟩ = some (.int .i64 0) := hzc 3
      have g3 := hzf 3
      have r4 : wr.cell? ⟨w.heap.size, 4, none⟩ = some (.int .i64 0) := hzc 4
      have g4 := hzf 4
      have r5 : wr.cell? ⟨w.heap.size, 5, none⟩ = some (.int .i64 0) := hzc 5
      have g5 := hzf 5
      have r6 : wr.cell? ⟨w.heap.size, 6, none⟩ = some (.string ⟨#[]⟩) := hzc 6
      have g6 := hzf 6
      clear hzc hzf
      go_wp2_with fail
      refine bodyPost_ret (v := .tuple #[.agg #[.string ⟨#[]⟩, .bool false, .string ⟨#[]⟩, .int .i64 0, .int .i64 0, .int .i64 0, .string ⟨#[]⟩], .bool false]) ?_ rfl ⟨by rw [HRe.out]; rfl, (((((((HB.out.setCell (p := ⟨w.heap.size, 0, none⟩) (Nat.le_refl _) _).setCell (p := ⟨w.heap.size, 1, none⟩) (Nat.le_refl _) _).setCell (p := ⟨w.heap.size, 2, none⟩) (Nat.le_refl _) _).setCell (p := ⟨w.heap.size, 3, none⟩) (Nat.le_refl _) _).setCell (p := ⟨w.heap.size, 4, none⟩) (Nat.le_refl _) _).setCell (p := ⟨w.heap.size, 5, none⟩) (Nat.le_refl _) _).setCell (p := ⟨w.heap.size, 6, none⟩) (Nat.le_refl _) _)⟩
      simp [results, asAddr, go_sem, r0, r1, r2, r3, r4, r5, r6]

end Go.Proofs.YthpcbbkpjggjbaaDoor

namespace Go.Proofs.YthpcbbkpjggjbaaDoor
open Go.RowKit

theorem info_atx : (Tryd.prog.info? 9).map (fun i => (i.zero, i.size, i.bytes)) = some (some (.string ⟨#[]⟩), 1, 16) := by kernel_rfl

theorem more_tx (base : Nat) (v : Value) (l : List ByteArray) (s : ByteArray) (w : World) (h : w.ownsRow base 9 1 v l.length (l.map Tv)) (g : Nat) (hg : w.heap[g]? = some (.cells #[.string s] 9 (0, 0))) (hl : l.length < 100000) (hbase : base ≤ w.heap.size) :
    ∃ v' w', (Builtin.append_ #[50, 50] 50 #[v, .slice (some ⟨g, 0, none⟩) 1 1]).run Tryd.prog w = .ok v' w' ∧ w'.ownsRow base 9 1 v' (l ++ [s]).length ((l ++ [s]).map Tv) ∧ w.grownBy w' v.ownBlock := by
  obtain ⟨i0, hi, hz0, hz1, hz2⟩ := info3 info_atx
  obtain ⟨v', w', hr, ho, hgr, _⟩ := run_append_own_at (P := Tryd.prog) w base 50 50 9 i0 (.string ⟨#[]⟩) 1 16 Tryd.underlying50 hi hz0 hz1 hz2 (by kernel_rfl) (by decide) v l.length _ h ⟨g, 0, none⟩ 1 1 [.string s] rfl
    (fun j u hu => by
      rw [show ((⟨g, 0, none⟩ : Addr).add j) = ⟨g, 0 + j, none⟩ from Addr.add_mid _ _ _, Nat.zero_add, cell_of_row w g j _ _ _ hg]
      simpa using hu)
    (fun u hu => by rw [List.mem_singleton.1 hu]; rfl) (by unfold maxLen; omega) (by omega) hbase
  refine ⟨v', w', hr, ?_, hgr⟩
  rw [List.length_append, List.map_append]
  exact ho

/-- a row that came in, behind a row of one's own -/
theorem cat_row {α : Type} {P : Program} {k by_ : Nat} {C : α → List Value} {T SL : TypeId} {z : Value} (hu : P.underlying SL = some (.slice T)) (hinfo : (P.info? T).map (fun i => (i.zero, i.size, i.bytes)) = some (some z, k, by_)) (hz : z.cells.size = k) (hk : 0 < k)
    (hC : ∀ t, (C t).length = k) (h1 : ∀ t, ∀ u ∈ C t, u.oneCell' = true) (base : Nat) (v v2 : Value) (a b : List α) (w : World) (h : w.ownsRow base T k v a.length (rowR C a)) (h2 : Rx k C w v2 b)
    (hb : (a.length + b.length) * by_ ≤ 140737488355328) (hl : a.length + b.length ≤ 9007199254740992) (hbase : base ≤ w.heap.size) :
    ∃ v' w', (Builtin.append_ #[SL, SL] SL #[v, v2]).run P w = .ok v' w' ∧ w'.ownsRow base T k v' (a ++ b).length (rowR C (a ++ b)) ∧ w.grownBy w' v.ownBlock := by
  obtain ⟨i0, hi, hz0, hz1, hz2⟩ := info3 hinfo
  obtain ⟨ad, c, rfl, _, _⟩ := h2.slice
  have hs := h2.src hC hk
  cases ad with
  | none =>
    have h0 := hs.1 rfl
    obtain rfl := List.eq_nil_of_length_eq_zero h0
    refine ⟨v, w, append_none_c w base SL SL T i0 k hu hi v a.length _ h c, ?_, ⟨rfl, rfl, rfl, Nat.le_refl _, fun _ _ _ => rfl⟩⟩
    rw [List.append_nil]
    exact h
  | some ad =>
    obtain ⟨v', w', hr, ho, hgr, _⟩ := run_append_own_at (P := P) w base SL SL T i0 z k by_ hu hi hz0 hz1 hz2 hz hk v a.length _ h ad b.length c (rowR C b) (by rw [rowR_length hC]) (fun j u hu => hs.2 ad rfl j u hu) (rowR_one h1 b) (by unfold maxLen; omega) hb hbase
    refine ⟨v', w', hr, ?_, hgr⟩
    rw [List.length_append]
    have e : rowR C (a ++ b) = rowR C a ++ rowR C b := by simp [rowR]
    rw [e]
    exact ho

def tDR (a b : List Im) (p : ByteArray) : Option Em :=
  match atI b p with
  | none => some ⟨p, true, im0⟩
  | some y => match atI a p with
    | none => some ⟨p, false, y⟩
    | some x => if imSame x y = true then none else some ⟨p, false, y⟩

def tAR (a : List Im) (l : List Em) (p : ByteArray) : Option Im :=
  match atE l p with
  | some e => if e.gone = true then none else some e.item
  | none => atI a p

def tJR (l m : List Em) (p : ByteArray) : Option Em := match atE m p with | some x => some x | none => atE l p

theorem tDR_none {a b : List Im} {p : ByteArray} (h : none = atI b p) : tDR a b p = some ⟨p, true, im0⟩ := by unfold tDR; rw [← h]

theorem tDR_new {a b : List Im} {p : ByteArray} {y : Im} (h : some y = atI b p) (k : none = atI a p) : tDR a b p = some ⟨p, false, y⟩ := by unfold tDR; rw [← h, ← k]

theorem tDR_same {a b : List Im} {p : ByteArray} {x y : Im} (h : some y = atI b p) (k : some x = atI a p) (q : true = imSame x y) : tDR a b p = none := by
  unfold tDR
  rw [← h, ← k]
  exact if_pos q.symm

theorem tDR_other {a b : List Im} {p : ByteArray} {x y : Im} (h : some y = atI b p) (k : some x = atI a p) (q : false = imSame x y) : tDR a b p = some ⟨p, false, y⟩ := by
  unfold tDR
  rw [← h, ← k]
  exact if_neg (by rw [← q]; decide)

theorem tAR_none {a : List Im} {l : List Em} {p : ByteArray} {A : Option Im} (h : none = atE l p) (k : A = atI a p) : tAR a l p = A := by unfold tAR; rw [← h]; exact k.symm

theorem tAR_some {a : List Im} {l : List Em} {p : ByteArray} {e : Em} (h : some e = atE l p) : tAR a l p = if e.gone = true then none else some e.item := by unfold tAR; rw [← h]

theorem tJR_some {l m : List Em} {p : ByteArray} {e : Em} (h : some e = atE m p) : tJR l m p = some e := by unfold tJR; rw [← h]

theorem tJR_none {l m : List Em} {p : ByteArray} {A : Option Em} (h : none = atE m p) (k : A = atE l p) : tJR l m p = A := by unfold tJR; rw [← h]; exact k.symm

theorem atE_none {l : List Em} {p : ByteArray} (h : none = atE l p) : ∀ x ∈ l, x.path ≠ p := fun x hx e => by
  have := List.find?_eq_none.1 h.symm x hx
  rw [← e] at this
  exact this (decide_eq_true rfl)

theorem told_dl {γ γ' : Type} {m : List ByteArray} {t : ByteArray → Option γ} {u : γ → γ'} {t' : Wk.Bs → Option γ'} (h : ∀ p, t' p.data.toList = (t p).map u) : (dl m).filterMap t' = (m.filterMap t).map u := told (m := fun p : ByteArray => p.data.toList) h

theorem diffE_R (a b : List Im) (p : ByteArray) : Dl.diffE (its a) (its b) p.data.toList = (tDR a b p).map Em.ed := by
  unfold Dl.diffE tDR
  rw [atI_at, atI_at]
  cases atI b p with
  | none => rfl
  | some y =>
    cases atI a p with
    | none => rfl
    | some x =>
      show (if Dl.same x.it y.it = true then none else _) = (if imSame x y = true then none else some (⟨p, false, y⟩ : Em)).map Em.ed
      rw [same_im]
      generalize imSame x y = q
      cases q <;> rfl

theorem appE_R (a : List Im) (l : List Em) (p : ByteArray) : Dl.appE (its a) (edl l) p.data.toList = (tAR a l p).map Im.it := by
  unfold Dl.appE tAR
  rw [atI_at, atE_at]
  cases atE l p with
  | none => rfl
  | some e =>
    show (if e.gone = true then none else some e.item.it) = (if e.gone = true then none else some e.item).map Im.it
    cases e.gone <;> rfl

theorem joinE_R (l m : List Em) (p : ByteArray) : Dl.joinE (edl l) (edl m) p.data.toList = (tJR l m p).map Em.ed := by
  unfold Dl.joinE tJR
  rw [atE_at, atE_at]
  cases atE m p <;> rfl

end Go.Proofs.YthpcbbkpjggjbaaDoor

namespace Go.Proofs
open Go.Shelf
def Tryd.laysIns_ren : Go.Shelf.Ren := ⟨fun | 22 => 48 | 29 => 60 | 30 => 61 | 36 => 70 | 17 => 80 | n => n, fun | 24 => 50 | 9 => 9 | 3 => 3 | 4 => 4 | 0 => 0 | n => n, fun | n => n⟩
theorem Tryd.laysIns : Go.Proofs.Lays2.n22 Tryd.prog Tryd.laysIns_ren := {
  mixed := by kernel_rfl
  f17 := Tryd.func80.trans (congrArg some (by kernel_rfl))
  f22 := Tryd.func48.trans (congrArg some (by kernel_rfl))
  f29 := Tryd.func60.trans (congrArg some (by kernel_rfl))
  f30 := Tryd.func61.trans (congrArg some (by kernel_rfl))
  f36 := Tryd.func70.trans (congrArg some (by kernel_rfl))
  t0 := Tryd.underlying0
  a0 := Tryd.isAgg0
  z0 := Tryd.sizeOf0
  v0 := Tryd.zeroValue0
  t3 := Tryd.underlying3
  a3 := Tryd.isAgg3
  z3 := Tryd.sizeOf3
  v3 := Tryd.zeroValue3
  t4 := Tryd.underlying4
  a4 := Tryd.isAgg4
  z4 := Tryd.sizeOf4
  v4 := Tryd.zeroValue4
  t9 := Tryd.underlying9
  a9 := Tryd.isAgg9
  z9 := Tryd.sizeOf9
  v9 := Tryd.zeroValue9
  t24 := Tryd.underlying50
  a24 := Tryd.isAgg50
  z24 := Tryd.sizeOf50
  v24 := Tryd.zeroValue50
  i9 := by kernel_rfl }
end Go.Proofs

namespace Go.Proofs.YthpcbbkpjggjbaaDoor
open Go.RowKit

/-- a row of one's own, out of its block -/
theorem own_mk {base g cap n : Nat} {e : TypeId} {w : World} {L xs : List Value} (hg : w.heap[g]? = some (.cells L.toArray e (0, 0))) (hb : base ≤ g) (hn : n ≤ cap) (hc : cap ≤ maxLen) (hL : L.length = cap) (hx : xs.length = n) (ht : L.take n = xs) :
    w.ownsRow base e 1 (.slice (some ⟨g, 0, none⟩) n cap) n xs :=
  ⟨by rw [hx, Nat.mul_one], .inr ⟨g, cap, _, rfl, hb, hg, hn, hc, by simpa using hL, by simpa using ht⟩⟩

/-- cells stored into a block, as a list -/
theorem sets_list {M o : Nat} {T : TypeId} {fr : Nat × Nat} {L vs : List Value} {W : World} (h : W.heap[M]? = some (.cells L.toArray T fr)) (ho : o + vs.length ≤ L.length) : (W.setCells M o vs).heap[M]? = some (.cells (L.take o ++ (vs ++ L.drop (o + vs.length))).toArray T fr) := by
  have e : L = L.take o ++ ((L.drop o).take vs.length ++ L.drop (o + vs.length)) := by
    rw [← List.drop_drop, List.take_append_drop, List.take_append_drop]
  have h2 : W.heap[M]? = some (.cells (L.take o ++ ((L.drop o).take vs.length ++ L.drop (o + vs.length))).toArray T fr) := by rw [← e]; exact h
  have h3 := sets_blk vs _ _ W h2 (by rw [List.length_take, List.length_drop]; omega)
  rw [List.length_take, Nat.min_eq_left (by omega)] at h3
  exact h3

theorem zc_list (s : ByteArray) (n : Nat) : (Builtin.zeroCells (Value.string s).cells n).toList.length = n := by
  have := size_zeroCells (Value.string s).cells n
  rw [Array.length_toList, this]
  show n * 1 = n
  omega

theorem below_sets {w W : World} {base g : Nat} (h : Below base w W) (hb : base ≤ g) (o : Nat) (vs : List Value) : Below base w (W.setCells g o vs) := setCells_below h hb vs

theorem put_take {A B R : List Value} {x : Value} {n : Nat} (h : A.length + 1 + B.length = n) : (A ++ (x :: (B ++ R))).take n = A ++ x :: B := by
  have e : A ++ (x :: (B ++ R)) = (A ++ x :: B) ++ R := by simp
  rw [e, List.take_append_of_le_length (by simp; omega), List.take_of_length_le (by simp; omega)]

set_option maxHeartbeats 4000000 in
/-- a text put in at place k -/
theorem insert_one (v : Value) (cs : List Value) (n k : Nat) (x : Value) (base vb : Nat) (w : World) (h : w.ownsRow base 9 1 v n cs) (hx : x.oneCell' = true) (h1 : ∀ u ∈ cs, u.oneCell' = true) (hv : w.heap[vb]? = some (.cells #[x] 9 (0, 0)))
    (hne : ∀ g, v.ownBlock = some g → vb ≠ g) (hk : k ≤ n) (hn : n ≤ 100000) (hb : base ≤ w.heap.size) :
    Calls Tryd.prog 48 #[v, .int .i64 k, .slice (some ⟨vb, 0, none⟩) 1 1] w fun e w' => ∃ v', e = .returned v' ∧ w'.ownsRow base 9 1 v' (n + 1) (cs.take k ++ x :: cs.drop k) ∧ Below base w w' := by
  have hl : cs.length = n := by rw [h.1, Nat.mul_one]
  have hvs : ∀ (j : Nat) u, [x][j]? = some u → w.cell? ⟨vb, 0 + j, none⟩ = some u := fun j u hu => by
    rw [Nat.zero_add, cell_of_row w vb j _ _ _ hv]
    simpa using hu
  have h1v : ∀ u ∈ [x], u.oneCell' = true := fun u hu => by rw [List.mem_singleton.1 hu]; exact hx
  have hmax : ∀ m, m ≤ 100001 → m ≤ maxLen := fun m hm => by unfold maxLen; omega
  rcases h.2 with ⟨rfl, rfl⟩ | ⟨g, cap, cur, rfl, hbg, hg, hnc, hcm, hcs, htake⟩
  · obtain rfl : k = 0 := by omega
    obtain rfl := List.eq_nil_of_length_eq_zero hl
    refine (Any2.slices_Insert_string_end_grow Tryd.laysIns none 0 0 vb 0 1 1 [] [x] w (by omega) (Nat.le_refl _) (by omega) (by omega) rfl rfl (fun _ => rfl) (fun a e => by cases e) hvs h1v).mono ?_
    rintro e w' ⟨he, hw⟩
    rw [show Tryd.laysIns_ren.t 9 = 9 from rfl] at he hw
    subst he hw
    refine ⟨_, rfl, ?_, ?_⟩
    · refine own_mk (L := [x] ++ (Builtin.zeroCells (Value.string ⟨#[]⟩).cells (grownCap w (0 + 1) 0 9 - (0 + 1))).toList) ?_ hb (grownCap_ge w (0 + 1) 0 9) (grownCap_le_maxLen w (0 + 1) 0 9 (hmax _ (by omega))) ?_ rfl (by simp)
      · have := heap_alloc_new w.drew (.cells (([] ++ [x]).toArray ++ Builtin.zeroCells (Value.string ⟨#[]⟩).cells (grownCap w (0 + 1) 0 9 - (0 + 1))) 9)
        refine this.trans ?_
        simp
      · have := grownCap_ge w (0 + 1) 0 9
        rw [List.length_append, zc_list, List.length_singleton]; omega
    · exact ((Below.refl _ w).drew).alloc hb _
  · have hcur : cur = cur.toList.toArray := rfl
    have hcl : cur.toList.length = cap := by rw [Array.length_toList, hcs, Nat.mul_one]
    rw [Nat.mul_one] at htake
    have hvg : vb ≠ g := hne g rfl
    have hcells : ∀ (j : Nat) u, cs[j]? = some u → w.cell? ⟨g, 0 + j, none⟩ = some u := fun j u hu => by
      rw [Nat.zero_add, cell_of_row w g j _ _ _ hg, ← Array.getElem?_toList]
      rw [← htake, List.getElem?_take] at hu
      split at hu
      · exact hu
      · cases hu
    by_cases hkn : k = n
    · subst hkn
      have et : cs.take k ++ x :: cs.drop k = cs ++ [x] := by rw [List.take_of_length_le (by omega), List.drop_of_length_le (by omega)]
      rw [et]
      by_cases hroom : k + 1 ≤ cap
      · have hth := blk_there (o := k) (k := 1) hg (by rw [hcs]; omega)
        refine (Any2.slices_Insert_string_end_room Tryd.laysIns g 0 k cap vb 0 1 1 [x] w (by omega) hroom (by unfold maxLen at hcm; omega) rfl (fun j hj => by obtain rfl : j = 0 := (by omega); rw [show 0 + k + 0 = k + 0 from by omega]; exact (hth 0 (by omega)).1) (fun j hj => by obtain rfl : j = 0 := (by omega); rw [show 0 + k + 0 = k + 0 from by omega]; exact (hth 0 (by omega)).2) hvs h1v).mono ?_
        rintro e w' ⟨rfl, rfl⟩
        have hs := sets_list (o := 0 + k) (vs := [x]) (show w.heap[g]? = some (.cells cur.toList.toArray 9 (0, 0)) from hg) (by rw [hcl]; simp; omega)
        refine ⟨_, rfl, own_mk hs hbg hroom hcm ?_ (by simp; omega) ?_, below_sets (Below.refl _ w) hbg _ _⟩
        · simp only [List.length_append, List.length_take, List.length_drop, List.length_singleton, hcl]; omega
        · rw [Nat.zero_add, htake]
          exact put_take (B := []) (by rw [hl]; simp)
      · refine (Any2.slices_Insert_string_end_grow Tryd.laysIns (some ⟨g, 0, none⟩) k cap vb 0 1 1 cs [x] w (by omega) hnc (by omega) (by omega) hl rfl (fun e => by cases e) (fun a e j u hu => by cases e; rw [show ((⟨g, 0, none⟩ : Addr).add j) = ⟨g, 0 + j, none⟩ from Addr.add_mid _ _ _]; exact hcells j u hu) hvs h1v).mono ?_
        rintro e w' ⟨he, hw⟩
        rw [show Tryd.laysIns_ren.t 9 = 9 from rfl] at he hw
        subst he hw
        refine ⟨_, rfl, ?_, ?_⟩
        · refine own_mk (L := (cs ++ [x]) ++ (Builtin.zeroCells (Value.string ⟨#[]⟩).cells (grownCap w (k + 1) cap 9 - (k + 1))).toList) ?_ hb (grownCap_ge w (k + 1) cap 9) (grownCap_le_maxLen w (k + 1) cap 9 (hmax _ (by omega))) ?_ (by simp; omega) ?_
          · have := heap_alloc_new w.drew (.cells ((cs ++ [x]).toArray ++ Builtin.zeroCells (Value.string ⟨#[]⟩).cells (grownCap w (k + 1) cap 9 - (k + 1))) 9)
            refine this.trans ?_
            simp
          · have := grownCap_ge w (k + 1) cap 9
            rw [List.length_append, zc_list]; simp; omega
          · rw [List.take_append_of_le_length (by simp; omega), List.take_of_length_le (by simp; omega)]
        · exact ((Below.refl _ w).drew).alloc hb _
    · have hki : k < n := by omega
      have hA : (cs.take k).length = k := by rw [List.length_take]; omega
      have hB : (cs.drop k).length = n - k := by rw [List.length_drop]; omega
      by_cases hroom : n + 1 ≤ cap
      · have hth := blk_there (o := 0) (k := n + 1) hg (by rw [hcs]; omega)
        have hlv := (Array.getElem?_eq_some_iff.1 hv).1
        refine (Any2.slices_Insert_string_shift Tryd.laysIns g 0 n cap k vb 0 1 1 cs [x] w hki (by omega) hroom (by unfold maxLen at hcm; omega) hvg hl rfl hcells (fun j hj => (hth j hj).1) (fun j hj => (hth j hj).2) hvs h1 h1v 9 9 1 cur.size (by simp [World.shape?, hv]) (by simp [World.shape?, hg]) (by omega) (frozen_of_row w vb _ _ _ hv) (frozen_of_row w vb _ _ _ hv)).mono ?_
        rintro e w' ⟨rfl, rfl⟩
        have hs1 := sets_list (o := 0 + (k + 1)) (vs := cs.drop k) (W := w.drew) (show w.drew.heap[g]? = some (.cells cur.toList.toArray 9 (0, 0)) from hg) (by rw [hcl, hB]; omega)
        have hs2 := sets_list (o := 0 + k) (vs := [x]) hs1 (by simp only [List.length_append, List.length_take, List.length_drop, List.length_singleton, hcl]; omega)
        refine ⟨_, rfl, own_mk hs2 hbg hroom hcm ?_ (by rw [List.length_append, List.length_cons, hA, hB]; omega) ?_, below_sets (below_sets ((Below.refl _ w).drew) hbg _ _) hbg _ _⟩
        · simp only [List.length_append, List.length_take, List.length_drop, List.length_singleton, hcl]; omega
        · have e1 : (cur.toList.take (0 + (k + 1)) ++ (cs.drop k ++ cur.toList.drop (0 + (k + 1) + (cs.drop k).length))).take (0 + k) = cs.take k := by
            rw [Nat.zero_add, Nat.zero_add, List.take_append_of_le_length (by rw [List.length_take, hcl]; omega), List.take_take, Nat.min_eq_left (by omega), ← htake, List.take_take, Nat.min_eq_left (by omega)]
          have e2 : (cur.toList.take (0 + (k + 1)) ++ (cs.drop k ++ cur.toList.drop (0 + (k + 1) + (cs.drop k).length))).drop (0 + k + [x].length) = cs.drop k ++ cur.toList.drop (0 + (k + 1) + (cs.drop k).length) := by
            rw [Nat.zero_add, Nat.zero_add, List.drop_append_of_le_length (by rw [List.length_take, hcl]; simp; omega), List.drop_of_length_le (by rw [List.length_take, hcl]; simp; omega), List.nil_append]
          rw [e1, e2]
          exact put_take (A := cs.take k) (B := cs.drop k) (n := n + 1) (by rw [hA, hB]; omega)
      · refine (Any2.slices_Insert_string_grow Tryd.laysIns g 0 n cap k vb 0 1 1 cs [x] w hki (by omega) hnc (by omega) (by omega) hl rfl hcells hvs h1 h1v).mono ?_
        rintro e w' ⟨he, hw⟩
        rw [show Tryd.laysIns_ren.t 9 = 9 from rfl] at he hw
        subst he hw
        have hge := grownCap_ge w (n + 1) cap 9
        have h0 := heap_alloc_new w (.cells ((cs.take k).toArray ++ Builtin.zeroCells (Value.string ⟨#[]⟩).cells (n + 1 - k) ++ Builtin.zeroCells (Value.string ⟨#[]⟩).cells (grownCap w (n + 1) cap 9 - (n + 1))) 9)
        obtain ⟨L0, hL0⟩ : ∃ L0 : List Value, L0 = cs.take k ++ ((Builtin.zeroCells (Value.string ⟨#[]⟩).cells (n + 1 - k)).toList ++ (Builtin.zeroCells (Value.string ⟨#[]⟩).cells (grownCap w (n + 1) cap 9 - (n + 1))).toList) := ⟨_, rfl⟩
        have hL0l : L0.length = grownCap w (n + 1) cap 9 := by rw [hL0, List.length_append, List.length_append, zc_list, zc_list, hA]; omega
        have h00 : (w.alloc (.cells ((cs.take k).toArray ++ Builtin.zeroCells (Value.string ⟨#[]⟩).cells (n + 1 - k) ++ Builtin.zeroCells (Value.string ⟨#[]⟩).cells (grownCap w (n + 1) cap 9 - (n + 1))) 9)).drew.heap[w.heap.size]? = some (.cells L0.toArray 9 (0, 0)) := by
          refine h0.trans ?_
          rw [hL0]
          simp
        have hs1 := sets_list (o := k) (vs := [x]) h00 (by rw [hL0l]; simp; omega)
        have hs2 := sets_list (o := k + 1) (vs := cs.drop k) (W := (World.setCells _ w.heap.size k [x]).drew) hs1 (by simp only [List.length_append, List.length_take, List.length_drop, List.length_singleton, hL0l]; omega)
        refine ⟨_, rfl, own_mk hs2 hb hge (grownCap_le_maxLen w (n + 1) cap 9 (hmax _ (by omega))) ?_ (by rw [List.length_append, List.length_cons, hA, hB]; omega) ?_, ?_⟩
        · simp only [List.length_append, List.length_take, List.length_drop, List.length_singleton, hL0l, hB]; omega
        · have e0 : L0.take k = cs.take k := by rw [hL0, List.take_append_of_le_length (by omega), List.take_of_length_le (by omega)]
          have e1 : (L0.take k ++ ([x] ++ L0.drop (k + [x].length))).take (k + 1) = cs.take k ++ [x] := by
            rw [e0, ← List.append_assoc, List.take_append_of_le_length (by simp; omega), List.take_of_length_le (by simp; omega)]
          rw [e1, List.append_assoc]
          exact put_take (A := cs.take k) (B := cs.drop k) (n := n + 1) (by rw [hA, hB]; omega)
        · exact below_sets ((below_sets ((((Below.refl _ w).alloc hb _)).drew) hb _ _).drew) hb _ _

end Go.Proofs.YthpcbbkpjggjbaaDoor

namespace Go.Proofs.YthpcbbkpjggjbaaDoor
open Go.RowKit
set_option maxRecDepth 4000

namespace Nn
/-- the bytes that follow, one by one -/
def run : Nat → List Nat → Option Nat
  | c, [] => some c
  | c, b :: l => if b < 128 ∨ 191 < b then none else run (64 * c + b - 128) l
/-- how a character of n bytes ends -/
def done (low n : Nat) : Option Nat → Nat × Nat
  | none => (0, 0)
  | some c => fin low c n
theorem done_none (low n : Nat) : done low n none = (0, 0) := rfl
theorem done_bad {low n c : Nat} (h : c < low ∨ 1114111 < c ∨ (55296 ≤ c ∧ c < 57344)) : done low n (some c) = (0, 0) := by
  show fin low c n = _
  unfold fin; rw [if_pos h]
theorem done_good {low n c : Nat} (h : ¬ (c < low ∨ 1114111 < c ∨ (55296 ≤ c ∧ c < 57344))) : done low n (some c) = (c, n) := by
  show fin low c n = _
  unfold fin; rw [if_neg h]
theorem run_two (n b0 b1 b2 b3 : Nat) (hb : 194 ≤ b0 ∧ b0 < 224) (hn : ¬ n < 2) : chrR n b0 b1 b2 b3 = done 128 2 (run (b0 - 192) [b1]) := by
  unfold chrR
  rw [if_neg (by omega), if_pos hb, run]
  by_cases c : b1 < 128 ∨ 191 < b1
  · rw [if_pos (.inr c), if_pos c]; rfl
  · rw [if_neg (by omega), if_neg c]; rfl
theorem run_three (n b0 b1 b2 b3 : Nat) (hb : 224 ≤ b0 ∧ b0 < 240) (hn : ¬ n < 3) : chrR n b0 b1 b2 b3 = done 2048 3 (run (b0 - 224) [b1, b2]) := by
  unfold chrR
  rw [if_neg (by omega), if_neg (by omega), if_pos hb, run]
  by_cases c : b1 < 128 ∨ 191 < b1
  · rw [if_pos (.inr (.inl c)), if_pos c]; rfl
  · rw [if_neg c, run]
    by_cases d : b2 < 128 ∨ 191 < b2
    · rw [if_pos (.inr (.inr d)), if_pos d]; rfl
    · rw [if_neg (by omega), if_neg d]; rfl
theorem run_four (n b0 b1 b2 b3 : Nat) (hb : 240 ≤ b0 ∧ b0 < 245) (hn : ¬ n < 4) : chrR n b0 b1 b2 b3 = done 65536 4 (run (b0 - 240) [b1, b2, b3]) := by
  unfold chrR
  rw [if_neg (by omega), if_neg (by omega), if_neg (by omega), if_pos hb, run]
  by_cases c : b1 < 128 ∨ 191 < b1
  · rw [if_pos (.inr (.inl c)), if_pos c]; rfl
  · rw [if_neg c, run]
    by_cases d : b2 < 128 ∨ 191 < b2
    · rw [if_pos (.inr (.inr (.inl d))), if_pos d]; rfl
    · rw [if_neg d, run]
      by_cases f : b3 < 128 ∨ 191 < b3
      · rw [if_pos (.inr (.inr (.inr f))), if_pos f]; rfl
      · rw [if_neg (by omega), if_neg f]; rfl
theorem run_short (n b0 b1 b2 b3 : Nat) (h : (194 ≤ b0 ∧ b0 < 224 ∧ n < 2) ∨ (224 ≤ b0 ∧ b0 < 240 ∧ n < 3) ∨ (240 ≤ b0 ∧ b0 < 245 ∧ n < 4)) : chrR n b0 b1 b2 b3 = (0, 0) := by
  unfold chrR
  rcases h with ⟨h1, h2, h3⟩ | ⟨h1, h2, h3⟩ | ⟨h1, h2, h3⟩
  · rw [if_neg (by omega), if_pos ⟨h1, h2⟩, if_pos (.inl h3)]
  · rw [if_neg (by omega), if_neg (by omega), if_pos ⟨h1, h2⟩, if_pos (.inl h3)]
  · rw [if_neg (by omega), if_neg (by omega), if_neg (by omega), if_pos ⟨h1, h2⟩, if_pos (.inl h3)]
theorem run_no (n b0 b1 b2 b3 : Nat) (h1 : 128 ≤ b0) (h : b0 < 194 ∨ 245 ≤ b0) : chrR n b0 b1 b2 b3 = (0, 0) := by
  unfold chrR
  rw [if_neg (by omega), if_neg (by omega), if_neg (by omega), if_neg (by omega)]
theorem run_drop (c : Nat) (bs : List Nat) (j : Nat) (hj : j < bs.length) : run c (bs.drop j) = if bs.getD j 0 < 128 ∨ 191 < bs.getD j 0 then none else run (64 * c + bs.getD j 0 - 128) (bs.drop (j + 1)) := by
  rw [List.drop_eq_getElem_cons hj, run, List.getD_eq_getElem?_getD, List.getElem?_eq_getElem hj]
  rfl
end Nn

/-- '[]byte(s)': its cells -/
theorem conv_by (w : World) (s : ByteArray) : ∃ W1 cap, (convert 9 95 (.string s)).run Tryd.prog w = .ok (.slice (some ⟨w.heap.size, 0, none⟩) s.size cap) W1 ∧
    (∀ k (hk : k < s.size), W1.cell? ⟨w.heap.size, k, none⟩ = some (.int .u8 (s[k].toNat : Nat))) ∧ Below w.heap.size w W1 := by
  have hcv := run_bytes_of_string (P := Tryd.prog) w 9 95 5 s (by kernel_rfl) (by kernel_rfl) (by kernel_rfl)
  exact ⟨_, _, hcv, fun k hk => bytes_cell w s _ _ k hk, ((Below.refl _ w).alloc (Nat.le_refl _) _).drew⟩
/-- the bytes of a text from the second on -/
theorem ext_get (s : ByteArray) (n k : Nat) (hn : n ≤ s.size) (hk : k < (s.extract 1 n).size) : ((s.extract 1 n)[k].toNat) = (s.data.toList.getD (k + 1) 0).toNat := by
  rw [ByteArray.size_extract] at hk
  rw [ByteArray.getElem_extract, Nat.add_comm k 1, List.getD_eq_getElem?_getD, Lib.data_getElem? s (1 + k) (by omega)]
  rfl
theorem first_get (s : ByteArray) (h : 0 < s.size) : (s[0].toNat) = (s.data.toList.getD 0 0).toNat := by
  rw [List.getD_eq_getElem?_getD, List.getElem?_eq_getElem (by rw [← Lib.size_eq]; omega)]
  rfl

def ChOut (s : ByteArray) (w : World) (e : Ending) (w' : World) : Prop :=
  e = .returned (.tuple #[.int .i64 (Nn.chr s.data.toList).1, .int .i64 (Nn.chr s.data.toList).2]) ∧ Below w.heap.size w w'

set_option maxHeartbeats 2000000 in
set_option maxRecDepth 8000 in
theorem rchar_two (s : ByteArray) (w : World) (hs : s.size ≤ 140737488351232) (h0 : 0 < s.size) (b0 : Nat) (hb0 : s[0].toNat = b0) (hr : 194 ≤ b0 ∧ b0 < 224) (hn : 2 ≤ s.size) :
    Calls Tryd.prog 87 #[.string s] w (ChOut s w) := by
  have hne : s.data.toList ≠ [] := fun e => by rw [Lib.size_eq, e] at h0; simp at h0
  have e0 : s.toList.isEmpty = false := by
    rw [Lib.toList_data]
    cases hx : s.data.toList with
    | nil => exact absurd hx hne
    | cons a b => rfl
  have e0' : (s.toList == []) = false := by rw [beq_eq_false_iff_ne, Lib.toList_data]; exact hne
  obtain ⟨bs, hbs⟩ : ∃ bs, bs = [(s.data.toList.getD 1 0).toNat] := ⟨_, rfl⟩
  have hlen : bs.length = 1 := by rw [hbs]; rfl
  have HZ : Hid (Nn.chr s.data.toList = Nn.done 128 2 (Nn.run (b0 - 192) bs)) := by
    show _ = _
    rw [Nn.chr_R _ hne, hbs, ← first_get s h0, hb0]
    exact Nn.run_two _ _ _ _ _ hr (by rw [← Lib.size_eq]; omega)
  obtain ⟨t, ht⟩ : ∃ t, s.extract 1 2 = t := ⟨_, rfl⟩
  have htz : t.size = 1 := by rw [← ht, ByteArray.size_extract]; omega
  obtain ⟨W1, cap, hcv, hcell, hbel⟩ := conv_by w t
  have HCL : Hid (∀ k, k < 1 → W1.cell? ⟨w.heap.size, k, none⟩ = some (.int .u8 (bs.getD k 0 : Nat))) := fun k hk => by
    rw [hcell k (by omega)]
    have := ext_get s 2 k hn (by rw [ht]; omega)
    simp only [ht] at this
    rw [this, hbs]
    match k, hk with
    | 0, _ => rfl
  have HB : Hid (Below w.heap.size w W1) := hbel
  have HBS : Hid (∀ k, bs.getD k 0 < 256) := fun k => by
    rw [hbs]
    match k with
    | 0 => exact UInt8.toNat_lt _
    | _ + 1 => simp
  rw [htz] at hcv
  have hnz : ((2 : Int)) ≤ (s.size : Int) := by omega
  have h0z : (0 : Int) < (s.size : Int) := by omega
  obtain ⟨c0, hc0⟩ : ∃ c0, c0 = b0 - 192 := ⟨_, rfl⟩
  have hcz : (b0 : Int) - 192 = (c0 : Int) := by omega
  have hc31 : c0 ≤ 31 := by omega
  rw [← hc0] at HZ
  obtain ⟨Z, hZ⟩ : ∃ Z, Nn.run c0 bs = Z := ⟨_, rfl⟩
  have HR : Hid (Nn.run c0 (bs.drop 0) = Z) := hZ
  rw [hZ] at HZ
  have HL : Hid (bs.length = 1) := hlen
  clear hbs hlen hcell hbel hne hc0 hZ htz
  go_enter Tryd.func87, Tryd.ntmps87
  go_wp2_with fail
  go_loop [4, 53] (fun c i => ∃ j C : Nat, j ≤ 1 ∧ i = .int .i64 j ∧ c = .int .i64 C ∧ Hid (Nn.run C (bs.drop j) = Z) ∧ (j = 0 → C ≤ 31) ∧ (j = 1 → C ≤ 2047) ∧ (j = 2 → C ≤ 131071) ∧ C ≤ 8388607) (fun _ i => 1 - (intOf i).toNat)
  case atStart => exact ⟨0, c0, by omega, rfl, rfl, HR, by omega, by omega, by omega, by omega⟩
  case round =>
    clear HR
    obtain ⟨j, C, hj, rfl, rfl, HR, q0, q1, q2, q3⟩ := hrel
    by_cases hlt : j < 1
    · have cj := HCL.out j hlt
      have HD : Hid (Z = if bs.getD j 0 < 128 ∨ 191 < bs.getD j 0 then none else Nn.run (64 * C + bs.getD j 0 - 128) (bs.drop (j + 1))) := by
        show _ = _
        rw [← Nn.run_drop _ _ _ (by rw [HL.out]; exact hlt)]; exact HR.out.symm
      have hb256 := HBS.out j
      generalize bs.getD j 0 = b at *
      clear HR
      by_cases hbad : b < 128 ∨ 191 < b
      · have HN : Hid (Z = none) := by have := HD.out; rwa [if_pos hbad] at this
        clear HD
        by_cases h1 : b < 128
        · clear hbad
          go_wp2_with fail
          go_ret2
          exact ⟨by rw [HZ.out, HN.out, Nn.done_none]; rfl, HB.out⟩
        · have h2 : 191 < b := by omega
          clear hbad
          go_wp2_with fail
          go_ret2
          exact ⟨by rw [HZ.out, HN.out, Nn.done_none]; rfl, HB.out⟩
      · have HR2 : Hid (Nn.run (64 * C + b - 128) (bs.drop (j + 1)) = Z) := by have := HD.out; rw [if_neg hbad] at this; exact this.symm
        have h1 : ¬ b < 128 := by omega
        have h2 : ¬ 191 < b := by omega
        obtain ⟨D, hD⟩ : ∃ D, 64 * C + b - 128 = D := ⟨_, rfl⟩
        have hDz : 64 * (C : Int) + (b : Int) - 128 = (D : Int) := by omega
        have hD3 : D ≤ 8388607 := by omega
        have hd0 : j + 1 = 1 → D ≤ 2047 := by omega
        have hd1 : j + 1 = 2 → D ≤ 131071 := by omega
        rw [hD] at HR2
        clear HD hbad hD
        go_wp2_with fail
        go_round
        case rel => exact ⟨_, _, .int .i64 D, .int .u8 b, .int .i64 ((j : Int) + 1), ⟨j + 1, by omega, by go_num, D, rfl, HR2, by omega, hd0, hd1, hD3⟩, rfl, rfl, rfl, rfl, rfl⟩
        case measure => simp only [intOf]; omega
    · obtain rfl : j = 1 := by omega
      have HN : Hid (Z = some C) := by
        have := HR.out
        rw [List.drop_eq_nil_of_le (by rw [HL.out]; omega), Nn.run] at this
        exact this.symm
      clear HR HCL HBS q0 q1 q2
      obtain ⟨c, hc⟩ : ∃ c : Int, c = (C : Int) := ⟨_, rfl⟩
      have HCc : Hid (c = (C : Int)) := hc
      by_cases h1 : C < 128
      · have HE : Hid (Nn.chr s.data.toList = (0, 0)) := by
          show _ = _
          rw [HZ.out, HN.out]; exact Nn.done_bad (.inl h1)
        have i1 : c < 128 := by omega
        rw [← hc]
        clear h1 HZ HN hc q3
        go_wp2_with fail
        go_ret2
        exact ⟨by rw [HE.out]; rfl, HB.out⟩
      by_cases h2 : 1114111 < C
      · have HE : Hid (Nn.chr s.data.toList = (0, 0)) := by
          show _ = _
          rw [HZ.out, HN.out]; exact Nn.done_bad (.inr (.inl h2))
        have i1 : ¬ c < 128 := by omega
        have i2 : 1114111 < c := by omega
        rw [← hc]
        clear h1 h2 HZ HN hc q3
        go_wp2_with fail
        go_ret2
        exact ⟨by rw [HE.out]; rfl, HB.out⟩
      by_cases h3 : 55296 ≤ C ∧ C < 57344
      · have HE : Hid (Nn.chr s.data.toList = (0, 0)) := by
          show _ = _
          rw [HZ.out, HN.out]; exact Nn.done_bad (.inr (.inr h3))
        have i1 : ¬ c < 128 := by omega
        have i2 : ¬ 1114111 < c := by omega
        have i3 : 55296 ≤ c := by omega
        have i4 : c < 57344 := by omega
        rw [← hc]
        clear h1 h2 h3 HZ HN hc q3
        go_wp2_with fail
        go_ret2
        exact ⟨by rw [HE.out]; rfl, HB.out⟩
      have HE : Hid (Nn.chr s.data.toList = (C, 2)) := by
        show _ = _
        rw [HZ.out, HN.out]; exact Nn.done_good (by omega)
      have i1 : ¬ c < 128 := by omega
      have i2 : ¬ 1114111 < c := by omega
      by_cases h4 : 55296 ≤ C
      · have i3 : 55296 ≤ c := by omega
        have i4 : ¬ c < 57344 := by omega
        rw [← hc]
        clear h1 h2 h3 h4 HZ HN hc q3
        go_wp2_with fail
        go_ret2
        exact ⟨by rw [HE.out, HCc.out]; rfl, HB.out⟩
      · have i3 : ¬ 55296 ≤ c := by omega
        rw [← hc]
        clear h1 h2 h3 h4 HZ HN hc q3
        go_wp2_with fail
        go_ret2
        exact ⟨by rw [HE.out, HCc.out]; rfl, HB.out⟩

set_option maxHeartbeats 2000000 in
set_option maxRecDepth 8000 in
theorem rchar_three (s : ByteArray) (w : World) (hs : s.size ≤ 140737488351232) (h0 : 0 < s.size) (b0 : Nat) (hb0 : s[0].toNat = b0) (hr : 224 ≤ b0 ∧ b0 < 240) (hn : 3 ≤ s.size) :
    Calls Tryd.prog 87 #[.string s] w (ChOut s w) := by
  have hne : s.data.toList ≠ [] := fun e => by rw [Lib.size_eq, e] at h0; simp at h0
  have e0 : s.toList.isEmpty = false := by
    rw [Lib.toList_data]
    cases hx : s.data.toList with
    | nil => exact absurd hx hne
    | cons a b => rfl
  have e0' : (s.toList == []) = false := by rw [beq_eq_false_iff_ne, Lib.toList_data]; exact hne
  obtain ⟨bs, hbs⟩ : ∃ bs, bs = [(s.data.toList.getD 1 0).toNat, (s.data.toList.getD 2 0).toNat] := ⟨_, rfl⟩
  have hlen : bs.length = 2 := by rw [hbs]; rfl
  have HZ : Hid (Nn.chr s.data.toList = Nn.done 2048 3 (Nn.run (b0 - 224) bs)) := by
    show _ = _
    rw [Nn.chr_R _ hne, hbs, ← first_get s h0, hb0]
    exact Nn.run_three _ _ _ _ _ hr (by rw [← Lib.size_eq]; omega)
  obtain ⟨t, ht⟩ : ∃ t, s.extract 1 3 = t := ⟨_, rfl⟩
  have htz : t.size = 2 := by rw [← ht, ByteArray.size_extract]; omega
  obtain ⟨W1, cap, hcv, hcell, hbel⟩ := conv_by w t
  have HCL : Hid (∀ k, k < 2 → W1.cell? ⟨w.heap.size, k, none⟩ = some (.int .u8 (bs.getD k 0 : Nat))) := fun k hk => by
    rw [hcell k (by omega)]
    have := ext_get s 3 k hn (by rw [ht]; omega)
    simp only [ht] at this
    rw [this, hbs]
    match k, hk with
    | 0, _ => rfl
    | 1, _ => rfl
  have HB : Hid (Below w.heap.size w W1) := hbel
  have HBS : Hid (∀ k, bs.getD k 0 < 256) := fun k => by
    rw [hbs]
    match k with
    | 0 => exact UInt8.toNat_lt _
    | 1 => exact UInt8.toNat_lt _
    | _ + 2 => simp
  rw [htz] at hcv
  have hnz : ((3 : Int)) ≤ (s.size : Int) := by omega
  have h0z : (0 : Int) < (s.size : Int) := by omega
  obtain ⟨c0, hc0⟩ : ∃ c0, c0 = b0 - 224 := ⟨_, rfl⟩
  have hcz : (b0 : Int) - 224 = (c0 : Int) := by omega
  have hc31 : c0 ≤ 31 := by omega
  rw [← hc0] at HZ
  obtain ⟨Z, hZ⟩ : ∃ Z, Nn.run c0 bs = Z := ⟨_, rfl⟩
  have HR : Hid (Nn.run c0 (bs.drop 0) = Z) := hZ
  rw [hZ] at HZ
  have HL : Hid (bs.length = 2) := hlen
  clear hbs hlen hcell hbel hne hc0 hZ htz
  go_enter Tryd.func87, Tryd.ntmps87
  go_wp2_with fail
  go_loop [4, 53] (fun c i => ∃ j C : Nat, j ≤ 2 ∧ i = .int .i64 j ∧ c = .int .i64 C ∧ Hid (Nn.run C (bs.drop j) = Z) ∧ (j = 0 → C ≤ 31) ∧ (j = 1 → C ≤ 2047) ∧ (j = 2 → C ≤ 131071) ∧ C ≤ 8388607) (fun _ i => 2 - (intOf i).toNat)
  case atStart => exact ⟨0, c0, by omega, rfl, rfl, HR, by omega, by omega, by omega, by omega⟩
  case round =>
    clear HR
    obtain ⟨j, C, hj, rfl, rfl, HR, q0, q1, q2, q3⟩ := hrel
    by_cases hlt : j < 2
    · have cj := HCL.out j hlt
      have HD : Hid (Z = if bs.getD j 0 < 128 ∨ 191 < bs.getD j 0 then none else Nn.run (64 * C + bs.getD j 0 - 128) (bs.drop (j + 1))) := by
        show _ = _
        rw [← Nn.run_drop _ _ _ (by rw [HL.out]; exact hlt)]; exact HR.out.symm
      have hb256 := HBS.out j
      generalize bs.getD j 0 = b at *
      clear HR
      by_cases hbad : b < 128 ∨ 191 < b
      · have HN : Hid (Z = none) := by have := HD.out; rwa [if_pos hbad] at this
        clear HD
        by_cases h1 : b < 128
        · clear hbad
          go_wp2_with fail
          go_ret2
          exact ⟨by rw [HZ.out, HN.out, Nn.done_none]; rfl, HB.out⟩
        · have h2 : 191 < b := by omega
          clear hbad
          go_wp2_with fail
          go_ret2
          exact ⟨by rw [HZ.out, HN.out, Nn.done_none]; rfl, HB.out⟩
      · have HR2 : Hid (Nn.run (64 * C + b - 128) (bs.drop (j + 1)) = Z) := by have := HD.out; rw [if_neg hbad] at this; exact this.symm
        have h1 : ¬ b < 128 := by omega
        have h2 : ¬ 191 < b := by omega
        obtain ⟨D, hD⟩ : ∃ D, 64 * C + b - 128 = D := ⟨_, rfl⟩
        have hDz : 64 * (C : Int) + (b : Int) - 128 = (D : Int) := by omega
        have hD3 : D ≤ 8388607 := by omega
        have hd0 : j + 1 = 1 → D ≤ 2047 := by omega
        have hd1 : j + 1 = 2 → D ≤ 131071 := by omega
        rw [hD] at HR2
        clear HD hbad hD
        go_wp2_with fail
        go_round
        case rel => exact ⟨_, _, .int .i64 D, .int .u8 b, .int .i64 ((j : Int) + 1), ⟨j + 1, by omega, by go_num, D, rfl, HR2, by omega, hd0, hd1, hD3⟩, rfl, rfl, rfl, rfl, rfl⟩
        case measure => simp only [intOf]; omega
    · obtain rfl : j = 2 := by omega
      have HN : Hid (Z = some C) := by
        have := HR.out
        rw [List.drop_eq_nil_of_le (by rw [HL.out]; omega), Nn.run] at this
        exact this.symm
      clear HR HCL HBS q0 q1 q2
      obtain ⟨c, hc⟩ : ∃ c : Int, c = (C : Int) := ⟨_, rfl⟩
      have HCc : Hid (c = (C : Int)) := hc
      by_cases h1 : C < 2048
      · have HE : Hid (Nn.chr s.data.toList = (0, 0)) := by
          show _ = _
          rw [HZ.out, HN.out]; exact Nn.done_bad (.inl h1)
        have i1 : c < 2048 := by omega
        rw [← hc]
        clear h1 HZ HN hc q3
        go_wp2_with fail
        go_ret2
        exact ⟨by rw [HE.out]; rfl, HB.out⟩
      by_cases h2 : 1114111 < C
      · have HE : Hid (Nn.chr s.data.toList = (0, 0)) := by
          show _ = _
          rw [HZ.out, HN.out]; exact Nn.done_bad (.inr (.inl h2))
        have i1 : ¬ c < 2048 := by omega
        have i2 : 1114111 < c := by omega
        rw [← hc]
        clear h1 h2 HZ HN hc q3
        go_wp2_with fail
        go_ret2
        exact ⟨by rw [HE.out]; rfl, HB.out⟩
      by_cases h3 : 55296 ≤ C ∧ C < 57344
      · have HE : Hid (Nn.chr s.data.toList = (0, 0)) := by
          show _ = _
          rw [HZ.out, HN.out]; exact Nn.done_bad (.inr (.inr h3))
        have i1 : ¬ c < 2048 := by omega
        have i2 : ¬ 1114111 < c := by omega
        have i3 : 55296 ≤ c := by omega
        have i4 : c < 57344 := by omega
        rw [← hc]
        clear h1 h2 h3 HZ HN hc q3
        go_wp2_with fail
        go_ret2
        exact ⟨by rw [HE.out]; rfl, HB.out⟩
      have HE : Hid (Nn.chr s.data.toList = (C, 3)) := by
        show _ = _
        rw [HZ.out, HN.out]; exact Nn.done_good (by omega)
      have i1 : ¬ c < 2048 := by omega
      have i2 : ¬ 1114111 < c := by omega
      by_cases h4 : 55296 ≤ C
      · have i3 : 55296 ≤ c := by omega
        have i4 : ¬ c < 57344 := by omega
        rw [← hc]
        clear h1 h2 h3 h4 HZ HN hc q3
        go_wp2_with fail
        go_ret2
        exact ⟨by rw [HE.out, HCc.out]; rfl, HB.out⟩
      · have i3 : ¬ 55296 ≤ c := by omega
        rw [← hc]
        clear h1 h2 h3 h4 HZ HN hc q3
        go_wp2_with fail
        go_ret2
        exact ⟨by rw [HE.out, HCc.out]; rfl, HB.out⟩

set_option maxHeartbeats 2000000 in
set_option maxRecDepth 8000 in
theorem rchar_four (s : ByteArray) (w : World) (hs : s.size ≤ 140737488351232) (h0 : 0 < s.size) (b0 : Nat) (hb0 : s[0].toNat = b0) (hr : 240 ≤ b0 ∧ b0 < 245) (hn : 4 ≤ s.size) :
    Calls Tryd.prog 87 #[.string s] w (ChOut s w) := by
  have hne : s.data.toList ≠ [] := fun e => by rw [Lib.size_eq, e] at h0; simp at h0
  have e0 : s.toList.isEmpty = false := by
    rw [Lib.toList_data]
    cases hx : s.data.toList with
    | nil => exact absurd hx hne
    | cons a b => rfl
  have e0' : (s.toList == []) = false := by rw [beq_eq_false_iff_ne, Lib.toList_data]; exact hne
  obtain ⟨bs, hbs⟩ : ∃ bs, bs = [(s.data.toList.getD 1 0).toNat, (s.data.toList.getD 2 0).toNat, (s.data.toList.getD 3 0).toNat] := ⟨_, rfl⟩
  have hlen : bs.length = 3 := by rw [hbs]; rfl
  have HZ : Hid (Nn.chr s.data.toList = Nn.done 65536 4 (Nn.run (b0 - 240) bs)) := by
    show _ = _
    rw [Nn.chr_R _ hne, hbs, ← first_get s h0, hb0]
    exact Nn.run_four _ _ _ _ _ hr (by rw [← Lib.size_eq]; omega)
  obtain ⟨t, ht⟩ : ∃ t, s.extract 1 4 = t := ⟨_, rfl⟩
  have htz : t.size = 3 := by rw [← ht, ByteArray.size_extract]; omega
  obtain ⟨W1, cap, hcv, hcell, hbel⟩ := conv_by w t
  have HCL : Hid (∀ k, k < 3 → W1.cell? ⟨w.heap.size, k, none⟩ = some (.int .u8 (bs.getD k 0 : Nat))) := fun k hk => by
    rw [hcell k (by omega)]
    have := ext_get s 4 k hn (by rw [ht]; omega)
    simp only [ht] at this
    rw [this, hbs]
    match k, hk with
    | 0, _ => rfl
    | 1, _ => rfl
    | 2, _ => rfl
  have HB : Hid (Below w.heap.size w W1) := hbel
  have HBS : Hid (∀ k, bs.getD k 0 < 256) := fun k => by
    rw [hbs]
    match k with
    | 0 => exact UInt8.toNat_lt _
    | 1 => exact UInt8.toNat_lt _
    | 2 => exact UInt8.toNat_lt _
    | _ + 3 => simp
  rw [htz] at hcv
  have hnz : ((4 : Int)) ≤ (s.size : Int) := by omega
  have h0z : (0 : Int) < (s.size : Int) := by omega
  obtain ⟨c0, hc0⟩ : ∃ c0, c0 = b0 - 240 := ⟨_, rfl⟩
  have hcz : (b0 : Int) - 240 = (c0 : Int) := by omega
  have hc31 : c0 ≤ 31 := by omega
  rw [← hc0] at HZ
  obtain ⟨Z, hZ⟩ : ∃ Z, Nn.run c0 bs = Z := ⟨_, rfl⟩
  have HR : Hid (Nn.run c0 (bs.drop 0) = Z) := hZ
  rw [hZ] at HZ
  have HL : Hid (bs.length = 3) := hlen
  clear hbs hlen hcell hbel hne hc0 hZ htz
  go_enter Tryd.func87, Tryd.ntmps87
  go_wp2_with fail
  go_loop [4, 53] (fun c i => ∃ j C : Nat, j ≤ 3 ∧ i = .int .i64 j ∧ c = .int .i64 C ∧ Hid (Nn.run C (bs.drop j) = Z) ∧ (j = 0 → C ≤ 31) ∧ (j = 1 → C ≤ 2047) ∧ (j = 2 → C ≤ 131071) ∧ C ≤ 8388607) (fun _ i => 3 - (intOf i).toNat)
  case atStart => exact ⟨0, c0, by omega, rfl, rfl, HR, by omega, by omega, by omega, by omega⟩
  case round =>
    clear HR
    obtain ⟨j, C, hj, rfl, rfl, HR, q0, q1, q2, q3⟩ := hrel
    by_cases hlt : j < 3
    · have cj := HCL.out j hlt
      have HD : Hid (Z = if bs.getD j 0 < 128 ∨ 191 < bs.getD j 0 then none else Nn.run (64 * C + bs.getD j 0 - 128) (bs.drop (j + 1))) := by
        show _ = _
        rw [← Nn.run_drop _ _ _ (by rw [HL.out]; exact hlt)]; exact HR.out.symm
      have hb256 := HBS.out j
      generalize bs.getD j 0 = b at *
      clear HR
      by_cases hbad : b < 128 ∨ 191 < b
      · have HN : Hid (Z = none) := by have := HD.out; rwa [if_pos hbad] at this
        clear HD
        by_cases h1 : b < 128
        · clear hbad
          go_wp2_with fail
          go_ret2
          exact ⟨by rw [HZ.out, HN.out, Nn.done_none]; rfl, HB.out⟩
        · have h2 : 191 < b := by omega
          clear hbad
          go_wp2_with fail
          go_ret2
          exact ⟨by rw [HZ.out, HN.out, Nn.done_none]; rfl, HB.out⟩
      · have HR2 : Hid (Nn.run (64 * C + b - 128) (bs.drop (j + 1)) = Z) := by have := HD.out; rw [if_neg hbad] at this; exact this.symm
        have h1 : ¬ b < 128 := by omega
        have h2 : ¬ 191 < b := by omega
        obtain ⟨D, hD⟩ : ∃ D, 64 * C + b - 128 = D := ⟨_, rfl⟩
        have hDz : 64 * (C : Int) + (b : Int) - 128 = (D : Int) := by omega
        have hD3 : D ≤ 8388607 := by omega
        have hd0 : j + 1 = 1 → D ≤ 2047 := by omega
        have hd1 : j + 1 = 2 → D ≤ 131071 := by omega
        rw [hD] at HR2
        clear HD hbad hD
        go_wp2_with fail
        go_round
        case rel => exact ⟨_, _, .int .i64 D, .int .u8 b, .int .i64 ((j : Int) + 1), ⟨j + 1, by omega, by go_num, D, rfl, HR2, by omega, hd0, hd1, hD3⟩, rfl, rfl, rfl, rfl, rfl⟩
        case measure => simp only [intOf]; omega
    · obtain rfl : j = 3 := by omega
      have HN : Hid (Z = some C) := by
        have := HR.out
        rw [List.drop_eq_nil_of_le (by rw [HL.out]; omega), Nn.run] at this
        exact this.symm
      clear HR HCL HBS q0 q1 q2
      obtain ⟨c, hc⟩ : ∃ c : Int, c = (C : Int) := ⟨_, rfl⟩
      have HCc : Hid (c = (C : Int)) := hc
      by_cases h1 : C < 65536
      · have HE : Hid (Nn.chr s.data.toList = (0, 0)) := by
          show _ = _
          rw [HZ.out, HN.out]; exact Nn.done_bad (.inl h1)
        have i1 : c < 65536 := by omega
        rw [← hc]
        clear h1 HZ HN hc q3
        go_wp2_with fail
        go_ret2
        exact ⟨by rw [HE.out]; rfl, HB.out⟩
      by_cases h2 : 1114111 < C
      · have HE : Hid (Nn.chr s.data.toList = (0, 0)) := by
          show _ = _
          rw [HZ.out, HN.out]; exact Nn.done_bad (.inr (.inl h2))
        have i1 : ¬ c < 65536 := by omega
        have i2 : 1114111 < c := by omega
        rw [← hc]
        clear h1 h2 HZ HN hc q3
        go_wp2_with fail
        go_ret2
        exact ⟨by rw [HE.out]; rfl, HB.out⟩
      by_cases h3 : 55296 ≤ C ∧ C < 57344
      · have HE : Hid (Nn.chr s.data.toList = (0, 0)) := by
          show _ = _
          rw [HZ.out, HN.out]; exact Nn.done_bad (.inr (.inr h3))
        have i1 : ¬ c < 65536 := by omega
        have i2 : ¬ 1114111 < c := by omega
        have i3 : 55296 ≤ c := by omega
        have i4 : c < 57344 := by omega
        rw [← hc]
        clear h1 h2 h3 HZ HN hc q3
        exact absurd i4 (by omega)
      have HE : Hid (Nn.chr s.data.toList = (C, 4)) := by
        show _ = _
        rw [HZ.out, HN.out]; exact Nn.done_good (by omega)
      have i1 : ¬ c < 65536 := by omega
      have i2 : ¬ 1114111 < c := by omega
      by_cases h4 : 55296 ≤ C
      · have i3 : 55296 ≤ c := by omega
        have i4 : ¬ c < 57344 := by omega
        rw [← hc]
        clear h1 h2 h3 h4 HZ HN hc q3
        go_wp2_with fail
        go_ret2
        exact ⟨by rw [HE.out, HCc.out]; rfl, HB.out⟩
      · have i3 : ¬ 55296 ≤ c := by omega
        rw [← hc]
        clear h1 h2 h3 h4 HZ HN hc q3
        exact absurd i1 (by omega)

set_option maxHeartbeats 1000000 in
theorem rchar_nil (w : World) : Calls Tryd.prog 87 #[.string ⟨#[]⟩] w fun e w' => e = .returned (.tuple #[.int .i64 0, .int .i64 0]) ∧ w' = w := by
  go_enter Tryd.func87, Tryd.ntmps87
  go_wp2_with fail
  go_ret2
  exact ⟨rfl, rfl⟩

set_option maxHeartbeats 1000000 in
theorem rchar_few (s : ByteArray) (w : World) (h0 : 0 < s.size) (b0 : Nat) (hb0 : s[0].toNat = b0) (hlt : b0 < 128) :
    Calls Tryd.prog 87 #[.string s] w fun e w' => e = .returned (.tuple #[.int .i64 b0, .int .i64 1]) ∧ w' = w := by
  have hne : s.data.toList ≠ [] := fun e => by rw [Lib.size_eq, e] at h0; simp at h0
  have e0 : s.toList.isEmpty = false := by
    rw [Lib.toList_data]
    cases hx : s.data.toList with
    | nil => exact absurd hx hne
    | cons a b => rfl
  have e0' : (s.toList == []) = false := by rw [beq_eq_false_iff_ne, Lib.toList_data]; exact hne
  have h0z : (0 : Int) < (s.size : Int) := by omega
  clear hne
  go_enter Tryd.func87, Tryd.ntmps87
  go_wp2_with fail
  go_ret2
  exact ⟨rfl, rfl⟩

set_option maxHeartbeats 1000000 in
theorem rchar_none (s : ByteArray) (w : World) (h0 : 0 < s.size) (b0 : Nat) (hb0 : s[0].toNat = b0) (hlt : ¬ b0 < 128) (h256 : b0 < 256) (h : (194 ≤ b0 ∧ b0 < 224 ∧ s.size < 2) ∨ (224 ≤ b0 ∧ b0 < 240 ∧ s.size < 3) ∨ (240 ≤ b0 ∧ b0 < 245 ∧ s.size < 4) ∨ b0 < 194 ∨ 245 ≤ b0) :
    Calls Tryd.prog 87 #[.string s] w fun e w' => e = .returned (.tuple #[.int .i64 0, .int .i64 0]) ∧ w' = w := by
  have hne : s.data.toList ≠ [] := fun e => by rw [Lib.size_eq, e] at h0; simp at h0
  have e0 : s.toList.isEmpty = false := by
    rw [Lib.toList_data]
    cases hx : s.data.toList with
    | nil => exact absurd hx hne
    | cons a b => rfl
  have e0' : (s.toList == []) = false := by rw [beq_eq_false_iff_ne, Lib.toList_data]; exact hne
  have h0z : (0 : Int) < (s.size : Int) := by omega
  clear hne
  rcases h with ⟨h1, h2, h3⟩ | ⟨h1, h2, h3⟩ | ⟨h1, h2, h3⟩ | h1 | h1
  all_goals
    go_enter Tryd.func87, Tryd.ntmps87
    go_wp2_with fail
    go_ret2
    exact ⟨rfl, rfl⟩

theorem rchar_any (s : ByteArray) (w : World) (hs : s.size ≤ 140737488351232) : Calls Tryd.prog 87 #[.string s] w (ChOut s w) := by
  by_cases h0 : 0 < s.size
  · have hne : s.data.toList ≠ [] := fun e => by rw [Lib.size_eq, e] at h0; simp at h0
    obtain ⟨b0, hb0⟩ : ∃ b0, s[0].toNat = b0 := ⟨_, rfl⟩
    have h256 : b0 < 256 := by rw [← hb0]; exact UInt8.toNat_lt _
    have hR := Nn.chr_R _ hne
    rw [← first_get s h0, hb0] at hR
    by_cases h1 : b0 < 128
    · refine (rchar_few s w h0 b0 hb0 h1).mono ?_
      rintro e w' ⟨rfl, rfl⟩
      refine ⟨?_, Below.refl _ _⟩
      rw [hR, Nn.chrR, if_pos h1]
      rfl
    by_cases hbad : (194 ≤ b0 ∧ b0 < 224 ∧ s.size < 2) ∨ (224 ≤ b0 ∧ b0 < 240 ∧ s.size < 3) ∨ (240 ≤ b0 ∧ b0 < 245 ∧ s.size < 4) ∨ b0 < 194 ∨ 245 ≤ b0
    · refine (rchar_none s w h0 b0 hb0 h1 h256 hbad).mono ?_
      rintro e w' ⟨rfl, rfl⟩
      refine ⟨?_, Below.refl _ _⟩
      have : Nn.chr s.data.toList = (0, 0) := by
        rw [hR]
        rw [Lib.size_eq] at hbad
        rcases hbad with h | h | h | h
        · exact Nn.run_short _ _ _ _ _ (.inl h)
        · exact Nn.run_short _ _ _ _ _ (.inr (.inl h))
        · exact Nn.run_short _ _ _ _ _ (.inr (.inr h))
        · exact Nn.run_no _ _ _ _ _ (by omega) h
      rw [this]
      rfl
    by_cases c2 : 194 ≤ b0 ∧ b0 < 224
    · exact rchar_two s w hs h0 b0 hb0 c2 (by omega)
    by_cases c3 : 224 ≤ b0 ∧ b0 < 240
    · exact rchar_three s w hs h0 b0 hb0 c3 (by omega)
    · exact rchar_four s w hs h0 b0 hb0 (by omega) (by omega)
  · have hz : s.data.toList = [] := List.length_eq_zero_iff.1 (by rw [← Lib.size_eq]; omega)
    have hs0 : s = ⟨#[]⟩ := by
      apply ByteArray.ext
      apply Array.toList_inj.1
      simpa using hz
    subst hs0
    refine (rchar_nil w).mono ?_
    rintro e w' ⟨rfl, rfl⟩
    exact ⟨rfl, Below.refl _ _⟩
end Go.Proofs.YthpcbbkpjggjbaaDoor

namespace Go.Proofs.YthpcbbkpjggjbaaDoor
open Go.RowKit
set_option maxRecDepth 4000

/-- a number as a cell -/
def Nv (n : Nat) : Value := .int .i64 n
theorem info_int : (Tryd.prog.info? 3).map (fun i => (i.zero, i.size, i.bytes)) = some (some (.int .i64 0), 1, 8) := by kernel_rfl
theorem info_of' {P : Program} {e : TypeId} {z : Option Value} {s b : Nat} (h : (P.info? e).map (fun i => (i.zero, i.size, i.bytes)) = some (z, s, b)) : ∃ i, P.info? e = some i ∧ i.zero = z ∧ i.size = s ∧ i.bytes = b := by
  cases hi : P.info? e with
  | none => rw [hi] at h; cases h
  | some i =>
    rw [hi] at h
    simp only [Option.map_some, Option.some.injEq, Prod.mk.injEq] at h
    exact ⟨i, rfl, h.1, h.2.1, h.2.2⟩
theorem own_num {base : Nat} {w wr w1 : World} {v v1 : Value} {l : List Nat} {t : Nat} {o : Obj} (hown : wr.ownsRow base 3 1 v l.length (l.map Nv))
    (hown1 : w1.ownsRow base 3 1 v1 (l.length + 1) (l.map Nv ++ [.int .i64 t])) (hg : (wr.alloc o).grownBy w1 v.ownBlock) (hbel : Below base w wr) (hbase : base ≤ w.heap.size) :
    w1.ownsRow base 3 1 v1 (l ++ [t]).length ((l ++ [t]).map Nv) ∧ Below base w w1 := by
  refine ⟨by simpa [Nv] using hown1, ?_⟩
  have hs := hbel.size
  refine (hbel.alloc (by omega) o).grown hg (by simp; omega) ?_
  intro k hk
  exact (hown.lt k hk).1
/-- what Chars answers -/
def CharsOut (s : ByteArray) (w : World) (e : Ending) (w' : World) : Prop :=
  Below w.heap.size w w' ∧ ((Nn.chars s.data.toList = none ∧ e = .returned (.tuple #[.slice none 0 0, .bool false])) ∨
    ∃ l v, Nn.chars s.data.toList = some l ∧ e = .returned (.tuple #[v, .bool true]) ∧ w'.ownsRow w.heap.size 3 1 v l.length (l.map Nv))
theorem Nn.chars_count : ∀ (l : List UInt8) (cs : List Nat), Nn.chars l = some cs → cs.length ≤ l.length := by
  intro l
  induction l using Nn.chars_ind with
  | h0 => intro cs h; rw [Nn.chars_nil] at h; cases h; simp
  | hs l hne ih =>
    intro cs h
    obtain ⟨_, h1, r, rfl, h2⟩ := Nn.chars_head h hne
    have := ih (by omega) r h2
    have hl := List.length_pos_iff.2 hne
    rw [List.length_drop] at this
    simp only [List.length_cons]
    omega
theorem Nn.ext_drop' (s : ByteArray) (i : Nat) : (s.extract i s.size).data.toList = s.data.toList.drop i := by
  rw [ByteArray.data_extract, Array.toList_extract, List.extract_eq_take_drop]
  exact List.take_of_length_le (by rw [List.length_drop, ← Lib.size_eq]; omega)
/-- how far Chars is -/
structure ChS (Z : Option (List Nat)) (n : Nat) (ds : List Nat) (t : ByteArray) : Prop where
  val : (Nn.chars t.data.toList).map (ds ++ ·) = Z
  len : ds.length + t.size ≤ n

set_option maxHeartbeats 2000000 in
theorem rchars_any (s : ByteArray) (w : World) (hs : s.size ≤ 4194304) :
    Calls Tryd.prog 77 #[.string s] w (CharsOut s w) := by
  obtain ⟨i0, hi, hz0, hz1, hz2⟩ := info_of' info_int
  obtain ⟨Z, hZ⟩ : ∃ Z, Nn.chars s.data.toList = Z := ⟨_, rfl⟩
  have HZ : Hid (Nn.chars s.data.toList = Z) := hZ
  have HS : Hid (ChS Z s.size [] s) := ⟨by rw [hZ]; cases Z <;> rfl, by simp⟩
  clear hZ
  go_enter Tryd.func77, Tryd.ntmps77
  go_wp2_with fail
  go_loopg [0, 4] (s.size + 1) (fun g s0 v wr => ∃ (t : ByteArray) (ds : List Nat), s0 = .string t ∧ g = t.size + 1 ∧ Hid (ChS Z s.size ds t) ∧ Hid (wr.ownsRow w.heap.size 3 1 v ds.length (ds.map Nv)) ∧ Hid (Below w.heap.size w wr))
  case atStart => exact ⟨s, [], rfl, rfl, HS, World.ownsRow_nil _ _ _ _, Below.refl _ _⟩
  case round =>
    clear HS
    obtain ⟨t, ds, rfl, rfl, HS, HO, HB⟩ := hrel
    have hlen := HS.out.len
    obtain ⟨a1, c1, rfl⟩ := own_len HO.out
    by_cases h0 : t.data.toList = []
    · have HE : Hid (Z = some ds) := by
        have := HS.out.val
        rw [h0, Nn.chars_nil] at this
        show _ = _
        simpa using this.symm
      obtain rfl := of_data h0
      clear h0
      go_wp2_with fail
      go_ret2
      exact ⟨HB.out, .inr ⟨ds, _, by rw [HZ.out, HE.out], rfl, HO.out⟩⟩
    · have e0 : (t.toList == []) = false := data_ne h0
      have e0' : t.toList.isEmpty = false := by
        rw [Lib.toList_data]
        cases hx : t.data.toList with
        | nil => exact absurd hx h0
        | cons a b => rfl
      have hq := rchar_any t wr (by omega)
      unfold ChOut at hq
      have hv := HS.out.val
      rw [Nn.chars_step _ h0] at hv
      have hle := Nn.chr_le t.data.toList
      rw [← Lib.size_eq] at hle
      have hbs := HB.out.size
      by_cases hn : (Nn.chr t.data.toList).2 = 0
      · have HE : Hid (Z = none) := by
          rw [if_pos hn] at hv
          exact hv.symm
        rw [hn] at hq
        clear hv hle hn
        generalize (Nn.chr t.data.toList).1 = c at *
        go_wp2_with fail
        refine hq.mono ?_
        rintro e w2 ⟨rfl, b2⟩
        have HB2 : Hid (Below w.heap.size w w2) := HB.out.trans (b2.mono HB.out.size)
        clear b2 hq
        go_wp2_with fail
        go_ret2
        exact ⟨HB2.out, .inl ⟨by rw [HZ.out, HE.out], rfl⟩⟩
      · obtain ⟨r, hr⟩ : ∃ r, t.extract (Nn.chr t.data.toList).2 t.size = r := ⟨_, rfl⟩
        have hrz : r.size + (Nn.chr t.data.toList).2 = t.size := by rw [← hr, ByteArray.size_extract]; omega
        have HS2 : Hid (ChS Z s.size (ds ++ [(Nn.chr t.data.toList).1]) r) := by
          refine ⟨?_, by simp; omega⟩
          rw [if_neg hn] at hv
          rw [← hv, ← hr, Nn.ext_drop', Option.map_map]
          congr 1
          funext x
          simp
        generalize (Nn.chr t.data.toList).1 = c at *
        generalize (Nn.chr t.data.toList).2 = n at *
        have hnz : ((n : Int) == 0) = false := by rw [beq_eq_false_iff_ne]; omega
        have hn0 : (0 : Int) ≤ (n : Int) := by omega
        have hnl : (n : Int) ≤ (t.size : Int) := by omega
        have hdl : ds.length ≤ 4194304 := by omega
        clear hv
        go_wp2_with fail
        refine hq.mono ?_
        rintro e w2 ⟨rfl, b2⟩
        have hown := own_below HO.out b2
        have hbel := HB.out.trans (b2.mono HB.out.size)
        have hb2 := hbel.size
        clear b2 hq HO HB
        go_wp2_with (at_builtin; refine wpList_append_own _ rfl _ _ 100 rfl w.heap.size 3 i0 (.int .i64 0) 1 8 Tryd.underlying100 hi hz0 hz1 hz2 rfl (by decide) _ _ _ rfl (hown.alloc _) ⟨w2.heap.size, 0, none⟩ 1 1 [.int .i64 c] rfl rfl ?c1 ?c2 ?c3 ?c4 ?c5 ?_)
        case c1 =>
          intro j u hj
          match j, hj with
          | 0, hj => simp at hj; subst hj; simp [Addr.add]
        case c2 => intro u hu; simp at hu; subst hu; rfl
        case c3 => unfold maxLen; omega
        case c4 => omega
        case c5 => simp; omega
        intro v' w3 hown1 hgrow _
        have R := own_num hown hown1 hgrow hbel (Nat.le_refl _)
        have HR1 : Hid (w3.ownsRow w.heap.size 3 1 v' (ds ++ [c]).length ((ds ++ [c]).map Nv)) := R.1
        have HR2 : Hid (Below w.heap.size w w3) := R.2
        clear R hown1 hgrow hown hbel
        go_wp2_with fail
        go_roundg (r.size + 1)
        case measure => omega
        case rel => exact ⟨r, ds ++ [c], rfl, rfl, HS2, HR1, HR2⟩

theorem num_cell {base : Nat} {w : World} {g n cap : Nat} {l : List Nat} (h : w.ownsRow base 3 1 (.slice (some ⟨g, 0, none⟩) n cap) n (l.map Nv)) (k : Nat) (hk : k < n) :
    w.cell? ⟨g, k, none⟩ = some (.int .i64 (l.getD k 0 : Nat)) := by
  have hn : l.length = n := by have := h.1; simpa using this
  rw [h.cellAt k (by omega), List.getElem?_map, List.getD_eq_getElem?_getD, List.getElem?_eq_getElem (by omega)]
  rfl
theorem Nn.all_drop (l : List Nat) (k : Nat) (hk : k < l.length) : (l.drop k).all Nn.may = (Nn.may (l.getD k 0) && (l.drop (k + 1)).all Nn.may) := by
  rw [List.drop_eq_getElem_cons hk, List.all_cons, List.getD_eq_getElem?_getD, List.getElem?_eq_getElem hk]
  rfl

set_option maxHeartbeats 2000000 in
set_option maxRecDepth 8000 in
theorem rname_any (s : ByteArray) (w : World) (hs : s.size ≤ 4194304) :
    Calls Tryd.prog 66 #[.string s] w fun e w' => e = .returned (.int .i64 (Nn.nm s.data.toList)) ∧ Below w.heap.size w w' := by
  have hq := rchars_any s w hs
  go_enter Tryd.func66, Tryd.ntmps66
  go_wp2_with fail
  refine hq.mono ?_
  rintro e w1 ⟨hb, ⟨hc, rfl⟩ | ⟨l, v, hc, rfl, ho⟩⟩
  · have HE : Hid (Nn.nm s.data.toList = 8) := Nn.nm_none hc
    have HB : Hid (Below w.heap.size w w1) := hb
    clear hb hc hq
    go_wp2_with fail
    go_ret
    exact ⟨by rw [HE.out]; rfl, HB.out⟩
  · have HB : Hid (Below w.heap.size w w1) := hb
    by_cases hf : s.data.toList = [] ∨ s.data.toList = [46] ∨ s.data.toList = [46, 46]
    · have HE : Hid (Nn.nm s.data.toList = 8) := Nn.nm_few hf
      obtain ⟨a1, c1, rfl⟩ := own_len ho
      rcases hf with hf | hf | hf
      · have hl : l = [] := by rw [hf, Nn.chars_nil] at hc; exact (Option.some.inj hc).symm
        subst hl
        clear hb hc hq ho hf
        go_wp2_with fail
        go_ret
        exact ⟨by rw [HE.out]; rfl, HB.out⟩
      all_goals
        have hl : ((l.length : Int) == 0) = false := by
          rw [beq_eq_false_iff_ne]
          have : l ≠ [] := fun e => by
            rw [e] at hc
            have := (Nn.chars_empty _).1 hc
            rw [hf] at this
            cases this
          have := List.length_pos_iff.2 this
          omega
        obtain rfl := of_data hf
        clear hb hc hq ho hf
        go_wp2_with fail
        go_ret
        exact ⟨by rw [HE.out]; rfl, HB.out⟩
    simp only [not_or] at hf
    have HE : Hid (Nn.nm s.data.toList = if l.all Nn.may = false then 8 else if 24 < l.length then 2 else 0) := Nn.nm_some hc hf.1 hf.2.1 hf.2.2
    have hl0 : 1 ≤ l.length := by
      have : l ≠ [] := fun e => hf.1 ((Nn.chars_empty _).1 (by rw [hc, e]))
      exact List.length_pos_iff.2 this
    have hl1 : l.length ≤ 4194304 := by
      have := Nn.chars_count _ _ hc
      rw [← Lib.size_eq] at this
      omega
    have hl : ((l.length : Int) == 0) = false := by rw [beq_eq_false_iff_ne]; omega
    have e1 : (s.toList == [46]) = false := data_ne hf.2.1
    have e2 : (s.toList == [46, 46]) = false := data_ne hf.2.2
    obtain ⟨g, c, rfl, _⟩ := own_some ho (by omega)
    have HO : Hid (w1.ownsRow w.heap.size 3 1 (.slice (some ⟨g, 0, none⟩) l.length c) l.length (l.map Nv)) := ho
    have HS : Hid ((l.drop 0).all Nn.may = l.all Nn.may) := rfl
    obtain ⟨N, hN⟩ : ∃ N, N = l.length := ⟨_, rfl⟩
    have HN : Hid (N = l.length) := hN
    rw [← hN] at HO HE hl hl0 hl1 ⊢
    clear hb hc hq hf ho hN
    generalize l.all Nn.may = A at *
    go_wp2_with fail
    go_loop [29] (fun i => ∃ k : Nat, k ≤ N ∧ i = .int .i64 k ∧ Hid ((l.drop k).all Nn.may = A)) (fun i => N - (intOf i).toNat)
    case atStart => exact ⟨0, by omega, rfl, HS⟩
    case round =>
      clear HS
      obtain ⟨k, hk, rfl, HS⟩ := hrel
      by_cases hlt : k < N
      · have c0 := num_cell HO.out k hlt
        have HD : Hid (A = (Nn.may (l.getD k 0) && (l.drop (k + 1)).all Nn.may)) := by
          show _ = _
          rw [← Nn.all_drop _ _ (by rw [← HN.out]; exact hlt)]; exact HS.out.symm
        generalize l.getD k 0 = b at *
        clear HS
        by_cases h1 : b = 47
        · have HZ : Hid (A = false) := by
            show _ = _
            rw [HD.out, show Nn.may b = false from decide_eq_false (by omega)]; rfl
          subst h1
          clear HD
          go_wp2_with fail
          go_ret
          exact ⟨by rw [HE.out, HZ.out]; rfl, HB.out⟩
        have d1 : ((b : Int) == 47) = false := by rw [beq_eq_false_iff_ne]; omega
        by_cases h2 : b < 32
        · have HZ : Hid (A = false) := by
            show _ = _
            rw [HD.out, show Nn.may b = false from decide_eq_false (by omega)]; rfl
          clear HD h1
          go_wp2_with fail
          go_ret
          exact ⟨by rw [HE.out, HZ.out]; rfl, HB.out⟩
        by_cases h3 : b = 127
        · have HZ : Hid (A = false) := by
            show _ = _
            rw [HD.out, show Nn.may b = false from decide_eq_false (by omega)]; rfl
          subst h3
          clear HD h1 d1
          go_wp2_with fail
          go_ret
          exact ⟨by rw [HE.out, HZ.out]; rfl, HB.out⟩
        have d3 : ((b : Int) == 127) = false := by rw [beq_eq_false_iff_ne]; omega
        have HZ : Hid ((l.drop (k + 1)).all Nn.may = A) := by
          show _ = _
          rw [HD.out, show Nn.may b = true from decide_eq_true (by omega)]; rfl
        clear HD h1 h3
        go_wp2_with fail
        go_round
        case rel => exact ⟨k + 1, by omega, by go_num, HZ⟩
        case measure => simp only [intOf]; omega
      · obtain rfl : k = N := by omega
        have HZ : Hid (A = true) := by
          have := HS.out
          rw [List.drop_eq_nil_of_le (by rw [← HN.out]; omega)] at this
          exact this.symm
        clear HS
        by_cases h24 : 24 < k
        · go_wp2_with fail
          go_ret
          exact ⟨by rw [HE.out, HZ.out, if_neg (by simp), if_pos h24]; rfl, HB.out⟩
        · go_wp2_with fail
          go_ret
          exact ⟨by rw [HE.out, HZ.out, if_neg (by simp), if_neg h24]; rfl, HB.out⟩
end Go.Proofs.YthpcbbkpjggjbaaDoor

namespace Go.Proofs
end Go.Proofs

namespace Go.Proofs.YthpcbbkpjggjbaaDoor
open Go.RowKit

namespace Nn
theorem errsF_len : ∀ (l : List Name) (i : Nat), errsF i l = 0 → i ≤ 8 → i + l.length ≤ 8
  | [], i, _, h => by simpa using h
  | s :: l, i, h, hi => by
    rw [errsF] at h
    split at h
    · simp at h
    split at h
    · rename_i q; exact absurd h q
    · have := errsF_len l (i + 1) h (by omega)
      simp only [List.length_cons]
      omega
theorem errs_len {l : List Name} (h : errs l = 0) : l.length ≤ 8 := by have := errsF_len l 0 h (by omega); omega
theorem tails_len : ∀ (l : List Name), (∀ s ∈ l, s.length ≤ 96) → (tails l).length ≤ 97 * l.length
  | [], _ => by simp [tails]
  | s :: l, h => by
    have h1 := h s (List.mem_cons_self ..)
    have h2 := tails_len l fun t ht => h t (List.mem_cons_of_mem _ ht)
    unfold tails at h2 ⊢
    simp only [List.flatMap_cons, List.length_append, List.length_cons]
    omega
theorem tails_few {l : List Name} (h : errs l = 0) : (tails l).length ≤ 776 := by
  have h1 := tails_len l fun s hs => nm_long (errs_ok h s hs)
  have h2 := errs_len h
  omega
theorem join_tails : ∀ (l : List Name), l ≠ [] → 47 :: Lib.join l [47] = tails l
  | [], h => absurd rfl h
  | [s], _ => by simp [Lib.join, tails, List.intercalate]
  | s :: t :: l, _ => by
    have ih := join_tails (t :: l) (by simp)
    unfold Lib.join at ih ⊢
    simp only [List.intercalate, List.intersperse_cons_cons, List.flatten_cons] at ih ⊢
    rw [show tails (s :: t :: l) = 47 :: s ++ tails (t :: l) from by simp [tails], ← ih]
    simp
end Nn

/-- a text of bytes -/
def St (l : List UInt8) : Value := .string ⟨l.toArray⟩
/-- what Join answers -/
def JnOut (L : List Nn.Name) (w : World) (e : Ending) (w' : World) : Prop :=
  e = .returned (.tuple #[St (Nn.join L).1, .int .i64 (Nn.join L).2]) ∧ Below w.heap.size w w'

theorem cat_slash (x : List UInt8) : (⟨#[47]⟩ : ByteArray) ++ ⟨x.toArray⟩ = ⟨(47 :: x).toArray⟩ := by
  apply ByteArray.ext
  apply Array.toList_inj.1
  simp
end Go.Proofs.YthpcbbkpjggjbaaDoor

namespace Go.Proofs.YthpcbbkpjggjbaaDoor
open Go.RowKit

/-- a text, what stands ahead of its first slash, what stands behind, and whether there is one -/
def CutR (s t r : ByteArray) (m : Bool) : Prop :=
  (m = true ∧ Nn.cut s.data.toList = t.data.toList :: Nn.cut r.data.toList ∧ t.size + r.size + 1 = s.size) ∨ (m = false ∧ Nn.cut s.data.toList = [t.data.toList] ∧ t.size = s.size)
def CutOut (s : ByteArray) (w : World) (e : Ending) (w' : World) : Prop := ∃ t r m, e = .returned (.tuple #[.string t, .string r, .bool m]) ∧ CutR s t r m ∧ Below w.heap.size w w'

/-- a row without its last text -/
theorem own_last {base : Nat} {w : World} {g n cap : Nat} {l : List ByteArray} (h : w.ownsRow base 9 1 (.slice (some ⟨g, 0, none⟩) n cap) n (l.map Tv)) (hn : 1 ≤ n) :
    w.ownsRow base 9 1 (.slice (some ⟨g, 0, none⟩) (n - 1) cap) (n - 1) (l.dropLast.map Tv) := by
  have hl : l.length = n := by have := h.1; simpa using this
  rcases h.2 with ⟨hv, _⟩ | ⟨g', cap', cur, hv, hb, hg, hle, hm, hs, htk⟩
  · cases hv
  · cases hv
    refine ⟨by simp; omega, .inr ⟨g, cap, cur, rfl, hb, hg, by omega, hm, hs, ?_⟩⟩
    rw [List.map_dropLast, ← htk, List.dropLast_eq_take, List.take_take, List.length_take]
    congr 1
    have : cur.toList.length = cap * 1 := by simpa using hs
    omega
/-- one text more behind a row of one's own -/
theorem own_push {base : Nat} {w wr w1 : World} {v v1 : Value} {l : List ByteArray} {t : ByteArray} {o : Obj} (hown : wr.ownsRow base 9 1 v l.length (l.map Tv))
    (hown1 : w1.ownsRow base 9 1 v1 (l.length + 1) (l.map Tv ++ [.string t])) (hg : (wr.alloc o).grownBy w1 v.ownBlock) (hbel : Below base w wr) (hbase : base ≤ w.heap.size) :
    w1.ownsRow base 9 1 v1 (l ++ [t]).length ((l ++ [t]).map Tv) ∧ Below base w w1 := by
  refine ⟨by simpa [Tv] using hown1, ?_⟩
  have hs := hbel.size
  refine (hbel.alloc (by omega) o).grown hg (by simp; omega) ?_
  intro k hk
  exact (hown.lt k hk).1
theorem info_tx : (Tryd.prog.info? 9).map (fun i => (i.zero, i.size, i.bytes)) = some (some (.string ⟨#[]⟩), 1, 16) := by kernel_rfl
theorem info_of {P : Program} {e : TypeId} {z : Option Value} {s b : Nat} (h : (P.info? e).map (fun i => (i.zero, i.size, i.bytes)) = some (z, s, b)) : ∃ i, P.info? e = some i ∧ i.zero = z ∧ i.size = s ∧ i.bytes = b := by
  cases hi : P.info? e with
  | none => rw [hi] at h; cases h
  | some i =>
    rw [hi] at h
    simp only [Option.map_some, Option.some.injEq, Prod.mk.injEq] at h
    exact ⟨i, rfl, h.1, h.2.1, h.2.2⟩
/-- how Clean ends -/
def Nn.clEnd : Option (List Nn.Name) → List UInt8 × Int
  | none => ([], 8)
  | some l => Nn.join l
/-- what Clean answers -/
def ClOut (p : List UInt8) (w : World) (e : Ending) (w' : World) : Prop :=
  e = .returned (.tuple #[St (Nn.clean p).1, .int .i64 (Nn.clean p).2]) ∧ Below w.heap.size w w'
theorem Nn.stk_skip {st : List Nn.Name} {s : Nn.Name} {r : List Nn.Name} (h : s = [] ∨ s = [46]) : Nn.stk st (s :: r) = Nn.stk st r := by
  rw [Nn.stk, if_neg (by rcases h with rfl | rfl <;> simp), if_pos h]
theorem Nn.stk_up {st : List Nn.Name} {r : List Nn.Name} : Nn.stk st ([46, 46] :: r) = if st = [] then none else Nn.stk st.dropLast r := by
  rw [Nn.stk, if_pos rfl]
theorem Nn.stk_keep {st : List Nn.Name} {s : Nn.Name} {r : List Nn.Name} (h0 : s ≠ []) (h1 : s ≠ [46]) (h2 : s ≠ [46, 46]) : Nn.stk st (s :: r) = Nn.stk (st ++ [s]) r := by
  rw [Nn.stk, if_neg h2, if_neg (by simp only [not_or]; exact ⟨h0, h1⟩)]
/-- one part of the text, and what is left -/
theorem CutR.next {s t r : ByteArray} {m : Bool} {st : List Nn.Name} {Z : Option (List Nn.Name)} (h : CutR s t r m) (hz : Nn.stk st (Nn.cut s.data.toList) = Z) : Nn.stk st (t.data.toList :: (if m then Nn.cut r.data.toList else [])) = Z := by
  rcases h with ⟨rfl, h, _⟩ | ⟨rfl, h, _⟩
  · rw [h] at hz; exact hz
  · rw [h] at hz; exact hz
theorem CutR.less {s t r : ByteArray} {m : Bool} (h : CutR s t r m) : (if m then r.size + 1 else 0) < s.size + 1 ∧ t.size + (if m then r.size else 0) ≤ s.size := by
  rcases h with ⟨rfl, _, h⟩ | ⟨rfl, _, h⟩
  · simp only [if_true]; omega
  · simp only [Bool.false_eq_true, if_false]; omega
/-- how far Clean is: what is kept, what is left, whether there is more -/
structure ClS (Z : Option (List Nn.Name)) (n : Nat) (K : List ByteArray) (left : ByteArray) (m : Bool) : Prop where
  stk : Nn.stk (dl K) (if m then Nn.cut left.data.toList else []) = Z
  few : ∀ s ∈ K, s.size ≤ n
  len : K.length + (if m then left.size else 0) ≤ n
  small : (if m then left.size else 0) ≤ n
theorem dl_app (l : List ByteArray) (t : ByteArray) : dl (l ++ [t]) = dl l ++ [t.data.toList] := by simp [dl]
theorem dl_drop (l : List ByteArray) : dl l.dropLast = (dl l).dropLast := by simp [dl, List.map_dropLast]
end Go.Proofs.YthpcbbkpjggjbaaDoor

namespace Go.Proofs.YthpcbbkpjggjbaaDoor
open Go.RowKit
set_option maxRecDepth 4000

/-- what cutAt answers -/
def RcOut (s : ByteArray) (w : World) (e : Ending) (w' : World) : Prop :=
  ∃ v l, e = .returned v ∧ dl l = Nn.cut s.data.toList ∧ (∀ t ∈ l, t.size ≤ s.size) ∧ w'.ownsRow w.heap.size 9 1 v l.length (l.map Tv) ∧ Below w.heap.size w w'
theorem own_one (W : World) (B : Nat) (hB : B ≤ W.heap.size) (x : ByteArray) :
    (W.alloc (.cells #[.string x] 9)).ownsRow B 9 1 (.slice (some ⟨W.heap.size, 0, none⟩) 1 1) 1 ([x].map Tv) :=
  ⟨rfl, .inr ⟨W.heap.size, 1, #[.string x], rfl, hB, heap_alloc_new W _, Nat.le_refl _, by unfold maxLen; omega, rfl, rfl⟩⟩
/-- the row of one text, made behind a world -/
def One (B : Nat) (x : ByteArray) (u : Value) (W : World) : Prop := ∃ g, u = .slice (some ⟨g, 0, none⟩) 1 1 ∧ W.ownsRow B 9 1 u 1 ([x].map Tv)
theorem One.past {B : Nat} {x : ByteArray} (u : Value) (W W' : World) (h : One B x u W) (hg : Gw W W') : One B x u W' := by
  obtain ⟨g, h1, h2⟩ := h
  exact ⟨g, h1, own_below h2 hg⟩
/-- the parts of what is left, as they lie in a world -/
def Cs (r : ByteArray) (n : Nat) (u : Value) (W : World) : Prop := ∃ l, dl l = Nn.cut r.data.toList ∧ (∀ t ∈ l, t.size ≤ n) ∧ Tx W u l
theorem Cs.past {r : ByteArray} {n : Nat} (u : Value) (W W' : World) (h : Cs r n u W) (hg : Gw W W') : Cs r n u W' := by
  obtain ⟨l, h1, h2, h3⟩ := h
  exact ⟨l, h1, h2, h3.below hg⟩
theorem Nn.cut_len : ∀ (l : List UInt8), (Nn.cut l).length ≤ l.length + 1
  | [] => by simp [Nn.cut]
  | b :: l => by
    have := Nn.cut_len l
    rw [Nn.cut]
    split
    · simp only [List.length_cons]; omega
    · simp only [List.length_cons, List.length_tail]; omega

set_option maxHeartbeats 2000000 in
theorem rcut_any : ∀ (n : Nat) (s : ByteArray) (w : World), s.size ≤ n → n ≤ 4194304 →
    Calls Tryd.prog 52 #[.string s] w (RcOut s w) := by
  intro n
  induction n using Nat.strongRecOn with
  | ind n ih =>
  intro s w hsn hn
  have hI := Tryd.strings_IndexByte s 47 w
  rw [show ((47 : Int).toNat.toUInt8) = 47 from rfl] at hI
  rcases Nn.ix_cases 47 s.data.toList with ⟨hix, _⟩ | ⟨i, hix, hroom, _⟩
  · have HC : Hid (Nn.cut s.data.toList = [s.data.toList]) := Nn.cut_none hix
    rw [hix] at hI
    clear hix ih
    go_enter Tryd.func52, Tryd.ntmps52
    go_wp2_with fail
    refine hI.mono ?_
    rintro e u ⟨rfl, hu⟩
    obtain rfl := hu.symm
    go_wp2_with fail
    go_ret
    exact ⟨_, [s], rfl, by rw [HC.out]; rfl, fun t ht => by rw [List.mem_singleton.1 ht]; exact Nat.le_refl _, own_one _ _ (Nat.le_refl _) s, (Below.refl _ _).alloc (Nat.le_refl _) _⟩
  · rw [← Lib.size_eq] at hroom
    obtain ⟨x, hx⟩ : ∃ x, s.extract 0 i = x := ⟨_, rfl⟩
    obtain ⟨r, hr⟩ : ∃ r, s.extract (i + 1) s.size = r := ⟨_, rfl⟩
    have HC : Hid (Nn.cut s.data.toList = x.data.toList :: Nn.cut r.data.toList ∧ x.size ≤ s.size ∧ r.size < s.size) := by
      refine ⟨?_, ?_, ?_⟩
      · rw [Nn.cut_at hix, ← hx, ← hr, Lib.extract_from_zero, Nn.ext_drop]
      · rw [← hx, ByteArray.size_extract]; omega
      · rw [← hr, ByteArray.size_extract]; omega
    have hcall : ∀ W, Calls Tryd.prog 52 #[.string r] W (RcOut r W) := fun W => ih r.size (by have := HC.out.2.2; omega) r W (Nat.le_refl _) (by have := HC.out.2.2; omega)
    have c2 : (↑i : Int) ≤ ↑s.size := by omega
    have c4 : (↑i + 1 : Int) ≤ ↑s.size := by omega
    have c3 : (0 : Int) ≤ ↑i + 1 := by omega
    have c5 : (0 : Int) ≤ (i : Int) := by omega
    rw [hix] at hI
    have hwr : IntKind.i64.wrap ((i : Int) + 1) = (i : Int) + 1 := by
      simp only [IntKind.wrap, IntKind.bits, IntKind.signed]
      simp
      omega
    clear hix ih
    obtain ⟨i0, hi, hz0, hz1, hz2⟩ := info_of info_tx
    go_enter Tryd.func52, Tryd.ntmps52
    go_wp2_with fail
    refine hI.mono ?_
    rintro e u ⟨rfl, hu⟩
    obtain rfl := hu.symm
    go_wp2_with fail
    refine wp_region_rel_tail (G := Gw) (W0 := w) 9 4 Gw.refl Gw.trans (by kernel_rfl) (by decide) (by kernel_rfl) (by kernel_rfl) (.inr (by kernel_rfl)) (Below.refl _ w).drew ?_
    refine .inl ⟨.string s, fun v W hW hd => step_run rfl _ W (by clear hd; go_simp) rfl (Gw.refl _), ?_⟩
    simp only [Act.put, List.setIfInBounds_toArray, List.set_cons_zero, List.set_cons_succ]
    refine .inl ⟨.int .i64 i, fun v W hW hd => step_run rfl _ W (by clear hd; go_simp) rfl (Gw.refl _), ?_⟩
    simp only [Act.put, List.setIfInBounds_toArray, List.set_cons_zero, List.set_cons_succ]
    refine .inl ⟨.string x, fun v W hW hd => step_run rfl _ W (by clear hd; go_simp) rfl (Gw.refl _), ?_⟩
    simp only [Act.put, List.setIfInBounds_toArray, List.set_cons_zero, List.set_cons_succ]
    refine .inr ⟨One w.heap.size x, One.past, fun v W hW _ => step_run rfl _ (W.alloc (.cells #[.string x] 9)) (by go_simp) ⟨_, rfl, own_one W _ hW.size x⟩ ((Below.refl _ W).alloc (Nat.le_refl _) _), ?_⟩
    simp only [Act.put, List.setIfInBounds_toArray, List.set_cons_zero, List.set_cons_succ]
    refine .inl ⟨.string s, fun v W hW hd => step_run rfl _ W (by clear hd; go_simp) rfl (Gw.refl _), ?_⟩
    simp only [Act.put, List.setIfInBounds_toArray, List.set_cons_zero, List.set_cons_succ]
    refine .inl ⟨.int .i64 i, fun v W hW hd => step_run rfl _ W (by clear hd; go_simp) rfl (Gw.refl _), ?_⟩
    simp only [Act.put, List.setIfInBounds_toArray, List.set_cons_zero, List.set_cons_succ]
    refine .inl ⟨.int .i64 ((i : Int) + 1), fun v W hW hd => step_run rfl _ W (by clear hd; go_simp) rfl (Gw.refl _), ?_⟩
    simp only [Act.put, List.setIfInBounds_toArray, List.set_cons_zero, List.set_cons_succ]
    refine .inl ⟨.string r, fun v W hW hd => step_run rfl _ W (by clear hd; go_simp) rfl (Gw.refl _), ?_⟩
    simp only [Act.put, List.setIfInBounds_toArray, List.set_cons_zero, List.set_cons_succ]
    refine .inr ⟨Cs r s.size, Cs.past, fun v W hW _ => step_call rfl 52 #[.string r] (by go_simp) ((hcall W).mono fun e w' ⟨v', l, h1, h2, h3, h4, h5⟩ => ⟨v', h1, ⟨l, h2, fun t ht => Nat.le_trans (h3 t ht) (by have := HC.out.2.2; omega), Tx.of_own h4⟩, h5⟩), ?_⟩
    simp only [Act.put, List.setIfInBounds_toArray, List.set_cons_zero, List.set_cons_succ]
    intro v W hW hV
    have h3 : One w.heap.size x (v 3) W := hV 3 (by decide)
    have h8 : Cs r s.size (v 8) W := hV 8 (by decide)
    clear hV
    obtain ⟨g3, e3, o3⟩ := h3
    obtain ⟨l, d8, k8, x8⟩ := h8
    have hl0 : 1 ≤ l.length := by
      rw [← dl_length, d8]
      exact List.length_pos_iff.2 (Nn.cut_ne _)
    have hl1 : l.length ≤ s.size + 1 := by
      rw [← dl_length, d8]
      have := Nn.cut_len r.data.toList
      rw [← Lib.size_eq] at this
      have := HC.out.2.2
      omega
    obtain ⟨a8, c8, e8⟩ := x8.slice
    rw [e8] at x8
    rw [e3] at o3
    have hsrc := x8.src
    obtain ⟨bk, o, ha, hbk, _⟩ := x8.get 0 (by omega)
    subst ha
    have hsz := hW.size
    simp only [Nat.reduceAdd]
    rw [e3, e8]
    clear e3 e8 hcall hx hr
    refine wpAny_ready (rs := [9]) (by kernel_rfl) (by simp) ?_
    refine AllReady.cons rfl (fun K hK => ?_) AllReady.nil
    rw [if_pos (by rfl)]
    refine wp_append_own W (.tmp 13) (.tmp 18) 50 rfl w.heap.size 9 i0 (.string ⟨#[]⟩) 1 16 Tryd.underlying50 hi hz0 hz1 hz2 rfl (by decide) _ 1 _ rfl o3 ⟨bk, o, none⟩ l.length c8 (l.map Tv) rfl (by simp) (hsrc.2 _ rfl) (tv_one l) (by unfold maxLen; omega) (by omega) hsz ?_
    intro v' w' hown hgrow _
    have HO : Hid (w'.ownsRow w.heap.size 9 1 v' (x :: l).length ((x :: l).map Tv)) := by
      have := hown
      rw [← List.map_append, Nat.add_comm] at this
      exact this
    have HB : Hid (Below w.heap.size w w') := (Below.mono hW (Nat.le_refl _)).grown hgrow hsz fun k hk => by cases hk; exact (o3.lt _ rfl).1
    have HD : Hid (dl (x :: l) = Nn.cut s.data.toList ∧ ∀ t ∈ x :: l, t.size ≤ s.size) := by
      refine ⟨?_, fun t ht => ?_⟩
      · rw [HC.out.1, ← d8]; rfl
      · rcases List.mem_cons.1 ht with rfl | ht
        · exact HC.out.2.1
        · exact k8 t ht
    refine hK _ _ ?_
    clear hK K hown hgrow o3 x8 hsrc d8 k8
    refine wpAny_ready (rs := [10]) (by kernel_rfl) (by simp) ?_
    refine AllReady.cons rfl (fun K hK => ?_) AllReady.nil
    go_simp
    refine hK _ _ ?_
    clear hK K
    refine wpAny_done (by kernel_rfl) ?_ _
    go_wp2_with fail
    go_ret
    exact ⟨_, x :: l, rfl, HD.out.1, HD.out.2, HO.out, HB.out⟩
end Go.Proofs.YthpcbbkpjggjbaaDoor

namespace Go.Proofs.YthpcbbkpjggjbaaDoor
open Go.RowKit
set_option maxRecDepth 4000

set_option maxHeartbeats 1000000 in
theorem rerr_any (v : Value) (l : List ByteArray) (w : World) (h : Tx w v l) (hl : l.length ≤ 140737488351232) (hf : ∀ s ∈ l, s.size ≤ 4194304) :
    Calls Tryd.prog 53 #[v] w fun e w' => e = .returned (.int .i64 (Nn.errs (dl l))) ∧ Below w.heap.size w w' := by
  obtain ⟨a, c, rfl⟩ := h.slice
  have HS : Hid (Nn.errsF 0 (dl (l.drop 0)) = Nn.errs (dl l)) := rfl
  have HX : Hid (Tx w (.slice a l.length c) l) := h
  have HF : Hid (∀ s ∈ l, s.size ≤ 4194304) := hf
  clear h hf
  obtain ⟨N, hN⟩ : ∃ N, N = l.length := ⟨_, rfl⟩
  have HN : Hid (N = l.length) := hN
  rw [← hN] at HX hl ⊢
  clear hN
  generalize Nn.errs (dl l) = Z at *
  go_enter Tryd.func53, Tryd.ntmps53
  go_wp2_with fail
  go_loopw [8] (fun i wr => ∃ k : Nat, k ≤ N ∧ i = .int .i64 k ∧ Hid (Nn.errsF k (dl (l.drop k)) = Z) ∧ Hid (Below w.heap.size w wr)) (fun i _ => N - (intOf i).toNat)
  case atStart => exact ⟨0, by omega, rfl, HS, Below.refl _ _⟩
  case round =>
    clear HS
    obtain ⟨k, hk, rfl, HS, HB⟩ := hrel
    by_cases hlt : k < N
    · obtain ⟨bk, o, rfl, hbk, c0⟩ := (HX.out.below HB.out).get k (by rw [← HN.out]; omega)
      have hz : (l.getD k ByteArray.empty).size ≤ 4194304 := by
        have hk' : k < l.length := by rw [← HN.out]; exact hlt
        rw [List.getD_eq_getElem?_getD, List.getElem?_eq_getElem hk']
        exact HF.out _ (List.getElem_mem hk')
      have HD : Hid (Z = if 8 ≤ k then 14 else if Nn.nm (l.getD k ByteArray.empty).data.toList ≠ 0 then Nn.nm (l.getD k ByteArray.empty).data.toList else Nn.errsF (k + 1) (dl (l.drop (k + 1)))) := by
        show _ = _
        rw [← errsF_drop _ _ (by rw [← HN.out]; omega)]; exact HS.out.symm
      have hq := rname_any (l.getD k ByteArray.empty) wr hz
      generalize l.getD k ByteArray.empty = s at *
      generalize Nn.nm s.data.toList = E at *
      clear HS
      by_cases h8 : 8 ≤ k
      · have HZ : Hid (Z = 14) := by have := HD.out; rwa [if_pos h8] at this
        clear hq
        go_wp2_with fail
        go_ret
        exact ⟨by rw [HZ.out]; rfl, HB.out⟩
      · by_cases h0 : E = 0
        · have HZ : Hid (Nn.errsF (k + 1) (dl (l.drop (k + 1))) = Z) := by have := HD.out; rw [if_neg h8, if_neg (by simpa using h0)] at this; exact this.symm
          rw [h0] at hq
          clear h0 HD
          go_wp2_with fail
          refine hq.mono ?_
          rintro e u ⟨rfl, bu⟩
          have HB2 : Hid (Below w.heap.size w u) := HB.out.trans (bu.mono HB.out.size)
          clear bu
          go_wp2_with fail
          go_roundw
          case rel => exact ⟨k + 1, by omega, by go_num, HZ, HB2⟩
          case measure => simp only [intOf]; omega
        · have HZ : Hid (Z = E) := by have := HD.out; rwa [if_neg h8, if_pos h0] at this
          have hqn : (E != 0) = true := by rw [bne_iff_ne]; exact h0
          clear HD
          go_wp2_with fail
          refine hq.mono ?_
          rintro e u ⟨rfl, bu⟩
          have HB2 : Hid (Below w.heap.size w u) := HB.out.trans (bu.mono HB.out.size)
          clear bu
          go_wp2_with fail
          go_ret
          exact ⟨by rw [HZ.out]; rfl, HB2.out⟩
    · have HZ : Hid (Z = 0) := by
        have := HS.out
        rw [List.drop_eq_nil_of_le (by rw [← HN.out]; omega)] at this
        exact this.symm
      obtain rfl : k = N := by omega
      go_wp2_with fail
      go_ret
      exact ⟨by rw [HZ.out]; rfl, HB.out⟩

theorem few_cut {s : ByteArray} (l : List ByteArray) (h : ∀ t ∈ l, t.size ≤ s.size) (hs : s.size ≤ 4194304) : ∀ t ∈ l, t.size ≤ 4194304 := fun t ht => Nat.le_trans (h t ht) hs
theorem rn_tail_data (p : ByteArray) : (p.extract 1 p.size).data.toList = p.data.toList.tail := by rw [Nn.ext_drop, List.drop_one]
theorem cut_len_of {s : ByteArray} {l : List ByteArray} (h : dl l = Nn.cut s.data.toList) : l.length ≤ s.size + 1 := by
  rw [← dl_length, h, Lib.size_eq]
  exact Nn.cut_len _

set_option maxHeartbeats 2000000 in
theorem rsplit_any (p : ByteArray) (w : World) (hp : p.size ≤ 4194304) :
    Calls Tryd.prog 37 #[.string p] w (SpOut p w) := by
  by_cases h0 : p.data.toList = []
  · have HS : Hid (Nn.split p.data.toList = ([], 8)) := by
      show _ = _
      unfold Nn.split; rw [if_pos (by rw [h0]; simp)]
    obtain rfl := of_data h0
    clear h0
    go_enter Tryd.func37, Tryd.ntmps37
    go_wp2_with fail
    go_ret2
    exact ⟨_, [], by rw [HS.out]; rfl, by rw [HS.out]; rfl, Tx.none _, Cp.none, Below.refl _ _⟩
  have e0 : (p.toList == []) = false := data_ne h0
  have e0' : p.toList.isEmpty = false := by
    rw [Lib.toList_data]
    cases hx : p.data.toList with
    | nil => exact absurd hx h0
    | cons a b => rfl
  have h1 : 0 < p.size := by
    rw [Lib.size_eq]; exact List.length_pos_iff.2 h0
  have h1z : (0 : Int) < (p.size : Int) := by omega
  have h1y : (1 : Int) ≤ (p.size : Int) := by omega
  have hhd : p.data.toList.head? = some p[0] := by
    rw [List.head?_eq_getElem?]
    exact Lib.data_getElem? p 0 h1
  obtain ⟨b, hb⟩ : ∃ b, p[0] = b := ⟨_, rfl⟩
  rw [hb] at hhd
  by_cases h47 : b = 47
  · have d1 : ((b.toNat : Int) != 47) = false := by rw [h47]; rfl
    by_cases hr : p.data.toList = [47]
    · have HS : Hid (Nn.split p.data.toList = ([], 0)) := by
        show _ = _
        unfold Nn.split; rw [if_neg (by rw [hhd, h47]; simp), if_pos hr]
      have e1 : (p.toList == [47]) = true := by rw [Lib.toList_data, hr]; rfl
      clear h0 hhd h47 hr
      go_enter Tryd.func37, Tryd.ntmps37
      go_wp2_with fail
      go_ret2
      exact ⟨_, [], by rw [HS.out]; rfl, by rw [HS.out]; rfl, Tx.none _, Cp.none, Below.refl _ _⟩
    have e1 : (p.toList == [47]) = false := data_ne hr
    have hc := rcut_any (p.extract 1 p.size).size (p.extract 1 p.size) w (Nat.le_refl _) (by rw [ByteArray.size_extract]; omega)
    have htz : (p.extract 1 p.size).size ≤ 4194304 := by rw [ByteArray.size_extract]; omega
    have HD : Hid (Nn.split p.data.toList = if Nn.errs (Nn.cut p.data.toList.tail) ≠ 0 then ([], Nn.errs (Nn.cut p.data.toList.tail)) else (Nn.cut p.data.toList.tail, 0)) := by
      show _ = _
      unfold Nn.split; rw [if_neg (by rw [hhd, h47]; simp), if_neg hr]
    have HTl : Hid ((p.extract 1 p.size).data.toList = p.data.toList.tail) := rn_tail_data p
    clear h0 hhd h47 hr
    obtain ⟨q, hqe⟩ : ∃ q, p.extract 1 p.size = q := ⟨_, rfl⟩
    rw [hqe] at hc htz HTl
    go_enter Tryd.func37, Tryd.ntmps37
    go_wp2_with fail
    refine hc.mono ?_
    rintro e w1 ⟨v, l, rfl, hd, hf, ho, hbl⟩
    have hln := cut_len_of hd
    have he := rerr_any v l w1 (Tx.of_own ho) (by omega) (few_cut l hf htz)
    rw [hd, HTl.out] at he
    have HO : Hid (w1.ownsRow w.heap.size 9 1 v l.length (l.map Tv)) := ho
    have HDl : Hid (dl l = Nn.cut p.data.toList.tail) := by rw [← HTl.out]; exact hd
    have HB : Hid (Below w.heap.size w w1) := hbl
    generalize Nn.cut p.data.toList.tail = L at *
    obtain ⟨a1, c1, rfl⟩ := own_len ho
    clear ho hbl hd hf hc HTl hqe
    by_cases hz : Nn.errs L = 0
    · have HS : Hid (Nn.split p.data.toList = (L, 0)) := by
        have := HD.out
        rwa [if_neg (by simpa using hz)] at this
      rw [hz] at he
      clear hz HD
      go_wp2_with fail
      refine he.mono ?_
      rintro e w2 ⟨rfl, b2⟩
      have HB2 : Hid (Below w.heap.size w w2) := HB.out.trans (b2.mono HB.out.size)
      have HX : Hid (Tx w2 (.slice a1 l.length c1) l) := (Tx.of_own HO.out).below b2
      clear b2 he
      go_wp2_with fail
      go_ret2
      exact ⟨_, l, by rw [HS.out]; rfl, by rw [HS.out]; exact HDl.out, HX.out, Cp.of_own HO.out, HB2.out⟩
    · have HS : Hid (Nn.split p.data.toList = ([], Nn.errs L)) := by
        have := HD.out
        rwa [if_pos hz] at this
      generalize Nn.errs L = E at *
      have hqn : (E != 0) = true := by rw [bne_iff_ne]; exact hz
      clear hz HD
      go_wp2_with fail
      refine he.mono ?_
      rintro e w2 ⟨rfl, b2⟩
      have HB2 : Hid (Below w.heap.size w w2) := HB.out.trans (b2.mono HB.out.size)
      clear b2 he
      go_wp2_with fail
      go_ret2
      exact ⟨_, [], by rw [HS.out]; rfl, by rw [HS.out]; rfl, Tx.none _, Cp.none, HB2.out⟩
  · have hbn : b.toNat ≠ 47 := fun h => h47 (UInt8.toNat_inj.1 (by rw [h]; rfl))
    have d1 : ((b.toNat : Int) != 47) = true := by rw [bne_iff_ne]; omega
    have HS : Hid (Nn.split p.data.toList = ([], 8)) := by
      show _ = _
      unfold Nn.split; rw [if_pos (by rw [hhd]; simpa using h47)]
    clear h0 hhd h47 hbn
    go_enter Tryd.func37, Tryd.ntmps37
    go_wp2_with fail
    go_ret2
    exact ⟨_, [], by rw [HS.out]; rfl, by rw [HS.out]; rfl, Tx.none _, Cp.none, Below.refl _ _⟩
end Go.Proofs.YthpcbbkpjggjbaaDoor

namespace Go.Proofs.YthpcbbkpjggjbaaDoor
open Go.RowKit
set_option maxRecDepth 4000

theorem tails_snoc (l : List Nn.Name) (s : Nn.Name) : Nn.tails (l ++ [s]) = Nn.tails l ++ 47 :: s := by simp [Nn.tails]
theorem dl_take (l : List ByteArray) (k : Nat) (hk : k < l.length) : dl (l.take (k + 1)) = dl (l.take k) ++ [(l.getD k ByteArray.empty).data.toList] := by
  rw [List.take_succ_eq_append_getElem hk, dl_app, List.getD_eq_getElem?_getD, List.getElem?_eq_getElem hk]
  rfl
theorem tails_take {l : List ByteArray} (h : (Nn.tails (dl l)).length ≤ 776) (k : Nat) : (Nn.tails (dl (l.take k))).length ≤ 776 := by
  have e : Nn.tails (dl l) = Nn.tails (dl (l.take k)) ++ Nn.tails (dl (l.drop k)) := by
    unfold Nn.tails
    rw [← List.flatMap_append]
    congr 1
    unfold dl
    rw [← List.map_append, List.take_append_drop]
  rw [e, List.length_append] at h
  omega
theorem cat_more (x : List UInt8) (t : ByteArray) : (⟨x.toArray⟩ : ByteArray) ++ ((⟨#[47]⟩ : ByteArray) ++ t) = ⟨(x ++ 47 :: t.data.toList).toArray⟩ := by
  apply ByteArray.ext
  apply Array.toList_inj.1
  simp

set_option maxHeartbeats 2000000 in
theorem rjoin_any (v : Value) (l : List ByteArray) (w : World) (h : Tx w v l) (hl : l.length ≤ 140737488351232) (hf : ∀ s ∈ l, s.size ≤ 4194304) :
    Calls Tryd.prog 47 #[v] w (JnOut (dl l) w) := by
  have he := rerr_any v l w h hl hf
  obtain ⟨a, c, rfl⟩ := h.slice
  by_cases h0 : Nn.errs (dl l) = 0
  · rw [h0] at he
    by_cases hn : l = []
    · have HJ : Hid (Nn.join (dl l) = ([47], 0)) := by
        show _ = _
        unfold Nn.join
        rw [if_neg (by simpa using h0), hn]; rfl
      subst hn
      clear h h0
      go_enter Tryd.func47, Tryd.ntmps47
      go_wp2_with fail
      refine he.mono ?_
      rintro e w1 ⟨rfl, b1⟩
      have HB : Hid (Below w.heap.size w w1) := b1
      clear b1 he
      go_wp2_with fail
      go_ret2
      exact ⟨by rw [HJ.out]; rfl, HB.out⟩
    · have HJ : Hid (Nn.join (dl l) = (Nn.tails (dl l), 0)) := by
        show _ = _
        unfold Nn.join Nn.joinB
        rw [if_neg (by simpa using h0), if_neg (fun e => hn (by simpa [dl] using e))]
      have HT : Hid ((Nn.tails (dl l)).length ≤ 776) := Nn.tails_few h0
      have HX : Hid (Tx w (.slice a l.length c) l) := h
      have hl8 : l.length ≤ 8 := by
        have := Nn.errs_len h0
        rwa [dl_length] at this
      have hl1 : 1 ≤ l.length := List.length_pos_iff.2 hn
      have HZ : Hid (∀ k, k < l.length → (l.getD k ByteArray.empty).size ≤ 96) := fun k hk => by
        rw [List.getD_eq_getElem?_getD, List.getElem?_eq_getElem hk]
        have := Nn.nm_long (Nn.errs_ok h0 _ (List.mem_map_of_mem (List.getElem_mem hk)))
        rw [← Lib.size_eq] at this
        exact this
      obtain ⟨N, hN⟩ : ∃ N, N = l.length := ⟨_, rfl⟩
      have HN : Hid (N = l.length) := hN
      rw [← hN] at HX he hl8 hl1 ⊢
      have hz : ((N : Int) == 0) = false := by rw [beq_eq_false_iff_ne]; omega
      clear h h0 hn hN hf hl
      go_enter Tryd.func47, Tryd.ntmps47
      go_wp2_with fail
      refine he.mono ?_
      rintro e w1 ⟨rfl, b1⟩
      have HB : Hid (Below w.heap.size w w1) := b1
      have HX1 : Hid (Tx w1 (.slice a N c) l) := HX.out.below b1
      clear b1 he HX
      go_wp2_with fail
      go_loop [5, 18] (fun o i => ∃ k : Nat, k ≤ N ∧ i = .int .i64 k ∧ o = St (Nn.tails (dl (l.take k)))) (fun _ i => N - (intOf i).toNat)
      case atStart => exact ⟨0, by omega, rfl, rfl⟩
      case round =>
        obtain ⟨k, hk, rfl, rfl⟩ := hrel
        by_cases hlt : k < N
        · have hkl : k < l.length := by rw [← HN.out]; exact hlt
          obtain ⟨bk, o, rfl, hbk, c0⟩ := HX1.out.get k hkl
          have h96 := HZ.out k hkl
          have hx := tails_take HT.out k
          have HK : Hid (Nn.tails (dl (l.take (k + 1))) = Nn.tails (dl (l.take k)) ++ 47 :: (l.getD k ByteArray.empty).data.toList) := by
            show _ = _
            rw [dl_take _ _ hkl, tails_snoc]
          generalize l.getD k ByteArray.empty = t at *
          generalize Nn.tails (dl (l.take k)) = X at *
          have hsum : ¬ 9223372036854775807 < X.length + (1 + t.size) := by omega
          have hsum1 : ¬ 9223372036854775807 < 1 + t.size := by omega
          rw [St]
          go_wp2_with fail
          go_round
          case rel => exact ⟨k + 1, by omega, by go_num, by rw [HK.out, cat_more]; rfl⟩
          case measure => simp only [intOf]; omega
        · obtain rfl : k = N := by omega
          have HK : Hid (Nn.tails (dl (l.take k)) = Nn.tails (dl l)) := by
            show _ = _
            rw [HN.out, List.take_length]
          go_wp2_with fail
          go_ret2
          exact ⟨by rw [HJ.out, ← HK.out]; rfl, HB.out⟩
  · have HJ : Hid (Nn.join (dl l) = ([], Nn.errs (dl l))) := by
      show _ = _
      unfold Nn.join
      rw [if_pos h0]
    generalize Nn.errs (dl l) = E at *
    have hqn : (E != 0) = true := by rw [bne_iff_ne]; exact h0
    clear h h0
    go_enter Tryd.func47, Tryd.ntmps47
    go_wp2_with fail
    refine he.mono ?_
    rintro e w1 ⟨rfl, b1⟩
    have HB : Hid (Below w.heap.size w w1) := b1
    clear b1 he
    go_wp2_with fail
    go_ret2
    exact ⟨by rw [HJ.out]; rfl, HB.out⟩

/-- how far Clean is: what is kept, and what is left of the parts -/
structure RlS (Z : Option (List Nn.Name)) (n : Nat) (K L : List ByteArray) (k : Nat) : Prop where
  stk : Nn.stk (dl K) (dl (L.drop k)) = Z
  few : ∀ s ∈ K, s.size ≤ n
  len : K.length ≤ k
theorem dl_cons (L : List ByteArray) (k : Nat) (hk : k < L.length) : dl (L.drop k) = (L.getD k ByteArray.empty).data.toList :: dl (L.drop (k + 1)) := by
  rw [List.drop_eq_getElem_cons hk, List.getD_eq_getElem?_getD, List.getElem?_eq_getElem hk]
  rfl
end Go.Proofs.YthpcbbkpjggjbaaDoor

namespace Go.Proofs.YthpcbbkpjggjbaaDoor
open Go.RowKit
set_option maxRecDepth 4000

/-- all but the first text -/
theorem tx_tail {w : World} {bk o n c : Nat} {t : ByteArray} {l : List ByteArray} (h : Tx w (.slice (some ⟨bk, o, none⟩) (n + 1) c) (t :: l)) (hc : n + 1 ≤ c) :
    Tx w (.slice (if c = 1 then some ⟨bk, o, none⟩ else some ⟨bk, o + 1, none⟩) n (c - 1)) l ∧ Cp (.slice (if c = 1 then some (⟨bk, o, none⟩ : Addr) else some ⟨bk, o + 1, none⟩) n (c - 1)) := by
  refine ⟨?_, fun a m d he => by cases he; omega⟩
  rcases h.at_ with ⟨_, hx⟩ | ⟨bk', o', cap, hv, hb, hcell⟩
  · cases hx
  · simp at hv
    obtain ⟨⟨rfl, rfl⟩, rfl, rfl⟩ := hv
    cases l with
    | nil => exact ⟨.inl ⟨⟨_, _, rfl⟩, rfl⟩⟩
    | cons u l =>
      simp only [List.length_cons] at hc
      refine ⟨.inr ⟨bk, o + 1, c - 1, by rw [if_neg (by omega)], hb, fun j hj => ?_⟩⟩
      have := hcell (j + 1) (by simp only [List.length_cons] at hj ⊢; omega)
      rw [show o + 1 + j = o + (j + 1) from by omega, this]
      simp

set_option maxHeartbeats 2000000 in
theorem rahead_any : ∀ (l m : List ByteArray) (v1 v2 : Value) (w : World), Tx w v1 l → Tx w v2 m → Cp v1 → Cp v2 → l.length ≤ 4194305 → m.length ≤ 4194305 →
    Calls Tryd.prog 54 #[v1, v2] w fun e w' => e = .returned (.bool (Nn.ahead (dl l) (dl m))) ∧ Below w.heap.size w w' := by
  intro l
  induction l with
  | nil =>
    intro m v1 v2 w h1 h2 _ _ _ hm
    obtain ⟨a1, c1, rfl⟩ := h1.slice
    obtain ⟨a2, c2, rfl⟩ := h2.slice
    cases m with
    | nil =>
      clear h1 h2
      go_enter Tryd.func54, Tryd.ntmps54
      go_wp2_with fail
      go_ret
      exact ⟨rfl, Below.refl _ _⟩
    | cons t m =>
      have hz : (((t :: m).length : Int) == 0) = false := by rw [beq_eq_false_iff_ne]; simp; omega
      have HA : Hid (Nn.ahead (dl []) (dl (t :: m)) = true) := rfl
      generalize (t :: m).length = n at *
      clear h1 h2
      go_enter Tryd.func54, Tryd.ntmps54
      go_wp2_with fail
      go_ret
      exact ⟨by rw [HA.out]; rfl, Below.refl _ _⟩
  | cons s l ih =>
    intro m v1 v2 w h1 h2 hc1 hc2 hl hm
    obtain ⟨a1, c1, rfl⟩ := h1.slice
    obtain ⟨a2, c2, rfl⟩ := h2.slice
    cases m with
    | nil =>
      have HA : Hid (Nn.ahead (dl (s :: l)) (dl []) = false) := rfl
      generalize (s :: l).length = n at *
      clear h1 h2 ih
      go_enter Tryd.func54, Tryd.ntmps54
      go_wp2_with fail
      go_ret
      exact ⟨by rw [HA.out]; rfl, Below.refl _ _⟩
    | cons t m =>
      have k1 := hc1 _ _ _ rfl
      have k2 := hc2 _ _ _ rfl
      obtain ⟨bk, o, rfl, hbk, d1⟩ := h1.get 0 (by simp)
      obtain ⟨bk', o', rfl, hbk', d2⟩ := h2.get 0 (by simp)
      simp only [List.length_cons] at h1 h2 k1 k2 hl hm ⊢
      rw [Nat.add_zero] at d1 d2
      have d1 : w.cell? ⟨bk, o, none⟩ = some (.string s) := d1
      have d2 : w.cell? ⟨bk', o', none⟩ = some (.string t) := d2
      have x1 := tx_tail h1 k1
      have x2 := tx_tail h2 k2
      have HA : Hid (Nn.ahead (dl (s :: l)) (dl (t :: m)) = if s.data.toList = t.data.toList then Nn.ahead (dl l) (dl m) else Op.bytesLess s.data.toList t.data.toList) := rfl
      have hi := fun u (hu : Below w.heap.size w u) => ih m _ _ u (x1.1.below hu) (x2.1.below hu) x1.2 x2.2 (by omega) (by omega)
      generalize l.length = n1 at *
      generalize m.length = n2 at *
      have z1 : (((n1 + 1 : Nat) : Int) == 0) = false := by rw [beq_eq_false_iff_ne]; omega
      have z2 : (((n2 + 1 : Nat) : Int) == 0) = false := by rw [beq_eq_false_iff_ne]; omega
      clear ih h1 h2 x1 x2 hc1 hc2
      obtain ⟨A1, hA1⟩ : ∃ A1, (if c1 = 1 then some (⟨bk, o, none⟩ : Addr) else some ⟨bk, o + 1, none⟩) = A1 := ⟨_, rfl⟩
      obtain ⟨A2, hA2⟩ : ∃ A2, (if c2 = 1 then some (⟨bk', o', none⟩ : Addr) else some ⟨bk', o' + 1, none⟩) = A2 := ⟨_, rfl⟩
      rw [hA1, hA2] at hi
      by_cases he : s.data.toList = t.data.toList
      · have HE : Hid (Nn.ahead (dl (s :: l)) (dl (t :: m)) = Nn.ahead (dl l) (dl m)) := by
          have := HA.out
          rwa [if_pos he] at this
        have e1 : (s.toList == t.toList) = true := by rw [Lib.toList_data, Lib.toList_data, he, beq_self_eq_true]
        generalize Nn.ahead (dl l) (dl m) = R at *
        clear HA he
        go_enter Tryd.func54, Tryd.ntmps54
        go_wp2_with fail
        go_region
        go_wp2_with fail
        have hsz : w.heap.size ≤ w.drew.heap.size := Nat.le_refl _
        refine wp_region_rel (G := Gw) (W0 := w.drew) Gw.refl Gw.trans (by kernel_rfl) (by kernel_rfl) (by kernel_rfl) (Below.refl _ w.drew).drew ?_
        refine .inl ⟨.slice (some ⟨bk, o, none⟩) (n1 + 1) c1, fun v W hW hd => step_run rfl _ W (by clear hd; go_simp) rfl (Gw.refl _), ?_⟩
        simp only [Act.put, List.setIfInBounds_toArray, List.set_cons_zero, List.set_cons_succ]
        refine .inl ⟨.slice A1 n1 (c1 - 1), fun v W hW hd => step_run rfl _ W (by clear hd hi; go_simp; intro hq; omega) rfl (Gw.refl _), ?_⟩
        simp only [Act.put, List.setIfInBounds_toArray, List.set_cons_zero, List.set_cons_succ]
        refine .inl ⟨.slice (some ⟨bk', o', none⟩) (n2 + 1) c2, fun v W hW hd => step_run rfl _ W (by clear hd; go_simp) rfl (Gw.refl _), ?_⟩
        simp only [Act.put, List.setIfInBounds_toArray, List.set_cons_zero, List.set_cons_succ]
        refine .inl ⟨.slice A2 n2 (c2 - 1), fun v W hW hd => step_run rfl _ W (by clear hd hi; go_simp; intro hq; omega) rfl (Gw.refl _), ?_⟩
        simp only [Act.put, List.setIfInBounds_toArray, List.set_cons_zero, List.set_cons_succ]
        refine .inl ⟨.bool R, fun v W hW hd => step_call rfl 54 #[.slice A1 n1 (c1 - 1), .slice A2 n2 (c2 - 1)] (by clear hd; go_simp) ((hi W ((Below.refl _ w).drew.trans (Below.mono hW hsz))).mono fun e w' h => ⟨_, h.1, rfl, h.2⟩), ?_⟩
        simp only [Act.put, List.setIfInBounds_toArray, List.set_cons_zero, List.set_cons_succ]
        refine .inl ⟨.bool R, fun v W hW hd => step_run rfl _ W (by clear hd; go_simp) rfl (Gw.refl _), ?_⟩
        simp only [Act.put, List.setIfInBounds_toArray, List.set_cons_zero, List.set_cons_succ]
        intro v W hW _
        have HB : Hid (Below w.heap.size w W) := (Below.refl _ w).drew.trans (Below.mono hW hsz)
        clear hi hW hA1 hA2
        go_wp2_with fail
        go_ret
        exact ⟨by rw [HE.out]; rfl, HB.out⟩
      · have HE : Hid (Nn.ahead (dl (s :: l)) (dl (t :: m)) = Op.bytesLess s.toList t.toList) := by
          have := HA.out
          rw [if_neg he] at this
          rw [Lib.toList_data, Lib.toList_data]
          exact this
        have e1 : (s.toList == t.toList) = false := by rw [Lib.toList_data, Lib.toList_data, beq_eq_false_iff_ne]; exact he
        clear HA he hi hA1 hA2
        go_enter Tryd.func54, Tryd.ntmps54
        go_wp2_with fail
        go_region
        go_wp2_with fail
        go_region
        go_wp2_with fail
        go_ret
        exact ⟨by rw [HE.out]; rfl, by first | exact Below.refl _ _ | exact (Below.refl _ _).drew | exact (Below.refl _ _).drew.drew⟩

set_option maxHeartbeats 1000000 in
theorem rless_any (a b : ByteArray) (w : World) (ha : a.size ≤ 4194304) (hb : b.size ≤ 4194304) :
    Calls Tryd.prog 38 #[.string a, .string b] w fun e w' => e = .returned (.tuple #[.bool (Nn.less a.data.toList b.data.toList).1, .int .i64 (Nn.less a.data.toList b.data.toList).2]) ∧ Below w.heap.size w w' := by
  have h1 := rsplit_any a w ha
  by_cases e1 : (Nn.split a.data.toList).2 = 0
  · by_cases e2 : (Nn.split b.data.toList).2 = 0
    · have HL : Hid (Nn.less a.data.toList b.data.toList = (Nn.ahead (Nn.split a.data.toList).1 (Nn.split b.data.toList).1, 0)) := by
        show _ = _
        unfold Nn.less
        rw [if_neg (by simpa using e1), if_neg (by simpa using e2)]
      have k1 := split_len e1
      have k2 := split_len e2
      go_enter Tryd.func38, Tryd.ntmps38
      go_wp2_with fail
      refine h1.mono ?_
      rintro e w1 ⟨v1, l1, rfl, hd1, x1, p1, b1⟩
      have h2 := rsplit_any b w1 hb
      rw [← hd1] at HL k1
      rw [e1]
      clear h1 hd1 e1
      go_wp2_with fail
      refine h2.mono ?_
      rintro e w2 ⟨v2, l2, rfl, hd2, x2, p2, b2⟩
      rw [← hd2] at HL k2
      rw [e2]
      rw [dl_length] at k1 k2
      have hq := rahead_any l1 l2 v1 v2 w2 (x1.below b2) x2 p1 p2 (by omega) (by omega)
      have HB : Hid (Below w.heap.size w w2) := b1.trans (b2.mono b1.size)
      obtain ⟨a1, c1, rfl⟩ := x1.slice
      obtain ⟨a2, c2, rfl⟩ := x2.slice
      generalize Nn.ahead (dl l1) (dl l2) = Z at *
      clear h2 hd2 e2 x1 x2 b1 b2
      go_wp2_with fail
      refine hq.mono ?_
      rintro e u ⟨rfl, hu⟩
      have HB2 : Hid (Below w.heap.size w u) := HB.out.trans (hu.mono HB.out.size)
      clear hu
      go_wp2_with fail
      go_ret2
      exact ⟨by rw [HL.out]; rfl, HB2.out⟩
    · have HL : Hid (Nn.less a.data.toList b.data.toList = (false, (Nn.split b.data.toList).2)) := by
        show _ = _
        unfold Nn.less
        rw [if_neg (by simpa using e1), if_pos e2]
      go_enter Tryd.func38, Tryd.ntmps38
      go_wp2_with fail
      refine h1.mono ?_
      rintro e w1 ⟨v1, l1, rfl, _, x1, _, b1⟩
      have h2 := rsplit_any b w1 hb
      have HB : Hid (Below w.heap.size w w1) := b1
      rw [e1]
      obtain ⟨a1, c1, rfl⟩ := x1.slice
      clear h1 e1 x1 b1
      go_wp2_with fail
      refine h2.mono ?_
      rintro e w2 ⟨v2, l2, rfl, _, x2, _, b2⟩
      have HB2 : Hid (Below w.heap.size w w2) := HB.out.trans (b2.mono HB.out.size)
      obtain ⟨a2, c2, rfl⟩ := x2.slice
      generalize (Nn.split b.data.toList).2 = E at *
      have hqn : (E != 0) = true := by rw [bne_iff_ne]; exact e2
      clear h2 e2 x2 b2
      go_wp2_with fail
      go_ret2
      exact ⟨by rw [HL.out]; rfl, HB2.out⟩
  · have HL : Hid (Nn.less a.data.toList b.data.toList = (false, (Nn.split a.data.toList).2)) := by
      show _ = _
      unfold Nn.less
      rw [if_pos e1]
    go_enter Tryd.func38, Tryd.ntmps38
    go_wp2_with fail
    refine h1.mono ?_
    rintro e w1 ⟨v1, l1, rfl, _, x1, _, b1⟩
    have HB : Hid (Below w.heap.size w w1) := b1
    obtain ⟨a1, c1, rfl⟩ := x1.slice
    generalize (Nn.split a.data.toList).2 = E at *
    have hqn : (E != 0) = true := by rw [bne_iff_ne]; exact e1
    clear h1 e1 x1 b1
    go_wp2_with fail
    go_ret2
    exact ⟨by rw [HL.out]; rfl, HB.out⟩
end Go.Proofs.YthpcbbkpjggjbaaDoor

namespace Go.Proofs.YthpcbbkpjggjbaaDoor
open Go.RowKit
set_option maxRecDepth 4000

theorem put_behind {p : Wk.Bs} : ∀ (l : List Wk.Bs) (k : Nat), k ≤ l.length → (∀ j q, j < k → l[j]? = some q → (Nn.less q p).1 = true) → Dl.put l p = l.take k ++ Dl.put (l.drop k) p
  | l, 0, _, _ => by simp
  | [], k + 1, h, _ => by simp at h
  | q :: l, k + 1, h, hl => by
    have h0 := hl 0 q (by omega) rfl
    rw [Dl.put, if_pos h0, put_behind l k (by simpa using h) fun j x hj hx => hl (j + 1) x (by omega) (by simpa using hx)]
    rfl

theorem put_end {p : Wk.Bs} {l : List Wk.Bs} (h : ∀ (j : Nat) q, j < l.length → l[j]? = some q → (Nn.less q p).1 = true) : Dl.put l p = l ++ [p] := by
  rw [put_behind l l.length (Nat.le_refl _) h, List.take_length, List.drop_length]
  rfl

theorem put_here {p q : Wk.Bs} {l : List Wk.Bs} {k : Nat} (h : ∀ (j : Nat) q, j < k → l[j]? = some q → (Nn.less q p).1 = true) (hk : l[k]? = some q) (hq : (Nn.less q p).1 = false) : Dl.put l p = if q = p then l else l.take k ++ p :: l.drop k := by
  have hlt := (List.getElem?_eq_some_iff.1 hk).1
  have e : l.drop k = q :: l.drop (k + 1) := by rw [List.drop_eq_getElem_cons hlt, (List.getElem?_eq_some_iff.1 hk).2]
  rw [put_behind l k (by omega) h, e, Dl.put, if_neg (by rw [hq]; decide)]
  by_cases c : q = p
  · rw [if_pos c, if_pos c, ← e, List.take_append_drop]
  · rw [if_neg c, if_neg c]

theorem paths_more {l : List ByteArray} {k : Nat} {p : ByteArray} (h : l[k]? = some p) : Dl.paths (dl (l.take (k + 1))) = Dl.put (Dl.paths (dl (l.take k))) p.data.toList := by
  rw [List.take_add_one, h]
  unfold Dl.paths dl
  rw [List.map_append, List.foldl_append]
  rfl

set_option maxHeartbeats 8000000 in
theorem rpaths_any (v : Value) (l : List ByteArray) (w : World) (h : Tx w v l) (hl : l.length ≤ 1000) (hs : ∀ s ∈ l, s.size ≤ 4194304) :
    Calls Tryd.prog 26 #[v] w fun e w' => ∃ v' m, e = .returned v' ∧ w'.ownsRow w.heap.size 9 1 v' m.length (m.map Tv) ∧ dl m = Dl.paths (dl l) ∧ (∀ q ∈ m, q ∈ l) ∧ Below w.heap.size w w' := by
  obtain ⟨a, c, rfl⟩ := h.slice
  have HX : Hid (Tx w (.slice a l.length c) l) := h
  have HS : Hid (∀ s ∈ l, s.size ≤ 4194304) := hs
  obtain ⟨N, hN⟩ : ∃ N, N = l.length := ⟨_, rfl⟩
  have HN : Hid (N = l.length) := hN
  rw [← hN] at HX hl ⊢
  clear h hs hN
  go_enter Tryd.func26, Tryd.ntmps26
  go_wp2_with fail
  go_loopw [3, 11] (fun s i wr => ∃ (k : Nat) (m : List ByteArray), k ≤ N ∧ i = .int .i64 k ∧ Hid (wr.ownsRow w.heap.size 9 1 s m.length (m.map Tv)) ∧ Hid (dl m = Dl.paths (dl (l.take k))) ∧ Hid (∀ q ∈ m, q ∈ l) ∧ Hid (Below w.heap.size w wr)) (fun _ i _ => N - (intOf i).toNat)
  case atStart => exact ⟨0, [], by omega, rfl, World.ownsRow_nil _ _ _ _, rfl, fun q hq => absurd hq List.not_mem_nil, Below.refl _ _⟩
  case round =>
    obtain ⟨k, m, hk, rfl, HO, HD, HI, HB⟩ := hrel
    by_cases hlt : k < N
    · have hkl : k < l.length := by have := HN.out; omega
      obtain ⟨bk, o, rfl, hbk, x0⟩ := (HX.out.below HB.out).get k hkl
      obtain ⟨p, hp⟩ : ∃ p, p = l[k] := ⟨_, rfl⟩
      have HP : Hid (l[k]? = some p) := by show _ = _; rw [hp]; exact List.getElem?_eq_getElem hkl
      have hps : p.size ≤ 4194304 := HS.out p (List.mem_of_getElem? HP.out)
      rw [List.getD_eq_getElem?_getD, List.getElem?_eq_getElem hkl, Option.getD_some, ← hp] at x0
      have HMl : Hid (m.length ≤ k) := by
        have h1 := congrArg List.length HD.out
        have h2 := Dl.paths_len (dl (l.take k))
        rw [dl_length] at h1
        rw [dl_length, List.length_take] at h2
        show _ ≤ _
        omega
      obtain ⟨av, ac, rfl⟩ := own_form HO.out
      obtain ⟨M, hM⟩ : ∃ M, M = m.length := ⟨_, rfl⟩
      have HM : Hid (M = m.length) := hM
      rw [← hM] at HO HMl
      rw [← hM]
      have hMk : M ≤ 1000 := by have := HMl.out; omega
      obtain ⟨wo, hwo⟩ : ∃ wo : World, wo = wr := ⟨_, rfl⟩
      subst hwo
      clear hp hkl hM
      go_wp2_with fail
      clear x0
      go_loopw [6] (fun i wx => ∃ j : Nat, j ≤ M ∧ i = .int .i64 j ∧ Hid (∀ t q, t < j → m[t]? = some q → (Nn.less q.data.toList p.data.toList).1 = true) ∧ Hid (Below wo.heap.size wo wx)) (fun i _ => M - (intOf i).toNat)
      case atStart => exact ⟨0, by omega, rfl, fun t q h _ => absurd h (by omega), Below.refl _ _⟩
      case round =>
        obtain ⟨j, hj, rfl, HL, HBx⟩ := hrel
        have HOx : Hid (wr.ownsRow w.heap.size 9 1 (.slice av M ac) M (m.map Tv)) := own_below HO.out HBx.out
        have HBw : Hid (Below w.heap.size w wr) := HB.out.trans (HBx.out.mono HB.out.size)
        have HDl : Hid (∀ (t : Nat) (q : Wk.Bs), t < j → (dl m)[t]? = some q → (Nn.less q p.data.toList).1 = true) := fun t q ht hq => by
          unfold dl at hq
          rw [List.getElem?_map] at hq
          cases hm : m[t]? with
          | none => rw [hm] at hq; cases hq
          | some s =>
            rw [hm] at hq
            cases hq
            exact HL.out t s ht hm
        have HIns : Hid (∀ m2, m2 = m.take j ++ p :: m.drop j → ∀ q ∈ m2, q ∈ l) := fun m2 e q hq => by
          subst e
          rcases List.mem_append.1 hq with q1 | q1
          · exact HI.out q (List.mem_of_mem_take q1)
          · rcases List.mem_cons.1 q1 with q1 | q1
            · rw [q1]; exact List.mem_of_getElem? HP.out
            · exact HI.out q (List.mem_of_mem_drop q1)
        have HInsert : Hid (∀ W, Below wr.heap.size wr W → Calls Tryd.prog 48 #[.slice av M ac, .int .i64 j, .slice (some ⟨W.heap.size, 0, none⟩) 1 1] (W.alloc (.cells #[.string p] 9)) fun e w' => ∃ v', e = .returned v' ∧ w'.ownsRow w.heap.size 9 1 v' (m.take j ++ p :: m.drop j).length ((m.take j ++ p :: m.drop j).map Tv) ∧ Below w.heap.size w w') := fun W hW => by
          have hOW := own_below HOx.out hW
          have hBW := HBw.out.trans (hW.mono HBw.out.size)
          refine (insert_one (.slice av M ac) (m.map Tv) M j (.string p) w.heap.size W.heap.size (W.alloc (.cells #[.string p] 9)) (hOW.alloc _) rfl (tv_one m) (heap_alloc_new W _) (fun g hg => by have := (hOW.lt g hg).2; omega) hj (by omega) (by have := hBW.size; simp; omega)).mono ?_
          rintro e w' ⟨v', he, h1, h2⟩
          refine ⟨v', he, ?_, (hBW.alloc hBW.size _).trans h2⟩
          have e1 : (m.take j ++ p :: m.drop j).length = M + 1 := by
            have := HM.out
            rw [List.length_append, List.length_cons, List.length_take, List.length_drop]
            omega
          rw [e1]
          rw [List.map_append, List.map_cons, List.map_take, List.map_drop]
          exact h1
        by_cases hjM : j < M
        · obtain ⟨q, hq⟩ : ∃ q, m[j]? = some q := ⟨_, List.getElem?_eq_getElem (by have := HM.out; omega)⟩
          have hjm : j < m.length := by have := HM.out; omega
          obtain ⟨gb, go, rfl, hgb, y0⟩ := (Tx.of_own (by have h := HOx.out; rwa [HM.out] at h)).get j hjm
          have hqe : m[j] = q := by rw [List.getElem?_eq_getElem hjm] at hq; exact Option.some.inj hq
          rw [List.getD_eq_getElem?_getD, List.getElem?_eq_getElem hjm, Option.getD_some, hqe] at y0
          have hqs : q.size ≤ 4194304 := HS.out q (HI.out q (List.mem_of_getElem? hq))
          have hless := rless_any q p wr hqs hps
          have hjMi : (j : Int) < (M : Int) := by omega
          have hjne : ((j : Int) == (M : Int)) = false := by rw [beq_eq_false_iff_ne]; omega
          have HQ : Hid (m[j]? = some q) := hq
          have HQd : Hid ((dl m)[j]? = some q.data.toList) := by
            show _ = _
            unfold dl
            rw [List.getElem?_map, hq]; rfl
          obtain ⟨LS, hLS⟩ : ∃ LS, LS = (Nn.less q.data.toList p.data.toList).1 := ⟨_, rfl⟩
          have HLS : Hid (LS = (Nn.less q.data.toList p.data.toList).1) := hLS
          rw [← hLS] at hless
          have HY : Hid (∀ W, Below wr.heap.size wr W → W.cell? ⟨gb, go + j, none⟩ = some (.string q)) := fun W hW => (hW.cell (p := ⟨gb, _, none⟩) hgb).trans y0
          clear hLS hqe hq hjm
          go_wp2_with fail
          refine hless.mono ?_
          rintro e wx ⟨rfl, bx⟩
          have HBl : Hid (Below wr.heap.size wr wx) := bx
          have y1 := HY.out wx bx
          clear hless bx y0
          cases LS with
          | true =>
            go_wp2_with fail
            go_roundw
            case measure => simp only [intOf]; omega
            case rel =>
              refine ⟨j + 1, by omega, by go_num, fun t s ht hs2 => ?_, HBx.out.trans (HBl.out.mono HBx.out.size)⟩
              rcases Nat.lt_or_eq_of_le (Nat.le_of_lt_succ ht) with h1 | h1
              · exact HL.out t s h1 hs2
              · subst h1
                rw [HQ.out] at hs2
                rw [← Option.some.inj hs2]
                exact HLS.out.symm
          | false =>
            have hput := put_here HDl.out HQd.out HLS.out.symm
            have HPt : Hid (Dl.paths (dl (l.take (k + 1))) = if q.data.toList = p.data.toList then dl m else (dl m).take j ++ p.data.toList :: (dl m).drop j) := by
              show _ = _
              rw [paths_more HP.out, ← HD.out]; exact hput
            clear hput
            have HBq : Hid (Below w.heap.size w wx) := HBw.out.trans (HBl.out.mono HBw.out.size)
            by_cases hqp : q = p
            · have hbe : (q.toList != p.toList) = false := by rw [hqp]; exact bne_self_eq_false _
              have HPe : Hid (dl m = Dl.paths (dl (l.take (k + 1)))) := by show _ = _; rw [HPt.out, if_pos (by rw [hqp])]
              have HOq : Hid (wx.ownsRow w.heap.size 9 1 (.slice (some ⟨gb, go, none⟩) M ac) m.length (m.map Tv)) := by rw [← HM.out]; exact own_below HOx.out HBl.out
              have hbe2 : (q.toList == p.toList) = true := by rw [hqp]; exact beq_self_eq_true _
              subst hqp
              clear HPt
              go_wp2_with fail
              go_roundw
              case measure => simp only [intOf]; omega
              case rel => exact ⟨k + 1, m, by omega, by go_num, HOq, HPe, HI, HBq⟩
            · have hbe2 : (q.toList == p.toList) = false := text_ne hqp
              have hbe : (q.toList != p.toList) = true := by rw [bne, hbe2]; rfl
              have HPe : Hid (dl (m.take j ++ p :: m.drop j) = Dl.paths (dl (l.take (k + 1)))) := by
                show _ = _
                rw [HPt.out, if_neg (fun e => hqp (ba_inj e))]
                unfold dl
                rw [List.map_append, List.map_cons, List.map_take, List.map_drop]
              have hins := HInsert.out wx HBl.out
              generalize hm2 : m.take j ++ p :: m.drop j = m2 at *
              have HI2 : Hid (∀ q ∈ m2, q ∈ l) := HIns.out m2 rfl
              clear HPt hm2
              go_wp2_with fail
              refine hins.mono ?_
              rintro e w9 ⟨v9, rfl, h9, b9⟩
              have HO9 : Hid (w9.ownsRow w.heap.size 9 1 v9 m2.length (m2.map Tv)) := h9
              have HB9 : Hid (Below w.heap.size w w9) := b9
              clear hins h9 b9 y1
              go_wp2_with fail
              go_roundw
              case measure => simp only [intOf]; omega
              case rel => exact ⟨k + 1, m2, by omega, by go_num, HO9, HPe, HI2, HB9⟩
        · obtain rfl : j = M := by omega
          have hput := put_end (p := p.data.toList) (l := dl m) fun t q ht hq => HDl.out t q (by rw [dl_length, ← HM.out] at ht; exact ht) hq
          have HPe : Hid (dl (m.take j ++ p :: m.drop j) = Dl.paths (dl (l.take (k + 1)))) := by
            show _ = _
            rw [paths_more HP.out, ← HD.out, hput, HM.out, List.take_length, List.drop_length]
            unfold dl
            rw [List.map_append]
            rfl
          have hins := HInsert.out wr (Below.refl _ _)
          generalize hm2 : m.take j ++ p :: m.drop j = m2 at *
          have HI2 : Hid (∀ q ∈ m2, q ∈ l) := HIns.out m2 rfl
          clear hput hm2
          go_wp2_with fail
          refine hins.mono ?_
          rintro e w9 ⟨v9, rfl, h9, b9⟩
          have HO9 : Hid (w9.ownsRow w.heap.size 9 1 v9 m2.length (m2.map Tv)) := h9
          have HB9 : Hid (Below w.heap.size w w9) := b9
          clear hins h9 b9
          go_wp2_with fail
          go_roundw
          case measure => simp only [intOf]; omega
          case rel => exact ⟨k + 1, m2, by omega, by go_num, HO9, HPe, HI2, HB9⟩
    · obtain rfl : k = N := by omega
      have HDe : Hid (dl m = Dl.paths (dl l)) := by
        have h := HD.out
        rw [List.take_of_length_le (by have := HN.out; omega)] at h
        exact h
      go_wp2_with fail
      go_ret
      exact ⟨_, m, rfl, HO.out, HDe.out, HI.out, HB.out⟩

end Go.Proofs.YthpcbbkpjggjbaaDoor
