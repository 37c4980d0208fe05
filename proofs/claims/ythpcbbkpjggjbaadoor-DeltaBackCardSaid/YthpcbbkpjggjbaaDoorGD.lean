/-
  Package delta: what sideBySide answers of two rows of api.Edit and api.Edit.
  Package delta: what Join answers.
  P52 (no Go in it): what the statement about joined edits leans on.
  What the statement about joined edits answers.
  HAMMING: what the statement about a distance answers.
  What the statement answers that applies what is other, and turns it round.
  Nodes handed in, read as data: opened.
  Blobs, ways and items handed in and read as data: opened, shut, and how great they may be.
  Edits handed in and read as data: opened, and how great they may be.
  What the rows list of unicode/utf8's tables is what ValidString's contract asks.
-/
import Derived.Test.YthpcbbkpjggjbaaDoorGB
import Derived.Deep.Cut
import Derived.Deep.CutBlock
import Derived.Deep.DeepCutAuto
import Derived.Test.YthpcbbkpjggjbaaDoorGC
import Derived.Test.YthpcbbkpjggjbaaDoorGA
import Derived.Test.YthpcbbkpjggjbaaDoorRows
import Derived.Lib.SmallJoins
import Derived.Lib.LaidU8T
import Derived.SliceStrings

namespace Go.Proofs.YthpcbbkpjggjbaaDoor
open Go.RowKit
set_option maxRecDepth 4000

def lenEE : Value → Nat
  | .slice _ n _ => n
  | _ => 0

abbrev sdEE : List Em → List Em → List (Option Em × Option Em) := Dl.side (fun x : Em => x.ed.path) (fun y : Em => y.ed.path)

/-- how far two rows have been gone through -/
structure SdEE (w : World) (a : List Em) (b : List Em) (p q s : Value) (W : World) (la : List Em) (lb : List Em) (done : List (Option Em × Option Em)) : Prop where
  ra : Eds w p la
  rb : Eds w q lb
  oa : ∀ x ∈ la, x.Ok
  ob : ∀ x ∈ lb, x.Ok
  row : W.ownsRow w.heap.size 67 16 s done.length (rowR eeC done)
  bel : Below w.heap.size w W
  eq : sdEE a b = done ++ sdEE la lb
  len : done.length + (la.length + lb.length) ≤ a.length + b.length

theorem info_ee : (Tryd.prog.info? 67).map (fun i => (i.zero, i.size, i.bytes)) = some (some (.agg #[.string ⟨#[]⟩, .bool false, .string ⟨#[]⟩, .int .i64 0, .int .i64 0, .int .i64 0, .string ⟨#[]⟩, .string ⟨#[]⟩, .bool false, .string ⟨#[]⟩, .int .i64 0, .int .i64 0, .int .i64 0, .string ⟨#[]⟩, .bool false, .bool false]), 16, 168) := by kernel_rfl

theorem inf_ee : (Tryd.prog.info? 67).map (·.size) = some 16 := by kernel_rfl

theorem eeC_len (z : Option Em × Option Em) : (eeC z).length = 16 := by rfl

theorem eeC_one (z : Option Em × Option Em) : ∀ u ∈ eeC z, u.oneCell' = true := prC_one emC_one emC_one z

theorem setA_ee {W : World} {b : Nat} {x0 : Em} {y0 : Em} {f g : Bool} {xp xi xb : ByteArray} {xg : Bool} {xk xm xt : Int} (h : W.heap[b]? = some (.cells (qC emC emC x0 y0 f g).toArray 67 (0, 0))) : (W.setCells b 0 (emC ⟨xp, xg, ⟨xi, xk, xm, xt, xb⟩⟩)).heap[b]? = some (.cells (qC emC emC ⟨xp, xg, ⟨xi, xk, xm, xt, xb⟩⟩ y0 f g).toArray 67 (0, 0)) := by
  exact sets_blk (post := emC y0 ++ [.bool f, .bool g]) (emC ⟨xp, xg, ⟨xi, xk, xm, xt, xb⟩⟩) [] (emC x0) W h rfl

theorem setB_ee {W : World} {b : Nat} {x0 : Em} {y0 : Em} {f g : Bool} {yp yi yb : ByteArray} {yg : Bool} {yk ym yt : Int} (h : W.heap[b]? = some (.cells (qC emC emC x0 y0 f g).toArray 67 (0, 0))) : (W.setCells b 7 (emC ⟨yp, yg, ⟨yi, yk, ym, yt, yb⟩⟩)).heap[b]? = some (.cells (qC emC emC x0 ⟨yp, yg, ⟨yi, yk, ym, yt, yb⟩⟩ f g).toArray 67 (0, 0)) := by
  exact sets_blk (post := [.bool f, .bool g]) (emC ⟨yp, yg, ⟨yi, yk, ym, yt, yb⟩⟩) (emC x0) (emC y0) W h rfl

theorem flgA_ee {W : World} {b : Nat} {x0 : Em} {y0 : Em} {f g : Bool} (h : W.heap[b]? = some (.cells (qC emC emC x0 y0 f g).toArray 67 (0, 0))) : (W.setCell ⟨b, 14, none⟩ (.bool true)).heap[b]? = some (.cells (qC emC emC x0 y0 true g).toArray 67 (0, 0)) := set_blk h 14 (.bool true)

theorem flgB_ee {W : World} {b : Nat} {x0 : Em} {y0 : Em} {f g : Bool} (h : W.heap[b]? = some (.cells (qC emC emC x0 y0 f g).toArray 67 (0, 0))) : (W.setCell ⟨b, 15, none⟩ (.bool true)).heap[b]? = some (.cells (qC emC emC x0 y0 f true).toArray 67 (0, 0)) := set_blk h 15 (.bool true)

theorem more_ee (base : Nat) (v : Value) (l : List (Option Em × Option Em)) (t : Option Em × Option Em) (w : World) (h : w.ownsRow base 67 16 v l.length (rowR eeC l)) (g : Nat) (hg : w.heap[g]? = some (.cells (eeC t).toArray 67 (0, 0)))
    (hl : l.length < 100000) (hbase : base ≤ w.heap.size) :
    ∃ v' w', (Builtin.append_ #[63, 63] 63 #[v, .slice (some ⟨g, 0, none⟩) 1 1]).run Tryd.prog w = .ok v' w' ∧ w'.ownsRow base 67 16 v' (l ++ [t]).length (rowR eeC (l ++ [t])) ∧ w.grownBy w' v.ownBlock :=
  row_more Tryd.underlying63 info_ee rfl (by decide) eeC_len eeC_one base v l t w h g hg (by omega) (by omega) hbase

set_option maxHeartbeats 16000000 in
theorem sideEE_any (va vb : Value) (a : List Em) (b : List Em) (w : World) (ha : Eds w va a) (hb : Eds w vb b) (hla : a.length + b.length ≤ 1000) (oa : ∀ x ∈ a, x.Ok) (ob : ∀ x ∈ b, x.Ok) (hT : Tabs w) :
    Calls Tryd.prog 32 #[va, vb, .func (.func 33) #[] #[]] w fun e w' => ∃ v, e = .returned v ∧ w'.ownsRow w.heap.size 67 16 v (sdEE a b).length (rowR eeC (sdEE a b)) ∧ Below w.heap.size w w' := by
  obtain ⟨sa, sc, rfl, _, _⟩ := ha.slice
  obtain ⟨sb, tc, rfl, _, _⟩ := hb.slice
  have HT : Hid (Tabs w) := hT
  have HL0 : Hid (a.length + b.length ≤ 1000) := hla
  have H0 : Hid (SdEE w a b (.slice sa a.length sc) (.slice sb b.length tc) (.slice none 0 0) w a b []) := ⟨ha, hb, oa, ob, World.ownsRow_nil _ _ _ _, Below.refl _ _, rfl, by simp⟩
  generalize hna : a.length = na at *
  generalize hnb : b.length = nb at *
  clear ha hb hla oa ob hT
  go_enter Tryd.func32, Tryd.ntmps32
  go_upto_block 0 with fail
  go_cut [0, 1, 7] from 8 to 51 (fun p q s wx => ∃ la lb done, Hid (SdEE w a b p q s wx la lb done) ∧ Hid (la = [] ∨ lb = []))
  case first =>
    go_wp2_with fail
    go_loopw [0, 1, 7] (fun p q s wr => ∃ la lb done, Hid (SdEE w a b p q s wr la lb done)) (fun p q _ _ => lenEE p + lenEE q)
    case atStart => exact ⟨a, b, [], H0⟩
    case round =>
      clear H0
      obtain ⟨la, lb, done, H⟩ := hrel
      cases la with
      | nil =>
        obtain ⟨pa, pc, rfl, _, _⟩ := H.out.ra.slice
        go_wp2_with fail
        go_meet
        exact ⟨[], lb, done, H, .inl rfl⟩
      | cons x la =>
        cases lb with
        | nil =>
          obtain ⟨pa, pc, rfl, _, _⟩ := H.out.ra.slice
          obtain ⟨qa, qc, rfl, _, _⟩ := H.out.rb.slice
          go_wp2_with fail
          go_meet
          exact ⟨x :: la, [], done, H, .inr rfl⟩
        | cons y lb =>
          obtain ⟨pa, pc, rfl, hpc1, hpc2⟩ := H.out.ra.slice
          obtain ⟨qa, qc, rfl, hqc1, hqc2⟩ := H.out.rb.slice
          obtain ⟨bk, o, rfl, hbk, hxa⟩ := H.out.ra.get 0 x rfl
          obtain ⟨bkk, oo, rfl, hbkk, hxb⟩ := H.out.rb.get 0 y rfl
          obtain ⟨va, hva⟩ : ∃ va, va = Value.slice (if pc = 1 then some ⟨bk, o, none⟩ else some ⟨bk, o + 7, none⟩) la.length (pc - 1) := ⟨_, rfl⟩
          obtain ⟨vb, hvb⟩ : ∃ vb, vb = Value.slice (if qc = 1 then some ⟨bkk, oo, none⟩ else some ⟨bkk, oo + 7, none⟩) lb.length (qc - 1) := ⟨_, rfl⟩
          have HRa : Hid (Eds w va la) := by rw [hva]; exact H.out.ra.rest
          have HRb : Hid (Eds w vb lb) := by rw [hvb]; exact H.out.rb.rest
          have HXa : Hid (∀ W, Below wr.heap.size wr W → W.rangeAt bk o (emC x)) := fun W hW r u hu => by
            have h := hxa r u hu
            rw [Nat.zero_mul, Nat.add_zero] at h
            exact ((H.out.bel.trans (hW.mono H.out.bel.size)).cell (p := ⟨bk, _, none⟩) hbk).trans h
          have HXb : Hid (∀ W, Below wr.heap.size wr W → W.rangeAt bkk oo (emC y)) := fun W hW r u hu => by
            have h := hxb r u hu
            rw [Nat.zero_mul, Nat.add_zero] at h
            exact ((H.out.bel.trans (hW.mono H.out.bel.size)).cell (p := ⟨bkk, _, none⟩) hbkk).trans h
          have HCl : Hid (∀ W, Below wr.heap.size wr W → Calls Tryd.prog 33 #[emV x, emV y] W fun e w' => e = .returned (.int .i64 (Dl.cmp x.ed.path y.ed.path)) ∧ Below W.heap.size W w') := fun W hW => cmpEE_any x y W (H.out.oa x List.mem_cons_self) (H.out.ob y List.mem_cons_self) (HT.out.below (H.out.bel.trans (hW.mono H.out.bel.size)))
          obtain ⟨n1, hn1⟩ : ∃ n, n = la.length := ⟨_, rfl⟩
          obtain ⟨n2, hn2⟩ : ∃ n, n = lb.length := ⟨_, rfl⟩
          have HN1 : Hid (n1 = la.length) := hn1
          have HN2 : Hid (n2 = lb.length) := hn2
          rw [List.length_cons, ← hn1] at hpc1 H
          rw [List.length_cons, ← hn2] at hqc1 H
          rw [← hn1] at hva
          rw [← hn2] at hvb
          rw [List.length_cons, ← hn1, List.length_cons, ← hn2]
          have HLa : Hid (lenEE va = n1) := by show _ = _; rw [hva]; rfl
          have HLb : Hid (lenEE vb = n2) := by show _ = _; rw [hvb]; rfl
          have Hva : Hid (va = Value.slice (if pc = 1 then some ⟨bk, o, none⟩ else some ⟨bk, o + 7, none⟩) n1 (pc - 1)) := hva
          have Hvb : Hid (vb = Value.slice (if qc = 1 then some ⟨bkk, oo, none⟩ else some ⟨bkk, oo + 7, none⟩) n2 (qc - 1)) := hvb
          obtain ⟨C, hC⟩ : ∃ C, C = Dl.cmp x.ed.path y.ed.path := ⟨_, rfl⟩
          rw [← hC] at HCl
          have HC3 : Hid ((C = 0 ∧ x.ed.path = y.ed.path) ∨ (C = -1 ∧ x.ed.path ≠ y.ed.path ∧ (Nn.less x.ed.path y.ed.path).1 = true) ∨ (C = 1 ∧ x.ed.path ≠ y.ed.path ∧ (Nn.less x.ed.path y.ed.path).1 = false)) := by
            show _ ∨ _
            rw [hC]
            unfold Dl.cmp
            by_cases e : x.ed.path = y.ed.path
            · rw [if_pos e]; exact .inl ⟨rfl, e⟩
            · rw [if_neg e]
              cases k : (Nn.less x.ed.path y.ed.path).1 with
              | true => exact .inr (.inl ⟨rfl, e, rfl⟩)
              | false => exact .inr (.inr ⟨rfl, e, rfl⟩)
          clear hva hvb hn1 hn2 hC hxa hxb hbk hbkk
          obtain ⟨xp, xg, ⟨xi, xk, xm, xt, xb⟩⟩ := x
          obtain ⟨yp, yg, ⟨yi, yk, ym, yt, yb⟩⟩ := y
          have hg1 : ((n1 : Int) + 1 > 0) := by omega
          have hg2 : ((n2 : Int) + 1 > 0) := by omega
          obtain ⟨W1, hW1⟩ : ∃ W1, W1 = wr.alloc (.cells #[.string ⟨#[]⟩, .bool false, .string ⟨#[]⟩, .int .i64 0, .int .i64 0, .int .i64 0, .string ⟨#[]⟩, .string ⟨#[]⟩, .bool false, .string ⟨#[]⟩, .int .i64 0, .int .i64 0, .int .i64 0, .string ⟨#[]⟩, .bool false, .bool false] 67) := ⟨_, rfl⟩
          have HBr1 : Hid (Below wr.heap.size wr W1) := by rw [hW1]; exact (Below.refl _ wr).alloc (Nat.le_refl _) _
          have HM1 : Hid (W1.heap[wr.heap.size]? = some (.cells (eeC (none, none)).toArray 67 (0, 0))) := by rw [hW1]; exact heap_alloc_new wr _
          go_upto_region 4 with fail
          rw [← hW1]
          clear hW1
          refine wp_region_rel (G := Gw) (W0 := W1) Gw.refl Gw.trans (by kernel_rfl) (by kernel_rfl) (by kernel_rfl) (Below.refl _ W1).drew ?_
          refine .inl ⟨.func (.func 33) #[] #[], fun v W hW hd => step_run (by first | rfl | simp [Region.wanted, yielded]) _ W (by clear hd; go_simp) rfl (Gw.refl _), ?_⟩
          simp only [Act.put, List.setIfInBounds_toArray, List.set_cons_zero, List.set_cons_succ]
          refine .inl ⟨.slice (some ⟨bk, o, none⟩) (n1 + 1) pc, fun v W hW hd => step_run (by first | rfl | simp [Region.wanted, yielded]) _ W (by clear hd; go_simp) rfl (Gw.refl _), ?_⟩
          simp only [Act.put, List.setIfInBounds_toArray, List.set_cons_zero, List.set_cons_succ]
          refine .inl ⟨.pointer (some ⟨bk, o, none⟩), fun v W hW hd => step_run (by first | rfl | simp [Region.wanted, yielded]) _ W (by clear hd; go_simp) rfl (Gw.refl _), ?_⟩
          simp only [Act.put, List.setIfInBounds_toArray, List.set_cons_zero, List.set_cons_succ]
          refine .inl ⟨.agg #[.string xp, .bool xg, .string xi, .int .i64 xk, .int .i64 xm, .int .i64 xt, .string xb], fun v W hW hd => step_run rfl _ W (exec_ld 31 (.tmp 24) rfl bk o rfl (emC ⟨xp, xg, ⟨xi, xk, xm, xt, xb⟩⟩) _ (HXa.out W (HBr1.out.trans (Below.mono hW HBr1.out.size))) Tryd.underlying31 rfl (by kernel_rfl)) rfl (Gw.refl _), ?_⟩
          simp only [Act.put, List.setIfInBounds_toArray, List.set_cons_zero, List.set_cons_succ]
          refine .inl ⟨.slice (some ⟨bkk, oo, none⟩) (n2 + 1) qc, fun v W hW hd => step_run (by first | rfl | simp [Region.wanted, yielded]) _ W (by clear hd; go_simp) rfl (Gw.refl _), ?_⟩
          simp only [Act.put, List.setIfInBounds_toArray, List.set_cons_zero, List.set_cons_succ]
          refine .inl ⟨.pointer (some ⟨bkk, oo, none⟩), fun v W hW hd => step_run (by first | rfl | simp [Region.wanted, yielded]) _ W (by clear hd; go_simp) rfl (Gw.refl _), ?_⟩
          simp only [Act.put, List.setIfInBounds_toArray, List.set_cons_zero, List.set_cons_succ]
          refine .inl ⟨.agg #[.string yp, .bool yg, .string yi, .int .i64 yk, .int .i64 ym, .int .i64 yt, .string yb], fun v W hW hd => step_run rfl _ W (exec_ld 31 (.tmp 27) rfl bkk oo rfl (emC ⟨yp, yg, ⟨yi, yk, ym, yt, yb⟩⟩) _ (HXb.out W (HBr1.out.trans (Below.mono hW HBr1.out.size))) Tryd.underlying31 rfl (by kernel_rfl)) rfl (Gw.refl _), ?_⟩
          simp only [Act.put, List.setIfInBounds_toArray, List.set_cons_zero, List.set_cons_succ]
          refine .inl ⟨.int .i64 C, fun v W hW hd => step_call (by first | rfl | simp [Region.wanted, yielded]) 33 #[.agg #[.string xp, .bool xg, .string xi, .int .i64 xk, .int .i64 xm, .int .i64 xt, .string xb], .agg #[.string yp, .bool yg, .string yi, .int .i64 yk, .int .i64 ym, .int .i64 yt, .string yb]] (by clear hd; go_simp) ((HCl.out W (HBr1.out.trans (Below.mono hW HBr1.out.size))).mono fun e w' h => ⟨_, h.1, rfl, h.2⟩), ?_⟩
          simp only [Act.put, List.setIfInBounds_toArray, List.set_cons_zero, List.set_cons_succ]
          refine .inl ⟨.int .i64 C, fun v W hW hd => step_run (by first | rfl | simp [Region.wanted, yielded]) _ W (by clear hd; go_simp) rfl (Gw.refl _), ?_⟩
          simp only [Act.put, List.setIfInBounds_toArray, List.set_cons_zero, List.set_cons_succ]
          intro v W2 hW2 hV
          have HB2 : Hid (Below wr.heap.size wr W2) := HBr1.out.trans (Below.mono hW2 HBr1.out.size)
          have HM2 : Hid (W2.heap[wr.heap.size]? = some (.cells (eeC (none, none)).toArray 67 (0, 0))) := (Below.block hW2 _ (Array.getElem?_eq_some_iff.1 HM1.out).1).trans HM1.out
          clear hV hW2 HM1 HBr1 HCl
          rcases HC3.out with ⟨rfl, he⟩ | ⟨rfl, hne, hls⟩ | ⟨rfl, hne, hls⟩
          · have HE : Hid ((⟨xp, xg, ⟨xi, xk, xm, xt, xb⟩⟩ : Em).ed.path = (⟨yp, yg, ⟨yi, yk, ym, yt, yb⟩⟩ : Em).ed.path) := he
            clear he HC3
            go_upto_region 6 with fail
            have HGa : Hid (∀ W, GA emC emC 67 wr.heap.size ⟨xp, xg, ⟨xi, xk, xm, xt, xb⟩⟩ W2 W → W.rangeAt bk o (emC ⟨xp, xg, ⟨xi, xk, xm, xt, xb⟩⟩)) := fun W hW => HXa.out W (HB2.out.trans (hW.kept.below HB2.out.size fun q hq e => by omega))
            refine wp_region_rel (G := GA emC emC 67 wr.heap.size ⟨xp, xg, ⟨xi, xk, xm, xt, xb⟩⟩) (W0 := W2) GA.refl GA.trans (by kernel_rfl) (by kernel_rfl) (by kernel_rfl) (GA.drew W2) ?_
            refine .inl ⟨.slice (some ⟨bk, o, none⟩) (n1 + 1) pc, fun v W hW hd => step_run (by first | rfl | simp [Region.wanted, yielded]) _ W (by clear hd; go_simp) rfl (GA.refl _), ?_⟩
            simp only [Act.put, List.setIfInBounds_toArray, List.set_cons_zero, List.set_cons_succ]
            refine .inl ⟨.pointer (some ⟨bk, o, none⟩), fun v W hW hd => step_run (by first | rfl | simp [Region.wanted, yielded]) _ W (by clear hd; go_simp) rfl (GA.refl _), ?_⟩
            simp only [Act.put, List.setIfInBounds_toArray, List.set_cons_zero, List.set_cons_succ]
            refine .inl ⟨.agg #[.string xp, .bool xg, .string xi, .int .i64 xk, .int .i64 xm, .int .i64 xt, .string xb], fun v W hW hd => step_run rfl _ W (exec_ld 31 (.tmp 33) rfl bk o rfl (emC ⟨xp, xg, ⟨xi, xk, xm, xt, xb⟩⟩) _ (HGa.out W hW) Tryd.underlying31 rfl (by kernel_rfl)) rfl (GA.refl _), ?_⟩
            simp only [Act.put, List.setIfInBounds_toArray, List.set_cons_zero, List.set_cons_succ]
            refine .inl ⟨.slice (some ⟨bk, o, none⟩) (n1 + 1) pc, fun v W hW hd => step_run (by first | rfl | simp [Region.wanted, yielded]) _ W (by clear hd; go_simp) rfl (GA.refl _), ?_⟩
            simp only [Act.put, List.setIfInBounds_toArray, List.set_cons_zero, List.set_cons_succ]
            refine .inl ⟨va, fun v W hW hd => step_run (by first | rfl | simp [Region.wanted, yielded]) _ W (by clear hd; have hv := Hva.out; have hq : ¬ ((n1 : Int) + 1 < 1) := (by omega); go_simp) rfl (GA.refl _), ?_⟩
            simp only [Act.put, List.setIfInBounds_toArray, List.set_cons_zero, List.set_cons_succ]
            refine .inl ⟨.pointer (some ⟨wr.heap.size, 0, none⟩), fun v W hW hd => step_run (by first | rfl | simp [Region.wanted, yielded]) _ W (by clear hd; go_simp) rfl (GA.refl _), ?_⟩
            simp only [Act.put, List.setIfInBounds_toArray, List.set_cons_zero, List.set_cons_succ]
            refine .inr ⟨fun _ W => ∃ f, W.heap[wr.heap.size]? = some (.cells (qC emC emC ⟨xp, xg, ⟨xi, xk, xm, xt, xb⟩⟩ (em0) f false).toArray 67 (0, 0)), fun u W W' hv hg => ?_, fun v W hW hd => ?_, ?_⟩
            · obtain ⟨f, hv⟩ := hv
              obtain ⟨x1, f1, e, _, h⟩ := hg.blk _ _ _ _ hv
              exact ⟨f1, by rw [show x1 = _ from e.elim id id] at h; exact h⟩
            · clear hd
              obtain ⟨x1, f1, _, _, hq⟩ := hW.blk em0 (em0) false false HM2.out
              exact step_still rfl (W.setCells wr.heap.size 0 (emC ⟨xp, xg, ⟨xi, xk, xm, xt, xb⟩⟩)) (exec_st 31 (.tmp 37) (.tmp 34) rfl wr.heap.size 0 #[.string xp, .bool xg, .string xi, .int .i64 xk, .int .i64 xm, .int .i64 xt, .string xb] rfl rfl (blk_there hq (Nat.le_of_ble_eq_true rfl)) (by kernel_rfl) (all_oneCell_toArray (emC_one ⟨xp, xg, ⟨xi, xk, xm, xt, xb⟩⟩))) ⟨f1, setA_ee hq⟩ ⟨(Kept.refl _ _).sets (fun e => e rfl) _ _, fun x0 y0 f g h => ⟨_, _, .inr rfl, id, setA_ee h⟩⟩
            simp only [Act.put]
            refine .inl ⟨.pointer (some ⟨wr.heap.size, 14, none⟩), fun v W hW hd => step_run (by first | rfl | simp [Region.wanted, yielded]) _ W (by clear hd; go_simp) rfl (GA.refl _), ?_⟩
            simp only [Act.put, List.setIfInBounds_toArray, List.set_cons_zero, List.set_cons_succ]
            refine .inr ⟨fun _ W => ∃ x0, W.heap[wr.heap.size]? = some (.cells (qC emC emC x0 (em0) true false).toArray 67 (0, 0)), fun u W W' hv hg => ?_, fun v W hW hd => ?_, ?_⟩
            · obtain ⟨x0, hv⟩ := hv
              obtain ⟨x1, f1, _, e, h⟩ := hg.blk _ _ _ _ hv
              exact ⟨x1, by rw [e rfl] at h; exact h⟩
            · clear hd
              obtain ⟨x1, f1, _, _, hq⟩ := hW.blk em0 (em0) false false HM2.out
              have hth := (blk_there (o := 14) (k := 1) hq (Nat.le_of_ble_eq_true rfl)) 0 (by omega)
              have hf1 := hth.2
              obtain ⟨hcv, hf2⟩ := Option.isSome_iff_exists.1 hth.1
              simp only [Nat.add_zero] at hf1 hf2
              exact step_still rfl (W.setCell ⟨wr.heap.size, 14, none⟩ (.bool true)) (by clear hW hq hth; go_simp) ⟨x1, flgA_ee hq⟩ ⟨(Kept.refl _ _).setCell (a := ⟨wr.heap.size, 14, none⟩) (fun e => e rfl) _, fun x0 y0 f g h => ⟨_, _, .inl rfl, fun _ => rfl, flgA_ee h⟩⟩
            simp only [Act.put]
            refine .inl ⟨va, fun v W hW hd => step_run (by first | rfl | simp [Region.wanted, yielded]) _ W (by clear hd; go_simp) rfl (GA.refl _), ?_⟩
            simp only [Act.put, List.setIfInBounds_toArray, List.set_cons_zero]
            intro v W3 hW3 hV
            have h6 : ∃ f, W3.heap[wr.heap.size]? = some (.cells (qC emC emC ⟨xp, xg, ⟨xi, xk, xm, xt, xb⟩⟩ (em0) f false).toArray 67 (0, 0)) := hV 6 (by decide)
            have h8 : ∃ x0, W3.heap[wr.heap.size]? = some (.cells (qC emC emC x0 (em0) true false).toArray 67 (0, 0)) := hV 8 (by decide)
            obtain ⟨f6, h6⟩ := h6
            obtain ⟨x8, h8⟩ := h8
            have HM4 : Hid (W3.heap[wr.heap.size]? = some (.cells (qC emC emC ⟨xp, xg, ⟨xi, xk, xm, xt, xb⟩⟩ (em0) true false).toArray 67 (0, 0))) := by
              show _ = _
              rw [flagA (by rfl) h6 h8] at h6
              exact h6
            have HB4 : Hid (Below wr.heap.size wr W3) := HB2.out.trans (hW3.kept.below HB2.out.size fun q hq e => by omega)
            clear hV hW3 h6 h8 HGa HM2
            have HM2 := HM4
            have HB2 := HB4
            clear HM4 HB4
            go_upto_region 8 with fail
            have HGb : Hid (∀ W, GB emC emC 67 wr.heap.size ⟨yp, yg, ⟨yi, yk, ym, yt, yb⟩⟩ W3 W → W.rangeAt bkk oo (emC ⟨yp, yg, ⟨yi, yk, ym, yt, yb⟩⟩)) := fun W hW => HXb.out W (HB2.out.trans (hW.kept.below HB2.out.size fun q hq e => by omega))
            refine wp_region_rel (G := GB emC emC 67 wr.heap.size ⟨yp, yg, ⟨yi, yk, ym, yt, yb⟩⟩) (W0 := W3) GB.refl GB.trans (by kernel_rfl) (by kernel_rfl) (by kernel_rfl) (GB.drew W3) ?_
            refine .inl ⟨.slice (some ⟨bkk, oo, none⟩) (n2 + 1) qc, fun v W hW hd => step_run (by first | rfl | simp [Region.wanted, yielded]) _ W (by clear hd; go_simp) rfl (GB.refl _), ?_⟩
            simp only [Act.put, List.setIfInBounds_toArray, List.set_cons_zero, List.set_cons_succ]
            refine .inl ⟨.pointer (some ⟨bkk, oo, none⟩), fun v W hW hd => step_run (by first | rfl | simp [Region.wanted, yielded]) _ W (by clear hd; go_simp) rfl (GB.refl _), ?_⟩
            simp only [Act.put, List.setIfInBounds_toArray, List.set_cons_zero, List.set_cons_succ]
            refine .inl ⟨.agg #[.string yp, .bool yg, .string yi, .int .i64 yk, .int .i64 ym, .int .i64 yt, .string yb], fun v W hW hd => step_run rfl _ W (exec_ld 31 (.tmp 42) rfl bkk oo rfl (emC ⟨yp, yg, ⟨yi, yk, ym, yt, yb⟩⟩) _ (HGb.out W hW) Tryd.underlying31 rfl (by kernel_rfl)) rfl (GB.refl _), ?_⟩
            simp only [Act.put, List.setIfInBounds_toArray, List.set_cons_zero, List.set_cons_succ]
            refine .inl ⟨.slice (some ⟨bkk, oo, none⟩) (n2 + 1) qc, fun v W hW hd => step_run (by first | rfl | simp [Region.wanted, yielded]) _ W (by clear hd; go_simp) rfl (GB.refl _), ?_⟩
            simp only [Act.put, List.setIfInBounds_toArray, List.set_cons_zero, List.set_cons_succ]
            refine .inl ⟨vb, fun v W hW hd => step_run (by first | rfl | simp [Region.wanted, yielded]) _ W (by clear hd; have hv := Hvb.out; have hq : ¬ ((n2 : Int) + 1 < 1) := (by omega); go_simp) rfl (GB.refl _), ?_⟩
            simp only [Act.put, List.setIfInBounds_toArray, List.set_cons_zero, List.set_cons_succ]
            refine .inl ⟨.pointer (some ⟨wr.heap.size, 7, none⟩), fun v W hW hd => step_run (by first | rfl | simp [Region.wanted, yielded]) _ W (by clear hd; go_simp) rfl (GB.refl _), ?_⟩
            simp only [Act.put, List.setIfInBounds_toArray, List.set_cons_zero, List.set_cons_succ]
            refine .inr ⟨fun _ W => ∃ g, W.heap[wr.heap.size]? = some (.cells (qC emC emC ⟨xp, xg, ⟨xi, xk, xm, xt, xb⟩⟩ ⟨yp, yg, ⟨yi, yk, ym, yt, yb⟩⟩ true g).toArray 67 (0, 0)), fun u W W' hv hg => ?_, fun v W hW hd => ?_, ?_⟩
            · obtain ⟨f, hv⟩ := hv
              obtain ⟨x1, f1, e, _, h⟩ := hg.blk _ _ _ _ hv
              exact ⟨f1, by rw [show x1 = _ from e.elim id id] at h; exact h⟩
            · clear hd
              obtain ⟨x1, f1, _, _, hq⟩ := hW.blk ⟨xp, xg, ⟨xi, xk, xm, xt, xb⟩⟩ (em0) true false HM2.out
              exact step_still rfl (W.setCells wr.heap.size 7 (emC ⟨yp, yg, ⟨yi, yk, ym, yt, yb⟩⟩)) (exec_st 31 (.tmp 46) (.tmp 43) rfl wr.heap.size 7 #[.string yp, .bool yg, .string yi, .int .i64 yk, .int .i64 ym, .int .i64 yt, .string yb] rfl rfl (blk_there hq (Nat.le_of_ble_eq_true rfl)) (by kernel_rfl) (all_oneCell_toArray (emC_one ⟨yp, yg, ⟨yi, yk, ym, yt, yb⟩⟩))) ⟨f1, setB_ee hq⟩ ⟨(Kept.refl _ _).sets (fun e => e rfl) _ _, fun x0 y0 f g h => ⟨_, _, .inr rfl, id, setB_ee h⟩⟩
            simp only [Act.put]
            refine .inl ⟨.pointer (some ⟨wr.heap.size, 15, none⟩), fun v W hW hd => step_run (by first | rfl | simp [Region.wanted, yielded]) _ W (by clear hd; go_simp) rfl (GB.refl _), ?_⟩
            simp only [Act.put, List.setIfInBounds_toArray, List.set_cons_zero, List.set_cons_succ]
            refine .inr ⟨fun _ W => ∃ y0, W.heap[wr.heap.size]? = some (.cells (qC emC emC ⟨xp, xg, ⟨xi, xk, xm, xt, xb⟩⟩ y0 true true).toArray 67 (0, 0)), fun u W W' hv hg => ?_, fun v W hW hd => ?_, ?_⟩
            · obtain ⟨x0, hv⟩ := hv
              obtain ⟨x1, f1, _, e, h⟩ := hg.blk _ _ _ _ hv
              exact ⟨x1, by rw [e rfl] at h; exact h⟩
            · clear hd
              obtain ⟨x1, f1, _, _, hq⟩ := hW.blk ⟨xp, xg, ⟨xi, xk, xm, xt, xb⟩⟩ (em0) true false HM2.out
              have hth := (blk_there (o := 15) (k := 1) hq (Nat.le_of_ble_eq_true rfl)) 0 (by omega)
              have hf1 := hth.2
              obtain ⟨hcv, hf2⟩ := Option.isSome_iff_exists.1 hth.1
              simp only [Nat.add_zero] at hf1 hf2
              exact step_still rfl (W.setCell ⟨wr.heap.size, 15, none⟩ (.bool true)) (by clear hW hq hth; go_simp) ⟨x1, flgB_ee hq⟩ ⟨(Kept.refl _ _).setCell (a := ⟨wr.heap.size, 15, none⟩) (fun e => e rfl) _, fun x0 y0 f g h => ⟨_, _, .inl rfl, fun _ => rfl, flgB_ee h⟩⟩
            simp only [Act.put]
            refine .inl ⟨vb, fun v W hW hd => step_run (by first | rfl | simp [Region.wanted, yielded]) _ W (by clear hd; go_simp) rfl (GB.refl _), ?_⟩
            simp only [Act.put, List.setIfInBounds_toArray, List.set_cons_zero, List.set_cons_succ]
            intro v W4 hW3 hV
            have h6 : ∃ g, W4.heap[wr.heap.size]? = some (.cells (qC emC emC ⟨xp, xg, ⟨xi, xk, xm, xt, xb⟩⟩ ⟨yp, yg, ⟨yi, yk, ym, yt, yb⟩⟩ true g).toArray 67 (0, 0)) := hV 6 (by decide)
            have h8 : ∃ y0, W4.heap[wr.heap.size]? = some (.cells (qC emC emC ⟨xp, xg, ⟨xi, xk, xm, xt, xb⟩⟩ y0 true true).toArray 67 (0, 0)) := hV 8 (by decide)
            obtain ⟨f6, h6⟩ := h6
            obtain ⟨x8, h8⟩ := h8
            have HM4 : Hid (W4.heap[wr.heap.size]? = some (.cells (qC emC emC ⟨xp, xg, ⟨xi, xk, xm, xt, xb⟩⟩ ⟨yp, yg, ⟨yi, yk, ym, yt, yb⟩⟩ true true).toArray 67 (0, 0))) := by
              show _ = _
              rw [flagB (by rfl) h6 h8] at h6
              exact h6
            have HB4 : Hid (Below wr.heap.size wr W4) := HB2.out.trans (hW3.kept.below HB2.out.size fun q hq e => by omega)
            clear hV hW3 h6 h8 HGb HM2
            have HZ : Hid (W4.heap.size = W4.heap.size) := rfl
            obtain ⟨s2, W6, hr6, ho6, hg6⟩ := more_ee w.heap.size u7 done ((some ⟨xp, xg, ⟨xi, xk, xm, xt, xb⟩⟩, some ⟨yp, yg, ⟨yi, yk, ym, yt, yb⟩⟩) : Option Em × Option Em) (W4.alloc (.cells #[.string xp, .bool xg, .string xi, .int .i64 xk, .int .i64 xm, .int .i64 xt, .string xb, .string yp, .bool yg, .string yi, .int .i64 yk, .int .i64 ym, .int .i64 yt, .string yb, .bool true, .bool true] 67)) ((own_below H.out.row HB4.out).alloc _) W4.heap.size (heap_alloc_new W4 _) (by have := HL0.out; have := H.out.len; have := HN1.out; have := HN2.out; simp only [List.length_cons] at *; omega) (by have := H.out.bel.size; have := HB4.out.size; simp; omega)
            have HO6 : Hid (W6.ownsRow w.heap.size 67 16 s2 (done ++ [((some ⟨xp, xg, ⟨xi, xk, xm, xt, xb⟩⟩, some ⟨yp, yg, ⟨yi, yk, ym, yt, yb⟩⟩) : Option Em × Option Em)]).length (rowR eeC (done ++ [((some ⟨xp, xg, ⟨xi, xk, xm, xt, xb⟩⟩, some ⟨yp, yg, ⟨yi, yk, ym, yt, yb⟩⟩) : Option Em × Option Em)]))) := ho6
            have HB6 : Hid (Below w.heap.size w W6) := ((H.out.bel.trans (HB4.out.mono H.out.bel.size)).alloc (Nat.le_trans H.out.bel.size HB4.out.size) _).grown hg6 (by have := H.out.bel.size; have := HB4.out.size; simp; omega) fun g hg => (H.out.row.lt g hg).1
            have hrg := blk_range HM4.out
            clear ho6 hg6 HZ
            go_upto_region 9 with fail
            refine wp_region_lit ?_
            refine wpList_plain rfl fun C hC => ?_
            go_simp
            refine hC _ _ ?_
            clear hC C
            refine wpList_load_mid rfl 67 (.tmp 8) rfl wr.heap.size 0 rfl [.string xp, .bool xg, .string xi, .int .i64 xk, .int .i64 xm, .int .i64 xt, .string xb, .string yp, .bool yg, .string yi, .int .i64 yk, .int .i64 ym, .int .i64 yt, .string yb, .bool true, .bool true] _ hrg Tryd.underlying67 rfl (by kernel_rfl) ?_
            refine wpList_plain rfl fun C hC => ?_
            go_simp
            refine hC _ _ ?_
            clear hC C
            refine wpL_append_run rfl (.tmp 48) (.tmp 50) 63 63 rfl rfl _ _ s2 W6 rfl rfl hr6 ?_
            refine wpList_plain rfl fun C hC => ?_
            go_simp
            refine hC _ _ ?_
            clear hC C hr6 hrg HM4
            go_wp2_with fail
            go_roundw
            case rel => exact ⟨la, lb, done ++ [((some ⟨xp, xg, ⟨xi, xk, xm, xt, xb⟩⟩, some ⟨yp, yg, ⟨yi, yk, ym, yt, yb⟩⟩) : Option Em × Option Em)], ⟨HRa.out, HRb.out, (fun q hq => H.out.oa q (List.mem_cons_of_mem _ hq)), (fun q hq => H.out.ob q (List.mem_cons_of_mem _ hq)), HO6.out, HB6.out, by rw [H.out.eq]; exact (congrArg (done ++ ·) (Dl.side_eq (f := fun x : Em => x.ed.path) (g := fun y : Em => y.ed.path) HE.out la lb)).trans (by simp), by have := H.out.len; simp only [List.length_append, List.length_cons, List.length_nil] at *; omega⟩⟩
            case measure => have q1 := HLa.out; have q2 := HLb.out; have q3 := HN1.out; have q4 := HN2.out; (try rw [q1]); (try rw [q2]); simp only [lenEE]; omega
          · have HE : Hid ((⟨xp, xg, ⟨xi, xk, xm, xt, xb⟩⟩ : Em).ed.path ≠ (⟨yp, yg, ⟨yi, yk, ym, yt, yb⟩⟩ : Em).ed.path) := hne
            have HE2 : Hid ((Nn.less (⟨xp, xg, ⟨xi, xk, xm, xt, xb⟩⟩ : Em).ed.path (⟨yp, yg, ⟨yi, yk, ym, yt, yb⟩⟩ : Em).ed.path).1 = true) := hls
            clear hne hls HC3
            go_upto_region 6 with fail
            have HGa : Hid (∀ W, GA emC emC 67 wr.heap.size ⟨xp, xg, ⟨xi, xk, xm, xt, xb⟩⟩ W2 W → W.rangeAt bk o (emC ⟨xp, xg, ⟨xi, xk, xm, xt, xb⟩⟩)) := fun W hW => HXa.out W (HB2.out.trans (hW.kept.below HB2.out.size fun q hq e => by omega))
            refine wp_region_rel (G := GA emC emC 67 wr.heap.size ⟨xp, xg, ⟨xi, xk, xm, xt, xb⟩⟩) (W0 := W2) GA.refl GA.trans (by kernel_rfl) (by kernel_rfl) (by kernel_rfl) (GA.drew W2) ?_
            refine .inl ⟨.slice (some ⟨bk, o, none⟩) (n1 + 1) pc, fun v W hW hd => step_run (by first | rfl | simp [Region.wanted, yielded]) _ W (by clear hd; go_simp) rfl (GA.refl _), ?_⟩
            simp only [Act.put, List.setIfInBounds_toArray, List.set_cons_zero, List.set_cons_succ]
            refine .inl ⟨.pointer (some ⟨bk, o, none⟩), fun v W hW hd => step_run (by first | rfl | simp [Region.wanted, yielded]) _ W (by clear hd; go_simp) rfl (GA.refl _), ?_⟩
            simp only [Act.put, List.setIfInBounds_toArray, List.set_cons_zero, List.set_cons_succ]
            refine .inl ⟨.agg #[.string xp, .bool xg, .string xi, .int .i64 xk, .int .i64 xm, .int .i64 xt, .string xb], fun v W hW hd => step_run rfl _ W (exec_ld 31 (.tmp 33) rfl bk o rfl (emC ⟨xp, xg, ⟨xi, xk, xm, xt, xb⟩⟩) _ (HGa.out W hW) Tryd.underlying31 rfl (by kernel_rfl)) rfl (GA.refl _), ?_⟩
            simp only [Act.put, List.setIfInBounds_toArray, List.set_cons_zero, List.set_cons_succ]
            refine .inl ⟨.slice (some ⟨bk, o, none⟩) (n1 + 1) pc, fun v W hW hd => step_run (by first | rfl | simp [Region.wanted, yielded]) _ W (by clear hd; go_simp) rfl (GA.refl _), ?_⟩
            simp only [Act.put, List.setIfInBounds_toArray, List.set_cons_zero, List.set_cons_succ]
            refine .inl ⟨va, fun v W hW hd => step_run (by first | rfl | simp [Region.wanted, yielded]) _ W (by clear hd; have hv := Hva.out; have hq : ¬ ((n1 : Int) + 1 < 1) := (by omega); go_simp) rfl (GA.refl _), ?_⟩
            simp only [Act.put, List.setIfInBounds_toArray, List.set_cons_zero, List.set_cons_succ]
            refine .inl ⟨.pointer (some ⟨wr.heap.size, 0, none⟩), fun v W hW hd => step_run (by first | rfl | simp [Region.wanted, yielded]) _ W (by clear hd; go_simp) rfl (GA.refl _), ?_⟩
            simp only [Act.put, List.setIfInBounds_toArray, List.set_cons_zero, List.set_cons_succ]
            refine .inr ⟨fun _ W => ∃ f, W.heap[wr.heap.size]? = some (.cells (qC emC emC ⟨xp, xg, ⟨xi, xk, xm, xt, xb⟩⟩ (em0) f false).toArray 67 (0, 0)), fun u W W' hv hg => ?_, fun v W hW hd => ?_, ?_⟩
            · obtain ⟨f, hv⟩ := hv
              obtain ⟨x1, f1, e, _, h⟩ := hg.blk _ _ _ _ hv
              exact ⟨f1, by rw [show x1 = _ from e.elim id id] at h; exact h⟩
            · clear hd
              obtain ⟨x1, f1, _, _, hq⟩ := hW.blk em0 (em0) false false HM2.out
              exact step_still rfl (W.setCells wr.heap.size 0 (emC ⟨xp, xg, ⟨xi, xk, xm, xt, xb⟩⟩)) (exec_st 31 (.tmp 37) (.tmp 34) rfl wr.heap.size 0 #[.string xp, .bool xg, .string xi, .int .i64 xk, .int .i64 xm, .int .i64 xt, .string xb] rfl rfl (blk_there hq (Nat.le_of_ble_eq_true rfl)) (by kernel_rfl) (all_oneCell_toArray (emC_one ⟨xp, xg, ⟨xi, xk, xm, xt, xb⟩⟩))) ⟨f1, setA_ee hq⟩ ⟨(Kept.refl _ _).sets (fun e => e rfl) _ _, fun x0 y0 f g h => ⟨_, _, .inr rfl, id, setA_ee h⟩⟩
            simp only [Act.put]
            refine .inl ⟨.pointer (some ⟨wr.heap.size, 14, none⟩), fun v W hW hd => step_run (by first | rfl | simp [Region.wanted, yielded]) _ W (by clear hd; go_simp) rfl (GA.refl _), ?_⟩
            simp only [Act.put, List.setIfInBounds_toArray, List.set_cons_zero, List.set_cons_succ]
            refine .inr ⟨fun _ W => ∃ x0, W.heap[wr.heap.size]? = some (.cells (qC emC emC x0 (em0) true false).toArray 67 (0, 0)), fun u W W' hv hg => ?_, fun v W hW hd => ?_, ?_⟩
            · obtain ⟨x0, hv⟩ := hv
              obtain ⟨x1, f1, _, e, h⟩ := hg.blk _ _ _ _ hv
              exact ⟨x1, by rw [e rfl] at h; exact h⟩
            · clear hd
              obtain ⟨x1, f1, _, _, hq⟩ := hW.blk em0 (em0) false false HM2.out
              have hth := (blk_there (o := 14) (k := 1) hq (Nat.le_of_ble_eq_true rfl)) 0 (by omega)
              have hf1 := hth.2
              obtain ⟨hcv, hf2⟩ := Option.isSome_iff_exists.1 hth.1
              simp only [Nat.add_zero] at hf1 hf2
              exact step_still rfl (W.setCell ⟨wr.heap.size, 14, none⟩ (.bool true)) (by clear hW hq hth; go_simp) ⟨x1, flgA_ee hq⟩ ⟨(Kept.refl _ _).setCell (a := ⟨wr.heap.size, 14, none⟩) (fun e => e rfl) _, fun x0 y0 f g h => ⟨_, _, .inl rfl, fun _ => rfl, flgA_ee h⟩⟩
            simp only [Act.put]
            refine .inl ⟨va, fun v W hW hd => step_run (by first | rfl | simp [Region.wanted, yielded]) _ W (by clear hd; go_simp) rfl (GA.refl _), ?_⟩
            simp only [Act.put, List.setIfInBounds_toArray, List.set_cons_zero]
            intro v W3 hW3 hV
            have h6 : ∃ f, W3.heap[wr.heap.size]? = some (.cells (qC emC emC ⟨xp, xg, ⟨xi, xk, xm, xt, xb⟩⟩ (em0) f false).toArray 67 (0, 0)) := hV 6 (by decide)
            have h8 : ∃ x0, W3.heap[wr.heap.size]? = some (.cells (qC emC emC x0 (em0) true false).toArray 67 (0, 0)) := hV 8 (by decide)
            obtain ⟨f6, h6⟩ := h6
            obtain ⟨x8, h8⟩ := h8
            have HM4 : Hid (W3.heap[wr.heap.size]? = some (.cells (qC emC emC ⟨xp, xg, ⟨xi, xk, xm, xt, xb⟩⟩ (em0) true false).toArray 67 (0, 0))) := by
              show _ = _
              rw [flagA (by rfl) h6 h8] at h6
              exact h6
            have HB4 : Hid (Below wr.heap.size wr W3) := HB2.out.trans (hW3.kept.below HB2.out.size fun q hq e => by omega)
            clear hV hW3 h6 h8 HGa HM2
            have HZ : Hid (W3.heap.size = W3.heap.size) := rfl
            obtain ⟨s2, W6, hr6, ho6, hg6⟩ := more_ee w.heap.size u7 done ((some ⟨xp, xg, ⟨xi, xk, xm, xt, xb⟩⟩, none) : Option Em × Option Em) (W3.alloc (.cells #[.string xp, .bool xg, .string xi, .int .i64 xk, .int .i64 xm, .int .i64 xt, .string xb, .string ⟨#[]⟩, .bool false, .string ⟨#[]⟩, .int .i64 0, .int .i64 0, .int .i64 0, .string ⟨#[]⟩, .bool true, .bool false] 67)) ((own_below H.out.row HB4.out).alloc _) W3.heap.size (heap_alloc_new W3 _) (by have := HL0.out; have := H.out.len; have := HN1.out; have := HN2.out; simp only [List.length_cons] at *; omega) (by have := H.out.bel.size; have := HB4.out.size; simp; omega)
            have HO6 : Hid (W6.ownsRow w.heap.size 67 16 s2 (done ++ [((some ⟨xp, xg, ⟨xi, xk, xm, xt, xb⟩⟩, none) : Option Em × Option Em)]).length (rowR eeC (done ++ [((some ⟨xp, xg, ⟨xi, xk, xm, xt, xb⟩⟩, none) : Option Em × Option Em)]))) := ho6
            have HB6 : Hid (Below w.heap.size w W6) := ((H.out.bel.trans (HB4.out.mono H.out.bel.size)).alloc (Nat.le_trans H.out.bel.size HB4.out.size) _).grown hg6 (by have := H.out.bel.size; have := HB4.out.size; simp; omega) fun g hg => (H.out.row.lt g hg).1
            have hrg := blk_range HM4.out
            clear ho6 hg6 HZ
            go_upto_region 9 with fail
            refine wp_region_lit ?_
            refine wpList_plain rfl fun C hC => ?_
            go_simp
            refine hC _ _ ?_
            clear hC C
            refine wpList_load_mid rfl 67 (.tmp 8) rfl wr.heap.size 0 rfl [.string xp, .bool xg, .string xi, .int .i64 xk, .int .i64 xm, .int .i64 xt, .string xb, .string ⟨#[]⟩, .bool false, .string ⟨#[]⟩, .int .i64 0, .int .i64 0, .int .i64 0, .string ⟨#[]⟩, .bool true, .bool false] _ hrg Tryd.underlying67 rfl (by kernel_rfl) ?_
            refine wpList_plain rfl fun C hC => ?_
            go_simp
            refine hC _ _ ?_
            clear hC C
            refine wpL_append_run rfl (.tmp 48) (.tmp 50) 63 63 rfl rfl _ _ s2 W6 rfl rfl hr6 ?_
            refine wpList_plain rfl fun C hC => ?_
            go_simp
            refine hC _ _ ?_
            clear hC C hr6 hrg HM4
            go_wp2_with fail
            go_roundw
            case rel => exact ⟨la, ⟨yp, yg, ⟨yi, yk, ym, yt, yb⟩⟩ :: lb, done ++ [((some ⟨xp, xg, ⟨xi, xk, xm, xt, xb⟩⟩, none) : Option Em × Option Em)], ⟨HRa.out, H.out.rb, (fun q hq => H.out.oa q (List.mem_cons_of_mem _ hq)), H.out.ob, HO6.out, HB6.out, by rw [H.out.eq]; exact (congrArg (done ++ ·) (Dl.side_lt (f := fun x : Em => x.ed.path) (g := fun y : Em => y.ed.path) HE.out HE2.out la lb)).trans (by simp), by have := H.out.len; simp only [List.length_append, List.length_cons, List.length_nil] at *; omega⟩⟩
            case measure => have q1 := HLa.out; have q2 := HLb.out; have q3 := HN1.out; have q4 := HN2.out; (try rw [q1]); (try rw [q2]); simp only [lenEE]; omega
          · have HE : Hid ((⟨xp, xg, ⟨xi, xk, xm, xt, xb⟩⟩ : Em).ed.path ≠ (⟨yp, yg, ⟨yi, yk, ym, yt, yb⟩⟩ : Em).ed.path) := hne
            have HE2 : Hid ((Nn.less (⟨xp, xg, ⟨xi, xk, xm, xt, xb⟩⟩ : Em).ed.path (⟨yp, yg, ⟨yi, yk, ym, yt, yb⟩⟩ : Em).ed.path).1 = false) := hls
            clear hne hls HC3
            go_upto_region 8 with fail
            have HGb : Hid (∀ W, GB emC emC 67 wr.heap.size ⟨yp, yg, ⟨yi, yk, ym, yt, yb⟩⟩ W2 W → W.rangeAt bkk oo (emC ⟨yp, yg, ⟨yi, yk, ym, yt, yb⟩⟩)) := fun W hW => HXb.out W (HB2.out.trans (hW.kept.below HB2.out.size fun q hq e => by omega))
            refine wp_region_rel (G := GB emC emC 67 wr.heap.size ⟨yp, yg, ⟨yi, yk, ym, yt, yb⟩⟩) (W0 := W2) GB.refl GB.trans (by kernel_rfl) (by kernel_rfl) (by kernel_rfl) (GB.drew W2) ?_
            refine .inl ⟨.slice (some ⟨bkk, oo, none⟩) (n2 + 1) qc, fun v W hW hd => step_run (by first | rfl | simp [Region.wanted, yielded]) _ W (by clear hd; go_simp) rfl (GB.refl _), ?_⟩
            simp only [Act.put, List.setIfInBounds_toArray, List.set_cons_zero, List.set_cons_succ]
            refine .inl ⟨.pointer (some ⟨bkk, oo, none⟩), fun v W hW hd => step_run (by first | rfl | simp [Region.wanted, yielded]) _ W (by clear hd; go_simp) rfl (GB.refl _), ?_⟩
            simp only [Act.put, List.setIfInBounds_toArray, List.set_cons_zero, List.set_cons_succ]
            refine .inl ⟨.agg #[.string yp, .bool yg, .string yi, .int .i64 yk, .int .i64 ym, .int .i64 yt, .string yb], fun v W hW hd => step_run rfl _ W (exec_ld 31 (.tmp 42) rfl bkk oo rfl (emC ⟨yp, yg, ⟨yi, yk, ym, yt, yb⟩⟩) _ (HGb.out W hW) Tryd.underlying31 rfl (by kernel_rfl)) rfl (GB.refl _), ?_⟩
            simp only [Act.put, List.setIfInBounds_toArray, List.set_cons_zero, List.set_cons_succ]
            refine .inl ⟨.slice (some ⟨bkk, oo, none⟩) (n2 + 1) qc, fun v W hW hd => step_run (by first | rfl | simp [Region.wanted, yielded]) _ W (by clear hd; go_simp) rfl (GB.refl _), ?_⟩
            simp only [Act.put, List.setIfInBounds_toArray, List.set_cons_zero, List.set_cons_succ]
            refine .inl ⟨vb, fun v W hW hd => step_run (by first | rfl | simp [Region.wanted, yielded]) _ W (by clear hd; have hv := Hvb.out; have hq : ¬ ((n2 : Int) + 1 < 1) := (by omega); go_simp) rfl (GB.refl _), ?_⟩
            simp only [Act.put, List.setIfInBounds_toArray, List.set_cons_zero, List.set_cons_succ]
            refine .inl ⟨.pointer (some ⟨wr.heap.size, 7, none⟩), fun v W hW hd => step_run (by first | rfl | simp [Region.wanted, yielded]) _ W (by clear hd; go_simp) rfl (GB.refl _), ?_⟩
            simp only [Act.put, List.setIfInBounds_toArray, List.set_cons_zero, List.set_cons_succ]
            refine .inr ⟨fun _ W => ∃ g, W.heap[wr.heap.size]? = some (.cells (qC emC emC em0 ⟨yp, yg, ⟨yi, yk, ym, yt, yb⟩⟩ false g).toArray 67 (0, 0)), fun u W W' hv hg => ?_, fun v W hW hd => ?_, ?_⟩
            · obtain ⟨f, hv⟩ := hv
              obtain ⟨x1, f1, e, _, h⟩ := hg.blk _ _ _ _ hv
              exact ⟨f1, by rw [show x1 = _ from e.elim id id] at h; exact h⟩
            · clear hd
              obtain ⟨x1, f1, _, _, hq⟩ := hW.blk em0 (em0) false false HM2.out
              exact step_still rfl (W.setCells wr.heap.size 7 (emC ⟨yp, yg, ⟨yi, yk, ym, yt, yb⟩⟩)) (exec_st 31 (.tmp 46) (.tmp 43) rfl wr.heap.size 7 #[.string yp, .bool yg, .string yi, .int .i64 yk, .int .i64 ym, .int .i64 yt, .string yb] rfl rfl (blk_there hq (Nat.le_of_ble_eq_true rfl)) (by kernel_rfl) (all_oneCell_toArray (emC_one ⟨yp, yg, ⟨yi, yk, ym, yt, yb⟩⟩))) ⟨f1, setB_ee hq⟩ ⟨(Kept.refl _ _).sets (fun e => e rfl) _ _, fun x0 y0 f g h => ⟨_, _, .inr rfl, id, setB_ee h⟩⟩
            simp only [Act.put]
            refine .inl ⟨.pointer (some ⟨wr.heap.size, 15, none⟩), fun v W hW hd => step_run (by first | rfl | simp [Region.wanted, yielded]) _ W (by clear hd; go_simp) rfl (GB.refl _), ?_⟩
            simp only [Act.put, List.setIfInBounds_toArray, List.set_cons_zero, List.set_cons_succ]
            refine .inr ⟨fun _ W => ∃ y0, W.heap[wr.heap.size]? = some (.cells (qC emC emC em0 y0 false true).toArray 67 (0, 0)), fun u W W' hv hg => ?_, fun v W hW hd => ?_, ?_⟩
            · obtain ⟨x0, hv⟩ := hv
              obtain ⟨x1, f1, _, e, h⟩ := hg.blk _ _ _ _ hv
              exact ⟨x1, by rw [e rfl] at h; exact h⟩
            · clear hd
              obtain ⟨x1, f1, _, _, hq⟩ := hW.blk em0 (em0) false false HM2.out
              have hth := (blk_there (o := 15) (k := 1) hq (Nat.le_of_ble_eq_true rfl)) 0 (by omega)
              have hf1 := hth.2
              obtain ⟨hcv, hf2⟩ := Option.isSome_iff_exists.1 hth.1
              simp only [Nat.add_zero] at hf1 hf2
              exact step_still rfl (W.setCell ⟨wr.heap.size, 15, none⟩ (.bool true)) (by clear hW hq hth; go_simp) ⟨x1, flgB_ee hq⟩ ⟨(Kept.refl _ _).setCell (a := ⟨wr.heap.size, 15, none⟩) (fun e => e rfl) _, fun x0 y0 f g h => ⟨_, _, .inl rfl, fun _ => rfl, flgB_ee h⟩⟩
            simp only [Act.put]
            refine .inl ⟨vb, fun v W hW hd => step_run (by first | rfl | simp [Region.wanted, yielded]) _ W (by clear hd; go_simp) rfl (GB.refl _), ?_⟩
            simp only [Act.put, List.setIfInBounds_toArray, List.set_cons_zero, List.set_cons_succ]
            intro v W3 hW3 hV
            have h6 : ∃ g, W3.heap[wr.heap.size]? = some (.cells (qC emC emC em0 ⟨yp, yg, ⟨yi, yk, ym, yt, yb⟩⟩ false g).toArray 67 (0, 0)) := hV 6 (by decide)
            have h8 : ∃ y0, W3.heap[wr.heap.size]? = some (.cells (qC emC emC em0 y0 false true).toArray 67 (0, 0)) := hV 8 (by decide)
            obtain ⟨f6, h6⟩ := h6
            obtain ⟨x8, h8⟩ := h8
            have HM4 : Hid (W3.heap[wr.heap.size]? = some (.cells (qC emC emC em0 ⟨yp, yg, ⟨yi, yk, ym, yt, yb⟩⟩ false true).toArray 67 (0, 0))) := by
              show _ = _
              rw [flagB (by rfl) h6 h8] at h6
              exact h6
            have HB4 : Hid (Below wr.heap.size wr W3) := HB2.out.trans (hW3.kept.below HB2.out.size fun q hq e => by omega)
            clear hV hW3 h6 h8 HGb HM2
            have HZ : Hid (W3.heap.size = W3.heap.size) := rfl
            obtain ⟨s2, W6, hr6, ho6, hg6⟩ := more_ee w.heap.size u7 done ((none, some ⟨yp, yg, ⟨yi, yk, ym, yt, yb⟩⟩) : Option Em × Option Em) (W3.alloc (.cells #[.string ⟨#[]⟩, .bool false, .string ⟨#[]⟩, .int .i64 0, .int .i64 0, .int .i64 0, .string ⟨#[]⟩, .string yp, .bool yg, .string yi, .int .i64 yk, .int .i64 ym, .int .i64 yt, .string yb, .bool false, .bool true] 67)) ((own_below H.out.row HB4.out).alloc _) W3.heap.size (heap_alloc_new W3 _) (by have := HL0.out; have := H.out.len; have := HN1.out; have := HN2.out; simp only [List.length_cons] at *; omega) (by have := H.out.bel.size; have := HB4.out.size; simp; omega)
            have HO6 : Hid (W6.ownsRow w.heap.size 67 16 s2 (done ++ [((none, some ⟨yp, yg, ⟨yi, yk, ym, yt, yb⟩⟩) : Option Em × Option Em)]).length (rowR eeC (done ++ [((none, some ⟨yp, yg, ⟨yi, yk, ym, yt, yb⟩⟩) : Option Em × Option Em)]))) := ho6
            have HB6 : Hid (Below w.heap.size w W6) := ((H.out.bel.trans (HB4.out.mono H.out.bel.size)).alloc (Nat.le_trans H.out.bel.size HB4.out.size) _).grown hg6 (by have := H.out.bel.size; have := HB4.out.size; simp; omega) fun g hg => (H.out.row.lt g hg).1
            have hrg := blk_range HM4.out
            clear ho6 hg6 HZ
            go_upto_region 9 with fail
            refine wp_region_lit ?_
            refine wpList_plain rfl fun C hC => ?_
            go_simp
            refine hC _ _ ?_
            clear hC C
            refine wpList_load_mid rfl 67 (.tmp 8) rfl wr.heap.size 0 rfl [.string ⟨#[]⟩, .bool false, .string ⟨#[]⟩, .int .i64 0, .int .i64 0, .int .i64 0, .string ⟨#[]⟩, .string yp, .bool yg, .string yi, .int .i64 yk, .int .i64 ym, .int .i64 yt, .string yb, .bool false, .bool true] _ hrg Tryd.underlying67 rfl (by kernel_rfl) ?_
            refine wpList_plain rfl fun C hC => ?_
            go_simp
            refine hC _ _ ?_
            clear hC C
            refine wpL_append_run rfl (.tmp 48) (.tmp 50) 63 63 rfl rfl _ _ s2 W6 rfl rfl hr6 ?_
            refine wpList_plain rfl fun C hC => ?_
            go_simp
            refine hC _ _ ?_
            clear hC C hr6 hrg HM4
            go_wp2_with fail
            go_roundw
            case rel => exact ⟨⟨xp, xg, ⟨xi, xk, xm, xt, xb⟩⟩ :: la, lb, done ++ [((none, some ⟨yp, yg, ⟨yi, yk, ym, yt, yb⟩⟩) : Option Em × Option Em)], ⟨H.out.ra, HRb.out, H.out.oa, (fun q hq => H.out.ob q (List.mem_cons_of_mem _ hq)), HO6.out, HB6.out, by rw [H.out.eq]; exact (congrArg (done ++ ·) (Dl.side_gt (f := fun x : Em => x.ed.path) (g := fun y : Em => y.ed.path) HE.out HE2.out la lb)).trans (by simp), by have := H.out.len; simp only [List.length_append, List.length_cons, List.length_nil] at *; omega⟩⟩
            case measure => have q1 := HLa.out; have q2 := HLb.out; have q3 := HN1.out; have q4 := HN2.out; (try rw [q1]); (try rw [q2]); simp only [lenEE]; omega
  case rest =>
    obtain ⟨la, lb, done, H, HE⟩ := hcut
    obtain ⟨pa, pc, rfl, hpc1, hpc2⟩ := H.out.ra.slice
    obtain ⟨qa, qc, rfl, hqc1, hqc2⟩ := H.out.rb.slice
    obtain ⟨n1, hn1⟩ : ∃ n, n = la.length := ⟨_, rfl⟩
    obtain ⟨n2, hn2⟩ : ∃ n, n = lb.length := ⟨_, rfl⟩
    have HN1 : Hid (n1 = la.length) := hn1
    have HN2 : Hid (n2 = lb.length) := hn2
    have HLn : Hid (done.length + (la.length + lb.length) ≤ na + nb) := by have := H.out.len; show _ ≤ _; omega
    have HF : Hid (sdEE a b = (done ++ la.map (fun x : Em => ((some x, none) : Option Em × Option Em))) ++ lb.map (fun y : Em => ((none, some y) : Option Em × Option Em))) := by
      show _ = _
      rw [H.out.eq]
      rcases HE.out with e | e
      · subst e
        exact (congrArg (done ++ ·) (Dl.side_nil lb)).trans (by simp)
      · subst e
        exact (congrArg (done ++ ·) (Dl.side_nil2 la)).trans (by simp)
    rw [← hn1] at hpc1 H ⊢
    rw [← hn2] at hqc1 H ⊢
    clear hn1 hn2 HE
    go_wp2_with fail
    go_loopw [7, 54] (fun s i wr => ∃ k : Nat, k ≤ n1 ∧ i = .int .i64 k ∧ Hid (wr.ownsRow w.heap.size 67 16 s (done ++ (la.take k).map (fun x : Em => ((some x, none) : Option Em × Option Em))).length (rowR eeC (done ++ (la.take k).map (fun x : Em => ((some x, none) : Option Em × Option Em))))) ∧ Hid (Below w.heap.size w wr)) (fun _ i _ => n1 - (intOf i).toNat)
    case atStart => exact ⟨0, by omega, rfl, by show World.ownsRow _ _ _ _ _ _ _; simpa using H.out.row, H.out.bel⟩
    case round =>
      obtain ⟨k, hk, rfl, HO, HB⟩ := hrel
      by_cases hlt : k < n1
      · obtain ⟨t, ht⟩ : ∃ t, la[k]? = some t := ⟨_, List.getElem?_eq_getElem (by have := HN1.out; omega)⟩
        obtain ⟨bk, o, rfl, hbk, c0, c1, c2, c3, c4, c5, c6⟩ := (H.out.ra.below HB.out).edit k t ht
        have HDn : Hid ((done ++ (la.take (k + 1)).map (fun x : Em => ((some x, none) : Option Em × Option Em))) = (done ++ (la.take k).map (fun x : Em => ((some x, none) : Option Em × Option Em))) ++ [(fun x : Em => ((some x, none) : Option Em × Option Em)) t]) := by show _ = _; rw [List.take_add_one, ht]; simp
        obtain ⟨xp, xg, ⟨xi, xk, xm, xt, xb⟩⟩ := t
        dsimp only at c0 c1 c2 c3 c4 c5 c6
        obtain ⟨s2, W6, hr6, ho6, hg6⟩ := more_ee w.heap.size u7 _ ((fun x : Em => ((some x, none) : Option Em × Option Em)) ⟨xp, xg, ⟨xi, xk, xm, xt, xb⟩⟩) ((wr.alloc (.cells #[.string xp, .bool xg, .string xi, .int .i64 xk, .int .i64 xm, .int .i64 xt, .string xb] 31)).alloc (.cells #[.string xp, .bool xg, .string xi, .int .i64 xk, .int .i64 xm, .int .i64 xt, .string xb, .string ⟨#[]⟩, .bool false, .string ⟨#[]⟩, .int .i64 0, .int .i64 0, .int .i64 0, .string ⟨#[]⟩, .bool true, .bool false] 67)) ((HO.out.alloc _).alloc _) (wr.heap.size + 1) (by rw [show wr.heap.size + 1 = (wr.alloc (.cells #[.string xp, .bool xg, .string xi, .int .i64 xk, .int .i64 xm, .int .i64 xt, .string xb] 31)).heap.size from by simp]; exact heap_alloc_new _ _) (by have := HL0.out; have := HLn.out; have := HN1.out; have := HN2.out; simp only [List.length_append, List.length_map, List.length_take]; omega) (by have := HB.out.size; simp; omega)
        have HO6 : Hid (W6.ownsRow w.heap.size 67 16 s2 (done ++ (la.take (k + 1)).map (fun x : Em => ((some x, none) : Option Em × Option Em))).length (rowR eeC (done ++ (la.take (k + 1)).map (fun x : Em => ((some x, none) : Option Em × Option Em))))) := by
          rw [HDn.out]; exact ho6
        have HB6 : Hid (Below w.heap.size w W6) := (((HB.out.alloc HB.out.size _).alloc (by have := HB.out.size; simp; omega) _)).grown hg6 (by have := HB.out.size; simp; omega) fun g hg => (HO.out.lt g hg).1
        clear ho6 hg6 ht HDn
        go_wp2_with (at_builtin; refine wpL_append_run rfl (.tmp 58) (.tmp 61) 63 63 rfl rfl _ _ s2 W6 rfl rfl hr6 ?_)
        clear hr6 c0 c1 c2 c3 c4 c5 c6
        go_roundw
        case measure => simp only [intOf]; omega
        case rel => exact ⟨k + 1, by omega, by go_num, HO6, HB6⟩
      · obtain rfl : k = n1 := by omega
        have HO1 : Hid (wr.ownsRow w.heap.size 67 16 u7 (done ++ la.map (fun x : Em => ((some x, none) : Option Em × Option Em))).length (rowR eeC (done ++ la.map (fun x : Em => ((some x, none) : Option Em × Option Em))))) := by
          have h := HO.out
          rw [List.take_of_length_le (by have := HN1.out; omega)] at h
          exact h
        clear HO
        go_wp2_with fail
        go_loopw [7, 66] (fun s i wr => ∃ k : Nat, k ≤ n2 ∧ i = .int .i64 k ∧ Hid (wr.ownsRow w.heap.size 67 16 s ((done ++ la.map (fun x : Em => ((some x, none) : Option Em × Option Em))) ++ (lb.take k).map (fun y : Em => ((none, some y) : Option Em × Option Em))).length (rowR eeC ((done ++ la.map (fun x : Em => ((some x, none) : Option Em × Option Em))) ++ (lb.take k).map (fun y : Em => ((none, some y) : Option Em × Option Em))))) ∧ Hid (Below w.heap.size w wr)) (fun _ i _ => n2 - (intOf i).toNat)
        case atStart => exact ⟨0, by omega, rfl, by show World.ownsRow _ _ _ _ _ _ _; simpa using HO1.out, HB.out⟩
        case round =>
          obtain ⟨k, hk, rfl, HO, HB⟩ := hrel
          clear HO1
          by_cases hlt : k < n2
          · obtain ⟨t, ht⟩ : ∃ t, lb[k]? = some t := ⟨_, List.getElem?_eq_getElem (by have := HN2.out; omega)⟩
            obtain ⟨bk, o, rfl, hbk, c0, c1, c2, c3, c4, c5, c6⟩ := (H.out.rb.below HB.out).edit k t ht
            have HDn : Hid (((done ++ la.map (fun x : Em => ((some x, none) : Option Em × Option Em))) ++ (lb.take (k + 1)).map (fun y : Em => ((none, some y) : Option Em × Option Em))) = ((done ++ la.map (fun x : Em => ((some x, none) : Option Em × Option Em))) ++ (lb.take k).map (fun y : Em => ((none, some y) : Option Em × Option Em))) ++ [(fun y : Em => ((none, some y) : Option Em × Option Em)) t]) := by show _ = _; rw [List.take_add_one, ht]; simp
            obtain ⟨yp, yg, ⟨yi, yk, ym, yt, yb⟩⟩ := t
            dsimp only at c0 c1 c2 c3 c4 c5 c6
            obtain ⟨s2, W6, hr6, ho6, hg6⟩ := more_ee w.heap.size u7 _ ((fun y : Em => ((none, some y) : Option Em × Option Em)) ⟨yp, yg, ⟨yi, yk, ym, yt, yb⟩⟩) ((wr.alloc (.cells #[.string yp, .bool yg, .string yi, .int .i64 yk, .int .i64 ym, .int .i64 yt, .string yb] 31)).alloc (.cells #[.string ⟨#[]⟩, .bool false, .string ⟨#[]⟩, .int .i64 0, .int .i64 0, .int .i64 0, .string ⟨#[]⟩, .string yp, .bool yg, .string yi, .int .i64 yk, .int .i64 ym, .int .i64 yt, .string yb, .bool false, .bool true] 67)) ((HO.out.alloc _).alloc _) (wr.heap.size + 1) (by rw [show wr.heap.size + 1 = (wr.alloc (.cells #[.string yp, .bool yg, .string yi, .int .i64 yk, .int .i64 ym, .int .i64 yt, .string yb] 31)).heap.size from by simp]; exact heap_alloc_new _ _) (by have := HL0.out; have := HLn.out; have := HN1.out; have := HN2.out; simp only [List.length_append, List.length_map, List.length_take]; omega) (by have := HB.out.size; simp; omega)
            have HO6 : Hid (W6.ownsRow w.heap.size 67 16 s2 ((done ++ la.map (fun x : Em => ((some x, none) : Option Em × Option Em))) ++ (lb.take (k + 1)).map (fun y : Em => ((none, some y) : Option Em × Option Em))).length (rowR eeC ((done ++ la.map (fun x : Em => ((some x, none) : Option Em × Option Em))) ++ (lb.take (k + 1)).map (fun y : Em => ((none, some y) : Option Em × Option Em))))) := by
              rw [HDn.out]; exact ho6
            have HB6 : Hid (Below w.heap.size w W6) := (((HB.out.alloc HB.out.size _).alloc (by have := HB.out.size; simp; omega) _)).grown hg6 (by have := HB.out.size; simp; omega) fun g hg => (HO.out.lt g hg).1
            clear ho6 hg6 ht HDn
            go_wp2_with (at_builtin; refine wpL_append_run rfl (.tmp 70) (.tmp 73) 63 63 rfl rfl _ _ s2 W6 rfl rfl hr6 ?_)
            clear hr6 c0 c1 c2 c3 c4 c5 c6
            go_roundw
            case measure => simp only [intOf]; omega
            case rel => exact ⟨k + 1, by omega, by go_num, HO6, HB6⟩
          · obtain rfl : k = n2 := by omega
            have HO2 : Hid (wr.ownsRow w.heap.size 67 16 u7 (sdEE a b).length (rowR eeC (sdEE a b))) := by
              have h := HO.out
              rw [List.take_of_length_le (by have := HN2.out; omega), ← HF.out] at h
              exact h
            go_wp2_with fail
            go_ret
            exact ⟨_, rfl, HO2.out, HB.out⟩

end Go.Proofs.YthpcbbkpjggjbaaDoor

namespace Go.Proofs.YthpcbbkpjggjbaaDoor
open Go.RowKit
set_option maxRecDepth 4000

set_option maxHeartbeats 16000000 in
theorem djoin_any (va vb : Value) (a : List Em) (b : List Em) (w : World) (ha : Eds w va a) (hb : Eds w vb b) (la : a.length ≤ 140737488351232) (lb : b.length ≤ 140737488351232) (oa : ∀ x ∈ a, x.Ok) (ob : ∀ x ∈ b, x.Ok) (hT : Tabs w) :
    Calls Tryd.prog 13 #[va, vb] w fun e w' => ∃ v l, e = .returned (.tuple #[v, .int .i64 (Dl.join (edl a) (edl b)).2]) ∧ w'.ownsRow w.heap.size 31 7 v l.length (rowR emC l) ∧ edl l = (Dl.join (edl a) (edl b)).1 ∧ (∀ x ∈ l, x.Ok) ∧ Below w.heap.size w w' := by
  have hca := dcheck_any va a w ha la oa hT
  have HCb : Hid (∀ W, Below w.heap.size w W → Calls Tryd.prog 15 #[vb] W fun e w' => e = .returned (.int .i64 (Dl.check (edl b))) ∧ Below W.heap.size W w') := fun W hW => dcheck_any vb b W (hb.below hW) lb ob (hT.below hW)
  have HSd : Hid (a.length + b.length ≤ 1000 → ∀ W, Below w.heap.size w W → Calls Tryd.prog 32 #[va, vb, .func (.func 33) #[] #[]] W fun e w' => ∃ v, e = .returned v ∧ w'.ownsRow W.heap.size 67 16 v (sdEE a b).length (rowR eeC (sdEE a b)) ∧ Below W.heap.size W w') := fun h W hW => sideEE_any va vb a b W (ha.below hW) (hb.below hW) h oa ob (hT.below hW)
  have HP : Hid (Dl.join (edl a) (edl b) = if Dl.check (edl a) ≠ 0 then ([], Dl.check (edl a)) else if Dl.check (edl b) ≠ 0 then ([], Dl.check (edl b)) else if 200 < (Dl.joinL (edl a) (edl b)).length then ([], 2) else (Dl.joinL (edl a) (edl b), 0)) := rfl
  have HT : Hid (Tabs w) := hT
  have HOa : Hid (∀ x ∈ a, x.Ok) := oa
  have HOb : Hid (∀ x ∈ b, x.Ok) := ob
  obtain ⟨RP, hRP⟩ : ∃ RP, RP = Dl.join (edl a) (edl b) := ⟨_, rfl⟩
  rw [← hRP] at HP ⊢
  obtain ⟨EA, hEA⟩ : ∃ EA, EA = Dl.check (edl a) := ⟨_, rfl⟩
  obtain ⟨EB, hEB⟩ : ∃ EB, EB = Dl.check (edl b) := ⟨_, rfl⟩
  rw [← hEA] at hca
  rw [← hEB] at HCb
  have HEA : Hid (EA = Dl.check (edl a)) := hEA
  have HEB : Hid (EB = Dl.check (edl b)) := hEB
  clear ha hb la lb oa ob hT hRP hEA hEB
  go_enter Tryd.func13, Tryd.ntmps13
  go_wp2_with fail
  refine hca.mono ?_
  rintro e w1 ⟨rfl, b1⟩
  have HB1 : Hid (Below w.heap.size w w1) := b1
  clear hca b1
  by_cases c1 : EA = 0
  case neg =>
    have hne : (EA != 0) = true := by rw [bne_iff_ne]; exact c1
    have HRe : Hid (RP = ([], EA)) := by show _ = _; rw [HP.out, ← HEA.out, if_pos c1]
    clear HP HSd HCb
    go_wp2_with fail
    go_ret2
    exact ⟨_, [], by rw [HRe.out]; rfl, World.ownsRow_nil _ _ _ _, by rw [HRe.out]; rfl, fun x hx => absurd hx List.not_mem_nil, HB1.out⟩
  have hne : (EA != 0) = false := by rw [c1]; rfl
  have HEA0 : Hid (Dl.check (edl a) = 0) := by show _ = _; rw [← HEA.out]; exact c1
  go_wp2_with fail
  refine (HCb.out _ HB1.out).mono ?_
  rintro e w2 ⟨rfl, b2⟩
  have HB2 : Hid (Below w.heap.size w w2) := HB1.out.trans (b2.mono HB1.out.size)
  clear HCb b2 hne c1
  by_cases c2 : EB = 0
  case neg =>
    have hne : (EB != 0) = true := by rw [bne_iff_ne]; exact c2
    have HRe : Hid (RP = ([], EB)) := by show _ = _; rw [HP.out, if_neg (fun q => q HEA0.out), ← HEB.out, if_pos c2]
    clear HP HSd
    go_wp2_with fail
    go_ret2
    exact ⟨_, [], by rw [HRe.out]; rfl, World.ownsRow_nil _ _ _ _, by rw [HRe.out]; rfl, fun x hx => absurd hx List.not_mem_nil, HB2.out⟩
  have hne : (EB != 0) = false := by rw [c2]; rfl
  have HEB0 : Hid (Dl.check (edl b) = 0) := by show _ = _; rw [← HEB.out]; exact c2
  have hlen : a.length + b.length ≤ 1000 := by
    have h1 := (Dl.check_ok.1 HEA0.out).1; have h2 := (Dl.check_ok.1 HEB0.out).1; rw [edl_length] at h1 h2; omega
  have hside := HSd.out hlen _ HB2.out
  obtain ⟨S, hS⟩ : ∃ S, S = sdEE a b := ⟨_, rfl⟩
  have HS : Hid (S = sdEE a b) := hS
  have HS3 : Hid (S.length ≤ 1000) := by
    show _ ≤ _
    rw [hS]
    exact Nat.le_trans (Dl.side_len _ _) hlen
  rw [← hS] at hside
  clear HSd c2 hlen hS
  go_wp2_with fail
  refine hside.mono ?_
  rintro e w4 ⟨vs, rfl, hs, b4⟩
  have HB4 : Hid (Below w.heap.size w w4) := HB2.out.trans (b4.mono HB2.out.size)
  have hR := Rx.of_own (C := eeC) (k := 16) eeC_len hs
  obtain ⟨sa, sc, rfl⟩ := own_form hs
  obtain ⟨N, hN⟩ : ∃ N, N = S.length := ⟨_, rfl⟩
  have HN : Hid (N = S.length) := hN
  rw [← hN] at hR ⊢
  have HR : Hid (Rx 16 eeC w4 (.slice sa N sc) S) := hR
  have hN3 : N ≤ 1000 := by have := HN.out; have := HS3.out; omega
  clear hside hs b4 hR hN hne
  go_wp2_with fail
  go_loopw [8, 25] (fun s i wr => ∃ k : Nat, k ≤ N ∧ i = .int .i64 k ∧ Hid (wr.ownsRow w4.heap.size 31 7 s ((S.take k).filterMap tJ).length (rowR emC ((S.take k).filterMap tJ))) ∧ Hid (Below w4.heap.size w4 wr)) (fun _ i _ => N - (intOf i).toNat)
  case atStart => exact ⟨0, by omega, rfl, World.ownsRow_nil _ _ _ _, Below.refl _ _⟩
  case round =>
    obtain ⟨k, hk, rfl, HO, HB⟩ := hrel
    by_cases hlt : k < N
    · obtain ⟨z, ht⟩ : ∃ z, S[k]? = some z := ⟨_, List.getElem?_eq_getElem (by have := HN.out; omega)⟩
      have hz := side_in a b z (by have := List.mem_of_getElem? ht; rw [HS.out] at this; exact this)
      obtain ⟨bk, o, rfl, hbk, hc⟩ := (HR.out.below HB.out).get k z ht
      obtain ⟨zx, zy⟩ := z
      cases zy with
      | none =>
        cases zx with
        | none => exact absurd hz.1 (by simp)
        | some x =>
          obtain ⟨xp, xg, ⟨xi, xk, xm, xt, xb⟩⟩ := x
          have hrg : wr.rangeAt bk (o + k * 16) (eeC ((some ⟨xp, xg, ⟨xi, xk, xm, xt, xb⟩⟩, none) : Option Em × Option Em)) := fun r u hu => hc r u hu
          obtain ⟨W1, hW1⟩ : ∃ W1, W1 = (wr.alloc (.cells #[.string ⟨#[]⟩, .bool false, .string ⟨#[]⟩, .int .i64 0, .int .i64 0, .int .i64 0, .string ⟨#[]⟩, .string ⟨#[]⟩, .bool false, .string ⟨#[]⟩, .int .i64 0, .int .i64 0, .int .i64 0, .string ⟨#[]⟩, .bool false, .bool false] 67)).setCells wr.heap.size 0 (eeC ((some ⟨xp, xg, ⟨xi, xk, xm, xt, xb⟩⟩, none) : Option Em × Option Em)) := ⟨_, rfl⟩
          have hz0 := heap_alloc_new wr (.cells #[.string ⟨#[]⟩, .bool false, .string ⟨#[]⟩, .int .i64 0, .int .i64 0, .int .i64 0, .string ⟨#[]⟩, .string ⟨#[]⟩, .bool false, .string ⟨#[]⟩, .int .i64 0, .int .i64 0, .int .i64 0, .string ⟨#[]⟩, .bool false, .bool false] 67)
          have hth := blk_there (o := 0) (k := 16) hz0 (Nat.le_of_ble_eq_true rfl)
          have HB1 : Hid (Below w4.heap.size w4 W1) := by rw [hW1]; exact setCells_below (HB.out.alloc HB.out.size _) HB.out.size _
          have HBr : Below wr.heap.size wr W1 := by rw [hW1]; exact setCells_below ((Below.refl _ wr).alloc (Nat.le_refl _) _) (Nat.le_refl _) _
          have HM1 : W1.heap[wr.heap.size]? = some (.cells (eeC ((some ⟨xp, xg, ⟨xi, xk, xm, xt, xb⟩⟩, none) : Option Em × Option Em)).toArray 67 (0, 0)) := by
            rw [hW1]
            have h := sets_blk (post := []) (eeC ((some ⟨xp, xg, ⟨xi, xk, xm, xt, xb⟩⟩, none) : Option Em × Option Em)) [] (eeC (none, none)) _ hz0 rfl
            rwa [List.append_nil] at h
          have key := fun j => cell_of_row W1 wr.heap.size j _ _ _ HM1
          have cf : W1.cell? ⟨wr.heap.size, 15, none⟩ = some (.bool false) := key 15
          have c0 : W1.cell? ⟨wr.heap.size, 0, none⟩ = some (.string xp) := key 0
          have c1 : W1.cell? ⟨wr.heap.size, 1, none⟩ = some (.bool xg) := key 1
          have c2 : W1.cell? ⟨wr.heap.size, 2, none⟩ = some (.string xi) := key 2
          have c3 : W1.cell? ⟨wr.heap.size, 3, none⟩ = some (.int .i64 xk) := key 3
          have c4 : W1.cell? ⟨wr.heap.size, 4, none⟩ = some (.int .i64 xm) := key 4
          have c5 : W1.cell? ⟨wr.heap.size, 5, none⟩ = some (.int .i64 xt) := key 5
          have c6 : W1.cell? ⟨wr.heap.size, 6, none⟩ = some (.string xb) := key 6
          obtain ⟨s2, W6, hr6, ho6, hg6⟩ := more_ae w4.heap.size u8 ((S.take k).filterMap tJ) (⟨xp, xg, ⟨xi, xk, xm, xt, xb⟩⟩ : Em) (W1.alloc (.cells #[.string xp, .bool xg, .string xi, .int .i64 xk, .int .i64 xm, .int .i64 xt, .string xb] 31)) ((own_below HO.out HBr).alloc _) W1.heap.size (heap_alloc_new W1 _) (by have h1 := List.length_filterMap_le tJ (S.take k); rw [List.length_take] at h1; have := HS3.out; have := HN.out; omega) (by have := HB1.out.size; simp; omega)
          have HO6 : Hid (W6.ownsRow w4.heap.size 31 7 s2 ((S.take (k + 1)).filterMap tJ).length (rowR emC ((S.take (k + 1)).filterMap tJ))) := by
            rw [told_step ht, show tJ ((some ⟨xp, xg, ⟨xi, xk, xm, xt, xb⟩⟩, none) : Option Em × Option Em) = some (⟨xp, xg, ⟨xi, xk, xm, xt, xb⟩⟩ : Em) from by rfl, Option.toList_some]; exact ho6
          have HB6 : Hid (Below w4.heap.size w4 W6) := ((HB1.out.alloc HB1.out.size _)).grown hg6 (by have := HB1.out.size; simp; omega) fun g hg => (HO.out.lt g hg).1
          clear ho6 hg6 ht hz0 HM1 key HBr hc
          go_upto_region 10 with fail
          refine wp_region_lit ?_
          refine wpList_plain rfl fun C hC => ?_
          go_simp
          refine hC _ _ ?_
          clear hC C
          refine wpList_load_mid rfl 67 (.tmp 27) rfl bk (o + k * 16) rfl [.string xp, .bool xg, .string xi, .int .i64 xk, .int .i64 xm, .int .i64 xt, .string xb, .string ⟨#[]⟩, .bool false, .string ⟨#[]⟩, .int .i64 0, .int .i64 0, .int .i64 0, .string ⟨#[]⟩, .bool true, .bool false] _ hrg Tryd.underlying67 rfl (by kernel_rfl) ?_
          refine wpList_plain rfl fun C hC => ?_
          go_simp
          refine hC _ _ ?_
          clear hC C
          refine wpList_store_mid rfl 67 (.tmp 10) (.tmp 28) rfl wr.heap.size 0 #[.string xp, .bool xg, .string xi, .int .i64 xk, .int .i64 xm, .int .i64 xt, .string xb, .string ⟨#[]⟩, .bool false, .string ⟨#[]⟩, .int .i64 0, .int .i64 0, .int .i64 0, .string ⟨#[]⟩, .bool true, .bool false] rfl rfl hth (by kernel_rfl) (all_oneCell_toArray (eeC_one ((some ⟨xp, xg, ⟨xi, xk, xm, xt, xb⟩⟩, none) : Option Em × Option Em))) ?_
          rw [show (#[.string xp, .bool xg, .string xi, .int .i64 xk, .int .i64 xm, .int .i64 xt, .string xb, .string ⟨#[]⟩, .bool false, .string ⟨#[]⟩, .int .i64 0, .int .i64 0, .int .i64 0, .string ⟨#[]⟩, .bool true, .bool false] : Array Value).toList = eeC ((some ⟨xp, xg, ⟨xi, xk, xm, xt, xb⟩⟩, none) : Option Em × Option Em) from rfl, ← hW1]
          clear hW1 hth hrg
          go_wp2_with (at_builtin; refine wpL_append_run rfl (.tmp 36) (.tmp 39) 23 23 rfl rfl _ _ s2 W6 rfl rfl hr6 ?_)
          clear hr6 cf c0 c1 c2 c3 c4 c5 c6
          go_roundw
          case measure => simp only [intOf]; omega
          case rel => exact ⟨k + 1, by omega, by go_num, HO6, HB6⟩
      | some y =>
        obtain ⟨yp, yg, ⟨yi, yk, ym, yt, yb⟩⟩ := y
        cases zx with
        | none =>
          have hrg : wr.rangeAt bk (o + k * 16) (eeC ((none, some ⟨yp, yg, ⟨yi, yk, ym, yt, yb⟩⟩) : Option Em × Option Em)) := fun r u hu => hc r u hu
          obtain ⟨W1, hW1⟩ : ∃ W1, W1 = (wr.alloc (.cells #[.string ⟨#[]⟩, .bool false, .string ⟨#[]⟩, .int .i64 0, .int .i64 0, .int .i64 0, .string ⟨#[]⟩, .string ⟨#[]⟩, .bool false, .string ⟨#[]⟩, .int .i64 0, .int .i64 0, .int .i64 0, .string ⟨#[]⟩, .bool false, .bool false] 67)).setCells wr.heap.size 0 (eeC ((none, some ⟨yp, yg, ⟨yi, yk, ym, yt, yb⟩⟩) : Option Em × Option Em)) := ⟨_, rfl⟩
          have hz0 := heap_alloc_new wr (.cells #[.string ⟨#[]⟩, .bool false, .string ⟨#[]⟩, .int .i64 0, .int .i64 0, .int .i64 0, .string ⟨#[]⟩, .string ⟨#[]⟩, .bool false, .string ⟨#[]⟩, .int .i64 0, .int .i64 0, .int .i64 0, .string ⟨#[]⟩, .bool false, .bool false] 67)
          have hth := blk_there (o := 0) (k := 16) hz0 (Nat.le_of_ble_eq_true rfl)
          have HB1 : Hid (Below w4.heap.size w4 W1) := by rw [hW1]; exact setCells_below (HB.out.alloc HB.out.size _) HB.out.size _
          have HBr : Below wr.heap.size wr W1 := by rw [hW1]; exact setCells_below ((Below.refl _ wr).alloc (Nat.le_refl _) _) (Nat.le_refl _) _
          have HM1 : W1.heap[wr.heap.size]? = some (.cells (eeC ((none, some ⟨yp, yg, ⟨yi, yk, ym, yt, yb⟩⟩) : Option Em × Option Em)).toArray 67 (0, 0)) := by
            rw [hW1]
            have h := sets_blk (post := []) (eeC ((none, some ⟨yp, yg, ⟨yi, yk, ym, yt, yb⟩⟩) : Option Em × Option Em)) [] (eeC (none, none)) _ hz0 rfl
            rwa [List.append_nil] at h
          have key := fun j => cell_of_row W1 wr.heap.size j _ _ _ HM1
          have cf : W1.cell? ⟨wr.heap.size, 15, none⟩ = some (.bool true) := key 15
          have c0 : W1.cell? ⟨wr.heap.size, 7, none⟩ = some (.string yp) := key 7
          have c1 : W1.cell? ⟨wr.heap.size, 8, none⟩ = some (.bool yg) := key 8
          have c2 : W1.cell? ⟨wr.heap.size, 9, none⟩ = some (.string yi) := key 9
          have c3 : W1.cell? ⟨wr.heap.size, 10, none⟩ = some (.int .i64 yk) := key 10
          have c4 : W1.cell? ⟨wr.heap.size, 11, none⟩ = some (.int .i64 ym) := key 11
          have c5 : W1.cell? ⟨wr.heap.size, 12, none⟩ = some (.int .i64 yt) := key 12
          have c6 : W1.cell? ⟨wr.heap.size, 13, none⟩ = some (.string yb) := key 13
          obtain ⟨s2, W6, hr6, ho6, hg6⟩ := more_ae w4.heap.size u8 ((S.take k).filterMap tJ) (⟨yp, yg, ⟨yi, yk, ym, yt, yb⟩⟩ : Em) (W1.alloc (.cells #[.string yp, .bool yg, .string yi, .int .i64 yk, .int .i64 ym, .int .i64 yt, .string yb] 31)) ((own_below HO.out HBr).alloc _) W1.heap.size (heap_alloc_new W1 _) (by have h1 := List.length_filterMap_le tJ (S.take k); rw [List.length_take] at h1; have := HS3.out; have := HN.out; omega) (by have := HB1.out.size; simp; omega)
          have HO6 : Hid (W6.ownsRow w4.heap.size 31 7 s2 ((S.take (k + 1)).filterMap tJ).length (rowR emC ((S.take (k + 1)).filterMap tJ))) := by
            rw [told_step ht, show tJ ((none, some ⟨yp, yg, ⟨yi, yk, ym, yt, yb⟩⟩) : Option Em × Option Em) = some (⟨yp, yg, ⟨yi, yk, ym, yt, yb⟩⟩ : Em) from by rfl, Option.toList_some]; exact ho6
          have HB6 : Hid (Below w4.heap.size w4 W6) := ((HB1.out.alloc HB1.out.size _)).grown hg6 (by have := HB1.out.size; simp; omega) fun g hg => (HO.out.lt g hg).1
          clear ho6 hg6 ht hz0 HM1 key HBr hc
          go_upto_region 10 with fail
          refine wp_region_lit ?_
          refine wpList_plain rfl fun C hC => ?_
          go_simp
          refine hC _ _ ?_
          clear hC C
          refine wpList_load_mid rfl 67 (.tmp 27) rfl bk (o + k * 16) rfl [.string ⟨#[]⟩, .bool false, .string ⟨#[]⟩, .int .i64 0, .int .i64 0, .int .i64 0, .string ⟨#[]⟩, .string yp, .bool yg, .string yi, .int .i64 yk, .int .i64 ym, .int .i64 yt, .string yb, .bool false, .bool true] _ hrg Tryd.underlying67 rfl (by kernel_rfl) ?_
          refine wpList_plain rfl fun C hC => ?_
          go_simp
          refine hC _ _ ?_
          clear hC C
          refine wpList_store_mid rfl 67 (.tmp 10) (.tmp 28) rfl wr.heap.size 0 #[.string ⟨#[]⟩, .bool false, .string ⟨#[]⟩, .int .i64 0, .int .i64 0, .int .i64 0, .string ⟨#[]⟩, .string yp, .bool yg, .string yi, .int .i64 yk, .int .i64 ym, .int .i64 yt, .string yb, .bool false, .bool true] rfl rfl hth (by kernel_rfl) (all_oneCell_toArray (eeC_one ((none, some ⟨yp, yg, ⟨yi, yk, ym, yt, yb⟩⟩) : Option Em × Option Em))) ?_
          rw [show (#[.string ⟨#[]⟩, .bool false, .string ⟨#[]⟩, .int .i64 0, .int .i64 0, .int .i64 0, .string ⟨#[]⟩, .string yp, .bool yg, .string yi, .int .i64 yk, .int .i64 ym, .int .i64 yt, .string yb, .bool false, .bool true] : Array Value).toList = eeC ((none, some ⟨yp, yg, ⟨yi, yk, ym, yt, yb⟩⟩) : Option Em × Option Em) from rfl, ← hW1]
          clear hW1 hth hrg
          go_wp2_with (at_builtin; refine wpL_append_run rfl (.tmp 31) (.tmp 34) 23 23 rfl rfl _ _ s2 W6 rfl rfl hr6 ?_)
          clear hr6 cf c0 c1 c2 c3 c4 c5 c6
          go_roundw
          case measure => simp only [intOf]; omega
          case rel => exact ⟨k + 1, by omega, by go_num, HO6, HB6⟩
        | some x =>
          obtain ⟨xp, xg, ⟨xi, xk, xm, xt, xb⟩⟩ := x
          have hrg : wr.rangeAt bk (o + k * 16) (eeC ((some ⟨xp, xg, ⟨xi, xk, xm, xt, xb⟩⟩, some ⟨yp, yg, ⟨yi, yk, ym, yt, yb⟩⟩) : Option Em × Option Em)) := fun r u hu => hc r u hu
          obtain ⟨W1, hW1⟩ : ∃ W1, W1 = (wr.alloc (.cells #[.string ⟨#[]⟩, .bool false, .string ⟨#[]⟩, .int .i64 0, .int .i64 0, .int .i64 0, .string ⟨#[]⟩, .string ⟨#[]⟩, .bool false, .string ⟨#[]⟩, .int .i64 0, .int .i64 0, .int .i64 0, .string ⟨#[]⟩, .bool false, .bool false] 67)).setCells wr.heap.size 0 (eeC ((some ⟨xp, xg, ⟨xi, xk, xm, xt, xb⟩⟩, some ⟨yp, yg, ⟨yi, yk, ym, yt, yb⟩⟩) : Option Em × Option Em)) := ⟨_, rfl⟩
          have hz0 := heap_alloc_new wr (.cells #[.string ⟨#[]⟩, .bool false, .string ⟨#[]⟩, .int .i64 0, .int .i64 0, .int .i64 0, .string ⟨#[]⟩, .string ⟨#[]⟩, .bool false, .string ⟨#[]⟩, .int .i64 0, .int .i64 0, .int .i64 0, .string ⟨#[]⟩, .bool false, .bool false] 67)
          have hth := blk_there (o := 0) (k := 16) hz0 (Nat.le_of_ble_eq_true rfl)
          have HB1 : Hid (Below w4.heap.size w4 W1) := by rw [hW1]; exact setCells_below (HB.out.alloc HB.out.size _) HB.out.size _
          have HBr : Below wr.heap.size wr W1 := by rw [hW1]; exact setCells_below ((Below.refl _ wr).alloc (Nat.le_refl _) _) (Nat.le_refl _) _
          have HM1 : W1.heap[wr.heap.size]? = some (.cells (eeC ((some ⟨xp, xg, ⟨xi, xk, xm, xt, xb⟩⟩, some ⟨yp, yg, ⟨yi, yk, ym, yt, yb⟩⟩) : Option Em × Option Em)).toArray 67 (0, 0)) := by
            rw [hW1]
            have h := sets_blk (post := []) (eeC ((some ⟨xp, xg, ⟨xi, xk, xm, xt, xb⟩⟩, some ⟨yp, yg, ⟨yi, yk, ym, yt, yb⟩⟩) : Option Em × Option Em)) [] (eeC (none, none)) _ hz0 rfl
            rwa [List.append_nil] at h
          have key := fun j => cell_of_row W1 wr.heap.size j _ _ _ HM1
          have cf : W1.cell? ⟨wr.heap.size, 15, none⟩ = some (.bool true) := key 15
          have c0 : W1.cell? ⟨wr.heap.size, 7, none⟩ = some (.string yp) := key 7
          have c1 : W1.cell? ⟨wr.heap.size, 8, none⟩ = some (.bool yg) := key 8
          have c2 : W1.cell? ⟨wr.heap.size, 9, none⟩ = some (.string yi) := key 9
          have c3 : W1.cell? ⟨wr.heap.size, 10, none⟩ = some (.int .i64 yk) := key 10
          have c4 : W1.cell? ⟨wr.heap.size, 11, none⟩ = some (.int .i64 ym) := key 11
          have c5 : W1.cell? ⟨wr.heap.size, 12, none⟩ = some (.int .i64 yt) := key 12
          have c6 : W1.cell? ⟨wr.heap.size, 13, none⟩ = some (.string yb) := key 13
          obtain ⟨s2, W6, hr6, ho6, hg6⟩ := more_ae w4.heap.size u8 ((S.take k).filterMap tJ) (⟨yp, yg, ⟨yi, yk, ym, yt, yb⟩⟩ : Em) (W1.alloc (.cells #[.string yp, .bool yg, .string yi, .int .i64 yk, .int .i64 ym, .int .i64 yt, .string yb] 31)) ((own_below HO.out HBr).alloc _) W1.heap.size (heap_alloc_new W1 _) (by have h1 := List.length_filterMap_le tJ (S.take k); rw [List.length_take] at h1; have := HS3.out; have := HN.out; omega) (by have := HB1.out.size; simp; omega)
          have HO6 : Hid (W6.ownsRow w4.heap.size 31 7 s2 ((S.take (k + 1)).filterMap tJ).length (rowR emC ((S.take (k + 1)).filterMap tJ))) := by
            rw [told_step ht, show tJ ((some ⟨xp, xg, ⟨xi, xk, xm, xt, xb⟩⟩, some ⟨yp, yg, ⟨yi, yk, ym, yt, yb⟩⟩) : Option Em × Option Em) = some (⟨yp, yg, ⟨yi, yk, ym, yt, yb⟩⟩ : Em) from by rfl, Option.toList_some]; exact ho6
          have HB6 : Hid (Below w4.heap.size w4 W6) := ((HB1.out.alloc HB1.out.size _)).grown hg6 (by have := HB1.out.size; simp; omega) fun g hg => (HO.out.lt g hg).1
          clear ho6 hg6 ht hz0 HM1 key HBr hc
          go_upto_region 10 with fail
          refine wp_region_lit ?_
          refine wpList_plain rfl fun C hC => ?_
          go_simp
          refine hC _ _ ?_
          clear hC C
          refine wpList_load_mid rfl 67 (.tmp 27) rfl bk (o + k * 16) rfl [.string xp, .bool xg, .string xi, .int .i64 xk, .int .i64 xm, .int .i64 xt, .string xb, .string yp, .bool yg, .string yi, .int .i64 yk, .int .i64 ym, .int .i64 yt, .string yb, .bool true, .bool true] _ hrg Tryd.underlying67 rfl (by kernel_rfl) ?_
          refine wpList_plain rfl fun C hC => ?_
          go_simp
          refine hC _ _ ?_
          clear hC C
          refine wpList_store_mid rfl 67 (.tmp 10) (.tmp 28) rfl wr.heap.size 0 #[.string xp, .bool xg, .string xi, .int .i64 xk, .int .i64 xm, .int .i64 xt, .string xb, .string yp, .bool yg, .string yi, .int .i64 yk, .int .i64 ym, .int .i64 yt, .string yb, .bool true, .bool true] rfl rfl hth (by kernel_rfl) (all_oneCell_toArray (eeC_one ((some ⟨xp, xg, ⟨xi, xk, xm, xt, xb⟩⟩, some ⟨yp, yg, ⟨yi, yk, ym, yt, yb⟩⟩) : Option Em × Option Em))) ?_
          rw [show (#[.string xp, .bool xg, .string xi, .int .i64 xk, .int .i64 xm, .int .i64 xt, .string xb, .string yp, .bool yg, .string yi, .int .i64 yk, .int .i64 ym, .int .i64 yt, .string yb, .bool true, .bool true] : Array Value).toList = eeC ((some ⟨xp, xg, ⟨xi, xk, xm, xt, xb⟩⟩, some ⟨yp, yg, ⟨yi, yk, ym, yt, yb⟩⟩) : Option Em × Option Em) from rfl, ← hW1]
          clear hW1 hth hrg
          go_wp2_with (at_builtin; refine wpL_append_run rfl (.tmp 31) (.tmp 34) 23 23 rfl rfl _ _ s2 W6 rfl rfl hr6 ?_)
          clear hr6 cf c0 c1 c2 c3 c4 c5 c6
          go_roundw
          case measure => simp only [intOf]; omega
          case rel => exact ⟨k + 1, by omega, by go_num, HO6, HB6⟩
    · obtain rfl : k = N := by omega
      have HO1 : Hid (wr.ownsRow w4.heap.size 31 7 u8 (S.filterMap tJ).length (rowR emC (S.filterMap tJ))) := by
        have h := HO.out
        rw [List.take_of_length_le (by have := HN.out; omega)] at h
        exact h
      have HBw : Hid (Below w.heap.size w wr) := HB4.out.trans (HB.out.mono HB4.out.size)
      have HLn : Hid ((S.filterMap tJ).length ≤ 1000) := Nat.le_trans (List.length_filterMap_le _ _) HS3.out
      clear HO HB
      have HK : Hid (∀ x ∈ S.filterMap tJ, x.Ok) := fun q hq => by
        obtain ⟨⟨zx, zy⟩, hz, e⟩ := List.mem_filterMap.1 hq
        have hzz := side_in a b _ (by rw [HS.out] at hz; exact hz)
        cases zy with
        | none => exact HOa.out q (hzz.2.1 q e)
        | some y => cases e; exact HOb.out q (hzz.2.2 q rfl)
      have HAp : Hid (Dl.joinL (edl a) (edl b) = edl (S.filterMap tJ)) := by
        have h := join_told HEA0.out HEB0.out
        show _ = _
        rw [HS.out]
        exact h
      have HR3 : Hid (RP = if 200 < (S.filterMap tJ).length then ([], 2) else (edl (S.filterMap tJ), 0)) := by
        show _ = _
        rw [HP.out, if_neg (fun q => q HEA0.out), if_neg (fun q => q HEB0.out), HAp.out, edl_length]
      obtain ⟨av, ac, rfl⟩ := own_form HO1.out
      obtain ⟨M, hM⟩ : ∃ M, M = (S.filterMap tJ).length := ⟨_, rfl⟩
      have HM : Hid (M = (S.filterMap tJ).length) := hM
      rw [← hM] at HO1 HR3 HLn ⊢
      clear HP hM
      by_cases c3 : 200 < M
      · have hgt : ((M : Int) > 200) := by omega
        have HRe : Hid (RP = ([], 2)) := by show _ = _; rw [HR3.out, if_pos c3]
        clear HR3 c3
        go_wp2_with fail
        go_ret2
        exact ⟨_, [], by rw [HRe.out]; rfl, World.ownsRow_nil _ _ _ _, by rw [HRe.out]; rfl, fun x hx => absurd hx List.not_mem_nil, HBw.out⟩
      have hgt : ¬ ((M : Int) > 200) := by omega
      have HRe : Hid (RP = (edl (S.filterMap tJ), 0)) := by show _ = _; rw [HR3.out, if_neg c3]
      have hown := ownEdits_any (.slice av M ac) (S.filterMap tJ) wr _ (by rw [← HM.out]; exact HO1.out) HK.out (by have := HLn.out; have := HM.out; omega)
      clear HR3 c3
      go_wp2_with fail
      refine hown.mono ?_
      rintro e w6 ⟨rfl, b6⟩
      have HB6 : Hid (Below w.heap.size w w6) := HBw.out.trans (b6.mono HBw.out.size)
      have HO6 : Hid (w6.ownsRow w.heap.size 31 7 (.slice av M ac) (S.filterMap tJ).length (rowR emC (S.filterMap tJ))) := by
        rw [← HM.out]; exact own_lower (own_below HO1.out b6) HB4.out.size
      clear hown b6
      go_wp2_with fail
      go_ret2
      exact ⟨_, S.filterMap tJ, by rw [HRe.out]; rfl, HO6.out, by rw [HRe.out], HK.out, HB6.out⟩

end Go.Proofs.YthpcbbkpjggjbaaDoor

namespace Go.Proofs.YthpcbbkpjggjbaaDoor
namespace Dl
open Wk (Bs It)

theorem join_zero {l m L : List Ed} (h : join l m = (L, 0)) : check l = 0 ∧ check m = 0 ∧ L = joinL l m ∧ (joinL l m).length ≤ 200 := by
  unfold join at h
  split at h
  · rename_i q; exact absurd (congrArg Prod.snd h) q
  · rename_i q1
    split at h
    · rename_i q; exact absurd (congrArg Prod.snd h) q
    · rename_i q2
      split at h
      · exact absurd (show (2 : Int) = 0 from congrArg Prod.snd h) (by decide)
      · rename_i q3
        exact ⟨Decidable.not_not.mp q1, Decidable.not_not.mp q2, (congrArg Prod.fst h).symm, Nat.le_of_not_lt q3⟩

theorem join_mk {l m : List Ed} (hl : check l = 0) (hm : check m = 0) (h : (joinL l m).length ≤ 200) : join l m = (joinL l m, 0) := by
  unfold join
  rw [if_neg (fun q => q hl), if_neg (fun q => q hm), if_neg (by omega)]

theorem apply_zero {a : List It} {l : List Ed} {B : List It} (h : apply a l = (B, 0)) : Wk.world a = 0 ∧ check l = 0 ∧ B = appL a l ∧ Wk.world (appL a l) = 0 := by
  unfold apply at h
  split at h
  · rename_i q; exact absurd (congrArg Prod.snd h) q
  · rename_i q1
    split at h
    · rename_i q; exact absurd (congrArg Prod.snd h) q
    · rename_i q2
      split at h
      · rename_i q; exact absurd (congrArg Prod.snd h) q
      · rename_i q3
        exact ⟨Decidable.not_not.mp q1, Decidable.not_not.mp q2, (congrArg Prod.fst h).symm, Decidable.not_not.mp q3⟩

theorem both {a B C : List It} {l m L : List Ed} (h : join l m = (L, 0)) (h1 : apply a l = (B, 0)) (h2 : apply B m = (C, 0)) : apply a L = (C, 0) := by
  obtain ⟨c1, c2, rfl, c3⟩ := join_zero h
  obtain ⟨a1, _, rfl, a3⟩ := apply_zero h1
  obtain ⟨_, _, rfl, b3⟩ := apply_zero h2
  have e := join_apply (wld a1).2.2 c1 c2 c3 (wld a3).2.2
  unfold apply
  rw [if_neg (fun q => q a1), if_neg (fun q => q (join_check c1 c2 c3)), ← e, if_neg (fun q => q b3)]

theorem join_twice (l : List Ed) : (join l l).2 = check l ∧ (check l = 0 → (join l l).1 = l) := by
  by_cases h : check l = 0
  · have hl := (check_ok.1 h).1
    have e := join_self h
    rw [join_mk h h (by rw [e]; exact hl), e]
    exact ⟨h.symm, fun _ => rfl⟩
  · have e : join l l = ([], check l) := by unfold join; rw [if_pos h]
    rw [e]
    exact ⟨rfl, fun q => absurd q h⟩

theorem join_three {l m n L M : List Ed} (h : join l m = (L, 0)) (k : join m n = (M, 0)) : join L n = join l M := by
  obtain ⟨c1, c2, rfl, c3⟩ := join_zero h
  obtain ⟨_, d2, rfl, d3⟩ := join_zero k
  have e := join_assoc c1 c2 d2 c3 d3
  have u : ∀ {x y : List Ed}, check x = 0 → check y = 0 → join x y = if 200 < (joinL x y).length then ([], 2) else (joinL x y, 0) := fun hx hy => by
    unfold join
    rw [if_neg (fun q => q hx), if_neg (fun q => q hy)]
  rw [u (join_check c1 c2 c3) d2, u c1 (join_check c2 d2 d3), e]

theorem join_one : join [⟨[47, 97], true, it0⟩] [] = ([⟨[47, 97], true, it0⟩], 0) := by
  refine Prod.ext ?_ (by decide +kernel)
  have h : (join [⟨[47, 97], true, it0⟩] []).1 = joinL [⟨[47, 97], true, it0⟩] [] := by
    have h1 : check [⟨[47, 97], true, it0⟩] = 0 := by decide +kernel
    have h2 : check [] = 0 := by decide +kernel
    rw [join_mk h1 h2 (by decide +kernel)]
  rw [h]
  rfl

end Dl

end Go.Proofs.YthpcbbkpjggjbaaDoor

namespace Go.Proofs.YthpcbbkpjggjbaaDoor
open Go.RowKit
set_option maxRecDepth 4000

/-- Join, told with the row's length -/
theorem djoin_say {va vb : Value} {a b : List Em} {w : World} (ha : Eds w va a) (hb : Eds w vb b) (la : a.length ≤ 140737488351232) (lb : b.length ≤ 140737488351232) (oa : ∀ x ∈ a, x.Ok) (ob : ∀ x ∈ b, x.Ok) (hT : Tabs w) {D : List Dl.Ed} {E : Int} (hD : Dl.join (edl a) (edl b) = (D, E)) :
    Calls Tryd.prog 13 #[va, vb] w fun e w' => ∃ sa sc l, e = .returned (.tuple #[.slice sa l.length sc, .int .i64 E]) ∧ Eds w' (.slice sa l.length sc) l ∧ edl l = D ∧ (∀ x ∈ l, x.Ok) ∧ Below w.heap.size w w' := by
  refine (djoin_any va vb a b w ha hb la lb oa ob hT).mono ?_
  rintro e w' ⟨v, l, he, h1, h2, h3, h4⟩
  rw [hD] at he h2
  obtain ⟨sa, sc, rfl⟩ := own_form h1
  exact ⟨sa, sc, l, he, Rx.of_own emC_length h1, h2, h3, h4⟩

theorem join_few {l m L : List Dl.Ed} {E : Int} (h : Dl.join l m = (L, E)) : L.length ≤ 200 := by
  by_cases e : E = 0
  · subst e
    obtain ⟨_, _, rfl, k⟩ := Dl.join_zero h
    exact k
  · have : L = [] := by
      unfold Dl.join at h
      split at h
      · exact (congrArg Prod.fst h).symm
      · split at h
        · exact (congrArg Prod.fst h).symm
        · split at h
          · exact (congrArg Prod.fst h).symm
          · exact absurd (congrArg Prod.snd h).symm e
    rw [this]
    simp

theorem apply_few {a B : List Wk.It} {l : List Dl.Ed} {E : Int} (h : Dl.apply a l = (B, E)) : B.length ≤ 100 := by
  by_cases e : E = 0
  · subst e
    obtain ⟨_, _, rfl, k⟩ := Dl.apply_zero h
    exact (Dl.wld k).1
  · have : B = [] := by
      unfold Dl.apply at h
      split at h
      · exact (congrArg Prod.fst h).symm
      · split at h
        · exact (congrArg Prod.fst h).symm
        · split at h
          · exact (congrArg Prod.fst h).symm
          · exact absurd (congrArg Prod.snd h).symm e
    rw [this]
    simp

set_option maxHeartbeats 16000000 in
theorem deltaJoins_walk (v0 : Value) (l0 : List Im) (v1 : Value) (l1 : List Em) (v2 : Value) (l2 : List Em) (v3 : Value) (l3 : List Em) (z0 : l0.length ≤ 140737488351232) (f0 : ∀ x ∈ l0, x.Ok) (z1 : l1.length ≤ 140737488351232) (f1 : ∀ x ∈ l1, x.Ok) (z2 : l2.length ≤ 140737488351232) (f2 : ∀ x ∈ l2, x.Ok) (z3 : l3.length ≤ 140737488351232) (f3 : ∀ x ∈ l3, x.Ok) (w : World) (t0 : Ims w v0 l0) (t1 : Eds w v1 l1) (t2 : Eds w v2 l2) (t3 : Eds w v3 l3) (hT : Tabs w) :
    Calls Tryd.prog 7 #[v0, v1, v2, v3] w fun e w' => e = .returned (.bool true) ∧ Below w.heap.size w w' := by
  have X0 : Hid (Ims w v0 l0) := t0
  have X1 : Hid (Eds w v1 l1) := t1
  have X2 : Hid (Eds w v2 l2) := t2
  have X3 : Hid (Eds w v3 l3) := t3
  have O0 : Hid (∀ x ∈ l0, x.Ok) := f0
  have O1 : Hid (∀ x ∈ l1, x.Ok) := f1
  have O2 : Hid (∀ x ∈ l2, x.Ok) := f2
  have O3 : Hid (∀ x ∈ l3, x.Ok) := f3
  have HT : Hid (Tabs w) := hT
  obtain ⟨LM, E1, hJ1⟩ : ∃ D E, Dl.join (edl l1) (edl l2) = (D, E) := ⟨_, _, rfl⟩
  have HJ1 : Hid (Dl.join (edl l1) (edl l2) = (LM, E1)) := hJ1
  obtain ⟨BB, Eb, hA1⟩ : ∃ D E, Dl.apply (its l0) (edl l1) = (D, E) := ⟨_, _, rfl⟩
  have HA1 : Hid (Dl.apply (its l0) (edl l1) = (BB, Eb)) := hA1
  clear t0 t1 t2 t3 f0 f1 f2 f3 hT hJ1 hA1
  obtain ⟨W0, hW0⟩ : ∃ W0, W0 = w.alloc (.cells #[.string ⟨#[47, 97]⟩, .bool true, .string ⟨#[]⟩, .int .i64 0, .int .i64 0, .int .i64 0, .string ⟨#[]⟩] 31) := ⟨_, rfl⟩
  have HB0 : Hid (Below w.heap.size w W0) := by rw [hW0]; exact (Below.refl _ w).alloc (Nat.le_refl _) _
  have hk0 : Eds W0 (.slice (some ⟨w.heap.size, 0, none⟩) 1 1) [⟨⟨#[47, 97]⟩, true, im0⟩] := by
    rw [hW0]
    exact Rx.of_own (base := w.heap.size) (T := 31) emC_length ⟨by rfl, .inr ⟨w.heap.size, 1, _, rfl, Nat.le_refl _, heap_alloc_new w _, Nat.le_refl _, by unfold maxLen; decide, rfl, rfl⟩⟩
  have hjo := djoin_say hk0 (eds_nil W0) (by decide) (by decide) (fun x hx => by rw [List.mem_singleton.1 hx]; exact ⟨by decide, im0_ok⟩) (fun x hx => absurd hx List.not_mem_nil) (HT.out.below HB0.out) Dl.join_one
  clear hk0
  go_enter Tryd.func7, Tryd.ntmps7
  go_wp2_with fail
  rw [← hW0]
  clear hW0
  refine hjo.mono ?_
  rintro e w1 ⟨xa, xc, xl, rfl, _, hxl, _, b1⟩
  have hx2 : xl.length = 1 := by have h := congrArg List.length hxl; rw [edl_length] at h; exact h
  rw [hx2]
  have HB1 : Hid (Below w.heap.size w w1) := HB0.out.trans (b1.mono HB0.out.size)
  clear hjo hxl b1 hx2 HB0
  have hq := djoin_say (X1.out.below HB1.out) (X2.out.below HB1.out) z1 z2 O1.out O2.out (HT.out.below HB1.out) HJ1.out
  go_wp2_with fail
  refine hq.mono ?_
  rintro e w2 ⟨a1, c1, m1, rfl, hr1, hm1, hk1, b2⟩
  have HB2 : Hid (Below w.heap.size w w2) := HB1.out.trans (b2.mono HB1.out.size)
  obtain ⟨n1, hn1⟩ : ∃ n, n = m1.length := ⟨_, rfl⟩
  have HN1 : Hid (n1 = m1.length) := hn1
  have hg1 : n1 ≤ 200 := by rw [hn1, ← edl_length, hm1]; exact join_few HJ1.out
  rw [← hn1] at hr1 ⊢
  have HR1 : Hid (Eds w2 (.slice a1 n1 c1) m1 ∧ edl m1 = LM ∧ ∀ x ∈ m1, x.Ok) := ⟨hr1, hm1, hk1⟩
  clear hq b2 hr1 hm1 hk1 hn1 HB1
  have hq := applied_any (X0.out.below HB2.out) (X1.out.below HB2.out) z0 z1 O0.out O1.out (HT.out.below HB2.out) HA1.out
  go_wp2_with fail
  refine hq.mono ?_
  rintro e w3 ⟨a3, c3, m3, rfl, hr3, hm3, hk3, b3⟩
  have HB3 : Hid (Below w.heap.size w w3) := HB2.out.trans (b3.mono HB2.out.size)
  obtain ⟨n3, hn3⟩ : ∃ n, n = m3.length := ⟨_, rfl⟩
  have HN3 : Hid (n3 = m3.length) := hn3
  have hg3 : n3 ≤ 100 := by rw [hn3, ← its_length, hm3]; exact apply_few HA1.out
  have hr3 := Rx.of_own imC_length hr3
  rw [← hn3] at hr3 ⊢
  have HR3 : Hid (Ims w3 (.slice a3 n3 c3) m3 ∧ its m3 = BB ∧ ∀ x ∈ m3, x.Ok) := ⟨hr3, hm3, hk3⟩
  have HX1 : Hid (Eds w3 (.slice a1 n1 c1) m1) := HR1.out.1.below b3
  clear hq b3 hr3 hm3 hk3 hn3 HB2
  by_cases hEb : Eb = 0
  case neg =>
    have hbn : (Eb == 0) = false := by rw [beq_eq_false_iff_ne]; exact hEb
    have HBk : Hid (Below w.heap.size w w3) := HB3.out
    have HLM := HX1
    obtain ⟨wk, rfl⟩ : ∃ wk, wk = w3 := ⟨_, rfl⟩
    have hq := djoin_say (X1.out.below HBk.out) (X1.out.below HBk.out) z1 z1 O1.out O1.out (HT.out.below HBk.out) (D := (Dl.join (edl l1) (edl l1)).1) (E := Dl.check (edl l1)) (Prod.ext rfl (Dl.join_twice (edl l1)).1)
    have HLk : Hid (Eds wk (.slice a1 n1 c1) m1) := HLM
    clear HLM
    go_wp2_with fail
    refine hq.mono ?_
    rintro e w11 ⟨a11, c11, m11, rfl, hr11, hm11, hk11, b11⟩
    have HB11 : Hid (Below w.heap.size w w11) := HBk.out.trans (b11.mono HBk.out.size)
    have HX11 : Hid (Eds w11 (.slice a1 n1 c1) m1) := HLk.out.below b11
    have hg11 : m11.length ≤ 200 := by rw [← edl_length, hm11]; exact join_few (show Dl.join (edl l1) (edl l1) = ((Dl.join (edl l1) (edl l1)).1, (Dl.join (edl l1) (edl l1)).2) from rfl)
    have HE11 : Hid (Dl.check (edl l1) = 0 → m11 = l1) := fun e => edl_inj (hm11.trans ((Dl.join_twice (edl l1)).2 e))
    have HR11 : Hid (Eds w11 (.slice a11 m11.length c11) m11) := hr11
    have hck := fun (W : World) (hW : Below w.heap.size w W) => dcheck_any v1 l1 W (X1.out.below hW) z1 O1.out (HT.out.below hW)
    have HEq : Hid (∀ W, Below w11.heap.size w11 W → Calls Tryd.prog 10 #[.slice a11 m11.length c11, v1] W fun e w' => ∃ b : Bool, e = .returned (.bool b) ∧ (b = true ↔ m11 = l1) ∧ Below W.heap.size W w') := fun W hW => equal_eds _ v1 m11 l1 W (HR11.out.below hW) (X1.out.below (HB11.out.trans (hW.mono HB11.out.size))) (by omega)
    generalize m11.length = n11 at *
    obtain ⟨CK, hCK⟩ : ∃ CK, CK = Dl.check (edl l1) := ⟨_, rfl⟩
    rw [← hCK] at hck HE11 ⊢
    clear hq b11 hr11 hm11 hk11 HLk HBk hCK HR11
    obtain ⟨MN, E2, hJ2⟩ : ∃ D E, Dl.join (edl l2) (edl l3) = (D, E) := ⟨_, _, rfl⟩
    have HJ2 : Hid (Dl.join (edl l2) (edl l3) = (MN, E2)) := hJ2
    clear hJ2
    have hfin : ∀ w12 : World, Hid (Below w11.heap.size w11 w12) → True := fun _ _ => trivial
    clear hfin
    by_cases hc0 : CK = 0
    · have hm : m11 = l1 := HE11.out hc0
      go_wp2_with (first
        | (refine (HEq.out _ hb12.out).mono ?_; rintro e w13 ⟨q13, rfl, hq13, b13⟩; obtain rfl : q13 = true := hq13.2 hm; have HB12 : Hid (Below w11.heap.size w11 w13) := hb12.out.trans (b13.mono hb12.out.size); clear hq13 b13 hb12)
        | (refine (hck _ HB11.out).mono ?_; rintro e w12 ⟨rfl, b12⟩; have hb12 : Hid (Below w11.heap.size w11 w12) := b12; clear b12))
      have HX12 : Hid (Eds w13 (.slice a1 n1 c1) m1) := HX11.out.below HB12.out
      have HBn : Hid (Below w.heap.size w w13) := HB11.out.trans (HB12.out.mono HB11.out.size)
      clear HX11 HEq hck HE11 HB11
      have hq := djoin_say (X2.out.below HBn.out) (X3.out.below HBn.out) z2 z3 O2.out O3.out (HT.out.below HBn.out) HJ2.out
      go_wp2_with fail
      refine hq.mono ?_
      rintro e w14 ⟨a14, c14, m14, rfl, hr14, hm14, hk14, b14⟩
      have HB14 : Hid (Below w.heap.size w w14) := HBn.out.trans (b14.mono HBn.out.size)
      have HX14 : Hid (Eds w14 (.slice a1 n1 c1) m1) := HX12.out.below b14
      have hg14 : m14.length ≤ 200 := by rw [← edl_length, hm14]; exact join_few HJ2.out
      obtain ⟨n14, hn14⟩ : ∃ n, n = m14.length := ⟨_, rfl⟩
      have HN14 : Hid (n14 = m14.length) := hn14
      rw [← hn14] at hr14 hg14 ⊢
      have HR14 : Hid (Eds w14 (.slice a14 n14 c14) m14 ∧ edl m14 = MN ∧ ∀ x ∈ m14, x.Ok) := ⟨hr14, hm14, hk14⟩
      clear hq b14 hr14 hm14 hk14 HX12 HB12 HBn hn14
      by_cases e1 : E1 = 0
      case neg =>
        have hne : (E1 != 0) = true := by rw [bne_iff_ne]; exact e1
        go_wp2_with fail
        go_ret
        exact ⟨rfl, HB14.out⟩
      have hne : (E1 != 0) = false := by rw [e1]; rfl
      by_cases e2 : E2 = 0
      case neg =>
        have hne2 : (E2 != 0) = true := by rw [bne_iff_ne]; exact e2
        go_wp2_with fail
        go_ret
        exact ⟨rfl, HB14.out⟩
      have hne2 : (E2 != 0) = false := by rw [e2]; rfl
      obtain ⟨Q, E3, hJ3⟩ : ∃ D E, Dl.join LM (edl l3) = (D, E) := ⟨_, _, rfl⟩
      have HJ3 : Hid (Dl.join (edl m1) (edl l3) = (Q, E3)) := by show _ = _; rw [HR1.out.2.1]; exact hJ3
      have HJ4 : Hid (Dl.join (edl l1) (edl m14) = (Q, E3)) := by
        show _ = _
        rw [HR14.out.2.1, ← hJ3]
        have h1 := HJ1.out
        have h2 := HJ2.out
        rw [e1] at h1
        rw [e2] at h2
        exact (Dl.join_three h1 h2).symm
      have hq := djoin_say HX14.out (X3.out.below HB14.out) (by have := HN1.out; omega) z3 HR1.out.2.2 O3.out (HT.out.below HB14.out) HJ3.out
      clear hJ3 e1 e2
      go_wp2_with fail
      refine hq.mono ?_
      rintro e w15 ⟨a15, c15, m15, rfl, hr15, hm15, _, b15⟩
      have HB15 : Hid (Below w.heap.size w w15) := HB14.out.trans (b15.mono HB14.out.size)
      have HR15 : Hid (Eds w15 (.slice a15 m15.length c15) m15 ∧ edl m15 = Q) := ⟨hr15, hm15⟩
      have hg15 : m15.length ≤ 200 := by rw [← edl_length, hm15]; exact join_few HJ3.out
      have hX15 : Eds w15 (.slice a14 n14 c14) m14 := HR14.out.1.below b15
      have hq2 := djoin_say (X1.out.below HB15.out) hX15 z1 (by have := HN14.out; omega) O1.out HR14.out.2.2 (HT.out.below HB15.out) HJ4.out
      clear hq b15 hr15 hm15 hX15 HX14 HB14
      go_wp2_with fail
      refine hq2.mono ?_
      rintro e w16 ⟨a16, c16, m16, rfl, hr16, hm16, _, b16⟩
      have HB16 : Hid (Below w.heap.size w w16) := HB15.out.trans (b16.mono HB15.out.size)
      obtain rfl : m16 = m15 := edl_inj (hm16.trans HR15.out.2.symm)
      have heq := equal_eds (.slice a15 m16.length c15) (.slice a16 m16.length c16) m16 m16 w16 (HR15.out.1.below b16) hr16 (by omega)
      clear hq2 b16 hr16 hm16 HR15
      generalize m16.length = n16 at *
      go_wp2_with (refine heq.mono ?_; rintro e w17 ⟨q17, rfl, hq17, b17⟩; obtain rfl : q17 = true := hq17.2 (by first | exact trivial | rfl); have HB17 : Hid (Below w.heap.size w w17) := HB16.out.trans (b17.mono HB16.out.size); clear hq17 b17 heq)
      go_ret
      exact ⟨rfl, HB17.out⟩
    · have hne0 : (CK == 0) = false := by rw [beq_eq_false_iff_ne]; exact hc0
      go_wp2_with (refine (hck _ HB11.out).mono ?_; rintro e w12 ⟨rfl, b12⟩; have HB12 : Hid (Below w11.heap.size w11 w12) := b12; clear b12)
      have HX12 : Hid (Eds w12 (.slice a1 n1 c1) m1) := HX11.out.below HB12.out
      have HBn : Hid (Below w.heap.size w w12) := HB11.out.trans (HB12.out.mono HB11.out.size)
      clear HX11 HEq hck HE11 HB11
      have hq := djoin_say (X2.out.below HBn.out) (X3.out.below HBn.out) z2 z3 O2.out O3.out (HT.out.below HBn.out) HJ2.out
      go_wp2_with fail
      refine hq.mono ?_
      rintro e w14 ⟨a14, c14, m14, rfl, hr14, hm14, hk14, b14⟩
      have HB14 : Hid (Below w.heap.size w w14) := HBn.out.trans (b14.mono HBn.out.size)
      have HX14 : Hid (Eds w14 (.slice a1 n1 c1) m1) := HX12.out.below b14
      have hg14 : m14.length ≤ 200 := by rw [← edl_length, hm14]; exact join_few HJ2.out
      obtain ⟨n14, hn14⟩ : ∃ n, n = m14.length := ⟨_, rfl⟩
      have HN14 : Hid (n14 = m14.length) := hn14
      rw [← hn14] at hr14 hg14 ⊢
      have HR14 : Hid (Eds w14 (.slice a14 n14 c14) m14 ∧ edl m14 = MN ∧ ∀ x ∈ m14, x.Ok) := ⟨hr14, hm14, hk14⟩
      clear hq b14 hr14 hm14 hk14 HX12 HB12 HBn hn14
      by_cases e1 : E1 = 0
      case neg =>
        have hne : (E1 != 0) = true := by rw [bne_iff_ne]; exact e1
        go_wp2_with fail
        go_ret
        exact ⟨rfl, HB14.out⟩
      have hne : (E1 != 0) = false := by rw [e1]; rfl
      by_cases e2 : E2 = 0
      case neg =>
        have hne2 : (E2 != 0) = true := by rw [bne_iff_ne]; exact e2
        go_wp2_with fail
        go_ret
        exact ⟨rfl, HB14.out⟩
      have hne2 : (E2 != 0) = false := by rw [e2]; rfl
      obtain ⟨Q, E3, hJ3⟩ : ∃ D E, Dl.join LM (edl l3) = (D, E) := ⟨_, _, rfl⟩
      have HJ3 : Hid (Dl.join (edl m1) (edl l3) = (Q, E3)) := by show _ = _; rw [HR1.out.2.1]; exact hJ3
      have HJ4 : Hid (Dl.join (edl l1) (edl m14) = (Q, E3)) := by
        show _ = _
        rw [HR14.out.2.1, ← hJ3]
        have h1 := HJ1.out
        have h2 := HJ2.out
        rw [e1] at h1
        rw [e2] at h2
        exact (Dl.join_three h1 h2).symm
      have hq := djoin_say HX14.out (X3.out.below HB14.out) (by have := HN1.out; omega) z3 HR1.out.2.2 O3.out (HT.out.below HB14.out) HJ3.out
      clear hJ3 e1 e2
      go_wp2_with fail
      refine hq.mono ?_
      rintro e w15 ⟨a15, c15, m15, rfl, hr15, hm15, _, b15⟩
      have HB15 : Hid (Below w.heap.size w w15) := HB14.out.trans (b15.mono HB14.out.size)
      have HR15 : Hid (Eds w15 (.slice a15 m15.length c15) m15 ∧ edl m15 = Q) := ⟨hr15, hm15⟩
      have hg15 : m15.length ≤ 200 := by rw [← edl_length, hm15]; exact join_few HJ3.out
      have hX15 : Eds w15 (.slice a14 n14 c14) m14 := HR14.out.1.below b15
      have hq2 := djoin_say (X1.out.below HB15.out) hX15 z1 (by have := HN14.out; omega) O1.out HR14.out.2.2 (HT.out.below HB15.out) HJ4.out
      clear hq b15 hr15 hm15 hX15 HX14 HB14
      go_wp2_with fail
      refine hq2.mono ?_
      rintro e w16 ⟨a16, c16, m16, rfl, hr16, hm16, _, b16⟩
      have HB16 : Hid (Below w.heap.size w w16) := HB15.out.trans (b16.mono HB15.out.size)
      obtain rfl : m16 = m15 := edl_inj (hm16.trans HR15.out.2.symm)
      have heq := equal_eds (.slice a15 m16.length c15) (.slice a16 m16.length c16) m16 m16 w16 (HR15.out.1.below b16) hr16 (by omega)
      clear hq2 b16 hr16 hm16 HR15
      generalize m16.length = n16 at *
      go_wp2_with (refine heq.mono ?_; rintro e w17 ⟨q17, rfl, hq17, b17⟩; obtain rfl : q17 = true := hq17.2 (by first | exact trivial | rfl); have HB17 : Hid (Below w.heap.size w w17) := HB16.out.trans (b17.mono HB16.out.size); clear hq17 b17 heq)
      go_ret
      exact ⟨rfl, HB17.out⟩
  have hbn : (Eb == 0) = true := by rw [hEb]; rfl
  by_cases hE1 : E1 = 0
  case neg =>
    have hen : (E1 == 0) = false := by rw [beq_eq_false_iff_ne]; exact hE1
    have HBk : Hid (Below w.heap.size w w3) := HB3.out
    have HLM := HX1
    obtain ⟨wk, rfl⟩ : ∃ wk, wk = w3 := ⟨_, rfl⟩
    have hq := djoin_say (X1.out.below HBk.out) (X1.out.below HBk.out) z1 z1 O1.out O1.out (HT.out.below HBk.out) (D := (Dl.join (edl l1) (edl l1)).1) (E := Dl.check (edl l1)) (Prod.ext rfl (Dl.join_twice (edl l1)).1)
    have HLk : Hid (Eds wk (.slice a1 n1 c1) m1) := HLM
    clear HLM
    go_wp2_with fail
    refine hq.mono ?_
    rintro e w11 ⟨a11, c11, m11, rfl, hr11, hm11, hk11, b11⟩
    have HB11 : Hid (Below w.heap.size w w11) := HBk.out.trans (b11.mono HBk.out.size)
    have HX11 : Hid (Eds w11 (.slice a1 n1 c1) m1) := HLk.out.below b11
    have hg11 : m11.length ≤ 200 := by rw [← edl_length, hm11]; exact join_few (show Dl.join (edl l1) (edl l1) = ((Dl.join (edl l1) (edl l1)).1, (Dl.join (edl l1) (edl l1)).2) from rfl)
    have HE11 : Hid (Dl.check (edl l1) = 0 → m11 = l1) := fun e => edl_inj (hm11.trans ((Dl.join_twice (edl l1)).2 e))
    have HR11 : Hid (Eds w11 (.slice a11 m11.length c11) m11) := hr11
    have hck := fun (W : World) (hW : Below w.heap.size w W) => dcheck_any v1 l1 W (X1.out.below hW) z1 O1.out (HT.out.below hW)
    have HEq : Hid (∀ W, Below w11.heap.size w11 W → Calls Tryd.prog 10 #[.slice a11 m11.length c11, v1] W fun e w' => ∃ b : Bool, e = .returned (.bool b) ∧ (b = true ↔ m11 = l1) ∧ Below W.heap.size W w') := fun W hW => equal_eds _ v1 m11 l1 W (HR11.out.below hW) (X1.out.below (HB11.out.trans (hW.mono HB11.out.size))) (by omega)
    generalize m11.length = n11 at *
    obtain ⟨CK, hCK⟩ : ∃ CK, CK = Dl.check (edl l1) := ⟨_, rfl⟩
    rw [← hCK] at hck HE11 ⊢
    clear hq b11 hr11 hm11 hk11 HLk HBk hCK HR11
    obtain ⟨MN, E2, hJ2⟩ : ∃ D E, Dl.join (edl l2) (edl l3) = (D, E) := ⟨_, _, rfl⟩
    have HJ2 : Hid (Dl.join (edl l2) (edl l3) = (MN, E2)) := hJ2
    clear hJ2
    have hfin : ∀ w12 : World, Hid (Below w11.heap.size w11 w12) → True := fun _ _ => trivial
    clear hfin
    by_cases hc0 : CK = 0
    · have hm : m11 = l1 := HE11.out hc0
      go_wp2_with (first
        | (refine (HEq.out _ hb12.out).mono ?_; rintro e w13 ⟨q13, rfl, hq13, b13⟩; obtain rfl : q13 = true := hq13.2 hm; have HB12 : Hid (Below w11.heap.size w11 w13) := hb12.out.trans (b13.mono hb12.out.size); clear hq13 b13 hb12)
        | (refine (hck _ HB11.out).mono ?_; rintro e w12 ⟨rfl, b12⟩; have hb12 : Hid (Below w11.heap.size w11 w12) := b12; clear b12))
      have HX12 : Hid (Eds w13 (.slice a1 n1 c1) m1) := HX11.out.below HB12.out
      have HBn : Hid (Below w.heap.size w w13) := HB11.out.trans (HB12.out.mono HB11.out.size)
      clear HX11 HEq hck HE11 HB11
      have hq := djoin_say (X2.out.below HBn.out) (X3.out.below HBn.out) z2 z3 O2.out O3.out (HT.out.below HBn.out) HJ2.out
      go_wp2_with fail
      refine hq.mono ?_
      rintro e w14 ⟨a14, c14, m14, rfl, hr14, hm14, hk14, b14⟩
      have HB14 : Hid (Below w.heap.size w w14) := HBn.out.trans (b14.mono HBn.out.size)
      have HX14 : Hid (Eds w14 (.slice a1 n1 c1) m1) := HX12.out.below b14
      have hg14 : m14.length ≤ 200 := by rw [← edl_length, hm14]; exact join_few HJ2.out
      obtain ⟨n14, hn14⟩ : ∃ n, n = m14.length := ⟨_, rfl⟩
      have HN14 : Hid (n14 = m14.length) := hn14
      rw [← hn14] at hr14 hg14 ⊢
      have HR14 : Hid (Eds w14 (.slice a14 n14 c14) m14 ∧ edl m14 = MN ∧ ∀ x ∈ m14, x.Ok) := ⟨hr14, hm14, hk14⟩
      clear hq b14 hr14 hm14 hk14 HX12 HB12 HBn hn14
      have hne : (E1 != 0) = true := by rw [bne_iff_ne]; exact hE1
      go_wp2_with fail
      go_ret
      exact ⟨rfl, HB14.out⟩
    · have hne0 : (CK == 0) = false := by rw [beq_eq_false_iff_ne]; exact hc0
      go_wp2_with (refine (hck _ HB11.out).mono ?_; rintro e w12 ⟨rfl, b12⟩; have HB12 : Hid (Below w11.heap.size w11 w12) := b12; clear b12)
      have HX12 : Hid (Eds w12 (.slice a1 n1 c1) m1) := HX11.out.below HB12.out
      have HBn : Hid (Below w.heap.size w w12) := HB11.out.trans (HB12.out.mono HB11.out.size)
      clear HX11 HEq hck HE11 HB11
      have hq := djoin_say (X2.out.below HBn.out) (X3.out.below HBn.out) z2 z3 O2.out O3.out (HT.out.below HBn.out) HJ2.out
      go_wp2_with fail
      refine hq.mono ?_
      rintro e w14 ⟨a14, c14, m14, rfl, hr14, hm14, hk14, b14⟩
      have HB14 : Hid (Below w.heap.size w w14) := HBn.out.trans (b14.mono HBn.out.size)
      have HX14 : Hid (Eds w14 (.slice a1 n1 c1) m1) := HX12.out.below b14
      have hg14 : m14.length ≤ 200 := by rw [← edl_length, hm14]; exact join_few HJ2.out
      obtain ⟨n14, hn14⟩ : ∃ n, n = m14.length := ⟨_, rfl⟩
      have HN14 : Hid (n14 = m14.length) := hn14
      rw [← hn14] at hr14 hg14 ⊢
      have HR14 : Hid (Eds w14 (.slice a14 n14 c14) m14 ∧ edl m14 = MN ∧ ∀ x ∈ m14, x.Ok) := ⟨hr14, hm14, hk14⟩
      clear hq b14 hr14 hm14 hk14 HX12 HB12 HBn hn14
      have hne : (E1 != 0) = true := by rw [bne_iff_ne]; exact hE1
      go_wp2_with fail
      go_ret
      exact ⟨rfl, HB14.out⟩
  have hen : (E1 == 0) = true := by rw [hE1]; rfl
  obtain ⟨CC, Ec, hA2⟩ : ∃ D E, Dl.apply (its m3) (edl l2) = (D, E) := ⟨_, _, rfl⟩
  have HA2 : Hid (Dl.apply (its m3) (edl l2) = (CC, Ec)) := hA2
  have hq := applied_any HR3.out.1 (X2.out.below HB3.out) (by have := HN3.out; omega) z2 HR3.out.2.2 O2.out (HT.out.below HB3.out) (D := CC) (E := Ec) hA2
  clear hA2
  go_wp2_with fail
  refine hq.mono ?_
  rintro e w5 ⟨a5, c5, m5, rfl, hr5, hm5, _, b5⟩
  have HB5 : Hid (Below w.heap.size w w5) := HB3.out.trans (b5.mono HB3.out.size)
  have HX5 : Hid (Eds w5 (.slice a1 n1 c1) m1) := HX1.out.below b5
  have HR5 : Hid (Ims w5 (.slice a5 m5.length c5) m5 ∧ its m5 = CC) := ⟨Rx.of_own imC_length hr5, hm5⟩
  have hg5 : m5.length ≤ 100 := by rw [← its_length, hm5]; exact apply_few HA2.out
  clear hq b5 hr5 hm5 HX1 HB3
  by_cases hEc : Ec = 0
  case neg =>
    have hcn : (Ec == 0) = false := by rw [beq_eq_false_iff_ne]; exact hEc
    generalize m5.length = n5 at *
    have HBk : Hid (Below w.heap.size w w5) := HB5.out
    have HLM := HX5
    obtain ⟨wk, rfl⟩ : ∃ wk, wk = w5 := ⟨_, rfl⟩
    have hq := djoin_say (X1.out.below HBk.out) (X1.out.below HBk.out) z1 z1 O1.out O1.out (HT.out.below HBk.out) (D := (Dl.join (edl l1) (edl l1)).1) (E := Dl.check (edl l1)) (Prod.ext rfl (Dl.join_twice (edl l1)).1)
    have HLk : Hid (Eds wk (.slice a1 n1 c1) m1) := HLM
    clear HLM
    go_wp2_with fail
    refine hq.mono ?_
    rintro e w11 ⟨a11, c11, m11, rfl, hr11, hm11, hk11, b11⟩
    have HB11 : Hid (Below w.heap.size w w11) := HBk.out.trans (b11.mono HBk.out.size)
    have HX11 : Hid (Eds w11 (.slice a1 n1 c1) m1) := HLk.out.below b11
    have hg11 : m11.length ≤ 200 := by rw [← edl_length, hm11]; exact join_few (show Dl.join (edl l1) (edl l1) = ((Dl.join (edl l1) (edl l1)).1, (Dl.join (edl l1) (edl l1)).2) from rfl)
    have HE11 : Hid (Dl.check (edl l1) = 0 → m11 = l1) := fun e => edl_inj (hm11.trans ((Dl.join_twice (edl l1)).2 e))
    have HR11 : Hid (Eds w11 (.slice a11 m11.length c11) m11) := hr11
    have hck := fun (W : World) (hW : Below w.heap.size w W) => dcheck_any v1 l1 W (X1.out.below hW) z1 O1.out (HT.out.below hW)
    have HEq : Hid (∀ W, Below w11.heap.size w11 W → Calls Tryd.prog 10 #[.slice a11 m11.length c11, v1] W fun e w' => ∃ b : Bool, e = .returned (.bool b) ∧ (b = true ↔ m11 = l1) ∧ Below W.heap.size W w') := fun W hW => equal_eds _ v1 m11 l1 W (HR11.out.below hW) (X1.out.below (HB11.out.trans (hW.mono HB11.out.size))) (by omega)
    generalize m11.length = n11 at *
    obtain ⟨CK, hCK⟩ : ∃ CK, CK = Dl.check (edl l1) := ⟨_, rfl⟩
    rw [← hCK] at hck HE11 ⊢
    clear hq b11 hr11 hm11 hk11 HLk HBk hCK HR11
    obtain ⟨MN, E2, hJ2⟩ : ∃ D E, Dl.join (edl l2) (edl l3) = (D, E) := ⟨_, _, rfl⟩
    have HJ2 : Hid (Dl.join (edl l2) (edl l3) = (MN, E2)) := hJ2
    clear hJ2
    have hfin : ∀ w12 : World, Hid (Below w11.heap.size w11 w12) → True := fun _ _ => trivial
    clear hfin
    by_cases hc0 : CK = 0
    · have hm : m11 = l1 := HE11.out hc0
      go_wp2_with (first
        | (refine (HEq.out _ hb12.out).mono ?_; rintro e w13 ⟨q13, rfl, hq13, b13⟩; obtain rfl : q13 = true := hq13.2 hm; have HB12 : Hid (Below w11.heap.size w11 w13) := hb12.out.trans (b13.mono hb12.out.size); clear hq13 b13 hb12)
        | (refine (hck _ HB11.out).mono ?_; rintro e w12 ⟨rfl, b12⟩; have hb12 : Hid (Below w11.heap.size w11 w12) := b12; clear b12))
      have HX12 : Hid (Eds w13 (.slice a1 n1 c1) m1) := HX11.out.below HB12.out
      have HBn : Hid (Below w.heap.size w w13) := HB11.out.trans (HB12.out.mono HB11.out.size)
      clear HX11 HEq hck HE11 HB11
      have hq := djoin_say (X2.out.below HBn.out) (X3.out.below HBn.out) z2 z3 O2.out O3.out (HT.out.below HBn.out) HJ2.out
      go_wp2_with fail
      refine hq.mono ?_
      rintro e w14 ⟨a14, c14, m14, rfl, hr14, hm14, hk14, b14⟩
      have HB14 : Hid (Below w.heap.size w w14) := HBn.out.trans (b14.mono HBn.out.size)
      have HX14 : Hid (Eds w14 (.slice a1 n1 c1) m1) := HX12.out.below b14
      have hg14 : m14.length ≤ 200 := by rw [← edl_length, hm14]; exact join_few HJ2.out
      obtain ⟨n14, hn14⟩ : ∃ n, n = m14.length := ⟨_, rfl⟩
      have HN14 : Hid (n14 = m14.length) := hn14
      rw [← hn14] at hr14 hg14 ⊢
      have HR14 : Hid (Eds w14 (.slice a14 n14 c14) m14 ∧ edl m14 = MN ∧ ∀ x ∈ m14, x.Ok) := ⟨hr14, hm14, hk14⟩
      clear hq b14 hr14 hm14 hk14 HX12 HB12 HBn hn14
      have e1 := hE1
      by_cases e2 : E2 = 0
      case neg =>
        have hne2 : (E2 != 0) = true := by rw [bne_iff_ne]; exact e2
        go_wp2_with fail
        go_ret
        exact ⟨rfl, HB14.out⟩
      have hne2 : (E2 != 0) = false := by rw [e2]; rfl
      obtain ⟨Q, E3, hJ3⟩ : ∃ D E, Dl.join LM (edl l3) = (D, E) := ⟨_, _, rfl⟩
      have HJ3 : Hid (Dl.join (edl m1) (edl l3) = (Q, E3)) := by show _ = _; rw [HR1.out.2.1]; exact hJ3
      have HJ4 : Hid (Dl.join (edl l1) (edl m14) = (Q, E3)) := by
        show _ = _
        rw [HR14.out.2.1, ← hJ3]
        have h1 := HJ1.out
        have h2 := HJ2.out
        rw [e1] at h1
        rw [e2] at h2
        exact (Dl.join_three h1 h2).symm
      have hq := djoin_say HX14.out (X3.out.below HB14.out) (by have := HN1.out; omega) z3 HR1.out.2.2 O3.out (HT.out.below HB14.out) HJ3.out
      clear hJ3 e1 e2
      go_wp2_with fail
      refine hq.mono ?_
      rintro e w15 ⟨a15, c15, m15, rfl, hr15, hm15, _, b15⟩
      have HB15 : Hid (Below w.heap.size w w15) := HB14.out.trans (b15.mono HB14.out.size)
      have HR15 : Hid (Eds w15 (.slice a15 m15.length c15) m15 ∧ edl m15 = Q) := ⟨hr15, hm15⟩
      have hg15 : m15.length ≤ 200 := by rw [← edl_length, hm15]; exact join_few HJ3.out
      have hX15 : Eds w15 (.slice a14 n14 c14) m14 := HR14.out.1.below b15
      have hq2 := djoin_say (X1.out.below HB15.out) hX15 z1 (by have := HN14.out; omega) O1.out HR14.out.2.2 (HT.out.below HB15.out) HJ4.out
      clear hq b15 hr15 hm15 hX15 HX14 HB14
      go_wp2_with fail
      refine hq2.mono ?_
      rintro e w16 ⟨a16, c16, m16, rfl, hr16, hm16, _, b16⟩
      have HB16 : Hid (Below w.heap.size w w16) := HB15.out.trans (b16.mono HB15.out.size)
      obtain rfl : m16 = m15 := edl_inj (hm16.trans HR15.out.2.symm)
      have heq := equal_eds (.slice a15 m16.length c15) (.slice a16 m16.length c16) m16 m16 w16 (HR15.out.1.below b16) hr16 (by omega)
      clear hq2 b16 hr16 hm16 HR15
      generalize m16.length = n16 at *
      go_wp2_with (refine heq.mono ?_; rintro e w17 ⟨q17, rfl, hq17, b17⟩; obtain rfl : q17 = true := hq17.2 (by first | exact trivial | rfl); have HB17 : Hid (Below w.heap.size w w17) := HB16.out.trans (b17.mono HB16.out.size); clear hq17 b17 heq)
      go_ret
      exact ⟨rfl, HB17.out⟩
    · have hne0 : (CK == 0) = false := by rw [beq_eq_false_iff_ne]; exact hc0
      go_wp2_with (refine (hck _ HB11.out).mono ?_; rintro e w12 ⟨rfl, b12⟩; have HB12 : Hid (Below w11.heap.size w11 w12) := b12; clear b12)
      have HX12 : Hid (Eds w12 (.slice a1 n1 c1) m1) := HX11.out.below HB12.out
      have HBn : Hid (Below w.heap.size w w12) := HB11.out.trans (HB12.out.mono HB11.out.size)
      clear HX11 HEq hck HE11 HB11
      have hq := djoin_say (X2.out.below HBn.out) (X3.out.below HBn.out) z2 z3 O2.out O3.out (HT.out.below HBn.out) HJ2.out
      go_wp2_with fail
      refine hq.mono ?_
      rintro e w14 ⟨a14, c14, m14, rfl, hr14, hm14, hk14, b14⟩
      have HB14 : Hid (Below w.heap.size w w14) := HBn.out.trans (b14.mono HBn.out.size)
      have HX14 : Hid (Eds w14 (.slice a1 n1 c1) m1) := HX12.out.below b14
      have hg14 : m14.length ≤ 200 := by rw [← edl_length, hm14]; exact join_few HJ2.out
      obtain ⟨n14, hn14⟩ : ∃ n, n = m14.length := ⟨_, rfl⟩
      have HN14 : Hid (n14 = m14.length) := hn14
      rw [← hn14] at hr14 hg14 ⊢
      have HR14 : Hid (Eds w14 (.slice a14 n14 c14) m14 ∧ edl m14 = MN ∧ ∀ x ∈ m14, x.Ok) := ⟨hr14, hm14, hk14⟩
      clear hq b14 hr14 hm14 hk14 HX12 HB12 HBn hn14
      have e1 := hE1
      by_cases e2 : E2 = 0
      case neg =>
        have hne2 : (E2 != 0) = true := by rw [bne_iff_ne]; exact e2
        go_wp2_with fail
        go_ret
        exact ⟨rfl, HB14.out⟩
      have hne2 : (E2 != 0) = false := by rw [e2]; rfl
      obtain ⟨Q, E3, hJ3⟩ : ∃ D E, Dl.join LM (edl l3) = (D, E) := ⟨_, _, rfl⟩
      have HJ3 : Hid (Dl.join (edl m1) (edl l3) = (Q, E3)) := by show _ = _; rw [HR1.out.2.1]; exact hJ3
      have HJ4 : Hid (Dl.join (edl l1) (edl m14) = (Q, E3)) := by
        show _ = _
        rw [HR14.out.2.1, ← hJ3]
        have h1 := HJ1.out
        have h2 := HJ2.out
        rw [e1] at h1
        rw [e2] at h2
        exact (Dl.join_three h1 h2).symm
      have hq := djoin_say HX14.out (X3.out.below HB14.out) (by have := HN1.out; omega) z3 HR1.out.2.2 O3.out (HT.out.below HB14.out) HJ3.out
      clear hJ3 e1 e2
      go_wp2_with fail
      refine hq.mono ?_
      rintro e w15 ⟨a15, c15, m15, rfl, hr15, hm15, _, b15⟩
      have HB15 : Hid (Below w.heap.size w w15) := HB14.out.trans (b15.mono HB14.out.size)
      have HR15 : Hid (Eds w15 (.slice a15 m15.length c15) m15 ∧ edl m15 = Q) := ⟨hr15, hm15⟩
      have hg15 : m15.length ≤ 200 := by rw [← edl_length, hm15]; exact join_few HJ3.out
      have hX15 : Eds w15 (.slice a14 n14 c14) m14 := HR14.out.1.below b15
      have hq2 := djoin_say (X1.out.below HB15.out) hX15 z1 (by have := HN14.out; omega) O1.out HR14.out.2.2 (HT.out.below HB15.out) HJ4.out
      clear hq b15 hr15 hm15 hX15 HX14 HB14
      go_wp2_with fail
      refine hq2.mono ?_
      rintro e w16 ⟨a16, c16, m16, rfl, hr16, hm16, _, b16⟩
      have HB16 : Hid (Below w.heap.size w w16) := HB15.out.trans (b16.mono HB15.out.size)
      obtain rfl : m16 = m15 := edl_inj (hm16.trans HR15.out.2.symm)
      have heq := equal_eds (.slice a15 m16.length c15) (.slice a16 m16.length c16) m16 m16 w16 (HR15.out.1.below b16) hr16 (by omega)
      clear hq2 b16 hr16 hm16 HR15
      generalize m16.length = n16 at *
      go_wp2_with (refine heq.mono ?_; rintro e w17 ⟨q17, rfl, hq17, b17⟩; obtain rfl : q17 = true := hq17.2 (by first | exact trivial | rfl); have HB17 : Hid (Below w.heap.size w w17) := HB16.out.trans (b17.mono HB16.out.size); clear hq17 b17 heq)
      go_ret
      exact ⟨rfl, HB17.out⟩
  have hcn : (Ec == 0) = true := by rw [hEc]; rfl
  have HA3 : Hid (Dl.apply (its l0) (edl m1) = (CC, 0)) := by
    have h1 := HJ1.out
    have h2 := HA1.out
    have h3 := HA2.out
    rw [hE1] at h1
    rw [hEb] at h2
    rw [hEc, HR3.out.2.1] at h3
    show _ = _
    rw [HR1.out.2.1]
    exact Dl.both h1 h2 h3
  have hq := applied_any (X0.out.below HB5.out) HX5.out z0 (by have := HN1.out; omega) O0.out HR1.out.2.2 (HT.out.below HB5.out) (D := CC) (E := 0) HA3.out
  go_wp2_with fail
  refine hq.mono ?_
  rintro e w6 ⟨a6, c6, m6, rfl, hr6, hm6, _, b6⟩
  have HB6 : Hid (Below w.heap.size w w6) := HB5.out.trans (b6.mono HB5.out.size)
  have HX6 : Hid (Eds w6 (.slice a1 n1 c1) m1) := HX5.out.below b6
  obtain rfl : m6 = m5 := its_inj (hm6.trans HR5.out.2.symm)
  have hy := equal_items (.slice a5 m6.length c5) (.slice a6 m6.length c6) m6 m6 w6 (HR5.out.1.below b6) (Rx.of_own imC_length hr6) (by omega)
  clear hq b6 hr6 hm6 HX5 HB5 HR5
  generalize m6.length = n6 at *
  go_wp2_with fail
  refine hy.mono ?_
  rintro e w7 ⟨q7, rfl, hq7, b7⟩
  obtain rfl : q7 = true := hq7.2 (by first | exact trivial | rfl)
  have HBk : Hid (Below w.heap.size w w7) := HB6.out.trans (b7.mono HB6.out.size)
  have HLM : Hid (Eds w7 (.slice a1 n1 c1) m1) := HX6.out.below b7
  clear hq7 b7 hy HX6 HB6
  obtain ⟨wk, rfl⟩ : ∃ wk, wk = w7 := ⟨_, rfl⟩
  have hq := djoin_say (X1.out.below HBk.out) (X1.out.below HBk.out) z1 z1 O1.out O1.out (HT.out.below HBk.out) (D := (Dl.join (edl l1) (edl l1)).1) (E := Dl.check (edl l1)) (Prod.ext rfl (Dl.join_twice (edl l1)).1)
  have HLk : Hid (Eds wk (.slice a1 n1 c1) m1) := HLM
  clear HLM
  go_wp2_with fail
  refine hq.mono ?_
  rintro e w11 ⟨a11, c11, m11, rfl, hr11, hm11, hk11, b11⟩
  have HB11 : Hid (Below w.heap.size w w11) := HBk.out.trans (b11.mono HBk.out.size)
  have HX11 : Hid (Eds w11 (.slice a1 n1 c1) m1) := HLk.out.below b11
  have hg11 : m11.length ≤ 200 := by rw [← edl_length, hm11]; exact join_few (show Dl.join (edl l1) (edl l1) = ((Dl.join (edl l1) (edl l1)).1, (Dl.join (edl l1) (edl l1)).2) from rfl)
  have HE11 : Hid (Dl.check (edl l1) = 0 → m11 = l1) := fun e => edl_inj (hm11.trans ((Dl.join_twice (edl l1)).2 e))
  have HR11 : Hid (Eds w11 (.slice a11 m11.length c11) m11) := hr11
  have hck := fun (W : World) (hW : Below w.heap.size w W) => dcheck_any v1 l1 W (X1.out.below hW) z1 O1.out (HT.out.below hW)
  have HEq : Hid (∀ W, Below w11.heap.size w11 W → Calls Tryd.prog 10 #[.slice a11 m11.length c11, v1] W fun e w' => ∃ b : Bool, e = .returned (.bool b) ∧ (b = true ↔ m11 = l1) ∧ Below W.heap.size W w') := fun W hW => equal_eds _ v1 m11 l1 W (HR11.out.below hW) (X1.out.below (HB11.out.trans (hW.mono HB11.out.size))) (by omega)
  generalize m11.length = n11 at *
  obtain ⟨CK, hCK⟩ : ∃ CK, CK = Dl.check (edl l1) := ⟨_, rfl⟩
  rw [← hCK] at hck HE11 ⊢
  clear hq b11 hr11 hm11 hk11 HLk HBk hCK HR11
  obtain ⟨MN, E2, hJ2⟩ : ∃ D E, Dl.join (edl l2) (edl l3) = (D, E) := ⟨_, _, rfl⟩
  have HJ2 : Hid (Dl.join (edl l2) (edl l3) = (MN, E2)) := hJ2
  clear hJ2
  have hfin : ∀ w12 : World, Hid (Below w11.heap.size w11 w12) → True := fun _ _ => trivial
  clear hfin
  by_cases hc0 : CK = 0
  · have hm : m11 = l1 := HE11.out hc0
    go_wp2_with (first
      | (refine (HEq.out _ hb12.out).mono ?_; rintro e w13 ⟨q13, rfl, hq13, b13⟩; obtain rfl : q13 = true := hq13.2 hm; have HB12 : Hid (Below w11.heap.size w11 w13) := hb12.out.trans (b13.mono hb12.out.size); clear hq13 b13 hb12)
      | (refine (hck _ HB11.out).mono ?_; rintro e w12 ⟨rfl, b12⟩; have hb12 : Hid (Below w11.heap.size w11 w12) := b12; clear b12))
    have HX12 : Hid (Eds w13 (.slice a1 n1 c1) m1) := HX11.out.below HB12.out
    have HBn : Hid (Below w.heap.size w w13) := HB11.out.trans (HB12.out.mono HB11.out.size)
    clear HX11 HEq hck HE11 HB11
    have hq := djoin_say (X2.out.below HBn.out) (X3.out.below HBn.out) z2 z3 O2.out O3.out (HT.out.below HBn.out) HJ2.out
    go_wp2_with fail
    refine hq.mono ?_
    rintro e w14 ⟨a14, c14, m14, rfl, hr14, hm14, hk14, b14⟩
    have HB14 : Hid (Below w.heap.size w w14) := HBn.out.trans (b14.mono HBn.out.size)
    have HX14 : Hid (Eds w14 (.slice a1 n1 c1) m1) := HX12.out.below b14
    have hg14 : m14.length ≤ 200 := by rw [← edl_length, hm14]; exact join_few HJ2.out
    obtain ⟨n14, hn14⟩ : ∃ n, n = m14.length := ⟨_, rfl⟩
    have HN14 : Hid (n14 = m14.length) := hn14
    rw [← hn14] at hr14 hg14 ⊢
    have HR14 : Hid (Eds w14 (.slice a14 n14 c14) m14 ∧ edl m14 = MN ∧ ∀ x ∈ m14, x.Ok) := ⟨hr14, hm14, hk14⟩
    clear hq b14 hr14 hm14 hk14 HX12 HB12 HBn hn14
    have e1 := hE1
    by_cases e2 : E2 = 0
    case neg =>
      have hne2 : (E2 != 0) = true := by rw [bne_iff_ne]; exact e2
      go_wp2_with fail
      go_ret
      exact ⟨rfl, HB14.out⟩
    have hne2 : (E2 != 0) = false := by rw [e2]; rfl
    obtain ⟨Q, E3, hJ3⟩ : ∃ D E, Dl.join LM (edl l3) = (D, E) := ⟨_, _, rfl⟩
    have HJ3 : Hid (Dl.join (edl m1) (edl l3) = (Q, E3)) := by show _ = _; rw [HR1.out.2.1]; exact hJ3
    have HJ4 : Hid (Dl.join (edl l1) (edl m14) = (Q, E3)) := by
      show _ = _
      rw [HR14.out.2.1, ← hJ3]
      have h1 := HJ1.out
      have h2 := HJ2.out
      rw [e1] at h1
      rw [e2] at h2
      exact (Dl.join_three h1 h2).symm
    have hq := djoin_say HX14.out (X3.out.below HB14.out) (by have := HN1.out; omega) z3 HR1.out.2.2 O3.out (HT.out.below HB14.out) HJ3.out
    clear hJ3 e1 e2
    go_wp2_with fail
    refine hq.mono ?_
    rintro e w15 ⟨a15, c15, m15, rfl, hr15, hm15, _, b15⟩
    have HB15 : Hid (Below w.heap.size w w15) := HB14.out.trans (b15.mono HB14.out.size)
    have HR15 : Hid (Eds w15 (.slice a15 m15.length c15) m15 ∧ edl m15 = Q) := ⟨hr15, hm15⟩
    have hg15 : m15.length ≤ 200 := by rw [← edl_length, hm15]; exact join_few HJ3.out
    have hX15 : Eds w15 (.slice a14 n14 c14) m14 := HR14.out.1.below b15
    have hq2 := djoin_say (X1.out.below HB15.out) hX15 z1 (by have := HN14.out; omega) O1.out HR14.out.2.2 (HT.out.below HB15.out) HJ4.out
    clear hq b15 hr15 hm15 hX15 HX14 HB14
    go_wp2_with fail
    refine hq2.mono ?_
    rintro e w16 ⟨a16, c16, m16, rfl, hr16, hm16, _, b16⟩
    have HB16 : Hid (Below w.heap.size w w16) := HB15.out.trans (b16.mono HB15.out.size)
    obtain rfl : m16 = m15 := edl_inj (hm16.trans HR15.out.2.symm)
    have heq := equal_eds (.slice a15 m16.length c15) (.slice a16 m16.length c16) m16 m16 w16 (HR15.out.1.below b16) hr16 (by omega)
    clear hq2 b16 hr16 hm16 HR15
    generalize m16.length = n16 at *
    go_wp2_with (refine heq.mono ?_; rintro e w17 ⟨q17, rfl, hq17, b17⟩; obtain rfl : q17 = true := hq17.2 (by first | exact trivial | rfl); have HB17 : Hid (Below w.heap.size w w17) := HB16.out.trans (b17.mono HB16.out.size); clear hq17 b17 heq)
    go_ret
    exact ⟨rfl, HB17.out⟩
  · have hne0 : (CK == 0) = false := by rw [beq_eq_false_iff_ne]; exact hc0
    go_wp2_with (refine (hck _ HB11.out).mono ?_; rintro e w12 ⟨rfl, b12⟩; have HB12 : Hid (Below w11.heap.size w11 w12) := b12; clear b12)
    have HX12 : Hid (Eds w12 (.slice a1 n1 c1) m1) := HX11.out.below HB12.out
    have HBn : Hid (Below w.heap.size w w12) := HB11.out.trans (HB12.out.mono HB11.out.size)
    clear HX11 HEq hck HE11 HB11
    have hq := djoin_say (X2.out.below HBn.out) (X3.out.below HBn.out) z2 z3 O2.out O3.out (HT.out.below HBn.out) HJ2.out
    go_wp2_with fail
    refine hq.mono ?_
    rintro e w14 ⟨a14, c14, m14, rfl, hr14, hm14, hk14, b14⟩
    have HB14 : Hid (Below w.heap.size w w14) := HBn.out.trans (b14.mono HBn.out.size)
    have HX14 : Hid (Eds w14 (.slice a1 n1 c1) m1) := HX12.out.below b14
    have hg14 : m14.length ≤ 200 := by rw [← edl_length, hm14]; exact join_few HJ2.out
    obtain ⟨n14, hn14⟩ : ∃ n, n = m14.length := ⟨_, rfl⟩
    have HN14 : Hid (n14 = m14.length) := hn14
    rw [← hn14] at hr14 hg14 ⊢
    have HR14 : Hid (Eds w14 (.slice a14 n14 c14) m14 ∧ edl m14 = MN ∧ ∀ x ∈ m14, x.Ok) := ⟨hr14, hm14, hk14⟩
    clear hq b14 hr14 hm14 hk14 HX12 HB12 HBn hn14
    have e1 := hE1
    by_cases e2 : E2 = 0
    case neg =>
      have hne2 : (E2 != 0) = true := by rw [bne_iff_ne]; exact e2
      go_wp2_with fail
      go_ret
      exact ⟨rfl, HB14.out⟩
    have hne2 : (E2 != 0) = false := by rw [e2]; rfl
    obtain ⟨Q, E3, hJ3⟩ : ∃ D E, Dl.join LM (edl l3) = (D, E) := ⟨_, _, rfl⟩
    have HJ3 : Hid (Dl.join (edl m1) (edl l3) = (Q, E3)) := by show _ = _; rw [HR1.out.2.1]; exact hJ3
    have HJ4 : Hid (Dl.join (edl l1) (edl m14) = (Q, E3)) := by
      show _ = _
      rw [HR14.out.2.1, ← hJ3]
      have h1 := HJ1.out
      have h2 := HJ2.out
      rw [e1] at h1
      rw [e2] at h2
      exact (Dl.join_three h1 h2).symm
    have hq := djoin_say HX14.out (X3.out.below HB14.out) (by have := HN1.out; omega) z3 HR1.out.2.2 O3.out (HT.out.below HB14.out) HJ3.out
    clear hJ3 e1 e2
    go_wp2_with fail
    refine hq.mono ?_
    rintro e w15 ⟨a15, c15, m15, rfl, hr15, hm15, _, b15⟩
    have HB15 : Hid (Below w.heap.size w w15) := HB14.out.trans (b15.mono HB14.out.size)
    have HR15 : Hid (Eds w15 (.slice a15 m15.length c15) m15 ∧ edl m15 = Q) := ⟨hr15, hm15⟩
    have hg15 : m15.length ≤ 200 := by rw [← edl_length, hm15]; exact join_few HJ3.out
    have hX15 : Eds w15 (.slice a14 n14 c14) m14 := HR14.out.1.below b15
    have hq2 := djoin_say (X1.out.below HB15.out) hX15 z1 (by have := HN14.out; omega) O1.out HR14.out.2.2 (HT.out.below HB15.out) HJ4.out
    clear hq b15 hr15 hm15 hX15 HX14 HB14
    go_wp2_with fail
    refine hq2.mono ?_
    rintro e w16 ⟨a16, c16, m16, rfl, hr16, hm16, _, b16⟩
    have HB16 : Hid (Below w.heap.size w w16) := HB15.out.trans (b16.mono HB15.out.size)
    obtain rfl : m16 = m15 := edl_inj (hm16.trans HR15.out.2.symm)
    have heq := equal_eds (.slice a15 m16.length c15) (.slice a16 m16.length c16) m16 m16 w16 (HR15.out.1.below b16) hr16 (by omega)
    clear hq2 b16 hr16 hm16 HR15
    generalize m16.length = n16 at *
    go_wp2_with (refine heq.mono ?_; rintro e w17 ⟨q17, rfl, hq17, b17⟩; obtain rfl : q17 = true := hq17.2 (by first | exact trivial | rfl); have HB17 : Hid (Below w.heap.size w w17) := HB16.out.trans (b17.mono HB16.out.size); clear hq17 b17 heq)
    go_ret
    exact ⟨rfl, HB17.out⟩

end Go.Proofs.YthpcbbkpjggjbaaDoor

namespace Go.Proofs.YthpcbbkpjggjbaaDoor
open Go.RowKit
set_option maxRecDepth 4000

set_option maxHeartbeats 8000000 in
theorem deltaMetric_walk (v0 : Value) (l0 : List Im) (v1 : Value) (l1 : List Im) (v2 : Value) (l2 : List Im) (z0 : l0.length ≤ 140737488351232) (f0 : ∀ x ∈ l0, x.Ok) (z1 : l1.length ≤ 140737488351232) (f1 : ∀ x ∈ l1, x.Ok) (z2 : l2.length ≤ 140737488351232) (f2 : ∀ x ∈ l2, x.Ok) (w : World) (t0 : Ims w v0 l0) (t1 : Ims w v1 l1) (t2 : Ims w v2 l2) (hT : Tabs w) :
    Calls Tryd.prog 6 #[v0, v1, v2] w fun e w' => e = .returned (.bool true) ∧ Below w.heap.size w w' := by
  have X0 : Hid (Ims w v0 l0) := t0
  have O0 : Hid (∀ x ∈ l0, x.Ok) := f0
  have X1 : Hid (Ims w v1 l1) := t1
  have O1 : Hid (∀ x ∈ l1, x.Ok) := f1
  have X2 : Hid (Ims w v2 l2) := t2
  have O2 : Hid (∀ x ∈ l2, x.Ok) := f2
  have HT : Hid (Tabs w) := hT
  obtain ⟨D1, E1, hD1⟩ : ∃ D E, Dl.diff (its l0) (its l1) = (D, E) := ⟨_, _, rfl⟩
  obtain ⟨D2, E2, hD2⟩ : ∃ D E, Dl.diff (its l1) (its l0) = (D, E) := ⟨_, _, rfl⟩
  obtain ⟨D3, E3, hD3⟩ : ∃ D E, Dl.diff (its l1) (its l2) = (D, E) := ⟨_, _, rfl⟩
  obtain ⟨D4, E4, hD4⟩ : ∃ D E, Dl.diff (its l0) (its l2) = (D, E) := ⟨_, _, rfl⟩
  have HD1 : Hid (Dl.diff (its l0) (its l1) = (D1, E1)) := hD1
  have HD2 : Hid (Dl.diff (its l1) (its l0) = (D2, E2)) := hD2
  have HD3 : Hid (Dl.diff (its l1) (its l2) = (D3, E3)) := hD3
  have HD4 : Hid (Dl.diff (its l0) (its l2) = (D4, E4)) := hD4
  have HM : Hid (E1 = 0 → E3 = 0 → D1.length = D2.length ∧ (D1.length = 0 ↔ l0 = l1) ∧ D4.length ≤ D1.length + D3.length) := fun e1 e3 => by
    have h0 := ((diff_err hD1).1 e1).1
    have h1 := ((diff_err hD1).1 e1).2
    have h2 := ((diff_err hD3).1 e3).2
    obtain ⟨m1, m2, m3⟩ := Dl.metric h0 h1 h2
    rw [hD1, hD2] at m1
    rw [hD1] at m2 m3
    rw [hD4, hD3] at m3
    exact ⟨m1, m2.trans ⟨its_inj, fun e => by rw [e]⟩, m3⟩
  have heq := fun (W : World) (h1 : Ims W v0 l0) (h2 : Ims W v1 l1) => equal_items v0 v1 l0 l1 W h1 h2 z0
  clear t0 t1 t2 f0 f1 f2 hT hD1 hD2 hD3 hD4
  go_enter Tryd.func6, Tryd.ntmps6
  go_wp2_with fail
  refine (some_world _).mono ?_
  rintro e w1 ⟨ka, kc, rfl, hsm, b1⟩
  have HB1 : Hid (Below w.heap.size w w1) := b1
  have hds := ddiff_say hsm (ims_nil w1) (by decide) (by decide) smallM_ok (fun x hx => absurd hx List.not_mem_nil) (HT.out.below HB1.out) (Prod.ext rfl diff_small2.1)
  clear hsm b1
  go_wp2_with fail
  refine hds.mono ?_
  rintro e w2 ⟨xa, xc, xl, rfl, _, hxl, _, b2⟩
  have hx2 : xl.length = 2 := by have h := congrArg List.length hxl; rw [edl_length] at h; exact h.trans diff_small2.2
  rw [hx2]
  have HB2 : Hid (Below w.heap.size w w2) := HB1.out.trans (b2.mono HB1.out.size)
  clear hds hxl b2 hx2 HB1
  have hq := ddiff_say (X0.out.below HB2.out) (X1.out.below HB2.out) z0 z1 O0.out O1.out (HT.out.below HB2.out) HD1.out
  go_wp2_with fail
  refine hq.mono ?_
  rintro e w3 ⟨a1, c1, m1, rfl, _, hm, _, b3⟩
  have HB3 : Hid (Below w.heap.size w w3) := HB2.out.trans (b3.mono HB2.out.size)
  have HL1 : Hid (m1.length = D1.length) := by rw [← hm]; exact (edl_length _).symm
  clear hq b3 hm HB2
  have hq := ddiff_say (X1.out.below HB3.out) (X0.out.below HB3.out) z1 z0 O1.out O0.out (HT.out.below HB3.out) HD2.out
  go_wp2_with fail
  refine hq.mono ?_
  rintro e w4 ⟨a2, c2, m2, rfl, _, hm, _, b3⟩
  have HB4 : Hid (Below w.heap.size w w4) := HB3.out.trans (b3.mono HB3.out.size)
  have HL2 : Hid (m2.length = D2.length) := by rw [← hm]; exact (edl_length _).symm
  clear hq b3 hm HB3
  have hq := ddiff_say (X1.out.below HB4.out) (X2.out.below HB4.out) z1 z2 O1.out O2.out (HT.out.below HB4.out) HD3.out
  go_wp2_with fail
  refine hq.mono ?_
  rintro e w5 ⟨a3, c3, m3, rfl, _, hm, _, b3⟩
  have HB5 : Hid (Below w.heap.size w w5) := HB4.out.trans (b3.mono HB4.out.size)
  have HL3 : Hid (m3.length = D3.length) := by rw [← hm]; exact (edl_length _).symm
  clear hq b3 hm HB4
  have hq := ddiff_say (X0.out.below HB5.out) (X2.out.below HB5.out) z0 z2 O0.out O2.out (HT.out.below HB5.out) HD4.out
  go_wp2_with fail
  refine hq.mono ?_
  rintro e w6 ⟨a4, c4, m4, rfl, _, hm, _, b3⟩
  have HB6 : Hid (Below w.heap.size w w6) := HB5.out.trans (b3.mono HB5.out.size)
  have HL4 : Hid (m4.length = D4.length) := by rw [← hm]; exact (edl_length _).symm
  clear hq b3 hm HB5
  have hy := heq w6 (X0.out.below HB6.out) (X1.out.below HB6.out)
  clear heq
  by_cases c1 : E1 = 0
  case neg =>
    have hne : (E1 != 0) = true := by rw [bne_iff_ne]; exact c1
    go_wp2_with fail
    go_ret
    exact ⟨rfl, HB6.out⟩
  have hne : (E1 != 0) = false := by rw [c1]; rfl
  by_cases c3 : E3 = 0
  case neg =>
    have hne3 : (E3 != 0) = true := by rw [bne_iff_ne]; exact c3
    go_wp2_with fail
    go_ret
    exact ⟨rfl, HB6.out⟩
  have hne3 : (E3 != 0) = false := by rw [c3]; rfl
  obtain ⟨q1, q2, q3⟩ := HM.out c1 c3
  rw [← HL1.out, ← HL2.out] at q1
  rw [← HL1.out] at q2 q3
  rw [← HL3.out, ← HL4.out] at q3
  obtain ⟨n1, hn1⟩ : ∃ n, n = m1.length := ⟨_, rfl⟩
  obtain ⟨n3, hn3⟩ : ∃ n, n = m3.length := ⟨_, rfl⟩
  obtain ⟨n4, hn4⟩ : ∃ n, n = m4.length := ⟨_, rfl⟩
  have hz : m1.length ≤ 200 ∧ m3.length ≤ 200 := by
    have h0 := (diff_err HD1.out).1 c1
    have h2 := (diff_err HD3.out).1 c3
    have k1 := (Dl.check_ok.1 (Dl.diff_ok h0.1 h0.2).2).1
    have k3 := (Dl.check_ok.1 (Dl.diff_ok h2.1 h2.2).2).1
    rw [HD1.out] at k1
    rw [HD3.out] at k3
    have e1 := HL1.out
    have e3 := HL3.out
    exact ⟨by rw [e1]; exact k1, by rw [e3]; exact k3⟩
  have HQ : Hid (n1 = 0 ↔ l0 = l1) := by rw [hn1]; exact q2
  rw [← q1]
  rw [← hn1, ← hn3] at hz
  rw [← hn1, ← hn3, ← hn4] at q3
  rw [← hn1, ← hn3, ← hn4]
  obtain ⟨hz1, hz3⟩ := hz
  have hle : (n4 : Int) ≤ (n1 : Int) + (n3 : Int) := by omega
  clear q1 q2 q3 hn1 hn3 hn4 HM HL1 HL2 HL3 HL4 c1 c3
  by_cases hab : l0 = l1
  · have h1 : n1 = 0 := HQ.out.2 hab
    subst h1
    have hle2 : decide (n4 ≤ n3) = true := decide_eq_true (by omega)
    have hle3 : n4 ≤ n3 := by omega
    go_wp2_with (refine hy.mono ?_; rintro e w7 ⟨b, rfl, hb, b7⟩; obtain rfl : b = true := hb.2 hab; have HB7 : Hid (Below w.heap.size w w7) := HB6.out.trans (b7.mono HB6.out.size); clear hb b7)
    go_ret
    exact ⟨rfl, HB7.out⟩
  · have h1 : n1 ≠ 0 := fun q => hab (HQ.out.1 q)
    have h2 : ((n1 : Int) == 0) = false := by rw [beq_eq_false_iff_ne]; omega
    go_wp2_with (refine hy.mono ?_; rintro e w7 ⟨b, rfl, hb, b7⟩; obtain rfl : b = false := (by cases b; rfl; exact absurd (hb.1 rfl) hab); have HB7 : Hid (Below w.heap.size w w7) := HB6.out.trans (b7.mono HB6.out.size); clear hb b7)
    go_ret
    exact ⟨rfl, HB7.out⟩

end Go.Proofs.YthpcbbkpjggjbaaDoor

namespace Go.Proofs.YthpcbbkpjggjbaaDoor
open Go.RowKit
set_option maxRecDepth 4000

set_option maxHeartbeats 16000000 in
theorem deltaBack_walk (v0 : Value) (l0 : List Im) (v1 : Value) (l1 : List Im) (z0 : l0.length ≤ 140737488351232) (f0 : ∀ x ∈ l0, x.Ok) (z1 : l1.length ≤ 140737488351232) (f1 : ∀ x ∈ l1, x.Ok) (w : World) (t0 : Ims w v0 l0) (t1 : Ims w v1 l1) (hT : Tabs w) :
    Calls Tryd.prog 5 #[v0, v1] w fun e w' => e = .returned (.bool true) ∧ Below w.heap.size w w' := by
  have X0 : Hid (Ims w v0 l0) := t0
  have X1 : Hid (Ims w v1 l1) := t1
  have O0 : Hid (∀ x ∈ l0, x.Ok) := f0
  have O1 : Hid (∀ x ∈ l1, x.Ok) := f1
  have HT : Hid (Tabs w) := hT
  obtain ⟨D1, E1, hD1⟩ : ∃ D E, Dl.diff (its l0) (its l1) = (D, E) := ⟨_, _, rfl⟩
  obtain ⟨D2, E2, hD2⟩ : ∃ D E, Dl.diff (its l1) (its l0) = (D, E) := ⟨_, _, rfl⟩
  have HD1 : Hid (Dl.diff (its l0) (its l1) = (D1, E1)) := hD1
  have HD2 : Hid (Dl.diff (its l1) (its l0) = (D2, E2)) := hD2
  clear t0 t1 f0 f1 hT hD1 hD2
  go_enter Tryd.func5, Tryd.ntmps5
  go_wp2_with fail
  refine (some_world _).mono ?_
  rintro e w1 ⟨ka, kc, rfl, hsm, b1⟩
  have HB1 : Hid (Below w.heap.size w w1) := b1
  have hds := ddiff_say (ims_nil w1) hsm (by decide) (by decide) (fun x hx => absurd hx List.not_mem_nil) smallM_ok (HT.out.below HB1.out) (Prod.ext rfl diff_small.1)
  clear hsm b1
  go_wp2_with fail
  refine hds.mono ?_
  rintro e w2 ⟨xa, xc, xl, rfl, _, hxl, _, b2⟩
  have hx2 : xl.length = 2 := by have h := congrArg List.length hxl; rw [edl_length] at h; exact h.trans diff_small.2
  rw [hx2]
  have HB2 : Hid (Below w.heap.size w w2) := HB1.out.trans (b2.mono HB1.out.size)
  clear hds hxl b2 hx2 HB1
  have hq := ddiff_say (X0.out.below HB2.out) (X1.out.below HB2.out) z0 z1 O0.out O1.out (HT.out.below HB2.out) HD1.out
  go_wp2_with fail
  refine hq.mono ?_
  rintro e w3 ⟨a1, c1, m1, rfl, hr1, hm1, hk1, b3⟩
  have HB3 : Hid (Below w.heap.size w w3) := HB2.out.trans (b3.mono HB2.out.size)
  have HR1 : Hid (Eds w3 (.slice a1 m1.length c1) m1 ∧ edl m1 = D1 ∧ ∀ x ∈ m1, x.Ok) := ⟨Rx.of_own emC_length hr1, hm1, hk1⟩
  clear hq b3 hr1 hm1 hk1 HB2
  have hq := ddiff_say (X1.out.below HB3.out) (X0.out.below HB3.out) z1 z0 O1.out O0.out (HT.out.below HB3.out) HD2.out
  go_wp2_with fail
  refine hq.mono ?_
  rintro e w4 ⟨a2, c2, m2, rfl, hr2, hm2, hk2, b4⟩
  have HB4 : Hid (Below w.heap.size w w4) := HB3.out.trans (b4.mono HB3.out.size)
  have HR2 : Hid (Eds w4 (.slice a2 m2.length c2) m2 ∧ edl m2 = D2 ∧ ∀ x ∈ m2, x.Ok) := ⟨Rx.of_own emC_length hr2, hm2, hk2⟩
  have HR1b : Hid (Eds w4 (.slice a1 m1.length c1) m1) := HR1.out.1.below b4
  have HL1 : Hid (m1.length = D1.length) := by rw [← HR1.out.2.1]; exact (edl_length _).symm
  have HL2 : Hid (m2.length = D2.length) := by rw [← HR2.out.2.1]; exact (edl_length _).symm
  obtain ⟨n1, hn1⟩ : ∃ n, n = m1.length := ⟨_, rfl⟩
  obtain ⟨n2, hn2⟩ : ∃ n, n = m2.length := ⟨_, rfl⟩
  have HN1 : Hid (n1 = m1.length) := hn1
  have HN2 : Hid (n2 = m2.length) := hn2
  rw [← hn1, ← hn2]
  rw [← hn1] at HR1b
  rw [← hn2] at HR2
  clear hq b4 hr2 hm2 hk2 hn1 hn2 HB3
  have HW : Hid (E1 = 0 ↔ Wk.world (its l0) = 0 ∧ Wk.world (its l1) = 0) := ⟨(diff_err HD1.out).1, fun q => Classical.byContradiction fun k => ((diff_err HD1.out).2 k).2 q⟩
  have HV : Hid (E2 = 0 ↔ Wk.world (its l1) = 0 ∧ Wk.world (its l0) = 0) := ⟨(diff_err HD2.out).1, fun q => Classical.byContradiction fun k => ((diff_err HD2.out).2 k).2 q⟩
  by_cases c1' : E1 = 0
  case neg =>
    have c2' : E2 ≠ 0 := fun q => c1' (HW.out.2 (HV.out.1 q).symm)
    have hz1 : n1 = 0 := by rw [HN1.out, HL1.out, ((diff_err HD1.out).2 c1').1]; rfl
    have hz2 : n2 = 0 := by rw [HN2.out, HL2.out, ((diff_err HD2.out).2 c2').1]; rfl
    have hne : (E1 != 0) = true := by rw [bne_iff_ne]; exact c1'
    have hne2 : (E2 != 0) = true := by rw [bne_iff_ne]; exact c2'
    subst hz1
    subst hz2
    clear c1' c2'
    go_wp2_with fail
    go_ret
    exact ⟨rfl, HB4.out⟩
  have c2' : E2 = 0 := HV.out.2 (HW.out.1 c1').symm
  have hne : (E1 != 0) = false := by rw [c1']; rfl
  have hne2 : (E2 != 0) = false := by rw [c2']; rfl
  have h0 := (HW.out.1 c1').1
  have h1 := (HW.out.1 c1').2
  have hk1 := Dl.back h0 h1
  have hk2 := Dl.back h1 h0
  rw [HD1.out] at hk1
  rw [HD2.out] at hk2
  have hc1 := (Dl.diff_ok h0 h1).2
  rw [HD1.out] at hc1
  have hg1 : n1 ≤ 200 := by rw [HN1.out, HL1.out]; exact (Dl.check_ok.1 hc1).1
  have hc2 := (Dl.diff_ok h1 h0).2
  rw [HD2.out] at hc2
  have hg2 : n2 ≤ 200 := by rw [HN2.out, HL2.out]; exact (Dl.check_ok.1 hc2).1
  have HC1 : Hid (Dl.check (edl m1) = 0) := by show _ = _; rw [HR1.out.2.1]; exact hc1
  have hap1 := applied_any (X0.out.below HB4.out) (by rw [HN1.out] at HR1b; exact HR1b.out) z0 (by have := HN1.out; omega) O0.out HR1.out.2.2 (HT.out.below HB4.out) (D := its l1) (E := 0) (by rw [HR1.out.2.1]; exact hk1)
  have HK2 : Hid (Dl.apply (its l1) (edl m2) = (its l0, 0)) := by show _ = _; rw [HR2.out.2.1]; exact hk2
  rw [← HN1.out] at hap1
  clear hk1 hk2 hc1 hc2 h0 h1 c1' c2' HW HV HD1 HD2 HL1 HL2
  go_wp2_with fail
  refine hap1.mono ?_
  rintro e w5 ⟨a5, c5, m5, rfl, hr5, hm5, _, b5⟩
  obtain rfl := its_inj hm5
  have HB5 : Hid (Below w.heap.size w w5) := HB4.out.trans (b5.mono HB4.out.size)
  have HR5 : Hid (Ims w5 (.slice a5 m5.length c5) m5) := Rx.of_own imC_length hr5
  have HR15 : Hid (Eds w5 (.slice a1 n1 c1) m1) := HR1b.out.below b5
  have HR25 : Hid (Eds w5 (.slice a2 n2 c2) m2) := HR2.out.1.below b5
  have hap2 := applied_any (X1.out.below HB5.out) (vb := .slice a2 m2.length c2) (by have h := HR25.out; rw [HN2.out] at h; exact h) z1 (by have := HN2.out; omega) O1.out HR2.out.2.2 (HT.out.below HB5.out) HK2.out
  rw [← HN2.out] at hap2
  clear hap1 hr5 hm5 b5 HB4 HR1b HR25
  go_wp2_with fail
  refine hap2.mono ?_
  rintro e w6 ⟨a6, c6, m6, rfl, hr6, hm6, _, b6⟩
  obtain rfl := its_inj hm6
  have HB6 : Hid (Below w.heap.size w w6) := HB5.out.trans (b6.mono HB5.out.size)
  have HR6 : Hid (Ims w6 (.slice a6 m6.length c6) m6) := Rx.of_own imC_length hr6
  have HR56 : Hid (Ims w6 (.slice a5 m5.length c5) m5) := HR5.out.below b6
  have HR16 : Hid (Eds w6 (.slice a1 n1 c1) m1) := HR15.out.below b6
  have hy1 := fun (W : World) (h1 : Ims W (.slice a5 m5.length c5) m5) (h2 : Ims W v1 m5) => equal_items _ v1 m5 m5 W h1 h2 z1
  have hy2 := fun (W : World) (h1 : Ims W (.slice a6 m6.length c6) m6) (h2 : Ims W v0 m6) => equal_items _ v0 m6 m6 W h1 h2 z0
  have hy3 := fun (W : World) (h1 : Eds W (.slice a1 n1 c1) m1) (hT : Tabs W) => dcheck_any _ m1 W h1 (by have := HN1.out; omega) HR1.out.2.2 hT
  rw [HC1.out] at hy3
  have HX6 : Hid (∀ W, Below w6.heap.size w6 W → Ims W (.slice a5 m5.length c5) m5 ∧ Ims W v1 m5 ∧ Ims W (.slice a6 m6.length c6) m6 ∧ Ims W v0 m6 ∧ Eds W (.slice a1 n1 c1) m1 ∧ Tabs W) := fun W hW =>
    ⟨HR56.out.below hW, (X1.out.below (HB6.out.trans (hW.mono HB6.out.size))), HR6.out.below hW, (X0.out.below (HB6.out.trans (hW.mono HB6.out.size))), HR16.out.below hW, HT.out.below (HB6.out.trans (hW.mono HB6.out.size))⟩
  clear hap2 hr6 hm6 b6 HR5 HR15 HR6 HR56 HR16 HB5 X0 X1 HK2 HR1 HR2 HC1
  generalize m5.length = n5 at *
  generalize m6.length = n6 at *
  go_wp2_with (first
    | (refine (hy1 _ (HX6.out _ (Below.refl _ _)).1 (HX6.out _ (Below.refl _ _)).2.1).mono ?_; rintro e w7 ⟨q7, rfl, hq7, b7⟩; obtain rfl : q7 = true := hq7.2 (by first | exact trivial | rfl); have HB7 : Hid (Below w6.heap.size w6 w7) := b7; clear hq7 b7 hy1)
    | (refine (hy2 _ (HX6.out _ HB7.out).2.2.1 (HX6.out _ HB7.out).2.2.2.1).mono ?_; rintro e w8 ⟨q8, rfl, hq8, b8⟩; obtain rfl : q8 = true := hq8.2 (by first | exact trivial | rfl); have HB8 : Hid (Below w6.heap.size w6 w8) := HB7.out.trans (b8.mono HB7.out.size); clear hq8 b8 hy2)
    | (refine (hy3 _ (HX6.out _ HB8.out).2.2.2.2.1 (HX6.out _ HB8.out).2.2.2.2.2).mono ?_; rintro e w9 ⟨rfl, b9⟩; have HB9 : Hid (Below w6.heap.size w6 w9) := HB8.out.trans (b9.mono HB8.out.size); clear b9 hy3))
  go_ret
  exact ⟨rfl, HB6.out.trans (HB9.out.mono HB6.out.size)⟩

end Go.Proofs.YthpcbbkpjggjbaaDoor

namespace Go.Proofs.YthpcbbkpjggjbaaDoor
open Go.RowKit Go.ChangeShapes Go.WideShapes Go.Deep Go.Joins
set_option maxRecDepth 20000

section
variable {H : Type} {enc : TypeId × Value → H} {w : World} {base : Nat} {spare : Nat → Bool} {held : Bool}

/-- rows of things that have rows themselves -/
theorem open_rw {α : Type} {k : Nat} {R : World → α → List Value → Prop} {T E : TypeId} (hu : Tryd.prog.underlying T = some (.slice E)) (hk : Tryd.prog.cellsOf E = k) (hk0 : 0 < k)
    {q : α → DataW H → Prop} (ho : ∀ n cs (x : DataW H × List MemPlace), cs.length = k → DataW.trod enc Tryd.prog w base spare held n E cs = some x → (∀ y ∈ x.2, y.block < w.heap.size) → ∃ t, R w t cs ∧ q t x.1)
    {fuel : Nat} {sa : Option Addr} {len cap : Nat} {x : DataW H × List MemPlace} (h : DataW.trod enc Tryd.prog w base spare held fuel T [.slice sa len cap] = some x) (hlt : ∀ y ∈ x.2, y.block < w.heap.size) :
    ∃ l : List α, Rw k R w (.slice sa len cap) l ∧ len ≤ cap ∧ cap ≤ 9223372036854775807 ∧ (l = [] ∨ ∃ elems sp, x.1 = .slice elems sp ∧ l.length = elems.length ∧ ∀ t ∈ l, ∃ d ∈ elems, q t d) := by
  rcases open_slice hu h with ⟨hcs, hx⟩ | ⟨a, len', cap', m, n, D, Pl, hcs, _, hl, hm, hmm, hx, hall⟩
  · simp at hcs
    obtain ⟨rfl, rfl, rfl⟩ := hcs
    exact ⟨[], Rw.nil _ _, Nat.le_refl _, by omega, .inl rfl⟩
  · simp at hcs
    obtain ⟨rfl, rfl, rfl⟩ := hcs
    have hlm : len ≤ m := by rw [hmm]; split <;> omega
    rw [hk] at hall
    subst hx
    obtain ⟨L, hL, hT⟩ := choose_row (q := fun i t => ∃ cs, w.cells? base (a.add (i * k)) k = some cs ∧ R w t cs ∧ q t (D i)) len (fun i hi => by
      obtain ⟨cs', h1, h2⟩ := hall i (by omega)
      obtain ⟨_, hlen, _⟩ := World.cells?_some h1
      obtain ⟨t, h3⟩ := ho _ _ _ hlen h2 fun y hy => hlt y (List.mem_append_right _ (List.mem_flatMap.2 ⟨i, List.mem_range.2 (by omega), hy⟩))
      exact ⟨t, cs', h1, h3⟩)
    have hm' : cap ≤ 9223372036854775807 := by unfold maxLen at hm; omega
    refine ⟨L, ?_, hl, hm', .inr ⟨_, _, rfl, by simp [hL], fun t ht => ?_⟩⟩
    rotate_left
    · obtain ⟨i, hi, rfl⟩ := List.getElem_of_mem ht
      obtain ⟨_, _, _, h3⟩ := hT i _ (List.getElem?_eq_getElem hi)
      exact ⟨D i, List.mem_map_of_mem (List.mem_range.2 (by omega)), h3⟩
    by_cases hc0 : len = 0
    · subst hc0
      exact ⟨.inl ⟨⟨_, _, rfl⟩, List.length_eq_zero_iff.1 hL⟩⟩
    · have hcell : ∀ j t, L[j]? = some t → ∃ cs : List Value, cs.length = k ∧ R w t cs ∧ ∀ r v, cs[r]? = some v → w.cell? (a.add (j * k + r)) = some v := fun j t hj => by
        obtain ⟨cs, h1, h2, _⟩ := hT j t hj
        obtain ⟨_, hlen, hc⟩ := World.cells?_some h1
        refine ⟨cs, hlen, h2, fun r v hv => ?_⟩
        have hr : r < k := by
          have := (List.getElem?_eq_some_iff.1 hv).1
          omega
        have := hc r hr
        rw [add_add, hv] at this
        exact this
      obtain ⟨b, off, spot⟩ := a
      have hspot : spot = none := by
        obtain ⟨cs, c1, _, c3⟩ := hcell 0 _ (List.getElem?_eq_getElem (by omega))
        have h0 : cs[0]? = some (cs[0]'(by omega)) := List.getElem?_eq_getElem _
        simpa [Addr.add] using World.cell?_spot (c3 0 _ h0)
      subst hspot
      have hpos : 0 < m * k := Nat.mul_pos (by omega) hk0
      have hbW : b < w.heap.size := hlt (.cell b off) (List.mem_append_left _ (MemPlace.mem_row.2 ⟨0, by rw [hk]; exact hpos, by simp⟩))
      refine ⟨.inr ⟨b, off, cap, by rw [hL], by omega, hbW, fun j t hj => ?_⟩⟩
      obtain ⟨cs, c1, c2, c3⟩ := hcell j t hj
      refine ⟨cs, c1, c2, fun r u hu => ?_⟩
      have e := c3 r u hu
      rw [add_plain] at e
      rw [Nat.add_assoc]
      exact e

theorem trod_struct7 {P : Program} {t : TypeId} {f0 f1 f2 f3 f4 f5 f6 : Field} {fuel : Nat} {cs : List Value} {x : DataW H × List MemPlace} (ht : P.underlying t = some (.struct #[f0, f1, f2, f3, f4, f5, f6])) (h : DataW.trod enc P w base spare held fuel t cs = some x) :
    ∃ y0 y1 y2 y3 y4 y5 y6 n, x = (.agg [y0.1, y1.1, y2.1, y3.1, y4.1, y5.1, y6.1], y0.2 ++ (y1.2 ++ (y2.2 ++ (y3.2 ++ (y4.2 ++ (y5.2 ++ y6.2)))))) ∧ cs.length = P.cellsOf t ∧ DataW.trod enc P w base spare held n f0.type ((cs.drop f0.offset).take (P.cellsOf f0.type)) = some y0 ∧
      DataW.trod enc P w base spare held n f1.type ((cs.drop f1.offset).take (P.cellsOf f1.type)) = some y1 ∧ DataW.trod enc P w base spare held n f2.type ((cs.drop f2.offset).take (P.cellsOf f2.type)) = some y2 ∧
      DataW.trod enc P w base spare held n f3.type ((cs.drop f3.offset).take (P.cellsOf f3.type)) = some y3 ∧ DataW.trod enc P w base spare held n f4.type ((cs.drop f4.offset).take (P.cellsOf f4.type)) = some y4 ∧
      DataW.trod enc P w base spare held n f5.type ((cs.drop f5.offset).take (P.cellsOf f5.type)) = some y5 ∧ DataW.trod enc P w base spare held n f6.type ((cs.drop f6.offset).take (P.cellsOf f6.type)) = some y6 := by
  obtain ⟨xs, n, _, rfl, hl, hlen, hf⟩ := DataW.trod_struct ht h
  match xs, hlen with
  | [y0, y1, y2, y3, y4, y5, y6], _ => exact ⟨y0, y1, y2, y3, y4, y5, y6, n, by simp, hl, by simpa using hf 0 f0 rfl, by simpa using hf 1 f1 rfl, by simpa using hf 2 f2 rfl, by simpa using hf 3 f3 rfl, by simpa using hf 4 f4 rfl, by simpa using hf 5 f5 rfl, by simpa using hf 6 f6 rfl⟩

end

end Go.Proofs.YthpcbbkpjggjbaaDoor

namespace Go.Proofs.YthpcbbkpjggjbaaDoor
open Go.RowKit Go.ChangeShapes Go.WideShapes Go.Deep Go.Joins
set_option maxRecDepth 20000

section
variable {H : Type} {enc : TypeId × Value → H} {w : World} {base : Nat} {spare : Nat → Bool} {held : Bool}

def blobD (H : Type) (b : Blb) : DataW H := .agg [.lit (.int .i64 b.kind), .lit (.string b.bytes.data.toList)]

def wayD (H : Type) (fx mn mx bt : Int) : DataW H := .agg [.lit (.int .i64 fx), .agg [.lit (.int .i64 mn), .lit (.int .i64 mx), .lit (.int .i64 bt)]]

def WyOk (fx mn mx bt : Int) : Prop := (Lit.int .i64 fx).wf = true ∧ (Lit.int .i64 mn).wf = true ∧ (Lit.int .i64 mx).wf = true ∧ (Lit.int .i64 bt).wf = true

theorem wk_struct2 {P : Program} {t : TypeId} {f0 f1 : Field} {fuel : Nat} {cs : List Value} {x : DataW H × List MemPlace} (ht : P.underlying t = some (.struct #[f0, f1])) (h : DataW.trod enc P w base spare held fuel t cs = some x) :
    ∃ y0 y1 n, x = (.agg [y0.1, y1.1], y0.2 ++ y1.2) ∧ cs.length = P.cellsOf t ∧ DataW.trod enc P w base spare held n f0.type ((cs.drop f0.offset).take (P.cellsOf f0.type)) = some y0 ∧ DataW.trod enc P w base spare held n f1.type ((cs.drop f1.offset).take (P.cellsOf f1.type)) = some y1 := by
  obtain ⟨xs, n, _, rfl, hl, hlen, hf⟩ := DataW.trod_struct ht h
  match xs, hlen with
  | [y0, y1], _ => exact ⟨y0, y1, n, by simp, hl, by simpa using hf 0 f0 rfl, by simpa using hf 1 f1 rfl⟩

theorem wk_struct5 {P : Program} {t : TypeId} {f0 f1 f2 f3 f4 : Field} {fuel : Nat} {cs : List Value} {x : DataW H × List MemPlace} (ht : P.underlying t = some (.struct #[f0, f1, f2, f3, f4])) (h : DataW.trod enc P w base spare held fuel t cs = some x) :
    ∃ y0 y1 y2 y3 y4 n, x = (.agg [y0.1, y1.1, y2.1, y3.1, y4.1], y0.2 ++ (y1.2 ++ (y2.2 ++ (y3.2 ++ y4.2)))) ∧ cs.length = P.cellsOf t ∧ DataW.trod enc P w base spare held n f0.type ((cs.drop f0.offset).take (P.cellsOf f0.type)) = some y0 ∧
      DataW.trod enc P w base spare held n f1.type ((cs.drop f1.offset).take (P.cellsOf f1.type)) = some y1 ∧ DataW.trod enc P w base spare held n f2.type ((cs.drop f2.offset).take (P.cellsOf f2.type)) = some y2 ∧
      DataW.trod enc P w base spare held n f3.type ((cs.drop f3.offset).take (P.cellsOf f3.type)) = some y3 ∧ DataW.trod enc P w base spare held n f4.type ((cs.drop f4.offset).take (P.cellsOf f4.type)) = some y4 := by
  obtain ⟨xs, n, _, rfl, hl, hlen, hf⟩ := DataW.trod_struct ht h
  match xs, hlen with
  | [y0, y1, y2, y3, y4], _ => exact ⟨y0, y1, y2, y3, y4, n, by simp, hl, by simpa using hf 0 f0 rfl, by simpa using hf 1 f1 rfl, by simpa using hf 2 f2 rfl, by simpa using hf 3 f3 rfl, by simpa using hf 4 f4 rfl⟩

def itD (H : Type) (x : Im) : DataW H := .agg [.lit (.string x.path.data.toList), .lit (.int .i64 x.kind), .lit (.int .i64 x.mode), .lit (.int .i64 x.time), .lit (.string x.bytes.data.toList)]

theorem it_fields : ∃ f0 f1 f2 f3 f4, Tryd.prog.underlying 29 = some (.struct #[f0, f1, f2, f3, f4]) ∧ f0.type = 9 ∧ f0.offset = 0 ∧ f1.type = 3 ∧ f1.offset = 1 ∧ f2.type = 3 ∧ f2.offset = 2 ∧ f3.type = 3 ∧ f3.offset = 3 ∧ f4.type = 9 ∧ f4.offset = 4 :=
  ⟨_, _, _, _, _, Tryd.underlying29, rfl, rfl, rfl, rfl, rfl, rfl, rfl, rfl, rfl, rfl⟩

theorem ce_it : Tryd.prog.cellsOf 29 = 5 := by kernel_rfl

/-- what is sure of an item that comes in -/
def ImIn (x : Im) : Prop := (Lit.int .i64 x.kind).wf = true ∧ (Lit.int .i64 x.mode).wf = true ∧ (Lit.int .i64 x.time).wf = true

theorem open_item {n : Nat} {cs : List Value} {x : DataW H × List MemPlace} (hc : cs.length = 5) (h : DataW.trod enc Tryd.prog w base spare held n 29 cs = some x) : ∃ t : Im, (cs = imC t ∧ ImIn t) ∧ x.1 = itD H t := by
  obtain ⟨f0, f1, f2, f3, f4, hu, t0, o0, t1, o1, t2, o2, t3, o3, t4, o4⟩ := it_fields
  obtain ⟨y0, y1, y2, y3, y4, m, hx, _, g0, g1, g2, g3, g4⟩ := wk_struct5 hu h
  have ks : Tryd.prog.cellsOf 9 = 1 := by kernel_rfl
  match cs, hc with
  | [v0, v1, v2, v3, v4], _ =>
    simp only [t0, o0, t1, o1, ce_int, t2, o2, t3, o3, t4, o4, ks] at g0 g1 g2 g3 g4
    obtain ⟨b0, c0, x0, s0⟩ := DataW.trod_string Tryd.underlying9 g0
    obtain ⟨i1, c1, x1, w1⟩ := DataW.trod_int Tryd.underlying3 g1
    obtain ⟨i2, c2, x2, w2⟩ := DataW.trod_int Tryd.underlying3 g2
    obtain ⟨i3, c3, x3, w3⟩ := DataW.trod_int Tryd.underlying3 g3
    obtain ⟨b4, c4, x4, s4⟩ := DataW.trod_string Tryd.underlying9 g4
    obtain rfl : v0 = .string b0 := by simpa using c0
    obtain rfl : v1 = .int .i64 i1 := by simpa using c1
    obtain rfl : v2 = .int .i64 i2 := by simpa using c2
    obtain rfl : v3 = .int .i64 i3 := by simpa using c3
    obtain rfl : v4 = .string b4 := by simpa using c4
    exact ⟨⟨b0, i1, i2, i3, b4⟩, ⟨rfl, w1, w2, w3⟩, by rw [hx, x0, x1, x2, x3, x4]; rfl⟩

theorem open_items {fuel : Nat} {sa : Option Addr} {len cap : Nat} {x : DataW H × List MemPlace} (h : DataW.trod enc Tryd.prog w base spare held fuel 22 [.slice sa len cap] = some x) (hlt : ∀ y ∈ x.2, y.block < w.heap.size) :
    ∃ l : List Im, Ims w (.slice sa len cap) l ∧ (∀ t ∈ l, ImIn t) ∧ (l = [] ∨ ∃ elems sp, x.1 = .slice elems sp ∧ l.length = elems.length ∧ ∀ t ∈ l, itD H t ∈ elems) := by
  obtain ⟨l, hl, h1, h2, h3⟩ := open_rw (R := fun _ (t : Im) c => c = imC t ∧ ImIn t) (q := fun t d => d = itD H t) Tryd.underlying22 ce_it (by omega) (fun n cs x hc hx _ => by
    obtain ⟨t, a, b⟩ := open_item hc hx
    exact ⟨t, a, b⟩) h hlt
  have hin : ∀ t ∈ l, ImIn t := by
    obtain ⟨hat⟩ := hl
    rcases hat with ⟨_, hn⟩ | ⟨bk, o, cp, _, _, _, hc⟩
    · rw [hn]; exact fun t ht => absurd ht List.not_mem_nil
    · intro t ht
      obtain ⟨j, hj, rfl⟩ := List.getElem_of_mem ht
      obtain ⟨c, _, ⟨_, q⟩, _⟩ := hc j _ (List.getElem?_eq_getElem hj)
      exact q
  refine ⟨l, ?_, hin, h3.imp id fun ⟨elems, sp, a, b, c⟩ => ⟨elems, sp, a, b, fun t ht => ?_⟩⟩
  · obtain ⟨hat⟩ := hl
    rcases hat with ⟨⟨a, c, e⟩, hn⟩ | ⟨bk, o, cp, e, hle, hbk, hc⟩
    · cases e
      exact ⟨.inl ⟨⟨_, _, rfl⟩, hn⟩, _, _, _, rfl, h1, h2⟩
    · cases e
      refine ⟨.inr ⟨bk, o, cap, rfl, hbk, fun j t hj r u hu => ?_⟩, _, _, _, rfl, h1, h2⟩
      obtain ⟨cs, _, ⟨rfl, _⟩, q⟩ := hc j t hj
      exact q r u hu
  · obtain ⟨d, hd, rfl⟩ := c t ht
    exact hd

theorem weights_all {P : Program} {e : TypeId} : ∀ {elems : List (DataW H)} {d : DataW H}, d ∈ elems → ∀ n ∈ d.weights P e, n ∈ DataW.weightsAll P e elems
  | [], d, h, _, _ => absurd h List.not_mem_nil
  | x :: l, d, h, n, hn => by
    rw [DataW.weightsAll, List.mem_append]
    rcases List.mem_cons.1 h with rfl | h
    · exact .inl hn
    · exact .inr (weights_all h n hn)

theorem sized_items {ts : List TypeId} {ds : List (DataW H)} (h : (DataW.weightsEach Tryd.prog ts ds).all (· ≤ reachBytes) = true) {j : Nat} {l : List Im} {elems sp : List (DataW H)} (ht : ts[j]? = some 22) (hd : ds[j]? = some (.slice elems sp)) (hm : ∀ t ∈ l, itD H t ∈ elems) (hin : ∀ t ∈ l, ImIn t) : ∀ t ∈ l, t.Ok := by
  intro t htl
  obtain ⟨f0, f1, f2, f3, f4, hu, e0, _, e1, _, e2, _, e3, _, e4, _⟩ := it_fields
  have hall : ∀ n ∈ (itD H t).weights Tryd.prog 29, n ≤ reachBytes := fun n hn => by
    have := List.all_eq_true.1 h n (DataW.weights_mem_each ht hd n (by
      rw [DataW.weights, Tryd.underlying22]
      exact List.mem_cons_of_mem _ (List.mem_append_left _ (weights_all (hm t htl) n hn))))
    simpa using this
  have hp := hall t.path.data.toList.length (by simp [itD, DataW.weights, DataW.weightsEach, hu])
  have hb := hall t.bytes.data.toList.length (by simp [itD, DataW.weights, DataW.weightsEach, hu])
  simp only [reachBytes] at hp hb
  exact ⟨by rw [Lib.size_eq]; exact hp, by rw [Lib.size_eq]; exact hb, (hin t htl).2.2⟩

theorem in_bulk {elems : List (DataW H)} {d : DataW H} (h : d ∈ elems) : Rows.uptoBulk d ≤ Rows.uptoBulkAll elems := by
  induction elems with
  | nil => exact (List.not_mem_nil h).elim
  | cons e l ih =>
    rw [Rows.uptoBulkAll]
    rcases List.mem_cons.1 h with rfl | h
    · omega
    · have := ih h; omega

theorem bulk_items {l : List Im} {elems : List (DataW H)} (h : ∀ t ∈ l, itD H t ∈ elems) : ∀ x ∈ l, x.path.size ≤ Rows.uptoBulkAll elems ∧ x.bytes.size ≤ Rows.uptoBulkAll elems := fun x hx => by
  have h1 := in_bulk (h x hx)
  have h2 : x.path.data.toList.length + x.bytes.data.toList.length ≤ Rows.uptoBulk (itD H x) := by
    simp only [itD, Rows.uptoBulk, Rows.uptoBulkAll]
    omega
  rw [Lib.size_eq, Lib.size_eq]
  omega

end

end Go.Proofs.YthpcbbkpjggjbaaDoor

namespace Go.Proofs.YthpcbbkpjggjbaaDoor
open Go.RowKit Go.ChangeShapes Go.WideShapes Go.Deep Go.Joins
set_option maxRecDepth 20000

section
variable {H : Type} {enc : TypeId × Value → H} {w : World} {base : Nat} {spare : Nat → Bool} {held : Bool}

def edD (H : Type) (x : Em) : DataW H := .agg [.lit (.string x.path.data.toList), .lit (.bool x.gone), itD H x.item]

theorem ed_fields : ∃ f0 f1 f2, Tryd.prog.underlying 31 = some (.struct #[f0, f1, f2]) ∧ f0.type = 9 ∧ f0.offset = 0 ∧ f1.type = 4 ∧ f1.offset = 1 ∧ f2.type = 29 ∧ f2.offset = 2 :=
  ⟨_, _, _, Tryd.underlying31, rfl, rfl, rfl, rfl, rfl, rfl⟩

theorem ce_ed : Tryd.prog.cellsOf 31 = 7 := by kernel_rfl

/-- what is sure of an edit that comes in -/
def EmIn (x : Em) : Prop := ImIn x.item

theorem open_edit {n : Nat} {cs : List Value} {x : DataW H × List MemPlace} (hc : cs.length = 7) (h : DataW.trod enc Tryd.prog w base spare held n 31 cs = some x) : ∃ t : Em, (cs = emC t ∧ EmIn t) ∧ x.1 = edD H t := by
  obtain ⟨f0, f1, f2, hu, t0, o0, t1, o1, t2, o2⟩ := ed_fields
  obtain ⟨y0, y1, y2, m, hx, _, g0, g1, g2⟩ := trod_struct3 hu h
  have ks : Tryd.prog.cellsOf 9 = 1 := by kernel_rfl
  have kb : Tryd.prog.cellsOf 4 = 1 := by kernel_rfl
  match cs, hc with
  | [v0, v1, v2, v3, v4, v5, v6], _ =>
    simp only [t0, o0, t1, o1, t2, o2, ks, kb, ce_it] at g0 g1 g2
    have g2 : DataW.trod enc Tryd.prog w base spare held m 29 [v2, v3, v4, v5, v6] = some y2 := g2
    obtain ⟨b0, c0, x0, s0⟩ := DataW.trod_string Tryd.underlying9 g0
    obtain ⟨i1, c1, x1⟩ := DataW.trod_bool Tryd.underlying4 g1
    obtain ⟨t, ⟨c2, hin⟩, x2⟩ := open_item rfl g2
    obtain rfl : v0 = .string b0 := by simpa using c0
    obtain rfl : v1 = .bool i1 := by simpa using c1
    refine ⟨⟨b0, i1, t⟩, ⟨?_, hin⟩, ?_⟩
    · simp only [imC, List.cons.injEq, and_true] at c2
      obtain ⟨rfl, rfl, rfl, rfl, rfl⟩ := c2
      rfl
    · rw [hx, x0, x1, x2]; rfl

theorem open_eds {fuel : Nat} {sa : Option Addr} {len cap : Nat} {x : DataW H × List MemPlace} (h : DataW.trod enc Tryd.prog w base spare held fuel 23 [.slice sa len cap] = some x) (hlt : ∀ y ∈ x.2, y.block < w.heap.size) :
    ∃ l : List Em, Eds w (.slice sa len cap) l ∧ (∀ t ∈ l, EmIn t) ∧ (l = [] ∨ ∃ elems sp, x.1 = .slice elems sp ∧ l.length = elems.length ∧ ∀ t ∈ l, edD H t ∈ elems) := by
  obtain ⟨l, hl, h1, h2, h3⟩ := open_rw (R := fun _ (t : Em) c => c = emC t ∧ EmIn t) (q := fun t d => d = edD H t) Tryd.underlying23 ce_ed (by omega) (fun n cs x hc hx _ => by
    obtain ⟨t, a, b⟩ := open_edit hc hx
    exact ⟨t, a, b⟩) h hlt
  have hin : ∀ t ∈ l, EmIn t := by
    obtain ⟨hat⟩ := hl
    rcases hat with ⟨_, hn⟩ | ⟨bk, o, cp, _, _, _, hc⟩
    · rw [hn]; exact fun t ht => absurd ht List.not_mem_nil
    · intro t ht
      obtain ⟨j, hj, rfl⟩ := List.getElem_of_mem ht
      obtain ⟨c, _, ⟨_, q⟩, _⟩ := hc j _ (List.getElem?_eq_getElem hj)
      exact q
  refine ⟨l, ?_, hin, h3.imp id fun ⟨elems, sp, a, b, c⟩ => ⟨elems, sp, a, b, fun t ht => ?_⟩⟩
  · obtain ⟨hat⟩ := hl
    rcases hat with ⟨⟨a, c, e⟩, hn⟩ | ⟨bk, o, cp, e, hle, hbk, hc⟩
    · cases e
      exact ⟨.inl ⟨⟨_, _, rfl⟩, hn⟩, _, _, _, rfl, h1, h2⟩
    · cases e
      refine ⟨.inr ⟨bk, o, cap, rfl, hbk, fun j t hj r u hu => ?_⟩, _, _, _, rfl, h1, h2⟩
      obtain ⟨cs, _, ⟨rfl, _⟩, q⟩ := hc j t hj
      exact q r u hu
  · obtain ⟨d, hd, rfl⟩ := c t ht
    exact hd

theorem sized_eds {ts : List TypeId} {ds : List (DataW H)} (h : (DataW.weightsEach Tryd.prog ts ds).all (· ≤ reachBytes) = true) {j : Nat} {l : List Em} {elems sp : List (DataW H)} (ht : ts[j]? = some 23) (hd : ds[j]? = some (.slice elems sp)) (hm : ∀ t ∈ l, edD H t ∈ elems) (hin : ∀ t ∈ l, EmIn t) : ∀ t ∈ l, t.Ok := by
  intro t htl
  obtain ⟨f0, f1, f2, hu, e0, _, e1, _, e2, _⟩ := ed_fields
  obtain ⟨g0, g1, g2, g3, g4, hv, k0, _, k1, _, k2, _, k3, _, k4, _⟩ := it_fields
  have hall : ∀ n ∈ (edD H t).weights Tryd.prog 31, n ≤ reachBytes := fun n hn => by
    have := List.all_eq_true.1 h n (DataW.weights_mem_each ht hd n (by
      rw [DataW.weights, Tryd.underlying23]
      exact List.mem_cons_of_mem _ (List.mem_append_left _ (weights_all (hm t htl) n hn))))
    simpa using this
  have hp := hall t.path.data.toList.length (by simp [edD, itD, DataW.weights, DataW.weightsEach, hu])
  have hi := hall t.item.path.data.toList.length (by simp [edD, itD, DataW.weights, DataW.weightsEach, hu, e2, hv])
  have hb := hall t.item.bytes.data.toList.length (by simp [edD, itD, DataW.weights, DataW.weightsEach, hu, e2, hv])
  simp only [reachBytes] at hp hi hb
  exact ⟨by rw [Lib.size_eq]; exact hp, ⟨by rw [Lib.size_eq]; exact hi, by rw [Lib.size_eq]; exact hb, (hin t htl).2.2⟩⟩

theorem bulk_eds {l : List Em} {elems : List (DataW H)} (h : ∀ t ∈ l, edD H t ∈ elems) : ∀ x ∈ l, x.path.size ≤ Rows.uptoBulkAll elems ∧ x.item.path.size ≤ Rows.uptoBulkAll elems ∧ x.item.bytes.size ≤ Rows.uptoBulkAll elems := fun x hx => by
  have h1 := in_bulk (h x hx)
  have h2 : x.path.data.toList.length + (x.item.path.data.toList.length + x.item.bytes.data.toList.length) ≤ Rows.uptoBulk (edD H x) := by
    simp only [edD, itD, Rows.uptoBulk, Rows.uptoBulkAll]
    omega
  rw [Lib.size_eq, Lib.size_eq, Lib.size_eq]
  omega

end

end Go.Proofs.YthpcbbkpjggjbaaDoor

namespace Go.Proofs.YthpcbbkpjggjbaaDoor
open Go.RowKit

theorem first_laid : Rows.laid_unicode_utf8_first = Lib.firstData := by kernel_rfl
theorem accept_laid : (Rows.laid_unicode_utf8_acceptRanges : DataW Unit) = Lib.acceptData := by kernel_rfl
theorem laid_plain {P : Program} {l : List (String × DataW Unit)} {W : World} (h : laidMetH P l W) (hp : (l.filter fun x => x.2.handleName?.isSome) = []) : laidMet P l W := by
  unfold laidMetH at h
  rw [hp] at h
  exact h

/-- the two tables, off what the rows list -/
theorem tabs_of {W : World} (hL : laidMetH Tryd.prog Rows.deltaDiffsRow.laid W) : Tabs W := by
  have hM := laid_plain hL (by kernel_rfl)
  refine utf8Tabs_of_readsT (P := Tryd.prog) (ρ := Tryd.laysValid_ren) (U8Types.of196 Tryd.laysValid) ⟨by kernel_rfl, by kernel_rfl, by kernel_rfl, by kernel_rfl, by kernel_rfl, by kernel_rfl, by kernel_rfl⟩ ?_ ?_
  · rw [← first_laid]
    exact Lib.laidMet.reads hM (by simp [Rows.deltaDiffsRow])
  · rw [← accept_laid]
    exact Lib.laidMet.reads hM (by simp [Rows.deltaDiffsRow])
/-- a text of a list is no longer than the list's bulk -/
theorem bulk_strs {H : Type} : ∀ (l : List ByteArray), ∀ s ∈ l, s.size ≤ Rows.uptoBulkAll (ChangeShapes.strs l : List (DataW H))
  | [], s, hs => (List.not_mem_nil hs).elim
  | t :: l, s, hs => by
    show _ ≤ Rows.uptoBulkAll (DataW.lit (.string t.data.toList) :: (ChangeShapes.strs l : List (DataW H)))
    rw [Rows.uptoBulkAll, Rows.uptoBulk]
    rcases List.mem_cons.1 hs with rfl | hs
    · rw [Lib.size_eq]; omega
    · have := bulk_strs (H := H) l s hs; omega
end Go.Proofs.YthpcbbkpjggjbaaDoor
