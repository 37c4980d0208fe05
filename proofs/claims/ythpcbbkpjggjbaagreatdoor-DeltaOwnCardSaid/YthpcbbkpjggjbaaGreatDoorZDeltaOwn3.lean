/-
  What DeltaOwn leans on, part 3.
-/
import Derived.Test.YthpcbbkpjggjbaaGreatDoorZDeltaOwn2
import Derived.Deep.RegionHeld3
import Derived.Lib.SliceRun
import Derived.Laws.AppendOwnNone
import Derived.Lib.IndexBytes
import Derived.Shelf.Strconv.Itoa0
import Derived.Lib.BitFns
import Derived.Shelf.Strings.Replace
import Derived.Lib.ReplaceLaws

namespace Go.Proofs.YthpcbbkpjggjbaaGreatDoor
open Go.RowKit
set_option maxRecDepth 4000
def lenEE : Value → Nat
  | .slice _ n _ => n
  | _ => 0
abbrev sdEE : List Em → List Em → List (Option Em × Option Em) := Dl.side (fun x : Em => x.ed.path) (fun y : Em => y.ed.path)
structure SdEE (w : World) (a : List Em) (b : List Em) (p q s : Value) (W : World) (la : List Em) (lb : List Em) (done : List (Option Em × Option Em)) : Prop where
  ra : Eds w p la
  rb : Eds w q lb
  oa : ∀ x ∈ la, x.Ok
  ob : ∀ x ∈ lb, x.Ok
  row : W.ownsRow w.heap.size 76 16 s done.length (rowR eeC done)
  bel : Below w.heap.size w W
  eq : sdEE a b = done ++ sdEE la lb
  len : done.length + (la.length + lb.length) ≤ a.length + b.length
theorem info_ee : (Tryz.prog.info? 76).map (fun i => (i.zero, i.size, i.bytes)) = some (some (.agg #[.string ⟨#[]⟩, .bool false, .string ⟨#[]⟩, .int .i64 0, .int .i64 0, .int .i64 0, .string ⟨#[]⟩, .string ⟨#[]⟩, .bool false, .string ⟨#[]⟩, .int .i64 0, .int .i64 0, .int .i64 0, .string ⟨#[]⟩, .bool false, .bool false]), 16, 168) := by kernel_rfl
theorem eeC_len (z : Option Em × Option Em) : (eeC z).length = 16 := by rfl
theorem eeC_one (z : Option Em × Option Em) : ∀ u ∈ eeC z, u.oneCell' = true := prC_one emC_one emC_one z
theorem setA_ee {W : World} {b : Nat} {x0 : Em} {y0 : Em} {f g : Bool} {xp xi xb : ByteArray} {xg : Bool} {xk xm xt : Int} (h : W.heap[b]? = some (.cells (qC emC emC x0 y0 f g).toArray 76 (0, 0))) : (W.setCells b 0 (emC ⟨xp, xg, ⟨xi, xk, xm, xt, xb⟩⟩)).heap[b]? = some (.cells (qC emC emC ⟨xp, xg, ⟨xi, xk, xm, xt, xb⟩⟩ y0 f g).toArray 76 (0, 0)) := by
  exact sets_blk (post := emC y0 ++ [.bool f, .bool g]) (emC ⟨xp, xg, ⟨xi, xk, xm, xt, xb⟩⟩) [] (emC x0) W h rfl
theorem setB_ee {W : World} {b : Nat} {x0 : Em} {y0 : Em} {f g : Bool} {yp yi yb : ByteArray} {yg : Bool} {yk ym yt : Int} (h : W.heap[b]? = some (.cells (qC emC emC x0 y0 f g).toArray 76 (0, 0))) : (W.setCells b 7 (emC ⟨yp, yg, ⟨yi, yk, ym, yt, yb⟩⟩)).heap[b]? = some (.cells (qC emC emC x0 ⟨yp, yg, ⟨yi, yk, ym, yt, yb⟩⟩ f g).toArray 76 (0, 0)) := by
  exact sets_blk (post := [.bool f, .bool g]) (emC ⟨yp, yg, ⟨yi, yk, ym, yt, yb⟩⟩) (emC x0) (emC y0) W h rfl
theorem flgA_ee {W : World} {b : Nat} {x0 : Em} {y0 : Em} {f g : Bool} (h : W.heap[b]? = some (.cells (qC emC emC x0 y0 f g).toArray 76 (0, 0))) : (W.setCell ⟨b, 14, none⟩ (.bool true)).heap[b]? = some (.cells (qC emC emC x0 y0 true g).toArray 76 (0, 0)) := set_blk h 14 (.bool true)
theorem flgB_ee {W : World} {b : Nat} {x0 : Em} {y0 : Em} {f g : Bool} (h : W.heap[b]? = some (.cells (qC emC emC x0 y0 f g).toArray 76 (0, 0))) : (W.setCell ⟨b, 15, none⟩ (.bool true)).heap[b]? = some (.cells (qC emC emC x0 y0 f true).toArray 76 (0, 0)) := set_blk h 15 (.bool true)
theorem more_ee (base : Nat) (v : Value) (l : List (Option Em × Option Em)) (t : Option Em × Option Em) (w : World) (h : w.ownsRow base 76 16 v l.length (rowR eeC l)) (g : Nat) (hg : w.heap[g]? = some (.cells (eeC t).toArray 76 (0, 0)))
    (hl : l.length < 100000) (hbase : base ≤ w.heap.size) :
    ∃ v' w', (Builtin.append_ #[72, 72] 72 #[v, .slice (some ⟨g, 0, none⟩) 1 1]).run Tryz.prog w = .ok v' w' ∧ w'.ownsRow base 76 16 v' (l ++ [t]).length (rowR eeC (l ++ [t])) ∧ w.grownBy w' v.ownBlock :=
  row_more Tryz.underlying72 info_ee rfl (by decide) eeC_len eeC_one base v l t w h g hg (by omega) (by omega) hbase
set_option maxHeartbeats 16000000 in
theorem sideEE_any (va vb : Value) (a : List Em) (b : List Em) (w : World) (ha : Eds w va a) (hb : Eds w vb b) (hla : a.length + b.length ≤ 1000) (oa : ∀ x ∈ a, x.Ok) (ob : ∀ x ∈ b, x.Ok) (hT : Tabs w) :
    Calls Tryz.prog 30 #[va, vb, .func (.func 31) #[] #[]] w fun e w' => ∃ v, e = .returned v ∧ w'.ownsRow w.heap.size 76 16 v (sdEE a b).length (rowR eeC (sdEE a b)) ∧ Below w.heap.size w w' := by
  obtain ⟨sa, sc, rfl, _, _⟩ := ha.slice
  obtain ⟨sb, tc, rfl, _, _⟩ := hb.slice
  have HT : Hid (Tabs w) := hT
  have HL0 : Hid (a.length + b.length ≤ 1000) := hla
  have H0 : Hid (SdEE w a b (.slice sa a.length sc) (.slice sb b.length tc) (.slice none 0 0) w a b []) := ⟨ha, hb, oa, ob, World.ownsRow_nil _ _ _ _, Below.refl _ _, rfl, by simp⟩
  generalize hna : a.length = na at *
  generalize hnb : b.length = nb at *
  clear ha hb hla oa ob hT
  go_enter Tryz.func30, Tryz.ntmps30
  go_upto_block 0 with fail
  go_cut [0, 1, 7] from 8 to 51 (fun p q s wx => ∃ la lb done, Hid (SdEE w a b p q s wx la lb done) ∧ Hid (la = [] ∨ lb = []))
  case first =>
    go_wp2_with fail
    go_loopw [0, 1, 7] (fun p q s wr => ∃ la lb done, Hid (SdEE w a b p q s wr la lb done)) (fun p q _ _ => lenEE p + lenEE q)
    case atStart => exact ⟨a, b, [], H0⟩
    case round =>
      clear H0
      obtain ⟨la, lb, done, H⟩ := hrel
      cases la with
      | nil =>
        obtain ⟨pa, pc, rfl, _, _⟩ := H.out.ra.slice
        go_wp2_with fail
        go_meet
        exact ⟨[], lb, done, H, .inl rfl⟩
      | cons x la =>
        cases lb with
        | nil =>
          obtain ⟨pa, pc, rfl, _, _⟩ := H.out.ra.slice
          obtain ⟨qa, qc, rfl, _, _⟩ := H.out.rb.slice
          go_wp2_with fail
          go_meet
          exact ⟨x :: la, [], done, H, .inr rfl⟩
        | cons y lb =>
          obtain ⟨pa, pc, rfl, hpc1, hpc2⟩ := H.out.ra.slice
          obtain ⟨qa, qc, rfl, hqc1, hqc2⟩ := H.out.rb.slice
          obtain ⟨bk, o, rfl, hbk, hxa⟩ := H.out.ra.get 0 x rfl
          obtain ⟨bkk, oo, rfl, hbkk, hxb⟩ := H.out.rb.get 0 y rfl
          obtain ⟨va, hva⟩ : ∃ va, va = Value.slice (if pc = 1 then some ⟨bk, o, none⟩ else some ⟨bk, o + 7, none⟩) la.length (pc - 1) := ⟨_, rfl⟩
          obtain ⟨vb, hvb⟩ : ∃ vb, vb = Value.slice (if qc = 1 then some ⟨bkk, oo, none⟩ else some ⟨bkk, oo + 7, none⟩) lb.length (qc - 1) := ⟨_, rfl⟩
          have HRa : Hid (Eds w va la) := by rw [hva]; exact H.out.ra.rest
          have HRb : Hid (Eds w vb lb) := by rw [hvb]; exact H.out.rb.rest
          have HXa : Hid (∀ W, Below wr.heap.size wr W → W.rangeAt bk o (emC x)) := fun W hW r u hu => by
            have h := hxa r u hu
            rw [Nat.zero_mul, Nat.add_zero] at h
            exact ((H.out.bel.trans (hW.mono H.out.bel.size)).cell (p := ⟨bk, _, none⟩) hbk).trans h
          have HXb : Hid (∀ W, Below wr.heap.size wr W → W.rangeAt bkk oo (emC y)) := fun W hW r u hu => by
            have h := hxb r u hu
            rw [Nat.zero_mul, Nat.add_zero] at h
            exact ((H.out.bel.trans (hW.mono H.out.bel.size)).cell (p := ⟨bkk, _, none⟩) hbkk).trans h
          have HCl : Hid (∀ W, Below wr.heap.size wr W → Calls Tryz.prog 31 #[emV x, emV y] W fun e w' => e = .returned (.int .i64 (Dl.cmp x.ed.path y.ed.path)) ∧ Below W.heap.size W w') := fun W hW => cmpEE_any x y W (H.out.oa x List.mem_cons_self) (H.out.ob y List.mem_cons_self) (HT.out.below (H.out.bel.trans (hW.mono H.out.bel.size)))
          obtain ⟨n1, hn1⟩ : ∃ n, n = la.length := ⟨_, rfl⟩
          obtain ⟨n2, hn2⟩ : ∃ n, n = lb.length := ⟨_, rfl⟩
          have HN1 : Hid (n1 = la.length) := hn1
          have HN2 : Hid (n2 = lb.length) := hn2
          rw [List.length_cons, ← hn1] at hpc1 H
          rw [List.length_cons, ← hn2] at hqc1 H
          rw [← hn1] at hva
          rw [← hn2] at hvb
          rw [List.length_cons, ← hn1, List.length_cons, ← hn2]
          have HLa : Hid (lenEE va = n1) := by show _ = _; rw [hva]; rfl
          have HLb : Hid (lenEE vb = n2) := by show _ = _; rw [hvb]; rfl
          have Hva : Hid (va = Value.slice (if pc = 1 then some ⟨bk, o, none⟩ else some ⟨bk, o + 7, none⟩) n1 (pc - 1)) := hva
          have Hvb : Hid (vb = Value.slice (if qc = 1 then some ⟨bkk, oo, none⟩ else some ⟨bkk, oo + 7, none⟩) n2 (qc - 1)) := hvb
          obtain ⟨C, hC⟩ : ∃ C, C = Dl.cmp x.ed.path y.ed.path := ⟨_, rfl⟩
          rw [← hC] at HCl
          have HC3 : Hid ((C = 0 ∧ x.ed.path = y.ed.path) ∨ (C = -1 ∧ x.ed.path ≠ y.ed.path ∧ (Nn.less x.ed.path y.ed.path).1 = true) ∨ (C = 1 ∧ x.ed.path ≠ y.ed.path ∧ (Nn.less x.ed.path y.ed.path).1 = false)) := by
            show _ ∨ _
            rw [hC]
            unfold Dl.cmp
            by_cases e : x.ed.path = y.ed.path
            · rw [if_pos e]; exact .inl ⟨rfl, e⟩
            · rw [if_neg e]
              cases k : (Nn.less x.ed.path y.ed.path).1 with
              | true => exact .inr (.inl ⟨rfl, e, rfl⟩)
              | false => exact .inr (.inr ⟨rfl, e, rfl⟩)
          clear hva hvb hn1 hn2 hC hxa hxb hbk hbkk
          obtain ⟨xp, xg, ⟨xi, xk, xm, xt, xb⟩⟩ := x
          obtain ⟨yp, yg, ⟨yi, yk, ym, yt, yb⟩⟩ := y
          have hg1 : ((n1 : Int) + 1 > 0) := by omega
          have hg2 : ((n2 : Int) + 1 > 0) := by omega
          obtain ⟨W1, hW1⟩ : ∃ W1, W1 = wr.alloc (.cells #[.string ⟨#[]⟩, .bool false, .string ⟨#[]⟩, .int .i64 0, .int .i64 0, .int .i64 0, .string ⟨#[]⟩, .string ⟨#[]⟩, .bool false, .string ⟨#[]⟩, .int .i64 0, .int .i64 0, .int .i64 0, .string ⟨#[]⟩, .bool false, .bool false] 76) := ⟨_, rfl⟩
          have HBr1 : Hid (Below wr.heap.size wr W1) := by rw [hW1]; exact (Below.refl _ wr).alloc (Nat.le_refl _) _
          have HM1 : Hid (W1.heap[wr.heap.size]? = some (.cells (eeC (none, none)).toArray 76 (0, 0))) := by rw [hW1]; exact heap_alloc_new wr _
          go_upto_region 4 with fail
          rw [← hW1]
          clear hW1
          refine wp_region_rel (G := Gw) (W0 := W1) Gw.refl Gw.trans (by kernel_rfl) (by kernel_rfl) (by kernel_rfl) (Below.refl _ W1).drew ?_
          refine .inl ⟨.func (.func 31) #[] #[], fun v W hW hd => step_run (by first | rfl | simp [Region.wanted, yielded]) _ W (by clear hd; go_simp) rfl (Gw.refl _), ?_⟩
          simp only [Act.put, List.setIfInBounds_toArray, List.set_cons_zero, List.set_cons_succ]
          refine .inl ⟨.slice (some ⟨bk, o, none⟩) (n1 + 1) pc, fun v W hW hd => step_run (by first | rfl | simp [Region.wanted, yielded]) _ W (by clear hd; go_simp) rfl (Gw.refl _), ?_⟩
          simp only [Act.put, List.setIfInBounds_toArray, List.set_cons_zero, List.set_cons_succ]
          refine .inl ⟨.pointer (some ⟨bk, o, none⟩), fun v W hW hd => step_run (by first | rfl | simp [Region.wanted, yielded]) _ W (by clear hd; go_simp) rfl (Gw.refl _), ?_⟩
          simp only [Act.put, List.setIfInBounds_toArray, List.set_cons_zero, List.set_cons_succ]
          refine .inl ⟨.agg #[.string xp, .bool xg, .string xi, .int .i64 xk, .int .i64 xm, .int .i64 xt, .string xb], fun v W hW hd => step_run rfl _ W (exec_ld 30 (.tmp 24) rfl bk o rfl (emC ⟨xp, xg, ⟨xi, xk, xm, xt, xb⟩⟩) _ (HXa.out W (HBr1.out.trans (Below.mono hW HBr1.out.size))) Tryz.underlying30 rfl (by kernel_rfl)) rfl (Gw.refl _), ?_⟩
          simp only [Act.put, List.setIfInBounds_toArray, List.set_cons_zero, List.set_cons_succ]
          refine .inl ⟨.slice (some ⟨bkk, oo, none⟩) (n2 + 1) qc, fun v W hW hd => step_run (by first | rfl | simp [Region.wanted, yielded]) _ W (by clear hd; go_simp) rfl (Gw.refl _), ?_⟩
          simp only [Act.put, List.setIfInBounds_toArray, List.set_cons_zero, List.set_cons_succ]
          refine .inl ⟨.pointer (some ⟨bkk, oo, none⟩), fun v W hW hd => step_run (by first | rfl | simp [Region.wanted, yielded]) _ W (by clear hd; go_simp) rfl (Gw.refl _), ?_⟩
          simp only [Act.put, List.setIfInBounds_toArray, List.set_cons_zero, List.set_cons_succ]
          refine .inl ⟨.agg #[.string yp, .bool yg, .string yi, .int .i64 yk, .int .i64 ym, .int .i64 yt, .string yb], fun v W hW hd => step_run rfl _ W (exec_ld 30 (.tmp 27) rfl bkk oo rfl (emC ⟨yp, yg, ⟨yi, yk, ym, yt, yb⟩⟩) _ (HXb.out W (HBr1.out.trans (Below.mono hW HBr1.out.size))) Tryz.underlying30 rfl (by kernel_rfl)) rfl (Gw.refl _), ?_⟩
          simp only [Act.put, List.setIfInBounds_toArray, List.set_cons_zero, List.set_cons_succ]
          refine .inl ⟨.int .i64 C, fun v W hW hd => step_call (by first | rfl | simp [Region.wanted, yielded]) 31 #[.agg #[.string xp, .bool xg, .string xi, .int .i64 xk, .int .i64 xm, .int .i64 xt, .string xb], .agg #[.string yp, .bool yg, .string yi, .int .i64 yk, .int .i64 ym, .int .i64 yt, .string yb]] (by clear hd; go_simp) ((HCl.out W (HBr1.out.trans (Below.mono hW HBr1.out.size))).mono fun e w' h => ⟨_, h.1, rfl, h.2⟩), ?_⟩
          simp only [Act.put, List.setIfInBounds_toArray, List.set_cons_zero, List.set_cons_succ]
          refine .inl ⟨.int .i64 C, fun v W hW hd => step_run (by first | rfl | simp [Region.wanted, yielded]) _ W (by clear hd; go_simp) rfl (Gw.refl _), ?_⟩
          simp only [Act.put, List.setIfInBounds_toArray, List.set_cons_zero, List.set_cons_succ]
          intro v W2 hW2 hV
          have HB2 : Hid (Below wr.heap.size wr W2) := HBr1.out.trans (Below.mono hW2 HBr1.out.size)
          have HM2 : Hid (W2.heap[wr.heap.size]? = some (.cells (eeC (none, none)).toArray 76 (0, 0))) := (Below.block hW2 _ (Array.getElem?_eq_some_iff.1 HM1.out).1).trans HM1.out
          clear hV hW2 HM1 HBr1 HCl
          rcases HC3.out with ⟨rfl, he⟩ | ⟨rfl, hne, hls⟩ | ⟨rfl, hne, hls⟩
          · have HE : Hid ((⟨xp, xg, ⟨xi, xk, xm, xt, xb⟩⟩ : Em).ed.path = (⟨yp, yg, ⟨yi, yk, ym, yt, yb⟩⟩ : Em).ed.path) := he
            clear he HC3
            go_upto_region 6 with fail
            have HGa : Hid (∀ W, GA emC emC 76 wr.heap.size ⟨xp, xg, ⟨xi, xk, xm, xt, xb⟩⟩ W2 W → W.rangeAt bk o (emC ⟨xp, xg, ⟨xi, xk, xm, xt, xb⟩⟩)) := fun W hW => HXa.out W (HB2.out.trans (hW.kept.below HB2.out.size fun q hq e => by omega))
            refine wp_region_rel (G := GA emC emC 76 wr.heap.size ⟨xp, xg, ⟨xi, xk, xm, xt, xb⟩⟩) (W0 := W2) GA.refl GA.trans (by kernel_rfl) (by kernel_rfl) (by kernel_rfl) (GA.drew W2) ?_
            refine .inl ⟨.slice (some ⟨bk, o, none⟩) (n1 + 1) pc, fun v W hW hd => step_run (by first | rfl | simp [Region.wanted, yielded]) _ W (by clear hd; go_simp) rfl (GA.refl _), ?_⟩
            simp only [Act.put, List.setIfInBounds_toArray, List.set_cons_zero, List.set_cons_succ]
            refine .inl ⟨.pointer (some ⟨bk, o, none⟩), fun v W hW hd => step_run (by first | rfl | simp [Region.wanted, yielded]) _ W (by clear hd; go_simp) rfl (GA.refl _), ?_⟩
            simp only [Act.put, List.setIfInBounds_toArray, List.set_cons_zero, List.set_cons_succ]
            refine .inl ⟨.agg #[.string xp, .bool xg, .string xi, .int .i64 xk, .int .i64 xm, .int .i64 xt, .string xb], fun v W hW hd => step_run rfl _ W (exec_ld 30 (.tmp 33) rfl bk o rfl (emC ⟨xp, xg, ⟨xi, xk, xm, xt, xb⟩⟩) _ (HGa.out W hW) Tryz.underlying30 rfl (by kernel_rfl)) rfl (GA.refl _), ?_⟩
            simp only [Act.put, List.setIfInBounds_toArray, List.set_cons_zero, List.set_cons_succ]
            refine .inl ⟨.slice (some ⟨bk, o, none⟩) (n1 + 1) pc, fun v W hW hd => step_run (by first | rfl | simp [Region.wanted, yielded]) _ W (by clear hd; go_simp) rfl (GA.refl _), ?_⟩
            simp only [Act.put, List.setIfInBounds_toArray, List.set_cons_zero, List.set_cons_succ]
            refine .inl ⟨va, fun v W hW hd => step_run (by first | rfl | simp [Region.wanted, yielded]) _ W (by clear hd; have hv := Hva.out; have hq : ¬ ((n1 : Int) + 1 < 1) := (by omega); go_simp) rfl (GA.refl _), ?_⟩
            simp only [Act.put, List.setIfInBounds_toArray, List.set_cons_zero, List.set_cons_succ]
            refine .inl ⟨.pointer (some ⟨wr.heap.size, 0, none⟩), fun v W hW hd => step_run (by first | rfl | simp [Region.wanted, yielded]) _ W (by clear hd; go_simp) rfl (GA.refl _), ?_⟩
            simp only [Act.put, List.setIfInBounds_toArray, List.set_cons_zero, List.set_cons_succ]
            refine .inr ⟨fun _ W => ∃ f, W.heap[wr.heap.size]? = some (.cells (qC emC emC ⟨xp, xg, ⟨xi, xk, xm, xt, xb⟩⟩ (em0) f false).toArray 76 (0, 0)), fun u W W' hv hg => ?_, fun v W hW hd => ?_, ?_⟩
            · obtain ⟨f, hv⟩ := hv
              obtain ⟨x1, f1, e, _, h⟩ := hg.blk _ _ _ _ hv
              exact ⟨f1, by rw [show x1 = _ from e.elim id id] at h; exact h⟩
            · clear hd
              obtain ⟨x1, f1, _, _, hq⟩ := hW.blk em0 (em0) false false HM2.out
              exact step_still rfl (W.setCells wr.heap.size 0 (emC ⟨xp, xg, ⟨xi, xk, xm, xt, xb⟩⟩)) (exec_st 30 (.tmp 37) (.tmp 34) rfl wr.heap.size 0 #[.string xp, .bool xg, .string xi, .int .i64 xk, .int .i64 xm, .int .i64 xt, .string xb] rfl rfl (blk_there hq (Nat.le_of_ble_eq_true rfl)) (by kernel_rfl) (all_oneCell_toArray (emC_one ⟨xp, xg, ⟨xi, xk, xm, xt, xb⟩⟩))) ⟨f1, setA_ee hq⟩ ⟨(Kept.refl _ _).sets (fun e => e rfl) _ _, fun x0 y0 f g h => ⟨_, _, .inr rfl, id, setA_ee h⟩⟩
            simp only [Act.put]
            refine .inl ⟨.pointer (some ⟨wr.heap.size, 14, none⟩), fun v W hW hd => step_run (by first | rfl | simp [Region.wanted, yielded]) _ W (by clear hd; go_simp) rfl (GA.refl _), ?_⟩
            simp only [Act.put, List.setIfInBounds_toArray, List.set_cons_zero, List.set_cons_succ]
            refine .inr ⟨fun _ W => ∃ x0, W.heap[wr.heap.size]? = some (.cells (qC emC emC x0 (em0) true false).toArray 76 (0, 0)), fun u W W' hv hg => ?_, fun v W hW hd => ?_, ?_⟩
            · obtain ⟨x0, hv⟩ := hv
              obtain ⟨x1, f1, _, e, h⟩ := hg.blk _ _ _ _ hv
              exact ⟨x1, by rw [e rfl] at h; exact h⟩
            · clear hd
              obtain ⟨x1, f1, _, _, hq⟩ := hW.blk em0 (em0) false false HM2.out
              have hth := (blk_there (o := 14) (k := 1) hq (Nat.le_of_ble_eq_true rfl)) 0 (by omega)
              have hf1 := hth.2
              obtain ⟨hcv, hf2⟩ := Option.isSome_iff_exists.1 hth.1
              simp only [Nat.add_zero] at hf1 hf2
              exact step_still rfl (W.setCell ⟨wr.heap.size, 14, none⟩ (.bool true)) (by clear hW hq hth; go_simp) ⟨x1, flgA_ee hq⟩ ⟨(Kept.refl _ _).setCell (a := ⟨wr.heap.size, 14, none⟩) (fun e => e rfl) _, fun x0 y0 f g h => ⟨_, _, .inl rfl, fun _ => rfl, flgA_ee h⟩⟩
            simp only [Act.put]
            refine .inl ⟨va, fun v W hW hd => step_run (by first | rfl | simp [Region.wanted, yielded]) _ W (by clear hd; go_simp) rfl (GA.refl _), ?_⟩
            simp only [Act.put, List.setIfInBounds_toArray, List.set_cons_zero]
            intro v W3 hW3 hV
            have h6 : ∃ f, W3.heap[wr.heap.size]? = some (.cells (qC emC emC ⟨xp, xg, ⟨xi, xk, xm, xt, xb⟩⟩ (em0) f false).toArray 76 (0, 0)) := hV 6 (by decide)
            have h8 : ∃ x0, W3.heap[wr.heap.size]? = some (.cells (qC emC emC x0 (em0) true false).toArray 76 (0, 0)) := hV 8 (by decide)
            obtain ⟨f6, h6⟩ := h6
            obtain ⟨x8, h8⟩ := h8
            have HM4 : Hid (W3.heap[wr.heap.size]? = some (.cells (qC emC emC ⟨xp, xg, ⟨xi, xk, xm, xt, xb⟩⟩ (em0) true false).toArray 76 (0, 0))) := by
              show _ = _
              rw [flagA (by rfl) h6 h8] at h6
              exact h6
            have HB4 : Hid (Below wr.heap.size wr W3) := HB2.out.trans (hW3.kept.below HB2.out.size fun q hq e => by omega)
            clear hV hW3 h6 h8 HGa HM2
            have HM2 := HM4
            have HB2 := HB4
            clear HM4 HB4
            go_upto_region 8 with fail
            have HGb : Hid (∀ W, GB emC emC 76 wr.heap.size ⟨yp, yg, ⟨yi, yk, ym, yt, yb⟩⟩ W3 W → W.rangeAt bkk oo (emC ⟨yp, yg, ⟨yi, yk, ym, yt, yb⟩⟩)) := fun W hW => HXb.out W (HB2.out.trans (hW.kept.below HB2.out.size fun q hq e => by omega))
            refine wp_region_rel (G := GB emC emC 76 wr.heap.size ⟨yp, yg, ⟨yi, yk, ym, yt, yb⟩⟩) (W0 := W3) GB.refl GB.trans (by kernel_rfl) (by kernel_rfl) (by kernel_rfl) (GB.drew W3) ?_
            refine .inl ⟨.slice (some ⟨bkk, oo, none⟩) (n2 + 1) qc, fun v W hW hd => step_run (by first | rfl | simp [Region.wanted, yielded]) _ W (by clear hd; go_simp) rfl (GB.refl _), ?_⟩
            simp only [Act.put, List.setIfInBounds_toArray, List.set_cons_zero, List.set_cons_succ]
            refine .inl ⟨.pointer (some ⟨bkk, oo, none⟩), fun v W hW hd => step_run (by first | rfl | simp [Region.wanted, yielded]) _ W (by clear hd; go_simp) rfl (GB.refl _), ?_⟩
            simp only [Act.put, List.setIfInBounds_toArray, List.set_cons_zero, List.set_cons_succ]
            refine .inl ⟨.agg #[.string yp, .bool yg, .string yi, .int .i64 yk, .int .i64 ym, .int .i64 yt, .string yb], fun v W hW hd => step_run rfl _ W (exec_ld 30 (.tmp 42) rfl bkk oo rfl (emC ⟨yp, yg, ⟨yi, yk, ym, yt, yb⟩⟩) _ (HGb.out W hW) Tryz.underlying30 rfl (by kernel_rfl)) rfl (GB.refl _), ?_⟩
            simp only [Act.put, List.setIfInBounds_toArray, List.set_cons_zero, List.set_cons_succ]
            refine .inl ⟨.slice (some ⟨bkk, oo, none⟩) (n2 + 1) qc, fun v W hW hd => step_run (by first | rfl | simp [Region.wanted, yielded]) _ W (by clear hd; go_simp) rfl (GB.refl _), ?_⟩
            simp only [Act.put, List.setIfInBounds_toArray, List.set_cons_zero, List.set_cons_succ]
            refine .inl ⟨vb, fun v W hW hd => step_run (by first | rfl | simp [Region.wanted, yielded]) _ W (by clear hd; have hv := Hvb.out; have hq : ¬ ((n2 : Int) + 1 < 1) := (by omega); go_simp) rfl (GB.refl _), ?_⟩
            simp only [Act.put, List.setIfInBounds_toArray, List.set_cons_zero, List.set_cons_succ]
            refine .inl ⟨.pointer (some ⟨wr.heap.size, 7, none⟩), fun v W hW hd => step_run (by first | rfl | simp [Region.wanted, yielded]) _ W (by clear hd; go_simp) rfl (GB.refl _), ?_⟩
            simp only [Act.put, List.setIfInBounds_toArray, List.set_cons_zero, List.set_cons_succ]
            refine .inr ⟨fun _ W => ∃ g, W.heap[wr.heap.size]? = some (.cells (qC emC emC ⟨xp, xg, ⟨xi, xk, xm, xt, xb⟩⟩ ⟨yp, yg, ⟨yi, yk, ym, yt, yb⟩⟩ true g).toArray 76 (0, 0)), fun u W W' hv hg => ?_, fun v W hW hd => ?_, ?_⟩
            · obtain ⟨f, hv⟩ := hv
              obtain ⟨x1, f1, e, _, h⟩ := hg.blk _ _ _ _ hv
              exact ⟨f1, by rw [show x1 = _ from e.elim id id] at h; exact h⟩
            · clear hd
              obtain ⟨x1, f1, _, _, hq⟩ := hW.blk ⟨xp, xg, ⟨xi, xk, xm, xt, xb⟩⟩ (em0) true false HM2.out
              exact step_still rfl (W.setCells wr.heap.size 7 (emC ⟨yp, yg, ⟨yi, yk, ym, yt, yb⟩⟩)) (exec_st 30 (.tmp 46) (.tmp 43) rfl wr.heap.size 7 #[.string yp, .bool yg, .string yi, .int .i64 yk, .int .i64 ym, .int .i64 yt, .string yb] rfl rfl (blk_there hq (Nat.le_of_ble_eq_true rfl)) (by kernel_rfl) (all_oneCell_toArray (emC_one ⟨yp, yg, ⟨yi, yk, ym, yt, yb⟩⟩))) ⟨f1, setB_ee hq⟩ ⟨(Kept.refl _ _).sets (fun e => e rfl) _ _, fun x0 y0 f g h => ⟨_, _, .inr rfl, id, setB_ee h⟩⟩
            simp only [Act.put]
            refine .inl ⟨.pointer (some ⟨wr.heap.size, 15, none⟩), fun v W hW hd => step_run (by first | rfl | simp [Region.wanted, yielded]) _ W (by clear hd; go_simp) rfl (GB.refl _), ?_⟩
            simp only [Act.put, List.setIfInBounds_toArray, List.set_cons_zero, List.set_cons_succ]
            refine .inr ⟨fun _ W => ∃ y0, W.heap[wr.heap.size]? = some (.cells (qC emC emC ⟨xp, xg, ⟨xi, xk, xm, xt, xb⟩⟩ y0 true true).toArray 76 (0, 0)), fun u W W' hv hg => ?_, fun v W hW hd => ?_, ?_⟩
            · obtain ⟨x0, hv⟩ := hv
              obtain ⟨x1, f1, _, e, h⟩ := hg.blk _ _ _ _ hv
              exact ⟨x1, by rw [e rfl] at h; exact h⟩
            · clear hd
              obtain ⟨x1, f1, _, _, hq⟩ := hW.blk ⟨xp, xg, ⟨xi, xk, xm, xt, xb⟩⟩ (em0) true false HM2.out
              have hth := (blk_there (o := 15) (k := 1) hq (Nat.le_of_ble_eq_true rfl)) 0 (by omega)
              have hf1 := hth.2
              obtain ⟨hcv, hf2⟩ := Option.isSome_iff_exists.1 hth.1
              simp only [Nat.add_zero] at hf1 hf2
              exact step_still rfl (W.setCell ⟨wr.heap.size, 15, none⟩ (.bool true)) (by clear hW hq hth; go_simp) ⟨x1, flgB_ee hq⟩ ⟨(Kept.refl _ _).setCell (a := ⟨wr.heap.size, 15, none⟩) (fun e => e rfl) _, fun x0 y0 f g h => ⟨_, _, .inl rfl, fun _ => rfl, flgB_ee h⟩⟩
            simp only [Act.put]
            refine .inl ⟨vb, fun v W hW hd => step_run (by first | rfl | simp [Region.wanted, yielded]) _ W (by clear hd; go_simp) rfl (GB.refl _), ?_⟩
            simp only [Act.put, List.setIfInBounds_toArray, List.set_cons_zero, List.set_cons_succ]
            intro v W4 hW3 hV
            have h6 : ∃ g, W4.heap[wr.heap.size]? = some (.cells (qC emC emC ⟨xp, xg, ⟨xi, xk, xm, xt, xb⟩⟩ ⟨yp, yg, ⟨yi, yk, ym, yt, yb⟩⟩ true g).toArray 76 (0, 0)) := hV 6 (by decide)
            have h8 : ∃ y0, W4.heap[wr.heap.size]? = some (.cells (qC emC emC ⟨xp, xg, ⟨xi, xk, xm, xt, xb⟩⟩ y0 true true).toArray 76 (0, 0)) := hV 8 (by decide)
            obtain ⟨f6, h6⟩ := h6
            obtain ⟨x8, h8⟩ := h8
            have HM4 : Hid (W4.heap[wr.heap.size]? = some (.cells (qC emC emC ⟨xp, xg, ⟨xi, xk, xm, xt, xb⟩⟩ ⟨yp, yg, ⟨yi, yk, ym, yt, yb⟩⟩ true true).toArray 76 (0, 0))) := by
              show _ = _
              rw [flagB (by rfl) h6 h8] at h6
              exact h6
            have HB4 : Hid (Below wr.heap.size wr W4) := HB2.out.trans (hW3.kept.below HB2.out.size fun q hq e => by omega)
            clear hV hW3 h6 h8 HGb HM2
            have HZ : Hid (W4.heap.size = W4.heap.size) := rfl
            obtain ⟨s2, W6, hr6, ho6, hg6⟩ := more_ee w.heap.size u7 done ((some ⟨xp, xg, ⟨xi, xk, xm, xt, xb⟩⟩, some ⟨yp, yg, ⟨yi, yk, ym, yt, yb⟩⟩) : Option Em × Option Em) (W4.alloc (.cells #[.string xp, .bool xg, .string xi, .int .i64 xk, .int .i64 xm, .int .i64 xt, .string xb, .string yp, .bool yg, .string yi, .int .i64 yk, .int .i64 ym, .int .i64 yt, .string yb, .bool true, .bool true] 76)) ((own_below H.out.row HB4.out).alloc _) W4.heap.size (heap_alloc_new W4 _) (by have := HL0.out; have := H.out.len; have := HN1.out; have := HN2.out; simp only [List.length_cons] at *; omega) (by have := H.out.bel.size; have := HB4.out.size; simp; omega)
            have HO6 : Hid (W6.ownsRow w.heap.size 76 16 s2 (done ++ [((some ⟨xp, xg, ⟨xi, xk, xm, xt, xb⟩⟩, some ⟨yp, yg, ⟨yi, yk, ym, yt, yb⟩⟩) : Option Em × Option Em)]).length (rowR eeC (done ++ [((some ⟨xp, xg, ⟨xi, xk, xm, xt, xb⟩⟩, some ⟨yp, yg, ⟨yi, yk, ym, yt, yb⟩⟩) : Option Em × Option Em)]))) := ho6
            have HB6 : Hid (Below w.heap.size w W6) := ((H.out.bel.trans (HB4.out.mono H.out.bel.size)).alloc (Nat.le_trans H.out.bel.size HB4.out.size) _).grown hg6 (by have := H.out.bel.size; have := HB4.out.size; simp; omega) fun g hg => (H.out.row.lt g hg).1
            have hrg := blk_range HM4.out
            clear ho6 hg6 HZ
            go_upto_region 9 with fail
            refine wp_region_lit ?_
            refine wpList_plain rfl fun C hC => ?_
            go_simp
            refine hC _ _ ?_
            clear hC C
            refine wpList_load_mid rfl 76 (.tmp 8) rfl wr.heap.size 0 rfl [.string xp, .bool xg, .string xi, .int .i64 xk, .int .i64 xm, .int .i64 xt, .string xb, .string yp, .bool yg, .string yi, .int .i64 yk, .int .i64 ym, .int .i64 yt, .string yb, .bool true, .bool true] _ hrg Tryz.underlying76 rfl (by kernel_rfl) ?_
            refine wpList_plain rfl fun C hC => ?_
            go_simp
            refine hC _ _ ?_
            clear hC C
            refine wpL_append_run rfl (.tmp 48) (.tmp 50) 72 72 rfl rfl _ _ s2 W6 rfl rfl hr6 ?_
            refine wpList_plain rfl fun C hC => ?_
            go_simp
            refine hC _ _ ?_
            clear hC C hr6 hrg HM4
            go_wp2_with fail
            go_roundw
            case rel => exact ⟨la, lb, done ++ [((some ⟨xp, xg, ⟨xi, xk, xm, xt, xb⟩⟩, some ⟨yp, yg, ⟨yi, yk, ym, yt, yb⟩⟩) : Option Em × Option Em)], ⟨HRa.out, HRb.out, (fun q hq => H.out.oa q (List.mem_cons_of_mem _ hq)), (fun q hq => H.out.ob q (List.mem_cons_of_mem _ hq)), HO6.out, HB6.out, by rw [H.out.eq]; exact (congrArg (done ++ ·) (Dl.side_eq (f := fun x : Em => x.ed.path) (g := fun y : Em => y.ed.path) HE.out la lb)).trans (by simp), by have := H.out.len; simp only [List.length_append, List.length_cons, List.length_nil] at *; omega⟩⟩
            case measure => have q1 := HLa.out; have q2 := HLb.out; have q3 := HN1.out; have q4 := HN2.out; (try rw [q1]); (try rw [q2]); simp only [lenEE]; omega
          · have HE : Hid ((⟨xp, xg, ⟨xi, xk, xm, xt, xb⟩⟩ : Em).ed.path ≠ (⟨yp, yg, ⟨yi, yk, ym, yt, yb⟩⟩ : Em).ed.path) := hne
            have HE2 : Hid ((Nn.less (⟨xp, xg, ⟨xi, xk, xm, xt, xb⟩⟩ : Em).ed.path (⟨yp, yg, ⟨yi, yk, ym, yt, yb⟩⟩ : Em).ed.path).1 = true) := hls
            clear hne hls HC3
            go_upto_region 6 with fail
            have HGa : Hid (∀ W, GA emC emC 76 wr.heap.size ⟨xp, xg, ⟨xi, xk, xm, xt, xb⟩⟩ W2 W → W.rangeAt bk o (emC ⟨xp, xg, ⟨xi, xk, xm, xt, xb⟩⟩)) := fun W hW => HXa.out W (HB2.out.trans (hW.kept.below HB2.out.size fun q hq e => by omega))
            refine wp_region_rel (G := GA emC emC 76 wr.heap.size ⟨xp, xg, ⟨xi, xk, xm, xt, xb⟩⟩) (W0 := W2) GA.refl GA.trans (by kernel_rfl) (by kernel_rfl) (by kernel_rfl) (GA.drew W2) ?_
            refine .inl ⟨.slice (some ⟨bk, o, none⟩) (n1 + 1) pc, fun v W hW hd => step_run (by first | rfl | simp [Region.wanted, yielded]) _ W (by clear hd; go_simp) rfl (GA.refl _), ?_⟩
            simp only [Act.put, List.setIfInBounds_toArray, List.set_cons_zero, List.set_cons_succ]
            refine .inl ⟨.pointer (some ⟨bk, o, none⟩), fun v W hW hd => step_run (by first | rfl | simp [Region.wanted, yielded]) _ W (by clear hd; go_simp) rfl (GA.refl _), ?_⟩
            simp only [Act.put, List.setIfInBounds_toArray, List.set_cons_zero, List.set_cons_succ]
            refine .inl ⟨.agg #[.string xp, .bool xg, .string xi, .int .i64 xk, .int .i64 xm, .int .i64 xt, .string xb], fun v W hW hd => step_run rfl _ W (exec_ld 30 (.tmp 33) rfl bk o rfl (emC ⟨xp, xg, ⟨xi, xk, xm, xt, xb⟩⟩) _ (HGa.out W hW) Tryz.underlying30 rfl (by kernel_rfl)) rfl (GA.refl _), ?_⟩
            simp only [Act.put, List.setIfInBounds_toArray, List.set_cons_zero, List.set_cons_succ]
            refine .inl ⟨.slice (some ⟨bk, o, none⟩) (n1 + 1) pc, fun v W hW hd => step_run (by first | rfl | simp [Region.wanted, yielded]) _ W (by clear hd; go_simp) rfl (GA.refl _), ?_⟩
            simp only [Act.put, List.setIfInBounds_toArray, List.set_cons_zero, List.set_cons_succ]
            refine .inl ⟨va, fun v W hW hd => step_run (by first | rfl | simp [Region.wanted, yielded]) _ W (by clear hd; have hv := Hva.out; have hq : ¬ ((n1 : Int) + 1 < 1) := (by omega); go_simp) rfl (GA.refl _), ?_⟩
            simp only [Act.put, List.setIfInBounds_toArray, List.set_cons_zero, List.set_cons_succ]
            refine .inl ⟨.pointer (some ⟨wr.heap.size, 0, none⟩), fun v W hW hd => step_run (by first | rfl | simp [Region.wanted, yielded]) _ W (by clear hd; go_simp) rfl (GA.refl _), ?_⟩
            simp only [Act.put, List.setIfInBounds_toArray, List.set_cons_zero, List.set_cons_succ]
            refine .inr ⟨fun _ W => ∃ f, W.heap[wr.heap.size]? = some (.cells (qC emC emC ⟨xp, xg, ⟨xi, xk, xm, xt, xb⟩⟩ (em0) f false).toArray 76 (0, 0)), fun u W W' hv hg => ?_, fun v W hW hd => ?_, ?_⟩
            · obtain ⟨f, hv⟩ := hv
              obtain ⟨x1, f1, e, _, h⟩ := hg.blk _ _ _ _ hv
              exact ⟨f1, by rw [show x1 = _ from e.elim id id] at h; exact h⟩
            · clear hd
              obtain ⟨x1, f1, _, _, hq⟩ := hW.blk em0 (em0) false false HM2.out
              exact step_still rfl (W.setCells wr.heap.size 0 (emC ⟨xp, xg, ⟨xi, xk, xm, xt, xb⟩⟩)) (exec_st 30 (.tmp 37) (.tmp 34) rfl wr.heap.size 0 #[.string xp, .bool xg, .string xi, .int .i64 xk, .int .i64 xm, .int .i64 xt, .string xb] rfl rfl (blk_there hq (Nat.le_of_ble_eq_true rfl)) (by kernel_rfl) (all_oneCell_toArray (emC_one ⟨xp, xg, ⟨xi, xk, xm, xt, xb⟩⟩))) ⟨f1, setA_ee hq⟩ ⟨(Kept.refl _ _).sets (fun e => e rfl) _ _, fun x0 y0 f g h => ⟨_, _, .inr rfl, id, setA_ee h⟩⟩
            simp only [Act.put]
            refine .inl ⟨.pointer (some ⟨wr.heap.size, 14, none⟩), fun v W hW hd => step_run (by first | rfl | simp [Region.wanted, yielded]) _ W (by clear hd; go_simp) rfl (GA.refl _), ?_⟩
            simp only [Act.put, List.setIfInBounds_toArray, List.set_cons_zero, List.set_cons_succ]
            refine .inr ⟨fun _ W => ∃ x0, W.heap[wr.heap.size]? = some (.cells (qC emC emC x0 (em0) true false).toArray 76 (0, 0)), fun u W W' hv hg => ?_, fun v W hW hd => ?_, ?_⟩
            · obtain ⟨x0, hv⟩ := hv
              obtain ⟨x1, f1, _, e, h⟩ := hg.blk _ _ _ _ hv
              exact ⟨x1, by rw [e rfl] at h; exact h⟩
            · clear hd
              obtain ⟨x1, f1, _, _, hq⟩ := hW.blk em0 (em0) false false HM2.out
              have hth := (blk_there (o := 14) (k := 1) hq (Nat.le_of_ble_eq_true rfl)) 0 (by omega)
              have hf1 := hth.2
              obtain ⟨hcv, hf2⟩ := Option.isSome_iff_exists.1 hth.1
              simp only [Nat.add_zero] at hf1 hf2
              exact step_still rfl (W.setCell ⟨wr.heap.size, 14, none⟩ (.bool true)) (by clear hW hq hth; go_simp) ⟨x1, flgA_ee hq⟩ ⟨(Kept.refl _ _).setCell (a := ⟨wr.heap.size, 14, none⟩) (fun e => e rfl) _, fun x0 y0 f g h => ⟨_, _, .inl rfl, fun _ => rfl, flgA_ee h⟩⟩
            simp only [Act.put]
            refine .inl ⟨va, fun v W hW hd => step_run (by first | rfl | simp [Region.wanted, yielded]) _ W (by clear hd; go_simp) rfl (GA.refl _), ?_⟩
            simp only [Act.put, List.setIfInBounds_toArray, List.set_cons_zero]
            intro v W3 hW3 hV
            have h6 : ∃ f, W3.heap[wr.heap.size]? = some (.cells (qC emC emC ⟨xp, xg, ⟨xi, xk, xm, xt, xb⟩⟩ (em0) f false).toArray 76 (0, 0)) := hV 6 (by decide)
            have h8 : ∃ x0, W3.heap[wr.heap.size]? = some (.cells (qC emC emC x0 (em0) true false).toArray 76 (0, 0)) := hV 8 (by decide)
            obtain ⟨f6, h6⟩ := h6
            obtain ⟨x8, h8⟩ := h8
            have HM4 : Hid (W3.heap[wr.heap.size]? = some (.cells (qC emC emC ⟨xp, xg, ⟨xi, xk, xm, xt, xb⟩⟩ (em0) true false).toArray 76 (0, 0))) := by
              show _ = _
              rw [flagA (by rfl) h6 h8] at h6
              exact h6
            have HB4 : Hid (Below wr.heap.size wr W3) := HB2.out.trans (hW3.kept.below HB2.out.size fun q hq e => by omega)
            clear hV hW3 h6 h8 HGa HM2
            have HZ : Hid (W3.heap.size = W3.heap.size) := rfl
            obtain ⟨s2, W6, hr6, ho6, hg6⟩ := more_ee w.heap.size u7 done ((some ⟨xp, xg, ⟨xi, xk, xm, xt, xb⟩⟩, none) : Option Em × Option Em) (W3.alloc (.cells #[.string xp, .bool xg, .string xi, .int .i64 xk, .int .i64 xm, .int .i64 xt, .string xb, .string ⟨#[]⟩, .bool false, .string ⟨#[]⟩, .int .i64 0, .int .i64 0, .int .i64 0, .string ⟨#[]⟩, .bool true, .bool false] 76)) ((own_below H.out.row HB4.out).alloc _) W3.heap.size (heap_alloc_new W3 _) (by have := HL0.out; have := H.out.len; have := HN1.out; have := HN2.out; simp only [List.length_cons] at *; omega) (by have := H.out.bel.size; have := HB4.out.size; simp; omega)
            have HO6 : Hid (W6.ownsRow w.heap.size 76 16 s2 (done ++ [((some ⟨xp, xg, ⟨xi, xk, xm, xt, xb⟩⟩, none) : Option Em × Option Em)]).length (rowR eeC (done ++ [((some ⟨xp, xg, ⟨xi, xk, xm, xt, xb⟩⟩, none) : Option Em × Option Em)]))) := ho6
            have HB6 : Hid (Below w.heap.size w W6) := ((H.out.bel.trans (HB4.out.mono H.out.bel.size)).alloc (Nat.le_trans H.out.bel.size HB4.out.size) _).grown hg6 (by have := H.out.bel.size; have := HB4.out.size; simp; omega) fun g hg => (H.out.row.lt g hg).1
            have hrg := blk_range HM4.out
            clear ho6 hg6 HZ
            go_upto_region 9 with fail
            refine wp_region_lit ?_
            refine wpList_plain rfl fun C hC => ?_
            go_simp
            refine hC _ _ ?_
            clear hC C
            refine wpList_load_mid rfl 76 (.tmp 8) rfl wr.heap.size 0 rfl [.string xp, .bool xg, .string xi, .int .i64 xk, .int .i64 xm, .int .i64 xt, .string xb, .string ⟨#[]⟩, .bool false, .string ⟨#[]⟩, .int .i64 0, .int .i64 0, .int .i64 0, .string ⟨#[]⟩, .bool true, .bool false] _ hrg Tryz.underlying76 rfl (by kernel_rfl) ?_
            refine wpList_plain rfl fun C hC => ?_
            go_simp
            refine hC _ _ ?_
            clear hC C
            refine wpL_append_run rfl (.tmp 48) (.tmp 50) 72 72 rfl rfl _ _ s2 W6 rfl rfl hr6 ?_
            refine wpList_plain rfl fun C hC => ?_
            go_simp
            refine hC _ _ ?_
            clear hC C hr6 hrg HM4
            go_wp2_with fail
            go_roundw
            case rel => exact ⟨la, ⟨yp, yg, ⟨yi, yk, ym, yt, yb⟩⟩ :: lb, done ++ [((some ⟨xp, xg, ⟨xi, xk, xm, xt, xb⟩⟩, none) : Option Em × Option Em)], ⟨HRa.out, H.out.rb, (fun q hq => H.out.oa q (List.mem_cons_of_mem _ hq)), H.out.ob, HO6.out, HB6.out, by rw [H.out.eq]; exact (congrArg (done ++ ·) (Dl.side_lt (f := fun x : Em => x.ed.path) (g := fun y : Em => y.ed.path) HE.out HE2.out la lb)).trans (by simp), by have := H.out.len; simp only [List.length_append, List.length_cons, List.length_nil] at *; omega⟩⟩
            case measure => have q1 := HLa.out; have q2 := HLb.out; have q3 := HN1.out; have q4 := HN2.out; (try rw [q1]); (try rw [q2]); simp only [lenEE]; omega
          · have HE : Hid ((⟨xp, xg, ⟨xi, xk, xm, xt, xb⟩⟩ : Em).ed.path ≠ (⟨yp, yg, ⟨yi, yk, ym, yt, yb⟩⟩ : Em).ed.path) := hne
            have HE2 : Hid ((Nn.less (⟨xp, xg, ⟨xi, xk, xm, xt, xb⟩⟩ : Em).ed.path (⟨yp, yg, ⟨yi, yk, ym, yt, yb⟩⟩ : Em).ed.path).1 = false) := hls
            clear hne hls HC3
            go_upto_region 8 with fail
            have HGb : Hid (∀ W, GB emC emC 76 wr.heap.size ⟨yp, yg, ⟨yi, yk, ym, yt, yb⟩⟩ W2 W → W.rangeAt bkk oo (emC ⟨yp, yg, ⟨yi, yk, ym, yt, yb⟩⟩)) := fun W hW => HXb.out W (HB2.out.trans (hW.kept.below HB2.out.size fun q hq e => by omega))
            refine wp_region_rel (G := GB emC emC 76 wr.heap.size ⟨yp, yg, ⟨yi, yk, ym, yt, yb⟩⟩) (W0 := W2) GB.refl GB.trans (by kernel_rfl) (by kernel_rfl) (by kernel_rfl) (GB.drew W2) ?_
            refine .inl ⟨.slice (some ⟨bkk, oo, none⟩) (n2 + 1) qc, fun v W hW hd => step_run (by first | rfl | simp [Region.wanted, yielded]) _ W (by clear hd; go_simp) rfl (GB.refl _), ?_⟩
            simp only [Act.put, List.setIfInBounds_toArray, List.set_cons_zero, List.set_cons_succ]
            refine .inl ⟨.pointer (some ⟨bkk, oo, none⟩), fun v W hW hd => step_run (by first | rfl | simp [Region.wanted, yielded]) _ W (by clear hd; go_simp) rfl (GB.refl _), ?_⟩
            simp only [Act.put, List.setIfInBounds_toArray, List.set_cons_zero, List.set_cons_succ]
            refine .inl ⟨.agg #[.string yp, .bool yg, .string yi, .int .i64 yk, .int .i64 ym, .int .i64 yt, .string yb], fun v W hW hd => step_run rfl _ W (exec_ld 30 (.tmp 42) rfl bkk oo rfl (emC ⟨yp, yg, ⟨yi, yk, ym, yt, yb⟩⟩) _ (HGb.out W hW) Tryz.underlying30 rfl (by kernel_rfl)) rfl (GB.refl _), ?_⟩
            simp only [Act.put, List.setIfInBounds_toArray, List.set_cons_zero, List.set_cons_succ]
            refine .inl ⟨.slice (some ⟨bkk, oo, none⟩) (n2 + 1) qc, fun v W hW hd => step_run (by first | rfl | simp [Region.wanted, yielded]) _ W (by clear hd; go_simp) rfl (GB.refl _), ?_⟩
            simp only [Act.put, List.setIfInBounds_toArray, List.set_cons_zero, List.set_cons_succ]
            refine .inl ⟨vb, fun v W hW hd => step_run (by first | rfl | simp [Region.wanted, yielded]) _ W (by clear hd; have hv := Hvb.out; have hq : ¬ ((n2 : Int) + 1 < 1) := (by omega); go_simp) rfl (GB.refl _), ?_⟩
            simp only [Act.put, List.setIfInBounds_toArray, List.set_cons_zero, List.set_cons_succ]
            refine .inl ⟨.pointer (some ⟨wr.heap.size, 7, none⟩), fun v W hW hd => step_run (by first | rfl | simp [Region.wanted, yielded]) _ W (by clear hd; go_simp) rfl (GB.refl _), ?_⟩
            simp only [Act.put, List.setIfInBounds_toArray, List.set_cons_zero, List.set_cons_succ]
            refine .inr ⟨fun _ W => ∃ g, W.heap[wr.heap.size]? = some (.cells (qC emC emC em0 ⟨yp, yg, ⟨yi, yk, ym, yt, yb⟩⟩ false g).toArray 76 (0, 0)), fun u W W' hv hg => ?_, fun v W hW hd => ?_, ?_⟩
            · obtain ⟨f, hv⟩ := hv
              obtain ⟨x1, f1, e, _, h⟩ := hg.blk _ _ _ _ hv
              exact ⟨f1, by rw [show x1 = _ from e.elim id id] at h; exact h⟩
            · clear hd
              obtain ⟨x1, f1, _, _, hq⟩ := hW.blk em0 (em0) false false HM2.out
              exact step_still rfl (W.setCells wr.heap.size 7 (emC ⟨yp, yg, ⟨yi, yk, ym, yt, yb⟩⟩)) (exec_st 30 (.tmp 46) (.tmp 43) rfl wr.heap.size 7 #[.string yp, .bool yg, .string yi, .int .i64 yk, .int .i64 ym, .int .i64 yt, .string yb] rfl rfl (blk_there hq (Nat.le_of_ble_eq_true rfl)) (by kernel_rfl) (all_oneCell_toArray (emC_one ⟨yp, yg, ⟨yi, yk, ym, yt, yb⟩⟩))) ⟨f1, setB_ee hq⟩ ⟨(Kept.refl _ _).sets (fun e => e rfl) _ _, fun x0 y0 f g h => ⟨_, _, .inr rfl, id, setB_ee h⟩⟩
            simp only [Act.put]
            refine .inl ⟨.pointer (some ⟨wr.heap.size, 15, none⟩), fun v W hW hd => step_run (by first | rfl | simp [Region.wanted, yielded]) _ W (by clear hd; go_simp) rfl (GB.refl _), ?_⟩
            simp only [Act.put, List.setIfInBounds_toArray, List.set_cons_zero, List.set_cons_succ]
            refine .inr ⟨fun _ W => ∃ y0, W.heap[wr.heap.size]? = some (.cells (qC emC emC em0 y0 false true).toArray 76 (0, 0)), fun u W W' hv hg => ?_, fun v W hW hd => ?_, ?_⟩
            · obtain ⟨x0, hv⟩ := hv
              obtain ⟨x1, f1, _, e, h⟩ := hg.blk _ _ _ _ hv
              exact ⟨x1, by rw [e rfl] at h; exact h⟩
            · clear hd
              obtain ⟨x1, f1, _, _, hq⟩ := hW.blk em0 (em0) false false HM2.out
              have hth := (blk_there (o := 15) (k := 1) hq (Nat.le_of_ble_eq_true rfl)) 0 (by omega)
              have hf1 := hth.2
              obtain ⟨hcv, hf2⟩ := Option.isSome_iff_exists.1 hth.1
              simp only [Nat.add_zero] at hf1 hf2
              exact step_still rfl (W.setCell ⟨wr.heap.size, 15, none⟩ (.bool true)) (by clear hW hq hth; go_simp) ⟨x1, flgB_ee hq⟩ ⟨(Kept.refl _ _).setCell (a := ⟨wr.heap.size, 15, none⟩) (fun e => e rfl) _, fun x0 y0 f g h => ⟨_, _, .inl rfl, fun _ => rfl, flgB_ee h⟩⟩
            simp only [Act.put]
            refine .inl ⟨vb, fun v W hW hd => step_run (by first | rfl | simp [Region.wanted, yielded]) _ W (by clear hd; go_simp) rfl (GB.refl _), ?_⟩
            simp only [Act.put, List.setIfInBounds_toArray, List.set_cons_zero, List.set_cons_succ]
            intro v W3 hW3 hV
            have h6 : ∃ g, W3.heap[wr.heap.size]? = some (.cells (qC emC emC em0 ⟨yp, yg, ⟨yi, yk, ym, yt, yb⟩⟩ false g).toArray 76 (0, 0)) := hV 6 (by decide)
            have h8 : ∃ y0, W3.heap[wr.heap.size]? = some (.cells (qC emC emC em0 y0 false true).toArray 76 (0, 0)) := hV 8 (by decide)
            obtain ⟨f6, h6⟩ := h6
            obtain ⟨x8, h8⟩ := h8
            have HM4 : Hid (W3.heap[wr.heap.size]? = some (.cells (qC emC emC em0 ⟨yp, yg, ⟨yi, yk, ym, yt, yb⟩⟩ false true).toArray 76 (0, 0))) := by
              show _ = _
              rw [flagB (by rfl) h6 h8] at h6
              exact h6
            have HB4 : Hid (Below wr.heap.size wr W3) := HB2.out.trans (hW3.kept.below HB2.out.size fun q hq e => by omega)
            clear hV hW3 h6 h8 HGb HM2
            have HZ : Hid (W3.heap.size = W3.heap.size) := rfl
            obtain ⟨s2, W6, hr6, ho6, hg6⟩ := more_ee w.heap.size u7 done ((none, some ⟨yp, yg, ⟨yi, yk, ym, yt, yb⟩⟩) : Option Em × Option Em) (W3.alloc (.cells #[.string ⟨#[]⟩, .bool false, .string ⟨#[]⟩, .int .i64 0, .int .i64 0, .int .i64 0, .string ⟨#[]⟩, .string yp, .bool yg, .string yi, .int .i64 yk, .int .i64 ym, .int .i64 yt, .string yb, .bool false, .bool true] 76)) ((own_below H.out.row HB4.out).alloc _) W3.heap.size (heap_alloc_new W3 _) (by have := HL0.out; have := H.out.len; have := HN1.out; have := HN2.out; simp only [List.length_cons] at *; omega) (by have := H.out.bel.size; have := HB4.out.size; simp; omega)
            have HO6 : Hid (W6.ownsRow w.heap.size 76 16 s2 (done ++ [((none, some ⟨yp, yg, ⟨yi, yk, ym, yt, yb⟩⟩) : Option Em × Option Em)]).length (rowR eeC (done ++ [((none, some ⟨yp, yg, ⟨yi, yk, ym, yt, yb⟩⟩) : Option Em × Option Em)]))) := ho6
            have HB6 : Hid (Below w.heap.size w W6) := ((H.out.bel.trans (HB4.out.mono H.out.bel.size)).alloc (Nat.le_trans H.out.bel.size HB4.out.size) _).grown hg6 (by have := H.out.bel.size; have := HB4.out.size; simp; omega) fun g hg => (H.out.row.lt g hg).1
            have hrg := blk_range HM4.out
            clear ho6 hg6 HZ
            go_upto_region 9 with fail
            refine wp_region_lit ?_
            refine wpList_plain rfl fun C hC => ?_
            go_simp
            refine hC _ _ ?_
            clear hC C
            refine wpList_load_mid rfl 76 (.tmp 8) rfl wr.heap.size 0 rfl [.string ⟨#[]⟩, .bool false, .string ⟨#[]⟩, .int .i64 0, .int .i64 0, .int .i64 0, .string ⟨#[]⟩, .string yp, .bool yg, .string yi, .int .i64 yk, .int .i64 ym, .int .i64 yt, .string yb, .bool false, .bool true] _ hrg Tryz.underlying76 rfl (by kernel_rfl) ?_
            refine wpList_plain rfl fun C hC => ?_
            go_simp
            refine hC _ _ ?_
            clear hC C
            refine wpL_append_run rfl (.tmp 48) (.tmp 50) 72 72 rfl rfl _ _ s2 W6 rfl rfl hr6 ?_
            refine wpList_plain rfl fun C hC => ?_
            go_simp
            refine hC _ _ ?_
            clear hC C hr6 hrg HM4
            go_wp2_with fail
            go_roundw
            case rel => exact ⟨⟨xp, xg, ⟨xi, xk, xm, xt, xb⟩⟩ :: la, lb, done ++ [((none, some ⟨yp, yg, ⟨yi, yk, ym, yt, yb⟩⟩) : Option Em × Option Em)], ⟨H.out.ra, HRb.out, H.out.oa, (fun q hq => H.out.ob q (List.mem_cons_of_mem _ hq)), HO6.out, HB6.out, by rw [H.out.eq]; exact (congrArg (done ++ ·) (Dl.side_gt (f := fun x : Em => x.ed.path) (g := fun y : Em => y.ed.path) HE.out HE2.out la lb)).trans (by simp), by have := H.out.len; simp only [List.length_append, List.length_cons, List.length_nil] at *; omega⟩⟩
            case measure => have q1 := HLa.out; have q2 := HLb.out; have q3 := HN1.out; have q4 := HN2.out; (try rw [q1]); (try rw [q2]); simp only [lenEE]; omega
  case rest =>
    obtain ⟨la, lb, done, H, HE⟩ := hcut
    obtain ⟨pa, pc, rfl, hpc1, hpc2⟩ := H.out.ra.slice
    obtain ⟨qa, qc, rfl, hqc1, hqc2⟩ := H.out.rb.slice
    obtain ⟨n1, hn1⟩ : ∃ n, n = la.length := ⟨_, rfl⟩
    obtain ⟨n2, hn2⟩ : ∃ n, n = lb.length := ⟨_, rfl⟩
    have HN1 : Hid (n1 = la.length) := hn1
    have HN2 : Hid (n2 = lb.length) := hn2
    have HLn : Hid (done.length + (la.length + lb.length) ≤ na + nb) := by have := H.out.len; show _ ≤ _; omega
    have HF : Hid (sdEE a b = (done ++ la.map (fun x : Em => ((some x, none) : Option Em × Option Em))) ++ lb.map (fun y : Em => ((none, some y) : Option Em × Option Em))) := by
      show _ = _
      rw [H.out.eq]
      rcases HE.out with e | e
      · subst e
        exact (congrArg (done ++ ·) (Dl.side_nil lb)).trans (by simp)
      · subst e
        exact (congrArg (done ++ ·) (Dl.side_nil2 la)).trans (by simp)
    rw [← hn1] at hpc1 H ⊢
    rw [← hn2] at hqc1 H ⊢
    clear hn1 hn2 HE
    go_wp2_with fail
    go_loopw [7, 54] (fun s i wr => ∃ k : Nat, k ≤ n1 ∧ i = .int .i64 k ∧ Hid (wr.ownsRow w.heap.size 76 16 s (done ++ (la.take k).map (fun x : Em => ((some x, none) : Option Em × Option Em))).length (rowR eeC (done ++ (la.take k).map (fun x : Em => ((some x, none) : Option Em × Option Em))))) ∧ Hid (Below w.heap.size w wr)) (fun _ i _ => n1 - (intOf i).toNat)
    case atStart => exact ⟨0, by omega, rfl, by show World.ownsRow _ _ _ _ _ _ _; simpa using H.out.row, H.out.bel⟩
    case round =>
      obtain ⟨k, hk, rfl, HO, HB⟩ := hrel
      by_cases hlt : k < n1
      · obtain ⟨t, ht⟩ : ∃ t, la[k]? = some t := ⟨_, List.getElem?_eq_getElem (by have := HN1.out; omega)⟩
        obtain ⟨bk, o, rfl, hbk, c0, c1, c2, c3, c4, c5, c6⟩ := (H.out.ra.below HB.out).edit k t ht
        have HDn : Hid ((done ++ (la.take (k + 1)).map (fun x : Em => ((some x, none) : Option Em × Option Em))) = (done ++ (la.take k).map (fun x : Em => ((some x, none) : Option Em × Option Em))) ++ [(fun x : Em => ((some x, none) : Option Em × Option Em)) t]) := by show _ = _; rw [List.take_add_one, ht]; simp
        obtain ⟨xp, xg, ⟨xi, xk, xm, xt, xb⟩⟩ := t
        dsimp only at c0 c1 c2 c3 c4 c5 c6
        obtain ⟨s2, W6, hr6, ho6, hg6⟩ := more_ee w.heap.size u7 _ ((fun x : Em => ((some x, none) : Option Em × Option Em)) ⟨xp, xg, ⟨xi, xk, xm, xt, xb⟩⟩) ((wr.alloc (.cells #[.string xp, .bool xg, .string xi, .int .i64 xk, .int .i64 xm, .int .i64 xt, .string xb] 30)).alloc (.cells #[.string xp, .bool xg, .string xi, .int .i64 xk, .int .i64 xm, .int .i64 xt, .string xb, .string ⟨#[]⟩, .bool false, .string ⟨#[]⟩, .int .i64 0, .int .i64 0, .int .i64 0, .string ⟨#[]⟩, .bool true, .bool false] 76)) ((HO.out.alloc _).alloc _) (wr.heap.size + 1) (by rw [show wr.heap.size + 1 = (wr.alloc (.cells #[.string xp, .bool xg, .string xi, .int .i64 xk, .int .i64 xm, .int .i64 xt, .string xb] 30)).heap.size from by simp]; exact heap_alloc_new _ _) (by have := HL0.out; have := HLn.out; have := HN1.out; have := HN2.out; simp only [List.length_append, List.length_map, List.length_take]; omega) (by have := HB.out.size; simp; omega)
        have HO6 : Hid (W6.ownsRow w.heap.size 76 16 s2 (done ++ (la.take (k + 1)).map (fun x : Em => ((some x, none) : Option Em × Option Em))).length (rowR eeC (done ++ (la.take (k + 1)).map (fun x : Em => ((some x, none) : Option Em × Option Em))))) := by
          rw [HDn.out]; exact ho6
        have HB6 : Hid (Below w.heap.size w W6) := (((HB.out.alloc HB.out.size _).alloc (by have := HB.out.size; simp; omega) _)).grown hg6 (by have := HB.out.size; simp; omega) fun g hg => (HO.out.lt g hg).1
        clear ho6 hg6 ht HDn
        go_wp2_with (at_builtin; refine wpL_append_run rfl (.tmp 58) (.tmp 61) 72 72 rfl rfl _ _ s2 W6 rfl rfl hr6 ?_)
        clear hr6 c0 c1 c2 c3 c4 c5 c6
        go_roundw
        case measure => simp only [intOf]; omega
        case rel => exact ⟨k + 1, by omega, by go_num, HO6, HB6⟩
      · obtain rfl : k = n1 := by omega
        have HO1 : Hid (wr.ownsRow w.heap.size 76 16 u7 (done ++ la.map (fun x : Em => ((some x, none) : Option Em × Option Em))).length (rowR eeC (done ++ la.map (fun x : Em => ((some x, none) : Option Em × Option Em))))) := by
          have h := HO.out
          rw [List.take_of_length_le (by have := HN1.out; omega)] at h
          exact h
        clear HO
        go_wp2_with fail
        go_loopw [7, 66] (fun s i wr => ∃ k : Nat, k ≤ n2 ∧ i = .int .i64 k ∧ Hid (wr.ownsRow w.heap.size 76 16 s ((done ++ la.map (fun x : Em => ((some x, none) : Option Em × Option Em))) ++ (lb.take k).map (fun y : Em => ((none, some y) : Option Em × Option Em))).length (rowR eeC ((done ++ la.map (fun x : Em => ((some x, none) : Option Em × Option Em))) ++ (lb.take k).map (fun y : Em => ((none, some y) : Option Em × Option Em))))) ∧ Hid (Below w.heap.size w wr)) (fun _ i _ => n2 - (intOf i).toNat)
        case atStart => exact ⟨0, by omega, rfl, by show World.ownsRow _ _ _ _ _ _ _; simpa using HO1.out, HB.out⟩
        case round =>
          obtain ⟨k, hk, rfl, HO, HB⟩ := hrel
          clear HO1
          by_cases hlt : k < n2
          · obtain ⟨t, ht⟩ : ∃ t, lb[k]? = some t := ⟨_, List.getElem?_eq_getElem (by have := HN2.out; omega)⟩
            obtain ⟨bk, o, rfl, hbk, c0, c1, c2, c3, c4, c5, c6⟩ := (H.out.rb.below HB.out).edit k t ht
            have HDn : Hid (((done ++ la.map (fun x : Em => ((some x, none) : Option Em × Option Em))) ++ (lb.take (k + 1)).map (fun y : Em => ((none, some y) : Option Em × Option Em))) = ((done ++ la.map (fun x : Em => ((some x, none) : Option Em × Option Em))) ++ (lb.take k).map (fun y : Em => ((none, some y) : Option Em × Option Em))) ++ [(fun y : Em => ((none, some y) : Option Em × Option Em)) t]) := by show _ = _; rw [List.take_add_one, ht]; simp
            obtain ⟨yp, yg, ⟨yi, yk, ym, yt, yb⟩⟩ := t
            dsimp only at c0 c1 c2 c3 c4 c5 c6
            obtain ⟨s2, W6, hr6, ho6, hg6⟩ := more_ee w.heap.size u7 _ ((fun y : Em => ((none, some y) : Option Em × Option Em)) ⟨yp, yg, ⟨yi, yk, ym, yt, yb⟩⟩) ((wr.alloc (.cells #[.string yp, .bool yg, .string yi, .int .i64 yk, .int .i64 ym, .int .i64 yt, .string yb] 30)).alloc (.cells #[.string ⟨#[]⟩, .bool false, .string ⟨#[]⟩, .int .i64 0, .int .i64 0, .int .i64 0, .string ⟨#[]⟩, .string yp, .bool yg, .string yi, .int .i64 yk, .int .i64 ym, .int .i64 yt, .string yb, .bool false, .bool true] 76)) ((HO.out.alloc _).alloc _) (wr.heap.size + 1) (by rw [show wr.heap.size + 1 = (wr.alloc (.cells #[.string yp, .bool yg, .string yi, .int .i64 yk, .int .i64 ym, .int .i64 yt, .string yb] 30)).heap.size from by simp]; exact heap_alloc_new _ _) (by have := HL0.out; have := HLn.out; have := HN1.out; have := HN2.out; simp only [List.length_append, List.length_map, List.length_take]; omega) (by have := HB.out.size; simp; omega)
            have HO6 : Hid (W6.ownsRow w.heap.size 76 16 s2 ((done ++ la.map (fun x : Em => ((some x, none) : Option Em × Option Em))) ++ (lb.take (k + 1)).map (fun y : Em => ((none, some y) : Option Em × Option Em))).length (rowR eeC ((done ++ la.map (fun x : Em => ((some x, none) : Option Em × Option Em))) ++ (lb.take (k + 1)).map (fun y : Em => ((none, some y) : Option Em × Option Em))))) := by
              rw [HDn.out]; exact ho6
            have HB6 : Hid (Below w.heap.size w W6) := (((HB.out.alloc HB.out.size _).alloc (by have := HB.out.size; simp; omega) _)).grown hg6 (by have := HB.out.size; simp; omega) fun g hg => (HO.out.lt g hg).1
            clear ho6 hg6 ht HDn
            go_wp2_with (at_builtin; refine wpL_append_run rfl (.tmp 70) (.tmp 73) 72 72 rfl rfl _ _ s2 W6 rfl rfl hr6 ?_)
            clear hr6 c0 c1 c2 c3 c4 c5 c6
            go_roundw
            case measure => simp only [intOf]; omega
            case rel => exact ⟨k + 1, by omega, by go_num, HO6, HB6⟩
          · obtain rfl : k = n2 := by omega
            have HO2 : Hid (wr.ownsRow w.heap.size 76 16 u7 (sdEE a b).length (rowR eeC (sdEE a b))) := by
              have h := HO.out
              rw [List.take_of_length_le (by have := HN2.out; omega), ← HF.out] at h
              exact h
            go_wp2_with fail
            go_ret
            exact ⟨_, rfl, HO2.out, HB.out⟩
end Go.Proofs.YthpcbbkpjggjbaaGreatDoor
namespace Go.Proofs.YthpcbbkpjggjbaaGreatDoor
open Go.RowKit
set_option maxRecDepth 4000
set_option maxHeartbeats 16000000 in
theorem djoin_any (va vb : Value) (a : List Em) (b : List Em) (w : World) (ha : Eds w va a) (hb : Eds w vb b) (la : a.length ≤ 140737488351232) (lb : b.length ≤ 140737488351232) (oa : ∀ x ∈ a, x.Ok) (ob : ∀ x ∈ b, x.Ok) (hT : Tabs w) :
    Calls Tryz.prog 9 #[va, vb] w fun e w' => ∃ v l, e = .returned (.tuple #[v, .int .i64 (Dl.join (edl a) (edl b)).2]) ∧ w'.ownsRow w.heap.size 30 7 v l.length (rowR emC l) ∧ edl l = (Dl.join (edl a) (edl b)).1 ∧ (∀ x ∈ l, x.Ok) ∧ Below w.heap.size w w' := by
  have hca := dcheck_any va a w ha la oa hT
  have HCb : Hid (∀ W, Below w.heap.size w W → Calls Tryz.prog 26 #[vb] W fun e w' => e = .returned (.int .i64 (Dl.check (edl b))) ∧ Below W.heap.size W w') := fun W hW => dcheck_any vb b W (hb.below hW) lb ob (hT.below hW)
  have HSd : Hid (a.length + b.length ≤ 1000 → ∀ W, Below w.heap.size w W → Calls Tryz.prog 30 #[va, vb, .func (.func 31) #[] #[]] W fun e w' => ∃ v, e = .returned v ∧ w'.ownsRow W.heap.size 76 16 v (sdEE a b).length (rowR eeC (sdEE a b)) ∧ Below W.heap.size W w') := fun h W hW => sideEE_any va vb a b W (ha.below hW) (hb.below hW) h oa ob (hT.below hW)
  have HP : Hid (Dl.join (edl a) (edl b) = if Dl.check (edl a) ≠ 0 then ([], Dl.check (edl a)) else if Dl.check (edl b) ≠ 0 then ([], Dl.check (edl b)) else if 200 < (Dl.joinL (edl a) (edl b)).length then ([], 2) else (Dl.joinL (edl a) (edl b), 0)) := rfl
  have HT : Hid (Tabs w) := hT
  have HOa : Hid (∀ x ∈ a, x.Ok) := oa
  have HOb : Hid (∀ x ∈ b, x.Ok) := ob
  obtain ⟨RP, hRP⟩ : ∃ RP, RP = Dl.join (edl a) (edl b) := ⟨_, rfl⟩
  rw [← hRP] at HP ⊢
  obtain ⟨EA, hEA⟩ : ∃ EA, EA = Dl.check (edl a) := ⟨_, rfl⟩
  obtain ⟨EB, hEB⟩ : ∃ EB, EB = Dl.check (edl b) := ⟨_, rfl⟩
  rw [← hEA] at hca
  rw [← hEB] at HCb
  have HEA : Hid (EA = Dl.check (edl a)) := hEA
  have HEB : Hid (EB = Dl.check (edl b)) := hEB
  clear ha hb la lb oa ob hT hRP hEA hEB
  go_enter Tryz.func9, Tryz.ntmps9
  go_wp2_with fail
  refine hca.mono ?_
  rintro e w1 ⟨rfl, b1⟩
  have HB1 : Hid (Below w.heap.size w w1) := b1
  clear hca b1
  by_cases c1 : EA = 0
  case neg =>
    have hne : (EA != 0) = true := by rw [bne_iff_ne]; exact c1
    have HRe : Hid (RP = ([], EA)) := by show _ = _; rw [HP.out, ← HEA.out, if_pos c1]
    clear HP HSd HCb
    go_wp2_with fail
    go_ret2
    exact ⟨_, [], by rw [HRe.out]; rfl, World.ownsRow_nil _ _ _ _, by rw [HRe.out]; rfl, fun x hx => absurd hx List.not_mem_nil, HB1.out⟩
  have hne : (EA != 0) = false := by rw [c1]; rfl
  have HEA0 : Hid (Dl.check (edl a) = 0) := by show _ = _; rw [← HEA.out]; exact c1
  go_wp2_with fail
  refine (HCb.out _ HB1.out).mono ?_
  rintro e w2 ⟨rfl, b2⟩
  have HB2 : Hid (Below w.heap.size w w2) := HB1.out.trans (b2.mono HB1.out.size)
  clear HCb b2 hne c1
  by_cases c2 : EB = 0
  case neg =>
    have hne : (EB != 0) = true := by rw [bne_iff_ne]; exact c2
    have HRe : Hid (RP = ([], EB)) := by show _ = _; rw [HP.out, if_neg (fun q => q HEA0.out), ← HEB.out, if_pos c2]
    clear HP HSd
    go_wp2_with fail
    go_ret2
    exact ⟨_, [], by rw [HRe.out]; rfl, World.ownsRow_nil _ _ _ _, by rw [HRe.out]; rfl, fun x hx => absurd hx List.not_mem_nil, HB2.out⟩
  have hne : (EB != 0) = false := by rw [c2]; rfl
  have HEB0 : Hid (Dl.check (edl b) = 0) := by show _ = _; rw [← HEB.out]; exact c2
  have hlen : a.length + b.length ≤ 1000 := by
    have h1 := (Dl.check_ok.1 HEA0.out).1; have h2 := (Dl.check_ok.1 HEB0.out).1; rw [edl_length] at h1 h2; omega
  have hside := HSd.out hlen _ HB2.out
  obtain ⟨S, hS⟩ : ∃ S, S = sdEE a b := ⟨_, rfl⟩
  have HS : Hid (S = sdEE a b) := hS
  have HS3 : Hid (S.length ≤ 1000) := by
    show _ ≤ _
    rw [hS]
    exact Nat.le_trans (Dl.side_len _ _) hlen
  rw [← hS] at hside
  clear HSd c2 hlen hS
  go_wp2_with fail
  refine hside.mono ?_
  rintro e w4 ⟨vs, rfl, hs, b4⟩
  have HB4 : Hid (Below w.heap.size w w4) := HB2.out.trans (b4.mono HB2.out.size)
  have hR := Rx.of_own (C := eeC) (k := 16) eeC_len hs
  obtain ⟨sa, sc, rfl⟩ := own_form hs
  obtain ⟨N, hN⟩ : ∃ N, N = S.length := ⟨_, rfl⟩
  have HN : Hid (N = S.length) := hN
  rw [← hN] at hR ⊢
  have HR : Hid (Rx 16 eeC w4 (.slice sa N sc) S) := hR
  have hN3 : N ≤ 1000 := by have := HN.out; have := HS3.out; omega
  clear hside hs b4 hR hN hne
  go_wp2_with fail
  go_loopw [8, 25] (fun s i wr => ∃ k : Nat, k ≤ N ∧ i = .int .i64 k ∧ Hid (wr.ownsRow w4.heap.size 30 7 s ((S.take k).filterMap tJ).length (rowR emC ((S.take k).filterMap tJ))) ∧ Hid (Below w4.heap.size w4 wr)) (fun _ i _ => N - (intOf i).toNat)
  case atStart => exact ⟨0, by omega, rfl, World.ownsRow_nil _ _ _ _, Below.refl _ _⟩
  case round =>
    obtain ⟨k, hk, rfl, HO, HB⟩ := hrel
    by_cases hlt : k < N
    · obtain ⟨z, ht⟩ : ∃ z, S[k]? = some z := ⟨_, List.getElem?_eq_getElem (by have := HN.out; omega)⟩
      have hz := side_in a b z (by have := List.mem_of_getElem? ht; rw [HS.out] at this; exact this)
      obtain ⟨bk, o, rfl, hbk, hc⟩ := (HR.out.below HB.out).get k z ht
      obtain ⟨zx, zy⟩ := z
      cases zy with
      | none =>
        cases zx with
        | none => exact absurd hz.1 (by simp)
        | some x =>
          obtain ⟨xp, xg, ⟨xi, xk, xm, xt, xb⟩⟩ := x
          have hrg : wr.rangeAt bk (o + k * 16) (eeC ((some ⟨xp, xg, ⟨xi, xk, xm, xt, xb⟩⟩, none) : Option Em × Option Em)) := fun r u hu => hc r u hu
          obtain ⟨W1, hW1⟩ : ∃ W1, W1 = (wr.alloc (.cells #[.string ⟨#[]⟩, .bool false, .string ⟨#[]⟩, .int .i64 0, .int .i64 0, .int .i64 0, .string ⟨#[]⟩, .string ⟨#[]⟩, .bool false, .string ⟨#[]⟩, .int .i64 0, .int .i64 0, .int .i64 0, .string ⟨#[]⟩, .bool false, .bool false] 76)).setCells wr.heap.size 0 (eeC ((some ⟨xp, xg, ⟨xi, xk, xm, xt, xb⟩⟩, none) : Option Em × Option Em)) := ⟨_, rfl⟩
          have hz0 := heap_alloc_new wr (.cells #[.string ⟨#[]⟩, .bool false, .string ⟨#[]⟩, .int .i64 0, .int .i64 0, .int .i64 0, .string ⟨#[]⟩, .string ⟨#[]⟩, .bool false, .string ⟨#[]⟩, .int .i64 0, .int .i64 0, .int .i64 0, .string ⟨#[]⟩, .bool false, .bool false] 76)
          have hth := blk_there (o := 0) (k := 16) hz0 (Nat.le_of_ble_eq_true rfl)
          have HB1 : Hid (Below w4.heap.size w4 W1) := by rw [hW1]; exact setCells_below (HB.out.alloc HB.out.size _) HB.out.size _
          have HBr : Below wr.heap.size wr W1 := by rw [hW1]; exact setCells_below ((Below.refl _ wr).alloc (Nat.le_refl _) _) (Nat.le_refl _) _
          have HM1 : W1.heap[wr.heap.size]? = some (.cells (eeC ((some ⟨xp, xg, ⟨xi, xk, xm, xt, xb⟩⟩, none) : Option Em × Option Em)).toArray 76 (0, 0)) := by
            rw [hW1]
            have h := sets_blk (post := []) (eeC ((some ⟨xp, xg, ⟨xi, xk, xm, xt, xb⟩⟩, none) : Option Em × Option Em)) [] (eeC (none, none)) _ hz0 rfl
            rwa [List.append_nil] at h
          have key := fun j => cell_of_row W1 wr.heap.size j _ _ _ HM1
          have cf : W1.cell? ⟨wr.heap.size, 15, none⟩ = some (.bool false) := key 15
          have c0 : W1.cell? ⟨wr.heap.size, 0, none⟩ = some (.string xp) := key 0
          have c1 : W1.cell? ⟨wr.heap.size, 1, none⟩ = some (.bool xg) := key 1
          have c2 : W1.cell? ⟨wr.heap.size, 2, none⟩ = some (.string xi) := key 2
          have c3 : W1.cell? ⟨wr.heap.size, 3, none⟩ = some (.int .i64 xk) := key 3
          have c4 : W1.cell? ⟨wr.heap.size, 4, none⟩ = some (.int .i64 xm) := key 4
          have c5 : W1.cell? ⟨wr.heap.size, 5, none⟩ = some (.int .i64 xt) := key 5
          have c6 : W1.cell? ⟨wr.heap.size, 6, none⟩ = some (.string xb) := key 6
          obtain ⟨s2, W6, hr6, ho6, hg6⟩ := more_ae w4.heap.size u8 ((S.take k).filterMap tJ) (⟨xp, xg, ⟨xi, xk, xm, xt, xb⟩⟩ : Em) (W1.alloc (.cells #[.string xp, .bool xg, .string xi, .int .i64 xk, .int .i64 xm, .int .i64 xt, .string xb] 30)) ((own_below HO.out HBr).alloc _) W1.heap.size (heap_alloc_new W1 _) (by have h1 := List.length_filterMap_le tJ (S.take k); rw [List.length_take] at h1; have := HS3.out; have := HN.out; omega) (by have := HB1.out.size; simp; omega)
          have HO6 : Hid (W6.ownsRow w4.heap.size 30 7 s2 ((S.take (k + 1)).filterMap tJ).length (rowR emC ((S.take (k + 1)).filterMap tJ))) := by
            rw [told_step ht, show tJ ((some ⟨xp, xg, ⟨xi, xk, xm, xt, xb⟩⟩, none) : Option Em × Option Em) = some (⟨xp, xg, ⟨xi, xk, xm, xt, xb⟩⟩ : Em) from by rfl, Option.toList_some]; exact ho6
          have HB6 : Hid (Below w4.heap.size w4 W6) := ((HB1.out.alloc HB1.out.size _)).grown hg6 (by have := HB1.out.size; simp; omega) fun g hg => (HO.out.lt g hg).1
          clear ho6 hg6 ht hz0 HM1 key HBr hc
          go_upto_region 10 with fail
          refine wp_region_lit ?_
          refine wpList_plain rfl fun C hC => ?_
          go_simp
          refine hC _ _ ?_
          clear hC C
          refine wpList_load_mid rfl 76 (.tmp 27) rfl bk (o + k * 16) rfl [.string xp, .bool xg, .string xi, .int .i64 xk, .int .i64 xm, .int .i64 xt, .string xb, .string ⟨#[]⟩, .bool false, .string ⟨#[]⟩, .int .i64 0, .int .i64 0, .int .i64 0, .string ⟨#[]⟩, .bool true, .bool false] _ hrg Tryz.underlying76 rfl (by kernel_rfl) ?_
          refine wpList_plain rfl fun C hC => ?_
          go_simp
          refine hC _ _ ?_
          clear hC C
          refine wpList_store_mid rfl 76 (.tmp 10) (.tmp 28) rfl wr.heap.size 0 #[.string xp, .bool xg, .string xi, .int .i64 xk, .int .i64 xm, .int .i64 xt, .string xb, .string ⟨#[]⟩, .bool false, .string ⟨#[]⟩, .int .i64 0, .int .i64 0, .int .i64 0, .string ⟨#[]⟩, .bool true, .bool false] rfl rfl hth (by kernel_rfl) (all_oneCell_toArray (eeC_one ((some ⟨xp, xg, ⟨xi, xk, xm, xt, xb⟩⟩, none) : Option Em × Option Em))) ?_
          rw [show (#[.string xp, .bool xg, .string xi, .int .i64 xk, .int .i64 xm, .int .i64 xt, .string xb, .string ⟨#[]⟩, .bool false, .string ⟨#[]⟩, .int .i64 0, .int .i64 0, .int .i64 0, .string ⟨#[]⟩, .bool true, .bool false] : Array Value).toList = eeC ((some ⟨xp, xg, ⟨xi, xk, xm, xt, xb⟩⟩, none) : Option Em × Option Em) from rfl, ← hW1]
          clear hW1 hth hrg
          go_wp2_with (at_builtin; refine wpL_append_run rfl (.tmp 36) (.tmp 39) 23 23 rfl rfl _ _ s2 W6 rfl rfl hr6 ?_)
          clear hr6 cf c0 c1 c2 c3 c4 c5 c6
          go_roundw
          case measure => simp only [intOf]; omega
          case rel => exact ⟨k + 1, by omega, by go_num, HO6, HB6⟩
      | some y =>
        obtain ⟨yp, yg, ⟨yi, yk, ym, yt, yb⟩⟩ := y
        cases zx with
        | none =>
          have hrg : wr.rangeAt bk (o + k * 16) (eeC ((none, some ⟨yp, yg, ⟨yi, yk, ym, yt, yb⟩⟩) : Option Em × Option Em)) := fun r u hu => hc r u hu
          obtain ⟨W1, hW1⟩ : ∃ W1, W1 = (wr.alloc (.cells #[.string ⟨#[]⟩, .bool false, .string ⟨#[]⟩, .int .i64 0, .int .i64 0, .int .i64 0, .string ⟨#[]⟩, .string ⟨#[]⟩, .bool false, .string ⟨#[]⟩, .int .i64 0, .int .i64 0, .int .i64 0, .string ⟨#[]⟩, .bool false, .bool false] 76)).setCells wr.heap.size 0 (eeC ((none, some ⟨yp, yg, ⟨yi, yk, ym, yt, yb⟩⟩) : Option Em × Option Em)) := ⟨_, rfl⟩
          have hz0 := heap_alloc_new wr (.cells #[.string ⟨#[]⟩, .bool false, .string ⟨#[]⟩, .int .i64 0, .int .i64 0, .int .i64 0, .string ⟨#[]⟩, .string ⟨#[]⟩, .bool false, .string ⟨#[]⟩, .int .i64 0, .int .i64 0, .int .i64 0, .string ⟨#[]⟩, .bool false, .bool false] 76)
          have hth := blk_there (o := 0) (k := 16) hz0 (Nat.le_of_ble_eq_true rfl)
          have HB1 : Hid (Below w4.heap.size w4 W1) := by rw [hW1]; exact setCells_below (HB.out.alloc HB.out.size _) HB.out.size _
          have HBr : Below wr.heap.size wr W1 := by rw [hW1]; exact setCells_below ((Below.refl _ wr).alloc (Nat.le_refl _) _) (Nat.le_refl _) _
          have HM1 : W1.heap[wr.heap.size]? = some (.cells (eeC ((none, some ⟨yp, yg, ⟨yi, yk, ym, yt, yb⟩⟩) : Option Em × Option Em)).toArray 76 (0, 0)) := by
            rw [hW1]
            have h := sets_blk (post := []) (eeC ((none, some ⟨yp, yg, ⟨yi, yk, ym, yt, yb⟩⟩) : Option Em × Option Em)) [] (eeC (none, none)) _ hz0 rfl
            rwa [List.append_nil] at h
          have key := fun j => cell_of_row W1 wr.heap.size j _ _ _ HM1
          have cf : W1.cell? ⟨wr.heap.size, 15, none⟩ = some (.bool true) := key 15
          have c0 : W1.cell? ⟨wr.heap.size, 7, none⟩ = some (.string yp) := key 7
          have c1 : W1.cell? ⟨wr.heap.size, 8, none⟩ = some (.bool yg) := key 8
          have c2 : W1.cell? ⟨wr.heap.size, 9, none⟩ = some (.string yi) := key 9
          have c3 : W1.cell? ⟨wr.heap.size, 10, none⟩ = some (.int .i64 yk) := key 10
          have c4 : W1.cell? ⟨wr.heap.size, 11, none⟩ = some (.int .i64 ym) := key 11
          have c5 : W1.cell? ⟨wr.heap.size, 12, none⟩ = some (.int .i64 yt) := key 12
          have c6 : W1.cell? ⟨wr.heap.size, 13, none⟩ = some (.string yb) := key 13
          obtain ⟨s2, W6, hr6, ho6, hg6⟩ := more_ae w4.heap.size u8 ((S.take k).filterMap tJ) (⟨yp, yg, ⟨yi, yk, ym, yt, yb⟩⟩ : Em) (W1.alloc (.cells #[.string yp, .bool yg, .string yi, .int .i64 yk, .int .i64 ym, .int .i64 yt, .string yb] 30)) ((own_below HO.out HBr).alloc _) W1.heap.size (heap_alloc_new W1 _) (by have h1 := List.length_filterMap_le tJ (S.take k); rw [List.length_take] at h1; have := HS3.out; have := HN.out; omega) (by have := HB1.out.size; simp; omega)
          have HO6 : Hid (W6.ownsRow w4.heap.size 30 7 s2 ((S.take (k + 1)).filterMap tJ).length (rowR emC ((S.take (k + 1)).filterMap tJ))) := by
            rw [told_step ht, show tJ ((none, some ⟨yp, yg, ⟨yi, yk, ym, yt, yb⟩⟩) : Option Em × Option Em) = some (⟨yp, yg, ⟨yi, yk, ym, yt, yb⟩⟩ : Em) from by rfl, Option.toList_some]; exact ho6
          have HB6 : Hid (Below w4.heap.size w4 W6) := ((HB1.out.alloc HB1.out.size _)).grown hg6 (by have := HB1.out.size; simp; omega) fun g hg => (HO.out.lt g hg).1
          clear ho6 hg6 ht hz0 HM1 key HBr hc
          go_upto_region 10 with fail
          refine wp_region_lit ?_
          refine wpList_plain rfl fun C hC => ?_
          go_simp
          refine hC _ _ ?_
          clear hC C
          refine wpList_load_mid rfl 76 (.tmp 27) rfl bk (o + k * 16) rfl [.string ⟨#[]⟩, .bool false, .string ⟨#[]⟩, .int .i64 0, .int .i64 0, .int .i64 0, .string ⟨#[]⟩, .string yp, .bool yg, .string yi, .int .i64 yk, .int .i64 ym, .int .i64 yt, .string yb, .bool false, .bool true] _ hrg Tryz.underlying76 rfl (by kernel_rfl) ?_
          refine wpList_plain rfl fun C hC => ?_
          go_simp
          refine hC _ _ ?_
          clear hC C
          refine wpList_store_mid rfl 76 (.tmp 10) (.tmp 28) rfl wr.heap.size 0 #[.string ⟨#[]⟩, .bool false, .string ⟨#[]⟩, .int .i64 0, .int .i64 0, .int .i64 0, .string ⟨#[]⟩, .string yp, .bool yg, .string yi, .int .i64 yk, .int .i64 ym, .int .i64 yt, .string yb, .bool false, .bool true] rfl rfl hth (by kernel_rfl) (all_oneCell_toArray (eeC_one ((none, some ⟨yp, yg, ⟨yi, yk, ym, yt, yb⟩⟩) : Option Em × Option Em))) ?_
          rw [show (#[.string ⟨#[]⟩, .bool false, .string ⟨#[]⟩, .int .i64 0, .int .i64 0, .int .i64 0, .string ⟨#[]⟩, .string yp, .bool yg, .string yi, .int .i64 yk, .int .i64 ym, .int .i64 yt, .string yb, .bool false, .bool true] : Array Value).toList = eeC ((none, some ⟨yp, yg, ⟨yi, yk, ym, yt, yb⟩⟩) : Option Em × Option Em) from rfl, ← hW1]
          clear hW1 hth hrg
          go_wp2_with (at_builtin; refine wpL_append_run rfl (.tmp 31) (.tmp 34) 23 23 rfl rfl _ _ s2 W6 rfl rfl hr6 ?_)
          clear hr6 cf c0 c1 c2 c3 c4 c5 c6
          go_roundw
          case measure => simp only [intOf]; omega
          case rel => exact ⟨k + 1, by omega, by go_num, HO6, HB6⟩
        | some x =>
          obtain ⟨xp, xg, ⟨xi, xk, xm, xt, xb⟩⟩ := x
          have hrg : wr.rangeAt bk (o + k * 16) (eeC ((some ⟨xp, xg, ⟨xi, xk, xm, xt, xb⟩⟩, some ⟨yp, yg, ⟨yi, yk, ym, yt, yb⟩⟩) : Option Em × Option Em)) := fun r u hu => hc r u hu
          obtain ⟨W1, hW1⟩ : ∃ W1, W1 = (wr.alloc (.cells #[.string ⟨#[]⟩, .bool false, .string ⟨#[]⟩, .int .i64 0, .int .i64 0, .int .i64 0, .string ⟨#[]⟩, .string ⟨#[]⟩, .bool false, .string ⟨#[]⟩, .int .i64 0, .int .i64 0, .int .i64 0, .string ⟨#[]⟩, .bool false, .bool false] 76)).setCells wr.heap.size 0 (eeC ((some ⟨xp, xg, ⟨xi, xk, xm, xt, xb⟩⟩, some ⟨yp, yg, ⟨yi, yk, ym, yt, yb⟩⟩) : Option Em × Option Em)) := ⟨_, rfl⟩
          have hz0 := heap_alloc_new wr (.cells #[.string ⟨#[]⟩, .bool false, .string ⟨#[]⟩, .int .i64 0, .int .i64 0, .int .i64 0, .string ⟨#[]⟩, .string ⟨#[]⟩, .bool false, .string ⟨#[]⟩, .int .i64 0, .int .i64 0, .int .i64 0, .string ⟨#[]⟩, .bool false, .bool false] 76)
          have hth := blk_there (o := 0) (k := 16) hz0 (Nat.le_of_ble_eq_true rfl)
          have HB1 : Hid (Below w4.heap.size w4 W1) := by rw [hW1]; exact setCells_below (HB.out.alloc HB.out.size _) HB.out.size _
          have HBr : Below wr.heap.size wr W1 := by rw [hW1]; exact setCells_below ((Below.refl _ wr).alloc (Nat.le_refl _) _) (Nat.le_refl _) _
          have HM1 : W1.heap[wr.heap.size]? = some (.cells (eeC ((some ⟨xp, xg, ⟨xi, xk, xm, xt, xb⟩⟩, some ⟨yp, yg, ⟨yi, yk, ym, yt, yb⟩⟩) : Option Em × Option Em)).toArray 76 (0, 0)) := by
            rw [hW1]
            have h := sets_blk (post := []) (eeC ((some ⟨xp, xg, ⟨xi, xk, xm, xt, xb⟩⟩, some ⟨yp, yg, ⟨yi, yk, ym, yt, yb⟩⟩) : Option Em × Option Em)) [] (eeC (none, none)) _ hz0 rfl
            rwa [List.append_nil] at h
          have key := fun j => cell_of_row W1 wr.heap.size j _ _ _ HM1
          have cf : W1.cell? ⟨wr.heap.size, 15, none⟩ = some (.bool true) := key 15
          have c0 : W1.cell? ⟨wr.heap.size, 7, none⟩ = some (.string yp) := key 7
          have c1 : W1.cell? ⟨wr.heap.size, 8, none⟩ = some (.bool yg) := key 8
          have c2 : W1.cell? ⟨wr.heap.size, 9, none⟩ = some (.string yi) := key 9
          have c3 : W1.cell? ⟨wr.heap.size, 10, none⟩ = some (.int .i64 yk) := key 10
          have c4 : W1.cell? ⟨wr.heap.size, 11, none⟩ = some (.int .i64 ym) := key 11
          have c5 : W1.cell? ⟨wr.heap.size, 12, none⟩ = some (.int .i64 yt) := key 12
          have c6 : W1.cell? ⟨wr.heap.size, 13, none⟩ = some (.string yb) := key 13
          obtain ⟨s2, W6, hr6, ho6, hg6⟩ := more_ae w4.heap.size u8 ((S.take k).filterMap tJ) (⟨yp, yg, ⟨yi, yk, ym, yt, yb⟩⟩ : Em) (W1.alloc (.cells #[.string yp, .bool yg, .string yi, .int .i64 yk, .int .i64 ym, .int .i64 yt, .string yb] 30)) ((own_below HO.out HBr).alloc _) W1.heap.size (heap_alloc_new W1 _) (by have h1 := List.length_filterMap_le tJ (S.take k); rw [List.length_take] at h1; have := HS3.out; have := HN.out; omega) (by have := HB1.out.size; simp; omega)
          have HO6 : Hid (W6.ownsRow w4.heap.size 30 7 s2 ((S.take (k + 1)).filterMap tJ).length (rowR emC ((S.take (k + 1)).filterMap tJ))) := by
            rw [told_step ht, show tJ ((some ⟨xp, xg, ⟨xi, xk, xm, xt, xb⟩⟩, some ⟨yp, yg, ⟨yi, yk, ym, yt, yb⟩⟩) : Option Em × Option Em) = some (⟨yp, yg, ⟨yi, yk, ym, yt, yb⟩⟩ : Em) from by rfl, Option.toList_some]; exact ho6
          have HB6 : Hid (Below w4.heap.size w4 W6) := ((HB1.out.alloc HB1.out.size _)).grown hg6 (by have := HB1.out.size; simp; omega) fun g hg => (HO.out.lt g hg).1
          clear ho6 hg6 ht hz0 HM1 key HBr hc
          go_upto_region 10 with fail
          refine wp_region_lit ?_
          refine wpList_plain rfl fun C hC => ?_
          go_simp
          refine hC _ _ ?_
          clear hC C
          refine wpList_load_mid rfl 76 (.tmp 27) rfl bk (o + k * 16) rfl [.string xp, .bool xg, .string xi, .int .i64 xk, .int .i64 xm, .int .i64 xt, .string xb, .string yp, .bool yg, .string yi, .int .i64 yk, .int .i64 ym, .int .i64 yt, .string yb, .bool true, .bool true] _ hrg Tryz.underlying76 rfl (by kernel_rfl) ?_
          refine wpList_plain rfl fun C hC => ?_
          go_simp
          refine hC _ _ ?_
          clear hC C
          refine wpList_store_mid rfl 76 (.tmp 10) (.tmp 28) rfl wr.heap.size 0 #[.string xp, .bool xg, .string xi, .int .i64 xk, .int .i64 xm, .int .i64 xt, .string xb, .string yp, .bool yg, .string yi, .int .i64 yk, .int .i64 ym, .int .i64 yt, .string yb, .bool true, .bool true] rfl rfl hth (by kernel_rfl) (all_oneCell_toArray (eeC_one ((some ⟨xp, xg, ⟨xi, xk, xm, xt, xb⟩⟩, some ⟨yp, yg, ⟨yi, yk, ym, yt, yb⟩⟩) : Option Em × Option Em))) ?_
          rw [show (#[.string xp, .bool xg, .string xi, .int .i64 xk, .int .i64 xm, .int .i64 xt, .string xb, .string yp, .bool yg, .string yi, .int .i64 yk, .int .i64 ym, .int .i64 yt, .string yb, .bool true, .bool true] : Array Value).toList = eeC ((some ⟨xp, xg, ⟨xi, xk, xm, xt, xb⟩⟩, some ⟨yp, yg, ⟨yi, yk, ym, yt, yb⟩⟩) : Option Em × Option Em) from rfl, ← hW1]
          clear hW1 hth hrg
          go_wp2_with (at_builtin; refine wpL_append_run rfl (.tmp 31) (.tmp 34) 23 23 rfl rfl _ _ s2 W6 rfl rfl hr6 ?_)
          clear hr6 cf c0 c1 c2 c3 c4 c5 c6
          go_roundw
          case measure => simp only [intOf]; omega
          case rel => exact ⟨k + 1, by omega, by go_num, HO6, HB6⟩
    · obtain rfl : k = N := by omega
      have HO1 : Hid (wr.ownsRow w4.heap.size 30 7 u8 (S.filterMap tJ).length (rowR emC (S.filterMap tJ))) := by
        have h := HO.out
        rw [List.take_of_length_le (by have := HN.out; omega)] at h
        exact h
      have HBw : Hid (Below w.heap.size w wr) := HB4.out.trans (HB.out.mono HB4.out.size)
      have HLn : Hid ((S.filterMap tJ).length ≤ 1000) := Nat.le_trans (List.length_filterMap_le _ _) HS3.out
      clear HO HB
      have HK : Hid (∀ x ∈ S.filterMap tJ, x.Ok) := fun q hq => by
        obtain ⟨⟨zx, zy⟩, hz, e⟩ := List.mem_filterMap.1 hq
        have hzz := side_in a b _ (by rw [HS.out] at hz; exact hz)
        cases zy with
        | none => exact HOa.out q (hzz.2.1 q e)
        | some y => cases e; exact HOb.out q (hzz.2.2 q rfl)
      have HAp : Hid (Dl.joinL (edl a) (edl b) = edl (S.filterMap tJ)) := by
        have h := join_told HEA0.out HEB0.out
        show _ = _
        rw [HS.out]
        exact h
      have HR3 : Hid (RP = if 200 < (S.filterMap tJ).length then ([], 2) else (edl (S.filterMap tJ), 0)) := by
        show _ = _
        rw [HP.out, if_neg (fun q => q HEA0.out), if_neg (fun q => q HEB0.out), HAp.out, edl_length]
      obtain ⟨av, ac, rfl⟩ := own_form HO1.out
      obtain ⟨M, hM⟩ : ∃ M, M = (S.filterMap tJ).length := ⟨_, rfl⟩
      have HM : Hid (M = (S.filterMap tJ).length) := hM
      rw [← hM] at HO1 HR3 HLn ⊢
      clear HP hM
      by_cases c3 : 200 < M
      · have hgt : ((M : Int) > 200) := by omega
        have HRe : Hid (RP = ([], 2)) := by show _ = _; rw [HR3.out, if_pos c3]
        clear HR3 c3
        go_wp2_with fail
        go_ret2
        exact ⟨_, [], by rw [HRe.out]; rfl, World.ownsRow_nil _ _ _ _, by rw [HRe.out]; rfl, fun x hx => absurd hx List.not_mem_nil, HBw.out⟩
      have hgt : ¬ ((M : Int) > 200) := by omega
      have HRe : Hid (RP = (edl (S.filterMap tJ), 0)) := by show _ = _; rw [HR3.out, if_neg c3]
      have hown := ownEdits_any (.slice av M ac) (S.filterMap tJ) wr _ (by rw [← HM.out]; exact HO1.out) HK.out (by have := HLn.out; have := HM.out; omega)
      clear HR3 c3
      go_wp2_with fail
      refine hown.mono ?_
      rintro e w6 ⟨rfl, b6⟩
      have HB6 : Hid (Below w.heap.size w w6) := HBw.out.trans (b6.mono HBw.out.size)
      have HO6 : Hid (w6.ownsRow w.heap.size 30 7 (.slice av M ac) (S.filterMap tJ).length (rowR emC (S.filterMap tJ))) := by
        rw [← HM.out]; exact own_lower (own_below HO1.out b6) HB4.out.size
      clear hown b6
      go_wp2_with fail
      go_ret2
      exact ⟨_, S.filterMap tJ, by rw [HRe.out]; rfl, HO6.out, by rw [HRe.out], HK.out, HB6.out⟩
end Go.Proofs.YthpcbbkpjggjbaaGreatDoor
namespace Go.Proofs.YthpcbbkpjggjbaaGreatDoor
namespace Dl
open Wk (Bs It)
theorem join_zero {l m L : List Ed} (h : join l m = (L, 0)) : check l = 0 ∧ check m = 0 ∧ L = joinL l m ∧ (joinL l m).length ≤ 200 := by
  unfold join at h
  split at h
  · rename_i q; exact absurd (congrArg Prod.snd h) q
  · rename_i q1
    split at h
    · rename_i q; exact absurd (congrArg Prod.snd h) q
    · rename_i q2
      split at h
      · exact absurd (show (2 : Int) = 0 from congrArg Prod.snd h) (by decide)
      · rename_i q3
        exact ⟨Decidable.not_not.mp q1, Decidable.not_not.mp q2, (congrArg Prod.fst h).symm, Nat.le_of_not_lt q3⟩
theorem apply_zero {a : List It} {l : List Ed} {B : List It} (h : apply a l = (B, 0)) : Wk.world a = 0 ∧ check l = 0 ∧ B = appL a l ∧ Wk.world (appL a l) = 0 := by
  unfold apply at h
  split at h
  · rename_i q; exact absurd (congrArg Prod.snd h) q
  · rename_i q1
    split at h
    · rename_i q; exact absurd (congrArg Prod.snd h) q
    · rename_i q2
      split at h
      · rename_i q; exact absurd (congrArg Prod.snd h) q
      · rename_i q3
        exact ⟨Decidable.not_not.mp q1, Decidable.not_not.mp q2, (congrArg Prod.fst h).symm, Decidable.not_not.mp q3⟩
end Dl
end Go.Proofs.YthpcbbkpjggjbaaGreatDoor
namespace Go.Proofs.YthpcbbkpjggjbaaGreatDoor
open Go.RowKit
theorem info_three {P : Program} {e : TypeId} {z : Option Value} {s b : Nat} (h : (P.info? e).map (fun i => (i.zero, i.size, i.bytes)) = some (z, s, b)) : ∃ i, P.info? e = some i ∧ i.zero = z ∧ i.size = s ∧ i.bytes = b := by
  cases hi : P.info? e with
  | none => rw [hi] at h; cases h
  | some i =>
    rw [hi] at h
    simp only [Option.map_some, Option.some.injEq, Prod.mk.injEq] at h
    exact ⟨i, rfl, h.1, h.2.1, h.2.2⟩
theorem Rx.src {α : Type} {k : Nat} {C : α → List Value} {w : World} {a : Option Addr} {n c : Nat} {l : List α} (hC : ∀ t, (C t).length = k) (hk : 0 < k) (h : Rx k C w (.slice a n c) l) : (a = none → l.length = 0) ∧ ∀ ad, a = some ad → ∀ j u, (rowR C l)[j]? = some u → w.cell? (ad.add j) = some u := by
  rcases h.at_ with ⟨_, rfl⟩ | ⟨bk, o, cap, h1, h3, h4⟩
  · exact ⟨fun _ => rfl, fun ad _ j u hj => by simp [rowR] at hj⟩
  · rw [Value.slice.injEq] at h1
    obtain ⟨rfl, rfl, rfl⟩ := h1
    refine ⟨fun e => by simp at e, fun ad e j u hj => ?_⟩
    obtain rfl := Option.some.inj e
    have hjl : j < l.length * k := by
      have := (List.getElem?_eq_some_iff.1 hj).1
      rwa [rowR_length hC] at this
    have hr : j % k < k := Nat.mod_lt _ hk
    have hq : j / k < l.length := (Nat.div_lt_iff_lt_mul hk).2 hjl
    have ej : j / k * k + j % k = j := by have := Nat.div_add_mod j k; rw [Nat.mul_comm] at this; exact this
    rw [← ej, rowR_get hC l (j / k) (j % k) l[j / k] (List.getElem?_eq_getElem hq) hr] at hj
    have := h4 (j / k) _ (List.getElem?_eq_getElem hq) (j % k) u hj
    rw [Nat.add_assoc, ej] at this
    rw [show ((⟨bk, o, none⟩ : Addr).add j) = ⟨bk, o + j, none⟩ from Addr.add_mid _ _ _]
    exact this
set_option maxHeartbeats 2000000 in
theorem Kept.setCells {p : Nat → Prop} {A B : World} (h : Kept p A B) {g : Nat} (hg : ¬ p g) (o : Nat) (vs : List Value) : Kept p A (B.setCells g o vs) := by
  induction vs generalizing B o with
  | nil => exact h
  | cons v vs ih => exact ih (h.setCell (a := ⟨g, o, none⟩) hg v) (o + 1)
theorem append_none_c {P : Program} (w : World) (base : Nat) (t ty e : TypeId) (i : TypeInfo) (size : Nat) (ht : P.underlying t = some (.slice e)) (hi : P.info? e = some i) (v : Value) (n : Nat) (xs : List Value) (hown : w.ownsRow base e size v n xs) (c : Nat) :
    (Builtin.append_ #[t, t] ty #[v, .slice none 0 c]).run P w = .ok v w := by
  rcases hown.2 with ⟨rfl, rfl⟩ | ⟨g, cap, cur, rfl, _, _, hnc, _⟩
  · simp [Builtin.append_, run_underlying ht, sizeOf, typeInfo, hi, Builtin.lenOf, Builtin.firstCells]
  · simp [Builtin.append_, run_underlying ht, sizeOf, typeInfo, hi, Builtin.lenOf, Builtin.firstCells, hnc, storeCells]
theorem run_fits_all {P : Program} (w : World) (base : Nat) (t ty e : TypeId) (i : TypeInfo) (size : Nat) (ht : P.underlying t = some (.slice e)) (hi : P.info? e = some i) (hsize : i.size = size)
    (g n cap : Nat) (xs : List Value) (hown : w.ownsRow base e size (.slice (some ⟨g, 0, none⟩) n cap) n xs) (ao : Option Addr) (m c : Nat) (news : List Value) (hl : news.length = m * size) (hnone : ao = none → m = 0)
    (hnews : ∀ ad, ao = some ad → ∀ j u, news[j]? = some u → w.cell? (ad.add j) = some u) (h1 : ∀ u ∈ news, u.oneCell' = true) (hroom : n + m ≤ cap) :
    ∃ w', (Builtin.append_ #[t, t] ty #[.slice (some ⟨g, 0, none⟩) n cap, .slice ao m c]).run P w = .ok (.slice (some ⟨g, 0, none⟩) (n + m) cap) w' ∧
      w'.ownsRow base e size (.slice (some ⟨g, 0, none⟩) (n + m) cap) (n + m) (xs ++ news) ∧ w.grownBy w' (some g) := by
  cases ao with
  | some ad => exact run_append_fits w base t ty e i size ht hi hsize g n cap xs hown ad m c news hl (hnews ad rfl) h1 hroom
  | none =>
    obtain rfl := hnone rfl
    have hnews : news = [] := List.eq_nil_of_length_eq_zero (by simpa using hl)
    subst hnews
    exact ⟨w, append_none_c w base t ty e i size ht hi _ n xs hown c, by simpa using hown, ⟨rfl, rfl, rfl, Nat.le_refl _, fun _ _ _ => rfl⟩⟩
theorem step_of_wp {P : Program} {ops : Array Oper} {o : Oper} {a : Act} {w : World} {K : Act → World → Prop} {Q : Exit → Act → World → Prop} {E : Prop} (hg : o.guard = none) (h : Oper.wp P o a w K Q) : if Region.wanted o (yielded ops a.tmps) = true then Oper.wp P o a w K Q else E := by
  rw [if_pos (by simp [Region.wanted, hg])]
  exact h
theorem step_fits_all {P : Program} (w : World) {ops : Array Oper} {o : Oper} {a : Act} {K : Act → World → Prop} {Q : Exit → Act → World → Prop} {E : Prop}
    (hg : o.guard = none) (s x : Operand) (t : TypeId) (hop : o.op = Op.call { callee := Callee.builtin Builtin.append, args := #[s, x], argTypes := #[t, t] })
    (base : Nat) (e : TypeId) (i : TypeInfo) (size : Nat) (h1 : P.underlying t = some (.slice e)) (h2 : P.info? e = some i) (h4 : i.size = size)
    (g k cap : Nat) (xs : List Value) (hs : a.eval s = .slice (some ⟨g, 0, none⟩) k cap) (hown : w.ownsRow base e size (.slice (some ⟨g, 0, none⟩) k cap) k xs) (ao : Option Addr) (m c : Nat) (news : List Value) (hx : a.eval x = .slice ao m c) (hn : news.length = m * size)
    (hnone : ao = none → m = 0) (hc : ∀ ad, ao = some ad → ∀ j u, news[j]? = some u → w.cell? (ad.add j) = some u) (h1c : ∀ u ∈ news, u.oneCell' = true) (b1 : k + m ≤ cap) (km : Nat) (hkm : km = k + m)
    (hK : ∀ w', w'.ownsRow base e size (.slice (some ⟨g, 0, none⟩) km cap) km (xs ++ news) → w.grownBy w' (some g) → K (a.put o.dst (.slice (some ⟨g, 0, none⟩) km cap)) w') :
    if Region.wanted o (yielded ops a.tmps) = true then Oper.wp P o a w K Q else E := by
  refine step_of_wp hg ?_
  obtain ⟨w', hrun, r1, r2⟩ := run_fits_all (P := P) w base t o.type e i size h1 h2 h4 g k cap xs hown ao m c news hn hnone hc h1c b1
  subst hkm
  unfold Oper.wp
  simp [execOp, hop, resolve, invoke, builtin, hs, hx, hrun, Result.andThen]
  exact hK w' r1 r2
structure Room (W : World) (g n : Nat) (e : TypeId) : Prop where
  at_ : ∃ cur, W.heap[g]? = some (.cells cur e (0, 0)) ∧ cur.size = n
theorem Room.cell {W : World} {g n : Nat} {e : TypeId} (h : Room W g n e) (j : Nat) (hj : j < n) : (∃ x, W.cell? ⟨g, j, none⟩ = some x) ∧ W.frozen? ⟨g, j, none⟩ = false := by
  obtain ⟨cur, h1, h2⟩ := h.at_
  refine ⟨⟨cur[j]'(by omega), ?_⟩, frozen_of_row W g j cur e h1⟩
  rw [cell_of_row W g j cur e (0, 0) h1]
  simp [h2, hj]
theorem Room.set {W : World} {g n : Nat} {e : TypeId} (h : Room W g n e) (j : Nat) (u : Value) : Room (W.setCell ⟨g, j, none⟩ u) g n e := by
  obtain ⟨cur, h1, h2⟩ := h.at_
  exact ⟨_, heap_setCell_same W g j cur e u h1, by simpa using h2⟩
theorem Room.of_own {W : World} {base g n cap k : Nat} {e : TypeId} {xs : List Value} (h : W.ownsRow base e k (.slice (some ⟨g, 0, none⟩) n cap) n xs) : Room W g (cap * k) e := by
  rcases h.2 with ⟨e, _⟩ | ⟨g', cap', cur, e, _, hh, _, _, hs, _⟩
  · simp at e
  · simp at e
    obtain ⟨rfl, rfl⟩ := e
    exact ⟨cur, hh, hs⟩
theorem Room.kept {p : Nat → Prop} {W W' : World} {g n : Nat} {e : TypeId} (h : Room W g n e) (hk : Kept p W W') (hp : p g) : Room W' g n e := by
  obtain ⟨cur, h1, h2⟩ := h.at_
  exact ⟨cur, hk.obj hp h1, h2⟩
theorem rown_low {base base' : Nat} {e : TypeId} {k : Nat} {v : Value} {n : Nat} {xs : List Value} {w : World} (h : w.ownsRow base e k v n xs) (hb : base' ≤ base) : w.ownsRow base' e k v n xs := by
  refine ⟨h.1, ?_⟩
  rcases h.2 with h' | ⟨g, cap, cur, h1, h2, r⟩
  · exact .inl h'
  · exact .inr ⟨g, cap, cur, h1, Nat.le_trans hb h2, r⟩
theorem addp_at (g o j : Nat) : (⟨g, o, none⟩ : Addr).add j = ⟨g, o + j, none⟩ := Addr.add_mid _ _ _
theorem Room.setCells {g n : Nat} {e : TypeId} : ∀ (vs : List Value) (o : Nat) {W : World}, Room W g n e → Room (W.setCells g o vs) g n e
  | [], _, _, h => h
  | v :: r, o, _, h => Room.setCells r (o + 1) (h.set o v)
theorem Room.there {W : World} {g n o k : Nat} {e : TypeId} (h : Room W g n e) (ho : o + k ≤ n) : W.there g o k := fun j hj => by
  obtain ⟨⟨x, hx⟩, hf⟩ := h.cell (o + j) (by omega)
  exact ⟨by rw [hx]; rfl, hf⟩
theorem range_block {W : World} {g : Nat} {cs : List Value} {e : TypeId} {fr : Nat × Nat} (h : W.heap[g]? = some (.cells cs.toArray e fr)) : W.rangeAt g 0 cs := fun j v hv => by
  rw [Nat.zero_add, cell_of_row W g j _ _ _ h]
  simpa using hv
section
variable {α : Type} {k : Nat} {C : α → List Value}
theorem rowR_two (l : List α) (f : α) : rowR C (l ++ [f, f]) = rowR C l ++ rowR C [f, f] := by simp [rowR]
theorem amp_cell (hC : ∀ t, (C t).length = k) {base g : Nat} {T : TypeId} {w : World} {l : List α} {f : α} (h : w.ownsRow base T k (.slice (some ⟨g, 0, none⟩) (l.length + 2) (l.length + 3)) (l.length + 2) (rowR C (l ++ [f, f]))) (i : Nat) (t : α) (hi : (l ++ [f, f])[i]? = some t) (r : Nat) (u : Value) (hu : (C t)[r]? = some u) : w.cell? ⟨g, i * k + r, none⟩ = some u := by
  have hr : r < k := by
    have := (List.getElem?_eq_some_iff.1 hu).1
    rwa [hC] at this
  have := World.ownsRow.cells h (g := g) rfl (i * k + r) u (by rw [rowR_get hC _ i r t hi hr]; exact hu)
  rwa [addp_at, Nat.zero_add] at this
theorem amp_rx (hC : ∀ t, (C t).length = k) {base g : Nat} {T : TypeId} {w : World} {l : List α} {f : α} (h : w.ownsRow base T k (.slice (some ⟨g, 0, none⟩) (l.length + 2) (l.length + 3)) (l.length + 2) (rowR C (l ++ [f, f]))) (hl : l.length ≤ 140737488351232) : Rx k C w (.slice (some ⟨g, 0, none⟩) l.length (l.length + 3)) l := by
  refine ⟨.inr ⟨g, 0, l.length + 3, rfl, (h.lt g rfl).2, fun j t hj r u hu => ?_⟩, _, _, _, rfl, by omega, by omega⟩
  rw [Nat.zero_add]
  exact amp_cell hC h j t (by rw [List.getElem?_append_left (List.getElem?_eq_some_iff.1 hj).1]; exact hj) r u hu
theorem amp_fill (hC : ∀ t, (C t).length = k) {base g : Nat} {T : TypeId} {w : World} {l : List α} {f : α} (h : w.ownsRow base T k (.slice (some ⟨g, 0, none⟩) (l.length + 2) (l.length + 3)) (l.length + 2) (rowR C (l ++ [f, f]))) (i : Nat) (hi : i = l.length ∨ i = l.length + 1) (r : Nat) (u : Value) (hu : (C f)[r]? = some u) : w.cell? ⟨g, i * k + r, none⟩ = some u := by
  refine amp_cell hC h i f ?_ r u hu
  rcases hi with rfl | rfl <;> simp
theorem two_rows {W : World} {B : Nat} {T : TypeId} {f : α} (h : W.heap[B]? = some (.cells (rowR C [f, f]).toArray T (0, 0))) : ∀ ad, some (⟨B, 0, none⟩ : Addr) = some ad → ∀ j u, (rowR C [f, f])[j]? = some u → W.cell? (ad.add j) = some u := by
  intro ad e j u hj
  obtain rfl := Option.some.inj e
  rw [addp_at, Nat.zero_add, cell_of_row W B j _ _ _ h]
  simpa using hj
end
end Go.Proofs.YthpcbbkpjggjbaaGreatDoor
namespace Go.Proofs.YthpcbbkpjggjbaaGreatDoor
open Go.RowKit
set_option maxRecDepth 4000
theorem info_im : (Tryz.prog.info? 27).map (fun i => (i.zero, i.size, i.bytes)) = some (some (.agg #[.string ⟨#[]⟩, .int .i64 0, .int .i64 0, .int .i64 0, .string ⟨#[]⟩]), 5, 56) := by kernel_rfl
theorem equal_im (v1 v2 : Value) (l : List Im) (w : World) (h1 : Rx 5 imC w v1 l) (h2 : Rx 5 imC w v2 l) (hl : l.length * 56 ≤ 140737488351232) :
    Calls Tryz.prog 19 #[v1, v2] w fun e w' => e = .returned (.bool true) ∧ Below w.heap.size w w' :=
  (equal_items v1 v2 l l w h1 h2 (by omega)).mono fun _ _ ⟨_, h3, h4, h5⟩ => ⟨by rw [h3, h4.2 rfl], h5⟩
set_option maxHeartbeats 16000000 in
theorem ample_ims (v : Value) (l : List Im) (s0 s4 : ByteArray) (i1 i2 i3 : Int) (w : World) (h : Rx 5 imC w v l) (hl : l.length * 56 ≤ 140737488351232) :
    Calls Tryz.prog 5 #[v, .agg #[.string s0, .int .i64 i1, .int .i64 i2, .int .i64 i3, .string s4]] w fun e w' => ∃ g, e = .returned (.slice (some ⟨g, 0, none⟩) l.length (l.length + 3)) ∧ w'.ownsRow w.heap.size 27 5 (.slice (some ⟨g, 0, none⟩) (l.length + 2) (l.length + 3)) (l.length + 2) (rowR imC (l ++ [(⟨s0, i1, i2, i3, s4⟩ : Im), (⟨s0, i1, i2, i3, s4⟩ : Im)])) ∧ Below w.heap.size w w' := by
  obtain ⟨i0, hi, hz0, hz1, hz2⟩ := info_three info_im
  obtain ⟨a, c, rfl, hcc1, hcc2⟩ := h.slice
  obtain ⟨W1, hW1⟩ : ∃ W1, W1 = w.alloc (.cells #[.string s0, .int .i64 i1, .int .i64 i2, .int .i64 i3, .string s4] 27) := ⟨_, rfl⟩
  have hB1 : Below w.heap.size w W1 := by rw [hW1]; exact (Below.refl _ w).alloc (Nat.le_refl _) _
  have hs1 : w.heap.size < W1.heap.size := by rw [hW1]; show _ < (w.heap.push _).size; simp
  have hbk1 : W1.heap[w.heap.size]? = some (.cells #[.string s0, .int .i64 i1, .int .i64 i2, .int .i64 i3, .string s4] 27 (0, 0)) := by rw [hW1]; exact heap_alloc_new w _
  have HSX : Hid (∀ W, Below W1.heap.size W1 W → W.cell? ⟨w.heap.size, 0, none⟩ = some (.string s0) ∧ W.cell? ⟨w.heap.size, 1, none⟩ = some (.int .i64 i1) ∧ W.cell? ⟨w.heap.size, 2, none⟩ = some (.int .i64 i2) ∧ W.cell? ⟨w.heap.size, 3, none⟩ = some (.int .i64 i3) ∧ W.cell? ⟨w.heap.size, 4, none⟩ = some (.string s4)) := fun W hW => by
    have e : W.heap[w.heap.size]? = _ := (hW.block _ hs1).trans hbk1
    have key := fun j => cell_of_row W w.heap.size j _ _ _ e
    exact ⟨key 0, key 1, key 2, key 3, key 4⟩
  have HSR : Hid (∀ W, Below W1.heap.size W1 W → (a = none → l.length = 0) ∧ ∀ ad, a = some ad → ∀ j u, (rowR imC l)[j]? = some u → W.cell? (ad.add j) = some u) := fun W hW =>
    (h.below (hB1.trans (hW.mono (by omega)))).src imC_length (by omega)
  have HB1 : Hid (Below w.heap.size w W1) := hB1
  have B0 : Hid (Below W1.heap.size W1 W1.drew) := (Below.refl _ W1).drew
  have BX : Hid (∀ o, Below W1.heap.size W1 (W1.alloc o).drew) := fun o => ((Below.refl _ W1).alloc (Nat.le_refl _) o).drew
  have HTW : Hid ((#[.string s0, .int .i64 i1, .int .i64 i2, .int .i64 i3, .string s4, .string s0, .int .i64 i1, .int .i64 i2, .int .i64 i3, .string s4] : Array Value) = (rowR imC [(⟨s0, i1, i2, i3, s4⟩ : Im), (⟨s0, i1, i2, i3, s4⟩ : Im)]).toArray) := rfl
  clear h hB1 hcc1 hcc2 hbk1
  go_enter Tryz.func5, Tryz.ntmps5
  go_wp2_with fail
  rw [← hW1]
  clear hW1
  go_cut [5] from 6 (fun x wx => ∃ g, x = .slice (some ⟨g, 0, none⟩) (l.length + 2) (l.length + 3) ∧ Hid (wx.ownsRow W1.heap.size 27 5 (.slice (some ⟨g, 0, none⟩) (l.length + 2) (l.length + 3)) (l.length + 2) (rowR imC (l ++ [(⟨s0, i1, i2, i3, s4⟩ : Im), (⟨s0, i1, i2, i3, s4⟩ : Im)])) ∧ Below W1.heap.size W1 wx))
  case first =>
    have hwr : IntKind.i64.wrap ((l.length : Int) + 3) = ((l.length + 3 : Nat) : Int) := by rw [IntKind.wrap_i64]; omega
    obtain ⟨w1, hr1, o1, g1⟩ := run_make_own (P := Tryz.prog) W1.drew W1.heap.size 22 27 i0 ((.agg #[.string ⟨#[]⟩, .int .i64 0, .int .i64 0, .int .i64 0, .string ⟨#[]⟩])) 5 Tryz.underlying22 hi hz0 hz1 .i64 .i64 (l.length + 3) (by rw [hz2]; omega) (by unfold maxLen; omega) (by simp)
    obtain ⟨w1x, hr1x, o1x, g1x⟩ := run_make_own (P := Tryz.prog) (W1.alloc (.cells #[.string s0, .int .i64 i1, .int .i64 i2, .int .i64 i3, .string s4, .string s0, .int .i64 i1, .int .i64 i2, .int .i64 i3, .string s4] 27)).drew W1.heap.size 22 27 i0 ((.agg #[.string ⟨#[]⟩, .int .i64 0, .int .i64 0, .int .i64 0, .string ⟨#[]⟩])) 5 Tryz.underlying22 hi hz0 hz1 .i64 .i64 (l.length + 3) (by rw [hz2]; omega) (by unfold maxLen; omega) (by simp)
    rw [← hwr] at hr1 hr1x
    have hb1 : Below W1.heap.size W1 w1 := B0.out.grown g1 (by simp) (fun k hk => by cases hk)
    have hb1x : Below W1.heap.size W1 w1x := (BX.out _).grown g1x (by simp) (fun k hk => by cases hk)
    have HX1 : Hid (w1x.heap[W1.heap.size]? = some (.cells (rowR imC [(⟨s0, i1, i2, i3, s4⟩ : Im), (⟨s0, i1, i2, i3, s4⟩ : Im)]).toArray 27 (0, 0))) := by show _ = _; rw [← HTW.out]; exact (g1x.block _ (by simp) (by simp)).trans (heap_alloc_new W1 _)
    have hz1' := hb1.size
    have hz1x := hb1x.size
    have O1 : w1.ownsRow W1.heap.size 27 5 (.slice (some ⟨W1.heap.size, 0, none⟩) 0 (l.length + 3)) 0 [] := o1
    have O1x : w1x.ownsRow W1.heap.size 27 5 (.slice (some ⟨W1.heap.size + 1, 0, none⟩) 0 (l.length + 3)) 0 [] := by simpa using o1x
    have hx1 : W1.heap.size + 1 < w1x.heap.size := (O1x.lt _ rfl).2
    have hx2 : W1.heap.size < w1.heap.size := (O1.lt _ rfl).2
    have hr1' : (Instr.makeSlice 22 (.int .i64 0) (.int .i64 (IntKind.i64.wrap ((l.length : Int) + 3)))).run Tryz.prog W1.drew = .ok (.slice (some ⟨W1.heap.size, 0, none⟩) 0 (l.length + 3)) w1 := hr1
    have hr2' : (Instr.makeSlice 22 (.int .i64 0) (.int .i64 (IntKind.i64.wrap ((l.length : Int) + 3)))).run Tryz.prog (W1.alloc (.cells #[.string s0, .int .i64 i1, .int .i64 i2, .int .i64 i3, .string s4, .string s0, .int .i64 i1, .int .i64 i2, .int .i64 i3, .string s4] 27)).drew = .ok (.slice (some ⟨W1.heap.size + 1, 0, none⟩) 0 (l.length + 3)) w1x := by simpa using hr1x
    clear o1 o1x g1 g1x hr1 hr1x hwr
    go_region_held3 (fun w' => w'.cell? ⟨w.heap.size, 0, none⟩ = some (.string s0) ∧ w'.cell? ⟨w.heap.size, 1, none⟩ = some (.int .i64 i1) ∧ w'.cell? ⟨w.heap.size, 2, none⟩ = some (.int .i64 i2) ∧ w'.cell? ⟨w.heap.size, 3, none⟩ = some (.int .i64 i3) ∧ w'.cell? ⟨w.heap.size, 4, none⟩ = some (.string s4))
      (first | with_reducible exact HSX.out _ hb3 | with_reducible exact HSX.out _ (hb2.alloc hb2.size _) | with_reducible exact HSX.out _ hb2 | with_reducible exact HSX.out _ (hb1.alloc hz1' _) | with_reducible exact HSX.out _ hb1 | with_reducible exact HSX.out _ hb1x | with_reducible exact HSX.out _ (BX.out _) | with_reducible exact HSX.out _ B0.out | go_keep)
      (first
        | (refine step_fits_all _ (by rfl) (.tmp 9) (.tmp 10) 22 (by rfl) W1.heap.size 27 i0 5 Tryz.underlying22 hi hz1 _ _ _ _ (by rfl) O1 _ _ _ (rowR imC l) (by rfl) (by rw [rowR_length imC_length]) (HSR.out _ hb1).1 (HSR.out _ hb1).2 (rowR_one imC_one _) (by omega) l.length (by omega) ?_; intro w2 o2 g2; rw [List.nil_append] at o2; have hb2 : Below W1.heap.size W1 w2 := hb1.grown g2 hz1' (fun k hk => by cases hk; omega))
        | (refine step_fits_all _ (by rfl) (.tmp 9) (.tmp 10) 22 (by rfl) W1.heap.size 27 i0 5 Tryz.underlying22 hi hz1 _ _ _ _ (by rfl) (O1.alloc _) _ _ _ (rowR imC l) (by rfl) (by rw [rowR_length imC_length]) (HSR.out _ hb1).1 (HSR.out _ (hb1.alloc hz1' _)).2 (rowR_one imC_one _) (by omega) l.length (by omega) ?_; intro w2 o2 g2; rw [List.nil_append] at o2; have hb2 : Below W1.heap.size W1 w2 := (hb1.alloc hz1' _).grown g2 (by simp; omega) (fun k hk => by cases hk; omega); have HX2 : Hid (w2.heap[w1.heap.size]? = some (.cells (rowR imC [(⟨s0, i1, i2, i3, s4⟩ : Im), (⟨s0, i1, i2, i3, s4⟩ : Im)]).toArray 27 (0, 0))) := (by show _ = _; rw [← HTW.out]; exact (g2.block _ (by simp) (by simp; omega)).trans (heap_alloc_new w1 _)))
        | (refine step_fits_all _ (by rfl) (.tmp 9) (.tmp 10) 22 (by rfl) W1.heap.size 27 i0 5 Tryz.underlying22 hi hz1 _ _ _ _ (by rfl) O1x _ _ _ (rowR imC l) (by rfl) (by rw [rowR_length imC_length]) (HSR.out _ hb1x).1 (HSR.out _ hb1x).2 (rowR_one imC_one _) (by omega) l.length (by omega) ?_; intro w2 o2 g2; rw [List.nil_append] at o2; have hb2 : Below W1.heap.size W1 w2 := hb1x.grown g2 hz1x (fun k hk => by cases hk; omega); have HX2 : Hid (w2.heap[W1.heap.size]? = some (.cells (rowR imC [(⟨s0, i1, i2, i3, s4⟩ : Im), (⟨s0, i1, i2, i3, s4⟩ : Im)]).toArray 27 (0, 0))) := (g2.block _ (by omega) (by simp)).trans HX1.out)
        | (refine step_fits_all _ (by rfl) (.tmp 11) (.tmp 14) 22 (by rfl) W1.heap.size 27 i0 5 Tryz.underlying22 hi hz1 _ _ _ _ (by rfl) (o2.alloc _) _ _ _ (rowR imC [(⟨s0, i1, i2, i3, s4⟩ : Im), (⟨s0, i1, i2, i3, s4⟩ : Im)]) (by rfl) (by rfl) (by simp) (two_rows (by rw [← HTW.out]; exact heap_alloc_new w2 _)) (rowR_one imC_one _) (by omega) (l.length + 2) (by omega) ?_; intro w3 o3 g3; have hb3 : Below W1.heap.size W1 w3 := (hb2.alloc hb2.size _).grown g3 (Nat.le_trans hb2.size (by simp)) (fun k hk => by cases hk; omega))
        | (refine step_fits_all _ (by rfl) (.tmp 11) (.tmp 14) 22 (by rfl) W1.heap.size 27 i0 5 Tryz.underlying22 hi hz1 _ _ _ _ (by rfl) o2 _ _ _ (rowR imC [(⟨s0, i1, i2, i3, s4⟩ : Im), (⟨s0, i1, i2, i3, s4⟩ : Im)]) (by rfl) (by rfl) (by simp) (two_rows HX2.out) (rowR_one imC_one _) (by omega) (l.length + 2) (by omega) ?_; intro w3 o3 g3; have hb3 : Below W1.heap.size W1 w3 := hb2.grown g3 hb2.size (fun k hk => by cases hk; omega)))
    all_goals
      go_wp2_with fail
      go_meet
      exact ⟨_, rfl, by rw [rowR_two]; exact o3, hb3⟩
  case rest =>
  obtain ⟨g, rfl, ho⟩ := hcut
  have HO := ho.out.1
  have HB := HB1.out.trans (ho.out.2.mono (by omega))
  have HO' : Hid (wc.ownsRow w.heap.size 27 5 (.slice (some ⟨g, 0, none⟩) (l.length + 2) (l.length + 3)) (l.length + 2) (rowR imC (l ++ [(⟨s0, i1, i2, i3, s4⟩ : Im), (⟨s0, i1, i2, i3, s4⟩ : Im)]))) := rown_low HO (by omega)
  have HB' : Hid (Below w.heap.size w wc) := HB
  clear HO HB ho
  go_wp2_with fail
  go_ret
  exact ⟨_, rfl, HO'.out, HB'.out⟩
set_option maxHeartbeats 8000000 in
theorem stays_ims (g : Nat) (u : Value) (l : List Im) (s0 s4 : ByteArray) (i1 i2 i3 : Int) (w : World) (base : Nat) (h : w.ownsRow base 27 5 (.slice (some ⟨g, 0, none⟩) (l.length + 2) (l.length + 3)) (l.length + 2) (rowR imC (l ++ [(⟨s0, i1, i2, i3, s4⟩ : Im), (⟨s0, i1, i2, i3, s4⟩ : Im)]))) (k : Rx 5 imC w u l) (hl : l.length * 56 ≤ 140737488351232) :
    Calls Tryz.prog 12 #[.slice (some ⟨g, 0, none⟩) l.length (l.length + 3), u, .agg #[.string s0, .int .i64 i1, .int .i64 i2, .int .i64 i3, .string s4]] w fun e w' => e = .returned (.bool true) ∧ Below w.heap.size w w' := by
  have hlt : g < w.heap.size := (h.lt g rfl).2
  have cx := amp_fill imC_length h l.length (.inl rfl)
  have cy := amp_fill imC_length h (l.length + 1) (.inr rfl)
  obtain ⟨W1, hW1⟩ : ∃ W1, W1 = w.alloc (.cells #[.string s0, .int .i64 i1, .int .i64 i2, .int .i64 i3, .string s4] 27) := ⟨_, rfl⟩
  have hb1 : Below w.heap.size w W1 := by rw [hW1]; exact (Below.refl _ w).alloc (Nat.le_refl _) _
  have hz1 : w.heap.size < W1.heap.size := by rw [hW1]; show _ < (w.heap.push _).size; simp
  have hbk1 : W1.heap[w.heap.size]? = some (.cells #[.string s0, .int .i64 i1, .int .i64 i2, .int .i64 i3, .string s4] 27 (0, 0)) := by rw [hW1]; exact heap_alloc_new w _
  have heq : ∀ X : Since W1.heap.size W1, Calls Tryz.prog 19 #[.slice (some ⟨g, 0, none⟩) l.length (l.length + 3), u] X.val fun e w' => e = .returned (.bool true) ∧ Below X.val.heap.size X.val w' := fun X =>
    equal_im _ _ l X.val ((amp_rx imC_length h (by omega)).below (hb1.trans (X.property.mono (by omega)))) (k.below (hb1.trans (X.property.mono (by omega)))) (by omega)
  have hcell : ∀ (X : Since W1.heap.size W1) (o : Nat), X.val.cell? ⟨g, o, none⟩ = w.cell? ⟨g, o, none⟩ := fun X o => (X.property.cell (p := ⟨g, o, none⟩) (by show g < _; omega)).trans (hb1.cell (p := ⟨g, o, none⟩) hlt)
  have x0 : ∀ X : Since W1.heap.size W1, X.val.cell? ⟨g, l.length * 5, none⟩ = some (.string s0) := fun X => (hcell X _).trans (cx 0 _ rfl)
  have y0 : ∀ X : Since W1.heap.size W1, X.val.cell? ⟨g, (l.length + 1) * 5, none⟩ = some (.string s0) := fun X => (hcell X _).trans (cy 0 _ rfl)
  have b0b : ∀ X : Since W1.heap.size W1, X.val.cell? ⟨w.heap.size, 0, none⟩ = some (.string s0) := fun X => (X.property.cell (p := ⟨w.heap.size, 0, none⟩) hz1).trans (cell_of_row _ _ 0 _ _ _ hbk1)
  have x1 : ∀ X : Since W1.heap.size W1, X.val.cell? ⟨g, l.length * 5 + 1, none⟩ = some (.int .i64 i1) := fun X => (hcell X _).trans (cx 1 _ rfl)
  have y1 : ∀ X : Since W1.heap.size W1, X.val.cell? ⟨g, (l.length + 1) * 5 + 1, none⟩ = some (.int .i64 i1) := fun X => (hcell X _).trans (cy 1 _ rfl)
  have b1b : ∀ X : Since W1.heap.size W1, X.val.cell? ⟨w.heap.size, 1, none⟩ = some (.int .i64 i1) := fun X => (X.property.cell (p := ⟨w.heap.size, 1, none⟩) hz1).trans (cell_of_row _ _ 1 _ _ _ hbk1)
  have x2 : ∀ X : Since W1.heap.size W1, X.val.cell? ⟨g, l.length * 5 + 2, none⟩ = some (.int .i64 i2) := fun X => (hcell X _).trans (cx 2 _ rfl)
  have y2 : ∀ X : Since W1.heap.size W1, X.val.cell? ⟨g, (l.length + 1) * 5 + 2, none⟩ = some (.int .i64 i2) := fun X => (hcell X _).trans (cy 2 _ rfl)
  have b2b : ∀ X : Since W1.heap.size W1, X.val.cell? ⟨w.heap.size, 2, none⟩ = some (.int .i64 i2) := fun X => (X.property.cell (p := ⟨w.heap.size, 2, none⟩) hz1).trans (cell_of_row _ _ 2 _ _ _ hbk1)
  have x3 : ∀ X : Since W1.heap.size W1, X.val.cell? ⟨g, l.length * 5 + 3, none⟩ = some (.int .i64 i3) := fun X => (hcell X _).trans (cx 3 _ rfl)
  have y3 : ∀ X : Since W1.heap.size W1, X.val.cell? ⟨g, (l.length + 1) * 5 + 3, none⟩ = some (.int .i64 i3) := fun X => (hcell X _).trans (cy 3 _ rfl)
  have b3b : ∀ X : Since W1.heap.size W1, X.val.cell? ⟨w.heap.size, 3, none⟩ = some (.int .i64 i3) := fun X => (X.property.cell (p := ⟨w.heap.size, 3, none⟩) hz1).trans (cell_of_row _ _ 3 _ _ _ hbk1)
  have x4 : ∀ X : Since W1.heap.size W1, X.val.cell? ⟨g, l.length * 5 + 4, none⟩ = some (.string s4) := fun X => (hcell X _).trans (cx 4 _ rfl)
  have y4 : ∀ X : Since W1.heap.size W1, X.val.cell? ⟨g, (l.length + 1) * 5 + 4, none⟩ = some (.string s4) := fun X => (hcell X _).trans (cy 4 _ rfl)
  have b4b : ∀ X : Since W1.heap.size W1, X.val.cell? ⟨w.heap.size, 4, none⟩ = some (.string s4) := fun X => (X.property.cell (p := ⟨w.heap.size, 4, none⟩) hz1).trans (cell_of_row _ _ 4 _ _ _ hbk1)
  have hte : ∀ W, (Op.equalIn 10000 27 (.agg #[.string s0, .int .i64 i1, .int .i64 i2, .int .i64 i3, .string s4]) (.agg #[.string s0, .int .i64 i1, .int .i64 i2, .int .i64 i3, .string s4])).run Tryz.prog W = .ok true W := fun W => (by have := it_cmp W (⟨s0, i1, i2, i3, s4⟩ : Im) (⟨s0, i1, i2, i3, s4⟩ : Im); rw [imSame_iff.2 rfl] at this; exact this)
  have hne : Nonempty (Since W1.heap.size W1) := ⟨⟨W1, Below.refl _ _⟩⟩
  have HB1 : Hid (Below w.heap.size w W1) := hb1
  obtain ⟨ua, uc, rfl, hcc1, hcc2⟩ := k.slice
  clear hcc1 hcc2
  clear h k cx cy hcell hb1 hbk1
  go_enter Tryz.func12, Tryz.ntmps12
  go_wp2_with fail
  rw [← hW1]
  clear hW1
  refine wp_region_since (B := W1.heap.size) (W0 := W1) (by kernel_rfl) (by kernel_rfl) (Below.refl _ _) ?_
  repeat (go_big_quiet_step (fail))
  go_big_quiet_step (exact quiet_since _ (heq _))
  repeat (go_big_quiet_step (fail))
  refine wpQuiet_nil ?_
  rintro w7 ⟨U, rfl⟩
  have HB3 : Hid (Below w.heap.size w U.val) := HB1.out.trans (U.property.mono HB1.out.size)
  generalize U.val = w7 at *
  clear x0 y0 b0b x1 y1 b1b x2 y2 b2b x3 y3 b3b x4 y4 b4b hte hne heq
  go_wp2_with fail
  go_ret
  exact ⟨rfl, HB3.out⟩
set_option maxHeartbeats 4000000 in
theorem spoil_ims (g n c : Nat) (s0 s4 : ByteArray) (i1 i2 i3 : Int) (w : World) (h : Room w g (c * 5) 27) (hc : c ≤ 9223372036854775807) (hg : g < w.heap.size) :
    Calls Tryz.prog 16 #[.slice (some ⟨g, 0, none⟩) n c, .agg #[.string s0, .int .i64 i1, .int .i64 i2, .int .i64 i3, .string s4]] w fun e w' => e = .returned (.tuple #[]) ∧ Kept (fun q => q ≠ g) w w' := by
  obtain ⟨W1, hW1⟩ : ∃ W1, W1 = w.alloc (.cells #[.string s0, .int .i64 i1, .int .i64 i2, .int .i64 i3, .string s4] 27) := ⟨_, rfl⟩
  have HK1 : Hid (Kept (fun q => q ≠ g) w W1) := by rw [hW1]; exact (Kept.refl _ w).alloc _
  have HR1 : Hid (Room W1 g (c * 5) 27) := by
    rw [hW1]
    exact h.kept (p := fun _ => True) ((Kept.refl _ w).alloc _) trivial
  have HZ : Hid (W1.heap[w.heap.size]? = some (.cells (imC (⟨s0, i1, i2, i3, s4⟩ : Im)).toArray 27 (0, 0))) := by rw [hW1]; exact heap_alloc_new w _
  have hgn : w.heap.size ≠ g := by omega
  have hinf : (Tryz.prog.info? 27).map (·.size) = some 5 := by kernel_rfl
  clear h
  go_enter Tryz.func16, Tryz.ntmps16
  go_wp2_with fail
  rw [← hW1]
  clear hW1
  go_loopw [11] (fun i wr => ∃ k : Nat, k ≤ c ∧ i = .int .i64 k ∧ Hid (Room wr g (c * 5) 27) ∧ Hid (Kept (fun q => q ≠ g) w wr) ∧ Hid (wr.heap[w.heap.size]? = some (.cells (imC (⟨s0, i1, i2, i3, s4⟩ : Im)).toArray 27 (0, 0)))) (fun i _ => c - (intOf i).toNat)
  case atStart => exact ⟨0, by omega, rfl, HR1, HK1, HZ⟩
  case round =>
    obtain ⟨k, hk, rfl, hr, hkp, hz⟩ := hrel
    by_cases hlt : k < c
    · have hrng := range_block hz.out
      have hth : wr.there g (k * 5) 5 := hr.out.there (by omega)
      have HR : Hid (Room (wr.setCells g (k * 5) (imC (⟨s0, i1, i2, i3, s4⟩ : Im))) g (c * 5) 27) := hr.out.setCells _ _
      have HK : Hid (Kept (fun q => q ≠ g) w (wr.setCells g (k * 5) (imC (⟨s0, i1, i2, i3, s4⟩ : Im)))) := hkp.out.setCells (fun e => e rfl) _ _
      have HZ2 : Hid ((wr.setCells g (k * 5) (imC (⟨s0, i1, i2, i3, s4⟩ : Im))).heap[w.heap.size]? = some (.cells (imC (⟨s0, i1, i2, i3, s4⟩ : Im)).toArray 27 (0, 0))) := ((Kept.refl (fun q => q ≠ g) wr).setCells (fun e => e rfl) _ _).obj hgn hz.out
      clear hr hkp hz
      go_upto_region 5 with fail
      refine wp_region_lit ?_
      refine wpList_plain rfl fun C hC => ?_
      go_simp
      refine hC _ _ ?_
      clear hC C
      refine wpList_plain rfl fun C hC => ?_
      go_simp
      refine hC _ _ ?_
      clear hC C
      refine wpList_load_mid rfl 27 (.tmp 3) rfl w.heap.size 0 rfl (imC (⟨s0, i1, i2, i3, s4⟩ : Im)) _ hrng Tryz.underlying27 rfl (by rw [hinf, imC_length]) ?_
      refine wpList_plain rfl fun C hC => ?_
      go_simp
      refine hC _ _ ?_
      clear hC C
      refine wpList_store_mid rfl 27 (.tmp 17) (.tmp 16) rfl g (k * 5) (imC (⟨s0, i1, i2, i3, s4⟩ : Im)).toArray rfl rfl hth hinf (all_oneCell_toArray (imC_one _)) ?_
      rw [show (imC (⟨s0, i1, i2, i3, s4⟩ : Im)).toArray.toList = imC (⟨s0, i1, i2, i3, s4⟩ : Im) from rfl]
      generalize wr.setCells g (k * 5) (imC (⟨s0, i1, i2, i3, s4⟩ : Im)) = w9 at *
      clear hrng hth
      go_wp2_with fail
      go_roundw
      case rel => exact ⟨k + 1, by omega, by go_num, HR, HK, HZ2⟩
      case measure => simp only [intOf]; omega
    · go_wp2_with fail
      go_end0
      exact ⟨rfl, hkp.out⟩
end Go.Proofs.YthpcbbkpjggjbaaGreatDoor
namespace Go.Proofs.YthpcbbkpjggjbaaGreatDoor
open Go.RowKit
set_option maxRecDepth 4000
theorem info_em : (Tryz.prog.info? 30).map (fun i => (i.zero, i.size, i.bytes)) = some (some (.agg #[.string ⟨#[]⟩, .bool false, .string ⟨#[]⟩, .int .i64 0, .int .i64 0, .int .i64 0, .string ⟨#[]⟩]), 7, 80) := by kernel_rfl
theorem equal_em (v1 v2 : Value) (l : List Em) (w : World) (h1 : Rx 7 emC w v1 l) (h2 : Rx 7 emC w v2 l) (hl : l.length * 80 ≤ 140737488351232) :
    Calls Tryz.prog 18 #[v1, v2] w fun e w' => e = .returned (.bool true) ∧ Below w.heap.size w w' :=
  (equal_eds v1 v2 l l w h1 h2 (by omega)).mono fun _ _ ⟨_, h3, h4, h5⟩ => ⟨by rw [h3, h4.2 rfl], h5⟩
set_option maxHeartbeats 16000000 in
theorem ample_eds (v : Value) (l : List Em) (s0 s2 s6 : ByteArray) (tg1 : Bool) (i3 i4 i5 : Int) (w : World) (h : Rx 7 emC w v l) (hl : l.length * 80 ≤ 140737488351232) :
    Calls Tryz.prog 6 #[v, .agg #[.string s0, .bool tg1, .string s2, .int .i64 i3, .int .i64 i4, .int .i64 i5, .string s6]] w fun e w' => ∃ g, e = .returned (.slice (some ⟨g, 0, none⟩) l.length (l.length + 3)) ∧ w'.ownsRow w.heap.size 30 7 (.slice (some ⟨g, 0, none⟩) (l.length + 2) (l.length + 3)) (l.length + 2) (rowR emC (l ++ [(⟨s0, tg1, ⟨s2, i3, i4, i5, s6⟩⟩ : Em), (⟨s0, tg1, ⟨s2, i3, i4, i5, s6⟩⟩ : Em)])) ∧ Below w.heap.size w w' := by
  obtain ⟨i0, hi, hz0, hz1, hz2⟩ := info_three info_em
  obtain ⟨a, c, rfl, hcc1, hcc2⟩ := h.slice
  obtain ⟨W1, hW1⟩ : ∃ W1, W1 = w.alloc (.cells #[.string s0, .bool tg1, .string s2, .int .i64 i3, .int .i64 i4, .int .i64 i5, .string s6] 30) := ⟨_, rfl⟩
  have hB1 : Below w.heap.size w W1 := by rw [hW1]; exact (Below.refl _ w).alloc (Nat.le_refl _) _
  have hs1 : w.heap.size < W1.heap.size := by rw [hW1]; show _ < (w.heap.push _).size; simp
  have hbk1 : W1.heap[w.heap.size]? = some (.cells #[.string s0, .bool tg1, .string s2, .int .i64 i3, .int .i64 i4, .int .i64 i5, .string s6] 30 (0, 0)) := by rw [hW1]; exact heap_alloc_new w _
  have HSX : Hid (∀ W, Below W1.heap.size W1 W → W.cell? ⟨w.heap.size, 0, none⟩ = some (.string s0) ∧ W.cell? ⟨w.heap.size, 1, none⟩ = some (.bool tg1) ∧ W.cell? ⟨w.heap.size, 2, none⟩ = some (.string s2) ∧ W.cell? ⟨w.heap.size, 3, none⟩ = some (.int .i64 i3) ∧ W.cell? ⟨w.heap.size, 4, none⟩ = some (.int .i64 i4) ∧ W.cell? ⟨w.heap.size, 5, none⟩ = some (.int .i64 i5) ∧ W.cell? ⟨w.heap.size, 6, none⟩ = some (.string s6)) := fun W hW => by
    have e : W.heap[w.heap.size]? = _ := (hW.block _ hs1).trans hbk1
    have key := fun j => cell_of_row W w.heap.size j _ _ _ e
    exact ⟨key 0, key 1, key 2, key 3, key 4, key 5, key 6⟩
  have HSR : Hid (∀ W, Below W1.heap.size W1 W → (a = none → l.length = 0) ∧ ∀ ad, a = some ad → ∀ j u, (rowR emC l)[j]? = some u → W.cell? (ad.add j) = some u) := fun W hW =>
    (h.below (hB1.trans (hW.mono (by omega)))).src emC_length (by omega)
  have HB1 : Hid (Below w.heap.size w W1) := hB1
  have B0 : Hid (Below W1.heap.size W1 W1.drew) := (Below.refl _ W1).drew
  have BX : Hid (∀ o, Below W1.heap.size W1 (W1.alloc o).drew) := fun o => ((Below.refl _ W1).alloc (Nat.le_refl _) o).drew
  have HTW : Hid ((#[.string s0, .bool tg1, .string s2, .int .i64 i3, .int .i64 i4, .int .i64 i5, .string s6, .string s0, .bool tg1, .string s2, .int .i64 i3, .int .i64 i4, .int .i64 i5, .string s6] : Array Value) = (rowR emC [(⟨s0, tg1, ⟨s2, i3, i4, i5, s6⟩⟩ : Em), (⟨s0, tg1, ⟨s2, i3, i4, i5, s6⟩⟩ : Em)]).toArray) := rfl
  clear h hB1 hcc1 hcc2 hbk1
  go_enter Tryz.func6, Tryz.ntmps6
  go_wp2_with fail
  rw [← hW1]
  clear hW1
  go_cut [5] from 6 (fun x wx => ∃ g, x = .slice (some ⟨g, 0, none⟩) (l.length + 2) (l.length + 3) ∧ Hid (wx.ownsRow W1.heap.size 30 7 (.slice (some ⟨g, 0, none⟩) (l.length + 2) (l.length + 3)) (l.length + 2) (rowR emC (l ++ [(⟨s0, tg1, ⟨s2, i3, i4, i5, s6⟩⟩ : Em), (⟨s0, tg1, ⟨s2, i3, i4, i5, s6⟩⟩ : Em)])) ∧ Below W1.heap.size W1 wx))
  case first =>
    have hwr : IntKind.i64.wrap ((l.length : Int) + 3) = ((l.length + 3 : Nat) : Int) := by rw [IntKind.wrap_i64]; omega
    obtain ⟨w1, hr1, o1, g1⟩ := run_make_own (P := Tryz.prog) W1.drew W1.heap.size 23 30 i0 ((.agg #[.string ⟨#[]⟩, .bool false, .string ⟨#[]⟩, .int .i64 0, .int .i64 0, .int .i64 0, .string ⟨#[]⟩])) 7 Tryz.underlying23 hi hz0 hz1 .i64 .i64 (l.length + 3) (by rw [hz2]; omega) (by unfold maxLen; omega) (by simp)
    obtain ⟨w1x, hr1x, o1x, g1x⟩ := run_make_own (P := Tryz.prog) (W1.alloc (.cells #[.string s0, .bool tg1, .string s2, .int .i64 i3, .int .i64 i4, .int .i64 i5, .string s6, .string s0, .bool tg1, .string s2, .int .i64 i3, .int .i64 i4, .int .i64 i5, .string s6] 30)).drew W1.heap.size 23 30 i0 ((.agg #[.string ⟨#[]⟩, .bool false, .string ⟨#[]⟩, .int .i64 0, .int .i64 0, .int .i64 0, .string ⟨#[]⟩])) 7 Tryz.underlying23 hi hz0 hz1 .i64 .i64 (l.length + 3) (by rw [hz2]; omega) (by unfold maxLen; omega) (by simp)
    rw [← hwr] at hr1 hr1x
    have hb1 : Below W1.heap.size W1 w1 := B0.out.grown g1 (by simp) (fun k hk => by cases hk)
    have hb1x : Below W1.heap.size W1 w1x := (BX.out _).grown g1x (by simp) (fun k hk => by cases hk)
    have HX1 : Hid (w1x.heap[W1.heap.size]? = some (.cells (rowR emC [(⟨s0, tg1, ⟨s2, i3, i4, i5, s6⟩⟩ : Em), (⟨s0, tg1, ⟨s2, i3, i4, i5, s6⟩⟩ : Em)]).toArray 30 (0, 0))) := by show _ = _; rw [← HTW.out]; exact (g1x.block _ (by simp) (by simp)).trans (heap_alloc_new W1 _)
    have hz1' := hb1.size
    have hz1x := hb1x.size
    have O1 : w1.ownsRow W1.heap.size 30 7 (.slice (some ⟨W1.heap.size, 0, none⟩) 0 (l.length + 3)) 0 [] := o1
    have O1x : w1x.ownsRow W1.heap.size 30 7 (.slice (some ⟨W1.heap.size + 1, 0, none⟩) 0 (l.length + 3)) 0 [] := by simpa using o1x
    have hx1 : W1.heap.size + 1 < w1x.heap.size := (O1x.lt _ rfl).2
    have hx2 : W1.heap.size < w1.heap.size := (O1.lt _ rfl).2
    have hr1' : (Instr.makeSlice 23 (.int .i64 0) (.int .i64 (IntKind.i64.wrap ((l.length : Int) + 3)))).run Tryz.prog W1.drew = .ok (.slice (some ⟨W1.heap.size, 0, none⟩) 0 (l.length + 3)) w1 := hr1
    have hr2' : (Instr.makeSlice 23 (.int .i64 0) (.int .i64 (IntKind.i64.wrap ((l.length : Int) + 3)))).run Tryz.prog (W1.alloc (.cells #[.string s0, .bool tg1, .string s2, .int .i64 i3, .int .i64 i4, .int .i64 i5, .string s6, .string s0, .bool tg1, .string s2, .int .i64 i3, .int .i64 i4, .int .i64 i5, .string s6] 30)).drew = .ok (.slice (some ⟨W1.heap.size + 1, 0, none⟩) 0 (l.length + 3)) w1x := by simpa using hr1x
    clear o1 o1x g1 g1x hr1 hr1x hwr
    go_region_held3 (fun w' => w'.cell? ⟨w.heap.size, 0, none⟩ = some (.string s0) ∧ w'.cell? ⟨w.heap.size, 1, none⟩ = some (.bool tg1) ∧ w'.cell? ⟨w.heap.size, 2, none⟩ = some (.string s2) ∧ w'.cell? ⟨w.heap.size, 3, none⟩ = some (.int .i64 i3) ∧ w'.cell? ⟨w.heap.size, 4, none⟩ = some (.int .i64 i4) ∧ w'.cell? ⟨w.heap.size, 5, none⟩ = some (.int .i64 i5) ∧ w'.cell? ⟨w.heap.size, 6, none⟩ = some (.string s6))
      (first | with_reducible exact HSX.out _ hb3 | with_reducible exact HSX.out _ (hb2.alloc hb2.size _) | with_reducible exact HSX.out _ hb2 | with_reducible exact HSX.out _ (hb1.alloc hz1' _) | with_reducible exact HSX.out _ hb1 | with_reducible exact HSX.out _ hb1x | with_reducible exact HSX.out _ (BX.out _) | with_reducible exact HSX.out _ B0.out | go_keep)
      (first
        | (refine step_fits_all _ (by rfl) (.tmp 9) (.tmp 10) 23 (by rfl) W1.heap.size 30 i0 7 Tryz.underlying23 hi hz1 _ _ _ _ (by rfl) O1 _ _ _ (rowR emC l) (by rfl) (by rw [rowR_length emC_length]) (HSR.out _ hb1).1 (HSR.out _ hb1).2 (rowR_one emC_one _) (by omega) l.length (by omega) ?_; intro w2 o2 g2; rw [List.nil_append] at o2; have hb2 : Below W1.heap.size W1 w2 := hb1.grown g2 hz1' (fun k hk => by cases hk; omega))
        | (refine step_fits_all _ (by rfl) (.tmp 9) (.tmp 10) 23 (by rfl) W1.heap.size 30 i0 7 Tryz.underlying23 hi hz1 _ _ _ _ (by rfl) (O1.alloc _) _ _ _ (rowR emC l) (by rfl) (by rw [rowR_length emC_length]) (HSR.out _ hb1).1 (HSR.out _ (hb1.alloc hz1' _)).2 (rowR_one emC_one _) (by omega) l.length (by omega) ?_; intro w2 o2 g2; rw [List.nil_append] at o2; have hb2 : Below W1.heap.size W1 w2 := (hb1.alloc hz1' _).grown g2 (by simp; omega) (fun k hk => by cases hk; omega); have HX2 : Hid (w2.heap[w1.heap.size]? = some (.cells (rowR emC [(⟨s0, tg1, ⟨s2, i3, i4, i5, s6⟩⟩ : Em), (⟨s0, tg1, ⟨s2, i3, i4, i5, s6⟩⟩ : Em)]).toArray 30 (0, 0))) := (by show _ = _; rw [← HTW.out]; exact (g2.block _ (by simp) (by simp; omega)).trans (heap_alloc_new w1 _)))
        | (refine step_fits_all _ (by rfl) (.tmp 9) (.tmp 10) 23 (by rfl) W1.heap.size 30 i0 7 Tryz.underlying23 hi hz1 _ _ _ _ (by rfl) O1x _ _ _ (rowR emC l) (by rfl) (by rw [rowR_length emC_length]) (HSR.out _ hb1x).1 (HSR.out _ hb1x).2 (rowR_one emC_one _) (by omega) l.length (by omega) ?_; intro w2 o2 g2; rw [List.nil_append] at o2; have hb2 : Below W1.heap.size W1 w2 := hb1x.grown g2 hz1x (fun k hk => by cases hk; omega); have HX2 : Hid (w2.heap[W1.heap.size]? = some (.cells (rowR emC [(⟨s0, tg1, ⟨s2, i3, i4, i5, s6⟩⟩ : Em), (⟨s0, tg1, ⟨s2, i3, i4, i5, s6⟩⟩ : Em)]).toArray 30 (0, 0))) := (g2.block _ (by omega) (by simp)).trans HX1.out)
        | (refine step_fits_all _ (by rfl) (.tmp 11) (.tmp 14) 23 (by rfl) W1.heap.size 30 i0 7 Tryz.underlying23 hi hz1 _ _ _ _ (by rfl) (o2.alloc _) _ _ _ (rowR emC [(⟨s0, tg1, ⟨s2, i3, i4, i5, s6⟩⟩ : Em), (⟨s0, tg1, ⟨s2, i3, i4, i5, s6⟩⟩ : Em)]) (by rfl) (by rfl) (by simp) (two_rows (by rw [← HTW.out]; exact heap_alloc_new w2 _)) (rowR_one emC_one _) (by omega) (l.length + 2) (by omega) ?_; intro w3 o3 g3; have hb3 : Below W1.heap.size W1 w3 := (hb2.alloc hb2.size _).grown g3 (Nat.le_trans hb2.size (by simp)) (fun k hk => by cases hk; omega))
        | (refine step_fits_all _ (by rfl) (.tmp 11) (.tmp 14) 23 (by rfl) W1.heap.size 30 i0 7 Tryz.underlying23 hi hz1 _ _ _ _ (by rfl) o2 _ _ _ (rowR emC [(⟨s0, tg1, ⟨s2, i3, i4, i5, s6⟩⟩ : Em), (⟨s0, tg1, ⟨s2, i3, i4, i5, s6⟩⟩ : Em)]) (by rfl) (by rfl) (by simp) (two_rows HX2.out) (rowR_one emC_one _) (by omega) (l.length + 2) (by omega) ?_; intro w3 o3 g3; have hb3 : Below W1.heap.size W1 w3 := hb2.grown g3 hb2.size (fun k hk => by cases hk; omega)))
    all_goals
      go_wp2_with fail
      go_meet
      exact ⟨_, rfl, by rw [rowR_two]; exact o3, hb3⟩
  case rest =>
  obtain ⟨g, rfl, ho⟩ := hcut
  have HO := ho.out.1
  have HB := HB1.out.trans (ho.out.2.mono (by omega))
  have HO' : Hid (wc.ownsRow w.heap.size 30 7 (.slice (some ⟨g, 0, none⟩) (l.length + 2) (l.length + 3)) (l.length + 2) (rowR emC (l ++ [(⟨s0, tg1, ⟨s2, i3, i4, i5, s6⟩⟩ : Em), (⟨s0, tg1, ⟨s2, i3, i4, i5, s6⟩⟩ : Em)]))) := rown_low HO (by omega)
  have HB' : Hid (Below w.heap.size w wc) := HB
  clear HO HB ho
  go_wp2_with fail
  go_ret
  exact ⟨_, rfl, HO'.out, HB'.out⟩
set_option maxHeartbeats 8000000 in
theorem stays_eds (g : Nat) (u : Value) (l : List Em) (s0 s2 s6 : ByteArray) (tg1 : Bool) (i3 i4 i5 : Int) (w : World) (base : Nat) (h : w.ownsRow base 30 7 (.slice (some ⟨g, 0, none⟩) (l.length + 2) (l.length + 3)) (l.length + 2) (rowR emC (l ++ [(⟨s0, tg1, ⟨s2, i3, i4, i5, s6⟩⟩ : Em), (⟨s0, tg1, ⟨s2, i3, i4, i5, s6⟩⟩ : Em)]))) (k : Rx 7 emC w u l) (hl : l.length * 80 ≤ 140737488351232) :
    Calls Tryz.prog 13 #[.slice (some ⟨g, 0, none⟩) l.length (l.length + 3), u, .agg #[.string s0, .bool tg1, .string s2, .int .i64 i3, .int .i64 i4, .int .i64 i5, .string s6]] w fun e w' => e = .returned (.bool true) ∧ Below w.heap.size w w' := by
  have hlt : g < w.heap.size := (h.lt g rfl).2
  have cx := amp_fill emC_length h l.length (.inl rfl)
  have cy := amp_fill emC_length h (l.length + 1) (.inr rfl)
  obtain ⟨W1, hW1⟩ : ∃ W1, W1 = w.alloc (.cells #[.string s0, .bool tg1, .string s2, .int .i64 i3, .int .i64 i4, .int .i64 i5, .string s6] 30) := ⟨_, rfl⟩
  have hb1 : Below w.heap.size w W1 := by rw [hW1]; exact (Below.refl _ w).alloc (Nat.le_refl _) _
  have hz1 : w.heap.size < W1.heap.size := by rw [hW1]; show _ < (w.heap.push _).size; simp
  have hbk1 : W1.heap[w.heap.size]? = some (.cells #[.string s0, .bool tg1, .string s2, .int .i64 i3, .int .i64 i4, .int .i64 i5, .string s6] 30 (0, 0)) := by rw [hW1]; exact heap_alloc_new w _
  have heq : ∀ X : Since W1.heap.size W1, Calls Tryz.prog 18 #[.slice (some ⟨g, 0, none⟩) l.length (l.length + 3), u] X.val fun e w' => e = .returned (.bool true) ∧ Below X.val.heap.size X.val w' := fun X =>
    equal_em _ _ l X.val ((amp_rx emC_length h (by omega)).below (hb1.trans (X.property.mono (by omega)))) (k.below (hb1.trans (X.property.mono (by omega)))) (by omega)
  have hcell : ∀ (X : Since W1.heap.size W1) (o : Nat), X.val.cell? ⟨g, o, none⟩ = w.cell? ⟨g, o, none⟩ := fun X o => (X.property.cell (p := ⟨g, o, none⟩) (by show g < _; omega)).trans (hb1.cell (p := ⟨g, o, none⟩) hlt)
  have x0 : ∀ X : Since W1.heap.size W1, X.val.cell? ⟨g, l.length * 7, none⟩ = some (.string s0) := fun X => (hcell X _).trans (cx 0 _ rfl)
  have y0 : ∀ X : Since W1.heap.size W1, X.val.cell? ⟨g, (l.length + 1) * 7, none⟩ = some (.string s0) := fun X => (hcell X _).trans (cy 0 _ rfl)
  have b0b : ∀ X : Since W1.heap.size W1, X.val.cell? ⟨w.heap.size, 0, none⟩ = some (.string s0) := fun X => (X.property.cell (p := ⟨w.heap.size, 0, none⟩) hz1).trans (cell_of_row _ _ 0 _ _ _ hbk1)
  have x1 : ∀ X : Since W1.heap.size W1, X.val.cell? ⟨g, l.length * 7 + 1, none⟩ = some (.bool tg1) := fun X => (hcell X _).trans (cx 1 _ rfl)
  have y1 : ∀ X : Since W1.heap.size W1, X.val.cell? ⟨g, (l.length + 1) * 7 + 1, none⟩ = some (.bool tg1) := fun X => (hcell X _).trans (cy 1 _ rfl)
  have b1b : ∀ X : Since W1.heap.size W1, X.val.cell? ⟨w.heap.size, 1, none⟩ = some (.bool tg1) := fun X => (X.property.cell (p := ⟨w.heap.size, 1, none⟩) hz1).trans (cell_of_row _ _ 1 _ _ _ hbk1)
  have x2 : ∀ X : Since W1.heap.size W1, X.val.cell? ⟨g, l.length * 7 + 2, none⟩ = some (.string s2) := fun X => (hcell X _).trans (cx 2 _ rfl)
  have y2 : ∀ X : Since W1.heap.size W1, X.val.cell? ⟨g, (l.length + 1) * 7 + 2, none⟩ = some (.string s2) := fun X => (hcell X _).trans (cy 2 _ rfl)
  have b2b : ∀ X : Since W1.heap.size W1, X.val.cell? ⟨w.heap.size, 2, none⟩ = some (.string s2) := fun X => (X.property.cell (p := ⟨w.heap.size, 2, none⟩) hz1).trans (cell_of_row _ _ 2 _ _ _ hbk1)
  have x3 : ∀ X : Since W1.heap.size W1, X.val.cell? ⟨g, l.length * 7 + 3, none⟩ = some (.int .i64 i3) := fun X => (hcell X _).trans (cx 3 _ rfl)
  have y3 : ∀ X : Since W1.heap.size W1, X.val.cell? ⟨g, (l.length + 1) * 7 + 3, none⟩ = some (.int .i64 i3) := fun X => (hcell X _).trans (cy 3 _ rfl)
  have b3b : ∀ X : Since W1.heap.size W1, X.val.cell? ⟨w.heap.size, 3, none⟩ = some (.int .i64 i3) := fun X => (X.property.cell (p := ⟨w.heap.size, 3, none⟩) hz1).trans (cell_of_row _ _ 3 _ _ _ hbk1)
  have x4 : ∀ X : Since W1.heap.size W1, X.val.cell? ⟨g, l.length * 7 + 4, none⟩ = some (.int .i64 i4) := fun X => (hcell X _).trans (cx 4 _ rfl)
  have y4 : ∀ X : Since W1.heap.size W1, X.val.cell? ⟨g, (l.length + 1) * 7 + 4, none⟩ = some (.int .i64 i4) := fun X => (hcell X _).trans (cy 4 _ rfl)
  have b4b : ∀ X : Since W1.heap.size W1, X.val.cell? ⟨w.heap.size, 4, none⟩ = some (.int .i64 i4) := fun X => (X.property.cell (p := ⟨w.heap.size, 4, none⟩) hz1).trans (cell_of_row _ _ 4 _ _ _ hbk1)
  have x5 : ∀ X : Since W1.heap.size W1, X.val.cell? ⟨g, l.length * 7 + 5, none⟩ = some (.int .i64 i5) := fun X => (hcell X _).trans (cx 5 _ rfl)
  have y5 : ∀ X : Since W1.heap.size W1, X.val.cell? ⟨g, (l.length + 1) * 7 + 5, none⟩ = some (.int .i64 i5) := fun X => (hcell X _).trans (cy 5 _ rfl)
  have b5b : ∀ X : Since W1.heap.size W1, X.val.cell? ⟨w.heap.size, 5, none⟩ = some (.int .i64 i5) := fun X => (X.property.cell (p := ⟨w.heap.size, 5, none⟩) hz1).trans (cell_of_row _ _ 5 _ _ _ hbk1)
  have x6 : ∀ X : Since W1.heap.size W1, X.val.cell? ⟨g, l.length * 7 + 6, none⟩ = some (.string s6) := fun X => (hcell X _).trans (cx 6 _ rfl)
  have y6 : ∀ X : Since W1.heap.size W1, X.val.cell? ⟨g, (l.length + 1) * 7 + 6, none⟩ = some (.string s6) := fun X => (hcell X _).trans (cy 6 _ rfl)
  have b6b : ∀ X : Since W1.heap.size W1, X.val.cell? ⟨w.heap.size, 6, none⟩ = some (.string s6) := fun X => (X.property.cell (p := ⟨w.heap.size, 6, none⟩) hz1).trans (cell_of_row _ _ 6 _ _ _ hbk1)
  have hte : ∀ W, (Op.equalIn 10000 30 (.agg #[.string s0, .bool tg1, .string s2, .int .i64 i3, .int .i64 i4, .int .i64 i5, .string s6]) (.agg #[.string s0, .bool tg1, .string s2, .int .i64 i3, .int .i64 i4, .int .i64 i5, .string s6])).run Tryz.prog W = .ok true W := fun W => (by have := ed_cmp W (⟨s0, tg1, ⟨s2, i3, i4, i5, s6⟩⟩ : Em) (⟨s0, tg1, ⟨s2, i3, i4, i5, s6⟩⟩ : Em); rw [emSame_iff.2 rfl] at this; exact this)
  have hne : Nonempty (Since W1.heap.size W1) := ⟨⟨W1, Below.refl _ _⟩⟩
  have HB1 : Hid (Below w.heap.size w W1) := hb1
  obtain ⟨ua, uc, rfl, hcc1, hcc2⟩ := k.slice
  clear hcc1 hcc2
  clear h k cx cy hcell hb1 hbk1
  go_enter Tryz.func13, Tryz.ntmps13
  go_wp2_with fail
  rw [← hW1]
  clear hW1
  refine wp_region_since (B := W1.heap.size) (W0 := W1) (by kernel_rfl) (by kernel_rfl) (Below.refl _ _) ?_
  repeat (go_big_quiet_step (fail))
  go_big_quiet_step (exact quiet_since _ (heq _))
  repeat (go_big_quiet_step (fail))
  refine wpQuiet_nil ?_
  rintro w7 ⟨U, rfl⟩
  have HB3 : Hid (Below w.heap.size w U.val) := HB1.out.trans (U.property.mono HB1.out.size)
  generalize U.val = w7 at *
  clear x0 y0 b0b x1 y1 b1b x2 y2 b2b x3 y3 b3b x4 y4 b4b x5 y5 b5b x6 y6 b6b hte hne heq
  go_wp2_with fail
  go_ret
  exact ⟨rfl, HB3.out⟩
set_option maxHeartbeats 4000000 in
theorem spoil_eds (g n c : Nat) (s0 s2 s6 : ByteArray) (tg1 : Bool) (i3 i4 i5 : Int) (w : World) (h : Room w g (c * 7) 30) (hc : c ≤ 9223372036854775807) (hg : g < w.heap.size) :
    Calls Tryz.prog 17 #[.slice (some ⟨g, 0, none⟩) n c, .agg #[.string s0, .bool tg1, .string s2, .int .i64 i3, .int .i64 i4, .int .i64 i5, .string s6]] w fun e w' => e = .returned (.tuple #[]) ∧ Kept (fun q => q ≠ g) w w' := by
  obtain ⟨W1, hW1⟩ : ∃ W1, W1 = w.alloc (.cells #[.string s0, .bool tg1, .string s2, .int .i64 i3, .int .i64 i4, .int .i64 i5, .string s6] 30) := ⟨_, rfl⟩
  have HK1 : Hid (Kept (fun q => q ≠ g) w W1) := by rw [hW1]; exact (Kept.refl _ w).alloc _
  have HR1 : Hid (Room W1 g (c * 7) 30) := by
    rw [hW1]
    exact h.kept (p := fun _ => True) ((Kept.refl _ w).alloc _) trivial
  have HZ : Hid (W1.heap[w.heap.size]? = some (.cells (emC (⟨s0, tg1, ⟨s2, i3, i4, i5, s6⟩⟩ : Em)).toArray 30 (0, 0))) := by rw [hW1]; exact heap_alloc_new w _
  have hgn : w.heap.size ≠ g := by omega
  have hinf : (Tryz.prog.info? 30).map (·.size) = some 7 := by kernel_rfl
  clear h
  go_enter Tryz.func17, Tryz.ntmps17
  go_wp2_with fail
  rw [← hW1]
  clear hW1
  go_loopw [11] (fun i wr => ∃ k : Nat, k ≤ c ∧ i = .int .i64 k ∧ Hid (Room wr g (c * 7) 30) ∧ Hid (Kept (fun q => q ≠ g) w wr) ∧ Hid (wr.heap[w.heap.size]? = some (.cells (emC (⟨s0, tg1, ⟨s2, i3, i4, i5, s6⟩⟩ : Em)).toArray 30 (0, 0)))) (fun i _ => c - (intOf i).toNat)
  case atStart => exact ⟨0, by omega, rfl, HR1, HK1, HZ⟩
  case round =>
    obtain ⟨k, hk, rfl, hr, hkp, hz⟩ := hrel
    by_cases hlt : k < c
    · have hrng := range_block hz.out
      have hth : wr.there g (k * 7) 7 := hr.out.there (by omega)
      have HR : Hid (Room (wr.setCells g (k * 7) (emC (⟨s0, tg1, ⟨s2, i3, i4, i5, s6⟩⟩ : Em))) g (c * 7) 30) := hr.out.setCells _ _
      have HK : Hid (Kept (fun q => q ≠ g) w (wr.setCells g (k * 7) (emC (⟨s0, tg1, ⟨s2, i3, i4, i5, s6⟩⟩ : Em)))) := hkp.out.setCells (fun e => e rfl) _ _
      have HZ2 : Hid ((wr.setCells g (k * 7) (emC (⟨s0, tg1, ⟨s2, i3, i4, i5, s6⟩⟩ : Em))).heap[w.heap.size]? = some (.cells (emC (⟨s0, tg1, ⟨s2, i3, i4, i5, s6⟩⟩ : Em)).toArray 30 (0, 0))) := ((Kept.refl (fun q => q ≠ g) wr).setCells (fun e => e rfl) _ _).obj hgn hz.out
      clear hr hkp hz
      go_upto_region 5 with fail
      refine wp_region_lit ?_
      refine wpList_plain rfl fun C hC => ?_
      go_simp
      refine hC _ _ ?_
      clear hC C
      refine wpList_plain rfl fun C hC => ?_
      go_simp
      refine hC _ _ ?_
      clear hC C
      refine wpList_load_mid rfl 30 (.tmp 3) rfl w.heap.size 0 rfl (emC (⟨s0, tg1, ⟨s2, i3, i4, i5, s6⟩⟩ : Em)) _ hrng Tryz.underlying30 rfl (by rw [hinf, emC_length]) ?_
      refine wpList_plain rfl fun C hC => ?_
      go_simp
      refine hC _ _ ?_
      clear hC C
      refine wpList_store_mid rfl 30 (.tmp 17) (.tmp 16) rfl g (k * 7) (emC (⟨s0, tg1, ⟨s2, i3, i4, i5, s6⟩⟩ : Em)).toArray rfl rfl hth hinf (all_oneCell_toArray (emC_one _)) ?_
      rw [show (emC (⟨s0, tg1, ⟨s2, i3, i4, i5, s6⟩⟩ : Em)).toArray.toList = emC (⟨s0, tg1, ⟨s2, i3, i4, i5, s6⟩⟩ : Em) from rfl]
      generalize wr.setCells g (k * 7) (emC (⟨s0, tg1, ⟨s2, i3, i4, i5, s6⟩⟩ : Em)) = w9 at *
      clear hrng hth
      go_wp2_with fail
      go_roundw
      case rel => exact ⟨k + 1, by omega, by go_num, HR, HK, HZ2⟩
      case measure => simp only [intOf]; omega
    · go_wp2_with fail
      go_end0
      exact ⟨rfl, hkp.out⟩
end Go.Proofs.YthpcbbkpjggjbaaGreatDoor
namespace Go.Proofs.YthpcbbkpjggjbaaGreatDoor
open Go.RowKit
set_option maxRecDepth 4000
theorem info_cim : (Tryz.prog.info? 27).map (fun i => (i.zero, i.size, i.bytes)) = some (some (.agg #[.string ⟨#[]⟩, .int .i64 0, .int .i64 0, .int .i64 0, .string ⟨#[]⟩]), 5, 56) := by kernel_rfl
set_option maxHeartbeats 1000000 in
theorem clone_cim (v : Value) (l : List Im) (w : World) (h : Ims w v l) (hl : l.length * 56 ≤ 140737488355328) :
    Calls Tryz.prog 15 #[v] w fun e w' => ∃ v', e = .returned v' ∧ w'.ownsRow w.heap.size 27 5 v' l.length (rowR imC l) ∧ Below w.heap.size w w' := by
  obtain ⟨i0, hi, hz0, hz1, hz2⟩ := info_three info_cim
  obtain ⟨a, c, rfl, hc1, hc2⟩ := h.slice
  have qn : ∀ (w : World) (a : Option Addr) (n c n' c' : Nat), (binOp .eql 22 (.slice a n c) (.slice none n' c')).run Tryz.prog w = .ok (.bool a.isNone) w := fun w a n c n' c' => Lib.run_eql_slice_nil w _ _ a n c n' c' Tryz.underlying22
  cases a with
  | none =>
    have h0 : l.length = 0 := (h.src imC_length (by decide)).1 rfl
    have HE : Hid (w.ownsRow w.heap.size 27 5 (.slice none 0 0) l.length (rowR imC l)) := by
      show World.ownsRow _ _ _ _ _ _ _
      have : l = [] := List.length_eq_zero_iff.1 h0
      subst this
      exact World.ownsRow_nil _ _ _ _
    clear h
    generalize l.length = n at *
    go_enter Tryz.func15, Tryz.ntmps15
    go_wp2_with fail
    go_ret
    exact ⟨_, rfl, HE.out, Below.refl _ _⟩
  | some ad =>
    have hcell2 : ∀ j u, (rowR imC l)[j]? = some u → (w.alloc (.cells #[] 27)).cell? (ad.add j) = some u := ((h.below ((Below.refl w.heap.size w).alloc (Nat.le_refl _) _)).src imC_length (by decide)).2 _ rfl
    have hown0 : (w.alloc (.cells #[] 27)).ownsRow w.heap.size 27 5 (.slice (some ⟨w.heap.size, 0, none⟩) 0 0) 0 [] := World.ownsRow_lit w #[] 0 (Nat.le_refl _) (by unfold maxLen; omega) rfl
    clear h
    go_enter Tryz.func15, Tryz.ntmps15
    go_wp2_with (at_builtin; refine wpList_append_own _ rfl (.tmp 5) (.tmp 6) 22 rfl w.heap.size 27 i0 (.agg #[.string ⟨#[]⟩, .int .i64 0, .int .i64 0, .int .i64 0, .string ⟨#[]⟩]) 5 56 Tryz.underlying22 hi hz0 hz1 hz2 rfl (by decide) _ _ _ rfl hown0 ad l.length _ (rowR imC l) rfl (by rw [rowR_length imC_length]) hcell2 (rowR_one imC_one l) (by unfold maxLen; omega) (by omega) (by simp) ?_; intro v1 w3 o3 g3 _)
    simp only [Nat.zero_add, List.nil_append] at o3
    have HO : Hid (w3.ownsRow w.heap.size 27 5 v1 l.length (rowR imC l)) := o3
    have HB : Hid (Below w.heap.size w w3) := ((Below.refl _ w).alloc (Nat.le_refl _) _).grown g3 (by simp) (fun k hk => by cases hk; exact Nat.le_refl _)
    clear o3 g3
    go_ret
    exact ⟨_, rfl, HO.out, HB.out⟩
theorem info_cem : (Tryz.prog.info? 30).map (fun i => (i.zero, i.size, i.bytes)) = some (some (.agg #[.string ⟨#[]⟩, .bool false, .string ⟨#[]⟩, .int .i64 0, .int .i64 0, .int .i64 0, .string ⟨#[]⟩]), 7, 80) := by kernel_rfl
set_option maxHeartbeats 1000000 in
theorem clone_cem (v : Value) (l : List Em) (w : World) (h : Eds w v l) (hl : l.length * 80 ≤ 140737488355328) :
    Calls Tryz.prog 14 #[v] w fun e w' => ∃ v', e = .returned v' ∧ w'.ownsRow w.heap.size 30 7 v' l.length (rowR emC l) ∧ Below w.heap.size w w' := by
  obtain ⟨i0, hi, hz0, hz1, hz2⟩ := info_three info_cem
  obtain ⟨a, c, rfl, hc1, hc2⟩ := h.slice
  have qn : ∀ (w : World) (a : Option Addr) (n c n' c' : Nat), (binOp .eql 23 (.slice a n c) (.slice none n' c')).run Tryz.prog w = .ok (.bool a.isNone) w := fun w a n c n' c' => Lib.run_eql_slice_nil w _ _ a n c n' c' Tryz.underlying23
  cases a with
  | none =>
    have h0 : l.length = 0 := (h.src emC_length (by decide)).1 rfl
    have HE : Hid (w.ownsRow w.heap.size 30 7 (.slice none 0 0) l.length (rowR emC l)) := by
      show World.ownsRow _ _ _ _ _ _ _
      have : l = [] := List.length_eq_zero_iff.1 h0
      subst this
      exact World.ownsRow_nil _ _ _ _
    clear h
    generalize l.length = n at *
    go_enter Tryz.func14, Tryz.ntmps14
    go_wp2_with fail
    go_ret
    exact ⟨_, rfl, HE.out, Below.refl _ _⟩
  | some ad =>
    have hcell2 : ∀ j u, (rowR emC l)[j]? = some u → (w.alloc (.cells #[] 30)).cell? (ad.add j) = some u := ((h.below ((Below.refl w.heap.size w).alloc (Nat.le_refl _) _)).src emC_length (by decide)).2 _ rfl
    have hown0 : (w.alloc (.cells #[] 30)).ownsRow w.heap.size 30 7 (.slice (some ⟨w.heap.size, 0, none⟩) 0 0) 0 [] := World.ownsRow_lit w #[] 0 (Nat.le_refl _) (by unfold maxLen; omega) rfl
    clear h
    go_enter Tryz.func14, Tryz.ntmps14
    go_wp2_with (at_builtin; refine wpList_append_own _ rfl (.tmp 5) (.tmp 6) 23 rfl w.heap.size 30 i0 (.agg #[.string ⟨#[]⟩, .bool false, .string ⟨#[]⟩, .int .i64 0, .int .i64 0, .int .i64 0, .string ⟨#[]⟩]) 7 80 Tryz.underlying23 hi hz0 hz1 hz2 rfl (by decide) _ _ _ rfl hown0 ad l.length _ (rowR emC l) rfl (by rw [rowR_length emC_length]) hcell2 (rowR_one emC_one l) (by unfold maxLen; omega) (by omega) (by simp) ?_; intro v1 w3 o3 g3 _)
    simp only [Nat.zero_add, List.nil_append] at o3
    have HO : Hid (w3.ownsRow w.heap.size 30 7 v1 l.length (rowR emC l)) := o3
    have HB : Hid (Below w.heap.size w w3) := ((Below.refl _ w).alloc (Nat.le_refl _) _).grown g3 (by simp) (fun k hk => by cases hk; exact Nat.le_refl _)
    clear o3 g3
    go_ret
    exact ⟨_, rfl, HO.out, HB.out⟩
end Go.Proofs.YthpcbbkpjggjbaaGreatDoor
namespace Go.Proofs.YthpcbbkpjggjbaaGreatDoor
open Go.RowKit
set_option maxRecDepth 4000
structure Ap {α : Type} (k : Nat) (C : α → List Value) (N M : Nat) (W : World) (v : Value) (l : List α) : Prop where
  rx : Rx k C W v l
  blk : ∀ a n c, v = .slice (some a) n c → N ≤ a.block ∧ a.block < M
section
variable {α : Type} {k : Nat} {C : α → List Value} {N M : Nat} {W W' : World} {v : Value} {l : List α}
theorem Ap.below (h : Ap k C N M W v l) (hb : Below W.heap.size W W') : Ap k C N M W' v l := ⟨h.rx.below hb, h.blk⟩
theorem Ap.kept (h : Ap k C N M W v l) {g : Nat} (hk : Kept (fun j => j ≠ g) W W') (hg : g < N ∨ M ≤ g) : Ap k C N M W' v l :=
  ⟨h.rx.kept hk fun a n c e q => by have := h.blk a n c e; omega, h.blk⟩
theorem Ap.of_own {base : Nat} {T : TypeId} (hC : ∀ t, (C t).length = k) (h : W.ownsRow base T k v l.length (rowR C l)) : Ap k C base W.heap.size W v l :=
  ⟨Rx.of_own hC h, fun a n c e => by subst e; exact h.lt a.block rfl⟩
theorem Ap.wide (h : Ap k C N M W v l) {N' M' : Nat} (hN : N' ≤ N) (hM : M ≤ M') : Ap k C N' M' W v l := ⟨h.rx, fun a n c e => by have := h.blk a n c e; omega⟩
end
set_option maxHeartbeats 1000000 in
theorem spoil_none (s0 s2 s6 : ByteArray) (tg1 : Bool) (i3 i4 i5 : Int) (w : World) :
    Calls Tryz.prog 17 #[.slice none 0 0, .agg #[.string s0, .bool tg1, .string s2, .int .i64 i3, .int .i64 i4, .int .i64 i5, .string s6]] w fun e w' => e = .returned (.tuple #[]) ∧ Below w.heap.size w w' := by
  have HB : Hid (∀ o, Below w.heap.size w (w.alloc o)) := fun o => (Below.refl _ w).alloc (Nat.le_refl _) o
  go_enter Tryz.func17, Tryz.ntmps17
  go_wp2_with fail
  refine wp_loop_rounds 2 ?_
  rw [rounds_succ]
  go_wp2_with fail
  go_end0
  exact ⟨rfl, HB.out _⟩
theorem spoil_ans {base n : Nat} {v : Value} {xs : List Value} {w : World} (h : w.ownsRow base 30 7 v n xs) :
    Calls Tryz.prog 17 #[v, .agg #[.string ⟨#[]⟩, .bool false, .string ⟨#[]⟩, .int .i64 0, .int .i64 0, .int .i64 0, .string ⟨#[]⟩]] w fun e w' => e = .returned (.tuple #[]) ∧ (Below w.heap.size w w' ∨ ∃ g m c, v = .slice (some ⟨g, 0, none⟩) m c ∧ Kept (fun q => q ≠ g) w w') := by
  have h0 := h
  rcases h.2 with ⟨rfl, _⟩ | ⟨g, cap, cur, rfl, hb, hh, hn, hc, hs, _⟩
  · exact (spoil_none _ _ _ _ _ _ _ w).mono fun _ _ ⟨a, b⟩ => ⟨a, .inl b⟩
  · have hlt := (Array.getElem?_eq_some_iff.1 hh).1
    exact (spoil_eds g n cap _ _ _ _ _ _ _ w (Room.of_own h0) (by unfold maxLen at hc; omega) hlt).mono fun _ _ ⟨a, b⟩ => ⟨a, .inr ⟨g, _, _, rfl, b⟩⟩
end Go.Proofs.YthpcbbkpjggjbaaGreatDoor
namespace Go.Proofs.YthpcbbkpjggjbaaGreatDoor
open Go.RowKit
namespace Nn
def run : Nat → List Nat → Option Nat
  | c, [] => some c
  | c, b :: l => if b < 128 ∨ 191 < b then none else run (64 * c + b - 128) l
def done (low n : Nat) : Option Nat → Nat × Nat
  | none => (0, 0)
  | some c => fin low c n
end Nn
end Go.Proofs.YthpcbbkpjggjbaaGreatDoor
namespace Go.Proofs.YthpcbbkpjggjbaaGreatDoor
open Go.RowKit
theorem info_of' {P : Program} {e : TypeId} {z : Option Value} {s b : Nat} (h : (P.info? e).map (fun i => (i.zero, i.size, i.bytes)) = some (z, s, b)) : ∃ i, P.info? e = some i ∧ i.zero = z ∧ i.size = s ∧ i.bytes = b := by
  cases hi : P.info? e with
  | none => rw [hi] at h; cases h
  | some i =>
    rw [hi] at h
    simp only [Option.map_some, Option.some.injEq, Prod.mk.injEq] at h
    exact ⟨i, rfl, h.1, h.2.1, h.2.2⟩
theorem Nn.ext_drop' (s : ByteArray) (i : Nat) : (s.extract i s.size).data.toList = s.data.toList.drop i := by
  rw [ByteArray.data_extract, Array.toList_extract, List.extract_eq_take_drop]
  exact List.take_of_length_le (by rw [List.length_drop, ← Lib.size_eq]; omega)
end Go.Proofs.YthpcbbkpjggjbaaGreatDoor
namespace Go.Proofs.YthpcbbkpjggjbaaGreatDoor
open Go.RowKit
abbrev ndV (n : Nod) (v : Value) : Value := .agg (ndC n v).toArray
theorem seven_at {w : World} {b : Nat} {T : TypeId} {fr : Nat × Nat} {x0 x1 x2 x3 x4 x5 x6 : Value} (h : w.heap[b]? = some (.cells #[x0, x1, x2, x3, x4, x5, x6] T fr)) :
    w.cell? ⟨b, 0, none⟩ = some x0 ∧ w.cell? ⟨b, 1, none⟩ = some x1 ∧ w.cell? ⟨b, 2, none⟩ = some x2 ∧ w.cell? ⟨b, 3, none⟩ = some x3 ∧ w.cell? ⟨b, 4, none⟩ = some x4 ∧ w.cell? ⟨b, 5, none⟩ = some x5 ∧ w.cell? ⟨b, 6, none⟩ = some x6 := by
  simp only [World.cell?, h]
  exact ⟨rfl, rfl, rfl, rfl, rfl, rfl, rfl⟩
end Go.Proofs.YthpcbbkpjggjbaaGreatDoor
namespace Go.Proofs.YthpcbbkpjggjbaaGreatDoor
open Go.RowKit
def prv (l : List Nod) : Nat → Option (List UInt8)
  | 0 => none
  | j + 1 => (l[j]?).map fun n => n.name.data.toList
theorem Td.ckB_cons (p : Option Td.Bs) (n : Td.Nd) (l : List Td.Nd) : Td.ckB p (n :: l) = if Td.nErr n ≠ 0 then Td.nErr n else if Td.low p n.name = true then 4 else Td.ckB (some n.name) l := rfl
theorem nds_drop (l : List Nod) (k : Nat) (h : k < l.length) : nds (l.drop k) = l[k].nd :: nds (l.drop (k + 1)) := by
  rw [List.drop_eq_getElem_cons h]; rfl
end Go.Proofs.YthpcbbkpjggjbaaGreatDoor
namespace Go.Proofs
open Go.Shelf
def Tryz.lays129_ren : Go.Shelf.Ren := ⟨fun | 129 => 114 | n => n, fun | 53 => 145 | 3 => 3 | 4 => 4 | 46 => 167 | 5 => 5 | 9 => 9 | n => n, fun | n => n⟩
theorem Tryz.lays129 : Go.Proofs.Lays.n129 Tryz.prog Tryz.lays129_ren := {
  mixed := by kernel_rfl
  f129 := Tryz.func114.trans (congrArg some (by kernel_rfl))
  t3 := Tryz.underlying3
  a3 := Tryz.isAgg3
  z3 := Tryz.sizeOf3
  v3 := Tryz.zeroValue3
  t4 := Tryz.underlying4
  a4 := Tryz.isAgg4
  z4 := Tryz.sizeOf4
  v4 := Tryz.zeroValue4
  t5 := Tryz.underlying5
  a5 := Tryz.isAgg5
  z5 := Tryz.sizeOf5
  v5 := Tryz.zeroValue5
  t9 := Tryz.underlying9
  a9 := Tryz.isAgg9
  z9 := Tryz.sizeOf9
  v9 := Tryz.zeroValue9
  t46 := Tryz.underlying167
  a46 := Tryz.isAgg167
  z46 := Tryz.sizeOf167
  v46 := Tryz.zeroValue167
  t53 := Tryz.underlying145
  a53 := Tryz.isAgg145
  z53 := Tryz.sizeOf145
  v53 := Tryz.zeroValue145 }
theorem Tryz.bits_Len64 (x : Int) (w : World) (h0 : 0 ≤ x) (h1 : x ≤ 18446744073709551615) :
    Calls Tryz.prog 114 #[.int .u64 x] w fun e w' => e = .returned (.int .i64 (Lib.bitLen x.toNat)) ∧ w' = w := Any.bits_Len64 Tryz.lays129 x w h0 h1
end Go.Proofs
namespace Go.Proofs.YthpcbbkpjggjbaaGreatDoor
open Go.RowKit
set_option maxRecDepth 4000
theorem bitLen_dig (n : Nat) (h : n < 256 ^ 8) : (Lib.bitLen n + 7) / 8 = (Nm.dig n).length := by
  have key : ∀ (f m : Nat), m < 256 ^ f → f ≤ 8 → (Lib.bitLen m + 7) / 8 = (Nm.digF f m).length := by
    intro f
    induction f with
    | zero => intro m hm _; have : m = 0 := by simpa using hm
              subst this; decide
    | succ f ih =>
      intro m hm hf
      have h64 : m < 18446744073709551616 := Nat.lt_of_lt_of_le hm (Nat.le_trans (Nat.pow_le_pow_right (by omega) hf) (by omega))
      rw [Nm.digF]
      split
      · subst_vars; decide
      · rename_i hn
        by_cases hs : 256 ≤ m
        · rw [Lib.bitLen_shift8 m hs h64, List.length_append, List.length_singleton, ← ih (m / 256) (by rw [Nat.pow_succ] at hm; omega) (by omega)]
          omega
        · have h0 : m / 256 = 0 := by omega
          have hd : Nm.digF f 0 = [] := by cases f <;> simp [Nm.digF]
          rw [h0, hd]
          have h1 := Lib.bitLen_le8 ⟨m, by omega⟩
          have h2 := Lib.bitLen_half m hn (by omega)
          simp at h1 ⊢
          omega
  exact key 8 n h (by omega)
set_option maxHeartbeats 400000 in
theorem count_any (n : Int) (w : World) (h0 : 0 ≤ n) (h1 : n ≤ 18446744073709551615) :
    Calls Tryz.prog 98 #[.int .u64 n] w fun e w' => e = .returned (.int .i64 (Nm.dig n.toNat).length) ∧ w' = w := by
  have hb := bitLen_dig n.toNat (by omega)
  have hl := Nm.dig_length_le n.toNat
  have hbl : Lib.bitLen n.toNat ≤ 64 := by omega
  have HB : Hid ((Lib.bitLen n.toNat + 7) / 8 = (Nm.dig n.toNat).length) := hb
  clear hb hl
  go_enter Tryz.func98, Tryz.ntmps98
  go_wp2_with (go_at_call 114; refine (Tryz.bits_Len64 _ _ h0 h1).mono ?_; rintro e w' ⟨rfl, rfl⟩)
  go_ret
  exact ⟨ret_int (by rw [← HB.out]; omega), rfl⟩
theorem byte_at (n t : Int) (q : Nat) (n0 : 0 ≤ n) (h0 : 0 ≤ t) (h1 : t ≤ 255) :
    bits .xor .u8 (n / 2 ^ (8 * q) % 256) t = ((UInt8.ofNat (n.toNat / 256 ^ q % 256) ^^^ UInt8.ofNat t.toNat).toNat : Int) := by
  obtain ⟨m, rfl⟩ := Int.eq_ofNat_of_zero_le n0
  obtain ⟨T, rfl⟩ := Int.eq_ofNat_of_zero_le h0
  have e : ((m : Int) / 2 ^ (8 * q) % 256) = ((m / 256 ^ q % 256 : Nat) : Int) := by
    have : (2 : Int) ^ (8 * q) = ((256 ^ q : Nat) : Int) := by rw [Int.pow_mul]; simp
    rw [this]; simp
  rw [e, u8_xor_nat _ _ (by omega) (by omega)]
  simp only [Int.toNat_natCast]
  generalize m / 256 ^ q = x
  have hx : (UInt8.ofNat (x % 256)).toNat = x % 256 := by rw [UInt8.toNat_ofNat']; omega
  rw [← xor_u8 _ _ (by omega), hx]
theorem append_step {base : Nat} {w wr w1 : World} {v v1 : Value} {ys zs : List UInt8} {n t : Int} {q : Nat} {o : Obj} (hown : wr.ownsRow base 5 1 v ys.length (ys.map B))
    (hown1 : w1.ownsRow base 5 1 v1 (ys.length + 1) (ys.map B ++ [.int .u8 (bits .xor .u8 (n / 2 ^ (8 * q) % 256) t)])) (hg : (wr.alloc o).grownBy w1 v.ownBlock) (hbel : Below base w wr) (hbase : base ≤ w.heap.size)
    (heq : ys ++ Nm.tn t.toNat (Nm.low (q + 1) n.toNat) = zs) (n0 : 0 ≤ n) (_n1 : n ≤ 18446744073709551615) (h0 : 0 ≤ t) (h1 : t ≤ 255) :
    w1.ownsRow base 5 1 v1 (ys ++ [UInt8.ofNat (n.toNat / 256 ^ q % 256) ^^^ UInt8.ofNat t.toNat]).length ((ys ++ [UInt8.ofNat (n.toNat / 256 ^ q % 256) ^^^ UInt8.ofNat t.toNat]).map B) ∧
      (ys ++ [UInt8.ofNat (n.toNat / 256 ^ q % 256) ^^^ UInt8.ofNat t.toNat]) ++ Nm.tn t.toNat (Nm.low q n.toNat) = zs ∧ Below base w w1 := by
  refine ⟨?_, ?_, ?_⟩
  · rw [byte_at n t q n0 h0 h1] at hown1
    simpa [B] using hown1
  · rw [← heq, Nm.low, List.append_assoc]
    simp [Nm.tn]
  · have hs := hbel.size
    refine (hbel.alloc (by omega) o).grown hg (by simp; omega) ?_
    intro k hk
    exact (hown.lt k hk).1
set_option maxHeartbeats 400000 in
theorem digits_app (base : Nat) (v : Value) (xs : List UInt8) (n k t : Int) (w : World) (hown : w.ownsRow base 5 1 v xs.length (xs.map B)) (hbase : base ≤ w.heap.size) (hx : xs.length ≤ 1000)
    (n0 : 0 ≤ n) (n1 : n ≤ 18446744073709551615) (k0 : 0 ≤ k) (k1 : k ≤ 8) (h0 : 0 ≤ t) (h1 : t ≤ 255) :
    Calls Tryz.prog 99 #[v, .int .u64 n, .int .i64 k, .int .u8 t] w fun e w' => ∃ v', e = .returned v' ∧
      w'.ownsRow base 5 1 v' (xs ++ Nm.tn t.toNat (Nm.low k.toNat n.toNat)).length ((xs ++ Nm.tn t.toNat (Nm.low k.toNat n.toNat)).map B) ∧ Below base w w' := by
  obtain ⟨i0, hi, hz0, hz1, hz2⟩ := info_parts info_u8
  go_enter Tryz.func99, Tryz.ntmps99
  go_wp2
  go_loopw [0, 9] (fun v i wr => ∃ (r : Nat) (ys : List UInt8), r ≤ k.toNat ∧ i = .int .i64 ((r : Int) - 1) ∧ wr.ownsRow base 5 1 v ys.length (ys.map B) ∧
      ys ++ Nm.tn t.toNat (Nm.low r n.toNat) = xs ++ Nm.tn t.toNat (Nm.low k.toNat n.toNat) ∧ Below base w wr) (fun _ i _ => (intOf i + 1).toNat)
  case atStart => exact ⟨k.toNat, xs, Nat.le_refl _, int_eq (by omega), hown, rfl, Below.refl _ _⟩
  case round =>
    obtain ⟨r, ys, hr, rfl, hown', heq, hbel⟩ := hrel
    have hbs := hbel.size
    cases r with
    | zero =>
      go_wp2
      go_ret
      refine ⟨u0, rfl, ?_, hbel⟩
      rw [← heq, show Nm.low 0 n.toNat = [] from rfl]
      simpa [Nm.tn] using hown'
    | succ q =>
      have hyl : ys.length ≤ xs.length + 8 := by
        have := congrArg List.length heq
        simp [Nm.tn_length, Nm.low_length] at this
        omega
      go_wp2_with (at_builtin; refine wpList_append_own _ rfl _ _ 129 rfl base 5 i0 (.int .u8 0) 1 1 Tryz.underlying129 hi hz0 hz1 hz2 rfl (by decide) _ _ _ rfl (hown'.alloc _) ⟨wr.heap.size, 0, none⟩ 1 1 [.int .u8 (bits .xor .u8 (n / 2 ^ (8 * q) % 256) t)] rfl rfl ?c1 ?c2 ?c3 ?c4 ?c5 ?_)
      case c1 =>
        intro j u hj
        match j, hj with
        | 0, hj => simp at hj; subst hj; simp [Addr.add]
      case c2 => intro u hu; simp at hu; subst hu; rfl
      case c3 => unfold maxLen; omega
      case c4 => omega
      case c5 => simp; omega
      intro v' w1 hown1 hgrow _
      have R := append_step (q := q) hown' hown1 hgrow hbel hbase heq n0 n1 h0 h1
      clear hown1 hgrow hown' heq hbel
      go_wp2
      go_roundw
      case rel => exact ⟨q, _, by omega, by go_num, R.1, R.2.1, R.2.2⟩
      case measure => simp [intOf]
end Go.Proofs.YthpcbbkpjggjbaaGreatDoor
namespace Go.Proofs.YthpcbbkpjggjbaaGreatDoor
open Go.RowKit
set_option maxRecDepth 4000
set_option maxHeartbeats 1000000 in
theorem putT_any (s : ByteArray) (w : World) (hs : s.size ≤ 1024) :
    Calls Tryz.prog 100 #[.string s] w fun e w' => e = .returned (.tuple #[.string ⟨(Nm.putT s.data.toList).toArray⟩, .int .i64 0]) ∧ Below w.heap.size w w' := by
  obtain ⟨i0, hi, hz0, hz1, hz2⟩ := info_parts info_u8
  go_enter Tryz.func100, Tryz.ntmps100
  go_wp2
  go_loopw [4, 5] (fun v i wr => ∃ (k : Nat) (ys : List UInt8), k ≤ s.size ∧ i = .int .i64 k ∧ wr.ownsRow w.heap.size 5 1 v ys.length (ys.map B) ∧
      ys = Nm.esc (s.data.toList.take k) ∧ Below w.heap.size w wr) (fun _ i _ => s.size - (intOf i).toNat)
  case atStart => exact ⟨0, [], Nat.zero_le _, rfl, World.ownsRow_nil _ _ _ _, rfl, Below.refl _ _⟩
  case round =>
    obtain ⟨k, ys, hk, rfl, hown, hys, hbel⟩ := hrel
    have hbs := hbel.size
    have HY : Hid (ys = Nm.esc (s.data.toList.take k)) := hys
    have hyl : ys.length ≤ 2048 := by rw [hys]; have := Nm.esc_length (s.data.toList.take k); have := List.length_take_le k s.data.toList; omega
    clear hys
    by_cases hlt : k < s.size
    · have hb := s[k].toNat_lt
      have hts := take_snoc s k hlt
      have HT : Hid (s.data.toList.take (k + 1) = s.data.toList.take k ++ [s[k]]) := hts
      clear hts
      generalize hc : s[k] = c at *
      by_cases hz : c = 0
      · have hq : ((c.toNat : Int) == 0) = true := by rw [hz]; decide
        have HZ : Hid (c = 0) := hz
        clear hz
        go_wp2_with (at_builtin; refine wpList_append_own _ rfl (.tmp 15) (.tmp 19) 129 rfl w.heap.size 5 i0 (.int .u8 0) 1 1 Tryz.underlying129 hi hz0 hz1 hz2 rfl (by decide) _ _ _ rfl (hown.alloc _) ⟨wr.heap.size, 0, none⟩ 1 1 [.int .u8 (c.toNat : Int)] rfl rfl ?c1 ?c2 ?c3 ?c4 ?c5 ?_)
        case c1 =>
          intro j u hj
          match j, hj with
          | 0, hj => simp at hj; subst hj; simp [Addr.add]
        case c2 => intro u hu; simp at hu; subst hu; rfl
        case c3 => unfold maxLen; omega
        case c4 => omega
        case c5 => simp; omega
        intro v1 w1 hown1 hgrow _
        obtain ⟨hown2, hbel2⟩ := own_more (b := c) hown hown1 rfl hgrow hbel (Nat.le_refl _)
        clear hown1 hgrow hown hbel
        have hbs2 := hbel2.size
        go_wp2_with (at_builtin; refine wpList_append_own _ rfl (.tmp 25) (.tmp 26) 129 rfl w.heap.size 5 i0 (.int .u8 0) 1 1 Tryz.underlying129 hi hz0 hz1 hz2 rfl (by decide) _ _ _ rfl (hown2.alloc _) ⟨w1.heap.size, 0, none⟩ 1 1 [.int .u8 255] rfl rfl ?d1 ?d2 ?d3 ?d4 ?d5 ?_)
        case d1 =>
          intro j u hj
          match j, hj with
          | 0, hj => simp at hj; subst hj; simp [Addr.add]
        case d2 => intro u hu; simp at hu; subst hu; rfl
        case d3 => unfold maxLen; simp; omega
        case d4 => simp; omega
        case d5 => simp; omega
        intro v2 w2 hown3 hgrow2 _
        obtain ⟨hown4, hbel4⟩ := own_more (b := 255) hown2 (by simpa using hown3) rfl hgrow2 hbel2 (Nat.le_refl _)
        clear hown3 hgrow2 hown2 hbel2
        go_wp2
        go_roundw
        case rel => exact ⟨k + 1, _, by omega, by go_num, hown4, by rw [HT.out, HZ.out, Nm.esc_zero, ← HY.out], hbel4⟩
        case measure => simp [intOf]; omega
      · have hq : ((c.toNat : Int) == 0) = false := by
          rw [beq_eq_false_iff_ne]; intro h; exact hz (UInt8.toNat_inj.1 (by simp; omega))
        go_wp2_with (at_builtin; refine wpList_append_own _ rfl (.tmp 15) (.tmp 19) 129 rfl w.heap.size 5 i0 (.int .u8 0) 1 1 Tryz.underlying129 hi hz0 hz1 hz2 rfl (by decide) _ _ _ rfl (hown.alloc _) ⟨wr.heap.size, 0, none⟩ 1 1 [.int .u8 (c.toNat : Int)] rfl rfl ?e1 ?e2 ?e3 ?e4 ?e5 ?_)
        case e1 =>
          intro j u hj
          match j, hj with
          | 0, hj => simp at hj; subst hj; simp [Addr.add]
        case e2 => intro u hu; simp at hu; subst hu; rfl
        case e3 => unfold maxLen; omega
        case e4 => omega
        case e5 => simp; omega
        intro v1 w1 hown1 hgrow _
        obtain ⟨hown2, hbel2⟩ := own_more (b := c) hown hown1 rfl hgrow hbel (Nat.le_refl _)
        clear hown1 hgrow hown hbel
        go_wp2
        go_roundw
        case rel => exact ⟨k + 1, _, by omega, by go_num, hown2, by rw [HT.out, Nm.esc_other _ _ hz, ← HY.out], hbel2⟩
        case measure => simp [intOf]; omega
    · have hfin : Hid (ys ++ [0, 0] = Nm.putT s.data.toList) := by
        show _ = _
        rw [HY.out, List.take_of_length_le (by rw [← Lib.size_eq]; omega)]; rfl
      go_wp2_with (at_builtin; refine wpList_append_own _ rfl (.tmp 28) (.tmp 29) 129 rfl w.heap.size 5 i0 (.int .u8 0) 1 1 Tryz.underlying129 hi hz0 hz1 hz2 rfl (by decide) _ _ _ rfl (hown.alloc _) ⟨wr.heap.size, 0, none⟩ 2 2 [.int .u8 0, .int .u8 0] rfl rfl ?f1 ?f2 ?f3 ?f4 ?f5 ?_)
      case f1 =>
        intro j u hj
        match j, hj with
        | 0, hj => simp at hj; subst hj; simp [Addr.add]
        | 1, hj => simp at hj; subst hj; simp [Addr.add]
      case f2 => intro u hu; simp at hu; subst hu; rfl
      case f3 => unfold maxLen; omega
      case f4 => omega
      case f5 => simp; omega
      intro v1 w1 hown1 hgrow _
      have hown2 : w1.ownsRow w.heap.size 5 1 v1 (ys ++ [0, 0]).length ((ys ++ [0, 0]).map B) := by simpa [B] using hown1
      have hbel2 : Below w.heap.size w w1 := by
        refine (hbel.alloc hbs _).grown hgrow (by simp; omega) ?_
        intro j hj
        exact (hown.lt j hj).1
      rw [hfin.out] at hown2
      have hcv := run_str hown2
      clear hown1 hown2 hgrow hown hbel
      go_wp2
      go_ret2
      exact ⟨rfl, hbel2⟩
end Go.Proofs.YthpcbbkpjggjbaaGreatDoor
namespace Go.Proofs.YthpcbbkpjggjbaaGreatDoor
open Go.RowKit
set_option maxRecDepth 4000
theorem drop_byte (s : ByteArray) (k : Nat) (h : k < s.size) : s.data.toList.drop k = s[k] :: s.data.toList.drop (k + 1) := by
  rw [List.drop_eq_getElem_cons (by simpa using h)]; rfl
theorem byte_ne (c z : UInt8) (h : c ≠ z) : ((c.toNat : Int) == (z.toNat : Int)) = false := by
  rw [beq_eq_false_iff_ne]; intro e; exact h (UInt8.toNat_inj.1 (by omega))
theorem gt_own_len {w : World} {base : Nat} {v : Value} {ys : List UInt8} (h : w.ownsRow base 5 1 v ys.length (ys.map B)) : ∃ a cap, v = .slice a ys.length cap := by
  rcases h.2 with ⟨rfl, h0⟩ | ⟨g, cap, cur, rfl, _⟩
  · exact ⟨none, 0, by rw [h0]⟩
  · exact ⟨_, _, rfl⟩
set_option maxHeartbeats 2000000 in
theorem getT_any (s : ByteArray) (w : World) (hs : s.size ≤ 140737488355328) :
    Calls Tryz.prog 117 #[.string s] w fun e w' =>
      e = .returned (.tuple #[.string ⟨(Nm.getT s.data.toList).1.toArray⟩, .int .i64 (Nm.getT s.data.toList).2.1, .int .i64 (Nm.getT s.data.toList).2.2]) ∧ Below w.heap.size w w' := by
  obtain ⟨i0, hi, hz0, hz1, hz2⟩ := info_parts info_u8
  obtain ⟨G, hG⟩ : ∃ G, Nm.getT s.data.toList = G := ⟨_, rfl⟩
  rw [hG]
  have HG : Hid (Nm.scanT s.data.toList [] 0 = G) := hG
  clear hG
  go_enter Tryz.func117, Tryz.ntmps117
  go_wp2
  go_loopw [5, 6] (fun v i wr => ∃ (k : Nat) (ys : List UInt8), k ≤ s.size ∧ i = .int .i64 k ∧ wr.ownsRow w.heap.size 5 1 v ys.length (ys.map B) ∧
      Hid (Nm.scanT (s.data.toList.drop k) ys k = G) ∧ ys.length ≤ 1024 ∧ Below w.heap.size w wr) (fun _ i _ => s.size - (intOf i).toNat)
  case atStart => exact ⟨0, [], Nat.zero_le _, rfl, World.ownsRow_nil _ _ _ _, HG, by simp, Below.refl _ _⟩
  case round =>
    obtain ⟨k, ys, hk, rfl, hown, HS, hyl, hbel⟩ := hrel
    have hbs := hbel.size
    have hyl2 : ys.length ≤ 1024 := hyl
    by_cases hlt : k < s.size
    · have hb := s[k].toNat_lt
      have hds := drop_byte s k hlt
      generalize hc : s[k] = c at *
      by_cases hz : c = 0
      · subst hz
        by_cases he : k + 1 = s.size
        · have hq1 : ((k : Int) + 1 == (s.size : Int)) = true := by rw [beq_iff_eq]; omega
          have hres : G = ([], 0, 3) := by rw [← HS.out, hds, List.drop_of_length_le (by rw [← Lib.size_eq]; omega)]; exact Nm.scan_end _ _
          subst hres
          clear hds HS HG he
          go_wp2
          go_ret3
          exact ⟨rfl, hbel⟩
        have hlt2 : k + 1 < s.size := by omega
        have hq1 : ((k : Int) + 1 == (s.size : Int)) = false := by rw [beq_eq_false_iff_ne]; omega
        have hds2 := drop_byte s (k + 1) hlt2
        rw [hds2] at hds
        have hb2 := s[k + 1].toNat_lt
        clear hds2
        generalize hd : s[k + 1] = d at *
        by_cases hd0 : d = 0
        · subst hd0
          have hres : G = (ys, k + 2, 0) := by rw [← HS.out, hds]; exact Nm.scan_zeros _ _ _
          subst hres
          have hcv := run_str hown
          clear hds HS HG
          go_wp2
          go_ret3
          exact ⟨rfl, hbel⟩
        have hq2 : ((d.toNat : Int) == 0) = false := byte_ne d 0 hd0
        by_cases hd1 : d = 255
        · subst hd1
          by_cases hf : ys.length = 1024
          · have hq3 : ((ys.length : Int) == 1024) = true := by rw [beq_iff_eq]; omega
            have hres : G = ([], 0, 2) := by rw [← HS.out, hds]; exact Nm.scan_esc_full _ _ _ hf
            subst hres
            obtain ⟨a, cap, rfl⟩ := gt_own_len hown
            clear hds HS HG hf
            go_wp2
            go_ret3
            exact ⟨rfl, hbel⟩
          · have hq3 : ((ys.length : Int) == 1024) = false := by rw [beq_eq_false_iff_ne]; omega
            have HN : Hid (Nm.scanT (s.data.toList.drop (k + 2)) (ys ++ [0]) (k + 2) = G) := by show _ = _; rw [← HS.out, hds]; exact (Nm.scan_esc _ _ _ hf).symm
            obtain ⟨a, cap, rfl⟩ := gt_own_len hown
            clear hds HS HG
            go_wp2_with (at_builtin; refine wpList_append_own _ rfl (.tmp 40) (.tmp 42) 129 rfl w.heap.size 5 i0 (.int .u8 0) 1 1 Tryz.underlying129 hi hz0 hz1 hz2 rfl (by decide) _ _ _ rfl (hown.alloc _) ⟨wr.heap.size, 0, none⟩ 1 1 [.int .u8 0] rfl rfl ?p1 ?p2 ?p3 ?p4 ?p5 ?_)
            case p1 =>
              intro j u hj
              match j, hj with
              | 0, hj => simp at hj; subst hj; simp [Addr.add]
            case p2 => intro u hu; simp at hu; subst hu; rfl
            case p3 => unfold maxLen; omega
            case p4 => omega
            case p5 => simp; omega
            intro v1 w1 hown1 hgrow _
            obtain ⟨hown2, hbel2⟩ := own_more (b := 0) hown hown1 rfl hgrow hbel (Nat.le_refl _)
            clear hown1 hgrow hown hbel
            go_wp2
            go_roundw
            case rel => exact ⟨k + 2, _, by omega, by go_num, hown2, HN, by simp; omega, hbel2⟩
            case measure => simp [intOf]; omega
        · have hq3 : ((d.toNat : Int) != 255) = true := by rw [bne_iff_ne]; intro e; exact hd1 (UInt8.toNat_inj.1 (by simp; omega))
          have hres : G = ([], 0, 4) := by rw [← HS.out, hds]; exact Nm.scan_bad _ _ _ _ hd0 hd1
          subst hres
          clear hds HS HG
          go_wp2
          go_ret3
          exact ⟨rfl, hbel⟩
      · have hq : ((c.toNat : Int) == 0) = false := byte_ne c 0 hz
        by_cases hf : ys.length = 1024
        · have hq3 : ((ys.length : Int) == 1024) = true := by rw [beq_iff_eq]; omega
          have hres : G = ([], 0, 2) := by rw [← HS.out, hds]; exact Nm.scan_full _ _ _ _ hz hf
          subst hres
          obtain ⟨a, cap, rfl⟩ := gt_own_len hown
          clear hds HS HG hf
          go_wp2
          go_ret3
          exact ⟨rfl, hbel⟩
        · have hq3 : ((ys.length : Int) == 1024) = false := by rw [beq_eq_false_iff_ne]; omega
          have HN : Hid (Nm.scanT (s.data.toList.drop (k + 1)) (ys ++ [c]) (k + 1) = G) := by show _ = _; rw [← HS.out, hds]; exact (Nm.scan_byte _ _ _ _ hz hf).symm
          obtain ⟨a, cap, rfl⟩ := gt_own_len hown
          clear hds HS HG
          go_wp2_with (at_builtin; refine wpList_append_own _ rfl (.tmp 40) (.tmp 42) 129 rfl w.heap.size 5 i0 (.int .u8 0) 1 1 Tryz.underlying129 hi hz0 hz1 hz2 rfl (by decide) _ _ _ rfl (hown.alloc _) ⟨wr.heap.size, 0, none⟩ 1 1 [.int .u8 (c.toNat : Int)] rfl rfl ?r1 ?r2 ?r3 ?r4 ?r5 ?_)
          case r1 =>
            intro j u hj
            match j, hj with
            | 0, hj => simp at hj; subst hj; simp [Addr.add]
          case r2 => intro u hu; simp at hu; subst hu; rfl
          case r3 => unfold maxLen; omega
          case r4 => omega
          case r5 => simp; omega
          intro v1 w1 hown1 hgrow _
          obtain ⟨hown2, hbel2⟩ := own_more (b := c) hown hown1 rfl hgrow hbel (Nat.le_refl _)
          clear hown1 hgrow hown hbel
          go_wp2
          go_roundw
          case rel => exact ⟨k + 1, _, by omega, by go_num, hown2, HN, by simp; omega, hbel2⟩
          case measure => simp [intOf]; omega
    · have hres : G = ([], 0, 3) := by rw [← HS.out, List.drop_of_length_le (by rw [← Lib.size_eq]; omega)]; rfl
      subst hres
      clear HS HG
      go_wp2
      go_ret3
      exact ⟨rfl, hbel⟩
end Go.Proofs.YthpcbbkpjggjbaaGreatDoor
namespace Go.Proofs.YthpcbbkpjggjbaaGreatDoor
open Go.RowKit
section
variable {w W W' : World} {b : Nat} {x0 x1 x2 x3 x4 x5 x6 y : Value}
theorem seven_fz {b : Nat} {T : TypeId} (h : W.heap[b]? = some (.cells #[x0, x1, x2, x3, x4, x5, x6] T (0, 0))) :
    W.frozen? ⟨b, 0, none⟩ = false ∧ W.frozen? ⟨b, 1, none⟩ = false ∧ W.frozen? ⟨b, 2, none⟩ = false ∧ W.frozen? ⟨b, 3, none⟩ = false ∧ W.frozen? ⟨b, 4, none⟩ = false ∧ W.frozen? ⟨b, 5, none⟩ = false ∧ W.frozen? ⟨b, 6, none⟩ = false := by
  refine ⟨?_, ?_, ?_, ?_, ?_, ?_, ?_⟩ <;> simp [World.frozen?, h]
end
namespace Td
end Td
theorem own_ge {base : Nat} {e : TypeId} {k : Nat} {v : Value} {n : Nat} {xs : List Value} {w : World} (h : w.ownsRow base e k v n xs) {g : Nat} (hg : v.ownBlock = some g) : base ≤ g := by
  obtain ⟨_, _, q, _⟩ := own_block h hg
  exact q
theorem rx_sub {w : World} {v : Value} {L : List { x : List UInt8 // x.length = 8 }} (hr : Rx 8 (fun x : { x : List UInt8 // x.length = 8 } => idC x.1) w v L) : Rx 8 idC w v (L.map (·.1)) := by
  refine ⟨?_, hr.room⟩
  rcases hr.at_ with ⟨h1, rfl⟩ | ⟨bk, o, cp, h1, h2, h3⟩
  · exact .inl ⟨h1, rfl⟩
  · refine .inr ⟨bk, o, cp, by rw [List.length_map]; exact h1, h2, fun j t hj r u hu => ?_⟩
    rw [List.getElem?_map] at hj
    cases e : L[j]? with
    | none => rw [e] at hj; simp at hj
    | some q =>
      rw [e] at hj
      obtain rfl : q.1 = t := by simpa using hj
      exact h3 j q e r u hu
theorem rx_own {base : Nat} {w : World} {v : Value} {n : Nat} {l : List (List UInt8)} (h : w.ownsRow base 39 8 v n (rowR idC l)) (hn : l.length = n) (h8 : ∀ t ∈ l, t.length = 8) : Rx 8 idC w v l := by
  obtain ⟨L, rfl⟩ : ∃ L : List { x : List UInt8 // x.length = 8 }, l = L.map (·.1) := ⟨l.attach.map (fun x => ⟨x.1, h8 x.1 x.2⟩), by simp [List.map_map, Function.comp_def]⟩
  refine rx_sub (Rx.of_own (base := base) (T := 39) (fun t => by rw [idC, List.length_map, t.2]) ?_)
  have e : rowR (fun x : { x : List UInt8 // x.length = 8 } => idC x.1) L = rowR idC (L.map (·.1)) := by simp [rowR]
  rw [e]
  rw [List.length_map] at hn
  rw [hn]
  exact h
theorem own_type {base n k : Nat} {T : TypeId} {w : World} {v : Value} {xs : List Value} (h : w.ownsRow base T k v n xs) : ∀ a m c, v = .slice (some a) m c → ∃ cur fr, w.heap[a.block]? = some (.cells cur T fr) := by
  intro a m c e
  rcases h.2 with ⟨rfl, _⟩ | ⟨g, cap, cur, rfl, hg, hh, _⟩
  · cases e
  · cases e
    exact ⟨_, _, hh⟩
theorem kept7 (W : World) (b : Nat) (x0 x1 x2 x3 x4 x5 x6 : Value) : Kept (fun k => k ≠ b) W (((((((W.setCell ⟨b, 0, none⟩ x0).setCell ⟨b, 1, none⟩ x1).setCell ⟨b, 2, none⟩ x2).setCell ⟨b, 3, none⟩ x3).setCell ⟨b, 4, none⟩ x4).setCell ⟨b, 5, none⟩ x5).setCell ⟨b, 6, none⟩ x6) :=
  (((((((Kept.refl (fun k => k ≠ b) W).setCell (a := ⟨b, 0, none⟩) (by simp) x0).setCell (a := ⟨b, 1, none⟩) (by simp) x1).setCell (a := ⟨b, 2, none⟩) (by simp) x2).setCell (a := ⟨b, 3, none⟩) (by simp) x3).setCell (a := ⟨b, 4, none⟩) (by simp) x4).setCell (a := ⟨b, 5, none⟩) (by simp) x5).setCell (a := ⟨b, 6, none⟩) (by simp) x6
theorem wf_i {n : Int} (h0 : -9223372036854775808 ≤ n) (h1 : n ≤ 9223372036854775807) : (Lit.int .i64 n).wf = true := by
  simp [Lit.wf, IntKind.min, IntKind.max, IntKind.signed, IntKind.bits]
  omega
theorem info_id : (Tryz.prog.info? 39).map (fun i => (i.zero, i.size, i.bytes)) = some (some (.agg #[.int .u8 0, .int .u8 0, .int .u8 0, .int .u8 0, .int .u8 0, .int .u8 0, .int .u8 0, .int .u8 0]), 8, 8) := by kernel_rfl
theorem eight_new (W : World) (v0 v1 v2 v3 v4 v5 v6 v7 : Value) {T : TypeId} : ∀ j u, [v0, v1, v2, v3, v4, v5, v6, v7][j]? = some u → (W.alloc (.cells #[v0, v1, v2, v3, v4, v5, v6, v7] T)).cell? ((⟨W.heap.size, 0, none⟩ : Addr).add j) = some u := by
  intro j u hj
  rw [show ((⟨W.heap.size, 0, none⟩ : Addr).add j) = ⟨W.heap.size, j, none⟩ from by unfold Addr.add; split <;> simp_all]
  match j, hj with
  | 0, hj => simp at hj; subst hj; simp
  | 1, hj => simp at hj; subst hj; simp
  | 2, hj => simp at hj; subst hj; simp
  | 3, hj => simp at hj; subst hj; simp
  | 4, hj => simp at hj; subst hj; simp
  | 5, hj => simp at hj; subst hj; simp
  | 6, hj => simp at hj; subst hj; simp
  | 7, hj => simp at hj; subst hj; simp
end Go.Proofs.YthpcbbkpjggjbaaGreatDoor
namespace Go.Proofs.YthpcbbkpjggjbaaGreatDoor
open Go.RowKit
def NdG (w : World) (n : Nod) (c : List Value) : Prop := ∃ v, c = ndC n v ∧ Rx 8 idC w v n.parts ∧ (∀ a m c, v = .slice (some a) m c → ∃ cur fr, w.heap[a.block]? = some (.cells cur 39 fr)) ∧ n.Ok
theorem NdG.kt {w W : World} {n : Nod} {c : List Value} (hk : Kt 104 w W) (h : NdG w n c) : NdG W n c := by
  obtain ⟨v, e, hr, ht, ho⟩ := h
  refine ⟨v, e, ⟨?_, hr.room⟩, fun a m c hv => ?_, ho⟩
  · rcases hr.at_ with h1 | ⟨bk, o, cap, h1, h2, h3⟩
    · exact .inl h1
    · obtain ⟨cur, fr, hb⟩ := ht _ _ _ h1
      have hb' := hk.cell hb (by decide)
      refine .inr ⟨bk, o, cap, h1, Nat.lt_of_lt_of_le h2 hk.size, fun j t hj r u hu => ?_⟩
      rw [← h3 j t hj r u hu]
      simp only [World.cell?] at hb hb' ⊢
      rw [hb, hb']
  · obtain ⟨cur, fr, hb⟩ := ht a m c hv
    exact ⟨cur, fr, hk.cell hb (by decide)⟩
theorem NdG.r {w : World} {n : Nod} {c : List Value} (h : NdG w n c) : NdR w n c := by
  obtain ⟨v, e, hr, _, ho⟩ := h
  exact ⟨v, e, hr, ho⟩
theorem Nds.of_oy {base : Nat} {w : World} {v : Value} {l : List Nod} (h : Oy 7 104 NdG base w v l) : Nds w v l := by
  rcases (Rw.of_ry h.ry).at_ with h1 | ⟨bk, o, cap, h1, h2, h3, h4⟩
  · exact ⟨.inl h1⟩
  · refine ⟨.inr ⟨bk, o, cap, h1, h2, h3, fun j t hj => ?_⟩⟩
    obtain ⟨c, c1, c2, c3⟩ := h4 j t hj
    exact ⟨c, c1, c2.r, c3⟩
theorem info_nd : (Tryz.prog.info? 104).map (fun i => (i.zero, i.size, i.bytes)) = some (some (.agg #[.string ⟨#[]⟩, .int .i64 0, .int .i64 0, .int .i64 0, .int .i64 0, .slice none 0 0, .string ⟨#[]⟩]), 7, 88) := by kernel_rfl
theorem set_seven {W : World} {b : Nat} {T : TypeId} {y0 y1 y2 y3 y4 y5 y6 : Value} (h : W.heap[b]? = some (.cells #[y0, y1, y2, y3, y4, y5, y6] T (0, 0))) (x0 x1 x2 x3 x4 x5 x6 : Value) :
    (((((((W.setCell ⟨b, 0, none⟩ x0).setCell ⟨b, 1, none⟩ x1).setCell ⟨b, 2, none⟩ x2).setCell ⟨b, 3, none⟩ x3).setCell ⟨b, 4, none⟩ x4).setCell ⟨b, 5, none⟩ x5).setCell ⟨b, 6, none⟩ x6).heap[b]? = some (.cells #[x0, x1, x2, x3, x4, x5, x6] T (0, 0)) := by
  simp [World.setCell, Array.getElem?_modify, h]
theorem seven_new (W : World) (v0 v1 v2 v3 v4 v5 v6 : Value) {T : TypeId} : ∀ j u, [v0, v1, v2, v3, v4, v5, v6][j]? = some u → (W.alloc (.cells #[v0, v1, v2, v3, v4, v5, v6] T)).cell? ((⟨W.heap.size, 0, none⟩ : Addr).add j) = some u := by
  intro j u hj
  rw [show ((⟨W.heap.size, 0, none⟩ : Addr).add j) = ⟨W.heap.size, j, none⟩ from by unfold Addr.add; split <;> simp_all]
  match j, hj with
  | 0, hj => simp at hj; subst hj; simp
  | 1, hj => simp at hj; subst hj; simp
  | 2, hj => simp at hj; subst hj; simp
  | 3, hj => simp at hj; subst hj; simp
  | 4, hj => simp at hj; subst hj; simp
  | 5, hj => simp at hj; subst hj; simp
  | 6, hj => simp at hj; subst hj; simp
end Go.Proofs.YthpcbbkpjggjbaaGreatDoor
namespace Go.Proofs.YthpcbbkpjggjbaaGreatDoor
open Go.RowKit
set_option maxRecDepth 4000
def Pq (base b m : Nat) (fx mn mx bt : Int) (c : Nat) (w : World) (left : List Im) (bs : List Blb) : Prop := bs.length ≤ c ∧ ∃ n, n ≤ c ∧ Plt base b m fx mn mx bt w left bs n
theorem Pq.below {base b m : Nat} {fx mn mx bt : Int} {c : Nat} {w w' : World} {left : List Im} {bs : List Blb} (h : Pq base b m fx mn mx bt c w left bs) (hb : Below w.heap.size w w') : Pq base b m fx mn mx bt c w' left bs := by
  obtain ⟨h1, n, h2, h3⟩ := h
  exact ⟨h1, n, h2, h3.below hb⟩
theorem Pq.mono {base b m : Nat} {fx mn mx bt : Int} {c c' : Nat} {w : World} {left : List Im} {bs : List Blb} (h : Pq base b m fx mn mx bt c w left bs) (hc : c ≤ c') : Pq base b m fx mn mx bt c' w left bs := by
  obtain ⟨h1, n, h2, h3⟩ := h
  exact ⟨by omega, n, by omega, h3⟩
theorem Pq.base {base b m : Nat} {fx mn mx bt : Int} {c : Nat} {w : World} {left : List Im} {bs : List Blb} (h : Pq base b m fx mn mx bt c w left bs) : base ≤ w.heap.size := by
  obtain ⟨h1, n, h2, h3⟩ := h
  obtain ⟨lv, bv, p1, _⟩ := h3.ex
  have := (Array.getElem?_eq_some_iff.1 p1).1
  have := h3.at_
  omega
theorem tell_q (base b m c : Nat) (fx mn mx bt : Int) (left : List Im) (bs : List Blb) (x : Blb) (w : World) (h : Pq base b m fx mn mx bt c w left bs) (hc : c < 1000000000) (hx : x.bytes.size ≤ 9223372036854775807) :
    Calls Tryz.prog 48 #[.pointer (some ⟨b, 0, none⟩), blV x] w fun e w' => e = .returned (.tuple #[idV (idI bs x), .int .i64 (errI bs x)]) ∧ Pq base b m fx mn mx bt (c + 1) w' left (more bs x) ∧ Pf base w w' := by
  obtain ⟨h1, n, h2, h3⟩ := h
  refine (tell_any base b m n fx mn mx bt left bs x w h3 (by omega) (by omega) hx).mono ?_
  rintro e w' ⟨he, ⟨n', hn', hp⟩, hf⟩
  have := more_length bs x
  exact ⟨he, ⟨by omega, n', by omega, hp⟩, hf⟩
theorem own_pf {base base' : Nat} {e : TypeId} {k : Nat} {v : Value} {n : Nat} {xs : List Value} {w w' : World} (h : w.ownsRow base' e k v n xs) (hk : Pf base w w') (h1 : e ≠ 111) (h2 : e ≠ 81) : w'.ownsRow base' e k v n xs :=
  own_ko h hk.ko fun _ _ => ⟨h1, h2⟩
theorem own_kt {base' : Nat} {T e : TypeId} {k : Nat} {v : Value} {n : Nat} {xs : List Value} {w w' : World} (h : w.ownsRow base' e k v n xs) (hk : Kt T w w') (hne : e ≠ T) : w'.ownsRow base' e k v n xs := by
  obtain ⟨h1, h2⟩ := h
  refine ⟨h1, ?_⟩
  rcases h2 with h2 | ⟨g, cap, cur, hv, hg, hh, r⟩
  · exact .inl h2
  · exact .inr ⟨g, cap, cur, hv, hg, hk.cell hh hne, r⟩
theorem Plt.kt {T : TypeId} {base b m n : Nat} {fx mn mx bt : Int} {w w' : World} {left : List Im} {bs : List Blb} (h : Plt base b m fx mn mx bt w left bs n) (hk : Kt T w w') (hl : Below base w w') (h1 : 111 ≠ T) (h2 : 81 ≠ T) : Plt base b m fx mn mx bt w' left bs n := by
  obtain ⟨⟨lv, bv, p1, p2, p3, p4⟩, hm, ha, hc⟩ := h
  exact ⟨⟨lv, bv, hk.cell p1 h2, p2.keepb hl p3, p3, own_kt p4 hk h1⟩, hm.obj fun es c ho => hk.obj _ _ ho (fun ⟨_, _, e⟩ => by cases e), ha, hc⟩
theorem Pq.kt {T : TypeId} {base b m c : Nat} {fx mn mx bt : Int} {w w' : World} {left : List Im} {bs : List Blb} (h : Pq base b m fx mn mx bt c w left bs) (hk : Kt T w w') (hl : Below base w w') (h1 : 111 ≠ T) (h2 : 81 ≠ T) : Pq base b m fx mn mx bt c w' left bs := by
  obtain ⟨q1, n, q2, q3⟩ := h
  exact ⟨q1, n, q2, q3.kt hk hl h1 h2⟩
theorem Pf.then {base : Nat} {w w3 w6 : World} (h : Pf base w w3) (hb : Below w.heap.size w3 w6) (hbase : base ≤ w.heap.size) : Pf base w w6 :=
  ⟨h.low.trans (hb.mono hbase), ⟨hb.os.trans h.ko.os, hb.tape.trans h.ko.tape, hb.output.trans h.ko.output, Nat.le_trans h.ko.size hb.size, fun k o ho hp => (hb.block k (Array.getElem?_eq_some_iff.1 ho).1).trans (h.ko.obj k o ho hp)⟩⟩
theorem sv_tv (P : List Ck.Bs) : P.map Sv = (P.map mkB).map Tv := by
  rw [List.map_map]
  rfl
theorem pieces_step {P : List Wk.Bs} {k : Nat} {p : Wk.Bs} (hp : P[k]? = some p) {bs : List Blb} {T : List Pk.Bl × List Wk.Bs × Int} {done : List Wk.Bs}
    (h : T = ((Wk.pieces (P.drop k) (pl bs)).1, done ++ (Wk.pieces (P.drop k) (pl bs)).2.1, (Wk.pieces (P.drop k) (pl bs)).2.2)) :
    (errI bs ⟨1, mkB p⟩ ≠ 0 → T.2.2 = errI bs ⟨1, mkB p⟩) ∧
    (errI bs ⟨1, mkB p⟩ = 0 → T = ((Wk.pieces (P.drop (k + 1)) (pl (more bs ⟨1, mkB p⟩))).1, (done ++ [idI bs ⟨1, mkB p⟩]) ++ (Wk.pieces (P.drop (k + 1)) (pl (more bs ⟨1, mkB p⟩))).2.1, (Wk.pieces (P.drop (k + 1)) (pl (more bs ⟨1, mkB p⟩))).2.2)) := by
  have hlt := (List.getElem?_eq_some_iff.1 hp).1
  have e0 : P.drop k = p :: P.drop (k + 1) := by
    rw [List.drop_eq_getElem_cons hlt, (List.getElem?_eq_some_iff.1 hp).2]
  rw [e0, Wk.pieces] at h
  have eb : (⟨1, mkB p⟩ : Blb).p = (1, p) := rfl
  constructor
  · intro hE
    have hE' : (Wk.into (pl bs) (1, p)).2.2 ≠ 0 := hE
    rw [h]
    dsimp only
    rw [if_pos hE']
    rfl
  · intro hE
    have hm := more_pl hE
    rw [eb] at hm
    rw [hm] at h
    rw [h]
    have hi : idI bs ⟨1, mkB p⟩ = Pk.bid (1, p) := by unfold idI; rw [if_pos hE]; rfl
    rw [hi]
    simp
set_option maxHeartbeats 4000000 in
set_option maxRecDepth 10000 in
theorem file_any (base b m c : Nat) (fx mn mx bt : Int) (left : List Im) (bs : List Blb) (s : ByteArray) (w : World) (h : Pq base b m fx mn mx bt c w left bs) (hc : c < 900000000) (hw : wayN fx mn mx bt = 0) (hs : s.size ≤ 4096) (R : List Pk.Bl × List Wk.Bs × Int) (hR : R = Wk.pieces (cutF fx mn mx bt s.data.toList) (pl bs)) :
    Calls Tryz.prog 62 #[.pointer (some ⟨b, 0, none⟩), .string s] w fun e w' => ∃ v, e = .returned (.tuple #[v, .int .i64 R.2.2]) ∧ Pf base w w' ∧
      (R.2.2 ≠ 0 → v = .slice none 0 0) ∧ (R.2.2 = 0 → w'.ownsRow w.heap.size 39 8 v R.2.1.length (rowR idC R.2.1) ∧ (∀ t ∈ R.2.1, t.length = 8) ∧ R.2.1.length ≤ 257 ∧ ∃ bs', pl bs' = R.1 ∧ Pq base b m fx mn mx bt (c + 257) w' left bs') := by
  obtain ⟨i0, hi, hz0, hz1, hz2⟩ := info_of' info_id
  have hcut := wcut_any fx mn mx bt s w
  have hPn : (cutW fx mn mx bt s).length ≤ 257 := by
    have := cutF_few hw s.data.toList (by rw [← Lib.size_eq]; exact hs)
    have hsz : s.data.toList.length = s.size := (Lib.size_eq s).symm
    rw [hsz] at this
    have : (cutW fx mn mx bt s).length ≤ s.size / 16 + 1 := this
    omega
  have HPs : Hid (∀ p ∈ cutW fx mn mx bt s, (mkB p).size ≤ 9223372036854775807) := fun p hp => by
    have hj := cutF_join hw s.data.toList (by rw [← Lib.size_eq]; exact hs)
    have hp' : p ∈ cutF fx mn mx bt s.data.toList := hp
    have : p.length ≤ s.size := by
      have := mem_flat hp'
      rw [hj, ← Lib.size_eq] at this
      exact this
    rw [mkB, Lib.size_eq]
    simp
    omega
  rw [cutF_of] at hR
  generalize cutW fx mn mx bt s = P at *
  have HT0 : Hid (R = ((Wk.pieces (P.drop 0) (pl bs)).1, [] ++ (Wk.pieces (P.drop 0) (pl bs)).2.1, (Wk.pieces (P.drop 0) (pl bs)).2.2)) := by
    show _ = _
    rw [hR]; simp
  have HQ0 : Hid (Pq base b m fx mn mx bt (c + 0) w left bs) := h
  have hbase := h.base
  obtain ⟨_, n, _, h3⟩ := h
  obtain ⟨lv, bv, p1, _⟩ := h3.ex
  obtain ⟨d0, d1, d2, d3, _, _, _, dlt⟩ := sev_at p1
  clear hR h3 p1 hw
  go_enter Tryz.func62, Tryz.ntmps62
  go_wp2_with fail
  refine hcut.mono ?_
  rintro e w1 ⟨v1, rfl, o1, b1⟩
  have HO1 : Hid (w1.ownsRow (w.heap.size + 1) 9 1 v1 P.length (P.map Sv)) := o1
  have HQ1 : Hid (Pq base b m fx mn mx bt (c + 0) w1 left bs) := HQ0.out.below b1
  have HF1 : Hid (Pf base w w1) := Pf.of_below b1 hbase
  obtain ⟨a1, c1, rfl⟩ := own_form o1
  obtain ⟨N, hN⟩ : ∃ N, N = P.length := ⟨_, rfl⟩
  have HN : Hid (N = P.length) := hN
  rw [← hN] at HO1 hPn ⊢
  clear hcut o1 b1 HQ0 d0 d1 d2 d3 dlt hN
  go_wp2_with fail
  go_loopw [6, 18] (fun v i wr => ∃ (k : Nat) (done : List Wk.Bs) (bk : List Blb), k ≤ N ∧ i = .int .i64 k ∧ done.length = k ∧
    Hid (R = ((Wk.pieces (P.drop k) (pl bk)).1, done ++ (Wk.pieces (P.drop k) (pl bk)).2.1, (Wk.pieces (P.drop k) (pl bk)).2.2)) ∧ Hid (Pq base b m fx mn mx bt (c + k) wr left bk) ∧
    Hid (wr.ownsRow w.heap.size 39 8 v k (rowR idC done)) ∧ Hid (∀ t ∈ done, t.length = 8) ∧ Hid (Pf base w wr) ∧ Hid (wr.ownsRow (w.heap.size + 1) 9 1 (.slice a1 N c1) N (P.map Sv))) (fun _ i _ => N - (intOf i).toNat)
  case atStart => exact ⟨0, [], bs, by omega, rfl, rfl, HT0, HQ1, World.ownsRow_nil _ _ _ _, (fun _ h => absurd h List.not_mem_nil), HF1, HO1⟩
  case round =>
    clear HT0 HQ1 HF1 HO1
    obtain ⟨k, done, bk, hk, rfl, hdk, HT, HQ, HO, H8, HF, HOs⟩ := hrel
    by_cases hlt : k < N
    · have hkP : k < P.length := by rw [← HN.out]; exact hlt
      obtain ⟨p, hp⟩ : ∃ p, P[k]? = some p := ⟨_, List.getElem?_eq_getElem hkP⟩
      have hx : Tx wr (.slice a1 N c1) (P.map mkB) := Tx.of_own (by rw [List.length_map, ← HN.out, ← sv_tv]; exact HOs.out)
      obtain ⟨bk1, o1, rfl, hbk1, hc1⟩ := hx.get k (by simpa using hkP)
      have hcell : wr.cell? ⟨bk1, o1 + k, none⟩ = some (.string (mkB p)) := by
        rw [hc1, List.getD_eq_getElem?_getD, List.getElem?_map, hp]
        rfl
      obtain ⟨s1, s2⟩ := pieces_step hp HT.out
      have HS1 : Hid (errI bk ⟨1, mkB p⟩ ≠ 0 → R.2.2 = errI bk ⟨1, mkB p⟩) := s1
      have HS2 : Hid (errI bk ⟨1, mkB p⟩ = 0 → R = ((Wk.pieces (P.drop (k + 1)) (pl (more bk ⟨1, mkB p⟩))).1, (done ++ [idI bk ⟨1, mkB p⟩]) ++ (Wk.pieces (P.drop (k + 1)) (pl (more bk ⟨1, mkB p⟩))).2.1, (Wk.pieces (P.drop (k + 1)) (pl (more bk ⟨1, mkB p⟩))).2.2)) := s2
      have htell := tell_q base b m (c + k) fx mn mx bt left bk ⟨1, mkB p⟩ wr HQ.out (by omega) (HPs.out p (List.mem_of_getElem? hp))
      have hil := idI_length bk ⟨1, mkB p⟩
      obtain ⟨b0, b1, b2, b3, b4, b5, b6, b7, hL⟩ := eight _ hil
      rw [hL] at htell HS2
      have htell' : Calls Tryz.prog 48 #[.pointer (some ⟨b, 0, none⟩), .agg #[.int .i64 1, .string (mkB p)]] wr fun e w' => e = .returned (.tuple #[.agg #[.int .u8 (b0.toNat : Int), .int .u8 (b1.toNat : Int), .int .u8 (b2.toNat : Int), .int .u8 (b3.toNat : Int), .int .u8 (b4.toNat : Int), .int .u8 (b5.toNat : Int), .int .u8 (b6.toNat : Int), .int .u8 (b7.toNat : Int)], .int .i64 (errI bk ⟨1, mkB p⟩)]) ∧ Pq base b m fx mn mx bt (c + k + 1) w' left (more bk ⟨1, mkB p⟩) ∧ Pf base wr w' := htell
      generalize mkB p = pc at *
      generalize errI bk ⟨1, pc⟩ = ER at *
      generalize more bk ⟨1, pc⟩ = MB at *
      clear htell hil hL hx hc1 s1 s2 hkP hp HQ
      have HRs : Hid ((R.2.2 ≠ 0 → R.2.2 ≠ 0)) := fun h => h
      by_cases hE : ER = 0
      · subst hE
        have HT2 := (show Hid _ from HS2.out rfl)
        clear HS1 HS2
        go_wp2_with fail
        refine htell'.mono ?_
        rintro e w3 ⟨rfl, q3, f3⟩
        have HQ3 : Hid (Pq base b m fx mn mx bt (c + (k + 1)) w3 left MB) := q3
        have HF3 : Hid (Pf base w w3) := HF.out.trans f3
        have HOs3 : Hid (w3.ownsRow (w.heap.size + 1) 9 1 (.slice (some ⟨bk1, o1, none⟩) N c1) N (P.map Sv)) := own_pf HOs.out f3 (by decide) (by decide)
        have hO3 : w3.ownsRow w.heap.size 39 8 u6 k (rowR idC done) := own_pf HO.out f3 (by decide) (by decide)
        have hsz3 : w.heap.size ≤ w3.heap.size := HF3.out.size
        have hb3 : base ≤ w3.heap.size := Nat.le_trans hbase hsz3
        clear htell' q3 f3 HO HF HOs HT hcell hbk1
        go_wp2_with (at_builtin; refine wpList_append_own _ rfl (.tmp 32) (.tmp 34) 102 rfl w.heap.size 39 i0 (.agg #[.int .u8 0, .int .u8 0, .int .u8 0, .int .u8 0, .int .u8 0, .int .u8 0, .int .u8 0, .int .u8 0]) 8 8 Tryz.underlying102 hi hz0 hz1 hz2 rfl (by decide) _ _ _ rfl ((hO3.alloc _).alloc _) ⟨w3.heap.size + 1, 0, none⟩ 1 1 [.int .u8 (b0.toNat : Int), .int .u8 (b1.toNat : Int), .int .u8 (b2.toNat : Int), .int .u8 (b3.toNat : Int), .int .u8 (b4.toNat : Int), .int .u8 (b5.toNat : Int), .int .u8 (b6.toNat : Int), .int .u8 (b7.toNat : Int)] rfl rfl ?c1 ?c2 ?c3 ?c4 ?c5 ?_)
        case c1 => have := eight_new (w3.alloc (.cells #[.int .u8 (b0.toNat : Int), .int .u8 (b1.toNat : Int), .int .u8 (b2.toNat : Int), .int .u8 (b3.toNat : Int), .int .u8 (b4.toNat : Int), .int .u8 (b5.toNat : Int), .int .u8 (b6.toNat : Int), .int .u8 (b7.toNat : Int)] 39)) (.int .u8 (b0.toNat : Int)) (.int .u8 (b1.toNat : Int)) (.int .u8 (b2.toNat : Int)) (.int .u8 (b3.toNat : Int)) (.int .u8 (b4.toNat : Int)) (.int .u8 (b5.toNat : Int)) (.int .u8 (b6.toNat : Int)) (.int .u8 (b7.toNat : Int)) (T := 39); rwa [World.size_alloc] at this
        case c2 => simp [Value.oneCell']
        case c3 => unfold maxLen; omega
        case c4 => omega
        case c5 => simp; omega
        intro v6 w6 hown6 hgrow _
        have hO3' := (hO3.alloc (.cells #[.int .u8 (b0.toNat : Int), .int .u8 (b1.toNat : Int), .int .u8 (b2.toNat : Int), .int .u8 (b3.toNat : Int), .int .u8 (b4.toNat : Int), .int .u8 (b5.toNat : Int), .int .u8 (b6.toNat : Int), .int .u8 (b7.toNat : Int)] 39)).alloc (.cells #[.int .u8 (b0.toNat : Int), .int .u8 (b1.toNat : Int), .int .u8 (b2.toNat : Int), .int .u8 (b3.toNat : Int), .int .u8 (b4.toNat : Int), .int .u8 (b5.toNat : Int), .int .u8 (b6.toNat : Int), .int .u8 (b7.toNat : Int)] 39)
        have hk6 : Kt 39 w3 w6 := (((Kt.refl _ w3).alloc _).alloc _).trans (Kt.of_grown hgrow fun g hg => by
          obtain ⟨cur, q, _⟩ := own_block hO3' hg
          exact ⟨cur, _, q⟩)
        have hb6 : Below w.heap.size w3 w6 := (((Below.refl _ w3).alloc hsz3 _).alloc (by simp; omega) _).grown hgrow (by simp; omega) fun q hq => (hO3'.lt q hq).1
        have HQ6 : Hid (Pq base b m fx mn mx bt (c + (k + 1)) w6 left MB) := HQ3.out.kt hk6 (hb6.mono hbase) (by decide) (by decide)
        have HF6 : Hid (Pf base w w6) := HF3.out.then hb6 hbase
        have HOs6 : Hid (w6.ownsRow (w.heap.size + 1) 9 1 (.slice (some ⟨bk1, o1, none⟩) N c1) N (P.map Sv)) := own_kt HOs3.out hk6 (by decide)
        have HO6 : Hid (w6.ownsRow w.heap.size 39 8 v6 (k + 1) (rowR idC (done ++ [[b0, b1, b2, b3, b4, b5, b6, b7]]))) := by
          show World.ownsRow _ _ _ _ _ _ _
          rw [rowR_more]
          exact hown6
        have H86 : Hid (∀ t ∈ done ++ [[b0, b1, b2, b3, b4, b5, b6, b7]], t.length = 8) := fun t ht => by
          rcases List.mem_append.1 ht with q | q
          · exact H8.out t q
          · rw [List.mem_singleton.1 q]; rfl
        have HLd : Hid ((done ++ [[b0, b1, b2, b3, b4, b5, b6, b7]]).length = k + 1) := by show _ = _; rw [List.length_append, hdk]; rfl
        clear hown6 hgrow hO3 hO3' hk6 hb6 HQ3 HF3 HOs3 H8
        go_wp2_with fail
        go_roundw
        case rel => exact ⟨k + 1, _, MB, by omega, by go_num, HLd.out, HT2, HQ6, HO6, H86, HF6, HOs6⟩
        case measure => simp only [intOf]; omega
      · have HRE : Hid (R.2.2 = ER) := HS1.out hE
        have hne : (ER != 0) = true := by rw [bne_iff_ne]; exact hE
        have HE : Hid (ER ≠ 0) := hE
        clear HS1 HS2 hE
        go_wp2_with fail
        refine htell'.mono ?_
        rintro e w3 ⟨rfl, _, f3⟩
        have HF3 : Hid (Pf base w (w3.alloc (.cells #[.int .u8 (b0.toNat : Int), .int .u8 (b1.toNat : Int), .int .u8 (b2.toNat : Int), .int .u8 (b3.toNat : Int), .int .u8 (b4.toNat : Int), .int .u8 (b5.toNat : Int), .int .u8 (b6.toNat : Int), .int .u8 (b7.toNat : Int)] 39))) := (HF.out.trans f3).trans (Pf.of_below ((Below.refl _ w3).alloc (Nat.le_refl _) _) (Nat.le_trans hbase (HF.out.trans f3).size))
        clear htell' f3 HO HF HOs HT hcell hbk1
        go_wp2_with fail
        go_ret2
        exact ⟨_, by rw [HRE.out]; rfl, HF3.out, fun _ => rfl, fun e => absurd (HRE.out.symm.trans e) HE.out⟩
    · obtain rfl : k = N := by omega
      have HRz : Hid (R = (pl bk, done, 0)) := by
        have e : P.drop P.length = [] := List.drop_of_length_le (Nat.le_refl _)
        show _ = _
        rw [HT.out, HN.out, e]
        simp [Wk.pieces]
      have HQz : Hid (Pq base b m fx mn mx bt (c + 257) wr left bk) := HQ.out.mono (by omega)
      have hd257 : done.length ≤ 257 := by omega
      have HDk : Hid (done.length = k) := hdk
      clear HT HQ HOs
      go_wp2_with fail
      go_ret2
      refine ⟨_, by rw [HRz.out]; rfl, HF.out, fun e => absurd (by rw [HRz.out]) e, fun _ => ?_⟩
      rw [HRz.out]
      exact ⟨by rw [HDk.out]; exact HO.out, H8.out, hd257, bk, rfl, HQz.out⟩
end Go.Proofs.YthpcbbkpjggjbaaGreatDoor
namespace Go.Proofs.YthpcbbkpjggjbaaGreatDoor
open Go.RowKit
set_option maxRecDepth 4000
def set7 (W : World) (G : Nat) (x0 x1 x2 x3 x4 x5 x6 : Value) : World :=
  ((((((W.setCell ⟨G, 0, none⟩ x0).setCell ⟨G, 1, none⟩ x1).setCell ⟨G, 2, none⟩ x2).setCell ⟨G, 3, none⟩ x3).setCell ⟨G, 4, none⟩ x4).setCell ⟨G, 5, none⟩ x5).setCell ⟨G, 6, none⟩ x6
theorem below_set7 {B' : Nat} {w W : World} {G : Nat} (h : Below B' w W) (hg : B' ≤ G) (x0 x1 x2 x3 x4 x5 x6 : Value) : Below B' w (set7 W G x0 x1 x2 x3 x4 x5 x6) :=
  ((((((h.setCell hg _).setCell hg _).setCell hg _).setCell hg _).setCell hg _).setCell hg _).setCell hg _
theorem set_at {W : World} {M : Nat} {cur : Array Value} {T : TypeId} {fr : Nat × Nat} (h : W.heap[M]? = some (.cells cur T fr)) (j : Nat) (a : Value) :
    (W.setCell ⟨M, j, none⟩ a).heap[M]? = some (.cells (cur.setIfInBounds j a) T fr) := by
  simp [World.setCell, Array.getElem?_modify, h]
theorem seven_set {W : World} {G : Nat} {y0 y1 y2 y3 y4 y5 y6 : Value} {T : TypeId} {fr : Nat × Nat} (h : W.heap[G]? = some (.cells #[y0, y1, y2, y3, y4, y5, y6] T fr)) (x0 x1 x2 x3 x4 x5 x6 : Value) :
    (set7 W G x0 x1 x2 x3 x4 x5 x6).heap[G]? = some (.cells #[x0, x1, x2, x3, x4, x5, x6] T fr) ∧ Kt T W (set7 W G x0 x1 x2 x3 x4 x5 x6) := by
  have h0 : (W.setCell ⟨G, 0, none⟩ x0).heap[G]? = some (.cells #[x0, y1, y2, y3, y4, y5, y6] T fr) := by simpa using set_at h 0 x0
  have h1 : ((W.setCell ⟨G, 0, none⟩ x0).setCell ⟨G, 1, none⟩ x1).heap[G]? = some (.cells #[x0, x1, y2, y3, y4, y5, y6] T fr) := by simpa using set_at h0 1 x1
  have h2 : (((W.setCell ⟨G, 0, none⟩ x0).setCell ⟨G, 1, none⟩ x1).setCell ⟨G, 2, none⟩ x2).heap[G]? = some (.cells #[x0, x1, x2, y3, y4, y5, y6] T fr) := by simpa using set_at h1 2 x2
  have h3 : ((((W.setCell ⟨G, 0, none⟩ x0).setCell ⟨G, 1, none⟩ x1).setCell ⟨G, 2, none⟩ x2).setCell ⟨G, 3, none⟩ x3).heap[G]? = some (.cells #[x0, x1, x2, x3, y4, y5, y6] T fr) := by simpa using set_at h2 3 x3
  have h4 : (((((W.setCell ⟨G, 0, none⟩ x0).setCell ⟨G, 1, none⟩ x1).setCell ⟨G, 2, none⟩ x2).setCell ⟨G, 3, none⟩ x3).setCell ⟨G, 4, none⟩ x4).heap[G]? = some (.cells #[x0, x1, x2, x3, x4, y5, y6] T fr) := by simpa using set_at h3 4 x4
  have h5 : ((((((W.setCell ⟨G, 0, none⟩ x0).setCell ⟨G, 1, none⟩ x1).setCell ⟨G, 2, none⟩ x2).setCell ⟨G, 3, none⟩ x3).setCell ⟨G, 4, none⟩ x4).setCell ⟨G, 5, none⟩ x5).heap[G]? = some (.cells #[x0, x1, x2, x3, x4, x5, y6] T fr) := by simpa using set_at h4 5 x5
  have h6 : (((((((W.setCell ⟨G, 0, none⟩ x0).setCell ⟨G, 1, none⟩ x1).setCell ⟨G, 2, none⟩ x2).setCell ⟨G, 3, none⟩ x3).setCell ⟨G, 4, none⟩ x4).setCell ⟨G, 5, none⟩ x5).setCell ⟨G, 6, none⟩ x6).heap[G]? = some (.cells #[x0, x1, x2, x3, x4, x5, x6] T fr) := by simpa using set_at h5 6 x6
  exact ⟨h6, ((((((Kt.set h 0 x0).trans (Kt.set h0 1 x1)).trans (Kt.set h1 2 x2)).trans (Kt.set h2 3 x3)).trans (Kt.set h3 4 x4)).trans (Kt.set h4 5 x5)).trans (Kt.set h5 6 x6)⟩
theorem free7 {w : World} {b : Nat} {T : TypeId} {cur : Array Value} (h : w.heap[b]? = some (.cells cur T (0, 0))) : w.frozen? ⟨b, 0, none⟩ = false ∧ w.frozen? ⟨b, 1, none⟩ = false ∧ w.frozen? ⟨b, 2, none⟩ = false ∧ w.frozen? ⟨b, 3, none⟩ = false ∧ w.frozen? ⟨b, 4, none⟩ = false ∧ w.frozen? ⟨b, 5, none⟩ = false ∧ w.frozen? ⟨b, 6, none⟩ = false :=
  ⟨free_at h 0, free_at h 1, free_at h 2, free_at h 3, free_at h 4, free_at h 5, free_at h 6⟩
structure Nb (w W : World) (x : Im) (B G : Nat) (nv : Array Value) : Prop where
  eq : B = w.heap.size
  ge : B + 2 ≤ G
  it : W.heap[B]? = some (.cells #[.string x.path, .int .i64 x.kind, .int .i64 x.mode, .int .i64 x.time, .string x.bytes] 27 (0, 0))
  res : W.heap[B + 1]? = some (.cells #[.string ⟨#[]⟩, .int .i64 0, .int .i64 0, .int .i64 0, .int .i64 0, .slice none 0 0, .string ⟨#[]⟩] 104 (0, 0))
  nd : W.heap[G]? = some (.cells nv 104 (0, 0))
theorem Nb.set {w W : World} {x : Im} {B G : Nat} {nv nv' : Array Value} (h : Nb w W x B G nv) (j : Nat) (a : Value) (e : nv.setIfInBounds j a = nv') : Nb w (W.setCell ⟨G, j, none⟩ a) x B G nv' := by
  have := h.ge
  refine ⟨h.eq, h.ge, ?_, ?_, ?_⟩
  · rw [Below.heap_setCell _ _ _ _ (by show B ≠ G; omega)]; exact h.it
  · rw [Below.heap_setCell _ _ _ _ (by show B + 1 ≠ G; omega)]; exact h.res
  · rw [← e]; exact set_at h.nd j a
theorem Nb.pf {base : Nat} {w W W' : World} {x : Im} {B G : Nat} {nv : Array Value} (h : Nb w W x B G nv) (hf : Pf base W W') : Nb w W' x B G nv :=
  ⟨h.eq, h.ge, hf.cells h.it (by decide) (by decide), hf.cells h.res (by decide) (by decide), hf.cells h.nd (by decide) (by decide)⟩
theorem Nb.past {w W W' : World} {x : Im} {B G : Nat} {nv : Array Value} (h : Nb w W x B G nv) (hb : Below W.heap.size W W') : Nb w W' x B G nv :=
  ⟨h.eq, h.ge, (hb.block _ (Array.getElem?_eq_some_iff.1 h.it).1).trans h.it, (hb.block _ (Array.getElem?_eq_some_iff.1 h.res).1).trans h.res, (hb.block _ (Array.getElem?_eq_some_iff.1 h.nd).1).trans h.nd⟩
def Nz (B : Nat) (u : Value) (W : World) : Prop := ∃ g, u = .pointer (some ⟨g, 0, none⟩) ∧ W.heap[g]? = some (.cells #[.string ⟨#[]⟩, .int .i64 0, .int .i64 0, .int .i64 0, .int .i64 0, .slice none 0 0, .string ⟨#[]⟩] 104 (0, 0)) ∧ B ≤ g
theorem Nz.mono {B : Nat} (u : Value) (w w' : World) (h : Nz B u w) (hg : Gw w w') : Nz B u w' := by
  obtain ⟨g, e, h1, h2⟩ := h
  exact ⟨g, e, (Below.block hg g (Array.getElem?_eq_some_iff.1 h1).1).trans h1, h2⟩
theorem two_new (w : World) (o1 o2 : Obj) : ((w.alloc o1).alloc o2).heap[w.heap.size]? = some o1 ∧ ((w.alloc o1).alloc o2).heap[w.heap.size + 1]? = some o2 ∧ ((w.alloc o1).alloc o2).heap.size = w.heap.size + 2 ∧ Below w.heap.size w ((w.alloc o1).alloc o2) := by
  have s1 : (w.alloc o1).heap.size = w.heap.size + 1 := World.size_alloc _ _
  have s2 : ((w.alloc o1).alloc o2).heap.size = w.heap.size + 2 := by rw [World.size_alloc, s1]
  have h1 := heap_alloc_new w o1
  have h2 := heap_alloc_new (w.alloc o1) o2
  rw [s1] at h2
  have b2 := (Below.refl _ (w.alloc o1)).alloc (Nat.le_refl _) o2
  exact ⟨(b2.block _ (by rw [s1]; omega)).trans h1, h2, s2, ((Below.refl _ w).alloc (Nat.le_refl _) o1).alloc (by rw [s1]; omega) o2⟩
set_option maxHeartbeats 2000000 in
set_option maxRecDepth 10000 in
theorem node_link (base b m c : Nat) (fx mn mx bt : Int) (left : List Im) (bs : List Blb) (x : Im) (nm : ByteArray) (w : World) (h : Pq base b m fx mn mx bt c w left bs) (hk : x.kind = 3)
    (hln : ∀ W, Calls Tryz.prog 61 #[.string x.path] W fun e w' => e = .returned (.string nm) ∧ w' = W) :
    Calls Tryz.prog 46 #[.pointer (some ⟨b, 0, none⟩), imV x] w fun e w' => e = .returned (.tuple #[.agg #[.string nm, .int .i64 3, .int .i64 x.mode, .int .i64 x.time, .int .i64 0, .slice none 0 0, .string x.bytes], .int .i64 0]) ∧ Pf base w w' ∧ Pq base b m fx mn mx bt c w' left bs := by
  have hbase := h.base
  obtain ⟨path, kind, mode, time, bytes⟩ := x
  dsimp only at hk hln ⊢
  subst hk
  obtain ⟨W2, hW2⟩ : ∃ W2, W2 = (w.alloc (.cells #[.string path, .int .i64 3, .int .i64 mode, .int .i64 time, .string bytes] 27)).alloc (.cells #[.string ⟨#[]⟩, .int .i64 0, .int .i64 0, .int .i64 0, .int .i64 0, .slice none 0 0, .string ⟨#[]⟩] 104) := ⟨_, rfl⟩
  obtain ⟨t1, t2, t3, t4⟩ := two_new w (.cells #[.string path, .int .i64 3, .int .i64 mode, .int .i64 time, .string bytes] 27) (.cells #[.string ⟨#[]⟩, .int .i64 0, .int .i64 0, .int .i64 0, .int .i64 0, .slice none 0 0, .string ⟨#[]⟩] 104)
  rw [← hW2] at t1 t2 t3 t4
  have HQ : Hid (Pq base b m fx mn mx bt c w left bs) := h
  have HT : Hid (W2.heap[w.heap.size]? = some (.cells #[.string path, .int .i64 3, .int .i64 mode, .int .i64 time, .string bytes] 27 (0, 0)) ∧ W2.heap[w.heap.size + 1]? = some (.cells #[.string ⟨#[]⟩, .int .i64 0, .int .i64 0, .int .i64 0, .int .i64 0, .slice none 0 0, .string ⟨#[]⟩] 104 (0, 0)) ∧ W2.heap.size = w.heap.size + 2 ∧ Below w.heap.size w W2) := ⟨t1, t2, t3, t4⟩
  clear h t1 t2 t3 t4
  have H0 : Hid (∀ W, Gw W2 W → W.cell? ⟨w.heap.size, 0, none⟩ = some (.string path) ∧ W.cell? ⟨w.heap.size, 1, none⟩ = some (.int .i64 3) ∧ W.cell? ⟨w.heap.size, 2, none⟩ = some (.int .i64 mode) ∧ W.cell? ⟨w.heap.size, 3, none⟩ = some (.int .i64 time) ∧ W.cell? ⟨w.heap.size, 4, none⟩ = some (.string bytes)) := fun W hW => by
    have := five_at ((Below.block hW _ (Array.getElem?_eq_some_iff.1 HT.out.1).1).trans HT.out.1)
    exact ⟨this.1, this.2.1, this.2.2.1, this.2.2.2.1, this.2.2.2.2.1⟩
  go_enter Tryz.func46, Tryz.ntmps46
  go_upto_region 1 with fail
  rw [← hW2]
  clear hW2
  refine wp_region_rel_tail (G := Gw) (W0 := W2) 11 1 Gw.refl Gw.trans (by kernel_rfl) (by decide) (by kernel_rfl) (by kernel_rfl) (.inr (by kernel_rfl)) (Below.refl _ W2).drew ?_
  refine .inl ⟨.pointer (some ⟨w.heap.size, 0, none⟩), fun v W hW hd => step_run rfl _ W (by clear hd; go_simp) rfl (Gw.refl _), ?_⟩
  simp only [Act.put, List.setIfInBounds_toArray, List.set_cons_zero, List.set_cons_succ]
  refine .inl ⟨.string path, fun v W hW hd => step_run rfl _ W (by clear hd; obtain ⟨c0, c1, c2, c3, c4⟩ := H0.out W hW; go_simp) rfl (Gw.refl _), ?_⟩
  simp only [Act.put, List.setIfInBounds_toArray, List.set_cons_zero, List.set_cons_succ]
  refine .inl ⟨.string nm, fun v W hW hd => step_call rfl 61 #[.string path] (by clear hd; go_simp) ((hln W).mono fun e w' h => ⟨_, h.1, rfl, by rw [h.2]; exact Gw.refl _⟩), ?_⟩
  simp only [Act.put, List.setIfInBounds_toArray, List.set_cons_zero, List.set_cons_succ]
  refine .inl ⟨.pointer (some ⟨w.heap.size, 1, none⟩), fun v W hW hd => step_run rfl _ W (by clear hd; go_simp) rfl (Gw.refl _), ?_⟩
  simp only [Act.put, List.setIfInBounds_toArray, List.set_cons_zero, List.set_cons_succ]
  refine .inl ⟨.int .i64 3, fun v W hW hd => step_run rfl _ W (by clear hd; obtain ⟨c0, c1, c2, c3, c4⟩ := H0.out W hW; go_simp) rfl (Gw.refl _), ?_⟩
  simp only [Act.put, List.setIfInBounds_toArray, List.set_cons_zero, List.set_cons_succ]
  refine .inl ⟨.pointer (some ⟨w.heap.size, 2, none⟩), fun v W hW hd => step_run rfl _ W (by clear hd; go_simp) rfl (Gw.refl _), ?_⟩
  simp only [Act.put, List.setIfInBounds_toArray, List.set_cons_zero, List.set_cons_succ]
  refine .inl ⟨.int .i64 mode, fun v W hW hd => step_run rfl _ W (by clear hd; obtain ⟨c0, c1, c2, c3, c4⟩ := H0.out W hW; go_simp) rfl (Gw.refl _), ?_⟩
  simp only [Act.put, List.setIfInBounds_toArray, List.set_cons_zero, List.set_cons_succ]
  refine .inl ⟨.pointer (some ⟨w.heap.size, 3, none⟩), fun v W hW hd => step_run rfl _ W (by clear hd; go_simp) rfl (Gw.refl _), ?_⟩
  simp only [Act.put, List.setIfInBounds_toArray, List.set_cons_zero, List.set_cons_succ]
  refine .inl ⟨.int .i64 time, fun v W hW hd => step_run rfl _ W (by clear hd; obtain ⟨c0, c1, c2, c3, c4⟩ := H0.out W hW; go_simp) rfl (Gw.refl _), ?_⟩
  simp only [Act.put, List.setIfInBounds_toArray, List.set_cons_zero, List.set_cons_succ]
  refine .inl ⟨.agg #[.string nm, .int .i64 3, .int .i64 mode, .int .i64 time, .int .i64 0, .slice none 0 0, .string ⟨#[]⟩], fun v W hW hd => step_run rfl _ W (by clear hd; go_simp) rfl (Gw.refl _), ?_⟩
  simp only [Act.put, List.setIfInBounds_toArray, List.set_cons_zero, List.set_cons_succ]
  refine .inr ⟨Nz (w.heap.size + 2), Nz.mono, fun v W hW hd => step_run rfl _ (W.alloc (.cells #[.string ⟨#[]⟩, .int .i64 0, .int .i64 0, .int .i64 0, .int .i64 0, .slice none 0 0, .string ⟨#[]⟩] 104)) (by clear hd; go_simp) ⟨_, rfl, heap_alloc_new W _, Nat.le_trans (Nat.le_of_eq HT.out.2.2.1.symm) (Below.size hW)⟩ ((Below.refl _ W).alloc (Nat.le_refl _) _), ?_⟩
  simp only [Act.put, List.setIfInBounds_toArray, List.set_cons_zero, List.set_cons_succ]
  intro v W hW hV
  have h10 : Nz (w.heap.size + 2) (v 10) W := hV 10 (by decide)
  clear hV
  obtain ⟨g, e10, hg, hge⟩ := h10
  simp only [Nat.reduceAdd]
  rw [e10]
  obtain ⟨z0, z1, z2, z3, z4, z5, z6, zlt⟩ := sev_at hg
  obtain ⟨f0, f1, f2, f3, f4, f5, f6⟩ := free7 hg
  have hs7 := seven_set hg (.string nm) (.int .i64 3) (.int .i64 mode) (.int .i64 time) (.int .i64 0) (.slice none 0 0) (.string ⟨#[]⟩)
  have hB4 : Below (w.heap.size + 2) W2 (set7 W g (.string nm) (.int .i64 3) (.int .i64 mode) (.int .i64 time) (.int .i64 0) (.slice none 0 0) (.string ⟨#[]⟩)) := below_set7 (Below.mono hW (Nat.le_of_eq HT.out.2.2.1.symm)) hge _ _ _ _ _ _ _
  obtain ⟨W4, hW4⟩ : ∃ W4, W4 = set7 W g (.string nm) (.int .i64 3) (.int .i64 mode) (.int .i64 time) (.int .i64 0) (.slice none 0 0) (.string ⟨#[]⟩) := ⟨_, rfl⟩
  rw [← hW4] at hs7 hB4
  have HNb : Hid (Nb w W4 ⟨path, 3, mode, time, bytes⟩ w.heap.size g #[.string nm, .int .i64 3, .int .i64 mode, .int .i64 time, .int .i64 0, .slice none 0 0, .string ⟨#[]⟩]) :=
    ⟨rfl, hge, (hB4.block _ (by omega)).trans HT.out.1, (hB4.block _ (by omega)).trans HT.out.2.1, hs7.1⟩
  have HB4 : Hid (Below w.heap.size w W4) := HT.out.2.2.2.trans (hB4.mono (by omega))
  clear hs7 hB4 e10 H0 hW HT hge zlt hln hg
  unfold set7 at hW4
  refine wpAny_ready (rs := [11]) (by kernel_rfl) (by simp) ?_
  refine AllReady.cons rfl (fun K hK => ?_) AllReady.nil
  rw [if_pos (by rfl)]
  go_simp
  rw [← hW4]
  clear hW4 z0 z1 z2 z3 z4 z5 z6 f0 f1 f2 f3 f4 f5 f6
  refine hK _ _ ?_
  clear hK K
  refine wpAny_done (by kernel_rfl) ?_ _
  obtain ⟨i0, i1, i2, i3, i4, ilt⟩ := five_at HNb.out.it
  obtain ⟨n0, n1, n2, n3, n4, n5, n6, nlt⟩ := sev_at HNb.out.nd
  obtain ⟨f0, f1, f2, f3, f4, f5, f6⟩ := free7 HNb.out.nd
  obtain ⟨r0, r1, r2, r3, r4, r5, r6, rlt⟩ := sev_at HNb.out.res
  obtain ⟨g0, g1, g2, g3, g4, g5, g6⟩ := free7 HNb.out.res
  have HgB : Hid (w.heap.size + 2 ≤ g) := HNb.out.ge
  have hgne : g ≠ w.heap.size + 1 := by have := HgB.out; omega
  have hgne2 : w.heap.size + 1 ≠ g := by have := HgB.out; omega
  have HB9 : Hid (Below w.heap.size w (set7 (W4.setCell ⟨g, 6, none⟩ (.string bytes)) (w.heap.size + 1) (.string nm) (.int .i64 3) (.int .i64 mode) (.int .i64 time) (.int .i64 0) (.slice none 0 0) (.string bytes))) :=
    below_set7 (HB4.out.setCell (by show w.heap.size ≤ g; have := HgB.out; omega) _) (by omega) _ _ _ _ _ _ _
  go_wp2_with fail
  refine bodyPost_ret (v := .tuple #[.agg #[.string nm, .int .i64 3, .int .i64 mode, .int .i64 time, .int .i64 0, .slice none 0 0, .string bytes], .int .i64 0]) ?_ rfl ⟨rfl, Pf.of_below HB9.out hbase, HQ.out.below HB9.out⟩
  have hres : Tryz.f46.results = #[.cell 4 104, .tmp 5] := by kernel_rfl
  simp only [results, hres]
  go_simp
set_option maxHeartbeats 2000000 in
set_option maxRecDepth 10000 in
theorem node_file (base b m c : Nat) (fx mn mx bt : Int) (left : List Im) (bs : List Blb) (x : Im) (nm : ByteArray) (w : World) (h : Pq base b m fx mn mx bt c w left bs) (hk : x.kind = 1) (hc : c < 900000000) (hw : wayN fx mn mx bt = 0) (hs : x.bytes.size ≤ 4096)
    (hln : ∀ W, Calls Tryz.prog 61 #[.string x.path] W fun e w' => e = .returned (.string nm) ∧ w' = W) (R : List Pk.Bl × List Wk.Bs × Int) (hR : R = Wk.pieces (cutF fx mn mx bt x.bytes.data.toList) (pl bs)) :
    Calls Tryz.prog 46 #[.pointer (some ⟨b, 0, none⟩), imV x] w fun e w' => ∃ a n c', e = .returned (.tuple #[.agg #[.string nm, .int .i64 1, .int .i64 x.mode, .int .i64 x.time, .int .i64 x.bytes.size, .slice a n c', .string ⟨#[]⟩], .int .i64 R.2.2]) ∧ Pf base w w' ∧
      (R.2.2 = 0 → w'.ownsRow w.heap.size 39 8 (.slice a n c') R.2.1.length (rowR idC R.2.1) ∧ (∀ t ∈ R.2.1, t.length = 8) ∧ R.2.1.length ≤ 257 ∧ ∃ bs', pl bs' = R.1 ∧ Pq base b m fx mn mx bt (c + 257) w' left bs') := by
  have hbase := h.base
  obtain ⟨path, kind, mode, time, bytes⟩ := x
  dsimp only at hk hln hs hR ⊢
  subst hk
  obtain ⟨W2, hW2⟩ : ∃ W2, W2 = (w.alloc (.cells #[.string path, .int .i64 1, .int .i64 mode, .int .i64 time, .string bytes] 27)).alloc (.cells #[.string ⟨#[]⟩, .int .i64 0, .int .i64 0, .int .i64 0, .int .i64 0, .slice none 0 0, .string ⟨#[]⟩] 104) := ⟨_, rfl⟩
  obtain ⟨t1, t2, t3, t4⟩ := two_new w (.cells #[.string path, .int .i64 1, .int .i64 mode, .int .i64 time, .string bytes] 27) (.cells #[.string ⟨#[]⟩, .int .i64 0, .int .i64 0, .int .i64 0, .int .i64 0, .slice none 0 0, .string ⟨#[]⟩] 104)
  rw [← hW2] at t1 t2 t3 t4
  have HQ : Hid (Pq base b m fx mn mx bt c w left bs) := h
  have HT : Hid (W2.heap[w.heap.size]? = some (.cells #[.string path, .int .i64 1, .int .i64 mode, .int .i64 time, .string bytes] 27 (0, 0)) ∧ W2.heap[w.heap.size + 1]? = some (.cells #[.string ⟨#[]⟩, .int .i64 0, .int .i64 0, .int .i64 0, .int .i64 0, .slice none 0 0, .string ⟨#[]⟩] 104 (0, 0)) ∧ W2.heap.size = w.heap.size + 2 ∧ Below w.heap.size w W2) := ⟨t1, t2, t3, t4⟩
  clear h t1 t2 t3 t4
  have H0 : Hid (∀ W, Gw W2 W → W.cell? ⟨w.heap.size, 0, none⟩ = some (.string path) ∧ W.cell? ⟨w.heap.size, 1, none⟩ = some (.int .i64 1) ∧ W.cell? ⟨w.heap.size, 2, none⟩ = some (.int .i64 mode) ∧ W.cell? ⟨w.heap.size, 3, none⟩ = some (.int .i64 time) ∧ W.cell? ⟨w.heap.size, 4, none⟩ = some (.string bytes)) := fun W hW => by
    have := five_at ((Below.block hW _ (Array.getElem?_eq_some_iff.1 HT.out.1).1).trans HT.out.1)
    exact ⟨this.1, this.2.1, this.2.2.1, this.2.2.2.1, this.2.2.2.2.1⟩
  go_enter Tryz.func46, Tryz.ntmps46
  go_upto_region 1 with fail
  rw [← hW2]
  clear hW2
  refine wp_region_rel_tail (G := Gw) (W0 := W2) 11 1 Gw.refl Gw.trans (by kernel_rfl) (by decide) (by kernel_rfl) (by kernel_rfl) (.inr (by kernel_rfl)) (Below.refl _ W2).drew ?_
  refine .inl ⟨.pointer (some ⟨w.heap.size, 0, none⟩), fun v W hW hd => step_run rfl _ W (by clear hd; go_simp) rfl (Gw.refl _), ?_⟩
  simp only [Act.put, List.setIfInBounds_toArray, List.set_cons_zero, List.set_cons_succ]
  refine .inl ⟨.string path, fun v W hW hd => step_run rfl _ W (by clear hd; obtain ⟨c0, c1, c2, c3, c4⟩ := H0.out W hW; go_simp) rfl (Gw.refl _), ?_⟩
  simp only [Act.put, List.setIfInBounds_toArray, List.set_cons_zero, List.set_cons_succ]
  refine .inl ⟨.string nm, fun v W hW hd => step_call rfl 61 #[.string path] (by clear hd; go_simp) ((hln W).mono fun e w' h => ⟨_, h.1, rfl, by rw [h.2]; exact Gw.refl _⟩), ?_⟩
  simp only [Act.put, List.setIfInBounds_toArray, List.set_cons_zero, List.set_cons_succ]
  refine .inl ⟨.pointer (some ⟨w.heap.size, 1, none⟩), fun v W hW hd => step_run rfl _ W (by clear hd; go_simp) rfl (Gw.refl _), ?_⟩
  simp only [Act.put, List.setIfInBounds_toArray, List.set_cons_zero, List.set_cons_succ]
  refine .inl ⟨.int .i64 1, fun v W hW hd => step_run rfl _ W (by clear hd; obtain ⟨c0, c1, c2, c3, c4⟩ := H0.out W hW; go_simp) rfl (Gw.refl _), ?_⟩
  simp only [Act.put, List.setIfInBounds_toArray, List.set_cons_zero, List.set_cons_succ]
  refine .inl ⟨.pointer (some ⟨w.heap.size, 2, none⟩), fun v W hW hd => step_run rfl _ W (by clear hd; go_simp) rfl (Gw.refl _), ?_⟩
  simp only [Act.put, List.setIfInBounds_toArray, List.set_cons_zero, List.set_cons_succ]
  refine .inl ⟨.int .i64 mode, fun v W hW hd => step_run rfl _ W (by clear hd; obtain ⟨c0, c1, c2, c3, c4⟩ := H0.out W hW; go_simp) rfl (Gw.refl _), ?_⟩
  simp only [Act.put, List.setIfInBounds_toArray, List.set_cons_zero, List.set_cons_succ]
  refine .inl ⟨.pointer (some ⟨w.heap.size, 3, none⟩), fun v W hW hd => step_run rfl _ W (by clear hd; go_simp) rfl (Gw.refl _), ?_⟩
  simp only [Act.put, List.setIfInBounds_toArray, List.set_cons_zero, List.set_cons_succ]
  refine .inl ⟨.int .i64 time, fun v W hW hd => step_run rfl _ W (by clear hd; obtain ⟨c0, c1, c2, c3, c4⟩ := H0.out W hW; go_simp) rfl (Gw.refl _), ?_⟩
  simp only [Act.put, List.setIfInBounds_toArray, List.set_cons_zero, List.set_cons_succ]
  refine .inl ⟨.agg #[.string nm, .int .i64 1, .int .i64 mode, .int .i64 time, .int .i64 0, .slice none 0 0, .string ⟨#[]⟩], fun v W hW hd => step_run rfl _ W (by clear hd; go_simp) rfl (Gw.refl _), ?_⟩
  simp only [Act.put, List.setIfInBounds_toArray, List.set_cons_zero, List.set_cons_succ]
  refine .inr ⟨Nz (w.heap.size + 2), Nz.mono, fun v W hW hd => step_run rfl _ (W.alloc (.cells #[.string ⟨#[]⟩, .int .i64 0, .int .i64 0, .int .i64 0, .int .i64 0, .slice none 0 0, .string ⟨#[]⟩] 104)) (by clear hd; go_simp) ⟨_, rfl, heap_alloc_new W _, Nat.le_trans (Nat.le_of_eq HT.out.2.2.1.symm) (Below.size hW)⟩ ((Below.refl _ W).alloc (Nat.le_refl _) _), ?_⟩
  simp only [Act.put, List.setIfInBounds_toArray, List.set_cons_zero, List.set_cons_succ]
  intro v W hW hV
  have h10 : Nz (w.heap.size + 2) (v 10) W := hV 10 (by decide)
  clear hV
  obtain ⟨g, e10, hg, hge⟩ := h10
  simp only [Nat.reduceAdd]
  rw [e10]
  obtain ⟨z0, z1, z2, z3, z4, z5, z6, zlt⟩ := sev_at hg
  obtain ⟨f0, f1, f2, f3, f4, f5, f6⟩ := free7 hg
  have hs7 := seven_set hg (.string nm) (.int .i64 1) (.int .i64 mode) (.int .i64 time) (.int .i64 0) (.slice none 0 0) (.string ⟨#[]⟩)
  have hB4 : Below (w.heap.size + 2) W2 (set7 W g (.string nm) (.int .i64 1) (.int .i64 mode) (.int .i64 time) (.int .i64 0) (.slice none 0 0) (.string ⟨#[]⟩)) := below_set7 (Below.mono hW (Nat.le_of_eq HT.out.2.2.1.symm)) hge _ _ _ _ _ _ _
  obtain ⟨W4, hW4⟩ : ∃ W4, W4 = set7 W g (.string nm) (.int .i64 1) (.int .i64 mode) (.int .i64 time) (.int .i64 0) (.slice none 0 0) (.string ⟨#[]⟩) := ⟨_, rfl⟩
  rw [← hW4] at hs7 hB4
  have HNb : Hid (Nb w W4 ⟨path, 1, mode, time, bytes⟩ w.heap.size g #[.string nm, .int .i64 1, .int .i64 mode, .int .i64 time, .int .i64 0, .slice none 0 0, .string ⟨#[]⟩]) :=
    ⟨rfl, hge, (hB4.block _ (by omega)).trans HT.out.1, (hB4.block _ (by omega)).trans HT.out.2.1, hs7.1⟩
  have HB4 : Hid (Below w.heap.size w W4) := HT.out.2.2.2.trans (hB4.mono (by omega))
  clear hs7 hB4 e10 H0 hW HT hge zlt hln hg
  unfold set7 at hW4
  refine wpAny_ready (rs := [11]) (by kernel_rfl) (by simp) ?_
  refine AllReady.cons rfl (fun K hK => ?_) AllReady.nil
  rw [if_pos (by rfl)]
  go_simp
  rw [← hW4]
  clear hW4 z0 z1 z2 z3 z4 z5 z6 f0 f1 f2 f3 f4 f5 f6
  refine hK _ _ ?_
  clear hK K
  refine wpAny_done (by kernel_rfl) ?_ _
  have hgw : w.heap.size + 2 ≤ g := HNb.out.ge
  have hgne : g ≠ w.heap.size + 1 := by omega
  have hgne2 : w.heap.size + 1 ≠ g := by omega
  have HNb5 : Hid (Nb w (W4.setCell ⟨g, 4, none⟩ (.int .i64 bytes.size)) ⟨path, 1, mode, time, bytes⟩ w.heap.size g #[.string nm, .int .i64 1, .int .i64 mode, .int .i64 time, .int .i64 bytes.size, .slice none 0 0, .string ⟨#[]⟩]) := HNb.out.set 4 _ rfl
  have HB5 : Hid (Below w.heap.size w (W4.setCell ⟨g, 4, none⟩ (.int .i64 bytes.size))) := HB4.out.setCell (by show w.heap.size ≤ g; omega) _
  obtain ⟨W5, hW5⟩ : ∃ W5, W5 = W4.setCell ⟨g, 4, none⟩ (.int .i64 bytes.size) := ⟨_, rfl⟩
  rw [← hW5] at HNb5 HB5
  have hfile := file_any base b m c fx mn mx bt left bs bytes W5 (HQ.out.below HB5.out) hc hw hs R hR
  have hs5 : w.heap.size ≤ W5.heap.size := HB5.out.size
  have hsg : g < W5.heap.size := (Array.getElem?_eq_some_iff.1 HNb5.out.nd).1
  obtain ⟨i0, i1, i2, i3, i4, ilt⟩ := five_at HNb.out.it
  obtain ⟨n0, n1, n2, n3, n4, n5, n6, nlt⟩ := sev_at HNb.out.nd
  obtain ⟨f0, f1, f2, f3, f4, f5, f6⟩ := free7 HNb.out.nd
  obtain ⟨j0, j1, j2, j3, j4, jlt⟩ := five_at HNb5.out.it
  clear hR hw hs hc
  go_upto_region 6 with fail
  rw [← hW5]
  clear hW5 i0 i1 i2 i3 i4 n0 n1 n2 n3 n4 n5 n6 f0 f1 f2 f3 f4 f5 f6 nlt
  go_wp2_with fail
  refine hfile.mono ?_
  rintro e w6 ⟨v, rfl, hf6, hv0, hok⟩
  have hform : ∃ a n c', v = .slice a n c' := by
    by_cases hE : R.2.2 = 0
    · obtain ⟨a, c', e⟩ := own_form (hok hE).1
      exact ⟨a, _, c', e⟩
    · exact ⟨none, 0, 0, hv0 hE⟩
  obtain ⟨a, n, c', rfl⟩ := hform
  have HOK : Hid (R.2.2 = 0 → w6.ownsRow W5.heap.size 39 8 (.slice a n c') R.2.1.length (rowR idC R.2.1) ∧ (∀ t ∈ R.2.1, t.length = 8) ∧ R.2.1.length ≤ 257 ∧ ∃ bs', pl bs' = R.1 ∧ Pq base b m fx mn mx bt (c + 257) w6 left bs') := hok
  have HNb6 : Hid (Nb w w6 ⟨path, 1, mode, time, bytes⟩ w.heap.size g #[.string nm, .int .i64 1, .int .i64 mode, .int .i64 time, .int .i64 bytes.size, .slice none 0 0, .string ⟨#[]⟩]) := HNb5.out.pf hf6
  have HF6 : Hid (Pf base w w6) := (Pf.of_below HB5.out hbase).trans hf6
  obtain ⟨n0, n1, n2, n3, n4, n5, n6, nlt⟩ := sev_at HNb6.out.nd
  obtain ⟨f0, f1, f2, f3, f4, f5, f6⟩ := free7 HNb6.out.nd
  obtain ⟨r0, r1, r2, r3, r4, r5, r6, rlt⟩ := sev_at HNb6.out.res
  obtain ⟨g0, g1, g2, g3, g4, g5, g6⟩ := free7 HNb6.out.res
  have HNb7 : Hid (Nb w (w6.setCell ⟨g, 5, none⟩ (.slice a n c')) ⟨path, 1, mode, time, bytes⟩ w.heap.size g #[.string nm, .int .i64 1, .int .i64 mode, .int .i64 time, .int .i64 bytes.size, .slice a n c', .string ⟨#[]⟩]) := HNb6.out.set 5 _ rfl
  have HB9 : Hid (Below w.heap.size w6 (set7 (w6.setCell ⟨g, 5, none⟩ (.slice a n c')) (w.heap.size + 1) (.string nm) (.int .i64 1) (.int .i64 mode) (.int .i64 time) (.int .i64 bytes.size) (.slice a n c') (.string ⟨#[]⟩))) :=
    below_set7 ((Below.refl _ w6).setCell (by show w.heap.size ≤ g; omega) _) (by omega) _ _ _ _ _ _ _
  have HK9 : Hid (Kt 104 w6 (set7 (w6.setCell ⟨g, 5, none⟩ (.slice a n c')) (w.heap.size + 1) (.string nm) (.int .i64 1) (.int .i64 mode) (.int .i64 time) (.int .i64 bytes.size) (.slice a n c') (.string ⟨#[]⟩))) :=
    (Kt.set HNb6.out.nd 5 _).trans (seven_set HNb7.out.res _ _ _ _ _ _ _).2
  clear hok hv0 hf6 hfile
  go_wp2_with fail
  refine bodyPost_ret (v := .tuple #[.agg #[.string nm, .int .i64 1, .int .i64 mode, .int .i64 time, .int .i64 bytes.size, .slice a n c', .string ⟨#[]⟩], .int .i64 R.2.2]) ?_ rfl ⟨a, n, c', rfl, HF6.out.then HB9.out hbase, fun hE => ?_⟩
  · have hres : Tryz.f46.results = #[.cell 4 104, .tmp 5] := by kernel_rfl
    simp only [results, hres]
    go_simp
  · obtain ⟨o1, o2, o3, bs', o4, o5⟩ := HOK.out hE
    exact ⟨own_lower (own_kt o1 HK9.out (by decide)) hs5, o2, o3, bs', o4, o5.kt HK9.out (HB9.out.mono hbase) (by decide) (by decide)⟩
theorem I8.zero {W : World} {G : Nat} {t : TypeId} (h : W.heap[G]? = some (.cells Z8 t (0, 0))) : I8 W G (List.replicate 8 0) := by
  refine ⟨by simp, fun j hj => ?_, fun j _ => by simp [World.frozen?, h], (Array.getElem?_eq_some_iff.1 h).1⟩
  rw [List.getD_eq_getElem?_getD, List.getElem?_replicate, if_pos hj, cell_of_row _ G j _ _ _ h]
  match j, hj with
  | 0, _ | 1, _ | 2, _ | 3, _ | 4, _ | 5, _ | 6, _ | 7, _ => rfl
theorem I8.kt8 {T : TypeId} {W : World} {G : Nat} {cur : Array Value} {fr : Nat × Nat} (h : W.heap[G]? = some (.cells cur T fr)) (b0 b1 b2 b3 b4 b5 b6 b7 : UInt8) : Kt T W (set8 W G b0 b1 b2 b3 b4 b5 b6 b7) := by
  have hk := kept_not8 W G b0 b1 b2 b3 b4 b5 b6 b7
  refine ⟨hk.os, hk.tape, hk.output, hk.size, fun k o ho hn => ?_⟩
  by_cases e : k = G
  · subst e
    rw [h] at ho
    cases ho
    exact absurd ⟨_, _, rfl⟩ hn
  · exact hk.obj e ho
theorem one_id (W : World) (b0 b1 b2 b3 b4 b5 b6 b7 : UInt8) : (W.alloc (.cells #[.int .u8 (b0.toNat : Int), .int .u8 (b1.toNat : Int), .int .u8 (b2.toNat : Int), .int .u8 (b3.toNat : Int), .int .u8 (b4.toNat : Int), .int .u8 (b5.toNat : Int), .int .u8 (b6.toNat : Int), .int .u8 (b7.toNat : Int)] 39)).ownsRow W.heap.size 39 8 (.slice (some ⟨W.heap.size, 0, none⟩) 1 1) 1 (idC [b0, b1, b2, b3, b4, b5, b6, b7]) :=
  ⟨rfl, .inr ⟨W.heap.size, 1, #[.int .u8 (b0.toNat : Int), .int .u8 (b1.toNat : Int), .int .u8 (b2.toNat : Int), .int .u8 (b3.toNat : Int), .int .u8 (b4.toNat : Int), .int .u8 (b5.toNat : Int), .int .u8 (b6.toNat : Int), .int .u8 (b7.toNat : Int)], rfl, Nat.le_refl _, heap_alloc_new W _, Nat.le_refl _, by unfold maxLen; omega, rfl, rfl⟩⟩
set_option maxHeartbeats 4000000 in
set_option maxRecDepth 10000 in
theorem node_dir (base b m c c' : Nat) (fx mn mx bt : Int) (left left' : List Im) (bs : List Blb) (x : Im) (nm : ByteArray) (w : World) (h : Pq base b m fx mn mx bt c w left bs) (hk : x.kind = 2)
    (hln : ∀ W, Calls Tryz.prog 61 #[.string x.path] W fun e w' => e = .returned (.string nm) ∧ w' = W) (R : List Pk.Bl × Wk.Bs × Int)
    (hd : ∀ W, Below base w W → Pq base b m fx mn mx bt c W left bs → Calls Tryz.prog 33 #[.pointer (some ⟨b, 0, none⟩), .string x.path] W fun e w' => ∃ id, e = .returned (.tuple #[idV id, .int .i64 R.2.2]) ∧ id.length = 8 ∧ Pf base W w' ∧ (R.2.2 = 0 → id = R.2.1 ∧ ∃ bs', pl bs' = R.1 ∧ Pq base b m fx mn mx bt c' w' left' bs')) :
    Calls Tryz.prog 46 #[.pointer (some ⟨b, 0, none⟩), imV x] w fun e w' => ∃ a id, e = .returned (.tuple #[.agg #[.string nm, .int .i64 2, .int .i64 x.mode, .int .i64 x.time, .int .i64 0, .slice a 1 1, .string ⟨#[]⟩], .int .i64 R.2.2]) ∧ Pf base w w' ∧
      id.length = 8 ∧ w'.ownsRow w.heap.size 39 8 (.slice a 1 1) 1 (idC id) ∧ (R.2.2 = 0 → id = R.2.1 ∧ ∃ bs', pl bs' = R.1 ∧ Pq base b m fx mn mx bt c' w' left' bs') := by
  have hbase := h.base
  obtain ⟨path, kind, mode, time, bytes⟩ := x
  dsimp only at hk hln hd ⊢
  subst hk
  obtain ⟨W2, hW2⟩ : ∃ W2, W2 = (w.alloc (.cells #[.string path, .int .i64 2, .int .i64 mode, .int .i64 time, .string bytes] 27)).alloc (.cells #[.string ⟨#[]⟩, .int .i64 0, .int .i64 0, .int .i64 0, .int .i64 0, .slice none 0 0, .string ⟨#[]⟩] 104) := ⟨_, rfl⟩
  obtain ⟨t1, t2, t3, t4⟩ := two_new w (.cells #[.string path, .int .i64 2, .int .i64 mode, .int .i64 time, .string bytes] 27) (.cells #[.string ⟨#[]⟩, .int .i64 0, .int .i64 0, .int .i64 0, .int .i64 0, .slice none 0 0, .string ⟨#[]⟩] 104)
  rw [← hW2] at t1 t2 t3 t4
  have HQ : Hid (Pq base b m fx mn mx bt c w left bs) := h
  have HT : Hid (W2.heap[w.heap.size]? = some (.cells #[.string path, .int .i64 2, .int .i64 mode, .int .i64 time, .string bytes] 27 (0, 0)) ∧ W2.heap[w.heap.size + 1]? = some (.cells #[.string ⟨#[]⟩, .int .i64 0, .int .i64 0, .int .i64 0, .int .i64 0, .slice none 0 0, .string ⟨#[]⟩] 104 (0, 0)) ∧ W2.heap.size = w.heap.size + 2 ∧ Below w.heap.size w W2) := ⟨t1, t2, t3, t4⟩
  clear h t1 t2 t3 t4
  have H0 : Hid (∀ W, Gw W2 W → W.cell? ⟨w.heap.size, 0, none⟩ = some (.string path) ∧ W.cell? ⟨w.heap.size, 1, none⟩ = some (.int .i64 2) ∧ W.cell? ⟨w.heap.size, 2, none⟩ = some (.int .i64 mode) ∧ W.cell? ⟨w.heap.size, 3, none⟩ = some (.int .i64 time) ∧ W.cell? ⟨w.heap.size, 4, none⟩ = some (.string bytes)) := fun W hW => by
    have := five_at ((Below.block hW _ (Array.getElem?_eq_some_iff.1 HT.out.1).1).trans HT.out.1)
    exact ⟨this.1, this.2.1, this.2.2.1, this.2.2.2.1, this.2.2.2.2.1⟩
  go_enter Tryz.func46, Tryz.ntmps46
  go_upto_region 1 with fail
  rw [← hW2]
  clear hW2
  refine wp_region_rel_tail (G := Gw) (W0 := W2) 11 1 Gw.refl Gw.trans (by kernel_rfl) (by decide) (by kernel_rfl) (by kernel_rfl) (.inr (by kernel_rfl)) (Below.refl _ W2).drew ?_
  refine .inl ⟨.pointer (some ⟨w.heap.size, 0, none⟩), fun v W hW hd => step_run rfl _ W (by clear hd; go_simp) rfl (Gw.refl _), ?_⟩
  simp only [Act.put, List.setIfInBounds_toArray, List.set_cons_zero, List.set_cons_succ]
  refine .inl ⟨.string path, fun v W hW hd => step_run rfl _ W (by clear hd; obtain ⟨c0, c1, c2, c3, c4⟩ := H0.out W hW; go_simp) rfl (Gw.refl _), ?_⟩
  simp only [Act.put, List.setIfInBounds_toArray, List.set_cons_zero, List.set_cons_succ]
  refine .inl ⟨.string nm, fun v W hW hd => step_call rfl 61 #[.string path] (by clear hd; go_simp) ((hln W).mono fun e w' h => ⟨_, h.1, rfl, by rw [h.2]; exact Gw.refl _⟩), ?_⟩
  simp only [Act.put, List.setIfInBounds_toArray, List.set_cons_zero, List.set_cons_succ]
  refine .inl ⟨.pointer (some ⟨w.heap.size, 1, none⟩), fun v W hW hd => step_run rfl _ W (by clear hd; go_simp) rfl (Gw.refl _), ?_⟩
  simp only [Act.put, List.setIfInBounds_toArray, List.set_cons_zero, List.set_cons_succ]
  refine .inl ⟨.int .i64 2, fun v W hW hd => step_run rfl _ W (by clear hd; obtain ⟨c0, c1, c2, c3, c4⟩ := H0.out W hW; go_simp) rfl (Gw.refl _), ?_⟩
  simp only [Act.put, List.setIfInBounds_toArray, List.set_cons_zero, List.set_cons_succ]
  refine .inl ⟨.pointer (some ⟨w.heap.size, 2, none⟩), fun v W hW hd => step_run rfl _ W (by clear hd; go_simp) rfl (Gw.refl _), ?_⟩
  simp only [Act.put, List.setIfInBounds_toArray, List.set_cons_zero, List.set_cons_succ]
  refine .inl ⟨.int .i64 mode, fun v W hW hd => step_run rfl _ W (by clear hd; obtain ⟨c0, c1, c2, c3, c4⟩ := H0.out W hW; go_simp) rfl (Gw.refl _), ?_⟩
  simp only [Act.put, List.setIfInBounds_toArray, List.set_cons_zero, List.set_cons_succ]
  refine .inl ⟨.pointer (some ⟨w.heap.size, 3, none⟩), fun v W hW hd => step_run rfl _ W (by clear hd; go_simp) rfl (Gw.refl _), ?_⟩
  simp only [Act.put, List.setIfInBounds_toArray, List.set_cons_zero, List.set_cons_succ]
  refine .inl ⟨.int .i64 time, fun v W hW hd => step_run rfl _ W (by clear hd; obtain ⟨c0, c1, c2, c3, c4⟩ := H0.out W hW; go_simp) rfl (Gw.refl _), ?_⟩
  simp only [Act.put, List.setIfInBounds_toArray, List.set_cons_zero, List.set_cons_succ]
  refine .inl ⟨.agg #[.string nm, .int .i64 2, .int .i64 mode, .int .i64 time, .int .i64 0, .slice none 0 0, .string ⟨#[]⟩], fun v W hW hd => step_run rfl _ W (by clear hd; go_simp) rfl (Gw.refl _), ?_⟩
  simp only [Act.put, List.setIfInBounds_toArray, List.set_cons_zero, List.set_cons_succ]
  refine .inr ⟨Nz (w.heap.size + 2), Nz.mono, fun v W hW hd => step_run rfl _ (W.alloc (.cells #[.string ⟨#[]⟩, .int .i64 0, .int .i64 0, .int .i64 0, .int .i64 0, .slice none 0 0, .string ⟨#[]⟩] 104)) (by clear hd; go_simp) ⟨_, rfl, heap_alloc_new W _, Nat.le_trans (Nat.le_of_eq HT.out.2.2.1.symm) (Below.size hW)⟩ ((Below.refl _ W).alloc (Nat.le_refl _) _), ?_⟩
  simp only [Act.put, List.setIfInBounds_toArray, List.set_cons_zero, List.set_cons_succ]
  intro v W hW hV
  have h10 : Nz (w.heap.size + 2) (v 10) W := hV 10 (by decide)
  clear hV
  obtain ⟨g, e10, hg, hge⟩ := h10
  simp only [Nat.reduceAdd]
  rw [e10]
  obtain ⟨z0, z1, z2, z3, z4, z5, z6, zlt⟩ := sev_at hg
  obtain ⟨f0, f1, f2, f3, f4, f5, f6⟩ := free7 hg
  have hs7 := seven_set hg (.string nm) (.int .i64 2) (.int .i64 mode) (.int .i64 time) (.int .i64 0) (.slice none 0 0) (.string ⟨#[]⟩)
  have hB4 : Below (w.heap.size + 2) W2 (set7 W g (.string nm) (.int .i64 2) (.int .i64 mode) (.int .i64 time) (.int .i64 0) (.slice none 0 0) (.string ⟨#[]⟩)) := below_set7 (Below.mono hW (Nat.le_of_eq HT.out.2.2.1.symm)) hge _ _ _ _ _ _ _
  obtain ⟨W4, hW4⟩ : ∃ W4, W4 = set7 W g (.string nm) (.int .i64 2) (.int .i64 mode) (.int .i64 time) (.int .i64 0) (.slice none 0 0) (.string ⟨#[]⟩) := ⟨_, rfl⟩
  rw [← hW4] at hs7 hB4
  have HNb : Hid (Nb w W4 ⟨path, 2, mode, time, bytes⟩ w.heap.size g #[.string nm, .int .i64 2, .int .i64 mode, .int .i64 time, .int .i64 0, .slice none 0 0, .string ⟨#[]⟩]) :=
    ⟨rfl, hge, (hB4.block _ (by omega)).trans HT.out.1, (hB4.block _ (by omega)).trans HT.out.2.1, hs7.1⟩
  have HB4 : Hid (Below w.heap.size w W4) := HT.out.2.2.2.trans (hB4.mono (by omega))
  clear hs7 hB4 e10 H0 hW HT hge zlt hln hg
  unfold set7 at hW4
  refine wpAny_ready (rs := [11]) (by kernel_rfl) (by simp) ?_
  refine AllReady.cons rfl (fun K hK => ?_) AllReady.nil
  rw [if_pos (by rfl)]
  go_simp
  rw [← hW4]
  clear hW4 z0 z1 z2 z3 z4 z5 z6 f0 f1 f2 f3 f4 f5 f6
  refine hK _ _ ?_
  clear hK K
  refine wpAny_done (by kernel_rfl) ?_ _
  have hgw : w.heap.size + 2 ≤ g := HNb.out.ge
  have hgne : g ≠ w.heap.size + 1 := by omega
  have hgne2 : w.heap.size + 1 ≠ g := by omega
  obtain ⟨i0, i1, i2, i3, i4, ilt⟩ := five_at HNb.out.it
  have hsg : g < W4.heap.size := (Array.getElem?_eq_some_iff.1 HNb.out.nd).1
  obtain ⟨W5, hW5⟩ : ∃ W5, W5 = W4.alloc (.cells Z8 39) := ⟨_, rfl⟩
  have hB45 : Below W4.heap.size W4 W5 := by rw [hW5]; exact (Below.refl _ W4).alloc (Nat.le_refl _) _
  have HI5 : Hid (W5.heap[W4.heap.size]? = some (.cells Z8 39 (0, 0))) := by rw [hW5]; exact heap_alloc_new W4 _
  have HNb5 : Hid (Nb w W5 ⟨path, 2, mode, time, bytes⟩ w.heap.size g #[.string nm, .int .i64 2, .int .i64 mode, .int .i64 time, .int .i64 0, .slice none 0 0, .string ⟨#[]⟩]) := HNb.out.past hB45
  have HB5 : Hid (Below w.heap.size w W5) := HB4.out.trans (hB45.mono HB4.out.size)
  obtain ⟨j0, j1, j2, j3, j4, jlt⟩ := five_at HNb5.out.it
  have hd5 := hd W5 (HB5.out.mono hbase) (HQ.out.below HB5.out)
  have hs4 : w.heap.size ≤ W4.heap.size := HB4.out.size
  clear hd hB45
  go_upto_region 9 with fail
  rw [← hW5]
  clear hW5 i0 i1 i2 i3 i4
  go_wp2_with fail
  refine hd5.mono ?_
  rintro e w6 ⟨id, rfl, hid, hf6, hok⟩
  obtain ⟨b0, b1, b2, b3, b4, b5, b6, b7, rfl⟩ := eight id hid
  have eV : idV [b0, b1, b2, b3, b4, b5, b6, b7] = .agg #[.int .u8 (b0.toNat : Int), .int .u8 (b1.toNat : Int), .int .u8 (b2.toNat : Int), .int .u8 (b3.toNat : Int), .int .u8 (b4.toNat : Int), .int .u8 (b5.toNat : Int), .int .u8 (b6.toNat : Int), .int .u8 (b7.toNat : Int)] := rfl
  rw [eV]
  have HOK : Hid (R.2.2 = 0 → [b0, b1, b2, b3, b4, b5, b6, b7] = R.2.1 ∧ ∃ bs', pl bs' = R.1 ∧ Pq base b m fx mn mx bt c' w6 left' bs') := hok
  have HF6 : Hid (Pf base w w6) := (Pf.of_below HB5.out hbase).trans hf6
  have hI6 : w6.heap[W4.heap.size]? = some (.cells Z8 39 (0, 0)) := hf6.cells HI5.out (by decide) (by decide)
  have HNb6 : Hid (Nb w w6 ⟨path, 2, mode, time, bytes⟩ w.heap.size g #[.string nm, .int .i64 2, .int .i64 mode, .int .i64 time, .int .i64 0, .slice none 0 0, .string ⟨#[]⟩]) := HNb5.out.pf hf6
  have hX6 := I8.zero hI6
  obtain ⟨e0, e1, e2, e3, e4, e5, e6, e7⟩ := I8.cells (b0 := 0) (b1 := 0) (b2 := 0) (b3 := 0) (b4 := 0) (b5 := 0) (b6 := 0) (b7 := 0) hX6
  obtain ⟨f0, f1, f2, f3, f4, f5, f6, f7⟩ := hX6.free
  obtain ⟨W7, hW7⟩ : ∃ W7, W7 = set8 w6 W4.heap.size b0 b1 b2 b3 b4 b5 b6 b7 := ⟨_, rfl⟩
  have hX7 : I8 W7 W4.heap.size [b0, b1, b2, b3, b4, b5, b6, b7] := by rw [hW7]; exact hX6.store _ _ _ _ _ _ _ _
  have hB67 : Below W4.heap.size w6 W7 := by rw [hW7]; exact below_set8 (Below.refl _ _) (Nat.le_refl _) _ _ _ _ _ _ _ _
  have hK67 : Kt 39 w6 W7 := by rw [hW7]; exact I8.kt8 hI6 _ _ _ _ _ _ _ _
  have HNb7 : Hid (Nb w W7 ⟨path, 2, mode, time, bytes⟩ w.heap.size g #[.string nm, .int .i64 2, .int .i64 mode, .int .i64 time, .int .i64 0, .slice none 0 0, .string ⟨#[]⟩]) :=
    ⟨rfl, hgw, hK67.cell HNb6.out.it (by decide), hK67.cell HNb6.out.res (by decide), hK67.cell HNb6.out.nd (by decide)⟩
  unfold set8 at hW7
  simp only [B] at hW7
  obtain ⟨d0, d1, d2, d3, d4, d5, d6, d7⟩ := hX7.cells
  clear hok hf6 hid eV
  go_upto_region 10 with fail
  rw [← hW7]
  clear hW7 e0 e1 e2 e3 e4 e5 e6 e7 f0 f1 f2 f3 f4 f5 f6 f7 hX6 j0 j1 j2 j3 j4
  have hs7 : w.heap.size ≤ W7.heap.size := by have := hB67.size; have := HF6.out.size; omega
  have HNs : Hid (Nb w (W7.setCell ⟨g, 5, none⟩ (.slice (some ⟨W7.heap.size, 0, none⟩) 1 1)) ⟨path, 2, mode, time, bytes⟩ w.heap.size g #[.string nm, .int .i64 2, .int .i64 mode, .int .i64 time, .int .i64 0, .slice (some ⟨W7.heap.size, 0, none⟩) 1 1, .string ⟨#[]⟩]) := HNb7.out.set 5 _ rfl
  have hKs : Kt 104 W7 (W7.setCell ⟨g, 5, none⟩ (.slice (some ⟨W7.heap.size, 0, none⟩) 1 1)) := Kt.set HNb7.out.nd 5 _
  have hss : (W7.setCell ⟨g, 5, none⟩ (.slice (some ⟨W7.heap.size, 0, none⟩) 1 1)).heap.size = W7.heap.size := by simp [World.setCell]
  have hBs : Below w.heap.size W7 (W7.setCell ⟨g, 5, none⟩ (.slice (some ⟨W7.heap.size, 0, none⟩) 1 1)) := (Below.refl _ W7).setCell (by show w.heap.size ≤ g; omega) _
  obtain ⟨W8, hW8⟩ : ∃ W8, W8 = (W7.setCell ⟨g, 5, none⟩ (.slice (some ⟨W7.heap.size, 0, none⟩) 1 1)).alloc (.cells #[.int .u8 (b0.toNat : Int), .int .u8 (b1.toNat : Int), .int .u8 (b2.toNat : Int), .int .u8 (b3.toNat : Int), .int .u8 (b4.toNat : Int), .int .u8 (b5.toNat : Int), .int .u8 (b6.toNat : Int), .int .u8 (b7.toNat : Int)] 39) := ⟨_, rfl⟩
  have hB78 : Below W7.heap.size (W7.setCell ⟨g, 5, none⟩ (.slice (some ⟨W7.heap.size, 0, none⟩) 1 1)) W8 := by rw [hW8]; exact (Below.refl _ _).alloc (Nat.le_of_eq hss.symm) _
  have HO8 : Hid (W8.ownsRow W7.heap.size 39 8 (.slice (some ⟨W7.heap.size, 0, none⟩) 1 1) 1 (idC [b0, b1, b2, b3, b4, b5, b6, b7])) := by
    have := one_id (W7.setCell ⟨g, 5, none⟩ (.slice (some ⟨W7.heap.size, 0, none⟩) 1 1)) b0 b1 b2 b3 b4 b5 b6 b7
    rw [hss] at this
    rw [hW8]
    exact this
  have HNb9 : Hid (Nb w W8 ⟨path, 2, mode, time, bytes⟩ w.heap.size g #[.string nm, .int .i64 2, .int .i64 mode, .int .i64 time, .int .i64 0, .slice (some ⟨W7.heap.size, 0, none⟩) 1 1, .string ⟨#[]⟩]) := HNs.out.past (by rw [hss]; exact hB78)
  have HB9 : Hid (Below w.heap.size W8 (set7 W8 (w.heap.size + 1) (.string nm) (.int .i64 2) (.int .i64 mode) (.int .i64 time) (.int .i64 0) (.slice (some ⟨W7.heap.size, 0, none⟩) 1 1) (.string ⟨#[]⟩))) :=
    below_set7 (Below.refl _ W8) (by omega) _ _ _ _ _ _ _
  have HK9 : Hid (Kt 104 W8 (set7 W8 (w.heap.size + 1) (.string nm) (.int .i64 2) (.int .i64 mode) (.int .i64 time) (.int .i64 0) (.slice (some ⟨W7.heap.size, 0, none⟩) 1 1) (.string ⟨#[]⟩))) :=
    (seven_set HNb9.out.res _ _ _ _ _ _ _).2
  have HK8 : Hid (Kt 39 w6 W7) := hK67
  have HK8s : Hid (Kt 104 W7 W8) := hKs.trans (Kt.of_below (by rw [hss]; exact hB78))
  have HB8 : Hid (Below w.heap.size w6 W7) := hB67.mono hs4
  have HB8s : Hid (Below w.heap.size W7 W8) := hBs.trans (hB78.mono hs7)
  obtain ⟨n0, n1, n2, n3, n4, n5, n6, nlt⟩ := sev_at HNb9.out.nd
  obtain ⟨r0, r1, r2, r3, r4, r5, r6, rlt⟩ := sev_at HNb9.out.res
  obtain ⟨g0, g1, g2, g3, g4, g5, g6⟩ := free7 HNb9.out.res
  obtain ⟨m0, m1, m2, m3, m4, m5, m6, mlt⟩ := sev_at HNb7.out.nd
  obtain ⟨q0, q1, q2, q3, q4, q5, q6⟩ := free7 HNb7.out.nd
  clear hX7 hB67 hK67 hB78 hss hBs hKs
  go_upto_region 13 with fail
  rw [← hW8]
  clear hW8 m0 m1 m2 m3 m4 m5 m6 mlt q0 q1 q2 q3 q4 q5 q6 d0 d1 d2 d3 d4 d5 d6 d7
  go_wp2_with fail
  refine bodyPost_ret (v := .tuple #[.agg #[.string nm, .int .i64 2, .int .i64 mode, .int .i64 time, .int .i64 0, .slice (some ⟨W7.heap.size, 0, none⟩) 1 1, .string ⟨#[]⟩], .int .i64 R.2.2]) ?_ rfl ⟨_, [b0, b1, b2, b3, b4, b5, b6, b7], rfl, ((HF6.out.then HB8.out hbase).then HB8s.out hbase).then HB9.out hbase, rfl, own_lower (own_kt HO8.out HK9.out (by decide)) hs7, fun hE => ?_⟩
  · have hres : Tryz.f46.results = #[.cell 4 104, .tmp 5] := by kernel_rfl
    simp only [results, hres]
    go_simp
  · obtain ⟨o1, bs', o4, o5⟩ := HOK.out hE
    exact ⟨o1, bs', o4, ((o5.kt HK8.out (HB8.out.mono hbase) (by decide) (by decide)).kt HK8s.out (HB8s.out.mono hbase) (by decide) (by decide)).kt HK9.out (HB9.out.mono hbase) (by decide) (by decide)⟩
end Go.Proofs.YthpcbbkpjggjbaaGreatDoor
namespace Go.Proofs.YthpcbbkpjggjbaaGreatDoor
namespace Td
abbrev St := Bs × Int
def tk (k : Nat) (e : Int) (x : St) : Bool × St := if x.2 ≠ 0 then (false, x) else if e ≠ 0 then (false, (x.1, e)) else (true, (x.1.drop k, 0))
def nuE (most : Nat) (s : Bs) : Int := if (Nm.getN s).2.2 = 0 ∧ most < (Nm.getN s).1 then 2 else (Nm.getN s).2.2
def sNum (most : Nat) (x : St) : Nat × St := (if (tk (Nm.getN x.1).2.1 (nuE most x.1) x).1 = true then (Nm.getN x.1).1 else 0, (tk (Nm.getN x.1).2.1 (nuE most x.1) x).2)
def sInt (x : St) : Int × St := (if (tk (Nm.getI x.1).2.1 (Nm.getI x.1).2.2 x).1 = true then (Nm.getI x.1).1 else 0, (tk (Nm.getI x.1).2.1 (Nm.getI x.1).2.2 x).2)
def sTxt (x : St) : Bs × St := (if (tk (Nm.getT x.1).2.1 (Nm.getT x.1).2.2 x).1 = true then (Nm.getT x.1).1 else [], (tk (Nm.getT x.1).2.1 (Nm.getT x.1).2.2 x).2)
def shE (k : Nat) (s : Bs) : Int := if s.length < k then 3 else 0
def sByt (k : Nat) (x : St) : Bs × St := (if (tk k (shE k x.1) x).1 = true then x.1.take k else [], (tk k (shE k x.1) x).2)
def sKind (x : St) : Nat × St := (((sByt 1 x).1.headD 0).toNat, (sByt 1 x).2)
def eight (s : Bs) : Bs := s ++ List.replicate (8 - s.length) 0
def sIds : Nat → St → List Bs × St
  | 0, x => ([], x)
  | j + 1, x => ((sIds j x).1 ++ [eight (sByt 8 (sIds j x).2).1], (sByt 8 (sIds j x).2).2)
def sParts (x : St) : List Bs × St := sIds (sNum 300 x).1 (sNum 300 x).2
def sNode (x : St) : Nd × St :=
  let a := sTxt x
  let b := sKind a.2
  let c := sNum 511 b.2
  let d := sInt c.2
  let e := sNum 4096 d.2
  let f := sParts e.2
  let g := sTxt f.2
  (⟨a.1, b.1, c.1, d.1, e.1, f.1, g.1⟩, g.2)
def sAll : Nat → St → List Nd × St
  | 0, x => ([], x)
  | j + 1, x => ((sAll j x).1 ++ [(sNode (sAll j x).2).1], (sNode (sAll j x).2).2)
theorem tk_stay {k : Nat} {e : Int} {x : St} (h : x.2 ≠ 0) : tk k e x = (false, x) := by unfold tk; rw [if_pos h]
theorem tk_err {k : Nat} {e : Int} {s : Bs} (h : e ≠ 0) : tk k e (s, 0) = (false, (s, e)) := by unfold tk; rw [if_neg (fun q => q rfl), if_pos h]
theorem tk_ok {k : Nat} {s : Bs} : tk k 0 (s, 0) = (true, (s.drop k, 0)) := by unfold tk; rw [if_neg (fun q => q rfl), if_neg (fun q => q rfl)]
theorem sNum_stay {m : Nat} {x : St} (h : x.2 ≠ 0) : sNum m x = (0, x) := by unfold sNum; rw [tk_stay h]; rfl
theorem sInt_stay {x : St} (h : x.2 ≠ 0) : sInt x = (0, x) := by unfold sInt; rw [tk_stay h]; rfl
theorem sTxt_stay {x : St} (h : x.2 ≠ 0) : sTxt x = ([], x) := by unfold sTxt; rw [tk_stay h]; rfl
theorem sByt_stay {k : Nat} {x : St} (h : x.2 ≠ 0) : sByt k x = ([], x) := by unfold sByt; rw [tk_stay h]; rfl
theorem sKind_stay {x : St} (h : x.2 ≠ 0) : sKind x = (0, x) := by unfold sKind; rw [sByt_stay h]; rfl
theorem sIds_stay {x : St} (h : x.2 ≠ 0) : ∀ j, (sIds j x).2 = x
  | 0 => rfl
  | j + 1 => by
    have i := sIds_stay h j
    show (sByt 8 (sIds j x).2).2 = x
    rw [i, sByt_stay h]
theorem sParts_stay {x : St} (h : x.2 ≠ 0) : (sParts x).2 = x := by unfold sParts; rw [sNum_stay h]; rfl
theorem sNode_stay {x : St} (h : x.2 ≠ 0) : (sNode x).2 = x := by
  unfold sNode
  simp only [sTxt_stay h, sKind_stay h, sNum_stay h, sInt_stay h, sParts_stay h]
theorem sAll_stay {x : St} (h : x.2 ≠ 0) : ∀ j, (sAll j x).2 = x
  | 0 => rfl
  | j + 1 => by
    have i := sAll_stay h j
    show (sNode (sAll j x).2).2 = x
    rw [i, sNode_stay h]
theorem sNum_ok {m n : Nat} {s r : Bs} (h : num m s = (n, r, 0)) : sNum m (s, 0) = (n, (r, 0)) := by
  unfold num at h
  simp only at h
  split at h
  · rename_i q; exact absurd (congrArg (fun q => q.2.2) h) q
  · rename_i q
    split at h
    · exact absurd (congrArg (fun q => q.2.2) h) (by simp)
    · rename_i q2
      have e1 : (Nm.getN s).1 = n := congrArg (fun q => q.1) h
      have e2 : s.drop (Nm.getN s).2.1 = r := congrArg (fun q => q.2.1) h
      have e3 : nuE m s = 0 := by unfold nuE; rw [if_neg (fun k => q2 k.2)]; exact Decidable.not_not.mp q
      unfold sNum
      simp only [e3, tk_ok, e1, e2, if_true]
theorem sNum_err {m n : Nat} {s r : Bs} {e : Int} (h : num m s = (n, r, e)) (he : e ≠ 0) : (sNum m (s, 0)).2 = (s, e) := by
  have : nuE m s = e := by
    unfold num at h
    simp only at h
    split at h
    · rename_i q
      unfold nuE
      rw [if_neg (fun k => q k.1)]
      exact congrArg (fun q => q.2.2) h
    · rename_i q
      split at h
      · rename_i q2
        unfold nuE
        rw [if_pos ⟨Decidable.not_not.mp q, q2⟩]
        exact congrArg (fun q => q.2.2) h
      · exact absurd (congrArg (fun q => q.2.2) h).symm he
  unfold sNum
  simp only [this, tk_err he]
theorem sInt_ok {k : Nat} {i : Int} {s : Bs} (h : Nm.getI s = (i, k, 0)) : sInt (s, 0) = (i, (s.drop k, 0)) := by
  unfold sInt; simp only [h, tk_ok, if_true]
theorem sInt_err {k : Nat} {i e : Int} {s : Bs} (h : Nm.getI s = (i, k, e)) (he : e ≠ 0) : (sInt (s, 0)).2 = (s, e) := by
  unfold sInt; simp only [h, tk_err he]
theorem sTxt_ok {k : Nat} {t s : Bs} (h : Nm.getT s = (t, k, 0)) : sTxt (s, 0) = (t, (s.drop k, 0)) := by
  unfold sTxt; simp only [h, tk_ok, if_true]
theorem sTxt_err {k : Nat} {e : Int} {t s : Bs} (h : Nm.getT s = (t, k, e)) (he : e ≠ 0) : (sTxt (s, 0)).2 = (s, e) := by
  unfold sTxt; simp only [h, tk_err he]
theorem sByt_ok {k : Nat} {s : Bs} (h : k ≤ s.length) : sByt k (s, 0) = (s.take k, (s.drop k, 0)) := by
  have : shE k s = 0 := by unfold shE; rw [if_neg (by omega)]
  unfold sByt; simp only [this, tk_ok, if_true]
theorem sByt_err {k : Nat} {s : Bs} (h : s.length < k) : (sByt k (s, 0)).2 = (s, 3) := by
  have : shE k s = 3 := by unfold shE; rw [if_pos h]
  unfold sByt; simp only [this, tk_err (show (3 : Int) ≠ 0 by decide)]
theorem sKind_ok {s : Bs} (h : s ≠ []) : sKind (s, 0) = ((s.headD 0).toNat, (s.tail, 0)) := by
  unfold sKind
  cases s with
  | nil => exact absurd rfl h
  | cons a b => rw [sByt_ok (by simp)]; simp
theorem sKind_err : (sKind ([], 0)).2 = ([], 3) := by unfold sKind; rw [sByt_err (by simp)]
theorem eights_snoc : ∀ (j : Nat) (l : Bs), eights (j + 1) l = eights j l ++ [(l.drop (8 * j)).take 8]
  | 0, l => rfl
  | j + 1, l => by
    rw [eights, eights_snoc j (l.drop 8), List.drop_drop, show 8 + 8 * j = 8 * (j + 1) from by omega]
    rfl
theorem eight_id {s : Bs} (h : s.length = 8) : eight s = s := by unfold eight; rw [h]; simp
theorem sIds_ok {s : Bs} : ∀ {j : Nat}, 8 * j ≤ s.length → sIds j (s, 0) = (eights j s, (s.drop (8 * j), 0))
  | 0, _ => rfl
  | j + 1, h => by
    have i := sIds_ok (s := s) (j := j) (by omega)
    have l8 : 8 ≤ (s.drop (8 * j)).length := by rw [List.length_drop]; omega
    rw [sIds, i]
    simp only
    rw [sByt_ok l8, eights_snoc, eight_id (by rw [List.length_take]; omega), List.drop_drop, show 8 * j + 8 = 8 * (j + 1) from by omega]
theorem sIds_err {s : Bs} : ∀ {j : Nat}, s.length < 8 * j → (sIds j (s, 0)).2.2 = 3
  | 0, h => absurd h (by omega)
  | j + 1, h => by
    show (sByt 8 (sIds j (s, 0)).2).2.2 = 3
    by_cases q : s.length < 8 * j
    · have i := sIds_err q
      rw [sByt_stay (by rw [i]; decide)]
      exact i
    · rw [sIds_ok (by omega)]
      simp only
      rw [sByt_err (by rw [List.length_drop]; omega)]
theorem sNode_rd (s : Bs) : ((rdOne s).2.2 = 0 → sNode (s, 0) = ((rdOne s).1, ((rdOne s).2.1, 0))) ∧ ((rdOne s).2.2 ≠ 0 → (sNode (s, 0)).2.2 = (rdOne s).2.2) := by
  unfold rdOne sNode
  rcases ht : Nm.getT s with ⟨t, kt, et⟩
  simp only
  by_cases q1 : et ≠ 0
  · rw [if_pos q1]
    have k := sTxt_err ht q1
    have z : (sTxt (s, 0)).2.2 ≠ 0 := by rw [k]; exact q1
    simp only [sKind_stay z, sNum_stay z, sInt_stay z, sParts_stay z, sTxt_stay z]
    exact ⟨fun h => absurd h q1, fun _ => by rw [k]⟩
  obtain rfl := Decidable.not_not.mp q1
  rw [if_neg q1, sTxt_ok ht]
  simp only
  by_cases q2 : s.drop kt = []
  · rw [if_pos q2, q2]
    have k := sKind_err
    have z : (sKind ([], 0)).2.2 ≠ 0 := by rw [k]; decide
    simp only [sNum_stay z, sInt_stay z, sParts_stay z, sTxt_stay z]
    exact ⟨fun h => absurd h (by decide), fun _ => by rw [k]⟩
  rw [if_neg q2, sKind_ok q2]
  simp only
  rcases hm : num 511 (s.drop kt).tail with ⟨m, s2, em⟩
  simp only
  by_cases q3 : em ≠ 0
  · rw [if_pos q3]
    have k := sNum_err hm q3
    have z : (sNum 511 ((s.drop kt).tail, 0)).2.2 ≠ 0 := by rw [k]; exact q3
    simp only [sNum_stay z, sInt_stay z, sParts_stay z, sTxt_stay z]
    exact ⟨fun h => absurd h q3, fun _ => by rw [k]⟩
  obtain rfl := Decidable.not_not.mp q3
  rw [if_neg q3, sNum_ok hm]
  simp only
  rcases hi : Nm.getI s2 with ⟨i, ki, ei⟩
  simp only
  by_cases q4 : ei ≠ 0
  · rw [if_pos q4]
    have k := sInt_err hi q4
    have z : (sInt (s2, 0)).2.2 ≠ 0 := by rw [k]; exact q4
    simp only [sNum_stay z, sParts_stay z, sTxt_stay z]
    exact ⟨fun h => absurd h q4, fun _ => by rw [k]⟩
  obtain rfl := Decidable.not_not.mp q4
  rw [if_neg q4, sInt_ok hi]
  simp only
  rcases hz : num 4096 (s2.drop ki) with ⟨z, s3, ez⟩
  simp only
  by_cases q5 : ez ≠ 0
  · rw [if_pos q5]
    have k := sNum_err hz q5
    have z : (sNum 4096 (s2.drop ki, 0)).2.2 ≠ 0 := by rw [k]; exact q5
    simp only [sParts_stay z, sTxt_stay z]
    exact ⟨fun h => absurd h q5, fun _ => by rw [k]⟩
  obtain rfl := Decidable.not_not.mp q5
  rw [if_neg q5, sNum_ok hz]
  simp only
  rcases hp : num 300 s3 with ⟨p, s4, ep⟩
  simp only
  by_cases q6 : ep ≠ 0
  · rw [if_pos q6]
    have k := sNum_err hp q6
    have z : (sParts (s3, 0)).2 = (s3, ep) := by
      unfold sParts
      rw [sIds_stay (by rw [k]; exact q6), k]
    have z2 : (sParts (s3, 0)).2.2 ≠ 0 := by rw [z]; exact q6
    simp only [sTxt_stay z2]
    exact ⟨fun h => absurd h q6, fun _ => by rw [z]⟩
  obtain rfl := Decidable.not_not.mp q6
  rw [if_neg q6]
  have hsp : sParts (s3, 0) = sIds p (s4, 0) := by unfold sParts; rw [sNum_ok hp]
  rw [hsp]
  by_cases q7 : s4.length < 8 * p
  · rw [if_pos q7]
    have k := sIds_err q7
    have z : (sIds p (s4, 0)).2.2 ≠ 0 := by rw [k]; decide
    simp only [sTxt_stay z]
    exact ⟨fun h => absurd h (by decide), fun _ => k⟩
  rw [if_neg q7, sIds_ok (by omega)]
  simp only
  rcases hk : Nm.getT (s4.drop (8 * p)) with ⟨k, kk, ek⟩
  simp only
  by_cases q8 : ek ≠ 0
  · rw [if_pos q8]
    have k := sTxt_err hk q8
    exact ⟨fun h => absurd h q8, fun _ => by rw [k]⟩
  obtain rfl := Decidable.not_not.mp q8
  rw [if_neg q8, sTxt_ok hk]
  exact ⟨fun _ => rfl, fun h => absurd rfl h⟩
theorem sAll_rd (s : Bs) (m : Nat) : ∀ j, j ≤ m → ((sAll j (s, 0)).2.2 = 0 → rdAll m s [] = rdAll (m - j) (sAll j (s, 0)).2.1 (sAll j (s, 0)).1) ∧ ((sAll j (s, 0)).2.2 ≠ 0 → rdAll m s [] = ([], (sAll j (s, 0)).2.2))
  | 0, _ => ⟨fun _ => rfl, fun h => absurd rfl h⟩
  | j + 1, hj => by
    obtain ⟨i1, i2⟩ := sAll_rd s m j (by omega)
    have e2 : (sAll (j + 1) (s, 0)).2 = (sNode (sAll j (s, 0)).2).2 := rfl
    have e1 : (sAll (j + 1) (s, 0)).1 = (sAll j (s, 0)).1 ++ [(sNode (sAll j (s, 0)).2).1] := rfl
    rw [e2, e1]
    generalize sAll j (s, 0) = A at *
    obtain ⟨L, r, e⟩ := A
    simp only at i1 i2 ⊢
    by_cases he : e ≠ 0
    · rw [sNode_stay (x := (r, e)) he]
      exact ⟨fun h => absurd h he, fun _ => i2 he⟩
    obtain rfl := Decidable.not_not.mp he
    rw [i1 rfl, show m - j = (m - (j + 1)) + 1 from by omega, rdAll]
    obtain ⟨n1, n2⟩ := sNode_rd r
    by_cases h1 : (rdOne r).2.2 = 0
    · rw [n1 h1]
      simp only
      rw [if_neg (fun k => k h1)]
      exact ⟨fun _ => rfl, fun h => absurd rfl h⟩
    · rw [n2 h1]
      exact ⟨fun h => absurd h h1, fun _ => by rw [if_pos h1]⟩
theorem read_st {s : Bs} (h : ¬ 4096 < s.length) {L : List Nd} {r : Bs} {e : Int} (hA : sAll (sNum 64 (s, 0)).1 (sNum 64 (s, 0)).2 = (L, (r, e))) :
    read s = if e ≠ 0 then ([], e) else if r ≠ [] then ([], 4) else if check L ≠ 0 then ([], check L) else (L, 0) := by
  unfold read
  rw [if_neg h]
  rcases hg : num 64 s with ⟨n, k, eg⟩
  simp only
  by_cases hq : eg ≠ 0
  · rw [if_pos hq]
    have z := sNum_err hg hq
    have y := sAll_stay (x := (sNum 64 (s, 0)).2) (by rw [z]; exact hq) (sNum 64 (s, 0)).1
    rw [hA, z] at y
    obtain rfl : e = eg := congrArg (fun q => q.2) y
    rw [if_pos hq]
  · rw [if_neg hq]
    obtain rfl := Decidable.not_not.mp hq
    rw [sNum_ok hg] at hA
    obtain ⟨a1, a2⟩ := sAll_rd k n n (Nat.le_refl _)
    simp only at hA
    rw [hA] at a1 a2
    simp only at a1 a2
    by_cases he : e ≠ 0
    · rw [if_pos he, a2 he]
    · rw [if_neg he, a1 (Decidable.not_not.mp he), Nat.sub_self, rdAll]
theorem tk_len (k : Nat) (e : Int) (x : St) : (tk k e x).2.1.length ≤ x.1.length := by
  unfold tk; split
  · exact Nat.le_refl _
  · split
    · exact Nat.le_refl _
    · simp
theorem tk_true {k : Nat} {e : Int} {x : St} (h : (tk k e x).1 = true) : x.2 = 0 ∧ e = 0 := by
  unfold tk at h
  split at h
  · cases h
  · rename_i q
    split at h
    · cases h
    · rename_i q2
      exact ⟨Decidable.not_not.mp q, Decidable.not_not.mp q2⟩
theorem sNum_most (m : Nat) (x : St) : (sNum m x).1 ≤ m := by
  unfold sNum
  simp only
  split
  · rename_i h
    have := (tk_true h).2
    unfold nuE at this
    split at this
    · cases this
    · rename_i q
      by_cases h2 : m < (Nm.getN x.1).1
      · exact absurd ⟨this, h2⟩ q
      · omega
  · exact Nat.zero_le _
theorem sNum_len (m : Nat) (x : St) : (sNum m x).2.1.length ≤ x.1.length := tk_len _ _ _
theorem sInt_len (x : St) : (sInt x).2.1.length ≤ x.1.length := tk_len _ _ _
theorem sTxt_len (x : St) : (sTxt x).2.1.length ≤ x.1.length := tk_len _ _ _
theorem sByt_len (k : Nat) (x : St) : (sByt k x).2.1.length ≤ x.1.length := tk_len _ _ _
theorem sKind_len (x : St) : (sKind x).2.1.length ≤ x.1.length := tk_len _ _ _
theorem sIds_len (x : St) : ∀ j, (sIds j x).2.1.length ≤ x.1.length
  | 0 => Nat.le_refl _
  | j + 1 => Nat.le_trans (sByt_len 8 _) (sIds_len x j)
theorem sParts_len (x : St) : (sParts x).2.1.length ≤ x.1.length := Nat.le_trans (sIds_len _ _) (sNum_len _ _)
theorem sInt_bd (x : St) : -9223372036854775808 ≤ (sInt x).1 ∧ (sInt x).1 ≤ 9223372036854775807 := by
  unfold sInt
  simp only
  split
  · rename_i h
    rcases hg : Nm.getI x.1 with ⟨i, k, e⟩
    rw [hg] at h
    have he := (tk_true h).2
    simp only at he
    subst he
    obtain ⟨_, a, b, _⟩ := Nm.getI_one hg
    exact ⟨a, b⟩
  · exact ⟨by decide, by decide⟩
theorem sTxt_bd (x : St) : (sTxt x).1.length ≤ 1024 := by
  unfold sTxt
  simp only
  split
  · rename_i h
    rcases hg : Nm.getT x.1 with ⟨t, k, e⟩
    rw [hg] at h
    have he := (tk_true h).2
    simp only at he
    subst he
    exact (Nm.getT_one hg).2.1
  · simp
theorem sByt_bd (k : Nat) (x : St) : (sByt k x).1.length ≤ k := by
  unfold sByt
  simp only
  split
  · rw [List.length_take]; omega
  · simp
theorem eight_len {s : Bs} (h : s.length ≤ 8) : (eight s).length = 8 := by unfold eight; rw [List.length_append, List.length_replicate]; omega
theorem sIds_bd (x : St) : ∀ j, (sIds j x).1.length = j ∧ ∀ p ∈ (sIds j x).1, p.length = 8
  | 0 => ⟨rfl, fun p h => absurd h List.not_mem_nil⟩
  | j + 1 => by
    obtain ⟨a, b⟩ := sIds_bd x j
    refine ⟨by show ((sIds j x).1 ++ [_]).length = _; rw [List.length_append, a]; rfl, fun p hp => ?_⟩
    rcases List.mem_append.1 (show p ∈ (sIds j x).1 ++ [eight (sByt 8 (sIds j x).2).1] from hp) with h | h
    · exact b p h
    · rw [List.mem_singleton.1 h]; exact eight_len (sByt_bd _ _)
theorem sParts_bd (x : St) : (sParts x).1.length ≤ 300 ∧ ∀ p ∈ (sParts x).1, p.length = 8 := by
  obtain ⟨a, b⟩ := sIds_bd (sNum 300 x).2 (sNum 300 x).1
  exact ⟨by show (sIds _ _).1.length ≤ _; rw [a]; exact sNum_most _ _, b⟩
theorem sKind_bd (x : St) : (sKind x).1 ≤ 255 := by
  unfold sKind
  simp only
  have := ((sByt 1 x).1.headD 0).toNat_lt
  omega
theorem sNode_len (x : St) : (sNode x).2.1.length ≤ x.1.length := by
  unfold sNode
  simp only
  exact Nat.le_trans (sTxt_len _) (Nat.le_trans (sParts_len _) (Nat.le_trans (sNum_len _ _) (Nat.le_trans (sInt_len _) (Nat.le_trans (sNum_len _ _) (Nat.le_trans (sKind_len _) (sTxt_len _))))))
theorem sAll_len (x : St) : ∀ j, (sAll j x).2.1.length ≤ x.1.length ∧ (sAll j x).1.length = j
  | 0 => ⟨Nat.le_refl _, rfl⟩
  | j + 1 => by
    obtain ⟨a, b⟩ := sAll_len x j
    refine ⟨Nat.le_trans (sNode_len _) a, ?_⟩
    show ((sAll j x).1 ++ [_]).length = _
    rw [List.length_append, b]
    rfl
end Td
end Go.Proofs.YthpcbbkpjggjbaaGreatDoor
namespace Go.Proofs.YthpcbbkpjggjbaaGreatDoor
open Go.RowKit
set_option maxRecDepth 4000
def Td.Bad (n : Td.Nd) : Prop := (n.kind = 1 ∧ n.link ≠ []) ∨ (1 < n.kind ∧ n.size ≠ 0) ∨ (n.kind = 2 ∧ (n.parts.length ≠ 1 ∨ n.link ≠ [])) ∨ (n.kind = 3 ∧ (n.parts.length ≠ 0 ∨ n.link = []))
theorem upto_any (n m : Int) (b : Bool) (w : World) (hb : decide (0 ≤ n ∧ n ≤ m) = b) : Calls Tryz.prog 95 #[.int .i64 n, .int .i64 m] w fun e w' => e = .returned (.bool b) ∧ w' = w := by
  by_cases h0 : 0 ≤ n
  · by_cases h1 : n ≤ m
    · obtain rfl : b = true := by rw [← hb]; exact decide_eq_true ⟨h0, h1⟩
      clear hb
      go_enter Tryz.func95, Tryz.ntmps95
      go_wp2_with fail
      go_ret
      exact ⟨rfl, rfl⟩
    · obtain rfl : b = false := by rw [← hb]; exact decide_eq_false (fun q => h1 q.2)
      clear hb
      go_enter Tryz.func95, Tryz.ntmps95
      go_wp2_with fail
      go_ret
      exact ⟨rfl, rfl⟩
  · obtain rfl : b = false := by rw [← hb]; exact decide_eq_false (fun q => h0 q.1)
    clear hb
    go_enter Tryz.func95, Tryz.ntmps95
    go_wp2_with fail
    go_ret
    exact ⟨rfl, rfl⟩
theorem iskind_any (n : Int) (b : Bool) (w : World) (hb : decide (1 ≤ n ∧ n ≤ 3) = b) : Calls Tryz.prog 96 #[.int .i64 n] w fun e w' => e = .returned (.bool b) ∧ w' = w := by
  subst hb
  by_cases h1 : n = 1
  · subst h1
    go_enter Tryz.func96, Tryz.ntmps96
    go_wp2_with fail
    go_ret
    exact ⟨by simp, rfl⟩
  by_cases h2 : n = 2
  · subst h2
    go_enter Tryz.func96, Tryz.ntmps96
    go_wp2_with fail
    go_ret
    exact ⟨by simp, rfl⟩
  by_cases h3 : n = 3
  · subst h3
    go_enter Tryz.func96, Tryz.ntmps96
    go_wp2_with fail
    go_ret
    exact ⟨by simp, rfl⟩
  have q1 : (n == 1) = false := beq_eq_false_iff_ne.2 h1
  have q2 : (n == 2) = false := beq_eq_false_iff_ne.2 h2
  have q3 : (n == 3) = false := beq_eq_false_iff_ne.2 h3
  have hr : decide (1 ≤ n ∧ n ≤ 3) = false := decide_eq_false (by omega)
  rw [hr]
  clear hr h1 h2 h3
  go_enter Tryz.func96, Tryz.ntmps96
  go_wp2_with fail
  go_ret
  exact ⟨by simp, rfl⟩
set_option maxHeartbeats 2000000 in
set_option maxRecDepth 10000 in
theorem asks_any (n : Nod) (a : Option Addr) (c : Nat) (b : Bool) (w : World) (hk : n.kind = 1 ∨ n.kind = 2 ∨ n.kind = 3) (hb : b = true ↔ ¬ Td.Bad n.nd) :
    Calls Tryz.prog 97 #[ndV n (.slice a n.parts.length c)] w fun e w' => e = .returned (.bool b) ∧ Below w.heap.size w w' := by
  unfold Td.Bad at hb
  have HBd : Hid (b = true ↔ ¬ ((n.kind = 1 ∧ n.link.data.toList ≠ []) ∨ (1 < n.kind ∧ n.size ≠ 0) ∨ (n.kind = 2 ∧ (n.parts.length ≠ 1 ∨ n.link.data.toList ≠ [])) ∨ (n.kind = 3 ∧ (n.parts.length ≠ 0 ∨ n.link.data.toList = [])))) := hb
  have HF : ∀ {P : Prop}, (b = true ↔ ¬ P) → P → b = false := fun h p => by cases b with | false => rfl | true => exact absurd p (h.1 rfl)
  obtain ⟨W1, hW1⟩ : ∃ W1, W1 = w.alloc (.cells (ndC n (.slice a n.parts.length c)).toArray 104) := ⟨_, rfl⟩
  have HB : Hid (Below w.heap.size w W1) := by rw [hW1]; exact (Below.refl _ w).alloc (Nat.le_refl _) _
  have HM1 : Hid (W1.heap[w.heap.size]? = some (.cells (ndC n (.slice a n.parts.length c)).toArray 104 (0, 0))) := by rw [hW1]; exact heap_alloc_new w _
  clear hb
  generalize n.parts.length = P at *
  obtain ⟨name, kind, mode, time, size, parts, link⟩ := n
  dsimp only at *
  go_enter Tryz.func97, Tryz.ntmps97
  go_upto_region 1 with fail
  rw [← hW1]
  obtain ⟨m0, m1, m2, m3, m4, m5, m6⟩ := seven_at HM1.out
  clear hW1 HM1 m0 m2 m3
  obtain ⟨bk, hbk⟩ : ∃ bk, bk = w.heap.size := ⟨_, rfl⟩
  rw [← hbk] at m1 m4 m5 m6 ⊢
  clear hbk
  obtain rfl | rfl | rfl : kind = 1 ∨ kind = 2 ∨ kind = 3 := by omega
  · by_cases hl : link.data.toList = []
    · obtain rfl := of_data hl
      have HR : Hid (b = true) := HBd.out.2 (by simp)
      clear HBd HF
      go_wp2_with fail
      go_ret
      exact ⟨by rw [HR.out]; rfl, HB.out⟩
    · have e1 : (link.toList == []) = false := data_ne hl
      have HR : Hid (b = false) := HF HBd.out (.inl ⟨rfl, hl⟩)
      clear HBd HF
      go_wp2_with fail
      go_ret
      exact ⟨by rw [HR.out]; rfl, HB.out⟩
  · by_cases hz : size = 0
    · subst hz
      by_cases hp : P = 1
      · subst hp
        by_cases hl : link.data.toList = []
        · obtain rfl := of_data hl
          have HR : Hid (b = true) := HBd.out.2 (by simp)
          clear HBd HF
          go_wp2_with fail
          go_ret
          exact ⟨by rw [HR.out]; rfl, HB.out⟩
        · have e1 : (link.toList == []) = false := data_ne hl
          have HR : Hid (b = false) := HF HBd.out (.inr (.inr (.inl ⟨rfl, .inr hl⟩)))
          clear HBd HF
          go_wp2_with fail
          go_ret
          exact ⟨by rw [HR.out]; rfl, HB.out⟩
      · have gp : ((P : Int) == 1) = false := by rw [beq_eq_false_iff_ne]; omega
        have HR : Hid (b = false) := HF HBd.out (.inr (.inr (.inl ⟨rfl, .inl hp⟩)))
        clear HBd HF hp
        go_wp2_with fail
        go_ret
        exact ⟨by rw [HR.out]; rfl, HB.out⟩
    · have gz : (size == 0) = false := by rw [beq_eq_false_iff_ne]; exact hz
      have HR : Hid (b = false) := HF HBd.out (.inr (.inl ⟨by omega, hz⟩))
      clear HBd HF hz
      go_wp2_with fail
      go_ret
      exact ⟨by rw [HR.out]; rfl, HB.out⟩
  · by_cases hz : size = 0
    · subst hz
      by_cases hp : P = 0
      · subst hp
        by_cases hl : link.data.toList = []
        · obtain rfl := of_data hl
          have HR : Hid (b = false) := HF HBd.out (.inr (.inr (.inr ⟨rfl, .inr hl⟩)))
          clear HBd HF
          go_wp2_with fail
          go_ret
          exact ⟨by rw [HR.out]; rfl, HB.out⟩
        · have e1 : (link.toList == []) = false := data_ne hl
          have HR : Hid (b = true) := HBd.out.2 (by simp [hl])
          clear HBd HF
          go_wp2_with fail
          go_ret
          exact ⟨by rw [HR.out]; rfl, HB.out⟩
      · have gp : ((P : Int) == 0) = false := by rw [beq_eq_false_iff_ne]; omega
        have HR : Hid (b = false) := HF HBd.out (.inr (.inr (.inr ⟨rfl, .inl hp⟩)))
        clear HBd HF hp
        go_wp2_with fail
        go_ret
        exact ⟨by rw [HR.out]; rfl, HB.out⟩
    · have gz : (size == 0) = false := by rw [beq_eq_false_iff_ne]; exact hz
      have HR : Hid (b = false) := HF HBd.out (.inr (.inl ⟨by omega, hz⟩))
      clear HBd HF hz
      go_wp2_with fail
      go_ret
      exact ⟨by rw [HR.out]; rfl, HB.out⟩
set_option maxHeartbeats 2000000 in
set_option maxRecDepth 10000 in
theorem cnode_any (n : Nod) (a : Option Addr) (c : Nat) (w : World) (hn : n.name.size ≤ 9223372036854775807) (hl : n.link.size ≤ 9223372036854775807) (hT : Tabs w) :
    Calls Tryz.prog 77 #[ndV n (.slice a n.parts.length c)] w fun e w' => e = .returned (.int .i64 (Td.nErr n.nd)) ∧ Below w.heap.size w w' := by
  have HT : Hid (Td.nErr n.nd = if Nn.nm n.name.data.toList ≠ 0 then Nn.nm n.name.data.toList
    else if n.mode < 0 ∨ 511 < n.mode ∨ n.size < 0 ∨ 4096 < n.size ∨ 300 < n.parts.length then 1
    else if n.kind < 1 ∨ 3 < n.kind then 5
    else if (n.kind = 1 ∧ n.link.data.toList ≠ []) ∨ (1 < n.kind ∧ n.size ≠ 0) ∨ (n.kind = 2 ∧ (n.parts.length ≠ 1 ∨ n.link.data.toList ≠ [])) ∨ (n.kind = 3 ∧ (n.parts.length ≠ 0 ∨ n.link.data.toList = [])) then 4
    else if 1024 < n.link.data.toList.length then 2 else 0) := rfl
  obtain ⟨W1, hW1⟩ : ∃ W1, W1 = w.alloc (.cells (ndC n (.slice a n.parts.length c)).toArray 104) := ⟨_, rfl⟩
  have HB1 : Hid (Below w.heap.size w W1) := by rw [hW1]; exact (Below.refl _ w).alloc (Nat.le_refl _) _
  have HM1 : Hid (W1.heap[w.heap.size]? = some (.cells (ndC n (.slice a n.parts.length c)).toArray 104 (0, 0))) := by rw [hW1]; exact heap_alloc_new w _
  have hr := check_any n.name W1 hn (hT.below HB1.out)
  have HAs : Hid (∀ b W, (n.kind = 1 ∨ n.kind = 2 ∨ n.kind = 3) → (b = true ↔ ¬ Td.Bad n.nd) → Calls Tryz.prog 97 #[ndV n (.slice a n.parts.length c)] W fun e w' => e = .returned (.bool b) ∧ Below W.heap.size W w') := fun b W => asks_any n a c b W
  have HBd : Hid (Td.Bad n.nd ↔ ((n.kind = 1 ∧ n.link.data.toList ≠ []) ∨ (1 < n.kind ∧ n.size ≠ 0) ∨ (n.kind = 2 ∧ (n.parts.length ≠ 1 ∨ n.link.data.toList ≠ [])) ∨ (n.kind = 3 ∧ (n.parts.length ≠ 0 ∨ n.link.data.toList = [])))) := Iff.rfl
  generalize Td.nErr n.nd = R at *
  generalize Td.Bad n.nd = BAD at *
  generalize Nn.nm n.name.data.toList = E at *
  generalize n.parts.length = P at *
  obtain ⟨name, kind, mode, time, size, parts, link⟩ := n
  dsimp only at *
  clear hT
  go_enter Tryz.func77, Tryz.ntmps77
  go_upto_region 1 with fail
  rw [← hW1]
  obtain ⟨m0, _⟩ := seven_at HM1.out
  clear hW1
  go_wp2_with fail
  refine hr.mono ?_
  rintro e w2 ⟨rfl, b2⟩
  have HB : Hid (Below w.heap.size w w2) := HB1.out.trans (b2.mono HB1.out.size)
  obtain ⟨m0, m1, m2, m3, m4, m5, m6⟩ := seven_at ((b2.block _ (Array.getElem?_eq_some_iff.1 HM1.out).1).trans HM1.out)
  have HM2 : Hid (w2.heap[w.heap.size]? = some (.cells #[.string name, .int .i64 kind, .int .i64 mode, .int .i64 time, .int .i64 size, .slice a P c, .string link] 104 (0, 0))) := (b2.block _ (Array.getElem?_eq_some_iff.1 HM1.out).1).trans HM1.out
  clear HB1 HM1 hr b2 hn
  obtain ⟨bk, hbk⟩ : ∃ bk, bk = w.heap.size := ⟨_, rfl⟩
  rw [← hbk] at HM2 m0 m1 m2 m3 m4 m5 m6 ⊢
  clear hbk
  by_cases hE : ¬ E = 0
  · have hqn : (E != 0) = true := by rw [bne_iff_ne]; exact hE
    have HR : Hid (R = E) := by
      have := HT.out
      rwa [if_pos hE] at this
    clear HT HAs HBd
    go_wp2_with fail
    go_ret
    exact ⟨by rw [HR.out]; rfl, HB.out⟩
  obtain rfl := Decidable.not_not.mp hE
  clear hE
  rw [if_neg (by simp)] at HT
  by_cases h1 : ¬ (0 ≤ mode ∧ mode ≤ 511)
  · have HR : Hid (R = 1) := by
      have := HT.out
      rwa [if_pos (by omega)] at this
    have k1 : decide (0 ≤ mode ∧ mode ≤ 511) = false := decide_eq_false h1
    clear HT HAs HBd h1
    go_wp2_with (go_at_call 95; refine (upto_any mode 511 false _ k1).mono ?_; rintro e w3 ⟨rfl, rfl⟩)
    go_ret
    exact ⟨by rw [HR.out]; rfl, HB.out⟩
  replace h1 := Decidable.not_not.mp h1
  have k1 : decide (0 ≤ mode ∧ mode ≤ 511) = true := decide_eq_true h1
  by_cases h2 : ¬ (0 ≤ size ∧ size ≤ 4096)
  · have HR : Hid (R = 1) := by
      have := HT.out
      rwa [if_pos (by omega)] at this
    have k2 : decide (0 ≤ size ∧ size ≤ 4096) = false := decide_eq_false h2
    clear HT HAs HBd h1 h2
    go_wp2_with (first | (go_at_call 95; with_reducible refine (upto_any mode 511 true _ k1).mono ?_; rintro e w3 ⟨rfl, hw⟩; obtain rfl := hw.symm) | (go_at_call 95; with_reducible refine (upto_any size 4096 false _ k2).mono ?_; rintro e w3 ⟨rfl, hw⟩; obtain rfl := hw.symm))
    go_ret
    exact ⟨by rw [HR.out]; rfl, HB.out⟩
  replace h2 := Decidable.not_not.mp h2
  have k2 : decide (0 ≤ size ∧ size ≤ 4096) = true := decide_eq_true h2
  by_cases h5 : 300 < P
  · have g5 : (300 : Int) < (P : Int) := by omega
    have HR : Hid (R = 1) := by
      have := HT.out
      rwa [if_pos (by omega)] at this
    clear HT HAs HBd h1 h2
    go_wp2_with (first | (go_at_call 95; with_reducible refine (upto_any mode 511 true _ k1).mono ?_; rintro e w3 ⟨rfl, hw⟩; obtain rfl := hw.symm) | (go_at_call 95; with_reducible refine (upto_any size 4096 true _ k2).mono ?_; rintro e w3 ⟨rfl, hw⟩; obtain rfl := hw.symm))
    go_ret
    exact ⟨by rw [HR.out]; rfl, HB.out⟩
  have g5 : ¬ (300 : Int) < (P : Int) := by omega
  rw [if_neg (by omega)] at HT
  by_cases h3 : ¬ (1 ≤ kind ∧ kind ≤ 3)
  · have HR : Hid (R = 5) := by
      have := HT.out
      rwa [if_pos (by omega)] at this
    have k3 : decide (1 ≤ kind ∧ kind ≤ 3) = false := decide_eq_false h3
    clear HT HAs HBd h1 h2 h3
    go_wp2_with (first | (go_at_call 95; with_reducible refine (upto_any mode 511 true _ k1).mono ?_; rintro e w3 ⟨rfl, hw⟩; obtain rfl := hw.symm) | (go_at_call 95; with_reducible refine (upto_any size 4096 true _ k2).mono ?_; rintro e w3 ⟨rfl, hw⟩; obtain rfl := hw.symm) | (go_at_call 96; refine (iskind_any kind false _ k3).mono ?_; rintro e w3 ⟨rfl, hw⟩; obtain rfl := hw.symm))
    go_ret
    exact ⟨by rw [HR.out]; rfl, HB.out⟩
  replace h3 := Decidable.not_not.mp h3
  have k3 : decide (1 ≤ kind ∧ kind ≤ 3) = true := decide_eq_true h3
  rw [if_neg (by omega)] at HT
  have hk : kind = 1 ∨ kind = 2 ∨ kind = 3 := by omega
  by_cases hb : BAD
  · have HR : Hid (R = 4) := by
      have := HT.out
      rwa [if_pos (HBd.out.1 hb)] at this
    have has := HAs.out false w2 hk (by simp [hb])
    clear HT HAs HBd h1 h2 h3 hk
    go_wp2_with (first | (go_at_call 95; with_reducible refine (upto_any mode 511 true _ k1).mono ?_; rintro e w3 ⟨rfl, hw⟩; obtain rfl := hw.symm) | (go_at_call 95; with_reducible refine (upto_any size 4096 true _ k2).mono ?_; rintro e w3 ⟨rfl, hw⟩; obtain rfl := hw.symm) | (go_at_call 96; refine (iskind_any kind true _ k3).mono ?_; rintro e w3 ⟨rfl, hw⟩; obtain rfl := hw.symm))
    refine has.mono ?_
    rintro e w4 ⟨rfl, b4⟩
    have HB4 : Hid (Below w.heap.size w w4) := HB.out.trans (b4.mono HB.out.size)
    clear has b4
    go_wp2_with fail
    go_ret
    exact ⟨by rw [HR.out]; rfl, HB4.out⟩
  · have HR : Hid (R = if 1024 < link.size then 2 else 0) := by
      have := HT.out
      rwa [if_neg (fun q => hb (HBd.out.2 q)), ← Lib.size_eq] at this
    have has := HAs.out true w2 hk (by simp [hb])
    clear HT HAs HBd h1 h2 h3 hk
    go_wp2_with (first | (go_at_call 95; with_reducible refine (upto_any mode 511 true _ k1).mono ?_; rintro e w3 ⟨rfl, hw⟩; obtain rfl := hw.symm) | (go_at_call 95; with_reducible refine (upto_any size 4096 true _ k2).mono ?_; rintro e w3 ⟨rfl, hw⟩; obtain rfl := hw.symm) | (go_at_call 96; refine (iskind_any kind true _ k3).mono ?_; rintro e w3 ⟨rfl, hw⟩; obtain rfl := hw.symm))
    refine has.mono ?_
    rintro e w4 ⟨rfl, b4⟩
    have HB4 : Hid (Below w.heap.size w w4) := HB.out.trans (b4.mono HB.out.size)
    obtain ⟨_, _, _, _, _, _, n6⟩ := seven_at ((b4.block _ (Array.getElem?_eq_some_iff.1 HM2.out).1).trans HM2.out)
    clear has b4 m0 m1 m2 m3 m4 m5 m6 HM2
    by_cases hL : 1024 < link.size
    · have gL : (1024 : Int) < (link.size : Int) := by omega
      rw [if_pos hL] at HR
      go_wp2_with fail
      go_ret
      exact ⟨by rw [HR.out]; rfl, HB4.out⟩
    · have gL : ¬ (1024 : Int) < (link.size : Int) := by omega
      rw [if_neg hL] at HR
      go_wp2_with fail
      go_ret
      exact ⟨by rw [HR.out]; rfl, HB4.out⟩
theorem tg_irr : ∀ x : List UInt8, Op.bytesLess x x = false
  | [] => rfl
  | a :: x => by rw [Op.bytesLess, tg_irr x]; simp
theorem tg_tri : ∀ x y : List UInt8, Op.bytesLess x y = true → Op.bytesLess y x = false
  | [], [], _ => rfl
  | [], _ :: _, _ => rfl
  | _ :: _, [], h => by cases h
  | a :: x, b :: y, h => by
    rw [Op.bytesLess, Bool.or_eq_true, Bool.and_eq_true] at h
    rw [Op.bytesLess]
    rcases h with h | ⟨h1, h2⟩
    · have q : a < b := of_decide_eq_true h
      have q1 : a.toNat < b.toNat := q
      have q2 : ¬ b < a := fun k => by have k1 : b.toNat < a.toNat := k; omega
      have q3 : (b == a) = false := beq_eq_false_iff_ne.2 fun k => by rw [k] at q1; omega
      rw [q3, decide_eq_false q2]
      rfl
    · obtain rfl : a = b := eq_of_beq h1
      rw [tg_tri x y h2]
      simp
theorem tg_less {s t : ByteArray} (h : Op.bytesLess t.toList s.toList = true) : Op.bytesLess s.toList t.toList = false ∧ (s.toList == t.toList) = false :=
  ⟨tg_tri _ _ h, beq_eq_false_iff_ne.2 fun e => by rw [e, tg_irr] at h; cases h⟩
theorem tg_tot : ∀ x y : List UInt8, Op.bytesLess y x = false → x = y ∨ Op.bytesLess x y = true
  | [], [], _ => .inl rfl
  | [], _ :: _, _ => .inr rfl
  | _ :: _, [], h => by cases h
  | a :: x, b :: y, h => by
    rw [Op.bytesLess, Bool.or_eq_false_iff, Bool.and_eq_false_iff] at h
    rw [Op.bytesLess]
    have q : ¬ b < a := of_decide_eq_false h.1
    by_cases e : a = b
    · subst e
      rcases h.2 with k | k
      · simp at k
      · rcases tg_tot x y k with e | e
        · exact .inl (by rw [e])
        · exact .inr (by rw [e]; simp)
    · refine .inr ?_
      have q1 : ¬ b.toNat < a.toNat := q
      have q2 : a.toNat ≠ b.toNat := fun k => e (UInt8.toNat_inj.1 k)
      have q3 : a < b := show a.toNat < b.toNat by omega
      rw [decide_eq_true q3]
      rfl
theorem tg_more {s t : ByteArray} (h : Op.bytesLess t.toList s.toList = false) : Op.bytesLess s.toList t.toList = true ∨ (Op.bytesLess s.toList t.toList = false ∧ (s.toList == t.toList) = true) := by
  rcases tg_tot _ _ h with e | e
  · exact .inr ⟨by rw [e, tg_irr], by rw [e]; simp⟩
  · exact .inl e
set_option maxHeartbeats 2000000 in
set_option maxRecDepth 10000 in
theorem tcheck_any (v : Value) (l : List Nod) (w : World) (h : Nds w v l) (hl : l.length ≤ 9223372036854775807) (hT : Tabs w) :
    Calls Tryz.prog 63 #[v] w fun e w' => e = .returned (.int .i64 (Td.check (nds l))) ∧ Below w.heap.size w w' := by
  obtain ⟨a, c, rfl⟩ := h.slice
  have HX : Hid (Nds w (.slice a l.length c) l) := h
  have HS0 : Hid (Tabs w) := hT
  have HT : Hid (Td.check (nds l) = if 64 < l.length then 2 else Td.ckB none (nds l)) := by show _ = _; rw [← nds_length l]; rfl
  generalize Td.check (nds l) = R at *
  obtain ⟨N, hN⟩ : ∃ N, N = l.length := ⟨_, rfl⟩
  have HN : Hid (N = l.length) := hN
  rw [← hN] at HX HT hl ⊢
  clear h hT hN
  by_cases h64 : 64 < N
  · have HR : Hid (R = 2) := by
      have := HT.out
      rwa [if_pos h64] at this
    have g : (64 : Int) < (N : Int) := by omega
    clear HT
    go_enter Tryz.func63, Tryz.ntmps63
    go_wp2_with fail
    go_ret
    exact ⟨by rw [HR.out]; rfl, Below.refl _ _⟩
  have HC : Hid (Td.ckB (prv l 0) (nds (l.drop 0)) = R) := by
    have := HT.out
    rw [if_neg h64] at this
    exact this.symm
  have g : ¬ (64 : Int) < (N : Int) := by omega
  clear HT
  go_enter Tryz.func63, Tryz.ntmps63
  go_wp2_with fail
  go_loopw [11] (fun x wr => ∃ k : Nat, k ≤ N ∧ x = .int .i64 k ∧ Hid (Td.ckB (prv l k) (nds (l.drop k)) = R) ∧ Hid (Below w.heap.size w wr)) (fun x _ => N - (intOf x).toNat)
  case atStart => exact ⟨0, by omega, rfl, HC, Below.refl _ _⟩
  case round =>
    clear HC
    obtain ⟨k, hk, rfl, HC, HB⟩ := hrel
    by_cases hlt : k < N
    · have hkl : k < l.length := by rw [← HN.out]; exact hlt
      obtain ⟨bk, o, cs, rfl, hbk, hcl, ⟨v, rfl, hPs, hok⟩, hcell⟩ := (HX.out.below HB.out).get k l[k] (List.getElem?_eq_getElem hkl)
      have hSt := HC.out
      rw [nds_drop l k hkl, Td.ckB_cons] at hSt
      have HSt : Hid ((if Td.nErr l[k].nd ≠ 0 then Td.nErr l[k].nd else if Td.low (prv l k) l[k].name.data.toList = true then 4 else Td.ckB (some l[k].name.data.toList) (nds (l.drop (k + 1)))) = R) := hSt
      have HP1 : Hid (prv l (k + 1) = some l[k].name.data.toList) := by show _ = _; rw [prv, List.getElem?_eq_getElem hkl]; rfl
      have HPk : Hid (∀ j, k = j + 1 → ∃ t : ByteArray, prv l k = some t.data.toList ∧ wr.cell? ⟨bk, o + j * 7, none⟩ = some (.string t)) := fun j hj => by
        subst hj
        obtain ⟨bk', o', cs', e', _, _, ⟨v', rfl, _⟩, hc'⟩ := (HX.out.below HB.out).get j l[j] (List.getElem?_eq_getElem (by omega))
        cases e'
        exact ⟨l[j].name, by rw [prv, List.getElem?_eq_getElem (by omega)]; rfl, hc' 0 _ rfl⟩
      obtain ⟨av, cv, rfl, _⟩ := hPs.slice
      obtain ⟨W1, hW1⟩ : ∃ W1, W1 = wr.alloc (.cells (ndC l[k] (.slice av l[k].parts.length cv)).toArray 104) := ⟨_, rfl⟩
      have hB1 : Below wr.heap.size wr W1 := by rw [hW1]; exact (Below.refl _ wr).alloc (Nat.le_refl _) _
      have HB1 : Hid (Below w.heap.size w W1) := HB.out.trans (hB1.mono HB.out.size)
      have HM1 : Hid (W1.heap[wr.heap.size]? = some (.cells (ndC l[k] (.slice av l[k].parts.length cv)).toArray 104 (0, 0))) := by rw [hW1]; exact heap_alloc_new wr _
      have hne := cnode_any l[k] av cv W1 hok.name hok.link (HS0.out.below HB1.out)
      have c0 : wr.cell? ⟨bk, o + k * 7, none⟩ = some (.string l[k].name) := hcell 0 _ rfl
      have c1 := hcell 1 _ rfl
      have c2 := hcell 2 _ rfl
      have c3 := hcell 3 _ rfl
      have c4 := hcell 4 _ rfl
      have c5 := hcell 5 _ rfl
      have c6 := hcell 6 _ rfl
      generalize Td.nErr l[k].nd = E at *
      generalize l[k] = n at *
      generalize n.parts.length = np at *
      clear hcell hPs hok hcl HC hSt
      obtain ⟨name, kind, mode, time, size, parts, link⟩ := n
      dsimp only at *
      go_upto_region 6 with fail
      rw [← hW1]
      obtain ⟨b7, hb7⟩ : ∃ b7, b7 = wr.heap.size := ⟨_, rfl⟩
      rw [← hb7] at HM1 ⊢
      obtain ⟨m0, m1, m2, m3, m4, m5, m6⟩ := seven_at HM1.out
      clear hW1 c0 c1 c2 c3 c4 c5 c6 hb7
      go_wp2_with fail
      refine hne.mono ?_
      rintro e w3 ⟨rfl, b3⟩
      have HB3 : Hid (Below w.heap.size w w3) := HB1.out.trans (b3.mono HB1.out.size)
      have HP3 : Hid (∀ j, k = j + 1 → ∃ t : ByteArray, prv l k = some t.data.toList ∧ w3.cell? ⟨bk, o + j * 7, none⟩ = some (.string t)) := fun j hj => by
        obtain ⟨t, p1, p2⟩ := HPk.out j hj
        exact ⟨t, p1, (Below.cell (hB1.trans (b3.mono hB1.size)) (p := ⟨bk, o + j * 7, none⟩) hbk).trans p2⟩
      obtain ⟨n0, _⟩ := seven_at ((b3.block _ (Array.getElem?_eq_some_iff.1 HM1.out).1).trans HM1.out)
      clear hne b3 m0 m1 m2 m3 m4 m5 m6 HPk HM1 hB1 HB1
      by_cases hE : E = 0
      · subst hE
        rw [if_neg (by simp)] at HSt
        go_wp2_with fail
        rcases Nat.eq_zero_or_pos k with hk0 | hk0
        · have hd : decide ((0 : Int) < (k : Int)) = false := decide_eq_false (by omega)
          have HS2 : Hid (Td.ckB (prv l (k + 1)) (nds (l.drop (k + 1))) = R) := by
            have := HSt.out
            rw [hk0, prv, Td.low, if_neg (by simp)] at this
            show _ = _
            rw [HP1.out, hk0]
            exact this
          clear HSt HP3 HP1
          go_quiet (fail)
          go_wp2_with fail
          go_roundw
          case measure => simp only [intOf]; omega
          case rel => exact ⟨k + 1, by omega, by go_num, HS2, below_drewN HB3.out _⟩
        · obtain ⟨j, rfl⟩ : ∃ j, k = j + 1 := ⟨k - 1, by omega⟩
          obtain ⟨t, p1, p2⟩ := HP3.out j rfl
          have hd : decide ((0 : Int) < ((j + 1 : Nat) : Int)) = true := decide_eq_true (by omega)
          have hj : j < N := by omega
          have HL : Hid ((if (!Op.bytesLess t.data.toList name.data.toList) = true then 4 else Td.ckB (prv l (j + 1 + 1)) (nds (l.drop (j + 1 + 1)))) = R) := by
            have := HSt.out
            rw [p1, Td.low] at this
            rw [HP1.out]
            exact this
          clear HSt HP3 HP1 p1
          rw [← Lib.toList_data, ← Lib.toList_data] at HL
          cases hbl : Op.bytesLess t.toList name.toList with
          | true =>
            obtain ⟨x1, x2⟩ := tg_less hbl
            have HS2 : Hid (Td.ckB (prv l (j + 1 + 1)) (nds (l.drop (j + 1 + 1))) = R) := by
              have := HL.out
              rwa [hbl, if_neg (by simp)] at this
            clear HL hbl
            go_quiet (fail)
            go_wp2_with fail
            go_roundw
            case measure => simp only [intOf]; omega
            case rel => exact ⟨j + 1 + 1, by omega, by go_num, HS2, below_drewN HB3.out _⟩
          | false =>
            have HR : Hid (R = 4) := by
              have := HL.out
              rw [hbl, if_pos (by rfl)] at this
              exact this.symm
            have hz := tg_more hbl
            clear HL hbl
            rcases hz with hz | ⟨x1, x2⟩
            · go_quiet (fail)
              go_wp2_with fail
              go_ret
              exact ⟨by rw [HR.out]; rfl, below_drewN HB3.out _⟩
            · go_quiet (fail)
              go_wp2_with fail
              go_ret
              exact ⟨by rw [HR.out]; rfl, below_drewN HB3.out _⟩
      · have hqn : (E != 0) = true := by rw [bne_iff_ne]; exact hE
        have HR : Hid (R = E) := by
          have := HSt.out
          rw [if_pos hE] at this
          exact this.symm
        clear HSt
        go_wp2_with fail
        go_ret
        exact ⟨by rw [HR.out]; rfl, HB3.out⟩
    · obtain rfl : k = N := by omega
      have HE : Hid (0 = R) := by
        have := HC.out
        rwa [List.drop_eq_nil_of_le (by rw [HN.out]; exact Nat.le_refl _)] at this
      clear HC
      go_wp2_with fail
      go_ret
      exact ⟨by rw [← HE.out]; rfl, HB.out⟩
end Go.Proofs.YthpcbbkpjggjbaaGreatDoor
namespace Go.Proofs.YthpcbbkpjggjbaaGreatDoor
open Go.RowKit
set_option maxRecDepth 4000
theorem or_byte (m b : Nat) (hb : b < 256) : m * 256 ||| b = m * 256 + b := by
  have := Nat.two_pow_add_eq_or_of_lt (i := 8) (b := b) hb m
  rw [Nat.mul_comm m 256]
  exact this.symm
theorem join_step (m : Nat) (b : UInt8) (t : Int) (hm : m < 72057594037927936) (h0 : 0 ≤ t) (h1 : t ≤ 255) :
    bits .or .u64 (IntKind.u64.wrap ((m : Int) * 256)) (IntKind.u64.wrap (bits .xor .u8 (b.toNat : Int) t)) = ((256 * m + (b ^^^ UInt8.ofNat t.toNat).toNat : Nat) : Int) := by
  obtain ⟨T, rfl⟩ := Int.eq_ofNat_of_zero_le h0
  have hb := b.toNat_lt
  rw [u8_xor_nat _ _ (by omega) (by omega), Int.toNat_natCast, xor_u8 _ _ (by omega)]
  have hx := (b ^^^ UInt8.ofNat T).toNat_lt
  rw [wrap_u64 _ (by omega) (by omega), wrap_u64 _ (by omega) (by omega)]
  rw [show ((m : Int) * 256) = ((m * 256 : Nat) : Int) from by omega, u64_or_nat _ _ (by omega) (by omega), or_byte _ _ (by omega)]
  omega
set_option maxHeartbeats 400000 in
theorem digits_join (s : ByteArray) (t : Int) (w : World) (hl : s.size ≤ 8) (h0 : 0 ≤ t) (h1 : t ≤ 255) :
    Calls Tryz.prog 129 #[.string s, .int .u8 t] w fun e w' => e = .returned (.int .u64 (Nm.val (Nm.tn t.toNat s.data.toList))) ∧ w' = w := by
  go_enter Tryz.func129, Tryz.ntmps129
  go_wp2
  go_loop [5, 6] (fun n i => ∃ k : Nat, k ≤ s.size ∧ i = .int .i64 k ∧ n = .int .u64 (Nm.val (Nm.tn t.toNat (s.data.toList.take k)))) (fun _ i => s.size - (intOf i).toNat)
  case atStart => exact ⟨0, Nat.zero_le _, rfl, by simp [Nm.tn, Nm.val_nil]⟩
  case round =>
    obtain ⟨k, hk, rfl, rfl⟩ := hrel
    by_cases hlt : k < s.size
    · go_wp2
      go_round
      case rel =>
        refine ⟨k + 1, by omega, by go_num, int_eq ?_⟩
        have hv := Nm.val_lt (Nm.tn t.toNat (s.data.toList.take k))
        have hle : (Nm.tn t.toNat (s.data.toList.take k)).length ≤ 7 := by rw [Nm.tn_length]; have := List.length_take_le k s.data.toList; omega
        have hp : 256 ^ (Nm.tn t.toNat (s.data.toList.take k)).length ≤ 256 ^ 7 := Nat.pow_le_pow_right (by omega) hle
        rw [take_snoc s k hlt, Nm.tn_append, Nm.tn, Nm.tn, List.map_cons, List.map_nil, Nm.val_snoc]
        exact join_step _ _ _ (by simp only [Nm.tn] at hv hp ⊢; omega) h0 h1
      case measure => simp [intOf]; omega
    · go_wp2
      go_ret
      exact ⟨ret_int (by rw [List.take_of_length_le (by simp; omega)]), rfl⟩
theorem xor_zero (s : ByteArray) (t : Int) (h : 0 < s.size) (h0 : 0 ≤ t) (h1 : t ≤ 255) : (bits BinOp.xor IntKind.u8 (s[0].toNat : Int) t == 0) = decide (s.data.toList.headD 0 ^^^ UInt8.ofNat t.toNat = 0) := by
  obtain ⟨T, rfl⟩ := Int.eq_ofNat_of_zero_le h0
  have hb := s[0].toNat_lt
  rw [u8_xor_nat _ _ (by omega) (by omega), Int.toNat_natCast, xor_u8 _ _ (by omega)]
  have e : s.data.toList.headD 0 = s[0] := head_byte s h
  rw [e, Bool.eq_iff_iff]
  simp only [beq_iff_eq, decide_eq_true_eq]
  constructor
  · intro h; exact UInt8.toNat_inj.1 (by simpa using h)
  · intro h; rw [h]; rfl
set_option maxHeartbeats 400000 in
theorem digits_read (s : ByteArray) (k t : Int) (w : World) (hs : s.size ≤ 9223372036854775807) (k0 : 0 ≤ k) (k1 : k ≤ 255) (h0 : 0 ≤ t) (h1 : t ≤ 255) :
    Calls Tryz.prog 116 #[.string s, .int .i64 k, .int .u8 t] w fun e w' =>
      e = .returned (.tuple #[.int .u64 (Nm.readN s.data.toList k.toNat t.toNat).1, .int .i64 (Nm.readN s.data.toList k.toNat t.toNat).2]) ∧ w' = w := by
  by_cases h8 : 8 < k
  · have hr : Nm.readN s.data.toList k.toNat t.toNat = (0, 4) := by rw [Nm.readN, if_pos (by omega)]
    rw [hr]
    go_enter Tryz.func116, Tryz.ntmps116
    go_wp2
    go_ret2
    exact ⟨rfl, rfl⟩
  by_cases hk : (s.size : Int) < k
  · have hr : Nm.readN s.data.toList k.toNat t.toNat = (0, 3) := by rw [Nm.readN, if_neg (by omega), if_pos (by simp; omega)]
    rw [hr]
    go_enter Tryz.func116, Tryz.ntmps116
    go_wp2
    go_ret2
    exact ⟨rfl, rfl⟩
  by_cases hz : 0 < k
  · have hp : 0 < s.size := by omega
    have hx := xor_zero s t hp h0 h1
    by_cases hd : s.data.toList.headD 0 ^^^ UInt8.ofNat t.toNat = 0
    · have hr : Nm.readN s.data.toList k.toNat t.toNat = (0, 4) := by rw [Nm.readN, if_neg (by omega), if_neg (by simp; omega), if_pos ⟨by omega, hd⟩]
      rw [hr]
      rw [decide_eq_true hd] at hx
      clear hd hr
      go_enter Tryz.func116, Tryz.ntmps116
      go_wp2
      go_ret2
      exact ⟨rfl, rfl⟩
    · have hr : Nm.readN s.data.toList k.toNat t.toNat = (Nm.val (Nm.tn t.toNat (s.data.toList.take k.toNat)), 0) := by rw [Nm.readN, if_neg (by omega), if_neg (by simp; omega), if_neg (by intro h; exact hd h.2)]
      rw [hr]
      rw [decide_eq_false hd] at hx
      clear hd hr
      go_enter Tryz.func116, Tryz.ntmps116
      go_wp2_with (go_at_call 129; refine (digits_join _ _ _ (by simp; omega) h0 h1).mono ?_; rintro e w' ⟨rfl, rfl⟩)
      go_ret2
      exact ⟨rfl, rfl⟩
  · have hr : Nm.readN s.data.toList k.toNat t.toNat = (Nm.val (Nm.tn t.toNat []), 0) := by rw [Nm.readN, if_neg (by omega), if_neg (by simp; omega), if_neg (by intro h; omega), show k.toNat = 0 from by omega, List.take_zero]
    rw [hr]
    clear hr
    go_enter Tryz.func116, Tryz.ntmps116
    go_wp2_with (go_at_call 129; refine (digits_join _ _ _ (by simp; omega) h0 h1).mono ?_; rintro e w' ⟨rfl, rfl⟩)
    go_ret2
    exact ⟨rfl, rfl⟩
end Go.Proofs.YthpcbbkpjggjbaaGreatDoor
namespace Go.Proofs.YthpcbbkpjggjbaaGreatDoor
open Go.RowKit
set_option maxRecDepth 4000
theorem list_ne (s : ByteArray) (h : 0 < s.size) : s.data.toList ≠ [] := by
  intro e; have := Lib.size_eq s; rw [e] at this; simp only [List.length_nil] at this; omega
theorem tail_data (s : ByteArray) : (s.extract 1 s.size).data.toList = s.data.toList.tail := by
  rw [Lib.extract_data, List.take_of_length_le, List.drop_one]
  rw [List.length_drop, ← Lib.size_eq]
  exact Nat.le_refl _
theorem read_tail (s : ByteArray) (c t : Int) (w : World) (hs : s.size ≤ 9223372036854775807) (k0 : 0 ≤ c) (k1 : c ≤ 255) (h0 : 0 ≤ t) (h1 : t ≤ 255) :
    Calls Tryz.prog 116 #[.string (s.extract 1 s.size), .int .i64 c, .int .u8 t] w fun e w' =>
      e = .returned (.tuple #[.int .u64 (Nm.readN s.data.toList.tail c.toNat t.toNat).1, .int .i64 (Nm.readN s.data.toList.tail c.toNat t.toNat).2]) ∧ w' = w := by
  have h := digits_read (s.extract 1 s.size) c t w (by simp; omega) k0 k1 h0 h1
  rw [tail_data] at h
  exact h
set_option maxHeartbeats 400000 in
theorem get_any (s : ByteArray) (w : World) (hs : s.size ≤ 9223372036854775807) :
    Calls Tryz.prog 102 #[.string s] w fun e w' =>
      e = .returned (.tuple #[.int .u64 (Nm.getN s.data.toList).1, .int .i64 (Nm.getN s.data.toList).2.1, .int .i64 (Nm.getN s.data.toList).2.2]) ∧ w' = w := by
  by_cases h0 : s.size = 0
  · have hr : Nm.getN s.data.toList = (0, 0, 3) := by rw [Nm.getN, if_pos (List.length_eq_zero_iff.1 (by simpa using h0))]
    rw [hr]
    go_enter Tryz.func102, Tryz.ntmps102
    go_wp2
    go_ret3
    exact ⟨rfl, rfl⟩
  · have hp : 0 < s.size := by omega
    have hne := list_ne s hp
    have hb := s[0].toNat_lt
    have hh := head_byte s hp
    have hz : ((s.size : Int) == 0) = false := beq_eq_false_iff_ne.2 (by omega)
    have hg : Nm.getN s.data.toList = if (Nm.readN s.data.toList.tail s[0].toNat 0).2 = 0 then ((Nm.readN s.data.toList.tail s[0].toNat 0).1, 1 + s[0].toNat, (0 : Int)) else ((0 : Nat), (0 : Nat), (Nm.readN s.data.toList.tail s[0].toNat 0).2) := by
      rw [Nm.getN, if_neg hne]; simp only [hh]
    rw [hg]
    clear hg hh hne h0
    generalize hc : s[0] = c at *
    generalize hR : Nm.readN s.data.toList.tail c.toNat 0 = r
    obtain ⟨r1, r2⟩ := r
    have HR : Hid (Nm.readN s.data.toList.tail c.toNat 0 = (r1, r2)) := hR
    clear hR
    by_cases hr : r2 = 0
    · subst hr
      rw [if_pos rfl]
      go_enter Tryz.func102, Tryz.ntmps102
      go_wp2_with fail
      refine (read_tail s _ 0 _ hs (by omega) (by omega) (by omega) (by omega)).mono ?_
      rintro e w' ⟨rfl, rfl⟩
      rw [Int.toNat_natCast, show (0 : Int).toNat = 0 from rfl, HR.out]
      go_wp2
      go_ret3
      exact ⟨rfl, rfl⟩
    · have hq : (r2 != 0) = true := by simpa using hr
      rw [if_neg hr]
      go_enter Tryz.func102, Tryz.ntmps102
      go_wp2_with fail
      refine (read_tail s _ 0 _ hs (by omega) (by omega) (by omega) (by omega)).mono ?_
      rintro e w' ⟨rfl, rfl⟩
      rw [Int.toNat_natCast, show (0 : Int).toNat = 0 from rfl, HR.out]
      go_wp2
      go_ret3
      exact ⟨rfl, rfl⟩
end Go.Proofs.YthpcbbkpjggjbaaGreatDoor
