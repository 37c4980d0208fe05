/-
  What DeltaOwn leans on, part 1.
-/
import Derived.Test.YthpcbbkpjggjbaaGreatDoorZDeltaOwn0
import Derived.Maps.AppendAt
import Derived.Deep.Cut
import Derived.Deep.CutBlock
import Derived.Deep.DeepCutAuto
import Derived.Stop.BytesEq
import Derived.Laws.StructEq
import Derived.WalkSmall
import Derived.Deep.QuietTactic
import Derived.Shelf.Strings.Repeat
import Derived.Laws.IdiomStrings
import Derived.Laws.Cover3
import Derived.OpenShut
import Derived.DataShut
import Derived.WideShapes
import Derived.Deep.Strs
import Derived.Lib.SmallJoins
import Derived.Deep.Slices
import Derived.SizedLaws
import Derived.WideKeyArr2
import Derived.DeepKeys4
import Derived.Maps.OwnSet
import Derived.OwnWalk
import Derived.Lib.LazyBuf
import Derived.RangeFuncNested
import Derived.RangeFuncBound
import Derived.RangeFuncLeaves
import Derived.RangeFuncCalls
import Derived.Shelf.Abstract
import Derived.Shelf.RegionOpen
import Derived.OwnWalkIn
import Derived.TacticsInMore
import Derived.LoopNIn
import Derived.LoopIn

namespace Go.Proofs.YthpcbbkpjggjbaaGreatDoor
open Go.RowKit
theorem info3 {P : Program} {e : TypeId} {z : Option Value} {s b : Nat} (h : (P.info? e).map (fun i => (i.zero, i.size, i.bytes)) = some (z, s, b)) : ∃ i, P.info? e = some i ∧ i.zero = z ∧ i.size = s ∧ i.bytes = b := by
  cases hi : P.info? e with
  | none => rw [hi] at h; cases h
  | some i =>
    rw [hi] at h
    simp only [Option.map_some, Option.some.injEq, Prod.mk.injEq] at h
    exact ⟨i, rfl, h.1, h.2.1, h.2.2⟩
theorem row_more {α : Type} {P : Program} {k by_ : Nat} {C : α → List Value} {T SL : TypeId} {z : Value} (hu : P.underlying SL = some (.slice T)) (hinfo : (P.info? T).map (fun i => (i.zero, i.size, i.bytes)) = some (some z, k, by_)) (hz : z.cells.size = k) (hk : 0 < k)
    (hC : ∀ t, (C t).length = k) (h1 : ∀ t, ∀ u ∈ C t, u.oneCell' = true) (base : Nat) (v : Value) (l : List α) (t : α) (w : World) (h : w.ownsRow base T k v l.length (rowR C l)) (g : Nat) (hg : w.heap[g]? = some (.cells (C t).toArray T (0, 0)))
    (hb : (l.length + 1) * by_ ≤ 140737488355328) (hl : l.length + 1 ≤ 9007199254740992) (hbase : base ≤ w.heap.size) :
    ∃ v' w', (Builtin.append_ #[SL, SL] SL #[v, .slice (some ⟨g, 0, none⟩) 1 1]).run P w = .ok v' w' ∧ w'.ownsRow base T k v' (l ++ [t]).length (rowR C (l ++ [t])) ∧ w.grownBy w' v.ownBlock := by
  obtain ⟨i0, hi, hz0, hz1, hz2⟩ := info3 hinfo
  obtain ⟨v', w', hr, ho, hgr, _⟩ := run_append_own_at (P := P) w base SL SL T i0 z k by_ hu hi hz0 hz1 hz2 hz hk v l.length _ h ⟨g, 0, none⟩ 1 1 (C t) (by rw [hC, Nat.one_mul])
    (fun j u hu => by
      rw [show ((⟨g, 0, none⟩ : Addr).add j) = ⟨g, 0 + j, none⟩ from Addr.add_mid _ _ _, Nat.zero_add, cell_of_row w g j _ _ _ hg]
      simpa using hu)
    (h1 t) (by unfold maxLen; omega) hb hbase
  exact ⟨v', w', hr, own_one_more ho, hgr⟩
theorem wpL_append_run {P : Program} {w : World} {ops : Array Oper} {rest : List Oper} {o : Oper} {a : Act} {Q : Exit → Act → World → Prop} (hw : o.guard = none) (s x : Operand) (t ty : TypeId)
    (ho : o.op = .call { callee := .builtin .append, args := #[s, x], argTypes := #[t, t] }) (hty : o.type = ty) (v u v' : Value) (w' : World) (hs : a.eval s = v) (hx : a.eval x = u)
    (hr : (Builtin.append_ #[t, t] ty #[v, u]).run P w = .ok v' w') (h : wpList P ops Q rest (a.put o.dst v') w') : wpList P ops Q (o :: rest) a w :=
  wpList_plain hw fun K hK => by
    unfold Oper.wp
    simp [execOp, ho, resolve, invoke, builtin, hs, hx, hty, hr, Result.andThen]
    exact hK _ _ h
theorem exec_ld {P : Program} {a : Act} {o : Oper} {W : World} (ty : TypeId) (x : Operand) (ho : o.op = .load ty x) (b q : Nat) (hx : a.eval x = .pointer (some ⟨b, q, none⟩)) (cs : List Value) (d : TypeDesc) (hc : W.rangeAt b q cs)
    (hu : P.underlying ty = some d) (hd : d.isRow = true) (hi : (P.info? ty).map (·.size) = some cs.length) : (execOp a.eval o).run P W = .ok (.value (.agg cs.toArray)) W := by
  unfold execOp
  simp only [ho, hx, Instr.loadAt, Instr.sureAddr, Sem.run_bind, Sem.run_pure, Result.andThen_ok, run_loadVar_mid W b q ty cs d hc hu hd hi]
theorem set_blk {W : World} {M : Nat} {cur : Array Value} {T : TypeId} {fr : Nat × Nat} (h : W.heap[M]? = some (.cells cur T fr)) (j : Nat) (a : Value) :
    (W.setCell ⟨M, j, none⟩ a).heap[M]? = some (.cells (cur.setIfInBounds j a) T fr) := by
  simp [World.setCell, Array.getElem?_modify, h]
theorem sets_blk {M : Nat} {T : TypeId} {fr : Nat × Nat} {post : List Value} : ∀ (vs pre old : List Value) (W : World), W.heap[M]? = some (.cells (pre ++ (old ++ post)).toArray T fr) → old.length = vs.length → (W.setCells M pre.length vs).heap[M]? = some (.cells (pre ++ (vs ++ post)).toArray T fr)
  | [], pre, old, W, h, e => by
    obtain rfl := List.eq_nil_of_length_eq_zero e
    exact h
  | v :: vs, pre, [], W, h, e => by cases e
  | v :: vs, pre, u :: old, W, h, e => by
    have h1 := set_blk h pre.length v
    have h2 : ((pre ++ (u :: old ++ post)).toArray.setIfInBounds pre.length v) = ((pre ++ [v]) ++ (old ++ post)).toArray := by simp
    rw [h2] at h1
    have h3 := sets_blk vs (pre ++ [v]) old _ h1 (by simpa using e)
    rw [List.length_append, List.length_singleton] at h3
    rw [World.setCells, h3]
    simp
theorem blk_range {W : World} {g : Nat} {cs : List Value} {e : TypeId} {fr : Nat × Nat} (h : W.heap[g]? = some (.cells cs.toArray e fr)) : W.rangeAt g 0 cs := fun j v hv => by
  rw [Nat.zero_add, cell_of_row W g j _ _ _ h]
  simpa using hv
theorem blk_there {W : World} {g o k : Nat} {cs : Array Value} {e : TypeId} (h : W.heap[g]? = some (.cells cs e (0, 0))) (ho : o + k ≤ cs.size) : W.there g o k := fun j hj => by
  refine ⟨?_, frozen_of_row W g _ _ _ h⟩
  rw [cell_of_row W g _ _ _ _ h, Array.getElem?_eq_getElem (by omega)]
  rfl
theorem setCells_below {w W : World} {base b o : Nat} (h : Below base w W) (hb : base ≤ b) (vs : List Value) : Below base w (W.setCells b o vs) := by
  induction vs generalizing W o with
  | nil => exact h
  | cons v vs ih => exact ih (h.setCell (p := ⟨b, o, none⟩) hb v)
abbrev prC {α β : Type} (CA : α → List Value) (CB : β → List Value) (a0 : α) (b0 : β) (z : Option α × Option β) : List Value := CA (z.1.getD a0) ++ (CB (z.2.getD b0) ++ [.bool z.1.isSome, .bool z.2.isSome])
abbrev iiC : Option Im × Option Im → List Value := prC imC imC im0 im0
abbrev ieC : Option Im × Option Em → List Value := prC imC emC im0 em0
abbrev eeC : Option Em × Option Em → List Value := prC emC emC em0 em0
abbrev qC {α β : Type} (CA : α → List Value) (CB : β → List Value) (x : α) (y : β) (f g : Bool) : List Value := CA x ++ (CB y ++ [.bool f, .bool g])
structure GA {α β : Type} (CA : α → List Value) (CB : β → List Value) (T : TypeId) (b : Nat) (x : α) (W W' : World) : Prop where
  kept : Kept (fun j => j ≠ b) W W'
  blk : ∀ x0 y0 f g, W.heap[b]? = some (.cells (qC CA CB x0 y0 f g).toArray T (0, 0)) → ∃ x1 f1, (x1 = x0 ∨ x1 = x) ∧ (f = true → f1 = true) ∧ W'.heap[b]? = some (.cells (qC CA CB x1 y0 f1 g).toArray T (0, 0))
structure GB {α β : Type} (CA : α → List Value) (CB : β → List Value) (T : TypeId) (b : Nat) (y : β) (W W' : World) : Prop where
  kept : Kept (fun j => j ≠ b) W W'
  blk : ∀ x0 y0 f g, W.heap[b]? = some (.cells (qC CA CB x0 y0 f g).toArray T (0, 0)) → ∃ y1 g1, (y1 = y0 ∨ y1 = y) ∧ (g = true → g1 = true) ∧ W'.heap[b]? = some (.cells (qC CA CB x0 y1 f g1).toArray T (0, 0))
section
variable {α β : Type} {CA : α → List Value} {CB : β → List Value} {T : TypeId} {b : Nat} {x : α} {y : β}
theorem GA.refl (W : World) : GA CA CB T b x W W := ⟨Kept.refl _ _, fun _ _ _ _ h => ⟨_, _, .inl rfl, id, h⟩⟩
theorem GA.trans (W W' W'' : World) (h : GA CA CB T b x W W') (k : GA CA CB T b x W' W'') : GA CA CB T b x W W'' := ⟨h.kept.trans k.kept, fun x0 y0 f g q => by
  obtain ⟨x1, f1, a1, a2, a3⟩ := h.blk x0 y0 f g q
  obtain ⟨x2, f2, b1, b2, b3⟩ := k.blk x1 y0 f1 g a3
  exact ⟨x2, f2, b1.elim (fun e => by rw [e]; exact a1) .inr, fun e => b2 (a2 e), b3⟩⟩
theorem GA.drew (W : World) : GA CA CB T b x W W.drew := ⟨⟨rfl, rfl, rfl, Nat.le_refl _, fun _ _ _ => rfl⟩, fun _ _ _ _ h => ⟨_, _, .inl rfl, id, h⟩⟩
theorem GB.refl (W : World) : GB CA CB T b y W W := ⟨Kept.refl _ _, fun _ _ _ _ h => ⟨_, _, .inl rfl, id, h⟩⟩
theorem GB.trans (W W' W'' : World) (h : GB CA CB T b y W W') (k : GB CA CB T b y W' W'') : GB CA CB T b y W W'' := ⟨h.kept.trans k.kept, fun x0 y0 f g q => by
  obtain ⟨y1, g1, a1, a2, a3⟩ := h.blk x0 y0 f g q
  obtain ⟨y2, g2, b1, b2, b3⟩ := k.blk x0 y1 f g1 a3
  exact ⟨y2, g2, b1.elim (fun e => by rw [e]; exact a1) .inr, fun e => b2 (a2 e), b3⟩⟩
theorem GB.drew (W : World) : GB CA CB T b y W W.drew := ⟨⟨rfl, rfl, rfl, Nat.le_refl _, fun _ _ _ => rfl⟩, fun _ _ _ _ h => ⟨_, _, .inl rfl, id, h⟩⟩
end
theorem flagA {α β : Type} {CA : α → List Value} {CB : β → List Value} {T : TypeId} {b : Nat} {W : World} {x x' : α} {y : β} {f f' g : Bool} (hA : (CA x).length = (CA x').length) (h : W.heap[b]? = some (.cells (qC CA CB x y f g).toArray T (0, 0))) (k : W.heap[b]? = some (.cells (qC CA CB x' y f' g).toArray T (0, 0))) : f = f' := by
  have e := h.symm.trans k
  simp only [Option.some.injEq, Obj.cells.injEq, and_true] at e
  have e : qC CA CB x y f g = qC CA CB x' y f' g := congrArg Array.toList e
  have e := List.append_cancel_left (List.append_inj_right e hA)
  simpa using e
theorem flagB {α β : Type} {CA : α → List Value} {CB : β → List Value} {T : TypeId} {b : Nat} {W : World} {x : α} {y y' : β} {f g g' : Bool} (hB : (CB y).length = (CB y').length) (h : W.heap[b]? = some (.cells (qC CA CB x y f g).toArray T (0, 0))) (k : W.heap[b]? = some (.cells (qC CA CB x y' f g').toArray T (0, 0))) : g = g' := by
  have e := h.symm.trans k
  simp only [Option.some.injEq, Obj.cells.injEq, and_true] at e
  have e : qC CA CB x y f g = qC CA CB x y' f g' := congrArg Array.toList e
  have e := List.append_inj_right (List.append_cancel_left e) hB
  simpa using e
theorem exec_st {P : Program} {a : Act} {o : Oper} {W : World} (ty : TypeId) (x y : Operand) (ho : o.op = .store ty x y) (b q : Nat) (cells : Array Value) (hx : a.eval x = .pointer (some ⟨b, q, none⟩)) (hy : a.eval y = .agg cells)
    (ht : W.there b q cells.size) (hi : (P.info? ty).map (·.size) = some cells.size) (h1 : cells.all (·.oneCell') = true) : (execOp a.eval o).run P W = .ok .skip (W.setCells b q cells.toList) := by
  unfold execOp
  simp only [ho, hx, hy, Instr.storeAt, Instr.sureAddr, Sem.run_bind, Sem.run_pure, Result.andThen_ok, run_storeVar_mid W b q ty cells ht hi h1]
theorem Kept.sets {p : Nat → Prop} {A B : World} (h : Kept p A B) {g : Nat} (hg : ¬ p g) (o : Nat) (vs : List Value) : Kept p A (B.setCells g o vs) := by
  induction vs generalizing B o with
  | nil => exact h
  | cons v vs ih => exact ih (h.setCell (a := ⟨g, o, none⟩) hg v) (o + 1)
theorem prC_one {α β : Type} {CA : α → List Value} {CB : β → List Value} {a0 : α} {b0 : β} (ha : ∀ t, ∀ u ∈ CA t, u.oneCell' = true) (hb : ∀ t, ∀ u ∈ CB t, u.oneCell' = true) (z : Option α × Option β) : ∀ u ∈ prC CA CB a0 b0 z, u.oneCell' = true := by
  intro u hu
  rcases List.mem_append.1 hu with h | h
  · exact ha _ u h
  · rcases List.mem_append.1 h with h | h
    · exact hb _ u h
    · simp at h
      rcases h with rfl | rfl <;> rfl
end Go.Proofs.YthpcbbkpjggjbaaGreatDoor
namespace Go.Proofs.YthpcbbkpjggjbaaGreatDoor
open Go.RowKit
theorem info_ai : (Tryz.prog.info? 27).map (fun i => (i.zero, i.size, i.bytes)) = some (some (.agg #[.string ⟨#[]⟩, .int .i64 0, .int .i64 0, .int .i64 0, .string ⟨#[]⟩]), 5, 56) := by kernel_rfl
theorem more_ai (base : Nat) (v : Value) (l : List Im) (t : Im) (w : World) (h : w.ownsRow base 27 5 v l.length (rowR imC l)) (g : Nat) (hg : w.heap[g]? = some (.cells (imC t).toArray 27 (0, 0)))
    (hl : l.length < 100000) (hbase : base ≤ w.heap.size) :
    ∃ v' w', (Builtin.append_ #[22, 22] 22 #[v, .slice (some ⟨g, 0, none⟩) 1 1]).run Tryz.prog w = .ok v' w' ∧ w'.ownsRow base 27 5 v' (l ++ [t]).length (rowR imC (l ++ [t])) ∧ w.grownBy w' v.ownBlock :=
  row_more Tryz.underlying22 info_ai rfl (by decide) imC_length imC_one base v l t w h g hg (by omega) (by omega) hbase
theorem info_ae : (Tryz.prog.info? 30).map (fun i => (i.zero, i.size, i.bytes)) = some (some (.agg #[.string ⟨#[]⟩, .bool false, .string ⟨#[]⟩, .int .i64 0, .int .i64 0, .int .i64 0, .string ⟨#[]⟩]), 7, 80) := by kernel_rfl
theorem more_ae (base : Nat) (v : Value) (l : List Em) (t : Em) (w : World) (h : w.ownsRow base 30 7 v l.length (rowR emC l)) (g : Nat) (hg : w.heap[g]? = some (.cells (emC t).toArray 30 (0, 0)))
    (hl : l.length < 100000) (hbase : base ≤ w.heap.size) :
    ∃ v' w', (Builtin.append_ #[23, 23] 23 #[v, .slice (some ⟨g, 0, none⟩) 1 1]).run Tryz.prog w = .ok v' w' ∧ w'.ownsRow base 30 7 v' (l ++ [t]).length (rowR emC (l ++ [t])) ∧ w.grownBy w' v.ownBlock :=
  row_more Tryz.underlying23 info_ae rfl (by decide) emC_length emC_one base v l t w h g hg (by omega) (by omega) hbase
end Go.Proofs.YthpcbbkpjggjbaaGreatDoor
namespace Go.Proofs.YthpcbbkpjggjbaaGreatDoor
open Go.RowKit
set_option maxRecDepth 4000
theorem own_fz {base : Nat} {e : TypeId} {k n c g : Nat} {o : Nat} {xs : List Value} {w : World} (h : w.ownsRow base e k (.slice (some ⟨g, o, none⟩) n c) n xs) : o = 0 ∧ ∀ j, w.frozen? ⟨g, j, none⟩ = false := by
  rcases h.2 with ⟨e, _⟩ | ⟨g', cap, cur, e, _, hh, _⟩
  · cases e
  · cases e
    exact ⟨rfl, fun j => frozen_of_row w _ j _ _ hh⟩
set_option maxHeartbeats 2000000 in
theorem ownItems_any (v : Value) (l : List Im) (w : World) (base : Nat) (h : w.ownsRow base 27 5 v l.length (rowR imC l)) (hok : ∀ x ∈ l, x.Ok) (hl : l.length ≤ 140737488351232) :
    Calls Tryz.prog 29 #[v] w fun e w' => e = .returned (.tuple #[]) ∧ Below w.heap.size w w' := by
  obtain ⟨a, c, rfl⟩ := own_form h
  have HO : Hid (w.ownsRow base 27 5 (.slice a l.length c) l.length (rowR imC l)) := h
  have HK : Hid (∀ x ∈ l, x.Ok) := hok
  obtain ⟨N, hN⟩ : ∃ N, N = l.length := ⟨_, rfl⟩
  have HN : Hid (N = l.length) := hN
  rw [← hN] at hl ⊢
  rw [← hN] at HO
  clear h hok hN
  go_enter Tryz.func29, Tryz.ntmps29
  go_wp2_with fail
  go_loopw [2, 3, 6] (fun _ _ i wr => ∃ k : Nat, k ≤ N ∧ i = .int .i64 k ∧ Hid (Below w.heap.size w wr)) (fun _ _ i _ => N - (intOf i).toNat)
  case atStart => exact ⟨0, by omega, rfl, Below.refl _ _⟩
  case round =>
    obtain ⟨k, hk, rfl, HB⟩ := hrel
    by_cases hlt : k < N
    · obtain ⟨t, ht⟩ : ∃ t, l[k]? = some t := ⟨_, List.getElem?_eq_getElem (by have := HN.out; omega)⟩
      have ho := own_below HO.out HB.out
      have hr : Ims wr (.slice a N c) l := by have := HN.out; subst this; exact Rx.of_own imC_length ho
      obtain ⟨bk, o, rfl, hbk, x0, x1, x2, x3, x4⟩ := hr.item k t ht
      obtain ⟨rfl, hf⟩ := own_fz ho
      rw [Nat.zero_add] at x0 x1 x2 x3 x4
      have hto := HK.out t (List.mem_of_getElem? ht)
      have hown := fun W => ownItem_any t W hto
      have HF : Hid (∀ W, Below wr.heap.size wr W → (∀ j, W.frozen? ⟨bk, j, none⟩ = false) ∧ W.cell? ⟨bk, k * 5, none⟩ = some (.string t.path) ∧ W.cell? ⟨bk, k * 5 + 1, none⟩ = some (.int .i64 t.kind) ∧ W.cell? ⟨bk, k * 5 + 2, none⟩ = some (.int .i64 t.mode) ∧ W.cell? ⟨bk, k * 5 + 3, none⟩ = some (.int .i64 t.time) ∧ W.cell? ⟨bk, k * 5 + 4, none⟩ = some (.string t.bytes)) := fun W hW =>
        ⟨(own_fz (own_below ho hW)).2, (hW.cell (p := ⟨bk, _, none⟩) hbk).trans x0, (hW.cell (p := ⟨bk, _, none⟩) hbk).trans x1, (hW.cell (p := ⟨bk, _, none⟩) hbk).trans x2, (hW.cell (p := ⟨bk, _, none⟩) hbk).trans x3, (hW.cell (p := ⟨bk, _, none⟩) hbk).trans x4⟩
      obtain ⟨tp, tk, tm, tt, tb⟩ := t
      dsimp only at *
      clear hr ho hf hto ht
      obtain ⟨W1, hW1⟩ : ∃ W1, W1 = wr.alloc (.cells #[.string tp, .int .i64 tk, .int .i64 tm, .int .i64 tt, .string tb] 27) := ⟨_, rfl⟩
      have HB1 : Hid (Below wr.heap.size wr W1) := by rw [hW1]; exact (Below.refl _ wr).alloc (Nat.le_refl _) _
      have HM1 : W1.heap[wr.heap.size]? = some (.cells #[.string tp, .int .i64 tk, .int .i64 tm, .int .i64 tt, .string tb] 27 (0, 0)) := by rw [hW1]; exact heap_alloc_new wr _
      go_upto_region 3 with fail
      rw [← hW1]
      obtain ⟨m0, m1, m2, m3, m4, mlt⟩ := five_at HM1
      clear hW1 HM1 x0 x1 x2 x3 x4
      go_wp2_with (refine (hown _).mono ?_; rintro e w2 ⟨rfl, b2⟩; have hB2 := HB1.out.trans (b2.mono HB1.out.size); have HB2 : Hid (Below wr.heap.size wr w2) := hB2; obtain ⟨hf, y0, y1, y2, y3, y4⟩ := HF.out w2 hB2; have f0 := hf (k * 5); have f1 := hf (k * 5 + 1); have f2 := hf (k * 5 + 2); have f3 := hf (k * 5 + 3); have f4 := hf (k * 5 + 4); have s0 := set_same y0; have s1 := set_same y1; have s2 := set_same y2; have s3 := set_same y3; have s4 := set_same y4; clear hown hf b2 hB2 HF HB1)
      have HBr : Hid (Below w.heap.size w w2) := HB.out.trans (HB2.out.mono HB.out.size)
      go_roundw
      case measure => simp only [intOf]; omega
      case rel => exact ⟨k + 1, by omega, by go_num, by first | exact HBr | (rw [s0, s1, s2, s3, s4]; exact HBr)⟩
    · go_wp2_with fail
      go_end0
      exact ⟨rfl, HB.out⟩
set_option maxHeartbeats 4000000 in
theorem ownEdits_any (v : Value) (l : List Em) (w : World) (base : Nat) (h : w.ownsRow base 30 7 v l.length (rowR emC l)) (hok : ∀ x ∈ l, x.Ok) (hl : l.length ≤ 140737488351232) :
    Calls Tryz.prog 25 #[v] w fun e w' => e = .returned (.tuple #[]) ∧ Below w.heap.size w w' := by
  obtain ⟨a, c, rfl⟩ := own_form h
  have HO : Hid (w.ownsRow base 30 7 (.slice a l.length c) l.length (rowR emC l)) := h
  have HK : Hid (∀ x ∈ l, x.Ok) := hok
  obtain ⟨N, hN⟩ : ∃ N, N = l.length := ⟨_, rfl⟩
  have HN : Hid (N = l.length) := hN
  rw [← hN] at hl ⊢
  rw [← hN] at HO
  clear h hok hN
  go_enter Tryz.func25, Tryz.ntmps25
  go_wp2_with fail
  go_loopw [2, 3, 6] (fun _ _ i wr => ∃ k : Nat, k ≤ N ∧ i = .int .i64 k ∧ Hid (Below w.heap.size w wr)) (fun _ _ i _ => N - (intOf i).toNat)
  case atStart => exact ⟨0, by omega, rfl, Below.refl _ _⟩
  case round =>
    obtain ⟨k, hk, rfl, HB⟩ := hrel
    by_cases hlt : k < N
    · obtain ⟨t, ht⟩ : ∃ t, l[k]? = some t := ⟨_, List.getElem?_eq_getElem (by have := HN.out; omega)⟩
      have ho := own_below HO.out HB.out
      have hr : Eds wr (.slice a N c) l := by have := HN.out; subst this; exact Rx.of_own emC_length ho
      obtain ⟨bk, o, rfl, hbk, x0, x1, x2, x3, x4, x5, x6⟩ := hr.edit k t ht
      obtain ⟨rfl, hf⟩ := own_fz ho
      rw [Nat.zero_add] at x0 x1 x2 x3 x4 x5 x6
      have hto := HK.out t (List.mem_of_getElem? ht)
      have hown := fun W => ownItem_any t.item W hto.item
      have hc1 := fun W => clone_any t.path W (by have := hto.path; omega)
      obtain ⟨tp, tg, ⟨ip, ik, im, it, ib⟩⟩ := t
      dsimp only at *
      obtain ⟨W1, hW1⟩ : ∃ W1, W1 = wr.alloc (.cells #[.string tp, .bool tg, .string ip, .int .i64 ik, .int .i64 im, .int .i64 it, .string ib] 30) := ⟨_, rfl⟩
      have HB1 : Hid (Below wr.heap.size wr W1) := by rw [hW1]; exact (Below.refl _ wr).alloc (Nat.le_refl _) _
      have HM1 : W1.heap[wr.heap.size]? = some (.cells #[.string tp, .bool tg, .string ip, .int .i64 ik, .int .i64 im, .int .i64 it, .string ib] 30 (0, 0)) := by rw [hW1]; exact heap_alloc_new wr _
      obtain ⟨XB, hXB⟩ : ∃ XB, XB = wr.heap.size := ⟨_, rfl⟩
      have HF : Hid (∀ W, Gw W1 W → (∀ j, W.frozen? ⟨bk, j, none⟩ = false) ∧ W.cell? ⟨bk, k * 7, none⟩ = some (.string tp) ∧ W.cell? ⟨bk, k * 7 + 2, none⟩ = some (.string ip) ∧ W.cell? ⟨bk, k * 7 + 2 + 1, none⟩ = some (.int .i64 ik) ∧ W.cell? ⟨bk, k * 7 + 2 + 2, none⟩ = some (.int .i64 im) ∧ W.cell? ⟨bk, k * 7 + 2 + 3, none⟩ = some (.int .i64 it) ∧ W.cell? ⟨bk, k * 7 + 2 + 4, none⟩ = some (.string ib)) := fun W hG => by
        have hW : Below wr.heap.size wr W := HB1.out.trans (hG.mono HB1.out.size)
        exact ⟨(own_fz (own_below ho hW)).2, (hW.cell (p := ⟨bk, _, none⟩) hbk).trans x0, (hW.cell (p := ⟨bk, _, none⟩) hbk).trans x2, (hW.cell (p := ⟨bk, _, none⟩) hbk).trans x3, (hW.cell (p := ⟨bk, _, none⟩) hbk).trans x4, (hW.cell (p := ⟨bk, _, none⟩) hbk).trans x5, (hW.cell (p := ⟨bk, _, none⟩) hbk).trans x6⟩
      have HX : Hid (∀ W, Gw W1 W → W.cell? ⟨XB, 0, none⟩ = some (.string tp) ∧ W.cell? ⟨XB, 2, none⟩ = some (.string ip) ∧ W.cell? ⟨XB, 3, none⟩ = some (.int .i64 ik) ∧ W.cell? ⟨XB, 4, none⟩ = some (.int .i64 im) ∧ W.cell? ⟨XB, 5, none⟩ = some (.int .i64 it) ∧ W.cell? ⟨XB, 6, none⟩ = some (.string ib)) := fun W hG => by
        rw [hXB]
        obtain ⟨m0, m1, m2, m3, m4, m5, m6, _⟩ := ed_at ((hG.block _ (Array.getElem?_eq_some_iff.1 HM1).1).trans HM1)
        exact ⟨m0, m2, m3, m4, m5, m6⟩
      clear hr ho hf hto ht
      go_upto_region 3 with fail
      rw [← hW1, ← hXB]
      have HBw : Hid (Below w.heap.size w W1) := HB.out.trans (HB1.out.mono HB.out.size)
      clear hW1 HM1 x0 x1 x2 x3 x4 x5 x6 HB1 hXB HB
      have hkN : (k : Int) < (N : Int) := by omega
      refine wp_region_rel (G := Gw) (W0 := W1) Gw.refl Gw.trans (by kernel_rfl) (by kernel_rfl) (by kernel_rfl) (Below.refl _ W1).drew ?_
      refine .inl ⟨.slice (some ⟨bk, 0, none⟩) N c, fun v W hW hd => step_run (by first | rfl | simp [Region.wanted, yielded]) _ W (by clear hd; go_simp) rfl (Gw.refl _), ?_⟩
      simp only [Act.put, List.setIfInBounds_toArray, List.set_cons_zero, List.set_cons_succ]
      refine .inl ⟨.int .i64 (k : Int), fun v W hW hd => step_run (by first | rfl | simp [Region.wanted, yielded]) _ W (by clear hd; go_simp) rfl (Gw.refl _), ?_⟩
      simp only [Act.put, List.setIfInBounds_toArray, List.set_cons_zero, List.set_cons_succ]
      refine .inl ⟨.slice (some ⟨bk, 0, none⟩) N c, fun v W hW hd => step_run (by first | rfl | simp [Region.wanted, yielded]) _ W (by clear hd; go_simp) rfl (Gw.refl _), ?_⟩
      simp only [Act.put, List.setIfInBounds_toArray, List.set_cons_zero, List.set_cons_succ]
      refine .inl ⟨.int .i64 (k : Int), fun v W hW hd => step_run (by first | rfl | simp [Region.wanted, yielded]) _ W (by clear hd; go_simp) rfl (Gw.refl _), ?_⟩
      simp only [Act.put, List.setIfInBounds_toArray, List.set_cons_zero, List.set_cons_succ]
      refine .inl ⟨.pointer (some ⟨XB, 0, none⟩), fun v W hW hd => step_run (by first | rfl | simp [Region.wanted, yielded]) _ W (by clear hd; go_simp) rfl (Gw.refl _), ?_⟩
      simp only [Act.put, List.setIfInBounds_toArray, List.set_cons_zero, List.set_cons_succ]
      refine .inl ⟨.string tp, fun v W hW hd => step_run (by first | rfl | simp [Region.wanted, yielded]) _ W (by clear hd; have ce := (HX.out W hW).1; go_simp) rfl (Gw.refl _), ?_⟩
      simp only [Act.put, List.setIfInBounds_toArray, List.set_cons_zero, List.set_cons_succ]
      refine .inl ⟨.string tp, fun v W hW hd => step_call (by first | rfl | simp [Region.wanted, yielded]) 41 #[.string tp] (by clear hd; go_simp) ((hc1 W).mono fun e w' h => ⟨_, h.1, rfl, h.2⟩), ?_⟩
      simp only [Act.put, List.setIfInBounds_toArray, List.set_cons_zero, List.set_cons_succ]
      refine .inl ⟨.pointer (some ⟨XB, 2, none⟩), fun v W hW hd => step_run (by first | rfl | simp [Region.wanted, yielded]) _ W (by clear hd; go_simp) rfl (Gw.refl _), ?_⟩
      simp only [Act.put, List.setIfInBounds_toArray, List.set_cons_zero, List.set_cons_succ]
      refine .inl ⟨.agg #[.string ip, .int .i64 ik, .int .i64 im, .int .i64 it, .string ib], fun v W hW hd => step_run (by first | rfl | simp [Region.wanted, yielded]) _ W (by clear hd; obtain ⟨_, ce2, ce3, ce4, ce5, ce6⟩ := HX.out W hW; go_simp) rfl (Gw.refl _), ?_⟩
      simp only [Act.put, List.setIfInBounds_toArray, List.set_cons_zero, List.set_cons_succ]
      refine .inl ⟨.agg #[.string ip, .int .i64 ik, .int .i64 im, .int .i64 it, .string ib], fun v W hW hd => step_call (by first | rfl | simp [Region.wanted, yielded]) 42 #[.agg #[.string ip, .int .i64 ik, .int .i64 im, .int .i64 it, .string ib]] (by clear hd; go_simp) ((hown W).mono fun e w' h => ⟨_, h.1, rfl, h.2⟩), ?_⟩
      simp only [Act.put, List.setIfInBounds_toArray, List.set_cons_zero, List.set_cons_succ]
      refine .inl ⟨.pointer (some ⟨bk, k * 7, none⟩), fun v W hW hd => step_run (by first | rfl | simp [Region.wanted, yielded]) _ W (by clear hd; go_simp) rfl (Gw.refl _), ?_⟩
      simp only [Act.put, List.setIfInBounds_toArray, List.set_cons_zero, List.set_cons_succ]
      refine .inl ⟨.pointer (some ⟨bk, k * 7, none⟩), fun v W hW hd => step_run (by first | rfl | simp [Region.wanted, yielded]) _ W (by clear hd; go_simp) rfl (Gw.refl _), ?_⟩
      simp only [Act.put, List.setIfInBounds_toArray, List.set_cons_zero, List.set_cons_succ]
      refine .inl ⟨undef, fun v W hW hd => step_still rfl W (by clear hd; obtain ⟨hf, y0, y2, y3, y4, y5, y6⟩ := HF.out W hW; have f0 := hf (k * 7); have s0 := set_same y0; clear hf; go_simp) rfl (Gw.refl _), ?_⟩
      simp only [Act.put]
      refine .inl ⟨.pointer (some ⟨bk, k * 7, none⟩), fun v W hW hd => step_run (by first | rfl | simp [Region.wanted, yielded]) _ W (by clear hd; go_simp) rfl (Gw.refl _), ?_⟩
      simp only [Act.put, List.setIfInBounds_toArray, List.set_cons_zero, List.set_cons_succ]
      refine .inl ⟨.pointer (some ⟨bk, k * 7 + 2, none⟩), fun v W hW hd => step_run (by first | rfl | simp [Region.wanted, yielded]) _ W (by clear hd; go_simp) rfl (Gw.refl _), ?_⟩
      simp only [Act.put, List.setIfInBounds_toArray, List.set_cons_zero, List.set_cons_succ]
      refine .inl ⟨undef, fun v W hW hd => step_still rfl W (by clear hd; obtain ⟨hf, y0, y2, y3, y4, y5, y6⟩ := HF.out W hW; have f2 := hf (k * 7 + 2); have f3 := hf (k * 7 + 2 + 1); have f4 := hf (k * 7 + 2 + 2); have f5 := hf (k * 7 + 2 + 3); have f6 := hf (k * 7 + 2 + 4); have s2 := set_same y2; have s3 := set_same y3; have s4 := set_same y4; have s5 := set_same y5; have s6 := set_same y6; clear hf; go_simp) rfl (Gw.refl _), ?_⟩
      simp only [Act.put]
      intro v w3 hW3 hV
      have HB3 : Hid (Below w.heap.size w w3) := HBw.out.trans (Below.mono hW3 HBw.out.size)
      clear hV hW3 hc1 hown HF HX HBw
      go_wp2_with fail
      go_roundw
      case measure => simp only [intOf]; omega
      case rel => exact ⟨k + 1, by omega, by go_num, HB3⟩
    · go_wp2_with fail
      go_end0
      exact ⟨rfl, HB.out⟩
end Go.Proofs.YthpcbbkpjggjbaaGreatDoor
namespace Go.Proofs.YthpcbbkpjggjbaaGreatDoor
open Go.RowKit
set_option maxRecDepth 4000
def lenII : Value → Nat
  | .slice _ n _ => n
  | _ => 0
abbrev sdII : List Im → List Im → List (Option Im × Option Im) := Dl.side (fun x : Im => x.it.path) (fun y : Im => y.it.path)
structure SdII (w : World) (a : List Im) (b : List Im) (p q s : Value) (W : World) (la : List Im) (lb : List Im) (done : List (Option Im × Option Im)) : Prop where
  ra : Ims w p la
  rb : Ims w q lb
  oa : ∀ x ∈ la, x.Ok
  ob : ∀ x ∈ lb, x.Ok
  row : W.ownsRow w.heap.size 63 12 s done.length (rowR iiC done)
  bel : Below w.heap.size w W
  eq : sdII a b = done ++ sdII la lb
  len : done.length + (la.length + lb.length) ≤ a.length + b.length
theorem info_ii : (Tryz.prog.info? 63).map (fun i => (i.zero, i.size, i.bytes)) = some (some (.agg #[.string ⟨#[]⟩, .int .i64 0, .int .i64 0, .int .i64 0, .string ⟨#[]⟩, .string ⟨#[]⟩, .int .i64 0, .int .i64 0, .int .i64 0, .string ⟨#[]⟩, .bool false, .bool false]), 12, 120) := by kernel_rfl
theorem iiC_len (z : Option Im × Option Im) : (iiC z).length = 12 := by rfl
theorem iiC_one (z : Option Im × Option Im) : ∀ u ∈ iiC z, u.oneCell' = true := prC_one imC_one imC_one z
theorem setA_ii {W : World} {b : Nat} {x0 : Im} {y0 : Im} {f g : Bool} {xp xb : ByteArray} {xk xm xt : Int} (h : W.heap[b]? = some (.cells (qC imC imC x0 y0 f g).toArray 63 (0, 0))) : (W.setCells b 0 (imC ⟨xp, xk, xm, xt, xb⟩)).heap[b]? = some (.cells (qC imC imC ⟨xp, xk, xm, xt, xb⟩ y0 f g).toArray 63 (0, 0)) := by
  exact sets_blk (post := imC y0 ++ [.bool f, .bool g]) (imC ⟨xp, xk, xm, xt, xb⟩) [] (imC x0) W h rfl
theorem setB_ii {W : World} {b : Nat} {x0 : Im} {y0 : Im} {f g : Bool} {yp yb : ByteArray} {yk ym yt : Int} (h : W.heap[b]? = some (.cells (qC imC imC x0 y0 f g).toArray 63 (0, 0))) : (W.setCells b 5 (imC ⟨yp, yk, ym, yt, yb⟩)).heap[b]? = some (.cells (qC imC imC x0 ⟨yp, yk, ym, yt, yb⟩ f g).toArray 63 (0, 0)) := by
  exact sets_blk (post := [.bool f, .bool g]) (imC ⟨yp, yk, ym, yt, yb⟩) (imC x0) (imC y0) W h rfl
theorem flgA_ii {W : World} {b : Nat} {x0 : Im} {y0 : Im} {f g : Bool} (h : W.heap[b]? = some (.cells (qC imC imC x0 y0 f g).toArray 63 (0, 0))) : (W.setCell ⟨b, 10, none⟩ (.bool true)).heap[b]? = some (.cells (qC imC imC x0 y0 true g).toArray 63 (0, 0)) := set_blk h 10 (.bool true)
theorem flgB_ii {W : World} {b : Nat} {x0 : Im} {y0 : Im} {f g : Bool} (h : W.heap[b]? = some (.cells (qC imC imC x0 y0 f g).toArray 63 (0, 0))) : (W.setCell ⟨b, 11, none⟩ (.bool true)).heap[b]? = some (.cells (qC imC imC x0 y0 f true).toArray 63 (0, 0)) := set_blk h 11 (.bool true)
theorem more_ii (base : Nat) (v : Value) (l : List (Option Im × Option Im)) (t : Option Im × Option Im) (w : World) (h : w.ownsRow base 63 12 v l.length (rowR iiC l)) (g : Nat) (hg : w.heap[g]? = some (.cells (iiC t).toArray 63 (0, 0)))
    (hl : l.length < 100000) (hbase : base ≤ w.heap.size) :
    ∃ v' w', (Builtin.append_ #[59, 59] 59 #[v, .slice (some ⟨g, 0, none⟩) 1 1]).run Tryz.prog w = .ok v' w' ∧ w'.ownsRow base 63 12 v' (l ++ [t]).length (rowR iiC (l ++ [t])) ∧ w.grownBy w' v.ownBlock :=
  row_more Tryz.underlying59 info_ii rfl (by decide) iiC_len iiC_one base v l t w h g hg (by omega) (by omega) hbase
set_option maxHeartbeats 16000000 in
theorem sideII_any (va vb : Value) (a : List Im) (b : List Im) (w : World) (ha : Ims w va a) (hb : Ims w vb b) (hla : a.length + b.length ≤ 1000) (oa : ∀ x ∈ a, x.Ok) (ob : ∀ x ∈ b, x.Ok) (hT : Tabs w) :
    Calls Tryz.prog 23 #[va, vb, .func (.func 24) #[] #[]] w fun e w' => ∃ v, e = .returned v ∧ w'.ownsRow w.heap.size 63 12 v (sdII a b).length (rowR iiC (sdII a b)) ∧ Below w.heap.size w w' := by
  obtain ⟨sa, sc, rfl, _, _⟩ := ha.slice
  obtain ⟨sb, tc, rfl, _, _⟩ := hb.slice
  have HT : Hid (Tabs w) := hT
  have HL0 : Hid (a.length + b.length ≤ 1000) := hla
  have H0 : Hid (SdII w a b (.slice sa a.length sc) (.slice sb b.length tc) (.slice none 0 0) w a b []) := ⟨ha, hb, oa, ob, World.ownsRow_nil _ _ _ _, Below.refl _ _, rfl, by simp⟩
  generalize hna : a.length = na at *
  generalize hnb : b.length = nb at *
  clear ha hb hla oa ob hT
  go_enter Tryz.func23, Tryz.ntmps23
  go_upto_block 0 with fail
  go_cut [0, 1, 7] from 8 to 51 (fun p q s wx => ∃ la lb done, Hid (SdII w a b p q s wx la lb done) ∧ Hid (la = [] ∨ lb = []))
  case first =>
    go_wp2_with fail
    go_loopw [0, 1, 7] (fun p q s wr => ∃ la lb done, Hid (SdII w a b p q s wr la lb done)) (fun p q _ _ => lenII p + lenII q)
    case atStart => exact ⟨a, b, [], H0⟩
    case round =>
      clear H0
      obtain ⟨la, lb, done, H⟩ := hrel
      cases la with
      | nil =>
        obtain ⟨pa, pc, rfl, _, _⟩ := H.out.ra.slice
        go_wp2_with fail
        go_meet
        exact ⟨[], lb, done, H, .inl rfl⟩
      | cons x la =>
        cases lb with
        | nil =>
          obtain ⟨pa, pc, rfl, _, _⟩ := H.out.ra.slice
          obtain ⟨qa, qc, rfl, _, _⟩ := H.out.rb.slice
          go_wp2_with fail
          go_meet
          exact ⟨x :: la, [], done, H, .inr rfl⟩
        | cons y lb =>
          obtain ⟨pa, pc, rfl, hpc1, hpc2⟩ := H.out.ra.slice
          obtain ⟨qa, qc, rfl, hqc1, hqc2⟩ := H.out.rb.slice
          obtain ⟨bk, o, rfl, hbk, hxa⟩ := H.out.ra.get 0 x rfl
          obtain ⟨bkk, oo, rfl, hbkk, hxb⟩ := H.out.rb.get 0 y rfl
          obtain ⟨va, hva⟩ : ∃ va, va = Value.slice (if pc = 1 then some ⟨bk, o, none⟩ else some ⟨bk, o + 5, none⟩) la.length (pc - 1) := ⟨_, rfl⟩
          obtain ⟨vb, hvb⟩ : ∃ vb, vb = Value.slice (if qc = 1 then some ⟨bkk, oo, none⟩ else some ⟨bkk, oo + 5, none⟩) lb.length (qc - 1) := ⟨_, rfl⟩
          have HRa : Hid (Ims w va la) := by rw [hva]; exact H.out.ra.rest
          have HRb : Hid (Ims w vb lb) := by rw [hvb]; exact H.out.rb.rest
          have HXa : Hid (∀ W, Below wr.heap.size wr W → W.rangeAt bk o (imC x)) := fun W hW r u hu => by
            have h := hxa r u hu
            rw [Nat.zero_mul, Nat.add_zero] at h
            exact ((H.out.bel.trans (hW.mono H.out.bel.size)).cell (p := ⟨bk, _, none⟩) hbk).trans h
          have HXb : Hid (∀ W, Below wr.heap.size wr W → W.rangeAt bkk oo (imC y)) := fun W hW r u hu => by
            have h := hxb r u hu
            rw [Nat.zero_mul, Nat.add_zero] at h
            exact ((H.out.bel.trans (hW.mono H.out.bel.size)).cell (p := ⟨bkk, _, none⟩) hbkk).trans h
          have HCl : Hid (∀ W, Below wr.heap.size wr W → Calls Tryz.prog 24 #[imV x, imV y] W fun e w' => e = .returned (.int .i64 (Dl.cmp x.it.path y.it.path)) ∧ Below W.heap.size W w') := fun W hW => cmpII_any x y W (H.out.oa x List.mem_cons_self) (H.out.ob y List.mem_cons_self) (HT.out.below (H.out.bel.trans (hW.mono H.out.bel.size)))
          obtain ⟨n1, hn1⟩ : ∃ n, n = la.length := ⟨_, rfl⟩
          obtain ⟨n2, hn2⟩ : ∃ n, n = lb.length := ⟨_, rfl⟩
          have HN1 : Hid (n1 = la.length) := hn1
          have HN2 : Hid (n2 = lb.length) := hn2
          rw [List.length_cons, ← hn1] at hpc1 H
          rw [List.length_cons, ← hn2] at hqc1 H
          rw [← hn1] at hva
          rw [← hn2] at hvb
          rw [List.length_cons, ← hn1, List.length_cons, ← hn2]
          have HLa : Hid (lenII va = n1) := by show _ = _; rw [hva]; rfl
          have HLb : Hid (lenII vb = n2) := by show _ = _; rw [hvb]; rfl
          have Hva : Hid (va = Value.slice (if pc = 1 then some ⟨bk, o, none⟩ else some ⟨bk, o + 5, none⟩) n1 (pc - 1)) := hva
          have Hvb : Hid (vb = Value.slice (if qc = 1 then some ⟨bkk, oo, none⟩ else some ⟨bkk, oo + 5, none⟩) n2 (qc - 1)) := hvb
          obtain ⟨C, hC⟩ : ∃ C, C = Dl.cmp x.it.path y.it.path := ⟨_, rfl⟩
          rw [← hC] at HCl
          have HC3 : Hid ((C = 0 ∧ x.it.path = y.it.path) ∨ (C = -1 ∧ x.it.path ≠ y.it.path ∧ (Nn.less x.it.path y.it.path).1 = true) ∨ (C = 1 ∧ x.it.path ≠ y.it.path ∧ (Nn.less x.it.path y.it.path).1 = false)) := by
            show _ ∨ _
            rw [hC]
            unfold Dl.cmp
            by_cases e : x.it.path = y.it.path
            · rw [if_pos e]; exact .inl ⟨rfl, e⟩
            · rw [if_neg e]
              cases k : (Nn.less x.it.path y.it.path).1 with
              | true => exact .inr (.inl ⟨rfl, e, rfl⟩)
              | false => exact .inr (.inr ⟨rfl, e, rfl⟩)
          clear hva hvb hn1 hn2 hC hxa hxb hbk hbkk
          obtain ⟨xp, xk, xm, xt, xb⟩ := x
          obtain ⟨yp, yk, ym, yt, yb⟩ := y
          have hg1 : ((n1 : Int) + 1 > 0) := by omega
          have hg2 : ((n2 : Int) + 1 > 0) := by omega
          obtain ⟨W1, hW1⟩ : ∃ W1, W1 = wr.alloc (.cells #[.string ⟨#[]⟩, .int .i64 0, .int .i64 0, .int .i64 0, .string ⟨#[]⟩, .string ⟨#[]⟩, .int .i64 0, .int .i64 0, .int .i64 0, .string ⟨#[]⟩, .bool false, .bool false] 63) := ⟨_, rfl⟩
          have HBr1 : Hid (Below wr.heap.size wr W1) := by rw [hW1]; exact (Below.refl _ wr).alloc (Nat.le_refl _) _
          have HM1 : Hid (W1.heap[wr.heap.size]? = some (.cells (iiC (none, none)).toArray 63 (0, 0))) := by rw [hW1]; exact heap_alloc_new wr _
          go_upto_region 4 with fail
          rw [← hW1]
          clear hW1
          refine wp_region_rel (G := Gw) (W0 := W1) Gw.refl Gw.trans (by kernel_rfl) (by kernel_rfl) (by kernel_rfl) (Below.refl _ W1).drew ?_
          refine .inl ⟨.func (.func 24) #[] #[], fun v W hW hd => step_run (by first | rfl | simp [Region.wanted, yielded]) _ W (by clear hd; go_simp) rfl (Gw.refl _), ?_⟩
          simp only [Act.put, List.setIfInBounds_toArray, List.set_cons_zero, List.set_cons_succ]
          refine .inl ⟨.slice (some ⟨bk, o, none⟩) (n1 + 1) pc, fun v W hW hd => step_run (by first | rfl | simp [Region.wanted, yielded]) _ W (by clear hd; go_simp) rfl (Gw.refl _), ?_⟩
          simp only [Act.put, List.setIfInBounds_toArray, List.set_cons_zero, List.set_cons_succ]
          refine .inl ⟨.pointer (some ⟨bk, o, none⟩), fun v W hW hd => step_run (by first | rfl | simp [Region.wanted, yielded]) _ W (by clear hd; go_simp) rfl (Gw.refl _), ?_⟩
          simp only [Act.put, List.setIfInBounds_toArray, List.set_cons_zero, List.set_cons_succ]
          refine .inl ⟨.agg #[.string xp, .int .i64 xk, .int .i64 xm, .int .i64 xt, .string xb], fun v W hW hd => step_run rfl _ W (exec_ld 27 (.tmp 24) rfl bk o rfl (imC ⟨xp, xk, xm, xt, xb⟩) _ (HXa.out W (HBr1.out.trans (Below.mono hW HBr1.out.size))) Tryz.underlying27 rfl (by kernel_rfl)) rfl (Gw.refl _), ?_⟩
          simp only [Act.put, List.setIfInBounds_toArray, List.set_cons_zero, List.set_cons_succ]
          refine .inl ⟨.slice (some ⟨bkk, oo, none⟩) (n2 + 1) qc, fun v W hW hd => step_run (by first | rfl | simp [Region.wanted, yielded]) _ W (by clear hd; go_simp) rfl (Gw.refl _), ?_⟩
          simp only [Act.put, List.setIfInBounds_toArray, List.set_cons_zero, List.set_cons_succ]
          refine .inl ⟨.pointer (some ⟨bkk, oo, none⟩), fun v W hW hd => step_run (by first | rfl | simp [Region.wanted, yielded]) _ W (by clear hd; go_simp) rfl (Gw.refl _), ?_⟩
          simp only [Act.put, List.setIfInBounds_toArray, List.set_cons_zero, List.set_cons_succ]
          refine .inl ⟨.agg #[.string yp, .int .i64 yk, .int .i64 ym, .int .i64 yt, .string yb], fun v W hW hd => step_run rfl _ W (exec_ld 27 (.tmp 27) rfl bkk oo rfl (imC ⟨yp, yk, ym, yt, yb⟩) _ (HXb.out W (HBr1.out.trans (Below.mono hW HBr1.out.size))) Tryz.underlying27 rfl (by kernel_rfl)) rfl (Gw.refl _), ?_⟩
          simp only [Act.put, List.setIfInBounds_toArray, List.set_cons_zero, List.set_cons_succ]
          refine .inl ⟨.int .i64 C, fun v W hW hd => step_call (by first | rfl | simp [Region.wanted, yielded]) 24 #[.agg #[.string xp, .int .i64 xk, .int .i64 xm, .int .i64 xt, .string xb], .agg #[.string yp, .int .i64 yk, .int .i64 ym, .int .i64 yt, .string yb]] (by clear hd; go_simp) ((HCl.out W (HBr1.out.trans (Below.mono hW HBr1.out.size))).mono fun e w' h => ⟨_, h.1, rfl, h.2⟩), ?_⟩
          simp only [Act.put, List.setIfInBounds_toArray, List.set_cons_zero, List.set_cons_succ]
          refine .inl ⟨.int .i64 C, fun v W hW hd => step_run (by first | rfl | simp [Region.wanted, yielded]) _ W (by clear hd; go_simp) rfl (Gw.refl _), ?_⟩
          simp only [Act.put, List.setIfInBounds_toArray, List.set_cons_zero, List.set_cons_succ]
          intro v W2 hW2 hV
          have HB2 : Hid (Below wr.heap.size wr W2) := HBr1.out.trans (Below.mono hW2 HBr1.out.size)
          have HM2 : Hid (W2.heap[wr.heap.size]? = some (.cells (iiC (none, none)).toArray 63 (0, 0))) := (Below.block hW2 _ (Array.getElem?_eq_some_iff.1 HM1.out).1).trans HM1.out
          clear hV hW2 HM1 HBr1 HCl
          rcases HC3.out with ⟨rfl, he⟩ | ⟨rfl, hne, hls⟩ | ⟨rfl, hne, hls⟩
          · have HE : Hid ((⟨xp, xk, xm, xt, xb⟩ : Im).it.path = (⟨yp, yk, ym, yt, yb⟩ : Im).it.path) := he
            clear he HC3
            go_upto_region 6 with fail
            have HGa : Hid (∀ W, GA imC imC 63 wr.heap.size ⟨xp, xk, xm, xt, xb⟩ W2 W → W.rangeAt bk o (imC ⟨xp, xk, xm, xt, xb⟩)) := fun W hW => HXa.out W (HB2.out.trans (hW.kept.below HB2.out.size fun q hq e => by omega))
            refine wp_region_rel (G := GA imC imC 63 wr.heap.size ⟨xp, xk, xm, xt, xb⟩) (W0 := W2) GA.refl GA.trans (by kernel_rfl) (by kernel_rfl) (by kernel_rfl) (GA.drew W2) ?_
            refine .inl ⟨.slice (some ⟨bk, o, none⟩) (n1 + 1) pc, fun v W hW hd => step_run (by first | rfl | simp [Region.wanted, yielded]) _ W (by clear hd; go_simp) rfl (GA.refl _), ?_⟩
            simp only [Act.put, List.setIfInBounds_toArray, List.set_cons_zero, List.set_cons_succ]
            refine .inl ⟨.pointer (some ⟨bk, o, none⟩), fun v W hW hd => step_run (by first | rfl | simp [Region.wanted, yielded]) _ W (by clear hd; go_simp) rfl (GA.refl _), ?_⟩
            simp only [Act.put, List.setIfInBounds_toArray, List.set_cons_zero, List.set_cons_succ]
            refine .inl ⟨.agg #[.string xp, .int .i64 xk, .int .i64 xm, .int .i64 xt, .string xb], fun v W hW hd => step_run rfl _ W (exec_ld 27 (.tmp 33) rfl bk o rfl (imC ⟨xp, xk, xm, xt, xb⟩) _ (HGa.out W hW) Tryz.underlying27 rfl (by kernel_rfl)) rfl (GA.refl _), ?_⟩
            simp only [Act.put, List.setIfInBounds_toArray, List.set_cons_zero, List.set_cons_succ]
            refine .inl ⟨.slice (some ⟨bk, o, none⟩) (n1 + 1) pc, fun v W hW hd => step_run (by first | rfl | simp [Region.wanted, yielded]) _ W (by clear hd; go_simp) rfl (GA.refl _), ?_⟩
            simp only [Act.put, List.setIfInBounds_toArray, List.set_cons_zero, List.set_cons_succ]
            refine .inl ⟨va, fun v W hW hd => step_run (by first | rfl | simp [Region.wanted, yielded]) _ W (by clear hd; have hv := Hva.out; have hq : ¬ ((n1 : Int) + 1 < 1) := (by omega); go_simp) rfl (GA.refl _), ?_⟩
            simp only [Act.put, List.setIfInBounds_toArray, List.set_cons_zero, List.set_cons_succ]
            refine .inl ⟨.pointer (some ⟨wr.heap.size, 0, none⟩), fun v W hW hd => step_run (by first | rfl | simp [Region.wanted, yielded]) _ W (by clear hd; go_simp) rfl (GA.refl _), ?_⟩
            simp only [Act.put, List.setIfInBounds_toArray, List.set_cons_zero, List.set_cons_succ]
            refine .inr ⟨fun _ W => ∃ f, W.heap[wr.heap.size]? = some (.cells (qC imC imC ⟨xp, xk, xm, xt, xb⟩ (im0) f false).toArray 63 (0, 0)), fun u W W' hv hg => ?_, fun v W hW hd => ?_, ?_⟩
            · obtain ⟨f, hv⟩ := hv
              obtain ⟨x1, f1, e, _, h⟩ := hg.blk _ _ _ _ hv
              exact ⟨f1, by rw [show x1 = _ from e.elim id id] at h; exact h⟩
            · clear hd
              obtain ⟨x1, f1, _, _, hq⟩ := hW.blk im0 (im0) false false HM2.out
              exact step_still rfl (W.setCells wr.heap.size 0 (imC ⟨xp, xk, xm, xt, xb⟩)) (exec_st 27 (.tmp 37) (.tmp 34) rfl wr.heap.size 0 #[.string xp, .int .i64 xk, .int .i64 xm, .int .i64 xt, .string xb] rfl rfl (blk_there hq (Nat.le_of_ble_eq_true rfl)) (by kernel_rfl) (all_oneCell_toArray (imC_one ⟨xp, xk, xm, xt, xb⟩))) ⟨f1, setA_ii hq⟩ ⟨(Kept.refl _ _).sets (fun e => e rfl) _ _, fun x0 y0 f g h => ⟨_, _, .inr rfl, id, setA_ii h⟩⟩
            simp only [Act.put]
            refine .inl ⟨.pointer (some ⟨wr.heap.size, 10, none⟩), fun v W hW hd => step_run (by first | rfl | simp [Region.wanted, yielded]) _ W (by clear hd; go_simp) rfl (GA.refl _), ?_⟩
            simp only [Act.put, List.setIfInBounds_toArray, List.set_cons_zero, List.set_cons_succ]
            refine .inr ⟨fun _ W => ∃ x0, W.heap[wr.heap.size]? = some (.cells (qC imC imC x0 (im0) true false).toArray 63 (0, 0)), fun u W W' hv hg => ?_, fun v W hW hd => ?_, ?_⟩
            · obtain ⟨x0, hv⟩ := hv
              obtain ⟨x1, f1, _, e, h⟩ := hg.blk _ _ _ _ hv
              exact ⟨x1, by rw [e rfl] at h; exact h⟩
            · clear hd
              obtain ⟨x1, f1, _, _, hq⟩ := hW.blk im0 (im0) false false HM2.out
              have hth := (blk_there (o := 10) (k := 1) hq (Nat.le_of_ble_eq_true rfl)) 0 (by omega)
              have hf1 := hth.2
              obtain ⟨hcv, hf2⟩ := Option.isSome_iff_exists.1 hth.1
              simp only [Nat.add_zero] at hf1 hf2
              exact step_still rfl (W.setCell ⟨wr.heap.size, 10, none⟩ (.bool true)) (by clear hW hq hth; go_simp) ⟨x1, flgA_ii hq⟩ ⟨(Kept.refl _ _).setCell (a := ⟨wr.heap.size, 10, none⟩) (fun e => e rfl) _, fun x0 y0 f g h => ⟨_, _, .inl rfl, fun _ => rfl, flgA_ii h⟩⟩
            simp only [Act.put]
            refine .inl ⟨va, fun v W hW hd => step_run (by first | rfl | simp [Region.wanted, yielded]) _ W (by clear hd; go_simp) rfl (GA.refl _), ?_⟩
            simp only [Act.put, List.setIfInBounds_toArray, List.set_cons_zero]
            intro v W3 hW3 hV
            have h6 : ∃ f, W3.heap[wr.heap.size]? = some (.cells (qC imC imC ⟨xp, xk, xm, xt, xb⟩ (im0) f false).toArray 63 (0, 0)) := hV 6 (by decide)
            have h8 : ∃ x0, W3.heap[wr.heap.size]? = some (.cells (qC imC imC x0 (im0) true false).toArray 63 (0, 0)) := hV 8 (by decide)
            obtain ⟨f6, h6⟩ := h6
            obtain ⟨x8, h8⟩ := h8
            have HM4 : Hid (W3.heap[wr.heap.size]? = some (.cells (qC imC imC ⟨xp, xk, xm, xt, xb⟩ (im0) true false).toArray 63 (0, 0))) := by
              show _ = _
              rw [flagA (by rfl) h6 h8] at h6
              exact h6
            have HB4 : Hid (Below wr.heap.size wr W3) := HB2.out.trans (hW3.kept.below HB2.out.size fun q hq e => by omega)
            clear hV hW3 h6 h8 HGa HM2
            have HM2 := HM4
            have HB2 := HB4
            clear HM4 HB4
            go_upto_region 8 with fail
            have HGb : Hid (∀ W, GB imC imC 63 wr.heap.size ⟨yp, yk, ym, yt, yb⟩ W3 W → W.rangeAt bkk oo (imC ⟨yp, yk, ym, yt, yb⟩)) := fun W hW => HXb.out W (HB2.out.trans (hW.kept.below HB2.out.size fun q hq e => by omega))
            refine wp_region_rel (G := GB imC imC 63 wr.heap.size ⟨yp, yk, ym, yt, yb⟩) (W0 := W3) GB.refl GB.trans (by kernel_rfl) (by kernel_rfl) (by kernel_rfl) (GB.drew W3) ?_
            refine .inl ⟨.slice (some ⟨bkk, oo, none⟩) (n2 + 1) qc, fun v W hW hd => step_run (by first | rfl | simp [Region.wanted, yielded]) _ W (by clear hd; go_simp) rfl (GB.refl _), ?_⟩
            simp only [Act.put, List.setIfInBounds_toArray, List.set_cons_zero, List.set_cons_succ]
            refine .inl ⟨.pointer (some ⟨bkk, oo, none⟩), fun v W hW hd => step_run (by first | rfl | simp [Region.wanted, yielded]) _ W (by clear hd; go_simp) rfl (GB.refl _), ?_⟩
            simp only [Act.put, List.setIfInBounds_toArray, List.set_cons_zero, List.set_cons_succ]
            refine .inl ⟨.agg #[.string yp, .int .i64 yk, .int .i64 ym, .int .i64 yt, .string yb], fun v W hW hd => step_run rfl _ W (exec_ld 27 (.tmp 42) rfl bkk oo rfl (imC ⟨yp, yk, ym, yt, yb⟩) _ (HGb.out W hW) Tryz.underlying27 rfl (by kernel_rfl)) rfl (GB.refl _), ?_⟩
            simp only [Act.put, List.setIfInBounds_toArray, List.set_cons_zero, List.set_cons_succ]
            refine .inl ⟨.slice (some ⟨bkk, oo, none⟩) (n2 + 1) qc, fun v W hW hd => step_run (by first | rfl | simp [Region.wanted, yielded]) _ W (by clear hd; go_simp) rfl (GB.refl _), ?_⟩
            simp only [Act.put, List.setIfInBounds_toArray, List.set_cons_zero, List.set_cons_succ]
            refine .inl ⟨vb, fun v W hW hd => step_run (by first | rfl | simp [Region.wanted, yielded]) _ W (by clear hd; have hv := Hvb.out; have hq : ¬ ((n2 : Int) + 1 < 1) := (by omega); go_simp) rfl (GB.refl _), ?_⟩
            simp only [Act.put, List.setIfInBounds_toArray, List.set_cons_zero, List.set_cons_succ]
            refine .inl ⟨.pointer (some ⟨wr.heap.size, 5, none⟩), fun v W hW hd => step_run (by first | rfl | simp [Region.wanted, yielded]) _ W (by clear hd; go_simp) rfl (GB.refl _), ?_⟩
            simp only [Act.put, List.setIfInBounds_toArray, List.set_cons_zero, List.set_cons_succ]
            refine .inr ⟨fun _ W => ∃ g, W.heap[wr.heap.size]? = some (.cells (qC imC imC ⟨xp, xk, xm, xt, xb⟩ ⟨yp, yk, ym, yt, yb⟩ true g).toArray 63 (0, 0)), fun u W W' hv hg => ?_, fun v W hW hd => ?_, ?_⟩
            · obtain ⟨f, hv⟩ := hv
              obtain ⟨x1, f1, e, _, h⟩ := hg.blk _ _ _ _ hv
              exact ⟨f1, by rw [show x1 = _ from e.elim id id] at h; exact h⟩
            · clear hd
              obtain ⟨x1, f1, _, _, hq⟩ := hW.blk ⟨xp, xk, xm, xt, xb⟩ (im0) true false HM2.out
              exact step_still rfl (W.setCells wr.heap.size 5 (imC ⟨yp, yk, ym, yt, yb⟩)) (exec_st 27 (.tmp 46) (.tmp 43) rfl wr.heap.size 5 #[.string yp, .int .i64 yk, .int .i64 ym, .int .i64 yt, .string yb] rfl rfl (blk_there hq (Nat.le_of_ble_eq_true rfl)) (by kernel_rfl) (all_oneCell_toArray (imC_one ⟨yp, yk, ym, yt, yb⟩))) ⟨f1, setB_ii hq⟩ ⟨(Kept.refl _ _).sets (fun e => e rfl) _ _, fun x0 y0 f g h => ⟨_, _, .inr rfl, id, setB_ii h⟩⟩
            simp only [Act.put]
            refine .inl ⟨.pointer (some ⟨wr.heap.size, 11, none⟩), fun v W hW hd => step_run (by first | rfl | simp [Region.wanted, yielded]) _ W (by clear hd; go_simp) rfl (GB.refl _), ?_⟩
            simp only [Act.put, List.setIfInBounds_toArray, List.set_cons_zero, List.set_cons_succ]
            refine .inr ⟨fun _ W => ∃ y0, W.heap[wr.heap.size]? = some (.cells (qC imC imC ⟨xp, xk, xm, xt, xb⟩ y0 true true).toArray 63 (0, 0)), fun u W W' hv hg => ?_, fun v W hW hd => ?_, ?_⟩
            · obtain ⟨x0, hv⟩ := hv
              obtain ⟨x1, f1, _, e, h⟩ := hg.blk _ _ _ _ hv
              exact ⟨x1, by rw [e rfl] at h; exact h⟩
            · clear hd
              obtain ⟨x1, f1, _, _, hq⟩ := hW.blk ⟨xp, xk, xm, xt, xb⟩ (im0) true false HM2.out
              have hth := (blk_there (o := 11) (k := 1) hq (Nat.le_of_ble_eq_true rfl)) 0 (by omega)
              have hf1 := hth.2
              obtain ⟨hcv, hf2⟩ := Option.isSome_iff_exists.1 hth.1
              simp only [Nat.add_zero] at hf1 hf2
              exact step_still rfl (W.setCell ⟨wr.heap.size, 11, none⟩ (.bool true)) (by clear hW hq hth; go_simp) ⟨x1, flgB_ii hq⟩ ⟨(Kept.refl _ _).setCell (a := ⟨wr.heap.size, 11, none⟩) (fun e => e rfl) _, fun x0 y0 f g h => ⟨_, _, .inl rfl, fun _ => rfl, flgB_ii h⟩⟩
            simp only [Act.put]
            refine .inl ⟨vb, fun v W hW hd => step_run (by first | rfl | simp [Region.wanted, yielded]) _ W (by clear hd; go_simp) rfl (GB.refl _), ?_⟩
            simp only [Act.put, List.setIfInBounds_toArray, List.set_cons_zero, List.set_cons_succ]
            intro v W4 hW3 hV
            have h6 : ∃ g, W4.heap[wr.heap.size]? = some (.cells (qC imC imC ⟨xp, xk, xm, xt, xb⟩ ⟨yp, yk, ym, yt, yb⟩ true g).toArray 63 (0, 0)) := hV 6 (by decide)
            have h8 : ∃ y0, W4.heap[wr.heap.size]? = some (.cells (qC imC imC ⟨xp, xk, xm, xt, xb⟩ y0 true true).toArray 63 (0, 0)) := hV 8 (by decide)
            obtain ⟨f6, h6⟩ := h6
            obtain ⟨x8, h8⟩ := h8
            have HM4 : Hid (W4.heap[wr.heap.size]? = some (.cells (qC imC imC ⟨xp, xk, xm, xt, xb⟩ ⟨yp, yk, ym, yt, yb⟩ true true).toArray 63 (0, 0))) := by
              show _ = _
              rw [flagB (by rfl) h6 h8] at h6
              exact h6
            have HB4 : Hid (Below wr.heap.size wr W4) := HB2.out.trans (hW3.kept.below HB2.out.size fun q hq e => by omega)
            clear hV hW3 h6 h8 HGb HM2
            have HZ : Hid (W4.heap.size = W4.heap.size) := rfl
            obtain ⟨s2, W6, hr6, ho6, hg6⟩ := more_ii w.heap.size u7 done ((some ⟨xp, xk, xm, xt, xb⟩, some ⟨yp, yk, ym, yt, yb⟩) : Option Im × Option Im) (W4.alloc (.cells #[.string xp, .int .i64 xk, .int .i64 xm, .int .i64 xt, .string xb, .string yp, .int .i64 yk, .int .i64 ym, .int .i64 yt, .string yb, .bool true, .bool true] 63)) ((own_below H.out.row HB4.out).alloc _) W4.heap.size (heap_alloc_new W4 _) (by have := HL0.out; have := H.out.len; have := HN1.out; have := HN2.out; simp only [List.length_cons] at *; omega) (by have := H.out.bel.size; have := HB4.out.size; simp; omega)
            have HO6 : Hid (W6.ownsRow w.heap.size 63 12 s2 (done ++ [((some ⟨xp, xk, xm, xt, xb⟩, some ⟨yp, yk, ym, yt, yb⟩) : Option Im × Option Im)]).length (rowR iiC (done ++ [((some ⟨xp, xk, xm, xt, xb⟩, some ⟨yp, yk, ym, yt, yb⟩) : Option Im × Option Im)]))) := ho6
            have HB6 : Hid (Below w.heap.size w W6) := ((H.out.bel.trans (HB4.out.mono H.out.bel.size)).alloc (Nat.le_trans H.out.bel.size HB4.out.size) _).grown hg6 (by have := H.out.bel.size; have := HB4.out.size; simp; omega) fun g hg => (H.out.row.lt g hg).1
            have hrg := blk_range HM4.out
            clear ho6 hg6 HZ
            go_upto_region 9 with fail
            refine wp_region_lit ?_
            refine wpList_plain rfl fun C hC => ?_
            go_simp
            refine hC _ _ ?_
            clear hC C
            refine wpList_load_mid rfl 63 (.tmp 8) rfl wr.heap.size 0 rfl [.string xp, .int .i64 xk, .int .i64 xm, .int .i64 xt, .string xb, .string yp, .int .i64 yk, .int .i64 ym, .int .i64 yt, .string yb, .bool true, .bool true] _ hrg Tryz.underlying63 rfl (by kernel_rfl) ?_
            refine wpList_plain rfl fun C hC => ?_
            go_simp
            refine hC _ _ ?_
            clear hC C
            refine wpL_append_run rfl (.tmp 48) (.tmp 50) 59 59 rfl rfl _ _ s2 W6 rfl rfl hr6 ?_
            refine wpList_plain rfl fun C hC => ?_
            go_simp
            refine hC _ _ ?_
            clear hC C hr6 hrg HM4
            go_wp2_with fail
            go_roundw
            case rel => exact ⟨la, lb, done ++ [((some ⟨xp, xk, xm, xt, xb⟩, some ⟨yp, yk, ym, yt, yb⟩) : Option Im × Option Im)], ⟨HRa.out, HRb.out, (fun q hq => H.out.oa q (List.mem_cons_of_mem _ hq)), (fun q hq => H.out.ob q (List.mem_cons_of_mem _ hq)), HO6.out, HB6.out, by rw [H.out.eq]; exact (congrArg (done ++ ·) (Dl.side_eq (f := fun x : Im => x.it.path) (g := fun y : Im => y.it.path) HE.out la lb)).trans (by simp), by have := H.out.len; simp only [List.length_append, List.length_cons, List.length_nil] at *; omega⟩⟩
            case measure => have q1 := HLa.out; have q2 := HLb.out; have q3 := HN1.out; have q4 := HN2.out; (try rw [q1]); (try rw [q2]); simp only [lenII]; omega
          · have HE : Hid ((⟨xp, xk, xm, xt, xb⟩ : Im).it.path ≠ (⟨yp, yk, ym, yt, yb⟩ : Im).it.path) := hne
            have HE2 : Hid ((Nn.less (⟨xp, xk, xm, xt, xb⟩ : Im).it.path (⟨yp, yk, ym, yt, yb⟩ : Im).it.path).1 = true) := hls
            clear hne hls HC3
            go_upto_region 6 with fail
            have HGa : Hid (∀ W, GA imC imC 63 wr.heap.size ⟨xp, xk, xm, xt, xb⟩ W2 W → W.rangeAt bk o (imC ⟨xp, xk, xm, xt, xb⟩)) := fun W hW => HXa.out W (HB2.out.trans (hW.kept.below HB2.out.size fun q hq e => by omega))
            refine wp_region_rel (G := GA imC imC 63 wr.heap.size ⟨xp, xk, xm, xt, xb⟩) (W0 := W2) GA.refl GA.trans (by kernel_rfl) (by kernel_rfl) (by kernel_rfl) (GA.drew W2) ?_
            refine .inl ⟨.slice (some ⟨bk, o, none⟩) (n1 + 1) pc, fun v W hW hd => step_run (by first | rfl | simp [Region.wanted, yielded]) _ W (by clear hd; go_simp) rfl (GA.refl _), ?_⟩
            simp only [Act.put, List.setIfInBounds_toArray, List.set_cons_zero, List.set_cons_succ]
            refine .inl ⟨.pointer (some ⟨bk, o, none⟩), fun v W hW hd => step_run (by first | rfl | simp [Region.wanted, yielded]) _ W (by clear hd; go_simp) rfl (GA.refl _), ?_⟩
            simp only [Act.put, List.setIfInBounds_toArray, List.set_cons_zero, List.set_cons_succ]
            refine .inl ⟨.agg #[.string xp, .int .i64 xk, .int .i64 xm, .int .i64 xt, .string xb], fun v W hW hd => step_run rfl _ W (exec_ld 27 (.tmp 33) rfl bk o rfl (imC ⟨xp, xk, xm, xt, xb⟩) _ (HGa.out W hW) Tryz.underlying27 rfl (by kernel_rfl)) rfl (GA.refl _), ?_⟩
            simp only [Act.put, List.setIfInBounds_toArray, List.set_cons_zero, List.set_cons_succ]
            refine .inl ⟨.slice (some ⟨bk, o, none⟩) (n1 + 1) pc, fun v W hW hd => step_run (by first | rfl | simp [Region.wanted, yielded]) _ W (by clear hd; go_simp) rfl (GA.refl _), ?_⟩
            simp only [Act.put, List.setIfInBounds_toArray, List.set_cons_zero, List.set_cons_succ]
            refine .inl ⟨va, fun v W hW hd => step_run (by first | rfl | simp [Region.wanted, yielded]) _ W (by clear hd; have hv := Hva.out; have hq : ¬ ((n1 : Int) + 1 < 1) := (by omega); go_simp) rfl (GA.refl _), ?_⟩
            simp only [Act.put, List.setIfInBounds_toArray, List.set_cons_zero, List.set_cons_succ]
            refine .inl ⟨.pointer (some ⟨wr.heap.size, 0, none⟩), fun v W hW hd => step_run (by first | rfl | simp [Region.wanted, yielded]) _ W (by clear hd; go_simp) rfl (GA.refl _), ?_⟩
            simp only [Act.put, List.setIfInBounds_toArray, List.set_cons_zero, List.set_cons_succ]
            refine .inr ⟨fun _ W => ∃ f, W.heap[wr.heap.size]? = some (.cells (qC imC imC ⟨xp, xk, xm, xt, xb⟩ (im0) f false).toArray 63 (0, 0)), fun u W W' hv hg => ?_, fun v W hW hd => ?_, ?_⟩
            · obtain ⟨f, hv⟩ := hv
              obtain ⟨x1, f1, e, _, h⟩ := hg.blk _ _ _ _ hv
              exact ⟨f1, by rw [show x1 = _ from e.elim id id] at h; exact h⟩
            · clear hd
              obtain ⟨x1, f1, _, _, hq⟩ := hW.blk im0 (im0) false false HM2.out
              exact step_still rfl (W.setCells wr.heap.size 0 (imC ⟨xp, xk, xm, xt, xb⟩)) (exec_st 27 (.tmp 37) (.tmp 34) rfl wr.heap.size 0 #[.string xp, .int .i64 xk, .int .i64 xm, .int .i64 xt, .string xb] rfl rfl (blk_there hq (Nat.le_of_ble_eq_true rfl)) (by kernel_rfl) (all_oneCell_toArray (imC_one ⟨xp, xk, xm, xt, xb⟩))) ⟨f1, setA_ii hq⟩ ⟨(Kept.refl _ _).sets (fun e => e rfl) _ _, fun x0 y0 f g h => ⟨_, _, .inr rfl, id, setA_ii h⟩⟩
            simp only [Act.put]
            refine .inl ⟨.pointer (some ⟨wr.heap.size, 10, none⟩), fun v W hW hd => step_run (by first | rfl | simp [Region.wanted, yielded]) _ W (by clear hd; go_simp) rfl (GA.refl _), ?_⟩
            simp only [Act.put, List.setIfInBounds_toArray, List.set_cons_zero, List.set_cons_succ]
            refine .inr ⟨fun _ W => ∃ x0, W.heap[wr.heap.size]? = some (.cells (qC imC imC x0 (im0) true false).toArray 63 (0, 0)), fun u W W' hv hg => ?_, fun v W hW hd => ?_, ?_⟩
            · obtain ⟨x0, hv⟩ := hv
              obtain ⟨x1, f1, _, e, h⟩ := hg.blk _ _ _ _ hv
              exact ⟨x1, by rw [e rfl] at h; exact h⟩
            · clear hd
              obtain ⟨x1, f1, _, _, hq⟩ := hW.blk im0 (im0) false false HM2.out
              have hth := (blk_there (o := 10) (k := 1) hq (Nat.le_of_ble_eq_true rfl)) 0 (by omega)
              have hf1 := hth.2
              obtain ⟨hcv, hf2⟩ := Option.isSome_iff_exists.1 hth.1
              simp only [Nat.add_zero] at hf1 hf2
              exact step_still rfl (W.setCell ⟨wr.heap.size, 10, none⟩ (.bool true)) (by clear hW hq hth; go_simp) ⟨x1, flgA_ii hq⟩ ⟨(Kept.refl _ _).setCell (a := ⟨wr.heap.size, 10, none⟩) (fun e => e rfl) _, fun x0 y0 f g h => ⟨_, _, .inl rfl, fun _ => rfl, flgA_ii h⟩⟩
            simp only [Act.put]
            refine .inl ⟨va, fun v W hW hd => step_run (by first | rfl | simp [Region.wanted, yielded]) _ W (by clear hd; go_simp) rfl (GA.refl _), ?_⟩
            simp only [Act.put, List.setIfInBounds_toArray, List.set_cons_zero]
            intro v W3 hW3 hV
            have h6 : ∃ f, W3.heap[wr.heap.size]? = some (.cells (qC imC imC ⟨xp, xk, xm, xt, xb⟩ (im0) f false).toArray 63 (0, 0)) := hV 6 (by decide)
            have h8 : ∃ x0, W3.heap[wr.heap.size]? = some (.cells (qC imC imC x0 (im0) true false).toArray 63 (0, 0)) := hV 8 (by decide)
            obtain ⟨f6, h6⟩ := h6
            obtain ⟨x8, h8⟩ := h8
            have HM4 : Hid (W3.heap[wr.heap.size]? = some (.cells (qC imC imC ⟨xp, xk, xm, xt, xb⟩ (im0) true false).toArray 63 (0, 0))) := by
              show _ = _
              rw [flagA (by rfl) h6 h8] at h6
              exact h6
            have HB4 : Hid (Below wr.heap.size wr W3) := HB2.out.trans (hW3.kept.below HB2.out.size fun q hq e => by omega)
            clear hV hW3 h6 h8 HGa HM2
            have HZ : Hid (W3.heap.size = W3.heap.size) := rfl
            obtain ⟨s2, W6, hr6, ho6, hg6⟩ := more_ii w.heap.size u7 done ((some ⟨xp, xk, xm, xt, xb⟩, none) : Option Im × Option Im) (W3.alloc (.cells #[.string xp, .int .i64 xk, .int .i64 xm, .int .i64 xt, .string xb, .string ⟨#[]⟩, .int .i64 0, .int .i64 0, .int .i64 0, .string ⟨#[]⟩, .bool true, .bool false] 63)) ((own_below H.out.row HB4.out).alloc _) W3.heap.size (heap_alloc_new W3 _) (by have := HL0.out; have := H.out.len; have := HN1.out; have := HN2.out; simp only [List.length_cons] at *; omega) (by have := H.out.bel.size; have := HB4.out.size; simp; omega)
            have HO6 : Hid (W6.ownsRow w.heap.size 63 12 s2 (done ++ [((some ⟨xp, xk, xm, xt, xb⟩, none) : Option Im × Option Im)]).length (rowR iiC (done ++ [((some ⟨xp, xk, xm, xt, xb⟩, none) : Option Im × Option Im)]))) := ho6
            have HB6 : Hid (Below w.heap.size w W6) := ((H.out.bel.trans (HB4.out.mono H.out.bel.size)).alloc (Nat.le_trans H.out.bel.size HB4.out.size) _).grown hg6 (by have := H.out.bel.size; have := HB4.out.size; simp; omega) fun g hg => (H.out.row.lt g hg).1
            have hrg := blk_range HM4.out
            clear ho6 hg6 HZ
            go_upto_region 9 with fail
            refine wp_region_lit ?_
            refine wpList_plain rfl fun C hC => ?_
            go_simp
            refine hC _ _ ?_
            clear hC C
            refine wpList_load_mid rfl 63 (.tmp 8) rfl wr.heap.size 0 rfl [.string xp, .int .i64 xk, .int .i64 xm, .int .i64 xt, .string xb, .string ⟨#[]⟩, .int .i64 0, .int .i64 0, .int .i64 0, .string ⟨#[]⟩, .bool true, .bool false] _ hrg Tryz.underlying63 rfl (by kernel_rfl) ?_
            refine wpList_plain rfl fun C hC => ?_
            go_simp
            refine hC _ _ ?_
            clear hC C
            refine wpL_append_run rfl (.tmp 48) (.tmp 50) 59 59 rfl rfl _ _ s2 W6 rfl rfl hr6 ?_
            refine wpList_plain rfl fun C hC => ?_
            go_simp
            refine hC _ _ ?_
            clear hC C hr6 hrg HM4
            go_wp2_with fail
            go_roundw
            case rel => exact ⟨la, ⟨yp, yk, ym, yt, yb⟩ :: lb, done ++ [((some ⟨xp, xk, xm, xt, xb⟩, none) : Option Im × Option Im)], ⟨HRa.out, H.out.rb, (fun q hq => H.out.oa q (List.mem_cons_of_mem _ hq)), H.out.ob, HO6.out, HB6.out, by rw [H.out.eq]; exact (congrArg (done ++ ·) (Dl.side_lt (f := fun x : Im => x.it.path) (g := fun y : Im => y.it.path) HE.out HE2.out la lb)).trans (by simp), by have := H.out.len; simp only [List.length_append, List.length_cons, List.length_nil] at *; omega⟩⟩
            case measure => have q1 := HLa.out; have q2 := HLb.out; have q3 := HN1.out; have q4 := HN2.out; (try rw [q1]); (try rw [q2]); simp only [lenII]; omega
          · have HE : Hid ((⟨xp, xk, xm, xt, xb⟩ : Im).it.path ≠ (⟨yp, yk, ym, yt, yb⟩ : Im).it.path) := hne
            have HE2 : Hid ((Nn.less (⟨xp, xk, xm, xt, xb⟩ : Im).it.path (⟨yp, yk, ym, yt, yb⟩ : Im).it.path).1 = false) := hls
            clear hne hls HC3
            go_upto_region 8 with fail
            have HGb : Hid (∀ W, GB imC imC 63 wr.heap.size ⟨yp, yk, ym, yt, yb⟩ W2 W → W.rangeAt bkk oo (imC ⟨yp, yk, ym, yt, yb⟩)) := fun W hW => HXb.out W (HB2.out.trans (hW.kept.below HB2.out.size fun q hq e => by omega))
            refine wp_region_rel (G := GB imC imC 63 wr.heap.size ⟨yp, yk, ym, yt, yb⟩) (W0 := W2) GB.refl GB.trans (by kernel_rfl) (by kernel_rfl) (by kernel_rfl) (GB.drew W2) ?_
            refine .inl ⟨.slice (some ⟨bkk, oo, none⟩) (n2 + 1) qc, fun v W hW hd => step_run (by first | rfl | simp [Region.wanted, yielded]) _ W (by clear hd; go_simp) rfl (GB.refl _), ?_⟩
            simp only [Act.put, List.setIfInBounds_toArray, List.set_cons_zero, List.set_cons_succ]
            refine .inl ⟨.pointer (some ⟨bkk, oo, none⟩), fun v W hW hd => step_run (by first | rfl | simp [Region.wanted, yielded]) _ W (by clear hd; go_simp) rfl (GB.refl _), ?_⟩
            simp only [Act.put, List.setIfInBounds_toArray, List.set_cons_zero, List.set_cons_succ]
            refine .inl ⟨.agg #[.string yp, .int .i64 yk, .int .i64 ym, .int .i64 yt, .string yb], fun v W hW hd => step_run rfl _ W (exec_ld 27 (.tmp 42) rfl bkk oo rfl (imC ⟨yp, yk, ym, yt, yb⟩) _ (HGb.out W hW) Tryz.underlying27 rfl (by kernel_rfl)) rfl (GB.refl _), ?_⟩
            simp only [Act.put, List.setIfInBounds_toArray, List.set_cons_zero, List.set_cons_succ]
            refine .inl ⟨.slice (some ⟨bkk, oo, none⟩) (n2 + 1) qc, fun v W hW hd => step_run (by first | rfl | simp [Region.wanted, yielded]) _ W (by clear hd; go_simp) rfl (GB.refl _), ?_⟩
            simp only [Act.put, List.setIfInBounds_toArray, List.set_cons_zero, List.set_cons_succ]
            refine .inl ⟨vb, fun v W hW hd => step_run (by first | rfl | simp [Region.wanted, yielded]) _ W (by clear hd; have hv := Hvb.out; have hq : ¬ ((n2 : Int) + 1 < 1) := (by omega); go_simp) rfl (GB.refl _), ?_⟩
            simp only [Act.put, List.setIfInBounds_toArray, List.set_cons_zero, List.set_cons_succ]
            refine .inl ⟨.pointer (some ⟨wr.heap.size, 5, none⟩), fun v W hW hd => step_run (by first | rfl | simp [Region.wanted, yielded]) _ W (by clear hd; go_simp) rfl (GB.refl _), ?_⟩
            simp only [Act.put, List.setIfInBounds_toArray, List.set_cons_zero, List.set_cons_succ]
            refine .inr ⟨fun _ W => ∃ g, W.heap[wr.heap.size]? = some (.cells (qC imC imC im0 ⟨yp, yk, ym, yt, yb⟩ false g).toArray 63 (0, 0)), fun u W W' hv hg => ?_, fun v W hW hd => ?_, ?_⟩
            · obtain ⟨f, hv⟩ := hv
              obtain ⟨x1, f1, e, _, h⟩ := hg.blk _ _ _ _ hv
              exact ⟨f1, by rw [show x1 = _ from e.elim id id] at h; exact h⟩
            · clear hd
              obtain ⟨x1, f1, _, _, hq⟩ := hW.blk im0 (im0) false false HM2.out
              exact step_still rfl (W.setCells wr.heap.size 5 (imC ⟨yp, yk, ym, yt, yb⟩)) (exec_st 27 (.tmp 46) (.tmp 43) rfl wr.heap.size 5 #[.string yp, .int .i64 yk, .int .i64 ym, .int .i64 yt, .string yb] rfl rfl (blk_there hq (Nat.le_of_ble_eq_true rfl)) (by kernel_rfl) (all_oneCell_toArray (imC_one ⟨yp, yk, ym, yt, yb⟩))) ⟨f1, setB_ii hq⟩ ⟨(Kept.refl _ _).sets (fun e => e rfl) _ _, fun x0 y0 f g h => ⟨_, _, .inr rfl, id, setB_ii h⟩⟩
            simp only [Act.put]
            refine .inl ⟨.pointer (some ⟨wr.heap.size, 11, none⟩), fun v W hW hd => step_run (by first | rfl | simp [Region.wanted, yielded]) _ W (by clear hd; go_simp) rfl (GB.refl _), ?_⟩
            simp only [Act.put, List.setIfInBounds_toArray, List.set_cons_zero, List.set_cons_succ]
            refine .inr ⟨fun _ W => ∃ y0, W.heap[wr.heap.size]? = some (.cells (qC imC imC im0 y0 false true).toArray 63 (0, 0)), fun u W W' hv hg => ?_, fun v W hW hd => ?_, ?_⟩
            · obtain ⟨x0, hv⟩ := hv
              obtain ⟨x1, f1, _, e, h⟩ := hg.blk _ _ _ _ hv
              exact ⟨x1, by rw [e rfl] at h; exact h⟩
            · clear hd
              obtain ⟨x1, f1, _, _, hq⟩ := hW.blk im0 (im0) false false HM2.out
              have hth := (blk_there (o := 11) (k := 1) hq (Nat.le_of_ble_eq_true rfl)) 0 (by omega)
              have hf1 := hth.2
              obtain ⟨hcv, hf2⟩ := Option.isSome_iff_exists.1 hth.1
              simp only [Nat.add_zero] at hf1 hf2
              exact step_still rfl (W.setCell ⟨wr.heap.size, 11, none⟩ (.bool true)) (by clear hW hq hth; go_simp) ⟨x1, flgB_ii hq⟩ ⟨(Kept.refl _ _).setCell (a := ⟨wr.heap.size, 11, none⟩) (fun e => e rfl) _, fun x0 y0 f g h => ⟨_, _, .inl rfl, fun _ => rfl, flgB_ii h⟩⟩
            simp only [Act.put]
            refine .inl ⟨vb, fun v W hW hd => step_run (by first | rfl | simp [Region.wanted, yielded]) _ W (by clear hd; go_simp) rfl (GB.refl _), ?_⟩
            simp only [Act.put, List.setIfInBounds_toArray, List.set_cons_zero, List.set_cons_succ]
            intro v W3 hW3 hV
            have h6 : ∃ g, W3.heap[wr.heap.size]? = some (.cells (qC imC imC im0 ⟨yp, yk, ym, yt, yb⟩ false g).toArray 63 (0, 0)) := hV 6 (by decide)
            have h8 : ∃ y0, W3.heap[wr.heap.size]? = some (.cells (qC imC imC im0 y0 false true).toArray 63 (0, 0)) := hV 8 (by decide)
            obtain ⟨f6, h6⟩ := h6
            obtain ⟨x8, h8⟩ := h8
            have HM4 : Hid (W3.heap[wr.heap.size]? = some (.cells (qC imC imC im0 ⟨yp, yk, ym, yt, yb⟩ false true).toArray 63 (0, 0))) := by
              show _ = _
              rw [flagB (by rfl) h6 h8] at h6
              exact h6
            have HB4 : Hid (Below wr.heap.size wr W3) := HB2.out.trans (hW3.kept.below HB2.out.size fun q hq e => by omega)
            clear hV hW3 h6 h8 HGb HM2
            have HZ : Hid (W3.heap.size = W3.heap.size) := rfl
            obtain ⟨s2, W6, hr6, ho6, hg6⟩ := more_ii w.heap.size u7 done ((none, some ⟨yp, yk, ym, yt, yb⟩) : Option Im × Option Im) (W3.alloc (.cells #[.string ⟨#[]⟩, .int .i64 0, .int .i64 0, .int .i64 0, .string ⟨#[]⟩, .string yp, .int .i64 yk, .int .i64 ym, .int .i64 yt, .string yb, .bool false, .bool true] 63)) ((own_below H.out.row HB4.out).alloc _) W3.heap.size (heap_alloc_new W3 _) (by have := HL0.out; have := H.out.len; have := HN1.out; have := HN2.out; simp only [List.length_cons] at *; omega) (by have := H.out.bel.size; have := HB4.out.size; simp; omega)
            have HO6 : Hid (W6.ownsRow w.heap.size 63 12 s2 (done ++ [((none, some ⟨yp, yk, ym, yt, yb⟩) : Option Im × Option Im)]).length (rowR iiC (done ++ [((none, some ⟨yp, yk, ym, yt, yb⟩) : Option Im × Option Im)]))) := ho6
            have HB6 : Hid (Below w.heap.size w W6) := ((H.out.bel.trans (HB4.out.mono H.out.bel.size)).alloc (Nat.le_trans H.out.bel.size HB4.out.size) _).grown hg6 (by have := H.out.bel.size; have := HB4.out.size; simp; omega) fun g hg => (H.out.row.lt g hg).1
            have hrg := blk_range HM4.out
            clear ho6 hg6 HZ
            go_upto_region 9 with fail
            refine wp_region_lit ?_
            refine wpList_plain rfl fun C hC => ?_
            go_simp
            refine hC _ _ ?_
            clear hC C
            refine wpList_load_mid rfl 63 (.tmp 8) rfl wr.heap.size 0 rfl [.string ⟨#[]⟩, .int .i64 0, .int .i64 0, .int .i64 0, .string ⟨#[]⟩, .string yp, .int .i64 yk, .int .i64 ym, .int .i64 yt, .string yb, .bool false, .bool true] _ hrg Tryz.underlying63 rfl (by kernel_rfl) ?_
            refine wpList_plain rfl fun C hC => ?_
            go_simp
            refine hC _ _ ?_
            clear hC C
            refine wpL_append_run rfl (.tmp 48) (.tmp 50) 59 59 rfl rfl _ _ s2 W6 rfl rfl hr6 ?_
            refine wpList_plain rfl fun C hC => ?_
            go_simp
            refine hC _ _ ?_
            clear hC C hr6 hrg HM4
            go_wp2_with fail
            go_roundw
            case rel => exact ⟨⟨xp, xk, xm, xt, xb⟩ :: la, lb, done ++ [((none, some ⟨yp, yk, ym, yt, yb⟩) : Option Im × Option Im)], ⟨H.out.ra, HRb.out, H.out.oa, (fun q hq => H.out.ob q (List.mem_cons_of_mem _ hq)), HO6.out, HB6.out, by rw [H.out.eq]; exact (congrArg (done ++ ·) (Dl.side_gt (f := fun x : Im => x.it.path) (g := fun y : Im => y.it.path) HE.out HE2.out la lb)).trans (by simp), by have := H.out.len; simp only [List.length_append, List.length_cons, List.length_nil] at *; omega⟩⟩
            case measure => have q1 := HLa.out; have q2 := HLb.out; have q3 := HN1.out; have q4 := HN2.out; (try rw [q1]); (try rw [q2]); simp only [lenII]; omega
  case rest =>
    obtain ⟨la, lb, done, H, HE⟩ := hcut
    obtain ⟨pa, pc, rfl, hpc1, hpc2⟩ := H.out.ra.slice
    obtain ⟨qa, qc, rfl, hqc1, hqc2⟩ := H.out.rb.slice
    obtain ⟨n1, hn1⟩ : ∃ n, n = la.length := ⟨_, rfl⟩
    obtain ⟨n2, hn2⟩ : ∃ n, n = lb.length := ⟨_, rfl⟩
    have HN1 : Hid (n1 = la.length) := hn1
    have HN2 : Hid (n2 = lb.length) := hn2
    have HLn : Hid (done.length + (la.length + lb.length) ≤ na + nb) := by have := H.out.len; show _ ≤ _; omega
    have HF : Hid (sdII a b = (done ++ la.map (fun x : Im => ((some x, none) : Option Im × Option Im))) ++ lb.map (fun y : Im => ((none, some y) : Option Im × Option Im))) := by
      show _ = _
      rw [H.out.eq]
      rcases HE.out with e | e
      · subst e
        exact (congrArg (done ++ ·) (Dl.side_nil lb)).trans (by simp)
      · subst e
        exact (congrArg (done ++ ·) (Dl.side_nil2 la)).trans (by simp)
    rw [← hn1] at hpc1 H ⊢
    rw [← hn2] at hqc1 H ⊢
    clear hn1 hn2 HE
    go_wp2_with fail
    go_loopw [7, 54] (fun s i wr => ∃ k : Nat, k ≤ n1 ∧ i = .int .i64 k ∧ Hid (wr.ownsRow w.heap.size 63 12 s (done ++ (la.take k).map (fun x : Im => ((some x, none) : Option Im × Option Im))).length (rowR iiC (done ++ (la.take k).map (fun x : Im => ((some x, none) : Option Im × Option Im))))) ∧ Hid (Below w.heap.size w wr)) (fun _ i _ => n1 - (intOf i).toNat)
    case atStart => exact ⟨0, by omega, rfl, by show World.ownsRow _ _ _ _ _ _ _; simpa using H.out.row, H.out.bel⟩
    case round =>
      obtain ⟨k, hk, rfl, HO, HB⟩ := hrel
      by_cases hlt : k < n1
      · obtain ⟨t, ht⟩ : ∃ t, la[k]? = some t := ⟨_, List.getElem?_eq_getElem (by have := HN1.out; omega)⟩
        obtain ⟨bk, o, rfl, hbk, c0, c1, c2, c3, c4⟩ := (H.out.ra.below HB.out).item k t ht
        have HDn : Hid ((done ++ (la.take (k + 1)).map (fun x : Im => ((some x, none) : Option Im × Option Im))) = (done ++ (la.take k).map (fun x : Im => ((some x, none) : Option Im × Option Im))) ++ [(fun x : Im => ((some x, none) : Option Im × Option Im)) t]) := by show _ = _; rw [List.take_add_one, ht]; simp
        obtain ⟨xp, xk, xm, xt, xb⟩ := t
        dsimp only at c0 c1 c2 c3 c4
        obtain ⟨s2, W6, hr6, ho6, hg6⟩ := more_ii w.heap.size u7 _ ((fun x : Im => ((some x, none) : Option Im × Option Im)) ⟨xp, xk, xm, xt, xb⟩) ((wr.alloc (.cells #[.string xp, .int .i64 xk, .int .i64 xm, .int .i64 xt, .string xb] 27)).alloc (.cells #[.string xp, .int .i64 xk, .int .i64 xm, .int .i64 xt, .string xb, .string ⟨#[]⟩, .int .i64 0, .int .i64 0, .int .i64 0, .string ⟨#[]⟩, .bool true, .bool false] 63)) ((HO.out.alloc _).alloc _) (wr.heap.size + 1) (by rw [show wr.heap.size + 1 = (wr.alloc (.cells #[.string xp, .int .i64 xk, .int .i64 xm, .int .i64 xt, .string xb] 27)).heap.size from by simp]; exact heap_alloc_new _ _) (by have := HL0.out; have := HLn.out; have := HN1.out; have := HN2.out; simp only [List.length_append, List.length_map, List.length_take]; omega) (by have := HB.out.size; simp; omega)
        have HO6 : Hid (W6.ownsRow w.heap.size 63 12 s2 (done ++ (la.take (k + 1)).map (fun x : Im => ((some x, none) : Option Im × Option Im))).length (rowR iiC (done ++ (la.take (k + 1)).map (fun x : Im => ((some x, none) : Option Im × Option Im))))) := by
          rw [HDn.out]; exact ho6
        have HB6 : Hid (Below w.heap.size w W6) := (((HB.out.alloc HB.out.size _).alloc (by have := HB.out.size; simp; omega) _)).grown hg6 (by have := HB.out.size; simp; omega) fun g hg => (HO.out.lt g hg).1
        clear ho6 hg6 ht HDn
        go_wp2_with (at_builtin; refine wpL_append_run rfl (.tmp 58) (.tmp 61) 59 59 rfl rfl _ _ s2 W6 rfl rfl hr6 ?_)
        clear hr6 c0 c1 c2 c3 c4
        go_roundw
        case measure => simp only [intOf]; omega
        case rel => exact ⟨k + 1, by omega, by go_num, HO6, HB6⟩
      · obtain rfl : k = n1 := by omega
        have HO1 : Hid (wr.ownsRow w.heap.size 63 12 u7 (done ++ la.map (fun x : Im => ((some x, none) : Option Im × Option Im))).length (rowR iiC (done ++ la.map (fun x : Im => ((some x, none) : Option Im × Option Im))))) := by
          have h := HO.out
          rw [List.take_of_length_le (by have := HN1.out; omega)] at h
          exact h
        clear HO
        go_wp2_with fail
        go_loopw [7, 66] (fun s i wr => ∃ k : Nat, k ≤ n2 ∧ i = .int .i64 k ∧ Hid (wr.ownsRow w.heap.size 63 12 s ((done ++ la.map (fun x : Im => ((some x, none) : Option Im × Option Im))) ++ (lb.take k).map (fun y : Im => ((none, some y) : Option Im × Option Im))).length (rowR iiC ((done ++ la.map (fun x : Im => ((some x, none) : Option Im × Option Im))) ++ (lb.take k).map (fun y : Im => ((none, some y) : Option Im × Option Im))))) ∧ Hid (Below w.heap.size w wr)) (fun _ i _ => n2 - (intOf i).toNat)
        case atStart => exact ⟨0, by omega, rfl, by show World.ownsRow _ _ _ _ _ _ _; simpa using HO1.out, HB.out⟩
        case round =>
          obtain ⟨k, hk, rfl, HO, HB⟩ := hrel
          clear HO1
          by_cases hlt : k < n2
          · obtain ⟨t, ht⟩ : ∃ t, lb[k]? = some t := ⟨_, List.getElem?_eq_getElem (by have := HN2.out; omega)⟩
            obtain ⟨bk, o, rfl, hbk, c0, c1, c2, c3, c4⟩ := (H.out.rb.below HB.out).item k t ht
            have HDn : Hid (((done ++ la.map (fun x : Im => ((some x, none) : Option Im × Option Im))) ++ (lb.take (k + 1)).map (fun y : Im => ((none, some y) : Option Im × Option Im))) = ((done ++ la.map (fun x : Im => ((some x, none) : Option Im × Option Im))) ++ (lb.take k).map (fun y : Im => ((none, some y) : Option Im × Option Im))) ++ [(fun y : Im => ((none, some y) : Option Im × Option Im)) t]) := by show _ = _; rw [List.take_add_one, ht]; simp
            obtain ⟨yp, yk, ym, yt, yb⟩ := t
            dsimp only at c0 c1 c2 c3 c4
            obtain ⟨s2, W6, hr6, ho6, hg6⟩ := more_ii w.heap.size u7 _ ((fun y : Im => ((none, some y) : Option Im × Option Im)) ⟨yp, yk, ym, yt, yb⟩) ((wr.alloc (.cells #[.string yp, .int .i64 yk, .int .i64 ym, .int .i64 yt, .string yb] 27)).alloc (.cells #[.string ⟨#[]⟩, .int .i64 0, .int .i64 0, .int .i64 0, .string ⟨#[]⟩, .string yp, .int .i64 yk, .int .i64 ym, .int .i64 yt, .string yb, .bool false, .bool true] 63)) ((HO.out.alloc _).alloc _) (wr.heap.size + 1) (by rw [show wr.heap.size + 1 = (wr.alloc (.cells #[.string yp, .int .i64 yk, .int .i64 ym, .int .i64 yt, .string yb] 27)).heap.size from by simp]; exact heap_alloc_new _ _) (by have := HL0.out; have := HLn.out; have := HN1.out; have := HN2.out; simp only [List.length_append, List.length_map, List.length_take]; omega) (by have := HB.out.size; simp; omega)
            have HO6 : Hid (W6.ownsRow w.heap.size 63 12 s2 ((done ++ la.map (fun x : Im => ((some x, none) : Option Im × Option Im))) ++ (lb.take (k + 1)).map (fun y : Im => ((none, some y) : Option Im × Option Im))).length (rowR iiC ((done ++ la.map (fun x : Im => ((some x, none) : Option Im × Option Im))) ++ (lb.take (k + 1)).map (fun y : Im => ((none, some y) : Option Im × Option Im))))) := by
              rw [HDn.out]; exact ho6
            have HB6 : Hid (Below w.heap.size w W6) := (((HB.out.alloc HB.out.size _).alloc (by have := HB.out.size; simp; omega) _)).grown hg6 (by have := HB.out.size; simp; omega) fun g hg => (HO.out.lt g hg).1
            clear ho6 hg6 ht HDn
            go_wp2_with (at_builtin; refine wpL_append_run rfl (.tmp 70) (.tmp 73) 59 59 rfl rfl _ _ s2 W6 rfl rfl hr6 ?_)
            clear hr6 c0 c1 c2 c3 c4
            go_roundw
            case measure => simp only [intOf]; omega
            case rel => exact ⟨k + 1, by omega, by go_num, HO6, HB6⟩
          · obtain rfl : k = n2 := by omega
            have HO2 : Hid (wr.ownsRow w.heap.size 63 12 u7 (sdII a b).length (rowR iiC (sdII a b))) := by
              have h := HO.out
              rw [List.take_of_length_le (by have := HN2.out; omega), ← HF.out] at h
              exact h
            go_wp2_with fail
            go_ret
            exact ⟨_, rfl, HO2.out, HB.out⟩
end Go.Proofs.YthpcbbkpjggjbaaGreatDoor
namespace Go.Proofs.YthpcbbkpjggjbaaGreatDoor
open Go.RowKit
structure Blb where
  kind : Int
  bytes : ByteArray
def Blb.p (b : Blb) : Pk.Bl := (b.kind, b.bytes.data.toList)
theorem Blb.p_inj {a b : Blb} (h : a.p = b.p) : a = b := by
  obtain ⟨k, ⟨⟨s⟩⟩⟩ := a
  obtain ⟨k', ⟨⟨s'⟩⟩⟩ := b
  simp only [Blb.p, Prod.mk.injEq] at h
  obtain ⟨rfl, rfl⟩ := h
  rfl
def blC (b : Blb) : List Value := [.int .i64 b.kind, .string b.bytes]
def blV (b : Blb) : Value := .agg #[.int .i64 b.kind, .string b.bytes]
theorem blC_length (b : Blb) : (blC b).length = 2 := rfl
abbrev Bx := Rx 2 blC
theorem Rx.blob {w : World} {a : Option Addr} {n c : Nat} {l : List Blb} (h : Bx w (.slice a n c) l) (j : Nat) (t : Blb) (hj : l[j]? = some t) : ∃ bk o, a = some ⟨bk, o, none⟩ ∧ bk < w.heap.size ∧
    w.cell? ⟨bk, o + j * 2, none⟩ = some (.int .i64 t.kind) ∧ w.cell? ⟨bk, o + j * 2 + 1, none⟩ = some (.string t.bytes) := by
  obtain ⟨bk, o, h1, h2, h3⟩ := h.get j t hj
  exact ⟨bk, o, h1, h2, h3 0 _ rfl, h3 1 _ rfl⟩
end Go.Proofs.YthpcbbkpjggjbaaGreatDoor
namespace Go.Proofs.YthpcbbkpjggjbaaGreatDoor
open Go.RowKit
theorem eq_fields2 {P : Program} (W : World) (d : Nat) (xs ys : Array Value) (f0 f1 : Field) (v0 v1 u0 u1 : Value) (a b : Bool) (n0 : f0.name ≠ "_") (n1 : f1.name ≠ "_")
    (p0 : (part f0.type xs f0.offset).run P W = .ok v0 W) (p1 : (part f1.type xs f1.offset).run P W = .ok v1 W) (q0 : (part f0.type ys f0.offset).run P W = .ok u0 W) (q1 : (part f1.type ys f1.offset).run P W = .ok u1 W)
    (e0 : (Op.equalIn d f0.type v0 u0).run P W = .ok a W) (e1 : (Op.equalIn d f1.type v1 u1).run P W = .ok b W) :
    (Op.eqFields d xs ys [f0, f1]).run P W = .ok (a && b) W := by
  cases a <;> cases b <;> simp only [Op.eqFields, if_pos n0, if_pos n1, Sem.run_bind, p0, p1, q0, q1, Result.andThen_ok, e0, e1, Bool.not_true, Bool.not_false, Bool.false_eq_true, if_false, if_true, Sem.run_pure, Bool.and_true, Bool.and_false, Bool.and_self]
theorem fields_bl : ∃ f0 f1, (Tryz.prog.fieldsOf 111).toList = [f0, f1] ∧ f0.type = 3 ∧ f0.offset = 0 ∧ f0.name ≠ "_" ∧ f1.type = 9 ∧ f1.offset = 1 ∧ f1.name ≠ "_" := by
  rw [show (Tryz.prog.fieldsOf 111) = _ from by unfold Program.fieldsOf; rw [Tryz.underlying111]]
  exact ⟨_, _, rfl, rfl, rfl, by decide, rfl, rfl, by decide⟩
def blSame (a b : Blb) : Bool := (a.kind == b.kind) && (a.bytes.toList == b.bytes.toList)
theorem blSame_self (a : Blb) : blSame a a = true := by simp [blSame]
theorem blSame_iff {a b : Blb} : blSame a b = true ↔ a = b := by
  constructor
  · intro h
    simp only [blSame, Bool.and_eq_true, beq_iff_eq, Lib.toList_data] at h
    exact Blb.p_inj (Prod.ext h.1 h.2)
  · rintro rfl
    exact blSame_self a
theorem bl_cmp_at (d : Nat) (W : World) (a b : Blb) :
    (Op.equalIn (d + 1 + 1) 111 (.agg #[.int .i64 a.kind, .string a.bytes]) (.agg #[.int .i64 b.kind, .string b.bytes])).run Tryz.prog W = .ok (blSame a b) W := by
  have hp : Tryz.prog.stoodInHeld 111 = false := by kernel_rfl
  have hf : Tryz.prog.underlying 111 = some (.struct (Tryz.prog.fieldsOf 111)) := by kernel_rfl
  obtain ⟨f0, f1, hfs, t0, o0, n0, t1, o1, n1⟩ := fields_bl
  have h0 : (Op.equalIn (d + 1) 3 (.int .i64 a.kind) (.int .i64 b.kind)).run Tryz.prog W = .ok (a.kind == b.kind) W := run_equalIn_int W d 3 .i64 .i64 a.kind b.kind (by kernel_rfl)
  have h1 : (Op.equalIn (d + 1) 9 (.string a.bytes) (.string b.bytes)).run Tryz.prog W = .ok (a.bytes.toList == b.bytes.toList) W := run_equalIn_string (P := Tryz.prog) W d 9 a.bytes b.bytes (by kernel_rfl)
  rw [run_equalIn_struct W (d + 1) 111 _ _ hf hp, hfs]
  exact eq_fields2 W (d + 1) _ _ f0 f1 (.int .i64 a.kind) (.string a.bytes) (.int .i64 b.kind) (.string b.bytes) _ _ n0 n1 (by rw [t0, o0]; simp [part, go_sem]) (by rw [t1, o1]; simp [part, go_sem]) (by rw [t0, o0]; simp [part, go_sem]) (by rw [t1, o1]; simp [part, go_sem]) (by rw [t0]; exact h0) (by rw [t1]; exact h1)
theorem bl_cmp (W : World) (a b : Blb) :
    (Op.equalIn 10000 111 (.agg #[.int .i64 a.kind, .string a.bytes]) (.agg #[.int .i64 b.kind, .string b.bytes])).run Tryz.prog W = .ok (blSame a b) W := bl_cmp_at 9998 W a b
end Go.Proofs.YthpcbbkpjggjbaaGreatDoor
namespace Go.Proofs.YthpcbbkpjggjbaaGreatDoor
open Go.RowKit
theorem wrap_u64_mod (n : Nat) : IntKind.u64.wrap (n : Int) = ((n % 18446744073709551616 : Nat) : Int) := by
  simp only [IntKind.wrap, IntKind.bits, IntKind.signed]
  simp
theorem xs_int29 (z : Nat) (h : z < 18446744073709551616) : bits .xor .u64 (z : Int) ((z : Int) / 536870912) = (Mx.xs 29 z : Int) := by
  rw [show (z : Int) / 536870912 = ((z / 536870912 : Nat) : Int) from by omega, u64_xor_nat _ _ h (by omega), Mx.xs, Nat.shiftRight_eq_div_pow]
theorem xs_int32 (z : Nat) (h : z < 18446744073709551616) : bits .xor .u64 (z : Int) ((z : Int) / 4294967296) = (Mx.xs 32 z : Int) := by
  rw [show (z : Int) / 4294967296 = ((z / 4294967296 : Nat) : Int) from by omega, u64_xor_nat _ _ h (by omega), Mx.xs, Nat.shiftRight_eq_div_pow]
end Go.Proofs.YthpcbbkpjggjbaaGreatDoor
namespace Go.Proofs.YthpcbbkpjggjbaaGreatDoor
open Go.RowKit
theorem eight {α : Type} (l : List α) (h : l.length = 8) : ∃ a b c d e f g k, l = [a, b, c, d, e, f, g, k] := by
  match l, h with
  | [a, b, c, d, e, f, g, k], _ => exact ⟨a, b, c, d, e, f, g, k, rfl⟩
end Go.Proofs.YthpcbbkpjggjbaaGreatDoor
namespace Go.Proofs.YthpcbbkpjggjbaaGreatDoor
open Go.RowKit
set_option maxRecDepth 4000
theorem eqf_nil {P : Program} (W : World) (d : Nat) (xs ys : Array Value) : (Op.eqFields d xs ys []).run P W = .ok true W := by
  simp only [Op.eqFields, Sem.run_pure]
theorem eqf_cons {P : Program} (W : World) (d : Nat) (xs ys : Array Value) (f : Field) (fs : List Field) (v u : Value) (a b : Bool) (n : f.name ≠ "_")
    (p : (part f.type xs f.offset).run P W = .ok v W) (q : (part f.type ys f.offset).run P W = .ok u W) (e : (Op.equalIn d f.type v u).run P W = .ok a W) (h : (Op.eqFields d xs ys fs).run P W = .ok b W) :
    (Op.eqFields d xs ys (f :: fs)).run P W = .ok (a && b) W := by
  cases a <;> simp only [Op.eqFields, if_pos n, Sem.run_bind, p, q, Result.andThen_ok, e, Bool.not_true, Bool.not_false, Bool.false_eq_true, if_false, if_true, Sem.run_pure, Bool.true_and, Bool.false_and, h]
theorem fields_it : ∃ f0 f1 f2 f3 f4, (Tryz.prog.fieldsOf 27).toList = [f0, f1, f2, f3, f4] ∧ f0.type = 9 ∧ f0.offset = 0 ∧ f0.name ≠ "_" ∧ f1.type = 3 ∧ f1.offset = 1 ∧ f1.name ≠ "_" ∧ f2.type = 3 ∧ f2.offset = 2 ∧ f2.name ≠ "_" ∧ f3.type = 3 ∧ f3.offset = 3 ∧ f3.name ≠ "_" ∧ f4.type = 9 ∧ f4.offset = 4 ∧ f4.name ≠ "_" := by
  rw [show (Tryz.prog.fieldsOf 27) = _ from by unfold Program.fieldsOf; rw [Tryz.underlying27]]
  exact ⟨_, _, _, _, _, rfl, rfl, rfl, by decide, rfl, rfl, by decide, rfl, rfl, by decide, rfl, rfl, by decide, rfl, rfl, by decide⟩
def imSame (a b : Im) : Bool := (a.path.toList == b.path.toList) && ((a.kind == b.kind) && ((a.mode == b.mode) && ((a.time == b.time) && ((a.bytes.toList == b.bytes.toList) && true))))
theorem imSame_iff {a b : Im} : imSame a b = true ↔ a = b := by
  constructor
  · intro h
    simp only [imSame, Bool.and_eq_true, beq_iff_eq, Lib.toList_data] at h
    obtain ⟨h0, h1, h2, h3, h4, _⟩ := h
    refine Im.it_inj ?_
    simp only [Im.it, h0, h1, h2, h3, h4]
  · rintro rfl
    simp [imSame]
theorem it_cmp_at (d : Nat) (W : World) (a b : Im) :
    (Op.equalIn (d + 1 + 1) 27 (imV a) (imV b)).run Tryz.prog W = .ok (imSame a b) W := by
  have hp : Tryz.prog.stoodInHeld 27 = false := by kernel_rfl
  have hf : Tryz.prog.underlying 27 = some (.struct (Tryz.prog.fieldsOf 27)) := by kernel_rfl
  obtain ⟨f0, f1, f2, f3, f4, hfs, t0, o0, n0, t1, o1, n1, t2, o2, n2, t3, o3, n3, t4, o4, n4⟩ := fields_it
  have hs : ∀ s t : ByteArray, (Op.equalIn (d + 1) 9 (.string s) (.string t)).run Tryz.prog W = .ok (s.toList == t.toList) W := fun s t => run_equalIn_string (P := Tryz.prog) W d 9 s t (by kernel_rfl)
  have hi : ∀ x y : Int, (Op.equalIn (d + 1) 3 (.int .i64 x) (.int .i64 y)).run Tryz.prog W = .ok (x == y) W := fun x y => run_equalIn_int W d 3 .i64 .i64 x y (by kernel_rfl)
  rw [run_equalIn_struct W (d + 1) 27 _ _ hf hp, hfs]
  refine eqf_cons W (d + 1) _ _ f0 _ (.string a.path) (.string b.path) _ _ n0 (by rw [t0, o0]; simp [part, go_sem]) (by rw [t0, o0]; simp [part, go_sem]) (by rw [t0]; exact hs _ _) ?_
  refine eqf_cons W (d + 1) _ _ f1 _ (.int .i64 a.kind) (.int .i64 b.kind) _ _ n1 (by rw [t1, o1]; simp [part, go_sem]) (by rw [t1, o1]; simp [part, go_sem]) (by rw [t1]; exact hi _ _) ?_
  refine eqf_cons W (d + 1) _ _ f2 _ (.int .i64 a.mode) (.int .i64 b.mode) _ _ n2 (by rw [t2, o2]; simp [part, go_sem]) (by rw [t2, o2]; simp [part, go_sem]) (by rw [t2]; exact hi _ _) ?_
  refine eqf_cons W (d + 1) _ _ f3 _ (.int .i64 a.time) (.int .i64 b.time) _ _ n3 (by rw [t3, o3]; simp [part, go_sem]) (by rw [t3, o3]; simp [part, go_sem]) (by rw [t3]; exact hi _ _) ?_
  refine eqf_cons W (d + 1) _ _ f4 _ (.string a.bytes) (.string b.bytes) _ _ n4 (by rw [t4, o4]; simp [part, go_sem]) (by rw [t4, o4]; simp [part, go_sem]) (by rw [t4]; exact hs _ _) ?_
  exact eqf_nil W (d + 1) _ _
theorem it_cmp (W : World) (a b : Im) : (Op.equalIn 10000 27 (.agg #[.string a.path, .int .i64 a.kind, .int .i64 a.mode, .int .i64 a.time, .string a.bytes]) (.agg #[.string b.path, .int .i64 b.kind, .int .i64 b.mode, .int .i64 b.time, .string b.bytes])).run Tryz.prog W = .ok (imSame a b) W := it_cmp_at 9998 W a b
set_option maxHeartbeats 2000000 in
theorem equal_items (v1 v2 : Value) (l m : List Im) (w : World) (h1 : Ims w v1 l) (h2 : Ims w v2 m) (hl : l.length ≤ 140737488351232) :
    Calls Tryz.prog 19 #[v1, v2] w fun e w' => ∃ b : Bool, e = .returned (.bool b) ∧ (b = true ↔ l = m) ∧ Below w.heap.size w w' := by
  obtain ⟨a1, c1, rfl, j1, j2⟩ := h1.slice
  obtain ⟨a2, c2, rfl, j3, j4⟩ := h2.slice
  clear j1 j2 j3 j4
  obtain ⟨n1, hn1⟩ : ∃ n, n = l.length := ⟨_, rfl⟩
  obtain ⟨n2, hn2⟩ : ∃ n, n = m.length := ⟨_, rfl⟩
  have HN1 : Hid (n1 = l.length) := hn1
  have HN2 : Hid (n2 = m.length) := hn2
  rw [← hn1] at h1 hl ⊢
  rw [← hn2] at h2 ⊢
  clear hn1 hn2
  by_cases hq : n1 = n2
  case neg =>
    have hb : ((n1 : Int) != (n2 : Int)) = true := by rw [bne_iff_ne]; omega
    have HF : Hid (l ≠ m) := by rintro rfl; exact hq (HN1.out.trans HN2.out.symm)
    clear hq h1 h2
    go_enter Tryz.func19, Tryz.ntmps19
    go_wp2_with fail
    go_ret
    exact ⟨false, rfl, ⟨fun q => absurd q (by decide), fun q => absurd q HF.out⟩, Below.refl _ _⟩
  subst hq
  have hb : ((n1 : Int) != (n1 : Int)) = false := by simp
  go_enter Tryz.func19, Tryz.ntmps19
  go_wp2_with fail
  clear hb
  go_loopw [13] (fun i wr => ∃ k : Nat, k ≤ n1 ∧ i = .int .i64 k ∧ l.take k = m.take k ∧ Below w.heap.size w wr) (fun i _ => n1 - (intOf i).toNat)
  case atStart => exact ⟨0, by omega, rfl, rfl, Below.refl _ _⟩
  case round =>
    obtain ⟨k, hk, rfl, hpre, hbel⟩ := hrel
    have HP : Hid (l.take k = m.take k) := hpre
    clear hpre
    by_cases hlt : k < n1
    · obtain ⟨t, ht⟩ : ∃ t, l[k]? = some t := ⟨_, List.getElem?_eq_getElem (by have := HN1.out; omega)⟩
      obtain ⟨u, hu⟩ : ∃ u, m[k]? = some u := ⟨_, List.getElem?_eq_getElem (by have := HN2.out; omega)⟩
      obtain ⟨bk, o, rfl, hbk, c0, c1, c2, c3, c4⟩ := (h1.below hbel).item k t ht
      obtain ⟨bk', o', rfl, hbk', d0, d1, d2, d3, d4⟩ := (h2.below hbel).item k u hu
      have HT : Hid (l[k]? = some t ∧ m[k]? = some u) := ⟨ht, hu⟩
      clear h1 h2 ht hu
      have x0 : ∀ X : Since wr.heap.size wr, X.val.cell? ⟨bk, o + k * 5, none⟩ = some (.string t.path) := fun X => (X.property.cell (p := ⟨bk, o + k * 5, none⟩) hbk).trans c0
      have x1 : ∀ X : Since wr.heap.size wr, X.val.cell? ⟨bk, o + k * 5 + 1, none⟩ = some (.int .i64 t.kind) := fun X => (X.property.cell (p := ⟨bk, o + k * 5 + 1, none⟩) hbk).trans c1
      have x2 : ∀ X : Since wr.heap.size wr, X.val.cell? ⟨bk, o + k * 5 + 2, none⟩ = some (.int .i64 t.mode) := fun X => (X.property.cell (p := ⟨bk, o + k * 5 + 2, none⟩) hbk).trans c2
      have x3 : ∀ X : Since wr.heap.size wr, X.val.cell? ⟨bk, o + k * 5 + 3, none⟩ = some (.int .i64 t.time) := fun X => (X.property.cell (p := ⟨bk, o + k * 5 + 3, none⟩) hbk).trans c3
      have x4 : ∀ X : Since wr.heap.size wr, X.val.cell? ⟨bk, o + k * 5 + 4, none⟩ = some (.string t.bytes) := fun X => (X.property.cell (p := ⟨bk, o + k * 5 + 4, none⟩) hbk).trans c4
      have y0 : ∀ X : Since wr.heap.size wr, X.val.cell? ⟨bk', o' + k * 5, none⟩ = some (.string u.path) := fun X => (X.property.cell (p := ⟨bk', o' + k * 5, none⟩) hbk').trans d0
      have y1 : ∀ X : Since wr.heap.size wr, X.val.cell? ⟨bk', o' + k * 5 + 1, none⟩ = some (.int .i64 u.kind) := fun X => (X.property.cell (p := ⟨bk', o' + k * 5 + 1, none⟩) hbk').trans d1
      have y2 : ∀ X : Since wr.heap.size wr, X.val.cell? ⟨bk', o' + k * 5 + 2, none⟩ = some (.int .i64 u.mode) := fun X => (X.property.cell (p := ⟨bk', o' + k * 5 + 2, none⟩) hbk').trans d2
      have y3 : ∀ X : Since wr.heap.size wr, X.val.cell? ⟨bk', o' + k * 5 + 3, none⟩ = some (.int .i64 u.time) := fun X => (X.property.cell (p := ⟨bk', o' + k * 5 + 3, none⟩) hbk').trans d3
      have y4 : ∀ X : Since wr.heap.size wr, X.val.cell? ⟨bk', o' + k * 5 + 4, none⟩ = some (.string u.bytes) := fun X => (X.property.cell (p := ⟨bk', o' + k * 5 + 4, none⟩) hbk').trans d4
      clear c0 c1 c2 c3 c4 d0 d1 d2 d3 d4
      have heq := fun W => it_cmp W t u
      have HS : Hid (imSame t u = true ↔ t = u) := imSame_iff
      have hne : Nonempty (Since wr.heap.size wr) := ⟨⟨wr, Below.refl _ _⟩⟩
      generalize imSame t u = S at *
      cases S
      · go_wp2_with fail
        refine wp_region_since (B := wr.heap.size) (W0 := wr) (by kernel_rfl) (by kernel_rfl) (Below.refl _ _) ?_
        repeat (go_big_quiet_step (fail))
        refine wpQuiet_nil ?_
        rintro w7 ⟨U, rfl⟩
        have hU := U.property
        have HB3 : Hid (Below w.heap.size w U.val) := hbel.trans (hU.mono hbel.size)
        generalize U.val = w7 at *
        clear hU hbel x0 x1 x2 x3 x4 y0 y1 y2 y3 y4 heq hne
        go_wp2_with fail
        go_ret
        refine ⟨false, rfl, ⟨fun q => absurd q (by decide), ?_⟩, HB3.out⟩
        rintro rfl
        have := HT.out.1.symm.trans HT.out.2
        have := HS.out.2 (Option.some.inj this)
        cases this
      · go_wp2_with fail
        refine wp_region_since (B := wr.heap.size) (W0 := wr) (by kernel_rfl) (by kernel_rfl) (Below.refl _ _) ?_
        repeat (go_big_quiet_step (fail))
        refine wpQuiet_nil ?_
        rintro w7 ⟨U, rfl⟩
        have hU := U.property
        have HB3 : Hid (Below w.heap.size w U.val) := hbel.trans (hU.mono hbel.size)
        generalize U.val = w7 at *
        clear hU hbel x0 x1 x2 x3 x4 y0 y1 y2 y3 y4 heq hne
        go_wp2_with fail
        go_roundw
        case rel =>
          refine ⟨k + 1, by omega, by go_num, ?_, HB3.out⟩
          rw [List.take_add_one, List.take_add_one, HP.out, HT.out.1, HT.out.2, HS.out.1 (by first | exact trivial | rfl)]
        case measure => simp only [intOf]; omega
    · go_wp2_with fail
      go_ret
      refine ⟨true, rfl, ⟨fun _ => ?_, fun _ => rfl⟩, hbel⟩
      have h := HP.out
      have := HN1.out
      have := HN2.out
      rwa [List.take_of_length_le (by omega), List.take_of_length_le (by omega)] at h
end Go.Proofs.YthpcbbkpjggjbaaGreatDoor
namespace Go.Proofs.YthpcbbkpjggjbaaGreatDoor
open Go.RowKit
theorem side_in {α β : Type} {f : α → Wk.Bs} {g : β → Wk.Bs} : ∀ (l : List α) (m : List β), ∀ z ∈ Dl.side f g l m, (z.1.isSome = true ∨ z.2.isSome = true) ∧ (∀ x, z.1 = some x → x ∈ l) ∧ ∀ y, z.2 = some y → y ∈ m :=
  Dl.side_ind (f := f) (g := g) (P := fun l m s => ∀ z ∈ s, (z.1.isSome = true ∨ z.2.isSome = true) ∧ (∀ x, z.1 = some x → x ∈ l) ∧ ∀ y, z.2 = some y → y ∈ m)
    (fun m z hz => by
      obtain ⟨y, hy, rfl⟩ := List.mem_map.1 hz
      exact ⟨.inr rfl, (fun x e => by cases e), (fun q e => by cases e; exact hy)⟩)
    (fun l z hz => by
      obtain ⟨y, hy, rfl⟩ := List.mem_map.1 hz
      exact ⟨.inl rfl, (fun q e => by cases e; exact hy), (fun x e => by cases e)⟩)
    (fun x l y m _ ih z hz => by
      rcases List.mem_cons.1 hz with rfl | hz
      · exact ⟨.inl rfl, (fun q e => by cases e; exact List.mem_cons_self), (fun q e => by cases e; exact List.mem_cons_self)⟩
      · obtain ⟨h1, h2, h3⟩ := ih z hz
        exact ⟨h1, fun q e => List.mem_cons_of_mem _ (h2 q e), fun q e => List.mem_cons_of_mem _ (h3 q e)⟩)
    (fun x l y m _ _ ih z hz => by
      rcases List.mem_cons.1 hz with rfl | hz
      · exact ⟨.inl rfl, (fun q e => by cases e; exact List.mem_cons_self), (fun q e => by cases e)⟩
      · obtain ⟨h1, h2, h3⟩ := ih z hz
        exact ⟨h1, fun q e => List.mem_cons_of_mem _ (h2 q e), h3⟩)
    (fun x l y m _ _ ih z hz => by
      rcases List.mem_cons.1 hz with rfl | hz
      · exact ⟨.inr rfl, (fun q e => by cases e), (fun q e => by cases e; exact List.mem_cons_self)⟩
      · obtain ⟨h1, h2, h3⟩ := ih z hz
        exact ⟨h1, h2, fun q e => List.mem_cons_of_mem _ (h3 q e)⟩)
def tD : Option Im × Option Im → Option Em
  | (some x, none) => some ⟨x.path, true, im0⟩
  | (none, some y) => some ⟨y.path, false, y⟩
  | (some x, some y) => if imSame x y = true then none else some ⟨y.path, false, y⟩
  | (none, none) => none
theorem tD_both (x y : Im) : tD (some x, some y) = if imSame x y = true then none else some ⟨y.path, false, y⟩ := rfl
def tA : Option Im × Option Em → Option Im
  | (_, some e) => if e.gone = true then none else some e.item
  | (x, none) => x
def tJ : Option Em × Option Em → Option Em
  | (_, some e) => some e
  | (x, none) => x
theorem same_im (x y : Im) : Dl.same x.it y.it = imSame x y := by
  rw [Bool.eq_iff_iff, Dl.same_iff, imSame_iff]
  exact ⟨Im.it_inj, fun e => by rw [e]⟩
theorem told {α β γ γ' : Type} {S : List α} {t : α → Option γ} {u : γ → γ'} {m : α → β} {t' : β → Option γ'} (h : ∀ z, t' (m z) = (t z).map u) : (S.map m).filterMap t' = (S.filterMap t).map u := by
  rw [List.filterMap_map, List.map_filterMap]
  congr 1
  funext z
  exact h z
theorem diff_told {a b : List Im} (ha : Wk.world (its a) = 0) (hb : Wk.world (its b) = 0) : Dl.diff (its a) (its b) = (edl ((Dl.side (fun x : Im => x.it.path) (fun y : Im => y.it.path) a b).filterMap tD), 0) := by
  rw [Dl.diff_side ha hb]
  have e := Dl.side_map (f := Wk.It.path) (g := Wk.It.path) Im.it Im.it a b
  rw [show Dl.side Wk.It.path Wk.It.path (its a) (its b) = _ from e]
  refine Prod.ext ?_ rfl
  refine told (u := Em.ed) fun z => ?_
  obtain ⟨x, y⟩ := z
  cases x with
  | none => cases y <;> rfl
  | some x =>
    cases y with
    | none => rfl
    | some y =>
      show (if Dl.same x.it y.it = true then _ else _) = _
      rw [same_im]
      show _ = (if imSame x y = true then none else some (⟨y.path, false, y⟩ : Em)).map Em.ed
      generalize imSame x y = q
      cases q <;> rfl
theorem app_told {a : List Im} {l : List Em} (ha : Wk.world (its a) = 0) (hl : Dl.check (edl l) = 0) : Dl.appL (its a) (edl l) = its ((Dl.side (fun x : Im => x.it.path) (fun y : Em => y.ed.path) a l).filterMap tA) := by
  rw [Dl.app_side ha hl]
  have e := Dl.side_map (f := Wk.It.path) (g := Dl.Ed.path) Im.it Em.ed a l
  rw [show Dl.side Wk.It.path Dl.Ed.path (its a) (edl l) = _ from e]
  refine told (u := Im.it) fun z => ?_
  obtain ⟨x, y⟩ := z
  cases y with
  | none => rfl
  | some y =>
    show (if y.gone = true then _ else _) = (if y.gone = true then _ else _ : Option Im).map Im.it
    cases y.gone <;> rfl
theorem join_told {l m : List Em} (hl : Dl.check (edl l) = 0) (hm : Dl.check (edl m) = 0) : Dl.joinL (edl l) (edl m) = edl ((Dl.side (fun x : Em => x.ed.path) (fun y : Em => y.ed.path) l m).filterMap tJ) := by
  rw [Dl.join_side hl hm]
  have e := Dl.side_map (f := Dl.Ed.path) (g := Dl.Ed.path) Em.ed Em.ed l m
  rw [show Dl.side Dl.Ed.path Dl.Ed.path (edl l) (edl m) = _ from e]
  refine told (u := Em.ed) fun z => ?_
  obtain ⟨x, y⟩ := z
  cases y with
  | none => rfl
  | some y => rfl
theorem told_step {α γ : Type} {S : List α} {t : α → Option γ} {k : Nat} {z : α} (h : S[k]? = some z) : (S.take (k + 1)).filterMap t = (S.take k).filterMap t ++ (t z).toList := by
  rw [List.take_add_one, h, List.filterMap_append]
  cases e : t z <;> simp [e]
theorem cmp_late (p q : Wk.Bs) : (0 ≤ Dl.cmp p q) ↔ (Nn.less p q).1 = false := by
  unfold Dl.cmp
  by_cases e : p = q
  · subst e
    rw [if_pos rfl]
    refine ⟨fun _ => ?_, fun _ => Int.le_refl _⟩
    unfold Nn.less
    split
    · rfl
    · exact Nn.ahead_irr _
  · rw [if_neg e]
    cases (Nn.less p q).1 with
    | true => exact ⟨fun h => absurd h (by decide), fun h => by cases h⟩
    | false => exact ⟨fun _ => rfl, fun _ => by decide⟩
def hasB (x : Em) : Bool := if x.gone = true then imSame x.item im0 else (x.item.path.toList == x.path.toList)
theorem eErr_has (x : Em) : Dl.eErr x.ed = if (Nn.split x.path.data.toList).2 ≠ 0 then (Nn.split x.path.data.toList).2 else if hasB x = false then 4 else 0 := by
  have h : ((x.ed.gone = true ∧ Dl.same x.ed.item Dl.it0 = false) ∨ (x.ed.gone = false ∧ x.ed.item.path ≠ x.ed.path)) ↔ hasB x = false := by
    obtain ⟨p, g, i⟩ := x
    cases g with
    | true =>
      show (true = true ∧ Dl.same i.it im0.it = false) ∨ (true = false ∧ _) ↔ imSame i im0 = false
      rw [same_im]
      exact ⟨fun h => h.elim And.right fun h => absurd h.1 (by decide), fun h => .inl ⟨rfl, h⟩⟩
    | false =>
      show (false = true ∧ _) ∨ (false = false ∧ i.path.data.toList ≠ p.data.toList) ↔ (i.path.toList == p.toList) = false
      rw [beq_eq_false_iff_ne, Lib.toList_data, Lib.toList_data]
      exact ⟨fun h => h.elim (fun h => absurd h.1 (by decide)) And.right, fun h => .inr ⟨rfl, h⟩⟩
  unfold Dl.eErr
  by_cases e : hasB x = false
  · rw [if_pos e, if_pos (h.2 e)]; rfl
  · rw [if_neg e, if_neg fun q => e (h.1 q)]; rfl
end Go.Proofs.YthpcbbkpjggjbaaGreatDoor
namespace Go.Proofs.YthpcbbkpjggjbaaGreatDoor
open Go.RowKit Go.ChangeShapes Go.WideShapes Go.Deep Go.Joins
set_option maxRecDepth 20000
section
variable {H : Type} {enc : TypeId × Value → H} {w : World} {base : Nat} {spare : Nat → Bool} {held : Bool}
theorem choose_row {α : Type} {q : Nat → α → Prop} : ∀ (n : Nat), (∀ i, i < n → ∃ t, q i t) → ∃ l : List α, l.length = n ∧ ∀ i t, l[i]? = some t → q i t
  | 0, _ => ⟨[], rfl, fun i t h => by simp at h⟩
  | n + 1, h => by
    obtain ⟨l, hl, hq⟩ := choose_row n fun i hi => h i (by omega)
    obtain ⟨t, ht⟩ := h n (by omega)
    refine ⟨l ++ [t], by simp [hl], fun i u hu => ?_⟩
    by_cases hi : i < n
    · rw [List.getElem?_append_left (by omega)] at hu
      exact hq i u hu
    · have : i = n := by
        have := (List.getElem?_eq_some_iff.1 hu).1
        simp at this
        omega
      subst this
      rw [List.getElem?_append_right (by omega), hl] at hu
      obtain rfl : t = u := by simpa using hu
      exact ht
theorem trod_arr_mk {P : Program} {t e : TypeId} {n m : Nat} {cs : List Value} {xs : List (DataW H × List MemPlace)} (ht : P.underlying t = some (.array n e)) (hl : cs.length = P.cellsOf t) (hx : xs.length = n)
    (h : ∀ i, i < n → DataW.trod enc P w base spare held m e ((cs.drop (i * P.cellsOf e)).take (P.cellsOf e)) = xs[i]?) : DataW.trod enc P w base spare held (m + 1) t cs = some (.agg (xs.map (·.1)), xs.flatMap (·.2)) := by
  unfold DataW.trod
  rw [ht]
  simp only [hl, if_true]
  rw [mapM_some_of_get (List.range n) xs (by rw [List.length_range, hx]) (fun i x hix => by
    obtain ⟨hi, rfl⟩ := List.getElem?_eq_some_iff.1 hix
    rw [List.getElem_range]
    exact h i (by simpa using hi))]
  rfl
def byD (H : Type) (b : UInt8) : DataW H := .lit (.int .u8 (b.toNat : Int))
theorem ce_id : Tryz.prog.cellsOf 39 = 8 := by kernel_rfl
theorem ce_u8 : Tryz.prog.cellsOf 5 = 1 := by kernel_rfl
theorem ce_int : Tryz.prog.cellsOf 3 = 1 := by kernel_rfl
theorem trod_id {l : List UInt8} (hl : l.length = 8) : DataW.trod enc Tryz.prog w base spare held 2 39 (l.map B) = some (.agg (l.map (byD H)), []) := by
  have hb : ∀ b : UInt8, (Lit.int .u8 (b.toNat : Int)).wf = true := fun b => by
    have := b.toNat_lt
    simp [Lit.wf, IntKind.min, IntKind.max, IntKind.signed, IntKind.bits]; omega
  have hlm : (l.map B).length = 8 := by rw [List.length_map, hl]
  have := trod_arr_mk (enc := enc) (w := w) (base := base) (spare := spare) (held := held) (m := 1) (xs := l.map (fun b => (byD H b, ([] : List MemPlace)))) (show Tryz.prog.underlying 39 = some (.array 8 5) from by kernel_rfl) (by rw [ce_id, hlm]) (by rw [List.length_map, hl]) (fun j hj => by
    rw [ce_u8, Nat.mul_one]
    have hjl : j < l.length := by omega
    rw [List.getElem?_map, List.getElem?_eq_getElem hjl]
    have hd : ((l.map B).drop j).take 1 = [B l[j]] := by
      rw [List.drop_eq_getElem_cons (by rw [List.length_map]; exact hjl), List.getElem_map]; rfl
    rw [hd]
    exact trod_int_mk 0 Tryz.underlying5 (hb l[j]))
  rw [this, List.map_map]
  simp [Function.comp_def]
end
end Go.Proofs.YthpcbbkpjggjbaaGreatDoor
namespace Go.Proofs.YthpcbbkpjggjbaaGreatDoor
open Go.RowKit Go.ChangeShapes Go.WideShapes Go.Deep Go.Joins
set_option maxRecDepth 20000
def BOk (l : List Blb) : Prop := ∀ b ∈ l, (Lit.int .i64 b.kind).wf = true ∧ b.bytes.size ≤ 9223372036854775807
section
variable {H : Type} {enc : TypeId × Value → H} {w : World} {base : Nat} {spare : Nat → Bool} {held : Bool}
end
end Go.Proofs.YthpcbbkpjggjbaaGreatDoor
namespace Go.Proofs.YthpcbbkpjggjbaaGreatDoor
open Go.RowKit Go.WideMaps
open Go.Maps (Keyed IsMap)
set_option maxRecDepth 20000
theorem laid_out : laidOutB Tryz.prog = true := by kernel_rfl
theorem id_row : (39 : TypeId) < Tryz.prog.types.size := of_decide_eq_true (by kernel_rfl)
theorem id_under : Tryz.prog.underlying 39 = some (.array 8 5) := by kernel_rfl
theorem id_wide : (match Tryz.prog.underlying 39 with | some (.array _ _) | some (.struct _) => true | _ => false) = true := by rw [id_under]
theorem id_law : KeyLaw Tryz.prog 39 := deep_law_laid laid_out (m := 2) (by omega) id_row (by kernel_rfl) id_wide
theorem id_keyed : Keyed Tryz.prog 39 := Keyed.of_law id_law
theorem id_arr : ArrKey Tryz.prog 39 5 8 := ⟨id_under, by kernel_rfl, by kernel_rfl, ce_id⟩
theorem some_types : ∃ m, Tryz.prog.types.size = m + 1 := ⟨_, (Nat.succ_pred_eq_of_pos (Nat.lt_of_le_of_lt (Nat.zero_le _) id_row)).symm⟩
theorem key_there {x : List UInt8} (hx : x.length = 8) : ∃ l, keyOf Tryz.prog 39 (.agg (x.map B).toArray) = some l := by
  obtain ⟨ls, _, _, h⟩ := open_arr (H := Unit) (enc := fun _ => ()) (W := World.settled Tryz.prog default) (base := 0) (sp := fun _ => true) (held := true) id_arr Tryz.underlying5 some_types (xs := (x.map B).toArray) (by simp [hx]) ⟨2, by
    have := trod_id (H := Unit) (enc := fun _ => ()) (w := World.settled Tryz.prog default) (base := 0) (spare := fun _ => true) (held := true) hx
    simpa [Value.cells] using this⟩
  exact ⟨_, h⟩
def kl (P : Program) (x : List UInt8) : Lit := (keyOf P 39 (.agg (x.map B).toArray)).getD (.bool false)
theorem kl_key {x : List UInt8} (hx : x.length = 8) : keyOf Tryz.prog 39 (.agg (x.map B).toArray) = some (kl Tryz.prog x) := by
  obtain ⟨l, h⟩ := key_there hx
  rw [kl, h]; rfl
theorem B_inj {a b : UInt8} (h : B a = B b) : a = b := by
  simp only [B, Value.int.injEq, true_and] at h
  exact UInt8.toNat_inj.1 (by exact_mod_cast h)
theorem idV_inj {x y : List UInt8} (h : (Value.agg (x.map B).toArray) = .agg (y.map B).toArray) : x = y := by
  have h := congrArg Array.toList (Value.agg.inj h)
  have h : x.map B = y.map B := h
  exact (List.map_inj_right fun _ _ => B_inj).1 h
theorem kl_inj {x y : List UInt8} (hx : x.length = 8) (hy : y.length = 8) (h : kl Tryz.prog x = kl Tryz.prog y) : x = y := by
  have h1 := kl_key hx
  have h2 := kl_key hy
  rw [h] at h1
  exact idV_inj (id_keyed.inj h1 h2)
def heldE (v : Value) : Option (DataW Value × List MemPlace) := some (.held v, [])
theorem heldE_inv {v z : Value} {ps : List MemPlace} (h : heldE v = some (.held z, ps)) : v = z := by
  simp only [heldE, Option.some.injEq, Prod.mk.injEq, DataW.held.injEq] at h
  exact h.1
def Mp (w : World) (b n : Nat) (l : List (List UInt8 × Value)) : Prop :=
  ∃ D, w.ownsMap Tryz.prog 39 heldE b n D ∧ (∀ x, x.length = 8 → x ∉ l.map (·.1) → Maps.has D (kl Tryz.prog x) = false) ∧ ∀ p ∈ l, p.1.length = 8 ∧ Maps.has D (kl Tryz.prog p.1) = true ∧ ∀ z, D.atKey (kl Tryz.prog p.1) z = .held p.2
theorem Mp.new (w : World) : Mp (w.alloc (.map #[] 0)) w.heap.size 0 [] :=
  ⟨_, World.ownsMap_made w Tryz.prog 39 heldE, fun _ _ _ => rfl, fun p hp => by simp at hp⟩
theorem Mp.lt {w : World} {b n : Nat} {l : List (List UInt8 × Value)} (h : Mp w b n l) : b < w.heap.size := by
  obtain ⟨D, h, _⟩ := h
  exact h.lt
theorem Mp.kept {p : Nat → Prop} {w w' : World} {b n : Nat} {l : List (List UInt8 × Value)} (h : Mp w b n l) (hk : Kept p w w') (hp : p b) : Mp w' b n l := by
  obtain ⟨D, h, h2⟩ := h
  have hlt := h.lt
  obtain ⟨es, clock, hb, F, hs, hD⟩ := h
  exact ⟨D, ⟨es, clock, (hk.block b hlt hp).trans hb, F, hs, hD⟩, h2⟩
theorem Mp.below {w w' : World} {b n : Nat} {l : List (List UInt8 × Value)} (h : Mp w b n l) (hb : Below w.heap.size w w') : Mp w' b n l := h.kept (Kept.of_below (p := fun _ => True) hb) trivial
theorem Mp.miss {w : World} {b n : Nat} {l : List (List UInt8 × Value)} (h : Mp w b n l) {t e : TypeId} (ht : Tryz.prog.underlying t = some (.map 39 e)) {z : Value} (hz : (zeroValue e).run Tryz.prog w = .ok z w) {x : List UInt8} (hx : x.length = 8) (hn : x ∉ l.map (·.1)) :
    (Instr.lookup t (.map (some b)) (.agg (x.map B).toArray) true).run Tryz.prog w = .ok (.tuple #[z, .bool false]) w := by
  obtain ⟨D, h, h1, h2⟩ := h
  obtain ⟨v, ps, hr, hv⟩ := h.look_ok id_keyed ht hz (zd := .held z) (zp := []) rfl (kl_key hx)
  rw [h1 x hx hn] at hr
  rw [Maps.atKey_of_not_has (h1 x hx hn)] at hv
  rw [hr, heldE_inv hv]
theorem Mp.hit {w : World} {b n : Nat} {l : List (List UInt8 × Value)} (h : Mp w b n l) {t e : TypeId} (ht : Tryz.prog.underlying t = some (.map 39 e)) {z : Value} (hz : (zeroValue e).run Tryz.prog w = .ok z w) {p : List UInt8 × Value} (hp : p ∈ l) :
    (Instr.lookup t (.map (some b)) (.agg (p.1.map B).toArray) true).run Tryz.prog w = .ok (.tuple #[p.2, .bool true]) w := by
  obtain ⟨D, h, h1, h2⟩ := h
  obtain ⟨hx, h3, h4⟩ := h2 p hp
  obtain ⟨v, ps, hr, hv⟩ := h.look_ok id_keyed ht hz (zd := .held z) (zp := []) rfl (kl_key hx)
  rw [h3] at hr
  rw [h4] at hv
  rw [hr, heldE_inv hv]
end Go.Proofs.YthpcbbkpjggjbaaGreatDoor
namespace Go.Proofs.YthpcbbkpjggjbaaGreatDoor
open Go.RowKit Go.WideMaps
open Go.Maps (Keyed IsMap)
set_option maxRecDepth 20000
theorem Mp.set {w : World} {b n : Nat} {l l' : List (List UInt8 × Value)} (h : Mp w b n l) {t e : TypeId} (ht : Tryz.prog.underlying t = some (.map 39 e)) {x : List UInt8} (hx : x.length = 8) (hm : n < 1000000000) (v : Value)
    (hl : (x ∉ l.map (·.1) ∧ l' = l ++ [(x, v)]) ∨ ((x, v) ∈ l ∧ l' = l)) :
    ∃ w', (Instr.mapUpdate t (.map (some b)) (.agg (x.map B).toArray) v).run Tryz.prog w = .ok () w' ∧ Mp w' b (n + 1) l' ∧ w.grownBy w' (some b) := by
  obtain ⟨D, h, h1, h2⟩ := h
  have hI := h.isMap
  obtain ⟨w', hr, ho, hg⟩ := h.update id_keyed ht (by unfold maxLen; omega) (d := .held v) (ps := []) (kl_key hx) rfl
  refine ⟨w', hr, ⟨_, ho, fun y hy hny => ?_, fun p hp => ?_⟩, hg⟩
  · have hne : y ≠ x := by
      rintro rfl
      rcases hl with ⟨_, rfl⟩ | ⟨hm, rfl⟩
      · exact hny (by simp)
      · exact hny (List.mem_map_of_mem hm)
    rw [Maps.has_put_other (fun e => hne (kl_inj hy hx e))]
    refine h1 y hy ?_
    rcases hl with ⟨_, rfl⟩ | ⟨hm, rfl⟩
    · intro hm
      exact hny (by rw [List.map_append]; exact List.mem_append_left _ hm)
    · exact hny
  · by_cases e : p.1 = x
    · have hpv : p.2 = v := by
        rcases hl with ⟨hn, rfl⟩ | ⟨hm, rfl⟩
        · rcases List.mem_append.1 hp with hp | hp
          · exact absurd (by rw [← e]; exact List.mem_map_of_mem hp) hn
          · rw [List.mem_singleton.1 hp]
        · have a1 := (h2 p hp).2.2 (.held v)
          have a2 := (h2 _ hm).2.2 (.held v)
          rw [e] at a1
          have := a1.symm.trans a2
          exact DataW.held.inj this
      rw [e, hpv]
      exact ⟨hx, Maps.has_put_same hI (id_keyed.key (kl_key hx)) _, fun z => Maps.atKey_put_same hI (id_keyed.key (kl_key hx)) _ z⟩
    · have hp' : p ∈ l := by
        rcases hl with ⟨hn, rfl⟩ | ⟨hm, rfl⟩
        · rcases List.mem_append.1 hp with hp | hp
          · exact hp
          · exact absurd (congrArg Prod.fst (List.mem_singleton.1 hp)) e
        · exact hp
      obtain ⟨q1, q2, q3⟩ := h2 p hp'
      have hk : kl Tryz.prog p.1 ≠ kl Tryz.prog x := fun f => e (kl_inj q1 hx f)
      exact ⟨q1, by rw [Maps.has_put_other hk]; exact q2, fun z => by rw [Maps.atKey_put_other hk]; exact q3 z⟩
theorem Mp.obj {w W : World} {b n : Nat} {l : List (List UInt8 × Value)} (h : Mp w b n l) (ho : ∀ es c, w.heap[b]? = some (.map es c) → W.heap[b]? = some (.map es c)) : Mp W b n l := by
  obtain ⟨D, h, h2⟩ := h
  obtain ⟨es, clock, hb, F, hs, hD⟩ := h
  exact ⟨D, ⟨es, clock, ho es clock hb, F, hs, hD⟩, h2⟩
theorem Mp.isMap {w : World} {b n : Nat} {l : List (List UInt8 × Value)} (h : Mp w b n l) : ∃ es c, w.heap[b]? = some (.map es c) := by
  obtain ⟨D, ⟨es, clock, hb, F, hs, hD⟩, h2⟩ := h
  exact ⟨es, clock, hb⟩
def mpB (bs : List Blb) : List (List UInt8 × Value) := bs.map fun x => (Pk.bid x.p, blV x)
theorem mpB_keys (bs : List Blb) : (mpB bs).map (·.1) = (bs.map Blb.p).map Pk.bid := by simp [mpB]
def pl (bs : List Blb) : List Pk.Bl := bs.map Blb.p
theorem pl_snoc (bs : List Blb) (b : Blb) : pl (bs ++ [b]) = pl bs ++ [b.p] := by simp [pl]
theorem mpB_snoc (bs : List Blb) (b : Blb) : mpB (bs ++ [b]) = mpB bs ++ [(Pk.bid b.p, blV b)] := by simp [mpB]
theorem find_bid (bs : List Blb) (id : List UInt8) :
    ((pl bs).find? (fun x => Pk.bid x == id) = none ∧ id ∉ (mpB bs).map (·.1)) ∨ ∃ o ∈ bs, (pl bs).find? (fun x => Pk.bid x == id) = some o.p ∧ (id, blV o) ∈ mpB bs := by
  cases h : (pl bs).find? (fun x => Pk.bid x == id) with
  | none =>
    refine .inl ⟨rfl, fun hm => ?_⟩
    rw [mpB_keys] at hm
    obtain ⟨x, hx, e⟩ := List.mem_map.1 hm
    have := List.find?_eq_none.1 h x hx
    simp [e] at this
  | some x =>
    have hx := List.mem_of_find?_eq_some h
    have he : Pk.bid x = id := by simpa using List.find?_some h
    obtain ⟨o, ho, rfl⟩ := List.mem_map.1 hx
    refine .inr ⟨o, ho, rfl, ?_⟩
    rw [← he]
    exact List.mem_map_of_mem ho
end Go.Proofs.YthpcbbkpjggjbaaGreatDoor
namespace Go.Proofs.YthpcbbkpjggjbaaGreatDoor
open Go.RowKit
set_option maxRecDepth 4000
theorem mul_wrap (a b : Nat) : IntKind.u64.wrap ((a : Int) * (b : Int)) = (Mx.prod a b : Nat) := by
  rw [← Int.natCast_mul, wrap_u64_mod]; rfl
theorem mul_a (a : Nat) : IntKind.u64.wrap ((a : Int) * 11400714819323198485) = (Mx.prod a 11400714819323198485 : Nat) := mul_wrap a 11400714819323198485
theorem mul_b (a : Nat) : IntKind.u64.wrap ((a : Int) * 13787848793156543929) = (Mx.prod a 13787848793156543929 : Nat) := mul_wrap a 13787848793156543929
set_option maxHeartbeats 400000 in
theorem step_any (x b : Nat) (w : World) (hx : x < 18446744073709551616) (hb : b < 18446744073709551616) :
    Calls Tryz.prog 127 #[.int .u64 x, .int .u64 b] w fun e w' => e = .returned (.int .u64 (Mx.step x b : Nat)) ∧ Below w.heap.size w w' := by
  have h1 := u64_xor_nat x b hx hb
  go_enter Tryz.func127, Tryz.ntmps127
  go_wp2
  go_ret
  refine ⟨ret_int ?_, Below.refl _ _⟩
  rw [mul_a, xs_int29 _ (Mx.prod_lt _ _), mul_b, xs_int32 _ (Mx.prod_lt _ _), Mx.step]
end Go.Proofs.YthpcbbkpjggjbaaGreatDoor
namespace Go.Proofs.YthpcbbkpjggjbaaGreatDoor
open Go.RowKit
set_option maxRecDepth 4000
theorem or_hi (a b : Nat) (hb : b < 256) : 256 * a ||| b = 256 * a + b := by
  have h := Nat.two_pow_add_eq_or_of_lt (i := 8) (b := b) (by simpa using hb) a
  simpa using h.symm
theorem hi_or (l : List UInt8) (i c b : Nat) (hc : c < 8) (hb : b = Mx.byteAt l (8 * i + (7 - c))) :
    bits .or .u64 (IntKind.u64.wrap ((Mx.hi l i c : Int) * 256)) (IntKind.u64.wrap (b : Int)) = (Mx.hi l i (c + 1) : Nat) := by
  have h1 := Mx.hi_lt l i (c + 1)
  have h2 : 256 ^ (c + 1) ≤ 256 ^ 8 := Nat.pow_le_pow_right (by omega) (by omega)
  have h3 : (256 : Nat) ^ 8 = 18446744073709551616 := by decide
  have h4 := Mx.byteAt_lt l (8 * i + (7 - c))
  rw [Mx.hi] at *
  rw [← hb] at *
  rw [show (Mx.hi l i c : Int) * 256 = ((256 * Mx.hi l i c : Nat) : Int) from by omega, wrap_u64 _ (by omega) (by omega), wrap_u64 _ (by omega) (by omega), u64_or_nat _ _ (by omega) (by omega), or_hi _ _ (by omega)]
theorem hi_past (l : List UInt8) : ∀ c, c + l.length ≤ 8 → Mx.hi l 0 c = 0
  | 0, _ => rfl
  | c + 1, h => by rw [Mx.hi, hi_past l c (by omega), Mx.byteAt_past (by omega)]
theorem mx_byte_get (t : ByteArray) (k : Nat) (h : k < t.size) : t[k].toNat = Mx.byteAt t.data.toList k := by
  rw [Mx.byteAt, List.getD_eq_getElem?_getD, List.getElem?_eq_getElem (by simpa using h)]
  rfl
set_option maxHeartbeats 400000 in
theorem mx_read_any (t : ByteArray) (w : World) (ht : t.size ≤ 8) :
    Calls Tryz.prog 128 #[.string t] w fun e w' => e = .returned (.int .u64 (Mx.blk t.data.toList 0 : Nat)) ∧ w' = w := by
  have hl : t.data.toList.length = t.size := by rw [← Lib.size_eq]
  have H0 : Hid (Mx.hi t.data.toList 0 (8 - t.size) = 0) := hi_past _ _ (by omega)
  have HB : Hid (∀ k (h : k < t.size), t[k].toNat = Mx.byteAt t.data.toList k) := mx_byte_get t
  clear hl
  go_enter Tryz.func128, Tryz.ntmps128
  go_wp2
  go_loop [3, 4] (fun b i => ∃ d : Nat, d ≤ t.size ∧ i = .int .i64 ((t.size : Int) - 1 - (d : Int)) ∧ b = .int .u64 (Mx.hi t.data.toList 0 (8 - t.size + d) : Nat)) (fun _ i => (intOf i + 1).toNat)
  case atStart => exact ⟨0, by omega, int_eq (by omega), by rw [Nat.add_zero, H0.out]; rfl⟩
  case round =>
    obtain ⟨d, hd, rfl, rfl⟩ := hrel
    by_cases hlt : d < t.size
    · obtain ⟨k, hk⟩ : ∃ k, k = t.size - 1 - d := ⟨_, rfl⟩
      have hkI : (t.size : Int) - 1 - (d : Int) = (k : Int) := by omega
      have hkl : k < t.size := by omega
      have HO : Hid (bits .or .u64 (IntKind.u64.wrap ((Mx.hi t.data.toList 0 (8 - t.size + d) : Int) * 256)) (IntKind.u64.wrap (t[k].toNat : Int)) = (Mx.hi t.data.toList 0 (8 - t.size + d + 1) : Nat)) :=
        hi_or _ 0 _ _ (by omega) (by rw [HB.out k hkl, show 8 * 0 + (7 - (8 - t.size + d)) = k from by omega])
      go_wp2
      go_round
      case rel => subst hk; exact ⟨d + 1, by omega, int_eq (by omega), int_eq HO.out⟩
      case measure => simp only [intOf]; omega
    · obtain rfl : d = t.size := by omega
      go_wp2
      go_ret
      exact ⟨rfl, rfl⟩
theorem blk_of {l l' : List UInt8} {i i' : Nat} (h : ∀ j, j < 8 → Mx.byteAt l (8 * i + j) = Mx.byteAt l' (8 * i' + j)) : Mx.blk l i = Mx.blk l' i' := by
  have key : ∀ c, c ≤ 8 → Mx.hi l i c = Mx.hi l' i' c := by
    intro c
    induction c with
    | zero => intro _; rfl
    | succ c ih => intro hc; rw [Mx.hi, Mx.hi, ih (by omega), h (7 - c) (by omega)]
  exact key 8 (Nat.le_refl _)
theorem blk_extract (s : ByteArray) (i e : Nat) (he : e = min (8 * i + 8) s.size) : Mx.blk (s.extract (8 * i) e).data.toList 0 = Mx.blk s.data.toList i := by
  apply blk_of
  intro j hj
  have hl : s.data.toList.length = s.size := by rw [← Lib.size_eq]
  rw [Lib.extract_data, Nat.mul_zero, Nat.zero_add]
  unfold Mx.byteAt
  rw [List.getD_eq_getElem?_getD, List.getD_eq_getElem?_getD]
  by_cases h : 8 * i + j < s.size
  · rw [List.getElem?_take_of_lt (by omega), List.getElem?_drop]
  · rw [List.getElem?_eq_none (l := s.data.toList) (by omega), List.getElem?_eq_none (by rw [List.length_take]; omega)]
theorem kept_nat (W : Nat) (hW : W ≤ 64) : (18446744073709551615 : Int) / 2 ^ (64 - W) = ((2 ^ W - 1 : Nat) : Int) := by
  have h : (18446744073709551616 : Nat) = 2 ^ W * 2 ^ (64 - W) := by rw [← Nat.pow_add, show W + (64 - W) = 64 from by omega]
  have hp := Nat.two_pow_pos (64 - W)
  have hq := Nat.two_pow_pos W
  rw [show (2 : Int) ^ (64 - W) = ((2 ^ (64 - W) : Nat) : Int) from by simp, show (18446744073709551615 : Int) = ((18446744073709551615 : Nat) : Int) from rfl, ← Int.natCast_ediv]
  congr 1
  generalize 2 ^ (64 - W) = p at *
  generalize 2 ^ W = q at *
  apply Nat.div_eq_of_lt_le
  · rw [Nat.sub_mul, ← h, Nat.one_mul]; omega
  · rw [show q - 1 + 1 = q from by omega, ← h]; omega
theorem and_cut (W y : Nat) (hW : W ≤ 64) (hy : y < 18446744073709551616) : bits .and .u64 (y : Int) ((2 ^ W - 1 : Nat) : Int) = (Mx.cut W y : Nat) := by
  have hq : 2 ^ W ≤ 2 ^ 64 := Nat.pow_le_pow_right (by omega) hW
  have h64 : (2 : Nat) ^ 64 = 18446744073709551616 := by decide
  have hp := Nat.two_pow_pos W
  rw [u64_and_nat _ _ hy (by omega), Nat.and_two_pow_sub_one_eq_mod, Mx.cut]
set_option maxHeartbeats 1000000 in
theorem digest_any (W : Nat) (s : ByteArray) (w : World) (h1 : 1 ≤ W) (hW : W ≤ 64) (hs : s.size ≤ 140737488351232) :
    Calls Tryz.prog 115 #[.string s, .int .i64 W] w fun e w' => e = .returned (.int .u64 (Mx.narrow W s.data.toList : Nat)) ∧ Below w.heap.size w w' := by
  obtain ⟨n, hn⟩ : ∃ n, n = (s.size + 7) / 8 := ⟨_, rfl⟩
  have HN : Hid (Mx.narrow W s.data.toList = Mx.cut W (Mx.step (Mx.chain W s.data.toList n) s.size)) := by show _ = _; rw [Mx.narrow, hn, ← Lib.size_eq]
  have hk := kept_nat W hW
  have HAC : Hid (∀ y : Nat, y < 18446744073709551616 → bits .and .u64 (y : Int) ((2 ^ W - 1 : Nat) : Int) = (Mx.cut W y : Nat)) := fun y hy => and_cut W y hW hy
  generalize hK : 2 ^ W - 1 = K at *
  clear hK
  go_enter Tryz.func115, Tryz.ntmps115
  go_wp2_with fail
  go_loopw [6, 7] (fun x a wr => ∃ i : Nat, i ≤ n ∧ a = .int .i64 (8 * (i : Int)) ∧ x = .int .u64 (Mx.chain W s.data.toList i : Nat) ∧ Below w.heap.size w wr) (fun _ a _ => 8 * n - (intOf a).toNat)
  case atStart => exact ⟨0, by omega, rfl, rfl, Below.refl _ _⟩
  case round =>
    obtain ⟨i, hi, rfl, rfl, hbel⟩ := hrel
    have hX := Mx.chain_lt W s.data.toList i
    by_cases hlt : i < n
    · have hlI : 8 * (i : Int) < (s.size : Int) := by omega
      have hex : (s.extract (8 * i) (min (8 * (i : Int) + 8) (s.size : Int)).toNat).size ≤ 8 := by rw [ByteArray.size_extract]; omega
      have hbk := blk_extract s i (min (8 * (i : Int) + 8) (s.size : Int)).toNat (by omega)
      have hbl := Mx.blk_lt s.data.toList i
      have hac := HAC.out _ (Mx.step_lt (Mx.chain W s.data.toList i) (Mx.blk s.data.toList i))
      rw [← Mx.chain] at hac
      go_wp2_with fail
      refine (mx_read_any _ _ hex).mono ?_
      rintro e w1 ⟨rfl, rfl⟩
      rw [hbk]
      go_wp2_with fail
      refine (step_any _ _ _ hX hbl).mono ?_
      rintro e w2 ⟨rfl, hb2⟩
      have hB2 := hbel.trans (hb2.mono hbel.size)
      clear hb2 hbel
      go_wp2_with fail
      go_round
      case rel => exact ⟨i + 1, by omega, int_eq (by omega), rfl, hB2⟩
      case measure => simp only [intOf]; omega
    · have hac := HAC.out _ (Mx.step_lt (Mx.chain W s.data.toList i) s.size)
      rw [← show Mx.narrow W s.data.toList = Mx.cut W (Mx.step (Mx.chain W s.data.toList i) s.size) from by rw [HN.out, show n = i from by omega]] at hac
      have h8 : (s.size : Int) ≤ 8 * (i : Int) := by omega
      clear hn hlt hi
      have hsl : s.size < 18446744073709551616 := by omega
      go_wp2_with fail
      refine (step_any (Mx.chain W s.data.toList i) s.size wr hX hsl).mono ?_
      rintro e w2 ⟨rfl, hb2⟩
      have hB2 := hbel.trans (hb2.mono hbel.size)
      clear hb2 hbel
      go_wp2_with fail
      go_ret
      exact ⟨rfl, hB2⟩
set_option maxHeartbeats 400000 in
theorem sum_any (s : ByteArray) (w : World) (hs : s.size ≤ 140737488351232) :
    Calls Tryz.prog 101 #[.string s] w fun e w' => e = .returned (.int .u64 (Mx.narrow 64 s.data.toList : Nat)) ∧ Below w.heap.size w w' := by
  go_enter Tryz.func101, Tryz.ntmps101
  go_wp2_with fail
  refine (digest_any 64 s _ (by omega) (by omega) hs).mono ?_
  rintro e w2 ⟨rfl, hb2⟩
  go_wp2_with fail
  go_ret
  exact ⟨rfl, hb2⟩
end Go.Proofs.YthpcbbkpjggjbaaGreatDoor
namespace Go.Proofs.YthpcbbkpjggjbaaGreatDoor
open Go.RowKit
set_option maxRecDepth 4000
def idAt (l : List UInt8) (d j : Nat) : Int := if 8 - d ≤ j then ((l.getD j 0).toNat : Int) else 0
theorem low8_get (N d : Nat) (hd : d < 8) : (Nm.low 8 N).getD (7 - d) 0 = UInt8.ofNat (N / 256 ^ d % 256) := by
  match d, hd with
  | 0, _ => rfl
  | 1, _ => rfl
  | 2, _ => rfl
  | 3, _ => rfl
  | 4, _ => rfl
  | 5, _ => rfl
  | 6, _ => rfl
  | 7, _ => rfl
theorem idAt_new (N d : Nat) (hd : d < 8) : ((N / 256 ^ d : Nat) : Int) % 256 = idAt (Nm.low 8 N) (d + 1) (7 - d) := by
  rw [idAt, if_pos (by omega), low8_get N d hd, UInt8.toNat_ofNat']
  omega
theorem id_step {l : List UInt8} {d G : Nat} {w : World} {c : Int} (hd : d < 8) (hc : c = idAt l (d + 1) (7 - d)) (h : ∀ j, j < 8 → w.cell? ⟨G, j, none⟩ = some (.int .u8 (idAt l d j))) :
    ∀ j, j < 8 → (w.setCell ⟨G, 7 - d, none⟩ (.int .u8 c)).cell? ⟨G, j, none⟩ = some (.int .u8 (idAt l (d + 1) j)) := by
  intro j hj
  by_cases e : j = 7 - d
  · subst e
    rw [World.cell?_setCell_same _ _ _ (h _ hj), hc]
  · rw [World.cell?_setCell_other _ _ _ _ (by intro h; exact e (congrArg Addr.off h).symm), h j hj, idAt, idAt]
    by_cases hjk : 8 - d ≤ j
    · rw [if_pos hjk, if_pos (by omega)]
    · rw [if_neg hjk, if_neg (by omega)]
set_option maxHeartbeats 1000000 in
theorem id_of (N : Nat) (b0 b1 b2 b3 b4 b5 b6 b7 : UInt8) (s : ByteArray) (w : World) (hL : Nm.low 8 N = [b0, b1, b2, b3, b4, b5, b6, b7])
    (hn : ∀ W, Calls Tryz.prog 101 #[.string s] W fun e w' => e = .returned (.int .u64 N) ∧ Below W.heap.size W w') :
    Calls Tryz.prog 82 #[.string s] w fun e w' => e = .returned (.agg #[B b0, B b1, B b2, B b3, B b4, B b5, B b6, B b7]) ∧ Below w.heap.size w w' := by
  have HW : Hid (∀ d, d < 8 → ((N / 256 ^ d : Nat) : Int) % 256 = idAt (Nm.low 8 N) (d + 1) (7 - d)) := idAt_new N
  rw [hL] at HW
  clear hL
  go_enter Tryz.func82, Tryz.ntmps82
  go_wp2_with fail
  refine (hn _).mono ?_
  rintro e w1 ⟨rfl, hb1⟩
  have HB1 : Hid (Below w.heap.size w w1) := ((((Below.refl _ w).alloc (Nat.le_refl _) _).alloc (by simp) _)).trans (hb1.mono (by simp; omega))
  have HC : Hid (∀ j, j < 8 → w1.cell? ⟨w.heap.size + 1, j, none⟩ = some (.int .u8 (idAt [b0, b1, b2, b3, b4, b5, b6, b7] 0 j))) := fun j hj => by
    rw [idAt, if_neg (by omega)]
    refine (hb1.cell (p := ⟨w.heap.size + 1, j, none⟩) (by simp)).trans ?_
    match j, hj with
    | 0, _ => simp
    | 1, _ => simp
    | 2, _ => simp
    | 3, _ => simp
    | 4, _ => simp
    | 5, _ => simp
    | 6, _ => simp
    | 7, _ => simp
  have HF : Hid (∀ j, j < 8 → w1.frozen? ⟨w.heap.size + 1, j, none⟩ = false) := fun j hj =>
    (hb1.frozen (p := ⟨w.heap.size + 1, j, none⟩) (by simp)).trans (by simp)
  have HC0 : Hid (∀ j, j < 8 → w1.cell? ⟨w.heap.size, j, none⟩ = some (.int .u8 0)) := fun j hj => by
    refine (hb1.cell (p := ⟨w.heap.size, j, none⟩) (by simp; omega)).trans ?_
    match j, hj with
    | 0, _ => simp
    | 1, _ => simp
    | 2, _ => simp
    | 3, _ => simp
    | 4, _ => simp
    | 5, _ => simp
    | 6, _ => simp
    | 7, _ => simp
  have HF0 : Hid (∀ j, j < 8 → w1.frozen? ⟨w.heap.size, j, none⟩ = false) := fun j hj =>
    (hb1.frozen (p := ⟨w.heap.size, j, none⟩) (by simp; omega)).trans (by simp)
  clear hb1 hn
  go_wp2_with fail
  go_loopw [4, 5] (fun n i wr => ∃ d : Nat, d ≤ 8 ∧ n = .int .u64 ((N / 256 ^ d : Nat) : Int) ∧ i = .int .i64 (7 - (d : Int)) ∧ Hid (∀ j, j < 8 → wr.cell? ⟨w.heap.size + 1, j, none⟩ = some (.int .u8 (idAt [b0, b1, b2, b3, b4, b5, b6, b7] d j))) ∧
      Hid (∀ j, j < 8 → wr.frozen? ⟨w.heap.size + 1, j, none⟩ = false) ∧ Hid (∀ j, j < 8 → wr.cell? ⟨w.heap.size, j, none⟩ = some (.int .u8 0)) ∧ Hid (∀ j, j < 8 → wr.frozen? ⟨w.heap.size, j, none⟩ = false) ∧ Hid (Below w.heap.size w wr)) (fun _ i _ => (intOf i + 1).toNat)
  case atStart => exact ⟨0, by omega, by simp, rfl, HC, HF, HC0, HF0, HB1⟩
  case round =>
    obtain ⟨d, hd, rfl, rfl, hc, hf, hc0, hf0, hb⟩ := hrel
    clear HC HF HC0 HF0 HB1
    by_cases hlt : d < 8
    · have hst := id_step (G := w.heap.size + 1) (w := wr) hlt (HW.out d hlt) hc.out
      have HS : Hid (∀ j, j < 8 → (wr.setCell ⟨w.heap.size + 1, 7 - d, none⟩ (.int .u8 (((N / 256 ^ d : Nat) : Int) % 256))).cell? ⟨w.heap.size + 1, j, none⟩ = some (.int .u8 (idAt [b0, b1, b2, b3, b4, b5, b6, b7] (d + 1) j))) := hst
      clear hst
      have hq : ((N / 256 ^ d : Nat) : Int) / 256 = ((N / 256 ^ (d + 1) : Nat) : Int) := by
        rw [Nat.pow_succ, ← Nat.div_div_eq_div_mul]; omega
      have HQ : Hid (((N / 256 ^ d : Nat) : Int) / 256 = ((N / 256 ^ (d + 1) : Nat) : Int)) := hq
      clear hq
      have hkI : 7 - (d : Int) = ((7 - d : Nat) : Int) := by omega
      have hck := hc.out (7 - d) (by omega)
      have hfk := hf.out (7 - d) (by omega)
      generalize N / 256 ^ d = M at *
      go_wp2_with fail
      go_round
      case rel =>
        refine ⟨d + 1, by omega, int_eq HQ.out, int_eq (by omega), HS, ?_, ?_, ?_, ?_⟩
        · intro j hj
          simpa using hf.out j hj
        · intro j hj
          rw [World.cell?_setCell_other _ _ _ _ (by intro h; have := congrArg Addr.block h; simp at this)]
          exact hc0.out j hj
        · intro j hj
          simpa using hf0.out j hj
        · exact hb.out.setCell (by simp) _
      case measure => simp only [intOf]; omega
    · obtain rfl : d = 8 := by omega
      have c0 : wr.cell? ⟨w.heap.size + 1, 0, none⟩ = some (.int .u8 (b0.toNat : Int)) := hc.out 0 (by omega)
      have d0 := hc0.out 0 (by omega)
      have f0 := hf0.out 0 (by omega)
      have c1 : wr.cell? ⟨w.heap.size + 1, 1, none⟩ = some (.int .u8 (b1.toNat : Int)) := hc.out 1 (by omega)
      have d1 := hc0.out 1 (by omega)
      have f1 := hf0.out 1 (by omega)
      have c2 : wr.cell? ⟨w.heap.size + 1, 2, none⟩ = some (.int .u8 (b2.toNat : Int)) := hc.out 2 (by omega)
      have d2 := hc0.out 2 (by omega)
      have f2 := hf0.out 2 (by omega)
      have c3 : wr.cell? ⟨w.heap.size + 1, 3, none⟩ = some (.int .u8 (b3.toNat : Int)) := hc.out 3 (by omega)
      have d3 := hc0.out 3 (by omega)
      have f3 := hf0.out 3 (by omega)
      have c4 : wr.cell? ⟨w.heap.size + 1, 4, none⟩ = some (.int .u8 (b4.toNat : Int)) := hc.out 4 (by omega)
      have d4 := hc0.out 4 (by omega)
      have f4 := hf0.out 4 (by omega)
      have c5 : wr.cell? ⟨w.heap.size + 1, 5, none⟩ = some (.int .u8 (b5.toNat : Int)) := hc.out 5 (by omega)
      have d5 := hc0.out 5 (by omega)
      have f5 := hf0.out 5 (by omega)
      have c6 : wr.cell? ⟨w.heap.size + 1, 6, none⟩ = some (.int .u8 (b6.toNat : Int)) := hc.out 6 (by omega)
      have d6 := hc0.out 6 (by omega)
      have f6 := hf0.out 6 (by omega)
      have c7 : wr.cell? ⟨w.heap.size + 1, 7, none⟩ = some (.int .u8 (b7.toNat : Int)) := hc.out 7 (by omega)
      have d7 := hc0.out 7 (by omega)
      have f7 := hf0.out 7 (by omega)
      generalize N / 256 ^ 8 = M at *
      clear hc hf hc0 hf0 hd hlt HW
      go_wp2_with fail
      refine bodyPost_ret (v := .agg #[B b0, B b1, B b2, B b3, B b4, B b5, B b6, B b7]) ?_ rfl ⟨rfl, ?_⟩
      · have hres : Tryz.f82.results = #[.cell 2 39] := by kernel_rfl
        simp only [results, hres]
        go_simp
        exact ⟨rfl, rfl, rfl, rfl, rfl, rfl, rfl, rfl⟩
      · have hk : w.heap.size ≤ w.heap.size := Nat.le_refl _
        exact (((((((hb.out.setCell hk _).setCell hk _).setCell hk _).setCell hk _).setCell hk _).setCell hk _).setCell hk _).setCell hk _
theorem id_any (s : ByteArray) (w : World) (hs : s.size ≤ 140737488351232) :
    Calls Tryz.prog 82 #[.string s] w fun e w' => e = .returned (.agg ((Nm.low 8 (Mx.narrow 64 s.data.toList)).map B).toArray) ∧ Below w.heap.size w w' := by
  obtain ⟨b0, b1, b2, b3, b4, b5, b6, b7, hL⟩ := eight _ (Nm.low_length 8 (Mx.narrow 64 s.data.toList))
  rw [hL]
  exact id_of _ b0 b1 b2 b3 b4 b5 b6 b7 s w hL fun W => sum_any s W hs
end Go.Proofs.YthpcbbkpjggjbaaGreatDoor
namespace Go.Proofs.YthpcbbkpjggjbaaGreatDoor
open Go.RowKit
set_option maxRecDepth 4000
def kB (k : Int) : Bool := decide (k = 1 ∨ k = 2 ∨ k = 3)
theorem kB_of {k : Int} : kB k = true ↔ Pk.kOK k := by simp [kB, Pk.kOK]
theorem isKind_any (k : Int) (w : World) :
    Calls Tryz.prog 81 #[.int .i64 k] w fun e w' => e = .returned (.bool (kB k)) ∧ w' = w := by
  by_cases h1 : k = 1
  · subst h1
    go_enter Tryz.func81, Tryz.ntmps81
    go_wp2_with fail
    go_ret
    exact ⟨rfl, rfl⟩
  by_cases h2 : k = 2
  · subst h2
    go_enter Tryz.func81, Tryz.ntmps81
    go_wp2_with fail
    go_ret
    exact ⟨rfl, rfl⟩
  by_cases h3 : k = 3
  · subst h3
    go_enter Tryz.func81, Tryz.ntmps81
    go_wp2_with fail
    go_ret
    exact ⟨rfl, rfl⟩
  have HE : Hid (kB k = false) := decide_eq_false fun h => by omega
  have e1 : (k == 1) = false := beq_eq_false_iff_ne.2 h1
  have e2 : (k == 2) = false := beq_eq_false_iff_ne.2 h2
  have e3 : (k == 3) = false := beq_eq_false_iff_ne.2 h3
  go_enter Tryz.func81, Tryz.ntmps81
  go_wp2_with fail
  go_ret
  exact ⟨by rw [HE.out]; rfl, rfl⟩
def idOr (b : Blb) : List UInt8 := if Pk.bErr b.p = 0 then Pk.bid b.p else List.replicate 8 0
theorem idOr_length (b : Blb) : (idOr b).length = 8 := by
  unfold idOr; split
  · exact Pk.bid_length _
  · simp
abbrev Z8 : Array Value := #[.int .u8 0, .int .u8 0, .int .u8 0, .int .u8 0, .int .u8 0, .int .u8 0, .int .u8 0, .int .u8 0]
theorem id8_cell (w : World) (t : TypeId) (j : Nat) (hj : j < 8) : (w.alloc (.cells Z8 t)).cell? ⟨w.heap.size, j, none⟩ = some (.int .u8 0) := by
  rw [cell_of_row _ w.heap.size j _ _ _ (heap_alloc_new w _)]
  match j, hj with
  | 0, _ => rfl
  | 1, _ => rfl
  | 2, _ => rfl
  | 3, _ => rfl
  | 4, _ => rfl
  | 5, _ => rfl
  | 6, _ => rfl
  | 7, _ => rfl
theorem id8_free (w : World) (t : TypeId) (j : Nat) : (w.alloc (.cells Z8 t)).frozen? ⟨w.heap.size, j, none⟩ = false := by
  simp
structure I8 (W : World) (G : Nat) (x : List UInt8) : Prop where
  len : x.length = 8
  at_ : ∀ j, j < 8 → W.cell? ⟨G, j, none⟩ = some (.int .u8 ((x.getD j 0).toNat : Int))
  fz : ∀ j, j < 8 → W.frozen? ⟨G, j, none⟩ = false
  lt : G < W.heap.size
theorem I8.below {W W' : World} {G B : Nat} {x : List UInt8} (h : I8 W G x) (hb : Below B W W') (hg : G < B) : I8 W' G x :=
  ⟨h.len, fun j hj => (hb.cell (p := ⟨G, j, none⟩) hg).trans (h.at_ j hj), fun j hj => (hb.frozen (p := ⟨G, j, none⟩) hg).trans (h.fz j hj), Nat.lt_of_lt_of_le h.lt hb.size⟩
theorem I8.new (w : World) (t : TypeId) : I8 (w.alloc (.cells Z8 t)) w.heap.size (List.replicate 8 0) :=
  ⟨by simp, fun j hj => by rw [id8_cell w t j hj]; rw [List.getD_eq_getElem?_getD, List.getElem?_replicate, if_pos hj]; rfl, fun j _ => id8_free w t j, by simp⟩
theorem I8.cells {W : World} {G : Nat} {b0 b1 b2 b3 b4 b5 b6 b7 : UInt8} (h : I8 W G [b0, b1, b2, b3, b4, b5, b6, b7]) :
    W.cell? ⟨G, 0, none⟩ = some (.int .u8 (b0.toNat : Int)) ∧ W.cell? ⟨G, 1, none⟩ = some (.int .u8 (b1.toNat : Int)) ∧ W.cell? ⟨G, 2, none⟩ = some (.int .u8 (b2.toNat : Int)) ∧ W.cell? ⟨G, 3, none⟩ = some (.int .u8 (b3.toNat : Int)) ∧
    W.cell? ⟨G, 4, none⟩ = some (.int .u8 (b4.toNat : Int)) ∧ W.cell? ⟨G, 5, none⟩ = some (.int .u8 (b5.toNat : Int)) ∧ W.cell? ⟨G, 6, none⟩ = some (.int .u8 (b6.toNat : Int)) ∧ W.cell? ⟨G, 7, none⟩ = some (.int .u8 (b7.toNat : Int)) :=
  ⟨h.at_ 0 (by omega), h.at_ 1 (by omega), h.at_ 2 (by omega), h.at_ 3 (by omega), h.at_ 4 (by omega), h.at_ 5 (by omega), h.at_ 6 (by omega), h.at_ 7 (by omega)⟩
theorem I8.free {W : World} {G : Nat} {x : List UInt8} (h : I8 W G x) :
    W.frozen? ⟨G, 0, none⟩ = false ∧ W.frozen? ⟨G, 1, none⟩ = false ∧ W.frozen? ⟨G, 2, none⟩ = false ∧ W.frozen? ⟨G, 3, none⟩ = false ∧ W.frozen? ⟨G, 4, none⟩ = false ∧ W.frozen? ⟨G, 5, none⟩ = false ∧ W.frozen? ⟨G, 6, none⟩ = false ∧ W.frozen? ⟨G, 7, none⟩ = false :=
  ⟨h.fz 0 (by omega), h.fz 1 (by omega), h.fz 2 (by omega), h.fz 3 (by omega), h.fz 4 (by omega), h.fz 5 (by omega), h.fz 6 (by omega), h.fz 7 (by omega)⟩
def set8 (W : World) (G : Nat) (b0 b1 b2 b3 b4 b5 b6 b7 : UInt8) : World :=
  (((((((W.setCell ⟨G, 0, none⟩ (B b0)).setCell ⟨G, 1, none⟩ (B b1)).setCell ⟨G, 2, none⟩ (B b2)).setCell ⟨G, 3, none⟩ (B b3)).setCell ⟨G, 4, none⟩ (B b4)).setCell ⟨G, 5, none⟩ (B b5)).setCell ⟨G, 6, none⟩ (B b6)).setCell ⟨G, 7, none⟩ (B b7)
theorem I8.set1 {W : World} {G : Nat} {x : List UInt8} (h : I8 W G x) (k : Nat) (hk : k < 8) (b : UInt8) : I8 (W.setCell ⟨G, k, none⟩ (B b)) G (x.set k b) := by
  refine ⟨by rw [List.length_set]; exact h.len, fun j hj => ?_, fun j hj => by simpa using h.fz j hj, by simpa using h.lt⟩
  by_cases e : j = k
  · subst e
    rw [World.cell?_setCell_same _ _ _ (h.at_ j hj), List.getD_eq_getElem?_getD, List.getElem?_set_self (by rw [h.len]; exact hj)]
    rfl
  · rw [World.cell?_setCell_other _ _ _ _ (by intro q; exact e (congrArg Addr.off q).symm), h.at_ j hj, List.getD_eq_getElem?_getD, List.getD_eq_getElem?_getD, List.getElem?_set_ne (by omega)]
theorem I8.store {W : World} {G : Nat} {x : List UInt8} (h : I8 W G x) (b0 b1 b2 b3 b4 b5 b6 b7 : UInt8) : I8 (set8 W G b0 b1 b2 b3 b4 b5 b6 b7) G [b0, b1, b2, b3, b4, b5, b6, b7] := by
  have := (((((((h.set1 0 (by omega) b0).set1 1 (by omega) b1).set1 2 (by omega) b2).set1 3 (by omega) b3).set1 4 (by omega) b4).set1 5 (by omega) b5).set1 6 (by omega) b6).set1 7 (by omega) b7
  obtain ⟨c0, c1, c2, c3, c4, c5, c6, c7, rfl⟩ := eight x h.len
  exact this
theorem below_set8 {B' : Nat} {w W : World} {G : Nat} (h : Below B' w W) (hg : B' ≤ G) (b0 b1 b2 b3 b4 b5 b6 b7 : UInt8) : Below B' w (set8 W G b0 b1 b2 b3 b4 b5 b6 b7) :=
  (((((((h.setCell hg _).setCell hg _).setCell hg _).setCell hg _).setCell hg _).setCell hg _).setCell hg _).setCell hg _
set_option maxHeartbeats 1000000 in
theorem pid_of (b0 b1 b2 b3 b4 b5 b6 b7 : UInt8) (k : Nat) (s : ByteArray) (w : World) (hk : kB (k : Int) = true) (hk3 : k ≤ 3) (hs : s.size ≤ 4096)
    (hn : ∀ W, Calls Tryz.prog 82 #[.string ⟨(UInt8.ofNat k :: s.data.toList).toArray⟩] W fun e w' => e = .returned (.agg #[B b0, B b1, B b2, B b3, B b4, B b5, B b6, B b7]) ∧ Below W.heap.size W w') :
    Calls Tryz.prog 66 #[.agg #[.int .i64 k, .string s]] w fun e w' => e = .returned (.tuple #[.agg #[B b0, B b1, B b2, B b3, B b4, B b5, B b6, B b7], .int .i64 0]) ∧ Below w.heap.size w w' := by
  obtain ⟨i0, hi, hz0, hz1, hz2⟩ := info_parts info_u8
  simp only [B] at hn
  have hisk := fun W => isKind_any (k : Int) W
  rw [hk] at hisk
  clear hk
  obtain ⟨W2, hW2⟩ : ∃ W2, W2 = (w.alloc (.cells #[.int .i64 k, .string s] 111)).alloc (.cells Z8 39) := ⟨_, rfl⟩
  have hsz : W2.heap.size = w.heap.size + 2 := by rw [hW2]; simp
  have hX : I8 W2 (w.heap.size + 1) (List.replicate 8 0) := by
    rw [hW2]
    have := I8.new (w.alloc (.cells #[.int .i64 k, .string s] 111)) 39
    rwa [World.size_alloc] at this
  have hB2 : Below w.heap.size w W2 := by rw [hW2]; exact ((Below.refl _ w).alloc (Nat.le_refl _) _).alloc (by simp) _
  have c0 : W2.cell? ⟨w.heap.size, 0, none⟩ = some (.int .i64 k) := by rw [hW2]; simp
  have c1 : W2.cell? ⟨w.heap.size, 1, none⟩ = some (.string s) := by rw [hW2]; simp
  have hone := owns_one W2 (k : Int) (by omega) (by omega)
  rw [Int.toNat_natCast, hsz] at hone
  dsimp only [Z8] at hW2
  go_enter Tryz.func66, Tryz.ntmps66
  go_wp2_with fail
  rw [← hW2]
  clear hW2
  refine (hisk _).mono ?_
  rintro e u ⟨rfl, hu⟩
  obtain rfl := hu.symm
  clear hu hisk
  go_wp2_with (at_builtin; refine Lib.wpList_append_own_string _ rfl (.tmp 17) (.tmp 19) 129 9 rfl (w.heap.size + 2) 5 i0 Tryz.underlying129 Tryz.underlying9 hi hz0 hz1 hz2 _ _ _ rfl hone s rfl ?c3 ?c4 ?c5 ?_)
  case c3 => unfold maxLen; simp only [List.length_cons, List.length_nil]; omega
  case c4 => simp only [List.length_cons, List.length_nil]; omega
  case c5 => simp; omega
  intro v1 w1 hown1 hgrow _
  have hb1 : Below (w.heap.size + 2) W2 w1 := (((Below.refl _ W2).alloc (by omega) _)).grown hgrow (by simp; omega) fun j hj => (hone.lt j hj).1
  have hrow : w1.ownsRow (w.heap.size + 2) 5 1 v1 (UInt8.ofNat k :: s.data.toList).length ((UInt8.ofNat k :: s.data.toList).map B) := by
    have e : (UInt8.ofNat k :: s.data.toList).length = 1 + s.size := by rw [Lib.size_eq]; simp only [List.length_cons]; omega
    rw [e]
    exact hown1
  have hstr := run_str hrow
  have hX1 := hX.below hb1 (by omega)
  have HB1 : Hid (Below w.heap.size w w1) := hB2.trans (hb1.mono (by omega))
  obtain ⟨a1, q1, rfl⟩ := own_form hown1
  clear hown1 hgrow hone hrow hX hb1 hB2 c0 c1
  go_wp2_with fail
  refine (hn _).mono ?_
  rintro e w2 ⟨rfl, hb2⟩
  have hX2 := hX1.below hb2 hX1.lt
  obtain ⟨e0, e1, e2, e3, e4, e5, e6, e7⟩ := I8.cells (b0 := 0) (b1 := 0) (b2 := 0) (b3 := 0) (b4 := 0) (b5 := 0) (b6 := 0) (b7 := 0) hX2
  obtain ⟨f0, f1, f2, f3, f4, f5, f6, f7⟩ := hX2.free
  have HB2 : Hid (Below w.heap.size w (set8 w2 (w.heap.size + 1) b0 b1 b2 b3 b4 b5 b6 b7)) := below_set8 (HB1.out.trans (hb2.mono HB1.out.size)) (by omega) _ _ _ _ _ _ _ _
  clear hX1 hX2 hb2 hn hstr HB1
  go_wp2_with fail
  refine bodyPost_ret (v := .tuple #[.agg #[B b0, B b1, B b2, B b3, B b4, B b5, B b6, B b7], .int .i64 0]) ?_ rfl ⟨rfl, HB2.out⟩
  have hres : Tryz.f66.results = #[.cell 2 39, .tmp 3] := by kernel_rfl
  simp only [results, hres]
  go_simp
  exact ⟨rfl, rfl, rfl, rfl, rfl, rfl, rfl, rfl⟩
set_option maxHeartbeats 1000000 in
theorem pid_kind (k : Int) (s : ByteArray) (w : World) (hk : kB k = false) :
    Calls Tryz.prog 66 #[.agg #[.int .i64 k, .string s]] w fun e w' => e = .returned (.tuple #[.agg ((List.replicate 8 0).map B).toArray, .int .i64 5]) ∧ Below w.heap.size w w' := by
  have hisk := fun W => isKind_any k W
  rw [hk] at hisk
  clear hk
  obtain ⟨W2, hW2⟩ : ∃ W2, W2 = (w.alloc (.cells #[.int .i64 k, .string s] 111)).alloc (.cells Z8 39) := ⟨_, rfl⟩
  have hX : I8 W2 (w.heap.size + 1) (List.replicate 8 0) := by
    rw [hW2]
    have := I8.new (w.alloc (.cells #[.int .i64 k, .string s] 111)) 39
    rwa [World.size_alloc] at this
  have hB2 : Below w.heap.size w W2 := by rw [hW2]; exact ((Below.refl _ w).alloc (Nat.le_refl _) _).alloc (by simp) _
  have c0 : W2.cell? ⟨w.heap.size, 0, none⟩ = some (.int .i64 k) := by rw [hW2]; simp
  have c1 : W2.cell? ⟨w.heap.size, 1, none⟩ = some (.string s) := by rw [hW2]; simp
  dsimp only [Z8] at hW2
  obtain ⟨e0, e1, e2, e3, e4, e5, e6, e7⟩ := I8.cells (b0 := 0) (b1 := 0) (b2 := 0) (b3 := 0) (b4 := 0) (b5 := 0) (b6 := 0) (b7 := 0) hX
  obtain ⟨f0, f1, f2, f3, f4, f5, f6, f7⟩ := hX.free
  have HB2 : Hid (Below w.heap.size w (set8 W2 (w.heap.size + 1) 0 0 0 0 0 0 0 0)) := below_set8 hB2 (by omega) _ _ _ _ _ _ _ _
  clear hX hB2
  go_enter Tryz.func66, Tryz.ntmps66
  go_wp2_with fail
  rw [← hW2]
  clear hW2
  refine (hisk _).mono ?_
  rintro e u ⟨rfl, hu⟩
  obtain rfl := hu.symm
  clear hu hisk
  go_wp2_with fail
  refine bodyPost_ret (v := .tuple #[.agg #[B 0, B 0, B 0, B 0, B 0, B 0, B 0, B 0], .int .i64 5]) ?_ rfl ⟨rfl, HB2.out⟩
  have hres : Tryz.f66.results = #[.cell 2 39, .tmp 3] := by kernel_rfl
  simp only [results, hres]
  go_simp
  rfl
set_option maxHeartbeats 1000000 in
theorem pid_large (k : Int) (s : ByteArray) (w : World) (hk : kB k = true) (hs : 4096 < s.size) (hs2 : s.size ≤ 9223372036854775807) :
    Calls Tryz.prog 66 #[.agg #[.int .i64 k, .string s]] w fun e w' => e = .returned (.tuple #[.agg ((List.replicate 8 0).map B).toArray, .int .i64 2]) ∧ Below w.heap.size w w' := by
  have hisk := fun W => isKind_any k W
  rw [hk] at hisk
  clear hk
  obtain ⟨W2, hW2⟩ : ∃ W2, W2 = (w.alloc (.cells #[.int .i64 k, .string s] 111)).alloc (.cells Z8 39) := ⟨_, rfl⟩
  have hX : I8 W2 (w.heap.size + 1) (List.replicate 8 0) := by
    rw [hW2]
    have := I8.new (w.alloc (.cells #[.int .i64 k, .string s] 111)) 39
    rwa [World.size_alloc] at this
  have hB2 : Below w.heap.size w W2 := by rw [hW2]; exact ((Below.refl _ w).alloc (Nat.le_refl _) _).alloc (by simp) _
  have c0 : W2.cell? ⟨w.heap.size, 0, none⟩ = some (.int .i64 k) := by rw [hW2]; simp
  have c1 : W2.cell? ⟨w.heap.size, 1, none⟩ = some (.string s) := by rw [hW2]; simp
  dsimp only [Z8] at hW2
  obtain ⟨e0, e1, e2, e3, e4, e5, e6, e7⟩ := I8.cells (b0 := 0) (b1 := 0) (b2 := 0) (b3 := 0) (b4 := 0) (b5 := 0) (b6 := 0) (b7 := 0) hX
  obtain ⟨f0, f1, f2, f3, f4, f5, f6, f7⟩ := hX.free
  have HB2 : Hid (Below w.heap.size w (set8 W2 (w.heap.size + 1) 0 0 0 0 0 0 0 0)) := below_set8 hB2 (by omega) _ _ _ _ _ _ _ _
  clear hX hB2
  go_enter Tryz.func66, Tryz.ntmps66
  go_wp2_with fail
  rw [← hW2]
  clear hW2
  refine (hisk _).mono ?_
  rintro e u ⟨rfl, hu⟩
  obtain rfl := hu.symm
  clear hu hisk
  go_wp2_with fail
  refine bodyPost_ret (v := .tuple #[.agg #[B 0, B 0, B 0, B 0, B 0, B 0, B 0, B 0], .int .i64 2]) ?_ rfl ⟨rfl, HB2.out⟩
  have hres : Tryz.f66.results = #[.cell 2 39, .tmp 3] := by kernel_rfl
  simp only [results, hres]
  go_simp
  rfl
theorem pid_any (b : Blb) (w : World) (hb : b.bytes.size ≤ 9223372036854775807) :
    Calls Tryz.prog 66 #[blV b] w fun e w' => e = .returned (.tuple #[.agg ((idOr b).map B).toArray, .int .i64 (Pk.bErr b.p)]) ∧ Below w.heap.size w w' := by
  obtain ⟨k, s⟩ := b
  have hsz : s.data.toList.length = s.size := (Lib.size_eq s).symm
  by_cases hk : kB k = true
  · have hk' : k = 1 ∨ k = 2 ∨ k = 3 := kB_of.1 hk
    by_cases hs : s.size ≤ 4096
    · have he : Pk.bErr (Blb.p ⟨k, s⟩) = 0 := by
        show (if k = 1 ∨ k = 2 ∨ k = 3 then (if 4096 < s.data.toList.length then (2 : Int) else 0) else 5) = 0
        rw [if_pos hk', if_neg (by omega)]
      have hi : idOr ⟨k, s⟩ = Nm.low 8 (Mx.narrow 64 (UInt8.ofNat k.toNat :: s.data.toList)) := by rw [idOr, if_pos he]; rfl
      obtain ⟨b0, b1, b2, b3, b4, b5, b6, b7, hL⟩ := eight _ (idOr_length ⟨k, s⟩)
      obtain ⟨n, rfl⟩ : ∃ n : Nat, k = (n : Int) := ⟨k.toNat, by rcases hk' with rfl | rfl | rfl <;> rfl⟩
      have hn3 : n ≤ 3 := by rcases hk' with h | h | h <;> omega
      rw [he, hL]
      refine pid_of b0 b1 b2 b3 b4 b5 b6 b7 n s w hk hn3 hs fun W => ?_
      have := id_any ⟨(UInt8.ofNat n :: s.data.toList).toArray⟩ W (by rw [Lib.size_eq]; simp only [List.length_cons]; omega)
      rw [show Nm.low 8 (Mx.narrow 64 (⟨(UInt8.ofNat n :: s.data.toList).toArray⟩ : ByteArray).data.toList) = [b0, b1, b2, b3, b4, b5, b6, b7] from by rw [← hL, hi]; rfl] at this
      exact this
    · have he : Pk.bErr (Blb.p ⟨k, s⟩) = 2 := by
        show (if k = 1 ∨ k = 2 ∨ k = 3 then (if 4096 < s.data.toList.length then (2 : Int) else 0) else 5) = 2
        rw [if_pos hk', if_pos (by omega)]
      rw [idOr, if_neg (by omega), he]
      exact pid_large k s w hk (by omega) hb
  · have he : Pk.bErr (Blb.p ⟨k, s⟩) = 5 := by
      show (if k = 1 ∨ k = 2 ∨ k = 3 then (if 4096 < s.data.toList.length then (2 : Int) else 0) else 5) = 5
      rw [if_neg (fun h : k = 1 ∨ k = 2 ∨ k = 3 => hk (kB_of.2 h))]
    rw [idOr, if_neg (by omega), he]
    exact pid_kind k s w (by simpa using hk)
end Go.Proofs.YthpcbbkpjggjbaaGreatDoor
namespace Go.Proofs.YthpcbbkpjggjbaaGreatDoor
open Go.RowKit
set_option maxRecDepth 4000
theorem zero_blb (w : World) : (zeroValue 111).run Tryz.prog w = .ok (.agg #[.int .i64 0, .string ⟨#[]⟩]) w := by kernel_rfl
theorem under_heap : Tryz.prog.underlying 79 = some (.map 39 111) := by kernel_rfl
theorem I8.laid {W : World} {G : Nat} {t : TypeId} {b0 b1 b2 b3 b4 b5 b6 b7 : UInt8} (h : W.heap[G]? = some (.cells #[.int .u8 (b0.toNat : Int), .int .u8 (b1.toNat : Int), .int .u8 (b2.toNat : Int), .int .u8 (b3.toNat : Int), .int .u8 (b4.toNat : Int), .int .u8 (b5.toNat : Int), .int .u8 (b6.toNat : Int), .int .u8 (b7.toNat : Int)] t (0, 0))) : I8 W G [b0, b1, b2, b3, b4, b5, b6, b7] := by
  refine ⟨rfl, fun j hj => ?_, fun j hj => ?_, (Array.getElem?_eq_some_iff.1 h).1⟩
  · match j, hj with
    | 0, _ | 1, _ | 2, _ | 3, _ | 4, _ | 5, _ | 6, _ | 7, _ => simp [World.cell?, h]
  · simp [World.frozen?, h]
set_option maxHeartbeats 1000000 in
theorem hget_any (m n : Nat) (bs : List Blb) (id : List UInt8) (hid : id.length = 8) (kind : Int) (w : World) (h : Mp w m n (mpB bs)) :
    Calls Tryz.prog 50 #[.map (some m), idV id, .int .i64 kind] w fun e w' => e = .returned (.tuple #[.string ⟨(Wk.blobOf (pl bs) id kind).1.toArray⟩, .int .i64 (Wk.blobOf (pl bs) id kind).2]) ∧ Below w.heap.size w w' := by
  obtain ⟨b0, b1, b2, b3, b4, b5, b6, b7, rfl⟩ := eight id hid
  have eV : idV [b0, b1, b2, b3, b4, b5, b6, b7] = .agg #[.int .u8 (b0.toNat : Int), .int .u8 (b1.toNat : Int), .int .u8 (b2.toNat : Int), .int .u8 (b3.toNat : Int), .int .u8 (b4.toNat : Int), .int .u8 (b5.toNat : Int), .int .u8 (b6.toNat : Int), .int .u8 (b7.toNat : Int)] := rfl
  rw [eV]
  unfold Wk.blobOf
  obtain ⟨W1, hW1⟩ : ∃ W1, W1 = w.alloc (.cells #[.int .u8 (b0.toNat : Int), .int .u8 (b1.toNat : Int), .int .u8 (b2.toNat : Int), .int .u8 (b3.toNat : Int), .int .u8 (b4.toNat : Int), .int .u8 (b5.toNat : Int), .int .u8 (b6.toNat : Int), .int .u8 (b7.toNat : Int)] 39) := ⟨_, rfl⟩
  have hB1 : Below w.heap.size w W1 := by rw [hW1]; exact (Below.refl _ w).alloc (Nat.le_refl _) _
  have HB1 : Hid (Below w.heap.size w W1) := hB1
  have hX : I8 W1 w.heap.size [b0, b1, b2, b3, b4, b5, b6, b7] := I8.laid (by rw [hW1]; exact heap_alloc_new w _)
  obtain ⟨e0, e1, e2, e3, e4, e5, e6, e7⟩ := hX.cells
  have hm1 : Mp W1 m n (mpB bs) := h.below hB1
  clear h hX hB1
  rcases find_bid bs [b0, b1, b2, b3, b4, b5, b6, b7] with ⟨h1, h2⟩ | ⟨o, _, h1, h2⟩
  · rw [h1]
    dsimp only
    have hlook : (Instr.lookup 79 (.map (some m)) (.agg #[.int .u8 (b0.toNat : Int), .int .u8 (b1.toNat : Int), .int .u8 (b2.toNat : Int), .int .u8 (b3.toNat : Int), .int .u8 (b4.toNat : Int), .int .u8 (b5.toNat : Int), .int .u8 (b6.toNat : Int), .int .u8 (b7.toNat : Int)]) true).run Tryz.prog W1 = .ok (.tuple #[.agg #[.int .i64 0, .string ⟨#[]⟩], .bool false]) W1 := hm1.miss under_heap (zero_blb _) (x := [b0, b1, b2, b3, b4, b5, b6, b7]) rfl h2
    have HB2 : Hid (∀ o, Below w.heap.size w (W1.alloc o)) := fun o => HB1.out.alloc HB1.out.size o
    clear h1 h2 hm1
    go_enter Tryz.func50, Tryz.ntmps50
    go_upto_region 1 with fail
    rw [← hW1]
    clear hW1
    go_wp2_with fail
    go_ret2
    exact ⟨rfl, HB2.out _⟩
  · rw [h1]
    dsimp only
    have hlook : (Instr.lookup 79 (.map (some m)) (.agg #[.int .u8 (b0.toNat : Int), .int .u8 (b1.toNat : Int), .int .u8 (b2.toNat : Int), .int .u8 (b3.toNat : Int), .int .u8 (b4.toNat : Int), .int .u8 (b5.toNat : Int), .int .u8 (b6.toNat : Int), .int .u8 (b7.toNat : Int)]) true).run Tryz.prog W1 = .ok (.tuple #[.agg #[.int .i64 o.kind, .string o.bytes], .bool true]) W1 := hm1.hit under_heap (zero_blb _) h2
    have HB2 : Hid (∀ o, Below w.heap.size w (W1.alloc o)) := fun o => HB1.out.alloc HB1.out.size o
    have HE : Hid ((⟨o.p.2.toArray⟩ : ByteArray) = o.bytes) := rfl
    clear h1 h2 hm1
    by_cases hk : o.kind = kind
    · have hq : (o.kind != kind) = false := by rw [hk]; simp
      rw [if_neg (fun q : o.p.1 ≠ kind => q hk)]
      dsimp only
      go_enter Tryz.func50, Tryz.ntmps50
      go_upto_region 1 with fail
      rw [← hW1]
      clear hW1
      go_wp2_with fail
      go_ret2
      exact ⟨by rw [HE.out]; rfl, HB2.out _⟩
    · have hq : (o.kind != kind) = true := by rw [bne_iff_ne]; exact hk
      rw [if_pos (show o.p.1 ≠ kind from hk)]
      dsimp only
      go_enter Tryz.func50, Tryz.ntmps50
      go_upto_region 1 with fail
      rw [← hW1]
      clear hW1
      go_wp2_with fail
      go_ret2
      exact ⟨rfl, HB2.out _⟩
theorem I8.kept {p : Nat → Prop} {W W' : World} {G : Nat} {x : List UInt8} (h : I8 W G x) (hk : Kept p W W') (hp : p G) : I8 W' G x := by
  have e := hk.block G h.lt hp
  refine ⟨h.len, fun j hj => ?_, fun j hj => ?_, Nat.lt_of_lt_of_le h.lt hk.size⟩
  · rw [← h.at_ j hj]; simp only [World.cell?, e]
  · rw [← h.fz j hj]; simp only [World.frozen?, e]
def errI (bs : List Blb) (b : Blb) : Int := (Wk.into (pl bs) b.p).2.2
def idI (bs : List Blb) (b : Blb) : List UInt8 := if errI bs b = 0 then Pk.bid b.p else List.replicate 8 0
def more (bs : List Blb) (b : Blb) : List Blb := if errI bs b = 0 ∧ Pk.bid b.p ∉ (mpB bs).map (·.1) then bs ++ [b] else bs
def newI (bs : List Blb) (b : Blb) : Bool := decide (errI bs b = 0 ∧ Pk.bid b.p ∉ (mpB bs).map (·.1))
theorem idI_length (bs : List Blb) (b : Blb) : (idI bs b).length = 8 := by
  unfold idI; split
  · exact Pk.bid_length _
  · simp
theorem more_pl {bs : List Blb} {b : Blb} (h : errI bs b = 0) : Wk.into (pl bs) b.p = (pl (more bs b), Pk.bid b.p, 0) := by
  unfold errI at h
  unfold more
  have h' : errI bs b = 0 := h
  unfold Wk.into at h ⊢
  split
  · rename_i q
    rw [if_pos q] at h
    exact absurd h q
  rename_i q
  rw [if_neg q] at h
  rcases find_bid bs (Pk.bid b.p) with ⟨h1, h2⟩ | ⟨o, ho, h1, h2⟩
  · rw [h1]
    dsimp only
    rw [if_pos ⟨h', h2⟩, pl_snoc]
  · rw [h1] at h ⊢
    dsimp only at h ⊢
    have hin : ¬ (errI bs b = 0 ∧ Pk.bid b.p ∉ (mpB bs).map (·.1)) := fun q => q.2 (List.mem_map_of_mem (f := (·.1)) h2)
    by_cases e : o.p = b.p
    · rw [if_pos e, if_neg hin]
    · rw [if_neg e] at h; cases h
theorem more_bad {bs : List Blb} {b : Blb} (h : errI bs b ≠ 0) : more bs b = bs := by
  unfold more; rw [if_neg (fun q => h q.1)]
theorem more_length (bs : List Blb) (b : Blb) : (more bs b).length ≤ bs.length + 1 := by
  unfold more; split
  · simp
  · omega
set_option maxHeartbeats 2000000 in
theorem hput_any (m n : Nat) (bs : List Blb) (b : Blb) (w : World) (h : Mp w m n (mpB bs)) (hn : n < 1000000000) (hb : b.bytes.size ≤ 9223372036854775807) :
    Calls Tryz.prog 49 #[.map (some m), blV b] w fun e w' => e = .returned (.tuple #[idV (idI bs b), .bool (newI bs b), .int .i64 (errI bs b)]) ∧ (∃ n', n' ≤ n + 1 ∧ Mp w' m n' (mpB (more bs b))) ∧ Kept (fun k => k ≠ m) w w' := by
  unfold blV
  obtain ⟨W2, hW2⟩ : ∃ W2, W2 = (w.alloc (.cells #[.int .i64 b.kind, .string b.bytes] 111)).alloc (.cells Z8 39) := ⟨_, rfl⟩
  have hX : I8 W2 (w.heap.size + 1) (List.replicate 8 0) := by
    rw [hW2]
    have := I8.new (w.alloc (.cells #[.int .i64 b.kind, .string b.bytes] 111)) 39
    rwa [World.size_alloc] at this
  have hB2 : Below w.heap.size w W2 := by rw [hW2]; exact ((Below.refl _ w).alloc (Nat.le_refl _) _).alloc (by simp) _
  have hS2 : W2.heap.size = w.heap.size + 2 := by rw [hW2]; simp
  have c0 : W2.cell? ⟨w.heap.size, 0, none⟩ = some (.int .i64 b.kind) := by rw [hW2]; simp
  have c1 : W2.cell? ⟨w.heap.size, 1, none⟩ = some (.string b.bytes) := by rw [hW2]; simp
  have hid := pid_any b W2 hb
  dsimp only [Z8] at hW2
  have hmlt : m < w.heap.size := h.lt
  obtain ⟨b0, b1, b2, b3, b4, b5, b6, b7, hL⟩ := eight _ (idOr_length b)
  have hid' : Calls Tryz.prog 66 #[.agg #[.int .i64 b.kind, .string b.bytes]] W2 fun e w' => e = .returned (.tuple #[.agg #[.int .u8 (b0.toNat : Int), .int .u8 (b1.toNat : Int), .int .u8 (b2.toNat : Int), .int .u8 (b3.toNat : Int), .int .u8 (b4.toNat : Int), .int .u8 (b5.toNat : Int), .int .u8 (b6.toNat : Int), .int .u8 (b7.toNat : Int)], .int .i64 (Pk.bErr b.p)]) ∧ Below W2.heap.size W2 w' := by
    rw [hL] at hid
    exact hid
  clear hid
  by_cases hE : Pk.bErr b.p = 0
  case neg =>
    have e1 : errI bs b = Pk.bErr b.p := by unfold errI Wk.into; rw [if_pos hE]
    have HN : Hid (newI bs b = false) := by show _ = _; unfold newI; exact decide_eq_false fun q => hE (by rw [← e1]; exact q.1)
    have HM : Hid (more bs b = bs) := more_bad (by rw [e1]; exact hE)
    have HI : Hid (idI bs b = List.replicate 8 0) := by show _ = _; unfold idI; rw [if_neg (by rw [e1]; exact hE)]
    rw [e1, HN.out, HM.out, HI.out]
    have hne : (Pk.bErr b.p != 0) = true := by rw [bne_iff_ne]; exact hE
    generalize Pk.bErr b.p = E at *
    have HMp : Hid (Mp w m n (mpB bs)) := h
    clear h e1 hE hL HN HM HI
    go_enter Tryz.func49, Tryz.ntmps49
    go_wp2_with fail
    rw [← hW2]
    clear hW2
    refine hid'.mono ?_
    rintro e w3 ⟨rfl, hb3⟩
    have hX3 := hX.below hb3 hX.lt
    obtain ⟨f0, f1, f2, f3, f4, f5, f6, f7⟩ := hX3.free
    obtain ⟨e0, e1, e2, e3, e4, e5, e6, e7⟩ := I8.cells (b0 := 0) (b1 := 0) (b2 := 0) (b3 := 0) (b4 := 0) (b5 := 0) (b6 := 0) (b7 := 0) hX3
    have HB3 : Hid (Below w.heap.size w w3) := hB2.trans (hb3.mono (by omega))
    obtain ⟨W4, hW4⟩ : ∃ W4, W4 = set8 w3 (w.heap.size + 1) b0 b1 b2 b3 b4 b5 b6 b7 := ⟨_, rfl⟩
    have HB4 : Hid (Below w.heap.size w W4) := by rw [hW4]; exact below_set8 HB3.out (by omega) _ _ _ _ _ _ _ _
    have hX4 : I8 W4 (w.heap.size + 1) [b0, b1, b2, b3, b4, b5, b6, b7] := by rw [hW4]; exact hX3.store _ _ _ _ _ _ _ _
    unfold set8 at hW4
    simp only [B] at hW4
    obtain ⟨g0, g1, g2, g3, g4, g5, g6, g7⟩ := hX4.free
    obtain ⟨d0, d1, d2, d3, d4, d5, d6, d7⟩ := hX4.cells
    have HB5 : Hid (Below w.heap.size w (set8 W4 (w.heap.size + 1) 0 0 0 0 0 0 0 0)) := below_set8 HB4.out (by omega) _ _ _ _ _ _ _ _
    clear hX hX3 hX4 hb3 hid' c0 c1 hB2
    go_upto_region 3 with fail
    rw [← hW4]
    clear hW4 f0 f1 f2 f3 f4 f5 f6 f7 e0 e1 e2 e3 e4 e5 e6 e7
    go_wp2_with fail
    refine bodyPost_ret (v := .tuple #[.agg #[B 0, B 0, B 0, B 0, B 0, B 0, B 0, B 0], .bool false, .int .i64 E]) ?_ rfl ⟨rfl, ?_, Kept.of_below HB5.out⟩
    · have hres : Tryz.f49.results = #[.cell 4 39, .tmp 5, .tmp 6] := by kernel_rfl
      simp only [results, hres]
      go_simp
      rfl
    · exact ⟨n, by omega, HMp.out.below HB5.out⟩
  case pos =>
    rcases find_bid bs (Pk.bid b.p) with ⟨h1, h2⟩ | ⟨o, ho, h1, h2⟩
    · skip
      have hxe : Pk.bid b.p = [b0, b1, b2, b3, b4, b5, b6, b7] := by rw [← hL, idOr, if_pos hE]
      rw [hE] at hid'
      clear hL
      have hI0 : Wk.into (pl bs) b.p = (pl bs ++ [b.p], Pk.bid b.p, 0) := by unfold Wk.into; rw [if_neg (fun q => q hE), h1]
      have e1 : errI bs b = 0 := by unfold errI; rw [hI0]
      have HN : Hid (newI bs b = true) := by show _ = _; unfold newI; exact decide_eq_true ⟨e1, h2⟩
      have HM : Hid (more bs b = bs ++ [b]) := by show _ = _; unfold more; rw [if_pos ⟨e1, h2⟩]
      have HI : Hid (idI bs b = [b0, b1, b2, b3, b4, b5, b6, b7]) := by show _ = _; unfold idI; rw [if_pos e1, hxe]
      rw [e1, HN.out, HM.out, HI.out]
      rw [hxe] at h1 h2
      clear e1 hE hI0 h1
      go_enter Tryz.func49, Tryz.ntmps49
      go_wp2_with fail
      rw [← hW2]
      clear hW2
      refine hid'.mono ?_
      rintro e w3 ⟨rfl, hb3⟩
      have hX3 := hX.below hb3 hX.lt
      have k0 := (hb3.cell (p := ⟨w.heap.size, 0, none⟩) (by show w.heap.size < W2.heap.size; omega)).trans c0
      have k1 := (hb3.cell (p := ⟨w.heap.size, 1, none⟩) (by show w.heap.size < W2.heap.size; omega)).trans c1
      obtain ⟨f0, f1, f2, f3, f4, f5, f6, f7⟩ := hX3.free
      obtain ⟨e0, e1, e2, e3, e4, e5, e6, e7⟩ := I8.cells (b0 := 0) (b1 := 0) (b2 := 0) (b3 := 0) (b4 := 0) (b5 := 0) (b6 := 0) (b7 := 0) hX3
      have HB3 : Hid (Below w.heap.size w w3) := hB2.trans (hb3.mono (by omega))
      obtain ⟨W4, hW4⟩ : ∃ W4, W4 = set8 w3 (w.heap.size + 1) b0 b1 b2 b3 b4 b5 b6 b7 := ⟨_, rfl⟩
      have HB4 : Hid (Below w.heap.size w W4) := by rw [hW4]; exact below_set8 HB3.out (by omega) _ _ _ _ _ _ _ _
      have hB34 : Below (w.heap.size + 1) w3 W4 := by rw [hW4]; exact below_set8 (Below.refl _ _) (Nat.le_refl _) _ _ _ _ _ _ _ _
      have l0 := (hB34.cell (p := ⟨w.heap.size, 0, none⟩) (by show w.heap.size < w.heap.size + 1; omega)).trans k0
      have l1 := (hB34.cell (p := ⟨w.heap.size, 1, none⟩) (by show w.heap.size < w.heap.size + 1; omega)).trans k1
      have hX4 : I8 W4 (w.heap.size + 1) [b0, b1, b2, b3, b4, b5, b6, b7] := by rw [hW4]; exact hX3.store _ _ _ _ _ _ _ _
      unfold set8 at hW4
      simp only [B] at hW4
      obtain ⟨g0, g1, g2, g3, g4, g5, g6, g7⟩ := hX4.free
      obtain ⟨d0, d1, d2, d3, d4, d5, d6, d7⟩ := hX4.cells
      have hm4 : Mp W4 m n (mpB bs) := h.below HB4.out
      have hs4 : w.heap.size ≤ W4.heap.size := HB4.out.size
      clear hX hX3 hb3 hid' c0 c1 hB2 k0 k1 hB34
      go_upto_region 4 with fail
      rw [← hW4]
      clear hW4 f0 f1 f2 f3 f4 f5 f6 f7 e0 e1 e2 e3 e4 e5 e6 e7
      have hlook : (Instr.lookup 79 (.map (some m)) (.agg #[.int .u8 (b0.toNat : Int), .int .u8 (b1.toNat : Int), .int .u8 (b2.toNat : Int), .int .u8 (b3.toNat : Int), .int .u8 (b4.toNat : Int), .int .u8 (b5.toNat : Int), .int .u8 (b6.toNat : Int), .int .u8 (b7.toNat : Int)]) true).run Tryz.prog W4 = .ok (.tuple #[.agg #[.int .i64 0, .string ⟨#[]⟩], .bool false]) W4 := hm4.miss under_heap (zero_blb _) (x := [b0, b1, b2, b3, b4, b5, b6, b7]) rfl h2
      obtain ⟨W5, hW5⟩ : ∃ W5, W5 = W4.alloc (.cells #[.int .i64 0, .string ⟨#[]⟩] 111) := ⟨_, rfl⟩
      have hB45 : Below W4.heap.size W4 W5 := by rw [hW5]; exact (Below.refl _ W4).alloc (Nat.le_refl _) _
      have HB5 : Hid (Below w.heap.size w W5) := HB4.out.trans (hB45.mono hs4)
      have hX5 := hX4.below hB45 hX4.lt
      have hm5 := hm4.below hB45
      have hwl : w.heap.size < W4.heap.size := by have := hX4.lt; omega
      have p0 := (hB45.cell (p := ⟨w.heap.size, 0, none⟩) hwl).trans l0
      have p1 := (hB45.cell (p := ⟨w.heap.size, 1, none⟩) hwl).trans l1
      have q0 : W5.cell? ⟨W4.heap.size, 0, none⟩ = some (.int .i64 0) := by rw [hW5]; simp
      have q1 : W5.cell? ⟨W4.heap.size, 1, none⟩ = some (.string ⟨#[]⟩) := by rw [hW5]; simp
      obtain ⟨r0, r1, r2, r3, r4, r5, r6, r7⟩ := hX5.cells
      obtain ⟨s0, s1, s2, s3, s4, s5, s6, s7⟩ := hX5.free
      obtain ⟨w6, hput, hm6, hg6⟩ := hm5.set under_heap (x := [b0, b1, b2, b3, b4, b5, b6, b7]) rfl hn (blV b) (l' := mpB (bs ++ [b])) (.inl ⟨h2, by rw [mpB_snoc, hxe]⟩)
      have hput' : (Instr.mapUpdate 79 (.map (some m)) (.agg #[.int .u8 (b0.toNat : Int), .int .u8 (b1.toNat : Int), .int .u8 (b2.toNat : Int), .int .u8 (b3.toNat : Int), .int .u8 (b4.toNat : Int), .int .u8 (b5.toNat : Int), .int .u8 (b6.toNat : Int), .int .u8 (b7.toNat : Int)]) (.agg #[.int .i64 b.kind, .string b.bytes])).run Tryz.prog W5 = .ok () w6 := hput
      have hK6 : Kept (fun k => k ≠ m) W5 w6 := Kept.grown (p := fun q => q ≠ m) (Kept.refl _ _) hg6 (fun q hq hp => hp (Option.some.inj hq).symm)
      have hX6 := hX5.kept hK6 (show w.heap.size + 1 ≠ m by omega)
      obtain ⟨t0, t1, t2, t3, t4, t5, t6, t7⟩ := hX6.cells
      obtain ⟨u0, u1, u2, u3, u4, u5, u6, u7⟩ := hX6.free
      have hB7 : Below (w.heap.size + 1) w6 (set8 w6 (w.heap.size + 1) b0 b1 b2 b3 b4 b5 b6 b7) := below_set8 (Below.refl _ _) (Nat.le_refl _) _ _ _ _ _ _ _ _
      have hK56 : Kept (fun k => k ≠ m) w w6 := (Kept.of_below HB5.out).trans hK6
      have HK7 : Hid (Kept (fun k => k ≠ m) w (set8 w6 (w.heap.size + 1) b0 b1 b2 b3 b4 b5 b6 b7)) :=
        ⟨hB7.os.trans hK56.os, hB7.tape.trans hK56.tape, hB7.output.trans hK56.output, Nat.le_trans hK56.size hB7.size, fun k hk hp => (hB7.block k (by omega)).trans (hK56.block k hk hp)⟩
      have HM7 : Hid (Mp (set8 w6 (w.heap.size + 1) b0 b1 b2 b3 b4 b5 b6 b7) m (n + 1) (mpB (bs ++ [b]))) := hm6.obj fun es c ho => (hB7.block m (by omega)).trans ho
      clear hput hm6 hg6 hK6 hX6 hB7 hK56 hX5 hX4 hm5 hm4 hB45 HB4
      go_upto_region 5 with fail
      rw [← hW5]
      clear hW5 hlook d0 d1 d2 d3 d4 d5 d6 d7 g0 g1 g2 g3 g4 g5 g6 g7 l0 l1
      go_wp2_with fail
      refine bodyPost_ret (v := .tuple #[.agg #[B b0, B b1, B b2, B b3, B b4, B b5, B b6, B b7], .bool true, .int .i64 0]) ?_ rfl ⟨rfl, ⟨n + 1, Nat.le_refl _, HM7.out⟩, HK7.out⟩
      have hres : Tryz.f49.results = #[.cell 4 39, .tmp 5, .tmp 6] := by kernel_rfl
      simp only [results, hres]
      go_simp
      exact ⟨rfl, rfl, rfl, rfl, rfl, rfl, rfl, rfl⟩
    · by_cases hop : o.p = b.p
      · obtain rfl := Blb.p_inj hop
        skip
        have hxe : Pk.bid o.p = [b0, b1, b2, b3, b4, b5, b6, b7] := by rw [← hL, idOr, if_pos hE]
        rw [hE] at hid'
        clear hL
        have hI0 : Wk.into (pl bs) o.p = (pl bs, Pk.bid o.p, 0) := by unfold Wk.into; rw [if_neg (fun q => q hE), h1]; dsimp only; rw [if_pos rfl]
        have hin : ¬ (errI bs o = 0 ∧ Pk.bid o.p ∉ (mpB bs).map (·.1)) := fun q => q.2 (List.mem_map_of_mem (f := (·.1)) h2)
        have e1 : errI bs o = 0 := by unfold errI; rw [hI0]
        have HN : Hid (newI bs o = false) := by show _ = _; unfold newI; exact decide_eq_false hin
        have HM : Hid (more bs o = bs) := by show _ = _; unfold more; rw [if_neg hin]
        have HI : Hid (idI bs o = [b0, b1, b2, b3, b4, b5, b6, b7]) := by show _ = _; unfold idI; rw [if_pos e1, hxe]
        rw [e1, HN.out, HM.out, HI.out]
        rw [hxe] at h1 h2
        have hcmp := fun W => bl_cmp W o o
        rw [blSame_self] at hcmp
        clear e1 hE hI0 h1 hin
        go_enter Tryz.func49, Tryz.ntmps49
        go_wp2_with fail
        rw [← hW2]
        clear hW2
        refine hid'.mono ?_
        rintro e w3 ⟨rfl, hb3⟩
        have hX3 := hX.below hb3 hX.lt
        have k0 := (hb3.cell (p := ⟨w.heap.size, 0, none⟩) (by show w.heap.size < W2.heap.size; omega)).trans c0
        have k1 := (hb3.cell (p := ⟨w.heap.size, 1, none⟩) (by show w.heap.size < W2.heap.size; omega)).trans c1
        obtain ⟨f0, f1, f2, f3, f4, f5, f6, f7⟩ := hX3.free
        obtain ⟨e0, e1, e2, e3, e4, e5, e6, e7⟩ := I8.cells (b0 := 0) (b1 := 0) (b2 := 0) (b3 := 0) (b4 := 0) (b5 := 0) (b6 := 0) (b7 := 0) hX3
        have HB3 : Hid (Below w.heap.size w w3) := hB2.trans (hb3.mono (by omega))
        obtain ⟨W4, hW4⟩ : ∃ W4, W4 = set8 w3 (w.heap.size + 1) b0 b1 b2 b3 b4 b5 b6 b7 := ⟨_, rfl⟩
        have HB4 : Hid (Below w.heap.size w W4) := by rw [hW4]; exact below_set8 HB3.out (by omega) _ _ _ _ _ _ _ _
        have hB34 : Below (w.heap.size + 1) w3 W4 := by rw [hW4]; exact below_set8 (Below.refl _ _) (Nat.le_refl _) _ _ _ _ _ _ _ _
        have l0 := (hB34.cell (p := ⟨w.heap.size, 0, none⟩) (by show w.heap.size < w.heap.size + 1; omega)).trans k0
        have l1 := (hB34.cell (p := ⟨w.heap.size, 1, none⟩) (by show w.heap.size < w.heap.size + 1; omega)).trans k1
        have hX4 : I8 W4 (w.heap.size + 1) [b0, b1, b2, b3, b4, b5, b6, b7] := by rw [hW4]; exact hX3.store _ _ _ _ _ _ _ _
        unfold set8 at hW4
        simp only [B] at hW4
        obtain ⟨g0, g1, g2, g3, g4, g5, g6, g7⟩ := hX4.free
        obtain ⟨d0, d1, d2, d3, d4, d5, d6, d7⟩ := hX4.cells
        have hm4 : Mp W4 m n (mpB bs) := h.below HB4.out
        have hs4 : w.heap.size ≤ W4.heap.size := HB4.out.size
        clear hX hX3 hb3 hid' c0 c1 hB2 k0 k1 hB34
        go_upto_region 4 with fail
        rw [← hW4]
        clear hW4 f0 f1 f2 f3 f4 f5 f6 f7 e0 e1 e2 e3 e4 e5 e6 e7
        have hlook : (Instr.lookup 79 (.map (some m)) (.agg #[.int .u8 (b0.toNat : Int), .int .u8 (b1.toNat : Int), .int .u8 (b2.toNat : Int), .int .u8 (b3.toNat : Int), .int .u8 (b4.toNat : Int), .int .u8 (b5.toNat : Int), .int .u8 (b6.toNat : Int), .int .u8 (b7.toNat : Int)]) true).run Tryz.prog W4 = .ok (.tuple #[.agg #[.int .i64 o.kind, .string o.bytes], .bool true]) W4 := hm4.hit under_heap (zero_blb _) h2
        obtain ⟨W5, hW5⟩ : ∃ W5, W5 = W4.alloc (.cells #[.int .i64 o.kind, .string o.bytes] 111) := ⟨_, rfl⟩
        have hB45 : Below W4.heap.size W4 W5 := by rw [hW5]; exact (Below.refl _ W4).alloc (Nat.le_refl _) _
        have HB5 : Hid (Below w.heap.size w W5) := HB4.out.trans (hB45.mono hs4)
        have hX5 := hX4.below hB45 hX4.lt
        have hm5 := hm4.below hB45
        have hwl : w.heap.size < W4.heap.size := by have := hX4.lt; omega
        have p0 := (hB45.cell (p := ⟨w.heap.size, 0, none⟩) hwl).trans l0
        have p1 := (hB45.cell (p := ⟨w.heap.size, 1, none⟩) hwl).trans l1
        have q0 : W5.cell? ⟨W4.heap.size, 0, none⟩ = some (.int .i64 o.kind) := by rw [hW5]; simp
        have q1 : W5.cell? ⟨W4.heap.size, 1, none⟩ = some (.string o.bytes) := by rw [hW5]; simp
        obtain ⟨r0, r1, r2, r3, r4, r5, r6, r7⟩ := hX5.cells
        obtain ⟨s0, s1, s2, s3, s4, s5, s6, s7⟩ := hX5.free
        obtain ⟨w6, hput, hm6, hg6⟩ := hm5.set under_heap (x := [b0, b1, b2, b3, b4, b5, b6, b7]) rfl hn (blV o) (l' := mpB (bs)) (.inr ⟨h2, rfl⟩)
        have hput' : (Instr.mapUpdate 79 (.map (some m)) (.agg #[.int .u8 (b0.toNat : Int), .int .u8 (b1.toNat : Int), .int .u8 (b2.toNat : Int), .int .u8 (b3.toNat : Int), .int .u8 (b4.toNat : Int), .int .u8 (b5.toNat : Int), .int .u8 (b6.toNat : Int), .int .u8 (b7.toNat : Int)]) (.agg #[.int .i64 o.kind, .string o.bytes])).run Tryz.prog W5 = .ok () w6 := hput
        have hK6 : Kept (fun k => k ≠ m) W5 w6 := Kept.grown (p := fun q => q ≠ m) (Kept.refl _ _) hg6 (fun q hq hp => hp (Option.some.inj hq).symm)
        have hX6 := hX5.kept hK6 (show w.heap.size + 1 ≠ m by omega)
        obtain ⟨t0, t1, t2, t3, t4, t5, t6, t7⟩ := hX6.cells
        obtain ⟨u0, u1, u2, u3, u4, u5, u6, u7⟩ := hX6.free
        have hB7 : Below (w.heap.size + 1) w6 (set8 w6 (w.heap.size + 1) b0 b1 b2 b3 b4 b5 b6 b7) := below_set8 (Below.refl _ _) (Nat.le_refl _) _ _ _ _ _ _ _ _
        have hK56 : Kept (fun k => k ≠ m) w w6 := (Kept.of_below HB5.out).trans hK6
        have HK7 : Hid (Kept (fun k => k ≠ m) w (set8 w6 (w.heap.size + 1) b0 b1 b2 b3 b4 b5 b6 b7)) :=
          ⟨hB7.os.trans hK56.os, hB7.tape.trans hK56.tape, hB7.output.trans hK56.output, Nat.le_trans hK56.size hB7.size, fun k hk hp => (hB7.block k (by omega)).trans (hK56.block k hk hp)⟩
        have HM7 : Hid (Mp (set8 w6 (w.heap.size + 1) b0 b1 b2 b3 b4 b5 b6 b7) m (n + 1) (mpB (bs))) := hm6.obj fun es c ho => (hB7.block m (by omega)).trans ho
        clear hput hm6 hg6 hK6 hX6 hB7 hK56 hX5 hX4 hm5 hm4 hB45 HB4
        go_upto_region 5 with fail
        rw [← hW5]
        clear hW5 hlook d0 d1 d2 d3 d4 d5 d6 d7 g0 g1 g2 g3 g4 g5 g6 g7 l0 l1
        go_wp2_with fail
        refine bodyPost_ret (v := .tuple #[.agg #[B b0, B b1, B b2, B b3, B b4, B b5, B b6, B b7], .bool false, .int .i64 0]) ?_ rfl ⟨rfl, ⟨n + 1, Nat.le_refl _, HM7.out⟩, HK7.out⟩
        have hres : Tryz.f49.results = #[.cell 4 39, .tmp 5, .tmp 6] := by kernel_rfl
        simp only [results, hres]
        go_simp
        exact ⟨rfl, rfl, rfl, rfl, rfl, rfl, rfl, rfl⟩
      · skip
        have hxe : Pk.bid b.p = [b0, b1, b2, b3, b4, b5, b6, b7] := by rw [← hL, idOr, if_pos hE]
        rw [hE] at hid'
        clear hL
        have hI0 : Wk.into (pl bs) b.p = (pl bs, Pk.bid b.p, 11) := by unfold Wk.into; rw [if_neg (fun q => q hE), h1]; dsimp only; rw [if_neg hop]
        have e1 : errI bs b = 11 := by unfold errI; rw [hI0]
        have HN : Hid (newI bs b = false) := by show _ = _; unfold newI; exact decide_eq_false fun q => by have := q.1; omega
        have HM : Hid (more bs b = bs) := more_bad (by omega)
        have HI : Hid (idI bs b = List.replicate 8 0) := by show _ = _; unfold idI; rw [if_neg (by omega)]
        rw [e1, HN.out, HM.out, HI.out]
        rw [hxe] at h1 h2
        have hcmp := fun W => bl_cmp W o b
        rw [show blSame o b = false from by rw [Bool.eq_false_iff]; intro q; exact hop (by rw [blSame_iff.1 q])] at hcmp
        clear e1 hE hI0 h1 hop
        go_enter Tryz.func49, Tryz.ntmps49
        go_wp2_with fail
        rw [← hW2]
        clear hW2
        refine hid'.mono ?_
        rintro e w3 ⟨rfl, hb3⟩
        have hX3 := hX.below hb3 hX.lt
        have k0 := (hb3.cell (p := ⟨w.heap.size, 0, none⟩) (by show w.heap.size < W2.heap.size; omega)).trans c0
        have k1 := (hb3.cell (p := ⟨w.heap.size, 1, none⟩) (by show w.heap.size < W2.heap.size; omega)).trans c1
        obtain ⟨f0, f1, f2, f3, f4, f5, f6, f7⟩ := hX3.free
        obtain ⟨e0, e1, e2, e3, e4, e5, e6, e7⟩ := I8.cells (b0 := 0) (b1 := 0) (b2 := 0) (b3 := 0) (b4 := 0) (b5 := 0) (b6 := 0) (b7 := 0) hX3
        have HB3 : Hid (Below w.heap.size w w3) := hB2.trans (hb3.mono (by omega))
        obtain ⟨W4, hW4⟩ : ∃ W4, W4 = set8 w3 (w.heap.size + 1) b0 b1 b2 b3 b4 b5 b6 b7 := ⟨_, rfl⟩
        have HB4 : Hid (Below w.heap.size w W4) := by rw [hW4]; exact below_set8 HB3.out (by omega) _ _ _ _ _ _ _ _
        have hB34 : Below (w.heap.size + 1) w3 W4 := by rw [hW4]; exact below_set8 (Below.refl _ _) (Nat.le_refl _) _ _ _ _ _ _ _ _
        have l0 := (hB34.cell (p := ⟨w.heap.size, 0, none⟩) (by show w.heap.size < w.heap.size + 1; omega)).trans k0
        have l1 := (hB34.cell (p := ⟨w.heap.size, 1, none⟩) (by show w.heap.size < w.heap.size + 1; omega)).trans k1
        have hX4 : I8 W4 (w.heap.size + 1) [b0, b1, b2, b3, b4, b5, b6, b7] := by rw [hW4]; exact hX3.store _ _ _ _ _ _ _ _
        unfold set8 at hW4
        simp only [B] at hW4
        obtain ⟨g0, g1, g2, g3, g4, g5, g6, g7⟩ := hX4.free
        obtain ⟨d0, d1, d2, d3, d4, d5, d6, d7⟩ := hX4.cells
        have hm4 : Mp W4 m n (mpB bs) := h.below HB4.out
        have hs4 : w.heap.size ≤ W4.heap.size := HB4.out.size
        clear hX hX3 hb3 hid' c0 c1 hB2 k0 k1 hB34
        go_upto_region 4 with fail
        rw [← hW4]
        clear hW4 f0 f1 f2 f3 f4 f5 f6 f7 e0 e1 e2 e3 e4 e5 e6 e7
        have hlook : (Instr.lookup 79 (.map (some m)) (.agg #[.int .u8 (b0.toNat : Int), .int .u8 (b1.toNat : Int), .int .u8 (b2.toNat : Int), .int .u8 (b3.toNat : Int), .int .u8 (b4.toNat : Int), .int .u8 (b5.toNat : Int), .int .u8 (b6.toNat : Int), .int .u8 (b7.toNat : Int)]) true).run Tryz.prog W4 = .ok (.tuple #[.agg #[.int .i64 o.kind, .string o.bytes], .bool true]) W4 := hm4.hit under_heap (zero_blb _) h2
        obtain ⟨W5, hW5⟩ : ∃ W5, W5 = W4.alloc (.cells #[.int .i64 o.kind, .string o.bytes] 111) := ⟨_, rfl⟩
        have hB45 : Below W4.heap.size W4 W5 := by rw [hW5]; exact (Below.refl _ W4).alloc (Nat.le_refl _) _
        have HB5 : Hid (Below w.heap.size w W5) := HB4.out.trans (hB45.mono hs4)
        have hX5 := hX4.below hB45 hX4.lt
        have hm5 := hm4.below hB45
        have hwl : w.heap.size < W4.heap.size := by have := hX4.lt; omega
        have p0 := (hB45.cell (p := ⟨w.heap.size, 0, none⟩) hwl).trans l0
        have p1 := (hB45.cell (p := ⟨w.heap.size, 1, none⟩) hwl).trans l1
        have q0 : W5.cell? ⟨W4.heap.size, 0, none⟩ = some (.int .i64 o.kind) := by rw [hW5]; simp
        have q1 : W5.cell? ⟨W4.heap.size, 1, none⟩ = some (.string o.bytes) := by rw [hW5]; simp
        obtain ⟨r0, r1, r2, r3, r4, r5, r6, r7⟩ := hX5.cells
        obtain ⟨s0, s1, s2, s3, s4, s5, s6, s7⟩ := hX5.free
        have HB9 : Hid (Below w.heap.size w (set8 W5 (w.heap.size + 1) 0 0 0 0 0 0 0 0)) := below_set8 HB5.out (by omega) _ _ _ _ _ _ _ _
        have HM9 : Hid (∃ n', n' ≤ n + 1 ∧ Mp (set8 W5 (w.heap.size + 1) 0 0 0 0 0 0 0 0) m n' (mpB bs)) := ⟨n, by omega, h.below HB9.out⟩
        clear hX5 hX4 hm5 hm4 hB45 h
        go_upto_region 5 with fail
        rw [← hW5]
        clear hW5 hlook d0 d1 d2 d3 d4 d5 d6 d7 g0 g1 g2 g3 g4 g5 g6 g7 l0 l1
        go_wp2_with fail
        refine bodyPost_ret (v := .tuple #[.agg #[B 0, B 0, B 0, B 0, B 0, B 0, B 0, B 0], .bool false, .int .i64 11]) ?_ rfl ⟨rfl, HM9.out, Kept.of_below HB9.out⟩
        have hres : Tryz.f49.results = #[.cell 4 39, .tmp 5, .tmp 6] := by kernel_rfl
        simp only [results, hres]
        go_simp
        rfl
end Go.Proofs.YthpcbbkpjggjbaaGreatDoor
namespace Go.Proofs.YthpcbbkpjggjbaaGreatDoor
open Go.RowKit
set_option maxRecDepth 4000
def cutV (mn mx bt : Int) : Value := .agg #[.int .i64 mn, .int .i64 mx, .int .i64 bt]
def OkCut (mn mx bt : Int) : Prop := 16 ≤ mn ∧ mn ≤ mx ∧ mx ≤ 1024 ∧ 1 ≤ bt ∧ bt ≤ 12
abbrev decOk (mn mx bt : Int) : Decidable (OkCut mn mx bt) := inferInstanceAs (Decidable (16 ≤ mn ∧ mn ≤ mx ∧ mx ≤ 1024 ∧ 1 ≤ bt ∧ bt ≤ 12))
def okN (mn mx bt : Int) : Int := @ite _ (OkCut mn mx bt) (decOk mn mx bt) 0 1
def sizeN (mn mx bt : Int) (n : Int) : Int := @ite _ (OkCut mn mx bt) (decOk mn mx bt) (if n ≤ 4096 then 0 else 2) 1
theorem ret_ok {mn mx bt k : Int} (h : (OkCut mn mx bt ∧ k = 0) ∨ (¬ OkCut mn mx bt ∧ k = 1)) : Ending.returned (.int .i64 k) = .returned (.int .i64 (okN mn mx bt)) := by
  unfold okN
  rcases h with ⟨h, rfl⟩ | ⟨h, rfl⟩
  · rw [if_pos h]
  · rw [if_neg h]
set_option maxHeartbeats 1000000 in
theorem ok_any (mn mx bt : Int) (w : World) :
    Calls Tryz.prog 45 #[cutV mn mx bt] w fun e w' => e = .returned (.int .i64 (okN mn mx bt)) ∧ Below w.heap.size w w' := by
  unfold cutV
  go_enter Tryz.func45, Tryz.ntmps45
  go_wp2
  all_goals go_ret
  all_goals exact ⟨ret_ok (by unfold OkCut; omega), (Below.refl _ w).alloc (Nat.le_refl _) _⟩
theorem okN_yes {mn mx bt : Int} (h : OkCut mn mx bt) : okN mn mx bt = 0 := if_pos h
theorem okN_no {mn mx bt : Int} (h : ¬ OkCut mn mx bt) : okN mn mx bt = 1 := if_neg h
theorem ret_size {mn mx bt n k : Int} (h : (OkCut mn mx bt ∧ n ≤ 4096 ∧ k = 0) ∨ (OkCut mn mx bt ∧ 4096 < n ∧ k = 2) ∨ (¬ OkCut mn mx bt ∧ k = 1)) : Ending.returned (.int .i64 k) = .returned (.int .i64 (sizeN mn mx bt n)) := by
  unfold sizeN
  rcases h with ⟨h, h2, rfl⟩ | ⟨h, h2, rfl⟩ | ⟨h, rfl⟩
  · rw [if_pos h, if_pos h2]
  · rw [if_pos h, if_neg (by omega)]
  · rw [if_neg h]
set_option maxHeartbeats 1000000 in
theorem size_any (mn mx bt n : Int) (w : World) :
    Calls Tryz.prog 112 #[cutV mn mx bt, .int .i64 n] w fun e w' => e = .returned (.int .i64 (sizeN mn mx bt n)) ∧ Below w.heap.size w w' := by
  have hc := ok_any mn mx bt
  unfold cutV at hc ⊢
  by_cases h : OkCut mn mx bt
  · have HO : Hid (OkCut mn mx bt) := h
    rw [okN_yes h] at hc
    clear h
    go_enter Tryz.func112, Tryz.ntmps112
    go_wp2_with (refine (hc _).mono ?_; rintro e w' ⟨rfl, hb⟩)
    all_goals go_ret
    all_goals exact ⟨ret_size (by have h := HO.out; unfold OkCut at h ⊢; omega), below_past hb⟩
  · have HO : Hid (¬ OkCut mn mx bt) := h
    rw [okN_no h] at hc
    clear h
    go_enter Tryz.func112, Tryz.ntmps112
    go_wp2_with (refine (hc _).mono ?_; rintro e w' ⟨rfl, hb⟩)
    go_ret
    exact ⟨ret_size (.inr (.inr ⟨HO.out, rfl⟩)), below_past hb⟩
set_option maxHeartbeats 400000 in
theorem ck_clone_any (s : ByteArray) (w : World) (hs : s.size ≤ 281474976710656) :
    Calls Tryz.prog 41 #[.string s] w fun e w' => e = .returned (.string s) ∧ Below w.heap.size w w' := by
  go_enter Tryz.func41, Tryz.ntmps41
  go_wp2_with (refine (Tryz.stringslite_Clone _ _ hs).mono ?_; rintro e w' ⟨rfl, hb⟩)
  go_ret
  exact ⟨rfl, hb⟩
end Go.Proofs.YthpcbbkpjggjbaaGreatDoor
namespace Go.Proofs.YthpcbbkpjggjbaaGreatDoor
namespace Rl
def Lin (f : Nat → Nat) : Prop := ∀ x y, f (x ^^^ y) = f x ^^^ f y
theorem Lin.zero {f : Nat → Nat} (h : Lin f) : f 0 = 0 := by
  have := h 0 0
  rwa [Nat.xor_self, Nat.xor_self] at this
theorem Lin.comp {f g : Nat → Nat} (hf : Lin f) (hg : Lin g) : Lin (fun x => f (g x)) := fun x y => by
  show f (g (x ^^^ y)) = f (g x) ^^^ f (g y)
  rw [hg, hf]
theorem xor4 (a b c d : Nat) : a ^^^ b ^^^ (c ^^^ d) = a ^^^ c ^^^ (b ^^^ d) := by
  rw [Nat.xor_assoc, ← Nat.xor_assoc b c d, Nat.xor_comm b c, Nat.xor_assoc c b d, ← Nat.xor_assoc a c]
theorem Lin.xor {f g : Nat → Nat} (hf : Lin f) (hg : Lin g) : Lin (fun x => f x ^^^ g x) := fun x y => by
  show f (x ^^^ y) ^^^ g (x ^^^ y) = _
  rw [hf, hg, xor4]
theorem top_xor {n x : Nat} (h1 : 2 ^ n ≤ x) (h2 : x < 2 ^ (n + 1)) : x ^^^ 2 ^ n < 2 ^ n := by
  apply Nat.lt_pow_two_of_testBit
  intro i hi
  rw [Nat.testBit_xor, Nat.testBit_two_pow]
  by_cases he : n = i
  · subst he
    have : x.testBit n = true := by
      rw [Nat.testBit_eq_decide_div_mod_eq]
      have hp := Nat.two_pow_pos n
      have h3 : x / 2 ^ n = 1 := by
        apply Nat.div_eq_of_lt_le
        · omega
        · rw [Nat.pow_succ] at h2; omega
      simp [h3]
    simp [this]
  · have : x.testBit i = false := Nat.testBit_lt_two_pow (Nat.lt_of_lt_of_le h2 (Nat.pow_le_pow_right (by omega) (by omega)))
    simp [this, he]
theorem lin_ext {f g : Nat → Nat} (hf : Lin f) (hg : Lin g) : ∀ n, (∀ i, i < n → f (2 ^ i) = g (2 ^ i)) → ∀ x, x < 2 ^ n → f x = g x
  | 0, _, x, hx => by
    obtain rfl : x = 0 := by simpa using hx
    rw [hf.zero, hg.zero]
  | n + 1, h, x, hx => by
    by_cases hlt : x < 2 ^ n
    · exact lin_ext hf hg n (fun i hi => h i (by omega)) x hlt
    · have e : x = (x ^^^ 2 ^ n) ^^^ 2 ^ n := by rw [Nat.xor_assoc, Nat.xor_self, Nat.xor_zero]
      rw [e, hf, hg, lin_ext hf hg n (fun i hi => h i (by omega)) _ (top_xor (by omega) hx), h n (by omega)]
def mx (a : Nat) : Nat := if a.testBit 30 then 2 * a ^^^ 2147483657 else 2 * a
theorem two_mul_xor (a b : Nat) : 2 * (a ^^^ b) = 2 * a ^^^ 2 * b := by
  apply Nat.eq_of_testBit_eq
  intro i
  cases i with
  | zero => simp
  | succ i =>
    have h : ∀ c : Nat, (2 * c).testBit (i + 1) = c.testBit i := fun c => by simp [Nat.testBit_succ]
    rw [Nat.testBit_xor, h, h, h, Nat.testBit_xor]
theorem mx_lin : Lin mx := fun a b => by
  unfold mx
  rw [Nat.testBit_xor, two_mul_xor]
  cases a.testBit 30 <;> cases b.testBit 30
  · simp
  · simp [Nat.xor_assoc]
  · simp only [Bool.true_bne, Bool.not_false, if_true]
    simp only [Bool.false_eq_true, if_false]
    rw [Nat.xor_assoc, Nat.xor_comm (2 * b), ← Nat.xor_assoc]
  · simp only [bne_self_eq_false, Bool.false_eq_true, if_false, if_true]
    rw [xor4, Nat.xor_self, Nat.xor_zero]
theorem mx_lt {a : Nat} (h : a < 2147483648) : mx a < 2147483648 := by
  unfold mx
  split
  · rename_i ht
    have h1 : 2 ^ 30 ≤ a := Nat.le_of_not_lt fun hl => by rw [Nat.testBit_lt_two_pow hl] at ht; exact Bool.noConfusion ht
    have h2 : 2 * a ^^^ 2147483657 = (2 * a ^^^ 2 ^ 31) ^^^ 9 := by rw [Nat.xor_assoc]; rfl
    rw [h2]
    exact Nat.xor_lt_two_pow (n := 31) (top_xor (by omega) (by omega)) (by decide)
  · rename_i ht
    have h1 : a < 2 ^ 30 := Nat.lt_of_not_le fun hl => by
      have : a.testBit 30 = true := by
        rw [Nat.testBit_eq_decide_div_mod_eq]
        have h3 : a / 2 ^ 30 = 1 := by omega
        simp [h3]
      exact ht this
    omega
def mxk : Nat → Nat → Nat
  | 0, a => a
  | k + 1, a => mx (mxk k a)
theorem mxk_lin : ∀ k, Lin (mxk k)
  | 0 => fun _ _ => rfl
  | k + 1 => fun a b => by rw [mxk, mxk, mxk, mxk_lin k, mx_lin]
theorem mxk_add (j k a : Nat) : mxk (j + k) a = mxk j (mxk k a) := by
  induction j with
  | zero => rw [Nat.zero_add]; rfl
  | succ j ih => rw [show j + 1 + k = j + k + 1 from by omega, mxk, mxk, ih]
theorem mxk_lt (k : Nat) {a : Nat} (h : a < 2147483648) : mxk k a < 2147483648 := by
  induction k with
  | zero => exact h
  | succ k ih => exact mx_lt ih
def tB : Nat → Nat → Nat → Nat
  | 0, _, _ => 0
  | k + 1, a, b => tB k a b ^^^ (if b.testBit k then mxk k a else 0)
theorem pick_lin (c : Nat) (k : Nat) : Lin (fun b => if b.testBit k then c else 0) := fun a b => by
  show (if (a ^^^ b).testBit k then c else 0) = _
  rw [Nat.testBit_xor]
  show _ = (if a.testBit k then c else 0) ^^^ (if b.testBit k then c else 0)
  cases a.testBit k <;> cases b.testBit k <;> simp
theorem zero_lin : Lin (fun _ => 0) := fun _ _ => (Nat.xor_self 0).symm
theorem mx_zero : mx 0 = 0 := mx_lin.zero
theorem tB_lin_b (a : Nat) : ∀ k, Lin (tB k a)
  | 0 => zero_lin
  | k + 1 => (tB_lin_b a k).xor (pick_lin (mxk k a) k)
theorem tB_two (k a b : Nat) : tB (k + 1) a (2 * b) = mx (tB k a b) := by
  induction k with
  | zero => simp [tB]; rfl
  | succ k ih =>
    rw [tB, ih, tB, mx_lin, show (2 * b).testBit (k + 1) = b.testBit k from by simp [Nat.testBit_succ]]
    cases b.testBit k
    · simp only [Bool.false_eq_true, if_false]; rw [mx_zero]
    · rfl
theorem tB_more (a b m : Nat) (h : b < 2 ^ m) (d : Nat) : tB (m + d) a b = tB m a b := by
  induction d with
  | zero => rfl
  | succ d ih =>
    rw [← Nat.add_assoc, tB, ih, Nat.testBit_lt_two_pow (Nat.lt_of_lt_of_le h (Nat.pow_le_pow_right (by omega) (by omega)))]
    simp
theorem tB_pow (a i k : Nat) (h : i < k) : tB k a (2 ^ i) = mxk i a := by
  induction k with
  | zero => omega
  | succ k ih =>
    rw [tB, Nat.testBit_two_pow]
    by_cases hi : i = k
    · subst hi
      have h0 : ∀ m, m ≤ i → tB m a (2 ^ i) = 0 := by
        intro m
        induction m with
        | zero => intro _; rfl
        | succ m ihm => intro hm; rw [tB, ihm (by omega), Nat.testBit_two_pow]; simp; intro h; omega
      rw [h0 i (Nat.le_refl _)]
      simp
    · rw [ih (by omega)]
      simp [hi]
theorem tB_lt (k : Nat) {a : Nat} (h : a < 2147483648) (b : Nat) : tB k a b < 2147483648 := by
  induction k with
  | zero => show (0 : Nat) < _; omega
  | succ k ih =>
    rw [tB]
    split
    · exact Nat.xor_lt_two_pow (n := 31) ih (mxk_lt k h)
    · rw [Nat.xor_zero]; exact ih
def rem (a : Nat) : Nat := tB 64 1 a
theorem rem_lin : Lin rem := tB_lin_b 1 64
theorem rem_lt (a : Nat) : rem a < 2147483648 := tB_lt 64 (by omega) a
theorem pw_small : ∀ i, i < 31 → mxk i 1 = 2 ^ i := by decide +kernel
theorem id_lin : Lin (fun x => x) := fun _ _ => rfl
theorem rem_small {a : Nat} (h : a < 2147483648) : rem a = a :=
  lin_ext rem_lin id_lin 31 (fun i hi => by
    show rem (2 ^ i) = 2 ^ i
    rw [rem, tB_pow _ _ _ (by omega), pw_small i hi]) a h
theorem rem_two {a : Nat} (h : a < 2 ^ 63) : rem (2 * a) = mx (rem a) := by
  rw [rem, show (64 : Nat) = 63 + 1 from rfl, tB_two, rem, tB_more 1 a 63 h 1]
theorem rem_shift (k : Nat) {a : Nat} (h : a * 2 ^ k < 2 ^ 64) : rem (a * 2 ^ k) = mxk k (rem a) := by
  induction k with
  | zero => simp [mxk]
  | succ k ih =>
    have e : a * 2 ^ (k + 1) = 2 * (a * 2 ^ k) := by rw [Nat.pow_succ, ← Nat.mul_assoc, Nat.mul_comm]
    rw [e] at h ⊢
    rw [rem_two (by omega), ih (by omega), mxk]
theorem mx31 {a : Nat} (h : a < 2147483648) : mxk 31 a = mxk 3 a ^^^ a :=
  lin_ext (f := mxk 31) (g := fun a => mxk 3 a ^^^ a) (mxk_lin 31) ((mxk_lin 3).xor id_lin) 31 (by decide +kernel) a h
theorem tB_modulus {a : Nat} (h : a < 2147483648) : tB 32 a 2147483657 = 0 := by
  have e : (2147483657 : Nat) = 2 ^ 31 ^^^ (2 ^ 3 ^^^ 2 ^ 0) := by decide
  rw [e, tB_lin_b, tB_lin_b, tB_pow _ _ _ (by omega), tB_pow _ _ _ (by omega), tB_pow _ _ _ (by omega), mx31 h]
  exact Nat.xor_self _
def T (a b : Nat) : Nat := tB 32 a b
theorem T_lin_b (a : Nat) : Lin (T a) := tB_lin_b a 32
theorem T_mx_b {a b : Nat} (ha : a < 2147483648) (hb : b < 2147483648) : T a (mx b) = mx (T a b) := by
  have h2 : tB 32 a (2 * b) = mx (tB 32 a b) := by
    rw [show (32 : Nat) = 31 + 1 from rfl, tB_two, tB_more a b 31 hb 1]
  show tB 32 a (mx b) = mx (tB 32 a b)
  unfold mx
  split
  · rw [tB_lin_b, h2, tB_modulus ha, Nat.xor_zero]; rfl
  · exact h2
theorem T_mxk_b (k : Nat) {a b : Nat} (ha : a < 2147483648) (hb : b < 2147483648) : T a (mxk k b) = mxk k (T a b) := by
  induction k with
  | zero => rfl
  | succ k ih => rw [mxk, T_mx_b ha (mxk_lt k hb), ih, mxk]
theorem T_one (a : Nat) : T a 1 = a := tB_pow a 0 32 (by omega)
theorem T_pow (a i : Nat) (h : i < 32) : T a (2 ^ i) = mxk i a := tB_pow a i 32 h
theorem T_rem_b {a y : Nat} (ha : a < 2147483648) (hy : y < 2 ^ 64) : T a (rem y) = tB 64 a y :=
  lin_ext (f := fun y => T a (rem y)) (g := tB 64 a) ((T_lin_b a).comp rem_lin) (tB_lin_b a 64) 64 (fun k hk => by
    show T a (rem (2 ^ k)) = tB 64 a (2 ^ k)
    rw [tB_pow _ _ _ hk, rem, tB_pow _ _ _ hk, T_mxk_b k ha (by omega), T_one]) y hy
theorem T_rem_b32 {a y : Nat} (ha : a < 2147483648) (hy : y < 4294967296) : T a (rem y) = T a y := by
  rw [T_rem_b ha (by omega), T]
  exact tB_more a y 32 hy 32
def cl : Nat → Nat → Nat → Nat
  | 0, _, _ => 0
  | k + 1, a, b => cl k a b ^^^ (if b.testBit k then a * 2 ^ k else 0)
theorem cl_lt {a : Nat} (ha : a < 4294967296) (b : Nat) : ∀ k, k ≤ 32 → cl k a b < 2 ^ 64
  | 0, _ => by show (0 : Nat) < _; omega
  | k + 1, h => by
    rw [cl]
    split
    · refine Nat.xor_lt_two_pow (n := 64) (cl_lt ha b k (by omega)) ?_
      have h1 : 2 ^ k ≤ 2 ^ 31 := Nat.pow_le_pow_right (by omega) (by omega)
      have h2 : a * 2 ^ k ≤ 4294967295 * 2 ^ 31 := Nat.mul_le_mul (by omega) h1
      omega
    · rw [Nat.xor_zero]; exact cl_lt ha b k (by omega)
theorem rem_cl {a : Nat} (ha : a < 4294967296) (b : Nat) : ∀ k, k ≤ 32 → rem (cl k a b) = tB k (rem a) b
  | 0, _ => rem_lin.zero
  | k + 1, h => by
    rw [cl, tB, rem_lin, rem_cl ha b k (by omega)]
    split
    · have h1 : 2 ^ k ≤ 2 ^ 31 := Nat.pow_le_pow_right (by omega) (by omega)
      have h2 : a * 2 ^ k ≤ 4294967295 * 2 ^ 31 := Nat.mul_le_mul (by omega) h1
      rw [rem_shift k (by omega)]
    · rw [rem_lin.zero]
def times (a b : Nat) : Nat := rem (cl 32 a b)
theorem times_T {a b : Nat} (ha : a < 4294967296) (hb : b < 4294967296) : times a b = T (rem a) (rem b) := by
  rw [times, rem_cl ha b 32 (by omega), T_rem_b32 (rem_lt a) hb]; rfl
end Rl
end Go.Proofs.YthpcbbkpjggjbaaGreatDoor
namespace Go.Proofs.YthpcbbkpjggjbaaGreatDoor
namespace Rl
def ofA (o : Nat) (l : List UInt8) : Nat := l.foldl (fun o b => mxk 8 o ^^^ b.toNat) o
theorem byte_lt (b : UInt8) : b.toNat < 256 := b.toNat_lt
theorem ofA_cons (o : Nat) (b : UInt8) (l : List UInt8) : ofA o (b :: l) = ofA (mxk 8 o ^^^ b.toNat) l := rfl
theorem ofA_append (o : Nat) (l m : List UInt8) : ofA o (l ++ m) = ofA (ofA o l) m := List.foldl_append
theorem ofA_from (l : List UInt8) : ∀ o, ofA o l = mxk (8 * l.length) o ^^^ ofA 0 l := by
  induction l with
  | nil => intro o; exact (Nat.xor_zero o).symm
  | cons b l ih =>
    intro o
    have h0 : mxk 8 0 = 0 := (mxk_lin 8).zero
    rw [ofA_cons, ofA_cons, ih, ih (mxk 8 0 ^^^ b.toNat), h0, Nat.zero_xor, mxk_lin, ← mxk_add, List.length_cons, show 8 * (l.length + 1) = 8 * l.length + 8 from by omega, Nat.xor_assoc]
theorem ofA_zeros (n : Nat) (l : List UInt8) : ofA 0 (List.replicate n 0 ++ l) = ofA 0 l := by
  induction n with
  | zero => rfl
  | succ n ih =>
    have h0 : mxk 8 0 = 0 := (mxk_lin 8).zero
    rw [List.replicate_succ, List.cons_append, ofA_cons, h0]
    exact ih
theorem ofA_push (g b : UInt8) (l : List UInt8) (h : l.length = 15) : mxk 8 (ofA 0 (g :: l) ^^^ mxk 120 g.toNat) ^^^ b.toNat = ofA 0 (l ++ [b]) := by
  have h0 : mxk 8 0 = 0 := (mxk_lin 8).zero
  rw [ofA_cons, ofA_from, h, h0, Nat.zero_xor, ofA_append]
  show mxk 8 (mxk 120 g.toNat ^^^ ofA 0 l ^^^ mxk 120 g.toNat) ^^^ b.toNat = mxk 8 (ofA 0 l) ^^^ b.toNat
  rw [Nat.xor_comm (mxk 120 g.toNat) (ofA 0 l), Nat.xor_assoc, Nat.xor_self, Nat.xor_zero]
def ofL (l : List UInt8) : Nat := ofA 0 (l.drop (l.length - 16))
def lastL (l : List UInt8) : List UInt8 := (List.replicate 16 0 ++ l).drop l.length
theorem lastL_length (l : List UInt8) : (lastL l).length = 16 := by
  rw [lastL, List.length_drop, List.length_append, List.length_replicate]; omega
theorem lastL_sum (l : List UInt8) : ofA 0 (lastL l) = ofL l := by
  rw [lastL, ofL, List.drop_append, List.length_replicate, List.drop_replicate, ofA_zeros]
theorem lastL_snoc (l : List UInt8) (b : UInt8) : lastL (l ++ [b]) = (lastL l).tail ++ [b] := by
  rw [lastL, lastL, List.length_append, List.length_singleton, ← List.append_assoc, List.drop_append_of_le_length (by rw [List.length_append, List.length_replicate]; omega), List.tail_drop]
end Rl
end Go.Proofs.YthpcbbkpjggjbaaGreatDoor
namespace Go.Proofs.YthpcbbkpjggjbaaGreatDoor
namespace Rl
def fold (p : Nat) : Nat := p % 2147483648 ^^^ p / 2147483648 ^^^ p / 2147483648 * 8
theorem split_xor (p : Nat) : p = p / 2147483648 * 2 ^ 31 ^^^ p % 2147483648 := by
  have h := Nat.two_pow_add_eq_or_of_lt (i := 31) (b := p % 2147483648) (by omega) (p / 2147483648)
  have hx : p / 2147483648 * 2 ^ 31 ^^^ p % 2147483648 = p / 2147483648 * 2 ^ 31 ||| p % 2147483648 := by
    apply Nat.eq_of_testBit_eq
    intro j
    rw [Nat.testBit_xor, Nat.testBit_or, Nat.testBit_mul_two_pow]
    by_cases hj : 31 ≤ j
    · have : (p % 2147483648).testBit j = false := Nat.testBit_lt_two_pow (Nat.lt_of_lt_of_le (Nat.mod_lt p (by omega)) (Nat.pow_le_pow_right (n := 2) (by omega) hj))
      simp [this]
    · simp [hj]
  rw [hx, Nat.mul_comm (p / 2147483648), ← h]
  omega
theorem fold_rem {p : Nat} (hp : p < 2 ^ 64) : rem (fold p) = rem p := by
  have h1 : p / 2147483648 * 2 ^ 31 < 2 ^ 64 := by omega
  have h2 : p / 2147483648 * 2 ^ 3 < 2 ^ 64 := by omega
  have e : rem p = rem (p / 2147483648 * 2 ^ 31) ^^^ rem (p % 2147483648) := by
    conv => lhs; rw [split_xor p]
    exact rem_lin _ _
  rw [e, rem_shift 31 h1, mx31 (rem_lt _), fold, rem_lin, rem_lin, show p / 2147483648 * 8 = p / 2147483648 * 2 ^ 3 from rfl, rem_shift 3 h2]
  rw [Nat.xor_comm (mxk 3 _), Nat.xor_comm _ (rem (p % 2147483648)), Nat.xor_assoc]
theorem fold_lt36 {p : Nat} (hp : p < 18446744073709551616) : fold p < 68719476736 := by
  refine Nat.xor_lt_two_pow (n := 36) (Nat.xor_lt_two_pow (n := 36) ?_ ?_) ?_ <;> omega
theorem fold_lt31 {p : Nat} (hp : p < 68719476736) : fold p < 2147483648 := by
  refine Nat.xor_lt_two_pow (n := 31) (Nat.xor_lt_two_pow (n := 31) ?_ ?_) ?_ <;> omega
def folds (p : Nat) : Nat := if p < 2147483648 then 0 else if p < 68719476736 then 1 else 2
theorem folds_lt {p : Nat} (hp : p < 18446744073709551616) (h : 2147483648 ≤ p) : folds (fold p) < folds p := by
  by_cases h36 : p < 68719476736
  · have h0 := fold_lt31 h36
    rw [folds, folds, if_pos h0, if_neg (by omega), if_pos h36]; omega
  · have h0 := fold_lt36 hp
    rw [folds, folds, if_neg (by omega : ¬ p < 2147483648), if_neg h36]
    by_cases h1 : fold p < 2147483648
    · rw [if_pos h1]; omega
    · rw [if_neg h1, if_pos h0]; omega
theorem times_256 {o : Nat} (h : o < 2147483648) : times o 256 = mxk 8 o := by
  rw [times_T (by omega) (by omega), rem_small h, rem_small (a := 256) (by omega)]
  exact T_pow o 8 (by omega)
theorem x120 : mxk 120 1 = 1207959812 := by decide +kernel
theorem times_120 {g : Nat} (h : g < 2147483648) : times g 1207959812 = mxk 120 g := by
  rw [times_T (by omega) (by omega), rem_small h, rem_small (a := 1207959812) (by omega), ← x120, T_mxk_b 120 h (by omega), T_one]
def pushS (o g b : Nat) : Nat := mxk 8 (o ^^^ mxk 120 g) ^^^ b
theorem pushS_lt {o g b : Nat} (h : o < 2147483648) (hg : g < 256) (hb : b < 256) : pushS o g b < 2147483648 :=
  Nat.xor_lt_two_pow (n := 31) (mxk_lt 8 (Nat.xor_lt_two_pow (n := 31) h (mxk_lt 120 (by omega)))) (by omega)
end Rl
end Go.Proofs.YthpcbbkpjggjbaaGreatDoor
namespace Go.Proofs.YthpcbbkpjggjbaaGreatDoor
open Go.RowKit
set_option maxRecDepth 4000
theorem rl_wrap_u64_mod (n : Nat) : IntKind.u64.wrap (n : Int) = ((n % 18446744073709551616 : Nat) : Int) := by
  simp only [IntKind.wrap, IntKind.bits, IntKind.signed]
  simp
theorem wrap_u32_mod (n : Nat) : IntKind.u32.wrap (n : Int) = ((n % 4294967296 : Nat) : Int) := by
  simp only [IntKind.wrap, IntKind.bits, IntKind.signed]
  simp
theorem wrap_u32_small (n : Nat) (h : n < 4294967296) : IntKind.u32.wrap (n : Int) = (n : Int) := by
  rw [wrap_u32_mod, Nat.mod_eq_of_lt h]
theorem rl_shr_int (C k : Nat) : (C : Int) / 2 ^ k = ((C / 2 ^ k : Nat) : Int) := by simp
theorem bit_u32 (C k : Nat) (h : C < 4294967296) : bits BinOp.and IntKind.u32 ((C : Int) / 2 ^ k) 1 = ((C / 2 ^ k % 2 : Nat) : Int) := by
  have hl := Nat.div_le_self C (2 ^ k)
  rw [rl_shr_int, show (1 : Int) = ((1 : Nat) : Int) from rfl, u32_and_nat _ _ (by omega) (by omega), Nat.and_one_is_mod]
theorem testBit_div (b k : Nat) : b.testBit k = decide (b / 2 ^ k % 2 = 1) := Nat.testBit_eq_decide_div_mod_eq
theorem shl_u64 (a k : Nat) (h : a * 2 ^ k < 18446744073709551616) : IntKind.u64.wrap ((a : Int) * 2 ^ k) = ((a * 2 ^ k : Nat) : Int) := by
  rw [show (a : Int) * 2 ^ k = ((a * 2 ^ k : Nat) : Int) from by simp, rl_wrap_u64_mod, Nat.mod_eq_of_lt h]
theorem cl_in {a b k : Nat} (hb : b / 2 ^ k % 2 = 1) : Rl.cl (k + 1) a b = Rl.cl k a b ^^^ a * 2 ^ k := by
  rw [Rl.cl, testBit_div, if_pos (by simpa using hb)]
theorem cl_out {a b k : Nat} (hb : ¬ b / 2 ^ k % 2 = 1) : Rl.cl (k + 1) a b = Rl.cl k a b := by
  rw [Rl.cl, testBit_div, if_neg (by simpa using hb), Nat.xor_zero]
theorem mul_lt64 {a k : Nat} (ha : a < 4294967296) (hk : k < 32) : a * 2 ^ k < 18446744073709551616 := by
  have h1 : 2 ^ k ≤ 2 ^ 31 := Nat.pow_le_pow_right (by omega) (by omega)
  have h2 : a * 2 ^ k ≤ 4294967295 * 2 ^ 31 := Nat.mul_le_mul (by omega) h1
  omega
set_option maxHeartbeats 400000 in
theorem rl_product_any (a b : Nat) (w : World) (ha : a < 4294967296) (hb : b < 4294967296) :
    Calls Tryz.prog 139 #[.int .u32 a, .int .u32 b] w fun e w' => e = .returned (.int .u64 (Rl.cl 32 a b : Nat)) ∧ w' = w := by
  go_enter Tryz.func139, Tryz.ntmps139
  go_wp2
  go_loop [5, 7] (fun p i => ∃ k : Nat, k ≤ 32 ∧ i = .int .i64 k ∧ p = .int .u64 (Rl.cl k a b : Nat)) (fun _ i => 32 - (intOf i).toNat)
  case atStart => exact ⟨0, by omega, rfl, rfl⟩
  case round =>
    obtain ⟨k, hk, rfl, rfl⟩ := hrel
    by_cases hlt : k < 32
    · by_cases hc : b / 2 ^ k % 2 = 1
      · have hq : (bits BinOp.and IntKind.u32 ((b : Int) / 2 ^ k) 1 == 1) = true := by rw [bit_u32 b k hb, beq_iff_eq]; omega
        have hs := shl_u64 a k (mul_lt64 ha hlt)
        have hx := u64_xor_nat (Rl.cl k a b) (a * 2 ^ k) (Rl.cl_lt ha b k hk) (mul_lt64 ha hlt)
        have HC : Hid (Rl.cl (k + 1) a b = Rl.cl k a b ^^^ a * 2 ^ k) := cl_in hc
        have HX : Hid (bits .xor .u64 (Rl.cl k a b : Int) (IntKind.u64.wrap ((a : Int) * 2 ^ k)) = ((Rl.cl (k + 1) a b : Nat) : Int)) := by show _ = _; rw [hs, hx, HC.out]
        clear hs hx hc HC
        go_wp2
        go_round
        case rel => exact ⟨k + 1, by omega, by go_num, int_eq HX.out⟩
        case measure => simp [intOf]; omega
      · have hq : (bits BinOp.and IntKind.u32 ((b : Int) / 2 ^ k) 1 == 1) = false := by rw [bit_u32 b k hb, beq_eq_false_iff_ne]; omega
        have HC : Hid (Rl.cl (k + 1) a b = Rl.cl k a b) := cl_out hc
        clear hc
        go_wp2
        go_round
        case rel => exact ⟨k + 1, by omega, by go_num, by rw [HC.out]⟩
        case measure => simp [intOf]; omega
    · obtain rfl : k = 32 := by omega
      go_wp2
      go_ret
      exact ⟨rfl, rfl⟩
theorem fold_bits (p : Nat) (hp : p < 18446744073709551616) :
    bits .xor .u64 (bits .xor .u64 (bits .and .u64 (p : Int) 2147483647) ((p : Int) / 2147483648)) ((p : Int) / 2147483648 * 8) = (Rl.fold p : Nat) := by
  have h1 : p % 2147483648 ^^^ p / 2147483648 < 18446744073709551616 := Nat.xor_lt_two_pow (n := 64) (by omega) (by omega)
  rw [show (p : Int) / 2147483648 = ((p / 2147483648 : Nat) : Int) from by omega, show ((p / 2147483648 : Nat) : Int) * 8 = ((p / 2147483648 * 8 : Nat) : Int) from by omega,
    show (2147483647 : Int) = ((2 ^ 31 - 1 : Nat) : Int) from rfl, u64_and_nat _ _ hp (by omega), Nat.and_two_pow_sub_one_eq_mod, u64_xor_nat _ _ (by omega) (by omega), u64_xor_nat _ _ h1 (by omega), Rl.fold]
set_option maxHeartbeats 400000 in
theorem remainder_any (p : Nat) (w : World) (hp : p < 18446744073709551616) :
    Calls Tryz.prog 138 #[.int .u64 p] w fun e w' => e = .returned (.int .u32 (Rl.rem p : Nat)) ∧ w' = w := by
  go_enter Tryz.func138, Tryz.ntmps138
  go_wp2
  go_loop [0] (fun v => ∃ q : Nat, q < 18446744073709551616 ∧ v = .int .u64 q ∧ Hid (Rl.rem q = Rl.rem p)) (fun v => Rl.folds (intOf v).toNat)
  case atStart => exact ⟨p, hp, rfl, rfl⟩
  case round =>
    obtain ⟨q, hq, rfl, HR⟩ := hrel
    by_cases hlt : 2147483648 ≤ q
    · have hne : (((q : Int) / 2147483648) != 0) = true := by rw [bne_iff_ne]; omega
      have HX : Hid (bits .xor .u64 (bits .xor .u64 (bits .and .u64 (q : Int) 2147483647) ((q : Int) / 2147483648)) ((q : Int) / 2147483648 * 8) = (Rl.fold q : Nat)) := fold_bits q hq
      have HF : Hid (Rl.folds (Rl.fold q) < Rl.folds q) := Rl.folds_lt hq hlt
      have HL : Hid (Rl.fold q < 68719476736) := Rl.fold_lt36 hq
      have HR2 : Hid (Rl.rem (Rl.fold q) = Rl.rem p) := (Rl.fold_rem hq).trans HR.out
      go_wp2
      go_round
      case rel => exact ⟨Rl.fold q, by have := HL.out; omega, int_eq HX.out, HR2⟩
      case measure =>
        simp only [intOf]
        rw [HX.out, Int.toNat_natCast, Int.toNat_natCast]
        exact HF.out
    · have hne : (((q : Int) / 2147483648) != 0) = false := by
        rw [show (q : Int) / 2147483648 = 0 from by omega]; rfl
      have HE : Hid ((q : Int) = (Rl.rem p : Nat)) := by
        show _ = _
        rw [← HR.out, Rl.rem_small (by omega)]
      go_wp2
      go_ret
      exact ⟨ret_int HE.out, rfl⟩
set_option maxHeartbeats 400000 in
theorem times_any (a b : Nat) (w : World) (ha : a < 4294967296) (hb : b < 4294967296) :
    Calls Tryz.prog 136 #[.int .u32 a, .int .u32 b] w fun e w' => e = .returned (.int .u32 (Rl.times a b : Nat)) ∧ w' = w := by
  have hl := Rl.cl_lt ha b 32 (by omega)
  go_enter Tryz.func136, Tryz.ntmps136
  go_wp2_with fail
  refine (rl_product_any a b _ ha hb).mono ?_
  rintro e w1 ⟨rfl, rfl⟩
  go_wp2_with fail
  refine (remainder_any _ _ hl).mono ?_
  rintro e w2 ⟨rfl, rfl⟩
  go_wp2_with fail
  go_ret
  exact ⟨rfl, rfl⟩
end Go.Proofs.YthpcbbkpjggjbaaGreatDoor
namespace Go.Proofs.YthpcbbkpjggjbaaGreatDoor
open Go.RowKit
set_option maxRecDepth 4000
set_option maxHeartbeats 400000 in
theorem putIn_any (o : Nat) (b : UInt8) (w : World) (ho : o < 2147483648) :
    Calls Tryz.prog 137 #[.int .u32 o, B b] w fun e w' => e = .returned (.int .u32 (Rl.mxk 8 o ^^^ b.toNat : Nat)) ∧ w' = w := by
  have hb := Rl.byte_lt b
  have hx := u32_xor_nat (Rl.mxk 8 o) b.toNat (by have := Rl.mxk_lt 8 ho; omega) (by omega)
  have ht := times_any o 256 w (by omega) (by omega)
  rw [Rl.times_256 ho] at ht
  unfold B
  go_enter Tryz.func137, Tryz.ntmps137
  go_wp2_with fail
  refine ht.mono ?_
  rintro e w1 ⟨rfl, rfl⟩
  go_wp2_with fail
  go_ret
  exact ⟨rfl, rfl⟩
end Go.Proofs.YthpcbbkpjggjbaaGreatDoor
namespace Go.Proofs.YthpcbbkpjggjbaaGreatDoor
namespace Ck
abbrev Bs := List UInt8
def step (E : Bs → Bool) (q : List Bs × Bs) (b : UInt8) : List Bs × Bs := if E (q.2 ++ [b]) then (q.1 ++ [q.2 ++ [b]], []) else (q.1, q.2 ++ [b])
def run (E : Bs → Bool) (q : List Bs × Bs) (s : Bs) : List Bs × Bs := s.foldl (step E) q
def pieces (E : Bs → Bool) (s : Bs) : List Bs × Bs := run E ([], []) s
def cut (E : Bs → Bool) (s : Bs) : List Bs := if (pieces E s).2 = [] then (pieces E s).1 else (pieces E s).1 ++ [(pieces E s).2]
variable {E : Bs → Bool}
theorem run_nil (q : List Bs × Bs) : run E q [] = q := rfl
theorem run_cons (q : List Bs × Bs) (b : UInt8) (s : Bs) : run E q (b :: s) = run E (step E q b) s := rfl
theorem run_append (q : List Bs × Bs) (s t : Bs) : run E q (s ++ t) = run E (run E q s) t := List.foldl_append
theorem run_snoc (q : List Bs × Bs) (s : Bs) (b : UInt8) : run E q (s ++ [b]) = step E (run E q s) b := by rw [run_append]; rfl
theorem run_from (s : Bs) : ∀ (l : List Bs) (r : Bs), run E (l, r) s = (l ++ (run E ([], r) s).1, (run E ([], r) s).2) := by
  induction s with
  | nil => intro l r; simp [run_nil]
  | cons b s ih =>
    intro l r
    rw [run_cons, run_cons]
    unfold step
    by_cases h : E (r ++ [b])
    · simp only [h, if_true, List.nil_append]
      rw [ih (l ++ [r ++ [b]]) [], ih [r ++ [b]] []]
      simp
    · simp only [h, Bool.false_eq_true, if_false]
      exact ih l (r ++ [b])
theorem run_join (s : Bs) : ∀ (l : List Bs) (r : Bs), (run E (l, r) s).1.flatten ++ (run E (l, r) s).2 = l.flatten ++ (r ++ s) := by
  induction s with
  | nil => intro l r; simp [run_nil]
  | cons b s ih =>
    intro l r
    rw [run_cons]
    unfold step
    by_cases h : E (r ++ [b])
    · simp only [h, if_true]
      rw [ih]; simp
    · simp only [h, Bool.false_eq_true, if_false]
      rw [ih]; simp
theorem pieces_join (s : Bs) : (pieces E s).1.flatten ++ (pieces E s).2 = s := by
  have := run_join (E := E) s [] []
  rw [List.flatten_nil, List.nil_append, List.nil_append] at this
  exact this
theorem cut_join (s : Bs) : (cut E s).flatten = s := by
  have h := pieces_join (E := E) s
  unfold cut
  by_cases e : (pieces E s).2 = []
  · rw [if_pos e]
    rwa [e, List.append_nil] at h
  · rw [if_neg e, List.flatten_append]
    simpa using h
theorem cut_of {s : Bs} {l : List Bs} {q : Bs} (h : pieces E s = (l, q)) : cut E s = if q = [] then l else l ++ [q] := by
  unfold cut; rw [h]
theorem run_ends (s : Bs) : ∀ (l : List Bs) (r : Bs), (∀ p ∈ l, E p = true) → ∀ p ∈ (run E (l, r) s).1, E p = true := by
  induction s with
  | nil => intro l r h; exact h
  | cons b s ih =>
    intro l r h
    rw [run_cons]
    unfold step
    by_cases e : E (r ++ [b])
    · simp only [e, if_true]
      refine ih _ _ fun p hp => ?_
      rcases List.mem_append.1 hp with hp | hp
      · exact h p hp
      · rw [List.mem_singleton.1 hp]; exact e
    · simp only [e, Bool.false_eq_true, if_false]
      exact ih _ _ h
theorem pieces_ends (s : Bs) : ∀ p ∈ (pieces E s).1, E p = true := run_ends s [] [] (fun _ h => by cases h)
theorem run_short {M : Nat} (hE : ∀ p : Bs, p.length = M → E p = true) (s : Bs) : ∀ (l : List Bs) (r : Bs), r.length < M → 0 < M → (run E (l, r) s).2.length < M := by
  induction s with
  | nil => intro l r h _; exact h
  | cons b s ih =>
    intro l r h h0
    rw [run_cons]
    unfold step
    by_cases e : E (r ++ [b])
    · simp only [e, if_true]
      exact ih _ _ h0 h0
    · simp only [e, Bool.false_eq_true, if_false]
      refine ih _ _ ?_ h0
      rcases Nat.lt_or_ge (r ++ [b]).length M with h1 | h1
      · exact h1
      · exact absurd (hE (r ++ [b]) (by simp at h1 ⊢; omega)) e
def ends (mn mx bits : Nat) (sum : Bs → Nat) (p : Bs) : Bool := p.length == mx || (decide (mn ≤ p.length) && sum p % 2 ^ bits == 0)
theorem pieces_short (mn mx bits : Nat) (sum : Bs → Nat) (s : Bs) (h : 0 < mx) : (pieces (ends mn mx bits sum) s).2.length < mx :=
  run_short (fun p hp => by simp [ends, hp]) s [] [] h h
theorem ends_min {mn mx bits : Nat} {sum : Bs → Nat} {p : Bs} (h : ends mn mx bits sum p = true) (hm : mn ≤ mx) : mn ≤ p.length := by
  unfold ends at h
  rw [Bool.or_eq_true, Bool.and_eq_true, beq_iff_eq, decide_eq_true_eq] at h
  omega
end Ck
end Go.Proofs.YthpcbbkpjggjbaaGreatDoor
namespace Go.Proofs.YthpcbbkpjggjbaaGreatDoor
namespace Ck
def fx (n : Nat) (s : Bs) (k : Nat) : List Bs := (List.range k).map fun j => (s.drop (j * n)).take n
theorem fx_succ (n : Nat) (s : Bs) (k : Nat) : fx n s (k + 1) = fx n s k ++ [(s.drop (k * n)).take n] := by
  rw [fx, List.range_succ, List.map_append]; rfl
theorem fx_length (n : Nat) (s : Bs) (k : Nat) : (fx n s k).length = k := by rw [fx, List.length_map, List.length_range]
theorem fx_join (n : Nat) (s : Bs) (k : Nat) : (fx n s k).flatten = s.take (k * n) := by
  induction k with
  | zero => simp [fx]
  | succ k ih =>
    rw [fx_succ, List.flatten_append, ih, Nat.succ_mul, List.take_add]
    simp
def many (n len : Nat) : Nat := (len + n - 1) / n
theorem many_ge {n len : Nat} (h : 0 < n) : len ≤ many n len * n := by
  have h1 := Nat.div_add_mod (len + n - 1) n
  have h2 := Nat.mod_lt (len + n - 1) h
  rw [many, Nat.mul_comm]
  omega
theorem many_lt {n len k : Nat} (h : 0 < n) : k < many n len ↔ k * n < len := by
  rw [many, Nat.lt_iff_add_one_le, Nat.le_div_iff_mul_le h, Nat.succ_mul]
  omega
def fixed (n : Nat) (s : Bs) : List Bs := fx n s (many n s.length)
theorem fixed_join {n : Nat} (h : 0 < n) (s : Bs) : (fixed n s).flatten = s := by
  rw [fixed, fx_join, List.take_of_length_le (many_ge h)]
theorem fixed_length (n : Nat) (s : Bs) : (fixed n s).length = many n s.length := fx_length _ _ _
theorem fixed_get {n : Nat} {s : Bs} {j : Nat} (hj : j < (fixed n s).length) : (fixed n s)[j] = (s.drop (j * n)).take n := by
  simp [fixed, fx]
theorem fixed_size {n : Nat} {s : Bs} {j : Nat} (h : 0 < n) (hj : j < (fixed n s).length) : 0 < (fixed n s)[j].length ∧ (fixed n s)[j].length ≤ n ∧ (j + 1 < (fixed n s).length → (fixed n s)[j].length = n) := by
  rw [fixed_get hj, List.length_take, List.length_drop]
  have h1 := (many_lt (len := s.length) (k := j) h).1 (by rw [← fixed_length]; exact hj)
  refine ⟨by omega, by omega, fun h2 => ?_⟩
  have h3 := (many_lt (len := s.length) (k := j + 1) h).1 (by rw [← fixed_length]; exact h2)
  rw [Nat.succ_mul] at h3
  omega
variable {mn mx bits : Nat} {sum : Bs → Nat}
theorem run_max (hm : 0 < mx) (s : Bs) : ∀ (l : List Bs) (r : Bs), r.length < mx → (∀ p ∈ l, p.length ≤ mx) → ∀ p ∈ (run (ends mn mx bits sum) (l, r) s).1, p.length ≤ mx := by
  induction s with
  | nil => intro l r _ h; exact h
  | cons b s ih =>
    intro l r hr h
    rw [run_cons]
    unfold step
    by_cases e : ends mn mx bits sum (r ++ [b])
    · simp only [e, if_true]
      refine ih _ _ hm fun p hp => ?_
      rcases List.mem_append.1 hp with hp | hp
      · exact h p hp
      · rw [List.mem_singleton.1 hp, List.length_append, List.length_singleton]; omega
    · simp only [e, Bool.false_eq_true, if_false]
      refine ih _ _ ?_ h
      rcases Nat.lt_or_ge (r ++ [b]).length mx with h1 | h1
      · exact h1
      · exfalso
        apply e
        rw [List.length_append, List.length_singleton] at h1
        simp [ends, show r.length + 1 = mx from by omega]
theorem pieces_max (hm : 0 < mx) (s : Bs) : ∀ p ∈ (pieces (ends mn mx bits sum) s).1, p.length ≤ mx :=
  run_max hm s [] [] hm (fun _ h => by cases h)
theorem pieces_min (hm : mn ≤ mx) (s : Bs) : ∀ p ∈ (pieces (ends mn mx bits sum) s).1, mn ≤ p.length :=
  fun p hp => ends_min (pieces_ends s p hp) hm
theorem cut_size (h0 : 0 < mn) (hm : mn ≤ mx) (s : Bs) {j : Nat} (hj : j < (cut (ends mn mx bits sum) s).length) :
    0 < (cut (ends mn mx bits sum) s)[j].length ∧ (cut (ends mn mx bits sum) s)[j].length ≤ mx ∧ (j + 1 < (cut (ends mn mx bits sum) s).length → mn ≤ (cut (ends mn mx bits sum) s)[j].length) := by
  obtain ⟨l, q, hp⟩ : ∃ l q, pieces (ends mn mx bits sum) s = (l, q) := ⟨_, _, rfl⟩
  have a1 : ∀ p ∈ l, p.length ≤ mx := by have := pieces_max (mn := mn) (bits := bits) (sum := sum) (show 0 < mx by omega) s; rw [hp] at this; exact this
  have a2 : ∀ p ∈ l, mn ≤ p.length := by have := pieces_min (bits := bits) (sum := sum) hm s; rw [hp] at this; exact this
  have a3 : q.length < mx := by have := pieces_short mn mx bits sum s (by omega); rw [hp] at this; exact this
  have hc := cut_of hp
  by_cases e : q = []
  · rw [if_pos e] at hc
    simp only [hc] at hj ⊢
    have hm := List.getElem_mem hj
    have := a1 _ hm
    have := a2 _ hm
    exact ⟨by omega, by omega, fun _ => by omega⟩
  · rw [if_neg e] at hc
    simp only [hc] at hj ⊢
    rw [List.length_append, List.length_singleton] at hj ⊢
    rcases Nat.lt_or_ge j l.length with h1 | h1
    · rw [List.getElem_append_left h1]
      have hm := List.getElem_mem h1
      have := a1 _ hm
      have := a2 _ hm
      exact ⟨by omega, by omega, fun _ => by omega⟩
    · obtain rfl : j = l.length := by omega
      rw [List.getElem_append_right (Nat.le_refl _)]
      have hq : 0 < q.length := List.length_pos_iff.2 e
      simp
      exact ⟨hq, by omega⟩
end Ck
end Go.Proofs.YthpcbbkpjggjbaaGreatDoor
namespace Go.Proofs.YthpcbbkpjggjbaaGreatDoor
open Go.RowKit
def Sv (p : Ck.Bs) : Value := .string ⟨p.toArray⟩
theorem info_str : (Tryz.prog.info? 9).map (fun i => (i.zero, i.size, i.bytes)) = some (some (.string ⟨#[]⟩), 1, 16) := by kernel_rfl
theorem ext_eq (s : ByteArray) (a b : Nat) : s.extract a b = ⟨((s.data.toList.drop a).take (b - a)).toArray⟩ := by
  apply ByteArray.ext
  apply Array.toList_inj.1
  rw [ByteArray.data_extract]
  simp [List.extract_eq_take_drop]
theorem own_str {base : Nat} {w wr w1 : World} {v v1 : Value} {l : List Ck.Bs} {e : ByteArray} {o : Obj} (hown : wr.ownsRow base 9 1 v l.length (l.map Sv))
    (hown1 : w1.ownsRow base 9 1 v1 (l.length + 1) (l.map Sv ++ [.string e])) (hg : (wr.alloc o).grownBy w1 v.ownBlock) (hbel : Below base w wr) (hbase : base ≤ w.heap.size) :
    w1.ownsRow base 9 1 v1 (l ++ [e.data.toList]).length ((l ++ [e.data.toList]).map Sv) ∧ Below base w w1 := by
  refine ⟨by simpa [Sv] using hown1, ?_⟩
  have hs := hbel.size
  refine (hbel.alloc (by omega) o).grown hg (by simp; omega) ?_
  intro k hk
  exact (hown.lt k hk).1
end Go.Proofs.YthpcbbkpjggjbaaGreatDoor
namespace Go.Proofs.YthpcbbkpjggjbaaGreatDoor
open Go.RowKit
def rollCells (l : List UInt8) (i : Int) (o : Nat) : List Value := l.map B ++ [.int .i64 i, .int .u32 o]
theorem rollCells_length {l : List UInt8} (h : l.length = 16) (i : Int) (o : Nat) : (rollCells l i o).length = 18 := by
  rw [rollCells, List.length_append, List.length_map, h]; rfl
theorem rollCells_lo {l : List UInt8} (h : l.length = 16) (i : Int) (o : Nat) {k : Nat} (hk : k < 16) : (rollCells l i o)[k]? = some (B (l.getD k 0)) := by
  rw [rollCells, List.getElem?_append_left (by simpa [h] using hk), List.getElem?_map, List.getElem?_eq_getElem (by omega), List.getD_eq_getElem?_getD, List.getElem?_eq_getElem (by omega)]
  rfl
theorem rollCells_16 {l : List UInt8} (h : l.length = 16) (i : Int) (o : Nat) : (rollCells l i o)[16]? = some (.int .i64 i) := by
  rw [rollCells, List.getElem?_append_right (by simp [h]), List.length_map, h]; rfl
theorem rollCells_17 {l : List UInt8} (h : l.length = 16) (i : Int) (o : Nat) : (rollCells l i o)[17]? = some (.int .u32 o) := by
  rw [rollCells, List.getElem?_append_right (by simp [h]), List.length_map, h]; rfl
theorem rollCells_one (l : List UInt8) (i : Int) (o : Nat) : (rollCells l i o).toArray.all (·.oneCell') = true := by
  apply all_oneCell_toArray
  intro v hv
  rw [rollCells, List.mem_append] at hv
  rcases hv with hv | hv
  · obtain ⟨b, _, rfl⟩ := List.mem_map.1 hv; rfl
  · simp only [List.mem_cons, List.not_mem_nil, or_false] at hv
    rcases hv with rfl | rfl <;> rfl
structure RS (A G : Nat) (w W : World) (l : List UInt8) (i : Int) (o : Nat) : Prop where
  len : l.length = 16
  rng : W.rangeAt G 0 (rollCells l i o)
  fz : ∀ j, j < 18 → W.frozen? ⟨G, j, none⟩ = false
  res : W.there (G + 1) 0 18
  bel : Below A w W
  low : A ≤ G
theorem RS.lo {A G : Nat} {w W : World} {l : List UInt8} {i : Int} {o : Nat} (h : RS A G w W l i o) {k : Nat} (hk : k < 16) : W.cell? ⟨G, k, none⟩ = some (.int .u8 ((l.getD k 0).toNat : Int)) := by
  have := h.rng k _ (rollCells_lo h.len i o hk)
  simpa [B] using this
theorem RS.c16 {A G : Nat} {w W : World} {l : List UInt8} {i : Int} {o : Nat} (h : RS A G w W l i o) : W.cell? ⟨G, 16, none⟩ = some (.int .i64 i) := by
  have := h.rng 16 _ (rollCells_16 h.len i o)
  simpa using this
theorem RS.c17 {A G : Nat} {w W : World} {l : List UInt8} {i : Int} {o : Nat} (h : RS A G w W l i o) : W.cell? ⟨G, 17, none⟩ = some (.int .u32 o) := by
  have := h.rng 17 _ (rollCells_17 h.len i o)
  simpa using this
theorem RS.drew {A G : Nat} {w W : World} {l : List UInt8} {i : Int} {o : Nat} (h : RS A G w W l i o) : RS A G w W.drew l i o :=
  ⟨h.len, fun j v hv => by simpa using h.rng j v hv, fun j hj => by simpa using h.fz j hj, fun j hj => by simpa using h.res j hj, h.bel.drew, h.low⟩
theorem RS.write {A G : Nat} {w W : World} {l l' : List UInt8} {i i' : Int} {o o' k : Nat} {v : Value} (h : RS A G w W l i o) (hk : k < 18) (hl : l'.length = 16) (hv : (rollCells l' i' o')[k]? = some v)
    (hn : ∀ j, j ≠ k → (rollCells l' i' o')[j]? = (rollCells l i o)[j]?) : RS A G w (W.setCell ⟨G, k, none⟩ v) l' i' o' := by
  have hx : ∃ u, (rollCells l i o)[k]? = some u := ⟨_, List.getElem?_eq_getElem (by rw [rollCells_length h.len]; exact hk)⟩
  obtain ⟨u, hu⟩ := hx
  have hc : W.cell? ⟨G, k, none⟩ = some u := by simpa using h.rng k u hu
  refine ⟨hl, ?_, ?_, ?_, h.bel.setCell h.low _, h.low⟩
  · intro j x hj
    rw [Nat.zero_add]
    by_cases e : j = k
    · subst e
      rw [World.cell?_setCell_same _ _ _ hc, ← hv, hj]
    · rw [World.cell?_setCell_other _ _ _ _ (by intro q; exact e (congrArg Addr.off q).symm)]
      rw [hn j e] at hj
      simpa using h.rng j x hj
  · intro j hj
    simpa using h.fz j hj
  · intro j hj
    rw [World.cell?_setCell_other _ _ _ _ (by intro q; have := congrArg Addr.block q; simp at this)]
    simpa using h.res j hj
theorem RS.sum {A G : Nat} {w W : World} {l : List UInt8} {i : Int} {o : Nat} (h : RS A G w W l i o) (o' : Nat) : RS A G w (W.setCell ⟨G, 17, none⟩ (.int .u32 (o' : Int))) l i o' := by
  refine h.write (by omega) h.len (rollCells_17 h.len i o') fun j hj => ?_
  rcases Nat.lt_or_ge j 16 with h1 | h1
  · rw [rollCells_lo h.len i o h1, rollCells_lo h.len i o' h1]
  · rcases Nat.lt_or_ge j 17 with h2 | h2
    · rw [show j = 16 from by omega, rollCells_16 h.len, rollCells_16 h.len]
    · rw [List.getElem?_eq_none (by rw [rollCells_length h.len]; omega), List.getElem?_eq_none (by rw [rollCells_length h.len]; omega)]
theorem RS.place {A G : Nat} {w W : World} {l : List UInt8} {i : Int} {o : Nat} (h : RS A G w W l i o) (i' : Int) : RS A G w (W.setCell ⟨G, 16, none⟩ (.int .i64 i')) l i' o := by
  refine h.write (by omega) h.len (rollCells_16 h.len i' o) fun j hj => ?_
  rcases Nat.lt_or_ge j 16 with h1 | h1
  · rw [rollCells_lo h.len i o h1, rollCells_lo h.len i' o h1]
  · rcases Nat.lt_or_ge j 18 with h2 | h2
    · rw [show j = 17 from by omega, rollCells_17 h.len, rollCells_17 h.len]
    · rw [List.getElem?_eq_none (by rw [rollCells_length h.len]; omega), List.getElem?_eq_none (by rw [rollCells_length h.len]; omega)]
theorem RS.byte {A G : Nat} {w W : World} {l : List UInt8} {i : Int} {o : Nat} (h : RS A G w W l i o) {k : Nat} (hk : k < 16) (b : UInt8) : RS A G w (W.setCell ⟨G, k, none⟩ (.int .u8 (b.toNat : Int))) (l.set k b) i o := by
  have hl : (l.set k b).length = 16 := by rw [List.length_set]; exact h.len
  refine h.write (by omega) hl (by rw [rollCells_lo hl i o hk, List.getD_eq_getElem?_getD, List.getElem?_set_self (by rw [h.len]; exact hk)]; rfl) fun j hj => ?_
  rcases Nat.lt_or_ge j 16 with h1 | h1
  · rw [rollCells_lo hl i o h1, rollCells_lo h.len i o h1, List.getD_eq_getElem?_getD, List.getD_eq_getElem?_getD, List.getElem?_set_ne (by omega)]
  · rcases Nat.lt_or_ge j 17 with h2 | h2
    · rw [show j = 16 from by omega, rollCells_16 h.len, rollCells_16 hl]
    · rcases Nat.lt_or_ge j 18 with h3 | h3
      · rw [show j = 17 from by omega, rollCells_17 h.len, rollCells_17 hl]
      · rw [List.getElem?_eq_none (by rw [rollCells_length hl]; omega), List.getElem?_eq_none (by rw [rollCells_length h.len]; omega)]
theorem info_roll : (Tryz.prog.info? 201).map (·.size) = some 18 := by kernel_rfl
theorem RS.done {A G : Nat} {w W : World} {l : List UInt8} {i : Int} {o : Nat} (h : RS A G w W l i o) : ∃ W2,
    (Instr.storeAt 201 (.pointer (some ⟨G + 1, 0, none⟩)) (.agg (rollCells l i o).toArray)).run Tryz.prog W = .ok () W2 ∧
    (loadVar 201 ⟨G + 1, 0, none⟩).run Tryz.prog W2 = .ok (.agg (rollCells l i o).toArray) W2 ∧ Below A w W2 := by
  have hlen := rollCells_length h.len i o
  have hs := run_storeAt_mid (P := Tryz.prog) W (G + 1) 0 201 (rollCells l i o).toArray (by simpa [hlen] using h.res) (by rw [info_roll]; simp [hlen]) (rollCells_one l i o)
  refine ⟨_, hs, ?_, below_setCells (by have := h.low; omega) _ _ _ h.bel⟩
  exact run_loadVar_mid _ (G + 1) 0 201 (rollCells l i o) _ (World.rangeAt_setCells_same W (G + 1) 0 _ (by simpa [hlen] using h.res)) Tryz.underlying201 rfl (by rw [info_roll, hlen])
theorem RS.done2 {A G : Nat} {w W : World} {l : List UInt8} {i : Int} {o : Nat} (h : RS A G w W l i o) : (loadVar 201 ⟨G + 1, 0, none⟩).run Tryz.prog (W.setCells (G + 1) 0 (rollCells l i o)) = .ok (.agg (rollCells l i o).toArray) (W.setCells (G + 1) 0 (rollCells l i o)) := by
  have hlen := rollCells_length h.len i o
  exact run_loadVar_mid _ (G + 1) 0 201 (rollCells l i o) _ (World.rangeAt_setCells_same W (G + 1) 0 _ (by simpa [hlen] using h.res)) Tryz.underlying201 rfl (by rw [info_roll, hlen])
theorem RS.fin {A G : Nat} {w W : World} {l : List UInt8} {i : Int} {o : Nat} (h : RS A G w W l i o) : ∃ cs W2, Hid (rollCells l i o = cs) ∧ cs.length = 18 ∧ W.rangeAt G 0 cs ∧ W.there (G + 1) 0 cs.toArray.size ∧
    (Tryz.prog.info? 201).map (·.size) = some cs.toArray.size ∧ cs.toArray.all (·.oneCell') = true ∧ W.setCells (G + 1) 0 cs = W2 ∧ Below A w W2 ∧ (loadVar 201 ⟨G + 1, 0, none⟩).run Tryz.prog W2 = .ok (.agg cs.toArray) W2 := by
  have hlen := rollCells_length h.len i o
  refine ⟨rollCells l i o, _, rfl, hlen, h.rng, ?_, ?_, rollCells_one l i o, rfl, below_setCells (by have := h.low; omega) _ _ _ h.bel, h.done2⟩
  · simpa [hlen] using h.res
  · rw [info_roll]; simp [hlen]
abbrev Z18 : Array Value := #[.int .u8 0, .int .u8 0, .int .u8 0, .int .u8 0, .int .u8 0, .int .u8 0, .int .u8 0, .int .u8 0, .int .u8 0, .int .u8 0, .int .u8 0, .int .u8 0, .int .u8 0, .int .u8 0, .int .u8 0, .int .u8 0, .int .i64 0, .int .u32 0]
theorem z18_cell (w : World) (t : TypeId) (j : Nat) (hj : j < 18) : ((w.alloc (.cells Z18 t)).cell? ⟨w.heap.size, j, none⟩).isSome = true := by
  rw [cell_of_row _ w.heap.size j _ _ _ (heap_alloc_new w _), Array.getElem?_eq_getElem (show j < Z18.size from hj)]
  rfl
theorem RS.start (l : List UInt8) (i : Int) (o : Nat) (w : World) (hl : l.length = 16) : RS w.heap.size w.heap.size w ((w.alloc (.cells (rollCells l i o).toArray 201)).alloc (.cells Z18 201)) l i o := by
  have hsz : (w.alloc (.cells (rollCells l i o).toArray 201)).heap.size = w.heap.size + 1 := by simp
  refine ⟨hl, ?_, ?_, ?_, ((Below.refl _ w).alloc (Nat.le_refl _) _).alloc (by simp) _, Nat.le_refl _⟩
  · intro j v hv
    rw [Nat.zero_add]
    have h1 : (w.alloc (.cells (rollCells l i o).toArray 201)).cell? ⟨w.heap.size, j, none⟩ = some v := by
      rw [cell_of_row _ w.heap.size j _ _ _ (heap_alloc_new w _)]
      simpa using hv
    simpa using h1
  · intro j hj
    simp
  · intro j hj
    have h1 := z18_cell (w.alloc (.cells (rollCells l i o).toArray 201)) 201 j hj
    rw [hsz] at h1
    rw [Nat.zero_add]
    exact ⟨h1, by simp⟩
end Go.Proofs.YthpcbbkpjggjbaaGreatDoor
namespace Go.Proofs.YthpcbbkpjggjbaaGreatDoor
open Go.RowKit
set_option maxRecDepth 4000
set_option maxHeartbeats 1000000 in
theorem push_in (l : List UInt8) (i o : Nat) (b : UInt8) (w : World) (hl : l.length = 16) (hi : i < 16) (ho : o < 2147483648) :
    Calls Tryz.prog 135 #[.agg (rollCells l i o).toArray, B b] w fun e w' => e = .returned (.tuple #[.agg (rollCells (l.set i b) ((i + 1) % 16 : Nat) (Rl.pushS o (l.getD i 0).toNat b.toNat)).toArray, .int .i64 0]) ∧ Below w.heap.size w w' := by
  have hz : ((o : Int) / 2147483648 != 0) = false := by rw [show (o : Int) / 2147483648 = 0 from by omega]; rfl
  have hlen := rollCells_length hl i o
  have h16 := rollCells_16 hl i o
  have h17 := rollCells_17 hl i o
  have HS : Hid (RS w.heap.size w.heap.size w ((w.alloc (.cells (rollCells l i o).toArray 201)).alloc (.cells Z18 201)) l i o) := RS.start l i o w hl
  go_enter Tryz.func135, Tryz.ntmps135
  go_upto_region 1 with fail
  dsimp only [Z18] at HS
  generalize (w.alloc (.cells (rollCells l i o).toArray 201)).alloc (Obj.cells #[.int .u8 0, .int .u8 0, .int .u8 0, .int .u8 0, .int .u8 0, .int .u8 0, .int .u8 0, .int .u8 0, .int .u8 0, .int .u8 0, .int .u8 0, .int .u8 0, .int .u8 0, .int .u8 0, .int .u8 0, .int .u8 0, .int .i64 0, .int .u32 0] 201) = W1 at HS ⊢
  clear hlen h16 h17
  have c16 := HS.out.c16
  have c17 := HS.out.c17
  have ck := HS.out.lo hi
  have f17 := HS.out.fz 17 (by omega)
  have ht := fun W => times_any (l.getD i 0).toNat 1207959812 W (by have := Rl.byte_lt (l.getD i 0); omega) (by omega)
  rw [Rl.times_120 (by have := Rl.byte_lt (l.getD i 0); omega)] at ht
  generalize hg : l.getD i 0 = g at *
  have hgl := Rl.byte_lt g
  have hgw := wrap_u32_small g.toNat (by omega)
  have hml := Rl.mxk_lt 120 (show g.toNat < 2147483648 by omega)
  have hx := u32_xor_nat o (Rl.mxk 120 g.toNat) (by omega) (by omega)
  go_upto_region 3 with fail
  go_cut [] from 21 (fun wx => Hid (RS w.heap.size w.heap.size w wx l i (o ^^^ Rl.mxk 120 g.toNat)))
  case first =>
    go_region_with (refine (ht _).mono ?_; rintro e w1 ⟨rfl, rfl⟩)
    all_goals
      go_wp2_with fail
      go_meet
      exact (HS.out.sum _).drew
  case rest =>
    have hc0 := hcut
    clear hcut
    have hP := fun W => putIn_any (o ^^^ Rl.mxk 120 g.toNat) b W (Nat.xor_lt_two_pow (n := 31) ho hml)
    have HV : Hid (Rl.pushS o g.toNat b.toNat = Rl.mxk 8 (o ^^^ Rl.mxk 120 g.toNat) ^^^ b.toNat) := by show _ = _; rfl
    rw [← HV.out] at hP
    generalize o ^^^ Rl.mxk 120 g.toNat = o1 at *
    clear hx hml ht c16 c17 ck f17 HS HV
    obtain ⟨o2, HO⟩ : ∃ o2, Hid (Rl.pushS o (l.getD i 0).toNat b.toNat = o2) := ⟨_, rfl⟩
    rw [← hg, HO.out] at hP
    have d17 := hc0.out.c17
    have e17 := hc0.out.fz 17 (by omega)
    go_upto_region 4 with fail
    go_cut [] from 21 (fun wx => Hid (RS w.heap.size w.heap.size w wx l i o2))
    case first =>
      go_wp2_with fail
      refine (hP _).mono ?_
      rintro e w1 ⟨rfl, rfl⟩
      go_wp2_with fail
      go_meet
      exact hc0.out.sum _
    case rest =>
      have hc1 := hcut
      clear d17 e17 hcut hc0
      have d16 := hc1.out.c16
      have dk := hc1.out.lo hi
      have ek := hc1.out.fz i (by omega)
      go_upto_region 5 with fail
      go_cut [] from 21 (fun wx => Hid (RS w.heap.size w.heap.size w wx (l.set i b) i o2))
      case first =>
        unfold B
        go_wp2_with fail
        go_meet
        exact hc1.out.byte hi b
      case rest =>
        have hc2 := hcut
        clear d16 dk ek hcut hc1
        have d16 := hc2.out.c16
        have e16 := hc2.out.fz 16 (by omega)
        have HI : Hid (((i : Int) + 1) % 16 = (((i + 1) % 16 : Nat) : Int)) := by show _ = _; omega
        go_upto_region 6 with fail
        go_cut [] from 21 (fun wx => Hid (RS w.heap.size w.heap.size w wx (l.set i b) ((i + 1) % 16 : Nat) o2))
        case first =>
          go_wp2_with fail
          go_meet
          rw [HI.out]
          exact hc2.out.place _
        case rest =>
          have hc3 := hcut
          clear d16 e16 hcut hc2
          obtain ⟨cs, W2, HCS, hlen, hrng, hres, hinf, hall, hW2, hst, hlv⟩ := hc3.out.fin
          go_upto_region 7 with fail
          refine wp_region_lit ?_
          refine wpList_load_mid rfl 201 (.tmp 2) rfl w.heap.size 0 rfl cs _ hrng Tryz.underlying201 rfl (by rw [info_roll, hlen]) ?_
          refine wpList_store_mid rfl 201 (.tmp 4) (.tmp 47) rfl (w.heap.size + 1) 0 cs.toArray rfl rfl hres hinf hall ?_
          rw [show cs.toArray.toList = cs from rfl, hW2]
          clear hW2 hc3 hrng hres hinf hall
          go_wp2_with fail
          refine bodyPost_ret (v := .tuple #[.agg cs.toArray, .int .i64 0]) ?_ rfl ⟨?_, hst⟩
          · simp [results, asAddr, hlv]
          · rw [← HCS.out, HO.out]
end Go.Proofs.YthpcbbkpjggjbaaGreatDoor
namespace Go.Proofs.YthpcbbkpjggjbaaGreatDoor
open Go.RowKit
structure Rst where
  l : List UInt8
  i : Nat
  o : Nat
def Rst.push (r : Rst) (b : UInt8) : Rst := ⟨r.l.set r.i b, (r.i + 1) % 16, Rl.pushS r.o (r.l.getD r.i 0).toNat b.toNat⟩
def Rst.all (r : Rst) (s : List UInt8) : Rst := s.foldl Rst.push r
structure Rst.Ok (r : Rst) : Prop where
  len : r.l.length = 16
  low : r.i < 16
  sum : r.o < 2147483648
theorem Rst.Ok.push {r : Rst} (h : r.Ok) (b : UInt8) : (r.push b).Ok :=
  ⟨by rw [Rst.push, List.length_set]; exact h.len, Nat.mod_lt _ (by omega), Rl.pushS_lt h.sum (Rl.byte_lt _) (Rl.byte_lt _)⟩
def Rst.cells (r : Rst) : List Value := rollCells r.l r.i r.o
theorem Rst.all_snoc (r : Rst) (s : List UInt8) (b : UInt8) : r.all (s ++ [b]) = (r.all s).push b := by
  rw [Rst.all, List.foldl_append]; rfl
theorem Rst.all_take (r : Rst) (s : ByteArray) (k : Nat) (h : k < s.size) : r.all (s.data.toList.take (k + 1)) = (r.all (s.data.toList.take k)).push s[k] := by
  rw [take_snoc s k h, Rst.all_snoc]
theorem push_rst (r : Rst) (h : r.Ok) (b : UInt8) (w : World) :
    Calls Tryz.prog 135 #[.agg r.cells.toArray, .int .u8 (b.toNat : Int)] w fun e w' => e = .returned (.tuple #[.agg (r.push b).cells.toArray, .int .i64 0]) ∧ Below w.heap.size w w' :=
  push_in r.l r.i r.o b w h.len h.low h.sum
end Go.Proofs.YthpcbbkpjggjbaaGreatDoor
namespace Go.Proofs.YthpcbbkpjggjbaaGreatDoor
open Go.RowKit
theorem drop_past (l : List UInt8) {n : Nat} (h : l.length ≤ n) : l.drop n = [] := List.drop_eq_nil_of_le h
def Rst.zero : Rst := ⟨List.replicate 16 0, 0, 0⟩
def Rst.win (r : Rst) : List UInt8 := r.l.drop r.i ++ r.l.take r.i
theorem win_push {l : List UInt8} {i : Nat} (hl : l.length = 16) (hi : i < 16) (b : UInt8) :
    (l.set i b).drop ((i + 1) % 16) ++ (l.set i b).take ((i + 1) % 16) = (l.drop i ++ l.take i).tail ++ [b] := by
  have hd : l.drop i = l[i] :: l.drop (i + 1) := List.drop_eq_getElem_cons (by omega)
  rw [hd, List.cons_append, List.tail_cons]
  by_cases h : i = 15
  · subst h
    rw [show (15 + 1) % 16 = 0 from rfl, List.drop_zero, List.take_zero, List.append_nil, drop_past l (by omega), List.nil_append]
    rw [List.set_eq_take_append_cons_drop, if_pos (by omega), drop_past l (by omega)]
  · rw [Nat.mod_eq_of_lt (by omega), List.append_assoc]
    congr 1
    · rw [List.drop_set_of_lt (by omega)]
    · rw [List.take_succ_eq_append_getElem (by rw [List.length_set]; omega), List.take_set_of_le (by omega), List.getElem_set_self]
theorem win_head {l : List UInt8} {i : Nat} (hl : l.length = 16) (hi : i < 16) : l.drop i ++ l.take i = l.getD i 0 :: (l.drop i ++ l.take i).tail := by
  have hd : l.drop i = l[i] :: l.drop (i + 1) := List.drop_eq_getElem_cons (by omega)
  rw [hd, List.cons_append, List.tail_cons, List.getD_eq_getElem?_getD, List.getElem?_eq_getElem (by omega)]
  rfl
structure Rst.Of (r : Rst) (p : List UInt8) : Prop where
  ok : r.Ok
  win : r.win = Rl.lastL p
  sum : r.o = Rl.ofL p
theorem Rst.Of.zero : Rst.zero.Of [] := ⟨⟨rfl, by decide, by decide⟩, rfl, rfl⟩
theorem Rst.Of.push {r : Rst} {p : List UInt8} (h : r.Of p) (b : UInt8) : (r.push b).Of (p ++ [b]) := by
  have hw : (r.push b).win = Rl.lastL (p ++ [b]) := by
    rw [Rl.lastL_snoc, ← h.win]
    exact win_push h.ok.len h.ok.low b
  refine ⟨h.ok.push b, hw, ?_⟩
  have h1 : Rl.lastL p = (r.l.getD r.i 0) :: (Rl.lastL p).tail := by
    rw [← h.win]; exact win_head h.ok.len h.ok.low
  have h2 := Rl.lastL_length p
  show Rl.mxk 8 (r.o ^^^ Rl.mxk 120 (r.l.getD r.i 0).toNat) ^^^ b.toNat = _
  rw [h.sum, ← Rl.lastL_sum, ← Rl.lastL_sum, Rl.lastL_snoc]
  conv => lhs; rw [h1]
  exact Rl.ofA_push _ b _ (by rw [List.length_tail]; omega)
theorem Rst.Of.all {r : Rst} {p : List UInt8} (h : r.Of p) (s : List UInt8) : (r.all s).Of (p ++ s) := by
  induction s generalizing r p with
  | nil => rw [List.append_nil]; exact h
  | cons b s ih =>
    have := ih (h.push b)
    rw [List.append_assoc] at this
    exact this
end Go.Proofs.YthpcbbkpjggjbaaGreatDoor
namespace Go.Proofs.YthpcbbkpjggjbaaGreatDoor
namespace Ck
structure First (E : Bs → Bool) (t : Bs) (n : Nat) : Prop where
  hit : n = 0 ∨ (1 ≤ n ∧ n ≤ t.length ∧ E (t.take n) = true)
  miss : ∀ k, 1 ≤ k → k ≤ t.length → (n = 0 ∨ k < n) → E (t.take k) = false
theorem first_ex (E : Bs → Bool) (t : Bs) : ∃ n, First E t n := by
  have key : ∀ m, (∃ n, 1 ≤ n ∧ n ≤ m ∧ E (t.take n) = true ∧ ∀ k, 1 ≤ k → k < n → E (t.take k) = false) ∨ (∀ k, 1 ≤ k → k ≤ m → E (t.take k) = false) := by
    intro m
    induction m with
    | zero => exact .inr fun k h1 h2 => by omega
    | succ m ih =>
      rcases ih with ⟨n, h1, h2, h3, h4⟩ | h
      · exact .inl ⟨n, h1, by omega, h3, h4⟩
      · cases e : E (t.take (m + 1)) with
        | true => exact .inl ⟨m + 1, by omega, Nat.le_refl _, e, fun k h1 h2 => h k h1 (by omega)⟩
        | false =>
          refine .inr fun k h1 h2 => ?_
          by_cases hk : k = m + 1
          · rw [hk]; exact e
          · exact h k h1 (by omega)
  rcases key t.length with ⟨n, h1, h2, h3, h4⟩ | h
  · exact ⟨n, .inr ⟨h1, h2, h3⟩, fun k a _ c => h4 k a (by omega)⟩
  · exact ⟨0, .inl rfl, fun k a b _ => h k a b⟩
variable {E : Bs → Bool}
theorem run_before {t : Bs} {n : Nat} (h : First E t n) : ∀ k, k ≤ t.length → (n = 0 ∨ k < n) → run E ([], []) (t.take k) = ([], t.take k) := by
  intro k
  induction k with
  | zero => intro _ _; rfl
  | succ k ih =>
    intro h1 h2
    rw [List.take_succ_eq_append_getElem (by omega), run_snoc, ih (by omega) (by omega), step, ← List.take_succ_eq_append_getElem (by omega), h.miss (k + 1) (by omega) h1 h2]
    rfl
theorem pieces_first_none {t : Bs} (h : First E t 0) : pieces E t = ([], t) := by
  have := run_before h t.length (Nat.le_refl _) (.inl rfl)
  rw [List.take_length] at this
  exact this
theorem pieces_first {t : Bs} {n : Nat} (h : First E t n) (hn : 0 < n) : pieces E t = (t.take n :: (pieces E (t.drop n)).1, (pieces E (t.drop n)).2) := by
  rcases h.hit with h0 | ⟨h1, h2, h3⟩
  · omega
  · obtain ⟨m, rfl⟩ : ∃ m, n = m + 1 := ⟨n - 1, by omega⟩
    have hr : run E ([], []) (t.take (m + 1)) = ([t.take (m + 1)], []) := by
      rw [List.take_succ_eq_append_getElem (by omega), run_snoc, run_before h m (by omega) (.inr (by omega)), step, ← List.take_succ_eq_append_getElem (by omega), h3]
      rfl
    have : pieces E t = run E ([], []) (t.take (m + 1) ++ t.drop (m + 1)) := by rw [List.take_append_drop]; rfl
    rw [this, run_append, hr, run_from]
    rfl
def withAt (a : Nat) : List Bs → List (Nat × Bs)
  | [] => []
  | p :: ps => (a, p) :: withAt (a + p.length) ps
theorem withAt_append (l m : List Bs) : ∀ a, withAt a (l ++ m) = withAt a l ++ withAt (a + l.flatten.length) m := by
  induction l with
  | nil => intro a; simp [withAt]
  | cons p l ih =>
    intro a
    rw [List.cons_append, withAt, ih, withAt, List.cons_append, List.flatten_cons, List.length_append, Nat.add_assoc]
theorem withAt_snd (l : List Bs) : ∀ a, (withAt a l).map (·.2) = l := by
  induction l with
  | nil => intro a; rfl
  | cons p l ih => intro a; rw [withAt, List.map_cons, ih]
theorem withAt_length (l : List Bs) : ∀ a, (withAt a l).length = l.length := by
  intro a
  rw [← List.length_map (f := fun x : Nat × Bs => x.2), withAt_snd]
theorem withAt_next {l : List Bs} {a : Nat} {pre : List (Nat × Bs)} {x : Nat × Bs} {post : List (Nat × Bs)} (h : withAt a l = pre ++ x :: post) : x.1 = a + (pre.map (·.2)).flatten.length := by
  induction pre generalizing a l with
  | nil =>
    cases l with
    | nil => simp [withAt] at h
    | cons p l =>
      rw [withAt, List.nil_append, List.cons.injEq] at h
      rw [← h.1]; simp
  | cons y pre ih =>
    cases l with
    | nil => simp [withAt] at h
    | cons p l =>
      rw [withAt, List.cons_append, List.cons.injEq] at h
      have := ih h.2
      rw [this, ← h.1]
      simp only [List.map_cons, List.flatten_cons, List.length_append]
      omega
end Ck
end Go.Proofs.YthpcbbkpjggjbaaGreatDoor
namespace Go.Proofs.YthpcbbkpjggjbaaGreatDoor
open Go.RowKit
set_option maxRecDepth 4000
structure RT (G : Nat) (w W : World) (r : Rst) : Prop where
  len : r.l.length = 16
  rng : W.rangeAt G 0 r.cells
  fz : ∀ j, j < 18 → W.frozen? ⟨G, j, none⟩ = false
  bel : Below G w W
theorem RT.drew {G : Nat} {w W : World} {r : Rst} (h : RT G w W r) : RT G w W.drew r := ⟨h.len, h.rng, h.fz, h.bel.drew⟩
theorem RT.lt {G : Nat} {w W : World} {r : Rst} (h : RT G w W r) : G < W.heap.size := by
  have h16 := h.rng 16 _ (rollCells_16 h.len r.i r.o)
  exact World.block_lt_of_cell? W _ h16
theorem RT.c17 {G : Nat} {w W : World} {r : Rst} (h : RT G w W r) : W.cell? ⟨G, 17, none⟩ = some (.int .u32 (r.o : Int)) := by
  have := h.rng 17 _ (rollCells_17 h.len r.i r.o)
  simpa using this
theorem RT.past {G : Nat} {w W W' : World} {r : Rst} (h : RT G w W r) (hb : Below W.heap.size W W') : RT G w W' r := by
  have hg := h.lt
  refine ⟨h.len, ?_, ?_, h.bel.trans (hb.mono (by omega))⟩
  · intro j v hv
    rw [hb.cell (p := ⟨G, 0 + j, none⟩) hg]
    exact h.rng j v hv
  · intro j hj
    rw [hb.frozen (p := ⟨G, j, none⟩) hg]
    exact h.fz j hj
theorem RT.whole {G : Nat} {w W : World} {r r' : Rst} (h : RT G w W r) (hl : r'.l.length = 16) : RT G w (W.setCells G 0 r'.cells) r' := by
  have hlen : r'.cells.length = 18 := rollCells_length hl r'.i r'.o
  have ht : W.there G 0 r'.cells.length := by
    intro j hj
    rw [hlen] at hj
    rw [Nat.zero_add]
    refine ⟨?_, h.fz j hj⟩
    have := h.rng.isSome j (by rw [Rst.cells, rollCells_length h.len]; exact hj)
    simpa using this
  refine ⟨hl, World.rangeAt_setCells_same W G 0 _ ht, ?_, below_setCells (Nat.le_refl _) _ _ _ h.bel⟩
  intro j hj
  rw [World.frozen?_setCells]
  exact h.fz j hj
theorem RT.start (W : World) : RT W.heap.size W (W.alloc (.cells Z18 201)) Rst.zero := by
  refine ⟨rfl, ?_, ?_, (Below.refl _ W).alloc (Nat.le_refl _) _⟩
  · intro j v hv
    rw [Nat.zero_add, cell_of_row _ W.heap.size j _ _ _ (heap_alloc_new W _), ← Array.getElem?_toList]
    exact hv
  · intro j hj
    simp
set_option maxHeartbeats 1000000 in
theorem bytes_of (mn mx bt : Nat) (hb1 : 1 ≤ bt) (hb2 : bt ≤ 12) (s : ByteArray) (w : World) (f : Nat → Rst) (b : Nat → Bool) (hs : s.size ≤ 4096)
    (hf0 : f 0 = Rst.zero) (hf : ∀ k (hk : k < s.size), f (k + 1) = (f k).push s[k]) (hok : ∀ k, (f k).Ok) (n : Nat) (hn : n = 0 ∨ (1 ≤ n ∧ n ≤ s.size ∧ b n = true)) (hno : ∀ k, 1 ≤ k → k ≤ s.size → (n = 0 ∨ k < n) → b k = false)
    (hb : ∀ k, b k = (k == mx || (decide (mn ≤ k) && (f k).o % 2 ^ bt == 0))) :
    Calls Tryz.prog 134 #[cutV mn mx bt, .string s] w fun e w' => e = .returned (.int .i64 n) ∧ Below w.heap.size w w' := by
  obtain ⟨M, hM⟩ : ∃ M, M = 2 ^ bt := ⟨_, rfl⟩
  have hM0 : 0 < M := by rw [hM]; exact Nat.pow_pos (by omega)
  have hM1 : M ≤ 4096 := by rw [hM]; exact Nat.pow_le_pow_right (n := 2) (j := 12) (by omega) hb2
  have hpw : (2 : Int) ^ bt % 4294967296 = (M : Int) := by
    rw [show (2 : Int) ^ bt = ((2 ^ bt : Nat) : Int) from by simp, ← hM]
    omega
  have HM : Hid (M = 2 ^ bt) := hM
  clear hM
  unfold cutV
  go_enter Tryz.func134, Tryz.ntmps134
  go_upto_region 2 with fail
  obtain ⟨W4, hW4⟩ : ∃ W4, W4 = w.alloc (Obj.cells #[Value.int IntKind.i64 mn, Value.int IntKind.i64 mx, Value.int IntKind.i64 bt] 43) := ⟨_, rfl⟩
  have HB : Hid (Below w.heap.size w W4) := by rw [hW4]; exact (Below.refl _ w).alloc (Nat.le_refl _) _
  have hsz : W4.heap.size = w.heap.size + 1 := by rw [hW4]; simp
  have c0 : W4.cell? ⟨w.heap.size, 0, none⟩ = some (.int .i64 (mn : Int)) := by rw [hW4]; simp
  have c1 : W4.cell? ⟨w.heap.size, 1, none⟩ = some (.int .i64 (mx : Int)) := by rw [hW4]; simp
  have c2 : W4.cell? ⟨w.heap.size, 2, none⟩ = some (.int .i64 (bt : Int)) := by rw [hW4]; simp
  have HR : Hid (RT (w.heap.size + 1) W4 (W4.alloc (.cells Z18 201)) (f 0)) := by
    rw [hf0, ← hsz]; exact RT.start W4
  rw [← hW4]
  dsimp only [Z18] at HR
  generalize W4.alloc (Obj.cells #[.int .u8 0, .int .u8 0, .int .u8 0, .int .u8 0, .int .u8 0, .int .u8 0, .int .u8 0, .int .u8 0, .int .u8 0, .int .u8 0, .int .u8 0, .int .u8 0, .int .u8 0, .int .u8 0, .int .u8 0, .int .u8 0, .int .i64 0, .int .u32 0] 201) = W1 at HR ⊢
  have HSZ : Hid (W4.heap.size = w.heap.size + 1) := hsz
  clear hW4 hsz
  have d2 : W1.cell? ⟨w.heap.size, 2, none⟩ = some (.int .i64 (bt : Int)) := (HR.out.bel.cell (p := ⟨w.heap.size, 2, none⟩) (by show w.heap.size < w.heap.size + 1; omega)).trans c2
  go_wp2_with fail
  simp only [hpw]
  clear hpw
  go_loopw [15] (fun i wr => ∃ k : Nat, k ≤ s.size ∧ i = .int .i64 k ∧ (n = 0 ∨ k < n) ∧ Hid (RT (w.heap.size + 1) W4 wr (f k))) (fun i _ => s.size - (intOf i).toNat)
  case atStart => exact ⟨0, Nat.zero_le _, rfl, by omega, HR⟩
  case round =>
    obtain ⟨k, hk, rfl, hnk, hr⟩ := hrel
    clear HR d2 hf0
    by_cases hlt : k < s.size
    · have hp := push_rst (f k) (hok k) s[k]
      have hok2 := hok (k + 1)
      have hN := hf k hlt
      have hrd := hr.out.drew
      have hrng : wr.drew.rangeAt (w.heap.size + 1) 0 (f k).cells := hrd.rng
      have hl0 : (f k).cells.length = 18 := rollCells_length hrd.len _ _
      rw [← hN] at hp
      have HBb : Hid (b (k + 1) = (k + 1 == mx || (decide (mn ≤ k + 1) && (f (k + 1)).o % 2 ^ bt == 0))) := hb (k + 1)
      have hno1 := hno (k + 1) (by omega) (by omega)
      generalize hR1 : f (k + 1) = R1 at *
      have hl1 : R1.cells.length = 18 := rollCells_length hok2.len _ _
      have h1c : R1.cells.toArray.all (·.oneCell') = true := rollCells_one _ _ _
      clear hN hf hok hb
      go_upto_region 6 with fail
      refine wp_region_any (by kernel_rfl) ?_
      change wpAny _ _ _ _ _ _ _ (World.drew _)
      refine wpAny_take (i := 1) (v := .string s) rfl (by kernel_rfl) (by kernel_rfl) (by kernel_rfl) (fun _ _ _ h => h) (Or.inl ⟨by rfl, fun V => by go_simp⟩) ?_
      refine wpAny_take (i := 2) (v := .int .i64 (k : Int)) rfl (by kernel_rfl) (by kernel_rfl) (by kernel_rfl) (fun _ _ _ h => h) (Or.inl ⟨by rfl, fun V => by go_simp⟩) ?_
      refine wpAny_take (i := 3) (v := .int .u8 (s[k].toNat : Int)) rfl (by kernel_rfl) (by kernel_rfl) (by kernel_rfl) (fun _ _ _ h => h) (Or.inl ⟨by rfl, fun V => by go_simp⟩) ?_
      refine wpAny_ready (rs := [0]) (by kernel_rfl) (by simp) ?_
      refine AllReady.cons rfl (fun K hK => ?_) AllReady.nil
      rw [if_pos (by rfl)]
      refine wp_load_mid 201 (.tmp 5) rfl (w.heap.size + 1) 0 rfl (f k).cells _ hrng Tryz.underlying201 rfl (by rw [info_roll, hl0]) ?_
      refine hK _ _ ?_
      clear hK K
      refine wpAny_ready (rs := [4]) (by kernel_rfl) (by simp) ?_
      refine AllReady.cons rfl (fun K hK => ?_) AllReady.nil
      go_simp
      refine (hp _).mono ?_
      rintro e w1 ⟨rfl, hb1⟩
      refine hK _ _ ?_
      clear hK K
      have hr1 := hrd.past hb1
      have hth : w1.there (w.heap.size + 1) 0 R1.cells.toArray.size := by
        intro j hj
        have hj' : j < 18 := by simpa [hl1] using hj
        have h1 := hr1.rng.isSome j (by rw [Rst.cells, rollCells_length hr1.len]; exact hj')
        have h2 := hr1.fz j hj'
        rw [Nat.zero_add] at h1 ⊢
        exact ⟨h1, h2⟩
      have hin : (Tryz.prog.info? 201).map (·.size) = some R1.cells.toArray.size := by rw [info_roll]; simp [hl1]
      have HW : Hid (RT (w.heap.size + 1) W4 (w1.setCells (w.heap.size + 1) 0 R1.cells) R1) := hr1.whole hok2.len
      refine wpAny_take (i := 5) (v := .tuple #[.agg R1.cells.toArray, .int .i64 0]) rfl (by kernel_rfl) (by kernel_rfl) (by kernel_rfl) (fun _ _ _ h => h) (Or.inl ⟨by rfl, fun V => by go_simp⟩) ?_
      refine wpAny_take (i := 6) (v := .agg R1.cells.toArray) rfl (by kernel_rfl) (by kernel_rfl) (by kernel_rfl) (fun _ _ _ h => h) (Or.inl ⟨by rfl, fun V => by go_simp⟩) ?_
      refine wpAny_take (i := 7) (v := .int .i64 0) rfl (by kernel_rfl) (by kernel_rfl) (by kernel_rfl) (fun _ _ _ h => h) (Or.inl ⟨by rfl, fun V => by go_simp⟩) ?_
      refine wpAny_ready (rs := [8]) (by kernel_rfl) (by simp) ?_
      refine AllReady.cons rfl (fun K hK => ?_) AllReady.nil
      rw [if_pos (by rfl)]
      refine wp_store_mid 201 (.tmp 5) (.tmp 24) rfl (w.heap.size + 1) 0 R1.cells.toArray rfl rfl hth hin h1c ?_
      refine hK _ _ ?_
      clear hK K
      rw [show R1.cells.toArray.toList = R1.cells from rfl]
      generalize w1.setCells (w.heap.size + 1) 0 R1.cells = w2 at HW ⊢
      refine wpAny_done (by kernel_rfl) ?_ _
      clear hr1 hth hin hb1 hrd hrng hr hp
      have e0 : w2.cell? ⟨w.heap.size, 0, none⟩ = some (.int .i64 (mn : Int)) := (HW.out.bel.cell (p := ⟨w.heap.size, 0, none⟩) (by show w.heap.size < w.heap.size + 1; omega)).trans c0
      have e1 : w2.cell? ⟨w.heap.size, 1, none⟩ = some (.int .i64 (mx : Int)) := (HW.out.bel.cell (p := ⟨w.heap.size, 1, none⟩) (by show w.heap.size < w.heap.size + 1; omega)).trans c1
      have e17 := HW.out.c17
      have hbelow : Below w.heap.size w w2 := HB.out.trans (HW.out.bel.mono (by omega))
      have HBel : Hid (Below w.heap.size w w2) := hbelow
      clear hbelow
      have ho := hok2.sum
      have HA : Hid (bits .and .u32 (R1.o : Int) ((M : Int) - 1) = ((R1.o % M : Nat) : Int)) := by
        show _ = _
        rw [show (M : Int) - 1 = ((M - 1 : Nat) : Int) from by omega, u32_and_nat _ _ (by omega) (by omega), HM.out, Nat.and_two_pow_sub_one_eq_mod]
      have hit : b (k + 1) = true → (k : Int) + 1 = (n : Int) := fun h => by
        have : ¬ (n = 0 ∨ k + 1 < n) := fun h2 => by rw [hno1 h2] at h; cases h
        omega
      have miss : b (k + 1) = false → (n = 0 ∨ k + 1 < n) := fun h => by
        rcases hnk with h1 | h1
        · exact .inl h1
        · refine .inr ?_
          rcases hn with h2 | ⟨_, _, h2⟩
          · omega
          · by_cases h3 : n = k + 1
            · rw [h3, h] at h2; cases h2
            · omega
      have HHit : Hid (b (k + 1) = true → (k : Int) + 1 = (n : Int)) := hit
      have HMiss : Hid (b (k + 1) = false → (n = 0 ∨ k + 1 < n)) := miss
      clear hit miss hno1 hno hn hnk hl0 hl1 h1c
      by_cases g1 : k + 1 = mx
      · have q1 : ((k : Int) + 1 == (mx : Int)) = true := by rw [beq_iff_eq]; omega
        have HN : Hid ((k : Int) + 1 = (n : Int)) := HHit.out (by rw [HBb.out, beq_iff_eq.2 g1]; rfl)
        clear g1 HHit HMiss HA
        go_wp2_with fail
        go_ret
        exact ⟨ret_int HN.out, HBel.out⟩
      · have q1 : ((k : Int) + 1 == (mx : Int)) = false := by rw [beq_eq_false_iff_ne]; omega
        by_cases g2 : mn ≤ k + 1
        · have q2 : decide ((mn : Int) ≤ (k : Int) + 1) = true := by rw [decide_eq_true_eq]; omega
          by_cases g3 : R1.o % M = 0
          · have q3 : (bits .and .u32 (R1.o : Int) ((M : Int) - 1) == 0) = true := by rw [HA.out, g3]; rfl
            have HN : Hid ((k : Int) + 1 = (n : Int)) := HHit.out (by rw [HBb.out, beq_eq_false_iff_ne.2 g1, decide_eq_true g2, ← HM.out, g3]; rfl)
            clear g1 g2 g3 HHit HMiss HA
            go_wp2_with fail
            go_ret
            exact ⟨ret_int HN.out, HBel.out⟩
          · have q3 : (bits .and .u32 (R1.o : Int) ((M : Int) - 1) == 0) = false := by rw [HA.out, beq_eq_false_iff_ne]; omega
            have HN : Hid (n = 0 ∨ k + 1 < n) := HMiss.out (by rw [HBb.out, beq_eq_false_iff_ne.2 g1, decide_eq_true g2, ← HM.out, beq_eq_false_iff_ne.2 g3]; rfl)
            clear g1 g2 g3 HHit HMiss HA
            go_wp2_with fail
            go_roundw
            case rel => exact ⟨k + 1, by omega, by go_num, HN.out, by rw [hR1]; exact HW⟩
            case measure => simp only [intOf]; omega
        · have q2 : decide ((mn : Int) ≤ (k : Int) + 1) = false := by rw [decide_eq_false_iff_not]; omega
          have HN : Hid (n = 0 ∨ k + 1 < n) := HMiss.out (by rw [HBb.out, beq_eq_false_iff_ne.2 g1, decide_eq_false g2]; rfl)
          clear g1 g2 HHit HMiss HA
          go_wp2_with fail
          go_roundw
          case rel => exact ⟨k + 1, by omega, by go_num, HN.out, by rw [hR1]; exact HW⟩
          case measure => simp only [intOf]; omega
    · obtain rfl : k = s.size := by omega
      have hB2 := HB.out.trans (hr.out.bel.mono (show w.heap.size ≤ w.heap.size + 1 by omega))
      have HN : Hid ((0 : Int) = (n : Int)) := by show _ = _; omega
      clear hno hn hnk
      go_wp2_with fail
      go_ret
      exact ⟨ret_int HN.out, hB2⟩
theorem ck_bytes_any (mn mx bt : Nat) (hb1 : 1 ≤ bt) (hb2 : bt ≤ 12) (s : ByteArray) (w : World) (hs : s.size ≤ 4096) (n : Nat) (h : Ck.First (Ck.ends mn mx bt Rl.ofL) s.data.toList n) :
    Calls Tryz.prog 134 #[cutV mn mx bt, .string s] w fun e w' => e = .returned (.int .i64 n) ∧ Below w.heap.size w w' := by
  have hof : ∀ k, (Rst.zero.all (s.data.toList.take k)).Of (s.data.toList.take k) := fun k => by
    have := Rst.Of.zero.all (s.data.toList.take k)
    rwa [List.nil_append] at this
  have hbk : ∀ k, k ≤ s.size → Ck.ends mn mx bt Rl.ofL (s.data.toList.take k) = (k == mx || (decide (mn ≤ k) && (Rst.zero.all (s.data.toList.take k)).o % 2 ^ bt == 0)) := fun k hk => by
    rw [Ck.ends, (hof k).sum, List.length_take, ← Lib.size_eq, Nat.min_eq_left hk]
  refine bytes_of mn mx bt hb1 hb2 s w (fun k => Rst.zero.all (s.data.toList.take k)) _ hs rfl (Rst.all_take Rst.zero s) (fun k => (hof k).ok) n ?_ ?_ (fun k => rfl)
  · rcases h.hit with h1 | ⟨h1, h2, h3⟩
    · exact .inl h1
    · rw [← Lib.size_eq] at h2
      exact .inr ⟨h1, h2, by rw [← hbk n h2]; exact h3⟩
  · intro k h1 h2 h3
    rw [← hbk k h2]
    exact h.miss k h1 (by rw [← Lib.size_eq]; exact h2) h3
end Go.Proofs.YthpcbbkpjggjbaaGreatDoor
namespace Go.Proofs.YthpcbbkpjggjbaaGreatDoor
open Go.RowKit
theorem Kept.putObj {p : Nat → Prop} {A B : World} (h : Kept p A B) {r : Nat} (hr : ¬ p r) (o : Obj) : Kept p A (B.putObj r o) :=
  h.trans ⟨rfl, rfl, rfl, by simp, fun k _ hk => World.putObj_heap_other (fun e => hr (by rw [← e]; exact hk))⟩
theorem Kept.boxed {p : Nat → Prop} {A B : World} (h : Kept p A B) {k : Nat} {t : TypeId} {v : Value} (hk : p k) (ho : Boxed A k t v) : Boxed B k t v := h.obj hk ho
theorem RoundIn.anyDepth' {m m' : Nat} {P : Program} {l : Nat} {f : FuncId} {tmps : Array Value} {assign body : Code} {w : World} {R : Ending → World → Prop}
    (h : RoundIn Fence.wide m P l f tmps assign body w R) : RoundIn Fence.wide m' P l f tmps assign body w R := ⟨h.1, fun c cs _ => h.2 c cs (room_wide _)⟩
theorem YieldAt.anyDepth' {m : Nat} (m' : Nat) {P : Program} {l : Nat} {args : Array Value} {W : World} {R : Ending → World → Prop} (h : YieldAt Fence.wide m P l args W R) : YieldAt Fence.wide m' P l args W R := by
  obtain ⟨fn, tmps, assign, body, hy, hR⟩ := h
  exact ⟨fn, tmps, assign, body, hy, RoundIn.anyDepth' hR⟩
def Tells {α : Type} (P : Program) (g : Nat) (lb : Array Value) (encs : α → Array Value) (xs : List α) (d : Nat) (Kp : Nat → Prop) (W : World) : Prop :=
  ∀ (l : Nat) (J Jx : List α → World → Prop),
    (∀ pre A B, W.heap.size ≤ A.heap.size → J pre A → Kept (fun k => ¬ (W.heap.size ≤ k ∧ k < W.heap.size + d)) A B → J pre B) →
    (∀ pre A B, W.heap.size ≤ A.heap.size → Jx pre A → Kept (fun k => ¬ (W.heap.size ≤ k ∧ k < W.heap.size + d)) A B → Jx pre B) →
    (∀ pre x W1, W.heap.size + d ≤ W1.heap.size → pre ++ [x] <+: xs → J pre W1 → YieldAt Fence.wide 0 P l (encs x) W1 fun e W' =>
      Kept (fun k => Kp k ∨ (W.heap.size ≤ k ∧ k < W.heap.size + d)) W1 W' ∧ ((e = .returned (.bool true) ∧ J (pre ++ [x]) W') ∨ (e = .returned (.bool false) ∧ Jx (pre ++ [x]) W'))) →
    J [] W →
    Calls P g (#[.func (.yield l) #[] #[]] ++ lb) W fun e W' => (∃ v, e = .returned v) ∧ W.heap.size ≤ W'.heap.size ∧ (J xs W' ∨ ∃ pre, pre <+: xs ∧ Jx pre W')
def rfPost {α : Type} (Kk : Nat → Prop) (I : List α → World → Prop) (Ix : Code → List α → World → Prop) (xs : List α) (W : World) : Exit → Act → World → Prop
  | .normal, _, W' => Kept Kk W W' ∧ I xs W'
  | .ret, _, W' => Kept Kk W W' ∧ Ix .ret xs W'
  | .exit id, _, W' => Kept Kk W W' ∧ Ix (.exit id) xs W'
  | _, _, _ => False
theorem rf_outer {α : Type} {P : Program} {n m : Nat} {g : Operand} {ps : Array Tmp} {assign body : Code} {Q : Exit → Act → World → Prop} {a : Act} {w : World} {gf : Nat} {lb : Array Value}
    (hg : a.eval g = .func (.func gf) #[] lb) (eg : ∀ args w, (callFunc gf args).run P w = .ok (.enter gf args) w)
    {encs : α → Array Value} {xs : List α} {d : Nat} {Kp : Nat → Prop}
    (hseq : ∀ W1, Below w.heap.size w W1 → W1.heap.size = w.heap.size + 2 → Tells P gf lb encs xs d Kp W1)
    (hK : ¬ Kp (w.heap.size + 1)) (hps : ∀ x, (encs x).size = ps.size)
    (I : List α → World → Prop) (Ix : Code → List α → World → Prop)
    (hI : ∀ pre A B, w.heap.size ≤ A.heap.size → I pre A → Kept (fun k => k ≠ w.heap.size + 1 ∧ ¬ (w.heap.size + 2 ≤ k ∧ k < w.heap.size + 2 + d)) A B → I pre B)
    (hIx : ∀ c pre A B, w.heap.size ≤ A.heap.size → Ix c pre A → Kept (fun k => k ≠ w.heap.size + 1 ∧ ¬ (w.heap.size + 2 ≤ k ∧ k < w.heap.size + 2 + d)) A B → Ix c pre B)
    (h0 : I [] w) (a₁ : α → Act)
    (hassign : ∀ (l : Nat) (x : α) (W : World) (Kq : Act → World → Prop), Kq (a₁ x) W →
      assign.wpIn (Fence.wide.inRound l) m P (Exit.then Kq (fun _ _ _ => False)) { tmps := (ps.zip (encs x)).foldl (fun t (p, v) => t.setIfInBounds p v) a.tmps, defers := [] } W)
    (hbody : ∀ (l : Nat) (pre : List α) (x : α) (W : World), l = w.heap.size + 1 → w.heap.size + 2 + d ≤ W.heap.size → pre ++ [x] <+: xs → I pre W →
      body.wpIn (Fence.wide.inRound l) m P (rfPost (fun k => k = w.heap.size ∨ k = w.heap.size + 1 ∨ (Kp k ∨ (w.heap.size + 2 ≤ k ∧ k < w.heap.size + 2 + d))) I Ix (pre ++ [x]) W) (a₁ x) W)
    (hdone : ∀ (W : World), w.heap.size + 2 ≤ W.heap.size → I xs W → W.heap[w.heap.size]? = some (.deferred (some [])) → Q .normal { a with defers := { target := .collected w.heap.size, args := #[] } :: a.defers } W)
    (hstop : ∀ (c : Code) (pre : List α) (W : World), w.heap.size + 2 ≤ W.heap.size → pre <+: xs → Ix c pre W → W.heap[w.heap.size]? = some (.deferred (some [])) → c.wpIn Fence.wide n P Q { a with defers := { target := .collected w.heap.size, args := #[] } :: a.defers } W) :
    (Code.rangeFunc g ps assign body).wpIn Fence.wide n P Q a w := by
  have hK' : ¬ (Kp (w.heap.size + 1) ∨ (w.heap.size + 2 ≤ w.heap.size + 1 ∧ w.heap.size + 1 < w.heap.size + 2 + d)) := fun h => h.elim hK (by omega)
  refine wpIn_rangeFunc fun fn hfn => ?_
  obtain ⟨rc, hrc⟩ : ∃ rc : LoopState → Option Code → Loop, rc = fun st pe => { state := st, pending := pe, fn, tmps := a.tmps, params := ps, assign, body, defers := w.heap.size } := ⟨_, rfl⟩
  have hsz : ((w.alloc (.deferred (some []))).alloc (.loop (rc .ready none))).heap.size = w.heap.size + 2 := by simp
  have hbl : Below w.heap.size w ((w.alloc (.deferred (some []))).alloc (.loop (rc .ready none))) := ((Below.refl _ w).alloc (Nat.le_refl _) _).alloc (by simp) _
  have hl1 : ((w.alloc (.deferred (some []))).alloc (.loop (rc .ready none))).heap[w.heap.size + 1]? = some (.loop (rc .ready none)) := by
    have := World.alloc_heap_new (w.alloc (.deferred (some []))) (.loop (rc .ready none)); rwa [World.size_alloc] at this
  have hk1 : ((w.alloc (.deferred (some []))).alloc (.loop (rc .ready none))).heap[w.heap.size]? = some (.deferred (some [])) :=
    (Below.heap_alloc _ _ _ (by simp)).trans (World.alloc_heap_new w _)
  have hin := run_enterLoop_outer (P := P) (w := w) fn a.tmps ps assign body
  rw [show ({ state := .ready, pending := none, fn, tmps := a.tmps, params := ps, assign, body, defers := w.heap.size } : Loop) = rc .ready none from by rw [hrc]] at hin
  generalize (w.alloc (.deferred (some []))).alloc (.loop (rc .ready none)) = W1 at hsz hbl hl1 hk1 hin
  have hst : ∀ {p : Nat → Prop} {A B : World} {k : Nat} {o : Obj}, Kept p A B → p k → A.heap[k]? = some o → B.heap[k]? = some o := fun h hp ho => h.obj hp ho
  have hx1 : ∀ k, k < w.heap.size + 2 → ¬ (w.heap.size + 2 ≤ k ∧ k < w.heap.size + 2 + d) := fun k hk hx => by omega
  refine ⟨w.heap.size + 1, [{ target := .collected w.heap.size, args := #[] }], W1, { target := .fn (.func gf) lb, args := #[.func (.yield (w.heap.size + 1)) #[] #[]] }, W1, gf,
    #[.func (.yield (w.heap.size + 1)) #[] #[]] ++ lb, W1, hin, ?_, fun _ _ => trivial, ?_, fun h => by simp [Fence.wide] at h, callsIn_wide.2 ?_⟩
  · simp only [resolve, hg]
    simp [go_sem]
  · simp [invoke, go_sem, eg]
  have hT := hseq W1 hbl hsz
  unfold Tells at hT
  rw [hsz] at hT
  refine (hT (w.heap.size + 1)
    (fun pre W => I pre W ∧ W.heap[w.heap.size + 1]? = some (.loop (rc .ready none)) ∧ W.heap[w.heap.size]? = some (.deferred (some [])))
    (fun pre W => ∃ c, Ix c pre W ∧ W.heap[w.heap.size + 1]? = some (.loop (rc .done (some c))) ∧ W.heap[w.heap.size]? = some (.deferred (some [])))
    ?_ ?_ ?_ ?_).mono ?_
  · rintro pre A B hA ⟨hi, hl, hk⟩ hkp
    exact ⟨hI pre A B (by omega) hi (hkp.mono fun k h => h.2), hst hkp (hx1 _ (by omega)) hl, hst hkp (hx1 _ (by omega)) hk⟩
  · rintro pre A B hA ⟨c, hi, hl, hk⟩ hkp
    exact ⟨c, hIx c pre A B (by omega) hi (hkp.mono fun k h => h.2), hst hkp (hx1 _ (by omega)) hl, hst hkp (hx1 _ (by omega)) hk⟩
  · -- one round
    rintro pre x W hW hpre ⟨hi, hl, hk⟩
    have hlt : w.heap.size + 1 < W.heap.size := (Array.getElem?_eq_some_iff.1 hl).1
    have hy := run_yield (P := P) (args := encs x) hl (by rw [hrc]; exact hps x)
    rw [hrc] at hy
    refine ⟨fn, _, assign, body, hy, RoundIn.anyDepth' (roundIn_of_wpIn (n := m) trivial (hassign _ x W _ ?_))⟩
    clear hy
    refine ⟨_, run_beginRound hl (by rw [hrc]), ?_⟩
    have hl2 : (W.putObj (w.heap.size + 1) (.loop { rc .ready none with state := .busy })).heap[w.heap.size + 1]? = some (.loop { rc .ready none with state := .busy }) := World.putObj_heap_same hlt
    have hk2 : (W.putObj (w.heap.size + 1) (.loop { rc .ready none with state := .busy })).heap[w.heap.size]? = some (.deferred (some [])) := (World.putObj_heap_other (by omega)).trans hk
    have hkk : Kept (fun k => Kp k ∨ (w.heap.size + 2 ≤ k ∧ k < w.heap.size + 2 + d)) W (W.putObj (w.heap.size + 1) (.loop { rc .ready none with state := .busy })) := (Kept.refl _ _).putObj hK' _
    have hi2 := hI pre _ (W.putObj (w.heap.size + 1) (.loop { rc .ready none with state := .busy })) (by omega) hi ((Kept.refl _ _).putObj (fun h => h.1 rfl) _)
    have hs2 : w.heap.size + 2 + d ≤ (W.putObj (w.heap.size + 1) (.loop { rc .ready none with state := .busy })).heap.size := by rw [World.putObj_size]; exact hW
    generalize W.putObj (w.heap.size + 1) (.loop { rc .ready none with state := .busy }) = W2 at hl2 hk2 hkk hi2 hs2
    refine wpIn_mono (hbody _ pre x W2 rfl hs2 hpre hi2) ?_
    have fin : ∀ (jump : Option Code) (W3 : World), Kept (fun k => k = w.heap.size ∨ k = w.heap.size + 1 ∨ (Kp k ∨ (w.heap.size + 2 ≤ k ∧ k < w.heap.size + 2 + d))) W2 W3 →
        (Instr.endRound (w.heap.size + 1) jump).run P W3 = .ok (.bool jump.isNone) (W3.putObj (w.heap.size + 1) (.loop (rc (if jump.isNone then .ready else .done) jump))) ∧
        w.heap.size ≤ W3.heap.size ∧
        Kept (fun k => Kp k ∨ (w.heap.size + 2 ≤ k ∧ k < w.heap.size + 2 + d)) W (W3.putObj (w.heap.size + 1) (.loop (rc (if jump.isNone then .ready else .done) jump))) ∧
        Kept (fun k => k ≠ w.heap.size + 1 ∧ ¬ (w.heap.size + 2 ≤ k ∧ k < w.heap.size + 2 + d)) W3 (W3.putObj (w.heap.size + 1) (.loop (rc (if jump.isNone then .ready else .done) jump))) ∧
        (W3.putObj (w.heap.size + 1) (.loop (rc (if jump.isNone then .ready else .done) jump))).heap[w.heap.size + 1]? = some (.loop (rc (if jump.isNone then .ready else .done) jump)) ∧
        (W3.putObj (w.heap.size + 1) (.loop (rc (if jump.isNone then .ready else .done) jump))).heap[w.heap.size]? = some (.deferred (some [])) := fun jump W3 h3 => by
      have hl3 := h3.obj (.inr (.inl rfl)) hl2
      have hr := run_endRound (P := P) jump hl3
      have hs3 := h3.size
      rw [hrc] at hr ⊢
      exact ⟨hr, by omega, hkk.trans ((h3.mono fun k hk => .inr (.inr hk)).putObj hK' _), (Kept.refl _ _).putObj (fun h => h.1 rfl) _, World.putObj_heap_same (Array.getElem?_eq_some_iff.1 hl3).1, (World.putObj_heap_other (by omega)).trans (h3.obj (.inl rfl) hk2)⟩
    rintro e a3 W3 hp
    cases e with
    | normal =>
      obtain ⟨h3, hi3⟩ := hp
      obtain ⟨hr, hs3, hkp, hkx, hl4, hk4⟩ := fin none W3 h3
      exact ⟨_, _, hr, hkp, .inl ⟨rfl, hI _ _ _ hs3 hi3 hkx, hl4, hk4⟩⟩
    | ret =>
      obtain ⟨h3, hi3⟩ := hp
      obtain ⟨hr, hs3, hkp, hkx, hl4, hk4⟩ := fin (some .ret) W3 h3
      exact ⟨_, _, hr, hkp, .inr ⟨rfl, .ret, hIx _ _ _ _ hs3 hi3 hkx, hl4, hk4⟩⟩
    | exit id =>
      obtain ⟨h3, hi3⟩ := hp
      obtain ⟨hr, hs3, hkp, hkx, hl4, hk4⟩ := fin (some (.exit id)) W3 h3
      exact ⟨_, _, hr, hkp, .inr ⟨rfl, .exit id, hIx _ _ _ _ hs3 hi3 hkx, hl4, hk4⟩⟩
    | goto t => exact hp.elim
    | panic ch => exact hp.elim
    | outgrown => exact hp.elim
  · exact ⟨hI [] w W1 (Nat.le_refl _) h0 (Kept.of_below hbl), hl1, hk1⟩
  · -- behind it
    rintro e W2 ⟨⟨v, rfl⟩, hs2, (⟨hi, hl, hk⟩ | ⟨pre, hpre, c, hi, hl, hk⟩)⟩
    · exact ⟨none, _, by have := run_endLoop (P := P) hl (by rw [hrc]; simp); rw [hrc] at this; exact this,
        hdone _ (by rw [World.putObj_size]; exact hs2) (hI _ _ _ (by omega) hi ((Kept.refl _ _).putObj (fun h => h.1 rfl) _)) ((World.putObj_heap_other (by omega)).trans hk)⟩
    · exact ⟨some c, _, by have := run_endLoop (P := P) hl (by rw [hrc]; simp); rw [hrc] at this; exact this,
        hstop c pre _ (by rw [World.putObj_size]; exact hs2) hpre (hIx c _ _ _ (by omega) hi ((Kept.refl _ _).putObj (fun h => h.1 rfl) _)) ((World.putObj_heap_other (by omega)).trans hk)⟩
end Go.Proofs.YthpcbbkpjggjbaaGreatDoor
namespace Go.Proofs.YthpcbbkpjggjbaaGreatDoor
open Go.RowKit Go.Shelf
attribute [local go_sem] Oper.semAt_some
def encP (x : Nat × Ck.Bs) : Array Value := #[.int .i64 (x.1 : Int), Sv x.2]
def CutAt (W : World) (B : Nat) (mn mx bt : Int) : Prop := W.heap[B]? = some (.cells #[.int .i64 mn, .int .i64 mx, .int .i64 bt] 43 (0, 0))
theorem CutAt.lt {W : World} {B : Nat} {mn mx bt : Int} (h : CutAt W B mn mx bt) : B < W.heap.size := (Array.getElem?_eq_some_iff.1 h).1
theorem CutAt.c0 {W : World} {B : Nat} {mn mx bt : Int} (h : CutAt W B mn mx bt) : W.cell? ⟨B, 0, none⟩ = some (.int .i64 mn) := by simp [World.cell?, show W.heap[B]? = _ from h]
theorem CutAt.c1 {W : World} {B : Nat} {mn mx bt : Int} (h : CutAt W B mn mx bt) : W.cell? ⟨B, 1, none⟩ = some (.int .i64 mx) := by simp [World.cell?, show W.heap[B]? = _ from h]
theorem CutAt.c2 {W : World} {B : Nat} {mn mx bt : Int} (h : CutAt W B mn mx bt) : W.cell? ⟨B, 2, none⟩ = some (.int .i64 bt) := by simp [World.cell?, show W.heap[B]? = _ from h]
theorem CutAt.kept {p : Nat → Prop} {A B : World} {k : Nat} {mn mx bt : Int} (h : CutAt A k mn mx bt) (hk : Kept p A B) (hp : p k) : CutAt B k mn mx bt := hk.obj hp h
theorem drop_ext (s : ByteArray) (a : Nat) : (s.extract a s.size).data.toList = s.data.toList.drop a := by
  rw [ext_eq]
  show List.take _ _ = _
  rw [List.take_of_length_le (by rw [List.length_drop, ← Lib.size_eq]; exact Nat.le_refl _)]
theorem piece_ext (s : ByteArray) (a n : Nat) : s.extract a (a + n) = ⟨((s.data.toList.drop a).take n).toArray⟩ := by
  rw [ext_eq, show a + n - a = n from by omega]
set_option maxRecDepth 100000 in
set_option maxHeartbeats 2000000 in
theorem ruled1_of (mn mx bt : Nat) (hb1 : 1 ≤ bt) (hb2 : bt ≤ 12) (s : ByteArray) (hs : s.size ≤ 4096) (W : World) (bc bs : Nat) (hc : CutAt W bc mn mx bt) (hsb : Boxed W bs 9 (.string s))
    (XS : List (Nat × Ck.Bs)) (R : Nat → List (Nat × Ck.Bs)) (N : Nat → Nat)
    (hN : ∀ a, a ≤ s.size → Ck.First (Ck.ends mn mx bt Rl.ofL) (s.data.toList.drop a) (N a)) (hX : XS = R 0) (hR0 : ∀ a, a ≤ s.size → N a = 0 → R a = [])
    (hR1 : ∀ a, a ≤ s.size → 0 < N a → a + N a ≤ s.size ∧ R a = (a, (s.data.toList.drop a).take (N a)) :: R (a + N a)) :
    Tells Tryz.prog 133 #[.pointer (some ⟨bc, 0, none⟩), .pointer (some ⟨bs, 0, none⟩)] encP XS 0 (fun k => k = bc ∨ k = bs) W := by
  intro l J Jx hJ hJx hY h0
  have c0 := hc.c0
  have c1 := hc.c1
  have c2 := hc.c2
  have cs := hsb.cell
  have hby : ∀ a, a ≤ s.size → ∀ V, Calls Tryz.prog 134 #[.agg #[.int .i64 mn, .int .i64 mx, .int .i64 bt], .string (s.extract a s.size)] V fun e w' => e = .returned (.int .i64 (N a)) ∧ Below V.heap.size V w' := fun a ha V =>
    ck_bytes_any mn mx bt hb1 hb2 (s.extract a s.size) V (by rw [ByteArray.size_extract]; omega) (N a) (by rw [drop_ext]; exact hN a ha)
  have hb0 : ∀ V, Calls Tryz.prog 134 #[.agg #[.int .i64 mn, .int .i64 mx, .int .i64 bt], .string s] V fun e w' => e = .returned (.int .i64 (N 0)) ∧ Below V.heap.size V w' := fun V => by
    have := hby 0 (Nat.zero_le _) V
    rwa [show s.extract 0 s.size = s from by simp] at this
  refine (callsIn_wide (n := 9)).1 ?_
  refine callsIn_of_wp Tryz.func133 rfl trivial ?_ rfl
  simp only [Tryz.ntmps133, List.size_toArray, List.length_cons, List.length_nil, Nat.reduceAdd, Nat.reduceSub, Array.replicate_succ, Array.replicate_zero, List.push_toArray, List.append_toArray, List.nil_append, List.cons_append]
  gi_wp2_with fail
  refine ⟨trivial, (callsIn_wide.2 (hb0 _)).mono ?_⟩
  rintro e w1 ⟨rfl, hbl⟩
  have HJ1 : Hid (J [] w1) := hJ _ _ _ (Nat.le_refl _) h0 (Kept.of_below hbl)
  have HC1 : Hid (CutAt w1 bc mn mx bt) := hc.kept (Kept.of_below (p := fun _ => True) hbl) trivial
  have HS1 : Hid (Boxed w1 bs 9 (.string s)) := (Kept.of_below (p := fun _ => True) hbl).boxed trivial hsb
  have hsz := hbl.size
  clear hbl hb0 c0 c1 c2 cs hc hsb h0
  gi_wp2_with fail
  gi_loopw [4, 5] (fun u v wr => ∃ (pre : List (Nat × Ck.Bs)) (a : Nat), u = .int .i64 a ∧ v = .int .i64 (N a) ∧ a ≤ s.size ∧ Hid (XS = pre ++ R a) ∧ Hid (J pre wr) ∧ Hid (CutAt wr bc mn mx bt) ∧ Hid (Boxed wr bs 9 (.string s)) ∧ W.heap.size ≤ wr.heap.size) (fun u _ _ => s.size - (intOf u).toNat)
  case atStart => exact ⟨[], 0, rfl, rfl, Nat.zero_le _, by rw [hX]; rfl, HJ1, HC1, HS1, hsz⟩
  case round =>
    obtain ⟨pre, a, rfl, rfl, ha, HX, HJ, HC, HS, hsw⟩ := hrel
    clear HJ1 HC1 HS1 hsz
    by_cases hn : N a = 0
    · have HX2 : Hid (XS = pre) := by show _ = _; rw [HX.out, hR0 a ha hn, List.append_nil]
      have hq : ¬ 0 < N a := by omega
      clear hY hby hN hR0 hR1 hn
      gi_wp2_with fail
      go_end0
      exact ⟨⟨_, rfl⟩, hsw, .inl (by rw [HX2.out]; exact HJ.out)⟩
    · obtain ⟨ha2, hRa⟩ := hR1 a ha (by omega)
      have hq : 0 < N a := by omega
      have cs := HS.out.cell
      have HP : Hid (pre ++ [(a, (s.data.toList.drop a).take (N a))] <+: XS) := ⟨R (a + N a), by rw [HX.out, hRa]; simp⟩
      have HX2 : Hid (XS = (pre ++ [(a, (s.data.toList.drop a).take (N a))]) ++ R (a + N a)) := by show _ = _; rw [HX.out, hRa]; simp
      have HE : Hid (encP (a, (s.data.toList.drop a).take (N a)) = #[.int .i64 (a : Int), .string (s.extract a (a + N a))]) := by
        show _ = _
        rw [piece_ext]; rfl
      have HY : Hid (∀ W1, W.heap.size ≤ W1.heap.size → J pre W1 → YieldAt Fence.wide 8 Tryz.prog l #[.int .i64 (a : Int), .string (s.extract a (a + N a))] W1 fun e W' =>
          Kept (fun k => (k = bc ∨ k = bs) ∨ (W.heap.size ≤ k ∧ k < W.heap.size + 0)) W1 W' ∧ ((e = .returned (.bool true) ∧ J (pre ++ [(a, (s.data.toList.drop a).take (N a))]) W') ∨ (e = .returned (.bool false) ∧ Jx (pre ++ [(a, (s.data.toList.drop a).take (N a))]) W'))) := fun W1 h1 h2 => by
        have := hY pre _ W1 h1 HP.out h2
        rw [HE.out] at this
        exact YieldAt.anyDepth' 8 this
      have hcl := fun V => ck_clone_any (s.extract a (a + N a)) V (by rw [ByteArray.size_extract]; omega)
      have hnext := hby (a + N a) ha2
      generalize (pre ++ [(a, (s.data.toList.drop a).take (N a))]) = pre2 at *
      generalize hnn : N (a + N a) = n2 at *
      generalize hna : N a = n at *
      have HN2 : Hid (N (a + n) = n2) := hnn
      generalize hpe : s.extract a (a + n) = piece at *
      clear hY hby hN hR0 hR1 hn hRa HX HE hnn
      gi_wp2_with fail
      refine ⟨trivial, (callsIn_wide.2 (hcl _)).mono ?_⟩
      rintro e w2 ⟨rfl, hbl⟩
      have hs2 : W.heap.size ≤ w2.heap.size := by have := hbl.size; omega
      obtain ⟨fn, tmps, assign, body, hy, hR⟩ := HY.out w2 hs2 (hJ _ _ _ hsw HJ.out (Kept.of_below hbl))
      have HC2 : Hid (CutAt w2 bc mn mx bt) := HC.out.kept (Kept.of_below (p := fun _ => True) hbl) trivial
      have HS2 : Hid (Boxed w2 bs 9 (.string s)) := (Kept.of_below (p := fun _ => True) hbl).boxed trivial HS.out
      clear hcl hbl HY HJ HC HS cs hsw
      gi_wp2_with fail
      refine hR.mono ?_
      rintro e w3 ⟨hk3, (⟨rfl, hJ3⟩ | ⟨rfl, hx3⟩)⟩
      · have HJ3 : Hid (J pre2 w3) := hJ3
        have HC3 : Hid (CutAt w3 bc mn mx bt) := HC2.out.kept hk3 (.inl (.inl rfl))
        have HS3 : Hid (Boxed w3 bs 9 (.string s)) := hk3.boxed (.inl (.inr rfl)) HS2.out
        have hs3 : W.heap.size ≤ w3.heap.size := by have := hk3.size; omega
        have c0 := HC3.out.c0
        have c1 := HC3.out.c1
        have c2 := HC3.out.c2
        have cs := HS3.out.cell
        clear hR hy hk3 hJ3 HC2 HS2 hs2 hpe
        gi_wp2_with fail
        have lc := HC3.out.lt
        have ls := HS3.out.lt
        have d0 : ∀ X : Since w3.heap.size w3, X.val.cell? ⟨bc, 0, none⟩ = some (.int .i64 (mn : Int)) := fun X => (X.property.cell (p := ⟨bc, 0, none⟩) lc).trans c0
        have d1 : ∀ X : Since w3.heap.size w3, X.val.cell? ⟨bc, 1, none⟩ = some (.int .i64 (mx : Int)) := fun X => (X.property.cell (p := ⟨bc, 1, none⟩) lc).trans c1
        have d2 : ∀ X : Since w3.heap.size w3, X.val.cell? ⟨bc, 2, none⟩ = some (.int .i64 (bt : Int)) := fun X => (X.property.cell (p := ⟨bc, 2, none⟩) lc).trans c2
        have ds : ∀ X : Since w3.heap.size w3, X.val.cell? ⟨bs, 0, none⟩ = some (.string s) := fun X => (X.property.cell (p := ⟨bs, 0, none⟩) ls).trans cs
        have hne : Nonempty (Since w3.heap.size w3) := ⟨⟨w3, Below.refl _ _⟩⟩
        refine wpIn_wide.2 ?_
        refine wp_region_since (B := w3.heap.size) (W0 := w3) (by kernel_rfl) (by kernel_rfl) (Below.refl _ _) ?_
        repeat (go_big_quiet_step (fail))
        go_big_quiet_step (exact quiet_since _ (hnext _))
        repeat (go_big_quiet_step (fail))
        refine wpQuiet_nil ?_
        rintro w4 ⟨U, rfl⟩
        have hbl := U.property
        generalize U.val = w4 at *
        clear d0 d1 d2 ds hne lc ls
        have HJ4 : Hid (J pre2 w4) := hJ _ _ _ hs3 HJ3.out (Kept.of_below hbl)
        have HC4 : Hid (CutAt w4 bc mn mx bt) := HC3.out.kept (Kept.of_below (p := fun _ => True) hbl) trivial
        have HS4 : Hid (Boxed w4 bs 9 (.string s)) := (Kept.of_below (p := fun _ => True) hbl).boxed trivial HS3.out
        have hs4 : W.heap.size ≤ w4.heap.size := by have := hbl.size; omega
        clear hbl HJ3 HC3 HS3 hs3 c0 c1 c2 cs hnext
        gi_wp2_with fail
        go_roundw
        case rel => exact ⟨pre2, a + n, by go_num, by rw [HN2.out], ha2, HX2, HJ4, HC4, HS4, hs4⟩
        case measure => simp only [intOf]; omega
      · have hs3 : W.heap.size ≤ w3.heap.size := by have := hk3.size; omega
        gi_wp2_with fail
        refine bodyPost_ret (results_none rfl _ _ _) rfl ?_
        exact ⟨⟨_, rfl⟩, hs3, .inr ⟨pre2, HP.out, hx3⟩⟩
theorem ruled1_tells (mn mx bt : Nat) (hb1 : 1 ≤ bt) (hb2 : bt ≤ 12) (s : ByteArray) (hs : s.size ≤ 4096) (W : World) (bc bs : Nat) (hc : CutAt W bc mn mx bt) (hsb : Boxed W bs 9 (.string s)) :
    Tells Tryz.prog 133 #[.pointer (some ⟨bc, 0, none⟩), .pointer (some ⟨bs, 0, none⟩)] encP (Ck.withAt 0 (Ck.pieces (Ck.ends mn mx bt Rl.ofL) s.data.toList).1) 0 (fun k => k = bc ∨ k = bs) W := by
  have hex : ∀ a, ∃ n, Ck.First (Ck.ends mn mx bt Rl.ofL) (s.data.toList.drop a) n := fun a => Ck.first_ex _ _
  refine ruled1_of mn mx bt hb1 hb2 s hs W bc bs hc hsb _ (fun a => Ck.withAt a (Ck.pieces (Ck.ends mn mx bt Rl.ofL) (s.data.toList.drop a)).1) (fun a => Classical.choose (hex a)) (fun a _ => Classical.choose_spec (hex a)) rfl ?_ ?_
  · intro a _ h0
    have h := Classical.choose_spec (hex a)
    rw [h0] at h
    rw [Ck.pieces_first_none h]
    rfl
  · intro a ha h0
    have h := Classical.choose_spec (hex a)
    generalize Classical.choose (hex a) = n at h h0 ⊢
    have hle : a + n ≤ s.size := by
      rcases h.hit with h1 | ⟨_, h2, _⟩
      · omega
      · rw [List.length_drop, ← Lib.size_eq] at h2; omega
    refine ⟨hle, ?_⟩
    have hl : ((s.data.toList.drop a).take n).length = n := by rw [List.length_take, List.length_drop, ← Lib.size_eq]; omega
    rw [Ck.pieces_first h h0, Ck.withAt, hl, List.drop_drop]
set_option maxHeartbeats 400000 in
theorem ruled_any (mn mx bt : Int) (s : ByteArray) (w : World) :
    Calls Tryz.prog 126 #[cutV mn mx bt, .string s] w fun e w' => e = .returned (.func (.func 133) #[] #[.pointer (some ⟨w.heap.size, 0, none⟩), .pointer (some ⟨w.heap.size + 1, 0, none⟩)]) ∧
      CutAt w' w.heap.size mn mx bt ∧ Boxed w' (w.heap.size + 1) 9 (.string s) ∧ Below w.heap.size w w' ∧ w'.heap.size = w.heap.size + 2 := by
  unfold cutV
  go_enter Tryz.func126, Tryz.ntmps126
  go_wp2
  go_ret
  refine ⟨rfl, ?_, ?_, ((Below.refl _ w).alloc (Nat.le_refl _) _).alloc (by simp) _, by simp⟩
  · exact (Below.heap_alloc _ _ _ (by simp)).trans (World.alloc_heap_new w _)
  · have := World.alloc_heap_new (w.alloc (.cells #[.int .i64 mn, .int .i64 mx, .int .i64 bt] 43)) (.cells #[.string s] 9)
    rwa [World.size_alloc] at this
end Go.Proofs.YthpcbbkpjggjbaaGreatDoor
namespace Go.Proofs.YthpcbbkpjggjbaaGreatDoor
open Go.RowKit
def cutL (mn mx bt : Int) (s : ByteArray) : List Ck.Bs := if sizeN mn mx bt s.size = 0 then Ck.cut (Ck.ends mn.toNat mx.toNat bt.toNat Rl.ofL) s.data.toList else []
theorem sizeN_zero {mn mx bt n : Int} : sizeN mn mx bt n = 0 ↔ OkCut mn mx bt ∧ n ≤ 4096 := by
  unfold sizeN
  by_cases h : OkCut mn mx bt
  · rw [if_pos h]
    by_cases h2 : n ≤ 4096
    · rw [if_pos h2]; exact ⟨fun _ => ⟨h, h2⟩, fun _ => rfl⟩
    · rw [if_neg h2]; exact ⟨fun e => by omega, fun e => absurd e.2 h2⟩
  · rw [if_neg h]; exact ⟨fun e => by omega, fun e => absurd e.1 h⟩
end Go.Proofs.YthpcbbkpjggjbaaGreatDoor
