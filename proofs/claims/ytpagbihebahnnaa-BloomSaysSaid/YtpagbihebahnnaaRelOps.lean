/-
  Operations of a region, one by one: what they yield.
-/
import Derived.Test.YtpagbihebahnnaaRelReg
import Derived.Test.YtpagbihebahnnaaBlEq
namespace Go.Proofs.Ytpagbihebahnnaa
open Go.RowKit

section
variable {P : Program} {a : Act} {o : Oper} {W : World}
theorem exec_load (ty : TypeId) (x : Operand) (ho : o.op = .load ty x) (b q : Nat) (hx : a.eval x = .pointer (some ⟨b, q, none⟩)) (cs : List Value) (d : TypeDesc) (hc : W.rangeAt b q cs)
    (hu : P.underlying ty = some d) (hd : d.isRow = true) (hi : (P.info? ty).map (·.size) = some cs.length) : (execOp a.eval o).run P W = .ok (.value (.agg cs.toArray)) W := by
  unfold execOp
  simp only [ho, hx, Instr.loadAt, Instr.sureAddr, Sem.run_bind, Sem.run_pure, Result.andThen_ok, run_loadVar_mid W b q ty cs d hc hu hd hi]
theorem exec_move (x : Operand) (ho : o.op = .move x ∨ o.op = .assign x) {u : Value} (hx : a.eval x = u) : (execOp a.eval o).run P W = .ok (.value u) W := by
  subst hx
  rcases ho with ho | ho <;> simp only [execOp, ho, Sem.run_pure]
theorem exec_pick (x y z : Operand) (ho : o.op = .pick x y z) {c : Bool} {u : Value} (hx : a.eval x = .bool c) (hu : (if c then a.eval y else a.eval z) = u) : (execOp a.eval o).run P W = .ok (.value u) W := by
  subst hu
  simp only [execOp, ho, hx, asBool, Sem.run_bind, Sem.run_pure, Result.andThen_ok]
theorem exec_look (t : TypeId) (x y : Operand) (ho : o.op = .lookup t x y false) {m k u : Value} (hx : a.eval x = m) (hy : a.eval y = k) (h : (Instr.lookup t m k false).run P W = .ok u W) : (execOp a.eval o).run P W = .ok (.value u) W := by
  subst hx hy
  simp only [execOp, ho, Sem.run_bind, h, Result.andThen_ok, Sem.run_pure]
theorem exec_update {W' : World} (t : TypeId) (x y z : Operand) (ho : o.op = .mapUpdate t x y z) {m k u : Value} (hx : a.eval x = m) (hy : a.eval y = k) (hz : a.eval z = u) (h : (Instr.mapUpdate t m k u).run P W = .ok () W') : (execOp a.eval o).run P W = .ok .skip W' := by
  subst hx hy hz
  simp only [execOp, ho, Sem.run_bind, h, Result.andThen_ok, Sem.run_pure]
theorem exec_blms {W : World} (t : TypeId) (n : Nat) (parts : Array (Nat × Operand)) (ho : o.op = .buildSlice t n parts) (bs : List (List Nat)) (ht : t = 42) (hn : n = bs.length)
    (hp : (parts.toList.map fun x => (x.1, a.eval x.2)) = (bs.map blmV).zipIdx.map fun x => (x.2, x.1)) (hb : Bm.Oks bs) (h0 : 0 < bs.length) (hl : bs.length ≤ 1000) :
    (execOp a.eval o).run Try.prog W = .ok (.value (.slice (some ⟨W.heap.size, 0, none⟩) bs.length bs.length)) (W.alloc (.cells (rowR blmC bs).toArray 24)) := by
  subst ht hn
  have hp' : (parts.map fun (i, x) => (i, a.eval x)) = ((bs.map blmV).zipIdx.map fun x => (x.2, x.1)).toArray := by
    rw [← hp, ← Array.toList_map]
  simp only [execOp, ho, hp', Sem.run_bind, run_blms W bs hb h0 hl, Result.andThen_ok, Sem.run_pure]
end
theorem wpList_exec {P : Program} {ops : Array Oper} {rest : List Oper} {o : Oper} {a : Act} {w w' : World} {u : Value} {Q : Exit → Act → World → Prop} (hg : o.guard = none) (h : (execOp a.eval o).run P w = .ok (.value u) w')
    (k : wpList P ops Q rest (a.put o.dst u) w') : wpList P ops Q (o :: rest) a w :=
  wpList_plain hg fun _ hK => by
    unfold Oper.wp
    rw [h]
    exact hK _ _ k
theorem wpList_skip {P : Program} {ops : Array Oper} {rest : List Oper} {o : Oper} {a : Act} {w w' : World} {Q : Exit → Act → World → Prop} (hg : o.guard = none) (h : (execOp a.eval o).run P w = .ok .skip w')
    (k : wpList P ops Q rest (a.put o.dst undef) w') : wpList P ops Q (o :: rest) a w :=
  wpList_plain hg fun _ hK => by
    unfold Oper.wp
    rw [h]
    exact hK _ _ k
theorem rx_mono {bs : List (List Nat)} (u : Value) (w w' : World) (h : Rx 16 blmC w u bs) (hg : Gw w w') : Rx 16 blmC w' u bs := h.below hg
end Go.Proofs.Ytpagbihebahnnaa
