/-
  Under lumref's class (no Go in it but the model's own append as one step): items one by one; what stays while both rows grow.
-/
import Derived.Test.YtfcnlfblfennaaaDoorApTwo
import Derived.Test.YtfcnlfblfennaaaDoorGbPat
namespace Go.Proofs.YtfcnlfblfennaaaDoor
open Go.RowKit

namespace Gb
/-- what comes behind the items so far (is it the first one?) -/
def nxt (first : Bool) (l : List Nat) : Option (List (Nat × Nat) × List Nat) :=
  if first = false ∧ l = [] then none else if first = false ∧ l.head? = some 93 then some ([], l.tail) else items l.length l
theorem items_nxt (l : List Nat) : items l.length l = (item l).bind fun x => (nxt false x.2).map fun y => (x.1 :: y.1, y.2) := by
  cases l with
  | nil => rfl
  | cons a l =>
    rw [List.length_cons, items]
    cases hi : item (a :: l) with
    | none => rfl
    | some x =>
      obtain ⟨i, r⟩ := x
      have hl := item_less hi
      simp only [List.length_cons] at hl
      dsimp only
      rw [Option.bind_some]
      dsimp only
      cases r with
      | nil => rfl
      | cons c s =>
        dsimp only
        have hn : nxt false (c :: s) = if c = 93 then some ([], s) else items (c :: s).length (c :: s) := by
          unfold nxt
          rw [if_neg (fun q => by cases q.2)]
          by_cases h : c = 93
          · rw [if_pos h, if_pos ⟨rfl, by rw [h]; rfl⟩]; rfl
          · rw [if_neg h, if_neg (fun q => h (by simpa using q.2))]
        rw [hn, items_more l.length (c :: s).length (c :: s) (by omega) (Nat.le_refl _)]
        by_cases h : c = 93
        · rw [if_pos h, if_pos h]; rfl
        · rw [if_neg h, if_neg h]
/-- a step of class's loop -/
theorem nxt_step {first : Bool} {l : List Nat} (h : ¬ (first = false ∧ l = [])) (h2 : ¬ (first = false ∧ l.head? = some 93)) : nxt first l = (item l).bind fun x => (nxt false x.2).map fun y => (x.1 :: y.1, y.2) := by
  rw [nxt, if_neg h, if_neg h2, items_nxt]
theorem nxt_true (l : List Nat) : nxt true l = items l.length l := by
  unfold nxt
  rw [if_neg (fun q => by cases q.1), if_neg (fun q => by cases q.1)]
theorem cls_nxt (l : List Nat) : cls l = (nxt true (if l.head? = some 94 then l.tail else l)).map fun x => ((decide (l.head? = some 94), x.1), x.2) := by
  unfold cls
  rw [nxt_true]
  by_cases h : l.head? = some 94
  · rw [if_pos h, items_more l.length l.tail.length l.tail (by rw [List.length_tail]; omega) (Nat.le_refl _)]
  · rw [if_neg h]
end Gb

section
variable {P : Program} {o : Oper} {a : Act} {W : World}
theorem exec_append {W' : World} {v y v' : Value} (s x : Operand) (t : TypeId) (ho : o.op = .call { callee := .builtin .append, args := #[s, x], argTypes := #[t, t] }) (hs : a.eval s = v) (hx : a.eval x = y)
    (h : (Builtin.append_ #[t, t] o.type #[v, y]).run P W = .ok v' W') : (execOp a.eval o).run P W = .ok (.value v') W' := by
  simp only [execOp, ho, resolve, invoke, builtin, Sem.run_bind, Sem.run_pure, Result.andThen_ok, List.map_toArray, List.map_cons, List.map_nil, hs, hx, h]
end
section
variable {B : Nat} {p1 p2 : Option Nat} {X Y : List Value} {W0 W W' : World}
theorem G2.row1 {v : Value} {xs : List Value} (h : G2 B v.ownBlock p2 X Y W0 W) (hp : xs <+: X) (ho : Ow W0 B v xs) : Ow W B v xs := by
  cases hv : v.ownBlock with
  | none =>
    rcases ho.2 with ⟨rfl, h0⟩ | ⟨g, cap, cur, e, _⟩
    · have : xs = [] := List.length_eq_zero_iff.1 h0
      subst this
      exact World.ownsRow_nil _ _ _ _
    · rw [e] at hv; simp [Value.ownBlock] at hv
  | some g => exact h.r1 v xs g hv hv hp ho
theorem G2.row2 {v : Value} {ys : List Value} (h : G2 B p1 v.ownBlock X Y W0 W) (hp : ys <+: Y) (ho : Ow W0 B v ys) : Ow W B v ys := by
  cases hv : v.ownBlock with
  | none =>
    rcases ho.2 with ⟨rfl, h0⟩ | ⟨g, cap, cur, e, _⟩
    · have : ys = [] := List.length_eq_zero_iff.1 h0
      subst this
      exact World.ownsRow_nil _ _ _ _
    · rw [e] at hv; simp [Value.ownBlock] at hv
  | some g => exact h.r2 v ys g hv hv hp ho
theorem G2.cell (h : G2 B p1 p2 X Y W W') {b : Nat} {v : Value} (h1 : some b ≠ p1) (h2 : some b ≠ p2) (hb : b < W.heap.size) (hc : W.cell? ⟨b, 0, none⟩ = some v) : W'.cell? ⟨b, 0, none⟩ = some v := by
  have e := h.kept.block b hb ⟨h1, h2⟩
  rw [show W'.cell? ⟨b, 0, none⟩ = W.cell? ⟨b, 0, none⟩ from by simp only [World.cell?, e]]
  exact hc
/-- a row of one number, built behind W0 -/
def Bt (W0 : World) (x : Value) (u : Value) (W : World) : Prop := ∃ g, u = .slice (some ⟨g, 0, none⟩) 1 1 ∧ W.cell? ⟨g, 0, none⟩ = some x ∧ W0.heap.size ≤ g ∧ g < W.heap.size
theorem Bt.past {x : Value} (l1 : ∀ g, p1 = some g → g < W0.heap.size) (l2 : ∀ g, p2 = some g → g < W0.heap.size) (u : Value) (W W' : World) (h : Bt W0 x u W) (hg : G2 B p1 p2 X Y W W') : Bt W0 x u W' := by
  obtain ⟨g, h1, h2, h3, h4⟩ := h
  exact ⟨g, h1, hg.cell (fun e => by have := l1 g e.symm; omega) (fun e => by have := l2 g e.symm; omega) h4 h2, h3, Nat.lt_of_lt_of_le h4 hg.kept.size⟩
/-- a row that has its number more: in its own block, or behind W0 -/
def Ap (W0 : World) (B : Nat) (p : Option Nat) (Z : List Value) (u : Value) (W : World) : Prop := Ow W B u Z ∧ ∃ g, u.ownBlock = some g ∧ (p = some g ∨ W0.heap.size ≤ g)
def ApF (p : Option Nat) (W : World) (u : Value) : Prop := ∃ g, u.ownBlock = some g ∧ (p = some g ∨ W.heap.size ≤ g)
theorem Ap.past1 (l1 : ∀ g, p1 = some g → g < W0.heap.size) (l2 : ∀ g, p2 = some g → g < W0.heap.size) (u : Value) (W W' : World) (h : Ap W0 B p1 X u W) (hg : G2 B p1 p2 X Y W W') : Ap W0 B p1 X u W' := by
  obtain ⟨h1, g, h2, h3⟩ := h
  refine ⟨?_, g, h2, h3⟩
  rcases h3 with h3 | h3
  · exact hg.r1 u X g h2 h3 (List.prefix_refl _) h1
  · exact own_kept h1 hg.kept fun k hk => by
      rw [h2] at hk
      cases hk
      exact ⟨fun e => by have := l1 g e.symm; omega, fun e => by have := l2 g e.symm; omega⟩
theorem Ap.past2 (l1 : ∀ g, p1 = some g → g < W0.heap.size) (l2 : ∀ g, p2 = some g → g < W0.heap.size) (u : Value) (W W' : World) (h : Ap W0 B p2 Y u W) (hg : G2 B p1 p2 X Y W W') : Ap W0 B p2 Y u W' := by
  obtain ⟨h1, g, h2, h3⟩ := h
  refine ⟨?_, g, h2, h3⟩
  rcases h3 with h3 | h3
  · exact hg.r2 u Y g h2 h3 (List.prefix_refl _) h1
  · exact own_kept h1 hg.kept fun k hk => by
      rw [h2] at hk
      cases hk
      exact ⟨fun e => by have := l1 g e.symm; omega, fun e => by have := l2 g e.symm; omega⟩
theorem App.ap {v v' x : Value} {xs : List Value} (h : App W W' B v v' xs x) (hs : W0.heap.size ≤ W.heap.size) : Ap W0 B v.ownBlock (xs ++ [x]) v' W' ∧ ApF v.ownBlock W v' := by
  have hb : ∃ g, v'.ownBlock = some g := by
    rcases h.own.2 with ⟨_, h0⟩ | ⟨g, cap, cur, e, _⟩
    · rw [List.length_append] at h0; simp at h0
    · exact ⟨g, by rw [e]; rfl⟩
  obtain ⟨g, hg⟩ := hb
  rcases h.blk with e | ⟨g', e, hl⟩
  · exact ⟨⟨h.own, g, hg, .inl (by rw [← e]; exact hg)⟩, g, hg, .inl (by rw [← e]; exact hg)⟩
  · rw [hg] at e
    cases e
    exact ⟨⟨h.own, g, hg, .inr (by omega)⟩, g, hg, .inr hl⟩
/-- two rows that got their numbers one behind the other lie apart -/
theorem ap_apart {u v : Value} (hne : ∀ g, p1 = some g → p2 ≠ some g) (l1 : ∀ g, p1 = some g → g < W0.heap.size) (l2 : ∀ g, p2 = some g → g < W0.heap.size)
    (h : (∃ w1, G2 B p1 p2 X Y w1 W ∧ ApF p1 w1 u ∧ Ap W0 B p2 Y v w1) ∨ (∃ w1, G2 B p1 p2 X Y w1 W ∧ ApF p2 w1 v ∧ Ap W0 B p1 X u w1)) : ∀ g, u.ownBlock = some g → v.ownBlock ≠ some g := by
  intro g hu hv
  rcases h with ⟨w1, _, ⟨g1, a1, a2⟩, b0, g2, b1, b2⟩ | ⟨w1, _, ⟨g1, a1, a2⟩, b0, g2, b1, b2⟩
  · rw [hu] at a1; cases a1
    rw [hv] at b1; cases b1
    have hlt := (own_block b0 hv)
    obtain ⟨_, _, _, hlt⟩ := hlt
    rcases a2 with a2 | a2
    · rcases b2 with b2 | b2
      · exact hne g a2 b2
      · have := l1 g a2; omega
    · omega
  · rw [hv] at a1; cases a1
    rw [hu] at b1; cases b1
    obtain ⟨_, _, _, hlt⟩ := own_block b0 hu
    rcases a2 with a2 | a2
    · rcases b2 with b2 | b2
      · exact hne g b2 a2
      · have := l2 g a2; omega
    · omega
end
end Go.Proofs.YtfcnlfblfennaaaDoor
