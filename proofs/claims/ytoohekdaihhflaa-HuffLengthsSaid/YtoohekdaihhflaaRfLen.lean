/-
  What Lengths of package lumref answers.
-/
import Derived.Test.YtoohekdaihhflaaRfMem
namespace Go.Proofs.Ytoohekdaihhflaa
open Go.RowKit

namespace Hf
/-- the right numbers at a list's beginning, and what stands behind them -/
theorem front2 (l : List Int) (most : Nat) : ∃ L : List Nat, L.length ≤ l.length ∧ (∀ j (_ : j < L.length) (hj' : j < l.length), l[j] = ((L.getD j 0 : Nat) : Int)) ∧ (∀ n ∈ L, n ≤ most) ∧ ∀ hj : L.length < l.length, l[L.length] < 0 ∨ (most : Int) < l[L.length] := by
  induction l with
  | nil => exact ⟨[], Nat.le_refl _, fun j hj => by simp at hj, fun n hn => by simp at hn, fun hj => by simp at hj⟩
  | cons x l ih =>
    obtain ⟨L, h1, h2, h3, h4⟩ := ih
    by_cases hx : x < 0 ∨ (most : Int) < x
    · exact ⟨[], Nat.zero_le _, fun j hj => by simp at hj, fun n hn => by simp at hn, fun _ => hx⟩
    · refine ⟨x.toNat :: L, by simpa using h1, fun j hj hj' => ?_, fun n hn => ?_, fun hj => ?_⟩
      · cases j with
        | zero => simp; omega
        | succ j => simpa using h2 j (by simpa using hj) (by simpa using hj')
      · rcases List.mem_cons.1 hn with rfl | hn
        · omega
        · exact h3 n hn
      · simpa using h4 (by simpa using hj)
/-- the signs below k that are in one of two lists -/
def both (xs ys : List Nat) (k : Nat) : List Nat := (List.range k).filter fun i => decide (i ∈ xs) || decide (i ∈ ys)
theorem both_next (xs ys : List Nat) (k : Nat) : both xs ys (k + 1) = both xs ys k ++ if k ∈ xs ∨ k ∈ ys then [k] else [] := by
  unfold both
  rw [List.range_succ, List.filter_append]
  congr 1
  by_cases h : k ∈ xs ∨ k ∈ ys
  · rw [if_pos h, List.filter_cons, if_pos (by simpa using h)]; rfl
  · rw [if_neg h, List.filter_cons, if_neg (by simpa using h)]; rfl
theorem both_length (xs ys : List Nat) (k : Nat) : (both xs ys k).length ≤ k := by
  have := List.length_filter_le (fun i => decide (i ∈ xs) || decide (i ∈ ys)) (List.range k)
  rw [List.length_range] at this
  exact this
theorem both_lt {xs ys : List Nat} {k i : Nat} (h : i ∈ both xs ys k) : i < k := List.mem_range.1 (List.mem_filter.1 h).1
theorem both_nodup (xs ys : List Nat) (k : Nat) : (both xs ys k).Nodup := List.nodup_range.filter _
theorem both_perm {xs ys : List Nat} {n : Nat} (hn : (xs ++ ys).Nodup) (hl : ∀ i ∈ xs ++ ys, i < n) : (both xs ys n).Perm (xs ++ ys) := by
  refine (List.perm_ext_iff_of_nodup (both_nodup _ _ _) hn).2 fun i => ?_
  unfold both
  rw [List.mem_filter, List.mem_range, List.mem_append]
  constructor
  · rintro ⟨_, h⟩
    simpa using h
  · intro h
    exact ⟨hl i (List.mem_append.2 h), by simpa using h⟩
theorem both_low {xs ys : List Nat} {n a b : Nat} (hp : (both xs ys n).Perm (xs ++ ys)) (ha : a ∈ xs) (hb : b ∈ ys) (ha2 : ∀ i ∈ xs, a ≤ i) (hb2 : ∀ i ∈ ys, b ≤ i) : (both xs ys n).getD 0 0 = min a b ∧ (∀ i ∈ both xs ys n, min a b ≤ i) ∧ 1 ≤ (both xs ys n).length := by
  have h1 : ∀ i ∈ both xs ys n, min a b ≤ i := fun i hi => by
    rcases List.mem_append.1 (hp.mem_iff.1 hi) with h | h
    · have := ha2 i h; omega
    · have := hb2 i h; omega
  have h2 : min a b ∈ both xs ys n := by
    rw [hp.mem_iff, List.mem_append]
    rcases Nat.le_total a b with e | e
    · rw [Nat.min_eq_left e]; exact .inl ha
    · rw [Nat.min_eq_right e]; exact .inr hb
  have hs : (both xs ys n).Pairwise (· < ·) := List.pairwise_lt_range.filter _
  refine ⟨?_, h1, List.length_pos_of_mem h2⟩
  cases e : both xs ys n with
  | nil => rw [e] at h2; simp at h2
  | cons x r =>
    rw [e] at h1 h2 hs
    have h3 := h1 x List.mem_cons_self
    have h4 : x ≤ min a b := by
      rcases List.mem_cons.1 h2 with h | h
      · omega
      · have := (List.pairwise_cons.1 hs).1 _ h; omega
    show x = _
    omega
theorem bump_bound {out s : List Nat} (hn : s.Nodup) (hs : ∀ i ∈ s, i < out.length) (h : ∀ i, out.getD i 0 ≤ 256) (i : Nat) : (bump out s).getD i 0 ≤ 257 := by
  rw [bump_get hn hs]
  have := h i
  split <;> omega
end Hf
theorem Bun.kept {p : Nat → Prop} {W W' : World} {base : Nat} {v : Value} {l : List Hf.G} (h : Bun W base v l) (hk : Kept p W W') (hv : ∀ b, v.ownBlock = some b → p b) (hs : ∀ g ∈ l, ∀ b, g.sv.ownBlock = some b → p b) : Bun W' base v l := by
  have key : ∀ {e : TypeId} {k : Nat} {u : Value} {n : Nat} {xs : List Value}, W.ownsRow base e k u n xs → (∀ b, u.ownBlock = some b → p b) → W'.ownsRow base e k u n xs := by
    intro e k u n xs hr hp
    obtain ⟨h1, h2⟩ := hr
    refine ⟨h1, ?_⟩
    rcases h2 with h2 | ⟨g, cap, cur, hv, hg, hh, r⟩
    · exact .inl h2
    · refine .inr ⟨g, cap, cur, hv, hg, ?_, r⟩
      rw [hk.block g (Array.getElem?_eq_some_iff.1 hh).1 (hp g (by rw [hv]; rfl)), hh]
  exact ⟨key h.row hv, fun g hg => key (h.signs g hg) (hs g hg), h.low⟩
theorem own_lt {base : Nat} {e : TypeId} {k : Nat} {v : Value} {n : Nat} {xs : List Value} {w : World} (h : w.ownsRow base e k v n xs) {g : Nat} (hg : v.ownBlock = some g) : base ≤ g ∧ g < w.heap.size := h.lt g hg
theorem own_kept2 {p : Nat → Prop} {base : Nat} {e : TypeId} {k : Nat} {v : Value} {n : Nat} {xs : List Value} {w w' : World} (h : w.ownsRow base e k v n xs) (hk : Kept p w w') (hp : ∀ g, v.ownBlock = some g → p g) : w'.ownsRow base e k v n xs := by
  obtain ⟨h1, h2⟩ := h
  refine ⟨h1, ?_⟩
  rcases h2 with h2 | ⟨g, cap, cur, hv, hg, hh, r⟩
  · exact .inl h2
  · refine .inr ⟨g, cap, cur, hv, hg, ?_, r⟩
    rw [hk.block g (Array.getElem?_eq_some_iff.1 hh).1 (hp g (by rw [hv]; rfl)), hh]
theorem BBox.store {W : World} {G : Nat} {x : Hf.G} (h : BBox W G x) (y : Hf.G) : BBox ((W.setCell ⟨G, 0, none⟩ (.int .i64 y.wt)).setCell ⟨G, 1, none⟩ y.sv) G y := by
  refine ⟨?_, ?_, by simpa using h.f0, by simpa using h.f1, by simpa using h.lt⟩
  · rw [World.cell?_setCell_other _ _ _ _ (by simp)]
    exact World.cell?_setCell_same _ _ _ h.c0
  · refine World.cell?_setCell_same _ _ _ (u := x.sv) ?_
    rw [World.cell?_setCell_other _ _ _ _ (by simp)]
    exact h.c1
theorem BBox.store1 {W : World} {G : Nat} {x : Hf.G} (h : BBox W G x) (u : Value) (s : List Nat) (lo : Nat) : BBox (W.setCell ⟨G, 1, none⟩ u) G ⟨x.wt, lo, s, u⟩ :=
  ⟨by rw [World.cell?_setCell_other _ _ _ _ (by simp)]; exact h.c0, World.cell?_setCell_same _ _ _ h.c1, by simpa using h.f0, by simpa using h.f1, by simpa using h.lt⟩
theorem Kept.setNew' {p : Nat → Prop} {A B : World} (h : Kept p A B) {a : Addr} (ha : A.heap.size ≤ a.block) (v : Value) : Kept p A (B.setCell a v) :=
  ⟨h.os, h.tape, h.output, by simpa using h.size, fun k hk hp => (Below.heap_setCell _ _ _ _ (by omega)).trans (h.block k hk hp)⟩
theorem Kept.grownNew {p : Nat → Prop} {A B C : World} {row : Option Nat} (h : Kept p A B) (hg : B.grownBy C row) (hr : ∀ k, row = some k → A.heap.size ≤ k) : Kept p A C :=
  ⟨hg.os.trans h.os, hg.tape.trans h.tape, hg.output.trans h.output, Nat.le_trans h.size hg.size, fun k hk hp => (hg.block k (Nat.lt_of_lt_of_le hk h.size) (fun e => by have := hr k e.symm; omega)).trans (h.block k hk hp)⟩
def sliceLen : Value → Nat
  | .slice _ n _ => n
  | _ => 0
theorem Bun.len {W : World} {base : Nat} {v : Value} {l : List Hf.G} (h : Bun W base v l) : sliceLen v = l.length := by
  rcases h.row.2 with ⟨rfl, h0⟩ | ⟨g, cap, cur, rfl, _⟩
  · rw [h0]; rfl
  · rfl
theorem Bun.form {W : World} {base : Nat} {v : Value} {l : List Hf.G} (h : Bun W base v l) : ∃ a c, v = .slice a l.length c := by
  rcases h.row.2 with ⟨rfl, h0⟩ | ⟨g, cap, cur, rfl, _⟩
  · rw [h0]; exact ⟨_, _, rfl⟩
  · exact ⟨_, _, rfl⟩
/-- bunches, the numbers that they have made so far, and the row that these lie in -/
structure Rst (F : List Nat) (w wr : World) (Ob : Nat) (v : Value) (l : List Hf.G) (out : List Nat) : Prop where
  bun : Bun wr w.heap.size v l
  inv : Hf.Inv F (l.map Hf.ab) out
  row : wr.ownsRow w.heap.size 3 1 (.slice (some ⟨Ob, 0, none⟩) F.length F.length) F.length ((Hf.up out).map Iv)
  apart : ∀ g ∈ l, g.sv.ownBlock ≠ some Ob
  least : ∀ g ∈ l, ∀ i ∈ g.sg, g.low ≤ i
  bel : Below w.heap.size w wr
/-- one more bunch of one sign -/
theorem Bun.more {wr w1 : World} {v v1 : Value} {bl : List Hf.G} {g : Hf.G} {o1 o2 : Obj} {base : Nat} (h : Bun wr base v bl) (hown : w1.ownsRow base 60 2 v1 (bl.length + 1) (rowB bl ++ bC g)) (hs : w1.ownsRow base 3 1 g.sv g.sg.length ((Hf.up g.sg).map Iv)) (hl : 1 ≤ g.sg.length ∧ g.sg.getD 0 0 = g.low)
    (hg : ((wr.alloc o1).alloc o2).grownBy w1 v.ownBlock) : Bun w1 base v1 (bl ++ [g]) := by
  refine ⟨by rw [rowB_more, List.length_append]; exact hown, fun y hy => ?_, fun y hy => ?_⟩
  · rcases List.mem_append.1 hy with hy | hy
    · have hr := h.signs y hy
      have hr2 := (hr.alloc o1).alloc o2
      refine own_kept2 hr2 (p := fun k => v.ownBlock ≠ some k) ⟨hg.os, hg.tape, hg.output, hg.size, fun k hk hp => hg.block k hk fun e => hp e.symm⟩ fun b hb e => ?_
      have t1 := hr.2
      have t2 := h.row.2
      rcases t1 with ⟨e1, _⟩ | ⟨b1, c1, u1, e1, _, q1, _⟩
      · rw [e1] at hb; simp [Value.ownBlock] at hb
      · rcases t2 with ⟨e2, _⟩ | ⟨b2, c2, u2, e2, _, q2, _⟩
        · rw [e2] at e; simp [Value.ownBlock] at e
        · rw [e1] at hb; rw [e2] at e
          simp [Value.ownBlock] at hb e
          subst hb
          subst e
          rw [q1] at q2
          simp at q2
    · rw [List.mem_singleton.1 hy]; exact hs
  · rcases List.mem_append.1 hy with hy | hy
    · exact h.low y hy
    · rw [List.mem_singleton.1 hy]; exact hl
end Go.Proofs.Ytoohekdaihhflaa
