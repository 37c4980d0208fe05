/-
  Heaps of signs as they lie in memory; what comesFirst, size and swap of package huff do.
-/
import Derived.Test.YtgdkfaphbbdnbaaHpMath
import Derived.Test.YtgdkfaphbbdnbaaHfCodes
import Derived.Test.YtgdkfaphbbdnbaaKept
import Derived.BigRegion
namespace Go.Proofs.Ytgdkfaphbbdnbaa
open Go.RowKit

def gC (g : Hf.G) : List Value := [.int .i64 g.wt, .int .i64 g.low, g.sv]
def gV (g : Hf.G) : Value := .agg #[.int .i64 g.wt, .int .i64 g.low, g.sv]
def rowG (l : List Hf.G) : List Value := l.flatMap gC
theorem rowG_length (l : List Hf.G) : (rowG l).length = 3 * l.length := by
  induction l with
  | nil => rfl
  | cons t l ih => show (gC t ++ rowG l).length = _; rw [List.length_append, ih, List.length_cons]; simp [gC]; omega
theorem rowG_more (l : List Hf.G) (t : Hf.G) : rowG (l ++ [t]) = rowG l ++ gC t := by simp [rowG]
theorem rowG_get (l : List Hf.G) (i r : Nat) (hi : i < l.length) (hr : r < 3) : (rowG l)[3 * i + r]? = (gC (Hf.nth l i))[r]? := by
  rw [Hf.nth_get hi]
  induction l generalizing i with
  | nil => simp at hi
  | cons t l ih =>
    show (gC t ++ rowG l)[3 * i + r]? = _
    cases i with
    | zero => rw [List.getElem?_append_left (by simp [gC]; omega)]; simp
    | succ i =>
      rw [List.getElem?_append_right (by simp [gC]; omega), show 3 * (i + 1) + r - (gC t).length = 3 * i + r from by simp [gC]; omega, ih i (by simpa using hi)]
      rfl
theorem rowG_set (l : List Hf.G) (i : Nat) (g : Hf.G) : rowG (l.set i g) = (((rowG l).set (3 * i) (.int .i64 g.wt)).set (3 * i + 1) (.int .i64 g.low)).set (3 * i + 2) g.sv := by
  induction l generalizing i with
  | nil => rfl
  | cons t l ih =>
    cases i with
    | zero => rfl
    | succ i =>
      show gC t ++ rowG (l.set i g) = (((gC t ++ rowG l).set (3 * (i + 1)) _).set (3 * (i + 1) + 1) _).set (3 * (i + 1) + 2) _
      have hl : (gC t).length = 3 := rfl
      rw [ih, List.set_append_right _ _ (by omega), List.set_append_right _ _ (by omega), List.set_append_right _ _ (by omega), hl,
        show 3 * (i + 1) - 3 = 3 * i by omega, show 3 * (i + 1) + 1 - 3 = 3 * i + 1 by omega, show 3 * (i + 1) + 2 - 3 = 3 * i + 2 by omega]
/-- the function that a heap holds -/
def fnV : Value := .func (.func 82) #[] #[]
/-- a heap whose items are l: its block Hb, the list v, and each one's signs -/
structure Heap (W : World) (base Hb : Nat) (v : Value) (l : List Hf.G) : Prop where
  box : W.heap[Hb]? = some (.cells #[fnV, v] 129 (0, 0))
  old : base ≤ Hb
  row : W.ownsRow base 91 3 v l.length (rowG l)
  signs : ∀ g ∈ l, W.ownsRow base 3 1 g.sv g.sg.length ((Hf.up g.sg).map Iv)
/-- all but the heap's own two blocks stay -/
def Stays (Hb : Nat) (v : Value) : World → World → Prop := Kept fun k => k ≠ Hb ∧ v.ownBlock ≠ some k

theorem own_kept {p : Nat → Prop} {base : Nat} {e : TypeId} {k : Nat} {v : Value} {n : Nat} {xs : List Value} {w w' : World} (h : w.ownsRow base e k v n xs) (hk : Kept p w w') (hp : ∀ g, v.ownBlock = some g → p g) : w'.ownsRow base e k v n xs := by
  obtain ⟨h1, h2⟩ := h
  refine ⟨h1, ?_⟩
  rcases h2 with h2 | ⟨g, cap, cur, hv, hg, hh, r⟩
  · exact .inl h2
  · refine .inr ⟨g, cap, cur, hv, hg, ?_, r⟩
    rw [hk.block g (Array.getElem?_eq_some_iff.1 hh).1 (hp g (by rw [hv]; rfl)), hh]
theorem own_block {base : Nat} {e : TypeId} {k : Nat} {v : Value} {n : Nat} {xs : List Value} {w : World} (h : w.ownsRow base e k v n xs) {g : Nat} (hg : v.ownBlock = some g) : ∃ cur, w.heap[g]? = some (.cells cur e (0, 0)) ∧ base ≤ g := by
  rcases h.2 with ⟨rfl, _⟩ | ⟨g', cap, cur, rfl, hb, hh, _⟩
  · simp [Value.ownBlock] at hg
  · simp [Value.ownBlock] at hg
    subst hg
    exact ⟨cur, hh, hb⟩
theorem Heap.apart {W : World} {base Hb : Nat} {v : Value} {l : List Hf.G} (h : Heap W base Hb v l) : v.ownBlock ≠ some Hb := by
  intro e
  obtain ⟨cur, hc, _⟩ := own_block h.row e
  rw [h.box] at hc
  simp at hc
/-- a row of numbers is none of a heap's two blocks -/
theorem Heap.sign_apart {W : World} {base Hb : Nat} {v : Value} {l : List Hf.G} (h : Heap W base Hb v l) {b n : Nat} {u : Value} {xs : List Value} (hu : W.ownsRow b 3 1 u n xs) : ∀ g, u.ownBlock = some g → g ≠ Hb ∧ v.ownBlock ≠ some g := by
  intro g hg
  obtain ⟨cur, hc, _⟩ := own_block hu hg
  refine ⟨fun e => ?_, fun e => ?_⟩
  · subst e
    rw [h.box] at hc
    simp at hc
  · obtain ⟨cur', hc', _⟩ := own_block h.row e
    rw [hc] at hc'
    simp at hc'
theorem Heap.keep {W W' : World} {base Hb : Nat} {v : Value} {l : List Hf.G} (h : Heap W base Hb v l) (hb : Below W.heap.size W W') : Heap W' base Hb v l :=
  ⟨(hb.block _ (Array.getElem?_eq_some_iff.1 h.box).1).trans h.box, h.old, row_below h.row hb, fun g hg => row_below (h.signs g hg) hb⟩

set_option maxHeartbeats 1000000 in
theorem first_any (a b : Hf.G) (w : World) :
    Calls Try.prog 82 #[gV a, gV b] w fun e w' => e = .returned (.bool (Hf.ltG a b)) ∧ Below w.heap.size w w' := by
  unfold gV
  have HB : Hid (∀ x y, Below w.heap.size w ((w.alloc x).alloc y)) := fun x y => ((Below.refl _ w).alloc (Nat.le_refl _) _).alloc (by simp) _
  by_cases e : a.wt = b.wt
  · have hne : ((a.wt : Int) != (b.wt : Int)) = false := by simp [e]
    have HR : Hid (Hf.ltG a b = decide (a.low < b.low)) := by unfold Hf.ltG; exact decide_eq_decide.2 (by omega)
    clear e
    generalize a.wt = x at *
    generalize b.wt = y at *
    go_enter Try.func82, Try.ntmps82
    go_wp2_with fail
    go_ret
    exact ⟨by rw [HR.out]; simp, HB.out _ _⟩
  · have hne : ((a.wt : Int) != (b.wt : Int)) = true := by simp; omega
    have HR : Hid (Hf.ltG a b = decide (a.wt < b.wt)) := by unfold Hf.ltG; exact decide_eq_decide.2 (by omega)
    clear e
    generalize a.wt = x at *
    generalize b.wt = y at *
    go_enter Try.func82, Try.ntmps82
    go_wp2_with fail
    go_ret
    exact ⟨by rw [HR.out]; simp, HB.out _ _⟩

theorem Heap.cells {W : World} {base Hb : Nat} {v : Value} {l : List Hf.G} (h : Heap W base Hb v l) : W.cell? ⟨Hb, 0, none⟩ = some fnV ∧ W.cell? ⟨Hb, 1, none⟩ = some v ∧ W.frozen? ⟨Hb, 1, none⟩ = false := by
  refine ⟨?_, ?_, ?_⟩
  · rw [cell_of_row _ Hb 0 _ _ _ h.box]; rfl
  · rw [cell_of_row _ Hb 1 _ _ _ h.box]; rfl
  · simp [World.frozen?, h.box]
theorem Heap.slice {W : World} {base Hb : Nat} {v : Value} {l : List Hf.G} (h : Heap W base Hb v l) : ∃ a c, v = .slice a l.length c := by
  rcases h.row.2 with ⟨rfl, h0⟩ | ⟨g, cap, cur, rfl, _⟩
  · exact ⟨_, _, by rw [h0]⟩
  · exact ⟨_, _, rfl⟩
theorem Heap.slice1 {W : World} {base Hb : Nat} {v : Value} {l : List Hf.G} (h : Heap W base Hb v l) (hl : 0 < l.length) : ∃ g c, v = .slice (some ⟨g, 0, none⟩) l.length c := by
  rcases h.row.2 with ⟨rfl, h0⟩ | ⟨g, cap, cur, rfl, _⟩
  · omega
  · exact ⟨_, _, rfl⟩
/-- the cells of one of them -/
theorem Heap.at_ {W : World} {base Hb g n c : Nat} {l : List Hf.G} (h : Heap W base Hb (.slice (some ⟨g, 0, none⟩) n c) l) (hn : n = l.length) (i : Nat) (hi : i < l.length) :
    W.cell? ⟨g, i * 3, none⟩ = some (.int .i64 (Hf.nth l i).wt) ∧ W.cell? ⟨g, i * 3 + 1, none⟩ = some (.int .i64 (Hf.nth l i).low) ∧ W.cell? ⟨g, i * 3 + 2, none⟩ = some (Hf.nth l i).sv ∧
    W.frozen? ⟨g, i * 3, none⟩ = false ∧ W.frozen? ⟨g, i * 3 + 1, none⟩ = false ∧ W.frozen? ⟨g, i * 3 + 2, none⟩ = false ∧ g < W.heap.size := by
  subst hn
  have e := fun r (hr : r < 3) => (h.row.cellAt (3 * i + r) (by omega)).trans (rowG_get l i r hi hr)
  have e0 := e 0 (by omega)
  have e1 := e 1 (by omega)
  have e2 := e 2 (by omega)
  rw [show 3 * i = i * 3 from by omega] at e0 e1 e2
  obtain ⟨cur, hc, _⟩ := own_block h.row rfl
  exact ⟨e0, e1, e2, h.row.frozenAt _, h.row.frozenAt _, h.row.frozenAt _, (Array.getElem?_eq_some_iff.1 hc).1⟩

set_option maxHeartbeats 1000000 in
theorem size_any (base Hb : Nat) (v : Value) (l : List Hf.G) (w : World) (h : Heap w base Hb v l) :
    Calls Try.prog 55 #[.pointer (some ⟨Hb, 0, none⟩)] w fun e w' => e = .returned (.int .i64 l.length) ∧ w' = w := by
  obtain ⟨a, c, rfl⟩ := h.slice
  obtain ⟨c0, c1, f1⟩ := h.cells
  go_enter Try.func55, Try.ntmps55
  go_wp2_with fail
  go_ret
  exact ⟨rfl, rfl⟩
end Go.Proofs.Ytgdkfaphbbdnbaa
