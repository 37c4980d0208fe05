/-
  Rows of things of k cells each as they lie in memory; an ID.
-/
import Derived.Test.YtcgecafajgoeeaaDoorBase
import Derived.Test.YtcgecafajgoeeaaDoorKept
import Derived.Lib.Strings
namespace Go.Proofs.YtcgecafajgoeeaaDoor
open Go.RowKit

/-- things of k cells each, one behind another -/
structure Rx {α : Type} (k : Nat) (C : α → List Value) (w : World) (v : Value) (l : List α) : Prop where
  at_ : ((∃ a c, v = .slice a 0 c) ∧ l = []) ∨ ∃ bk o cap, v = .slice (some ⟨bk, o, none⟩) l.length cap ∧ bk < w.heap.size ∧
    ∀ j t, l[j]? = some t → ∀ r u, (C t)[r]? = some u → w.cell? ⟨bk, o + j * k + r, none⟩ = some u
  room : ∃ a n c, v = .slice a n c ∧ n ≤ c ∧ c ≤ 9223372036854775807
section
variable {α : Type} {k : Nat} {C : α → List Value}
theorem Rx.slice {w : World} {v : Value} {l : List α} (h : Rx k C w v l) : ∃ a c, v = .slice a l.length c ∧ l.length ≤ c ∧ c ≤ 9223372036854775807 := by
  obtain ⟨a', n', c', e, h1, h2⟩ := h.room
  rcases h.at_ with ⟨⟨a, c, rfl⟩, rfl⟩ | ⟨bk, o, cap, rfl, _⟩
  · rw [Value.slice.injEq] at e
    obtain ⟨rfl, rfl, rfl⟩ := e
    exact ⟨_, _, rfl, h1, h2⟩
  · rw [Value.slice.injEq] at e
    obtain ⟨rfl, rfl, rfl⟩ := e
    exact ⟨_, _, rfl, h1, h2⟩
theorem Rx.kept {p : Nat → Prop} {w w' : World} {v : Value} {l : List α} (h : Rx k C w v l) (hk : Kept p w w') (hp : ∀ a n c, v = .slice (some a) n c → p a.block) : Rx k C w' v l := by
  rcases h.at_ with h' | ⟨bk, o, cap, h1, h3, h4⟩
  · exact ⟨.inl h', h.room⟩
  · refine ⟨.inr ⟨bk, o, cap, h1, Nat.lt_of_lt_of_le h3 hk.size, fun j t hj r u hu => ?_⟩, h.room⟩
    have e := hk.block bk h3 (hp _ _ _ h1)
    have e2 : ∀ q, w'.cell? ⟨bk, q, none⟩ = w.cell? ⟨bk, q, none⟩ := fun q => by simp only [World.cell?, e]
    rw [e2]
    exact h4 j t hj r u hu
theorem Rx.below {w w' : World} {v : Value} {l : List α} (h : Rx k C w v l) (hb : Below w.heap.size w w') : Rx k C w' v l := h.kept (Kept.of_below (p := fun _ => True) hb) fun _ _ _ _ => trivial
theorem Rx.get {w : World} {a : Option Addr} {n c : Nat} {l : List α} (h : Rx k C w (.slice a n c) l) (j : Nat) (t : α) (hj : l[j]? = some t) : ∃ bk o, a = some ⟨bk, o, none⟩ ∧ bk < w.heap.size ∧
    ∀ r u, (C t)[r]? = some u → w.cell? ⟨bk, o + j * k + r, none⟩ = some u := by
  rcases h.at_ with ⟨_, rfl⟩ | ⟨bk, o, cap, h1, h3, h4⟩
  · simp at hj
  · rw [Value.slice.injEq] at h1
    obtain ⟨rfl, rfl, rfl⟩ := h1
    exact ⟨bk, o, rfl, h3, h4 j t hj⟩
/-- the cells of all -/
def rowR (C : α → List Value) (l : List α) : List Value := l.flatMap C
theorem rowR_length (hC : ∀ t, (C t).length = k) (l : List α) : (rowR C l).length = l.length * k := by
  induction l with
  | nil => simp [rowR]
  | cons t l ih => show (C t ++ rowR C l).length = _; rw [List.length_append, ih, List.length_cons, hC, Nat.add_mul, Nat.one_mul, Nat.add_comm]
theorem rowR_more (l : List α) (t : α) : rowR C (l ++ [t]) = rowR C l ++ C t := by simp [rowR]
theorem rowR_get (hC : ∀ t, (C t).length = k) (l : List α) (i r : Nat) (t : α) (hi : l[i]? = some t) (hr : r < k) : (rowR C l)[i * k + r]? = (C t)[r]? := by
  induction l generalizing i with
  | nil => simp at hi
  | cons q l ih =>
    show (C q ++ rowR C l)[i * k + r]? = _
    cases i with
    | zero =>
      obtain rfl : q = t := by simpa using hi
      rw [Nat.zero_mul, Nat.zero_add, List.getElem?_append_left (by rw [hC]; exact hr)]
    | succ i =>
      rw [List.getElem?_append_right (by rw [hC, Nat.add_mul, Nat.one_mul]; omega), hC, show (i + 1) * k + r - k = i * k + r from by rw [Nat.add_mul, Nat.one_mul]; omega, ih i (by simpa using hi)]
theorem rowR_one (hC : ∀ t, ∀ u ∈ C t, u.oneCell' = true) (l : List α) : ∀ u ∈ rowR C l, u.oneCell' = true := by
  intro u hu
  obtain ⟨t, _, ht⟩ := List.mem_flatMap.1 hu
  exact hC t u ht
theorem Rx.of_own {base : Nat} {T : TypeId} {w : World} {v : Value} {l : List α} (hC : ∀ t, (C t).length = k) (h : w.ownsRow base T k v l.length (rowR C l)) : Rx k C w v l := by
  rcases h.2 with ⟨rfl, h0⟩ | ⟨g, cap, cur, rfl, hg, hh, h1, h2, _⟩
  · exact ⟨.inl ⟨⟨_, _, rfl⟩, List.length_eq_zero_iff.1 h0⟩, _, _, _, rfl, Nat.le_refl _, by omega⟩
  · refine ⟨.inr ⟨g, 0, cap, rfl, (Array.getElem?_eq_some_iff.1 hh).1, fun j t hj r u hu => ?_⟩, _, _, _, rfl, h1, by unfold maxLen at h2; omega⟩
    have hr : r < k := by
      have := (List.getElem?_eq_some_iff.1 hu).1
      rwa [hC] at this
    have := World.ownsRow.cells h (g := g) rfl (j * k + r) u (by rw [rowR_get hC l j r t hj hr]; exact hu)
    rw [show (0 : Nat) + j * k + r = j * k + r from by omega]
    rwa [show ((⟨g, 0, none⟩ : Addr).add (j * k + r)) = ⟨g, j * k + r, none⟩ from by unfold Addr.add; split <;> simp_all] at this
/-- one more behind an owned row -/
theorem own_one_more {base : Nat} {T : TypeId} {w1 : World} {v1 : Value} {l : List α} {t : α} (h : w1.ownsRow base T k v1 (l.length + 1) (rowR C l ++ C t)) : w1.ownsRow base T k v1 (l ++ [t]).length (rowR C (l ++ [t])) := by
  rw [rowR_more, List.length_append, List.length_singleton]
  exact h
end

def idV (x : List UInt8) : Value := .agg (x.map B).toArray
def idC (x : List UInt8) : List Value := x.map B
end Go.Proofs.YtcgecafajgoeeaaDoor
