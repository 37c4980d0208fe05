/-
  Bytes as they lie in memory; what Dot and At of package field, and At of package lumref, answer.
-/
import Derived.Test.YtoeohnknpbdgdaaDoorFdRef
import Derived.Test.YtoeohnknpbdgdaaDoorQuietSince
import Derived.Deep.Cut
namespace Go.Proofs.YtoeohnknpbdgdaaDoor
open Go.RowKit

/-- bytes that lie in memory -/
structure Bys (w : World) (v : Value) (l : List Nat) : Prop where
  at_ : ((∃ a c, v = .slice a 0 c) ∧ l = []) ∨ ∃ bk o cap, v = .slice (some ⟨bk, o, none⟩) l.length cap ∧ bk < w.heap.size ∧
    ∀ j (hj : j < l.length), w.cell? ⟨bk, o + j, none⟩ = some (.int .u8 (l[j] : Nat))
  room : ∃ a n c, v = .slice a n c ∧ n ≤ c ∧ c ≤ 9223372036854775807
theorem Bys.slice {w : World} {v : Value} {l : List Nat} (h : Bys w v l) : ∃ a c, v = .slice a l.length c := by
  rcases h.at_ with ⟨⟨a, c, rfl⟩, rfl⟩ | ⟨bk, o, cap, rfl, _⟩
  · exact ⟨_, _, rfl⟩
  · exact ⟨_, _, rfl⟩
theorem Bys.below {w w' : World} {v : Value} {l : List Nat} (h : Bys w v l) {B : Nat} (hB : w.heap.size ≤ B) (hb : Below B w w') : Bys w' v l := by
  rcases h.at_ with h' | ⟨bk, o, cap, h1, h3, h4⟩
  · exact ⟨.inl h', h.room⟩
  · exact ⟨.inr ⟨bk, o, cap, h1, Nat.lt_of_lt_of_le h3 hb.size, fun j hj => (hb.cell (p := ⟨bk, o + j, none⟩) (Nat.lt_of_lt_of_le h3 hB)).trans (h4 j hj)⟩, h.room⟩
/-- one of them -/
theorem Bys.get {w : World} {a : Option Addr} {n c : Nat} {l : List Nat} (h : Bys w (.slice a n c) l) (j : Nat) (hj : j < l.length) : ∃ bk o, a = some ⟨bk, o, none⟩ ∧ bk < w.heap.size ∧
    w.cell? ⟨bk, o + j, none⟩ = some (.int .u8 (l.getD j 0 : Nat)) := by
  rcases h.at_ with ⟨_, rfl⟩ | ⟨bk, o, cap, h1, h3, h4⟩
  · simp at hj
  · simp at h1
    obtain ⟨rfl, rfl, rfl⟩ := h1
    refine ⟨bk, o, rfl, h3, (h4 j hj).trans ?_⟩
    rw [List.getD_eq_getElem?_getD, List.getElem?_eq_getElem hj]
    rfl
/-- the first n of them -/
theorem Bys.take {w : World} {a : Option Addr} {k c : Nat} {l : List Nat} (h : Bys w (.slice a k c) l) (n : Nat) (hn : n ≤ l.length) : Bys w (.slice a n c) (l.take n) := by
  have hr : n ≤ c ∧ c ≤ 9223372036854775807 := by
    obtain ⟨a', n', c', e, h1, h2⟩ := h.room
    obtain ⟨a2, c2, e2⟩ := h.slice
    rw [Value.slice.injEq] at e e2
    obtain ⟨rfl, rfl, rfl⟩ := e
    have := e2.2.1
    omega
  refine ⟨?_, _, _, _, rfl, hr⟩
  rcases h.at_ with ⟨_, rfl⟩ | ⟨bk, o, cap, h1, h3, h4⟩
  · obtain rfl : n = 0 := by simpa using hn
    exact .inl ⟨⟨_, _, rfl⟩, rfl⟩
  · rw [Value.slice.injEq] at h1
    obtain ⟨rfl, rfl, rfl⟩ := h1
    refine .inr ⟨bk, o, c, by rw [List.length_take, Nat.min_eq_left hn], h3, fun j hj => ?_⟩
    rw [List.length_take] at hj
    rw [h4 j (by omega), List.getElem_take]
def Bv (n : Nat) : Value := .int .u8 n
theorem Bys.of_own {base : Nat} {w : World} {v : Value} {l : List Nat} (h : w.ownsRow base 5 1 v l.length (l.map Bv)) : Bys w v l := by
  rcases h.2 with ⟨rfl, h0⟩ | ⟨g, cap, cur, rfl, hg, hh, hr1, hr2, _⟩
  · exact ⟨.inl ⟨⟨_, _, rfl⟩, List.length_eq_zero_iff.1 h0⟩, _, _, _, rfl, Nat.le_refl _, by omega⟩
  · refine ⟨.inr ⟨g, 0, cap, rfl, (Array.getElem?_eq_some_iff.1 hh).1, fun j hj => ?_⟩, _, _, _, rfl, hr1, by unfold maxLen at hr2; omega⟩
    have e := h.cellAt j (by omega)
    rw [Nat.zero_add, e, List.getElem?_map, List.getElem?_eq_getElem hj]
    rfl

namespace Fd
/-- P24: the sum of the first k products -/
def dt (l m : List Nat) : Nat → Nat
  | 0 => 0
  | k + 1 => dt l m k ^^^ M (l.getD k 0) (m.getD k 0)
theorem bs_get {l : List Nat} (h : Bs l) (k : Nat) : l.getD k 0 < 256 := by
  rw [List.getD_eq_getElem?_getD]
  by_cases hk : k < l.length
  · rw [List.getElem?_eq_getElem hk]; exact h _ (List.getElem_mem hk)
  · rw [List.getElem?_eq_none (by omega)]; show (0 : Nat) < _; omega
theorem dt_lt {l m : List Nat} (h : Bs l) : ∀ k, dt l m k < 256
  | 0 => by show (0 : Nat) < _; omega
  | k + 1 => Nat.xor_lt_two_pow (n := 8) (dt_lt h k) (M_lt (bs_get h k) _)
theorem drop_get {l : List Nat} {k : Nat} (hk : k < l.length) : l.drop k = l.getD k 0 :: l.drop (k + 1) := by
  rw [List.drop_eq_getElem_cons hk, List.getD_eq_getElem?_getD, List.getElem?_eq_getElem hk]
  rfl
theorem bs_drop {l : List Nat} (h : Bs l) (k : Nat) : Bs (l.drop k) := fun c hc => h c (List.mem_of_mem_drop hc)
theorem hv_step {l : List Nat} (h : Bs l) {k x : Nat} (hk : k < l.length) (hx : x < 256) : hv (l.drop k) x = M (hv (l.drop (k + 1)) x) x ^^^ l.getD k 0 := by
  rw [drop_get hk, hv, M_comm hx (hv_lt (bs_drop h _) hx), Nat.xor_comm]
end Fd
end Go.Proofs.YtoeohnknpbdgdaaDoor
