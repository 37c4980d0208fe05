/-
  Shards as they lie in memory.
-/
import Derived.Test.YtoeohnknpbdgdaaDoorShTxt
namespace Go.Proofs.YtoeohnknpbdgdaaDoor
open Go.RowKit

/-- a shard: is it there, and its bytes -/
structure Shd where
  has : Bool
  bytes : ByteArray
def Shd.none : Shd := ⟨false, ByteArray.empty⟩
def shdC (t : Shd) : List Value := [.bool t.has, .string t.bytes]
def shdV (t : Shd) : Value := .agg #[.bool t.has, .string t.bytes]
structure Sx (w : World) (v : Value) (l : List Shd) : Prop where
  at_ : ((∃ a c, v = .slice a 0 c) ∧ l = []) ∨ ∃ bk o cap, v = .slice (some ⟨bk, o, none⟩) l.length cap ∧ bk < w.heap.size ∧
    ∀ j, j < l.length → w.cell? ⟨bk, o + j * 2, none⟩ = some (.bool (l.getD j Shd.none).has) ∧ w.cell? ⟨bk, o + j * 2 + 1, none⟩ = some (.string (l.getD j Shd.none).bytes)
  room : ∃ a n c, v = .slice a n c ∧ n ≤ c ∧ c ≤ 9223372036854775807
theorem Sx.slice {w : World} {v : Value} {l : List Shd} (h : Sx w v l) : ∃ a c, v = .slice a l.length c ∧ l.length ≤ c ∧ c ≤ 9223372036854775807 := by
  obtain ⟨a', n', c', e, h1, h2⟩ := h.room
  rcases h.at_ with ⟨⟨a, c, rfl⟩, rfl⟩ | ⟨bk, o, cap, rfl, _⟩
  · rw [Value.slice.injEq] at e
    obtain ⟨rfl, rfl, rfl⟩ := e
    exact ⟨_, _, rfl, h1, h2⟩
  · rw [Value.slice.injEq] at e
    obtain ⟨rfl, rfl, rfl⟩ := e
    exact ⟨_, _, rfl, h1, h2⟩
theorem Sx.kept {p : Nat → Prop} {w w' : World} {v : Value} {l : List Shd} (h : Sx w v l) (hk : Kept p w w') (hp : ∀ a n c, v = .slice (some a) n c → p a.block) : Sx w' v l := by
  rcases h.at_ with h' | ⟨bk, o, cap, h1, h3, h4⟩
  · exact ⟨.inl h', h.room⟩
  · refine ⟨.inr ⟨bk, o, cap, h1, Nat.lt_of_lt_of_le h3 hk.size, fun j hj => ?_⟩, h.room⟩
    have e := hk.block bk h3 (hp _ _ _ h1)
    have e2 : ∀ q, w'.cell? ⟨bk, q, none⟩ = w.cell? ⟨bk, q, none⟩ := fun q => by simp only [World.cell?, e]
    rw [e2, e2]
    exact h4 j hj
theorem Sx.below {w w' : World} {v : Value} {l : List Shd} (h : Sx w v l) (hb : Below w.heap.size w w') : Sx w' v l := h.kept (Kept.of_below (p := fun _ => True) hb) fun _ _ _ _ => trivial
theorem Sx.get {w : World} {a : Option Addr} {n c : Nat} {l : List Shd} (h : Sx w (.slice a n c) l) (j : Nat) (hj : j < l.length) : ∃ bk o, a = some ⟨bk, o, Option.none⟩ ∧ bk < w.heap.size ∧
    w.cell? ⟨bk, o + j * 2, Option.none⟩ = some (.bool (l.getD j Shd.none).has) ∧ w.cell? ⟨bk, o + j * 2 + 1, Option.none⟩ = some (.string (l.getD j Shd.none).bytes) := by
  rcases h.at_ with ⟨_, rfl⟩ | ⟨bk, o, cap, h1, h3, h4⟩
  · simp at hj
  · rw [Value.slice.injEq] at h1
    obtain ⟨rfl, rfl, rfl⟩ := h1
    exact ⟨bk, o, rfl, h3, h4 j hj⟩
/-- the first n of them -/
theorem Sx.take {w : World} {a : Option Addr} {k c : Nat} {l : List Shd} (h : Sx w (.slice a k c) l) (n : Nat) (hn : n ≤ l.length) : Sx w (.slice a n c) (l.take n) := by
  obtain ⟨a', c', e, h1, h2⟩ := h.slice
  rw [Value.slice.injEq] at e
  obtain ⟨rfl, rfl, rfl⟩ := e
  refine ⟨?_, _, _, _, rfl, by omega, h2⟩
  rcases h.at_ with ⟨_, rfl⟩ | ⟨bk, o, cap, h1, h3, h4⟩
  · obtain rfl : n = 0 := by simpa using hn
    exact .inl ⟨⟨_, _, rfl⟩, rfl⟩
  · rw [Value.slice.injEq] at h1
    obtain ⟨rfl, _, rfl⟩ := h1
    refine .inr ⟨bk, o, c, by rw [List.length_take, Nat.min_eq_left hn], h3, fun j hj => ?_⟩
    rw [List.length_take] at hj
    have := h4 j (by omega)
    rw [show (l.take n).getD j Shd.none = l.getD j Shd.none from by rw [List.getD_eq_getElem?_getD, List.getD_eq_getElem?_getD, List.getElem?_take, if_pos (by omega)]]
    exact this
/-- all but the first n of them -/
theorem Sx.drop {w : World} {bk o k c : Nat} {l : List Shd} (h : Sx w (.slice (some ⟨bk, o, Option.none⟩) k c) l) (n : Nat) (hn : n < l.length) : Sx w (.slice (some ⟨bk, o + n * 2, Option.none⟩) (l.length - n) (c - n)) (l.drop n) := by
  obtain ⟨a', c', e, h1, h2⟩ := h.slice
  rw [Value.slice.injEq] at e
  obtain ⟨_, rfl, rfl⟩ := e
  refine ⟨?_, _, _, _, rfl, by omega, by omega⟩
  rcases h.at_ with ⟨_, rfl⟩ | ⟨bk', o', cap, h1, h3, h4⟩
  · simp at hn
  · rw [Value.slice.injEq] at h1
    obtain ⟨e, _, rfl⟩ := h1
    simp at e
    obtain ⟨rfl, rfl⟩ := e
    refine .inr ⟨bk, _, _, by rw [List.length_drop], h3, fun j hj => ?_⟩
    rw [List.length_drop] at hj
    have := h4 (n + j) (by omega)
    rw [show (l.drop n).getD j Shd.none = l.getD (n + j) Shd.none from by rw [List.getD_eq_getElem?_getD, List.getD_eq_getElem?_getD, List.getElem?_drop]]
    rw [show o + n * 2 + j * 2 = o + (n + j) * 2 from by omega]
    exact this
end Go.Proofs.YtoeohnknpbdgdaaDoor
