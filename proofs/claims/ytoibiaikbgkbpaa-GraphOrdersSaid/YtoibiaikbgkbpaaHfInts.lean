/-
  Numbers as they lie in memory; what allSigns and Kraft of package huff answer.
-/
import Derived.Test.YtoibiaikbgkbpaaBase
import Derived.Test.YtoibiaikbgkbpaaHuffMath5
import Derived.Test.YtoibiaikbgkbpaaQuietSince
import Derived.Deep.Cut
namespace Go.Proofs.Ytoibiaikbgkbpaa
open Go.RowKit

/-- numbers that lie in memory -/
structure Ints (w : World) (v : Value) (l : List Int) : Prop where
  at_ : ((∃ a c, v = .slice a 0 c) ∧ l = []) ∨ ∃ bk o cap, v = .slice (some ⟨bk, o, none⟩) l.length cap ∧ bk < w.heap.size ∧
    ∀ j (hj : j < l.length), w.cell? ⟨bk, o + j, none⟩ = some (.int .i64 l[j])
theorem Ints.slice {w : World} {v : Value} {l : List Int} (h : Ints w v l) : ∃ a c, v = .slice a l.length c := by
  rcases h.at_ with ⟨⟨a, c, rfl⟩, rfl⟩ | ⟨bk, o, cap, rfl, _⟩
  · exact ⟨_, _, rfl⟩
  · exact ⟨_, _, rfl⟩
theorem Ints.below {w w' : World} {v : Value} {l : List Int} (h : Ints w v l) {B : Nat} (hB : w.heap.size ≤ B) (hb : Below B w w') : Ints w' v l := by
  rcases h.at_ with h | ⟨bk, o, cap, h1, h3, h4⟩
  · exact ⟨.inl h⟩
  · exact ⟨.inr ⟨bk, o, cap, h1, Nat.lt_of_lt_of_le h3 hb.size, fun j hj => (hb.cell (p := ⟨bk, o + j, none⟩) (Nat.lt_of_lt_of_le h3 hB)).trans (h4 j hj)⟩⟩
/-- one of them -/
theorem Ints.get {w : World} {a : Option Addr} {n c : Nat} {l : List Int} (h : Ints w (.slice a n c) l) (j : Nat) (hj : j < l.length) : ∃ bk o, a = some ⟨bk, o, none⟩ ∧ n = l.length ∧ bk < w.heap.size ∧
    w.cell? ⟨bk, o + j, none⟩ = some (.int .i64 l[j]) := by
  rcases h.at_ with ⟨_, rfl⟩ | ⟨bk, o, cap, h1, h3, h4⟩
  · simp at hj
  · simp at h1
    obtain ⟨rfl, rfl, rfl⟩ := h1
    exact ⟨bk, o, rfl, rfl, h3, h4 j hj⟩
theorem Ints.getN {w : World} {a : Option Addr} {n c : Nat} {L : List Nat} (h : Ints w (.slice a n c) (Hf.up L)) (j : Nat) (hj : j < L.length) : ∃ bk o, a = some ⟨bk, o, none⟩ ∧ bk < w.heap.size ∧
    w.cell? ⟨bk, o + j, none⟩ = some (.int .i64 (L.getD j 0 : Nat)) := by
  obtain ⟨bk, o, h1, _, h2, h3⟩ := h.get j (by rw [Hf.up_length]; exact hj)
  exact ⟨bk, o, h1, h2, h3.trans (by rw [Hf.up_get])⟩
def Iv (n : Int) : Value := .int .i64 n
theorem info_int : (Try.prog.info? 3).map (fun i => (i.zero, i.size, i.bytes)) = some (some (.int .i64 0), 1, 8) := by kernel_rfl
theorem Ints.of_own {base : Nat} {w : World} {v : Value} {l : List Int} (h : w.ownsRow base 3 1 v l.length (l.map Iv)) : Ints w v l := by
  rcases h.2 with ⟨rfl, h0⟩ | ⟨g, cap, cur, rfl, hg, hh, _⟩
  · exact ⟨.inl ⟨⟨_, _, rfl⟩, List.length_eq_zero_iff.1 h0⟩⟩
  · refine ⟨.inr ⟨g, 0, cap, rfl, (Array.getElem?_eq_some_iff.1 hh).1, fun j hj => ?_⟩⟩
    have e := h.cellAt j (by omega)
    rw [Nat.zero_add, e, List.getElem?_map, List.getElem?_eq_getElem hj]
    rfl

namespace Hf
theorem sgn_empty (most : Int) : sgn most [] = false := decide_eq_false (by simp)
theorem sgn_long {most : Int} {l : List Int} (h : 256 < l.length) : sgn most l = false := decide_eq_false (by omega)
theorem sgn_one {most : Int} {l : List Int} (j : Nat) (hj : j < l.length) (h : l[j] < 0 ∨ most < l[j]) : sgn most l = false :=
  decide_eq_false fun ⟨_, _, h3⟩ => by have := h3 _ (List.getElem_mem hj); omega
theorem sgn_all {most : Int} {l : List Int} (h1 : 1 ≤ l.length) (h2 : l.length ≤ 256) (h : ∀ j (hj : j < l.length), 0 ≤ l[j] ∧ l[j] ≤ most) : sgn most l = true :=
  decide_eq_true ⟨h1, h2, fun n hn => by obtain ⟨j, hj, rfl⟩ := List.getElem_of_mem hn; exact h j hj⟩
end Hf
end Go.Proofs.Ytoibiaikbgkbpaa
