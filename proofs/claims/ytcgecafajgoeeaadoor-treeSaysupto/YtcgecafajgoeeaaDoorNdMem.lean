/-
  Nodes as they lie in memory: rows of things that have rows themselves, in blocks that stay.
-/
import Derived.Test.YtcgecafajgoeeaaDoorRxMem
import Derived.Test.YtcgecafajgoeeaaDoorRyMem
import Derived.Test.YtcgecafajgoeeaaDoorTrMath
namespace Go.Proofs.YtcgecafajgoeeaaDoor
open Go.RowKit

/-- things of k cells each, whose cells are as R says, in a block of whatever type -/
structure Rw {α : Type} (k : Nat) (R : World → α → List Value → Prop) (w : World) (v : Value) (l : List α) : Prop where
  at_ : ((∃ a c, v = .slice a 0 c) ∧ l = []) ∨ ∃ bk o cap, v = .slice (some ⟨bk, o, none⟩) l.length cap ∧ l.length ≤ cap ∧ bk < w.heap.size ∧
    ∀ j t, l[j]? = some t → ∃ c : List Value, c.length = k ∧ R w t c ∧ ∀ r u, c[r]? = some u → w.cell? ⟨bk, o + j * k + r, none⟩ = some u
section
variable {α : Type} {k : Nat} {R : World → α → List Value → Prop} {w W : World} {v : Value} {l : List α}
theorem Rw.nil (a : Option Addr) (c : Nat) : Rw k R w (.slice a 0 c) ([] : List α) := ⟨.inl ⟨⟨_, _, rfl⟩, rfl⟩⟩
theorem Rw.slice (h : Rw k R w v l) : ∃ a c, v = .slice a l.length c := by
  rcases h.at_ with ⟨⟨a, c, rfl⟩, rfl⟩ | ⟨bk, o, cap, rfl, _⟩
  · exact ⟨_, _, rfl⟩
  · exact ⟨_, _, rfl⟩
theorem Rw.below (h : Rw k R w v l) (hb : Below w.heap.size w W) (hR : ∀ t c, R w t c → R W t c) : Rw k R W v l := by
  rcases h.at_ with h | ⟨bk, o, cap, h1, h2, h3, h4⟩
  · exact ⟨.inl h⟩
  · refine ⟨.inr ⟨bk, o, cap, h1, h2, Nat.lt_of_lt_of_le h3 hb.size, fun j t hj => ?_⟩⟩
    obtain ⟨c, c1, c2, c3⟩ := h4 j t hj
    refine ⟨c, c1, hR t c c2, fun r u hu => ?_⟩
    exact (Below.cell hb (p := ⟨bk, o + j * k + r, none⟩) h3).trans (c3 r u hu)
theorem Rw.get {a : Option Addr} {n c : Nat} (h : Rw k R w (.slice a n c) l) (j : Nat) (t : α) (hj : l[j]? = some t) : ∃ bk o cs, a = some ⟨bk, o, none⟩ ∧ bk < w.heap.size ∧ cs.length = k ∧ R w t cs ∧
    ∀ r u, cs[r]? = some u → w.cell? ⟨bk, o + j * k + r, none⟩ = some u := by
  rcases h.at_ with ⟨_, rfl⟩ | ⟨bk, o, cap, h1, h2, h3, h4⟩
  · simp at hj
  · rw [Value.slice.injEq] at h1
    obtain ⟨rfl, rfl, rfl⟩ := h1
    obtain ⟨cs, c1, c2, c3⟩ := h4 j t hj
    exact ⟨bk, o, cs, rfl, h3, c1, c2, c3⟩
theorem Rw.of_ry {T : TypeId} (h : Ry k T R w v l) : Rw k R w v l := by
  rcases h.at_ with h | ⟨bk, o, cap, h1, h2, ⟨cur, fr, h3⟩, h4⟩
  · exact ⟨.inl h⟩
  · exact ⟨.inr ⟨bk, o, cap, h1, h2, (Array.getElem?_eq_some_iff.1 h3).1, h4⟩⟩
end

/-- a node -/
structure Nod where
  name : ByteArray
  kind : Int
  mode : Int
  time : Int
  size : Int
  parts : List (List UInt8)
  link : ByteArray
def Nod.nd (n : Nod) : Td.Nd := ⟨n.name.data.toList, n.kind, n.mode, n.time, n.size, n.parts, n.link.data.toList⟩
def nds (l : List Nod) : List Td.Nd := l.map Nod.nd
theorem nds_length (l : List Nod) : (nds l).length = l.length := List.length_map _
/-- its cells, v its parts -/
abbrev ndC (n : Nod) (v : Value) : List Value := [.string n.name, .int .i64 n.kind, .int .i64 n.mode, .int .i64 n.time, .int .i64 n.size, v, .string n.link]
/-- what is sure of a node that comes in, or is made -/
structure Nod.Ok (n : Nod) : Prop where
  kind : (Lit.int .i64 n.kind).wf = true
  mode : (Lit.int .i64 n.mode).wf = true
  time : (Lit.int .i64 n.time).wf = true
  size : (Lit.int .i64 n.size).wf = true
  name : n.name.size ≤ 9223372036854775807
  link : n.link.size ≤ 9223372036854775807
  ids : ∀ p ∈ n.parts, p.length = 8
theorem Nod.Ok.wn {n : Nod} (h : n.Ok) : Td.Wn n.nd := by
  have ht := h.time
  simp [Lit.wf, IntKind.min, IntKind.max, IntKind.signed, IntKind.bits] at ht
  exact ⟨ht.1, ht.2, h.ids⟩
def NdR (w : World) (n : Nod) (c : List Value) : Prop := ∃ v, c = ndC n v ∧ Rx 8 idC w v n.parts ∧ n.Ok
theorem NdR.below {w W : World} {n : Nod} {c : List Value} (h : NdR w n c) (hb : Below w.heap.size w W) : NdR W n c := by
  obtain ⟨v, e, q, r⟩ := h
  exact ⟨v, e, q.below hb, r⟩
/-- nodes that lie in memory -/
abbrev Nds (w : World) (v : Value) (l : List Nod) : Prop := Rw 7 NdR w v l
theorem Nds.below {w W : World} {v : Value} {l : List Nod} (h : Nds w v l) (hb : Below w.heap.size w W) : Nds W v l := Rw.below h hb fun _ _ q => q.below hb
end Go.Proofs.YtcgecafajgoeeaaDoor
