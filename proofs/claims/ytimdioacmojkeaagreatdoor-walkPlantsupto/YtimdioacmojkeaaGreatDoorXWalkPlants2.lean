/-
  Nodes as they lie in memory: rows of things that have rows themselves, in blocks that stay.
  P47, P48: what stays while a world is planted or reaped; the planter as it lies in memory.
  The library's contracts at this program: strings_LastIndex_one (laid by the guide's own tools, written out in plain words).
  P47: what parent, lastName and tell of package walk answer.
  lumref: what char answers: the character at the front of a text.
  P36: what mayStand and Check of package names answer.
  lumref: what Chars and Name answer.
  lumref: what nodeErr answers.
  lumref: what Nodes answers.
  The library's contracts at this program: bits_Len64 (laid by the guide's own tools, written out in plain words).
  What countDigits and appendDigits of package num answer (contracts over the model's calls), and small facts.
  What number, turned of the document's answer (package lumref) answer.
  What number of the document's answer (package lumref) answers: see RNum.
  The library's contracts at this program: strings_HasPrefix (laid by the guide's own tools, written out in plain words).
  What Put and Get of the document's answer (package lumref) answer.
  lumref: what numberAt answers.
  What PutText of package num answers.
  What GetText of package num answers.
  The library's contracts at this program: strings_ReplaceAll (laid by the guide's own tools, written out in plain words).
  What PutText and GetText of the document's answer (package lumref) answer.
  What turned of the document's answer (package lumref) answers: each byte b as 255 - b.
  What GetInt of the document's answer (package lumref) answers.
  What GetInt of the document's answer (package lumref) answers, at every string.
  lumref: what nodeRead answers.
  lumref: what TreeRead answers.
  P47: what file of walk's planter answers.
  A region that draws its order, whose first m operations only read (their callees leave what was there), and whose other ones wait for all of these.
  A region that draws its order, whose first m operations may read, call and make memory, each leaving all that was there (the world only grows), and whose other ones wait for all of these:
  one walk, in the order of the text. What an operation makes is known by a law that stays true while the world grows; all others yield one value, whatever the world.
  P47: what node of walk's planter answers.
  What alike of package pack answers, and BlobID of the document's answer (package lumref).
-/
import Derived.Test.YtimdioacmojkeaaGreatDoorXWalkPlants1
import Derived.Test.YtimdioacmojkeaaGreatDoorXWalkPlants0
import Derived.Shelf.Strings.LastIndex
import Derived.Test.YtimdioacmojkeaaGreatDoorProg
import Derived.Laws.AppendOwn
import Derived.Deep.RegionWith
import Derived.OwnWalk
import Derived.Deep.AppendLies
import Derived.Deep.RegionLaw
import Derived.Deep.Cut
import Derived.Below
import Derived.WalkKit
import Derived.WalkSpells
import Derived.WalkLawsBesides
import Derived.Lib.Strings
import Derived.Laws.IdiomStrings
import Derived.Lib.IndexBytes
import Derived.Lib.ValidU
import Derived.Lib.ValidLaws
import Derived.Laws.RangeAny
import Derived.Shelf.Unicode.DecodeSlow
import Derived.Deep.LoopGhost
import Derived.BigQuiet
import Derived.Deep.CutBlock
import Derived.Deep.DeepCutAuto
import Derived.Shelf.Strconv.Itoa0
import Derived.Lib.BitFns
import Derived.Deep.QuietTactic
import Derived.WalkSmall
import Derived.Shelf.Strings.Prefix
import Derived.Shelf.Strings.Replace
import Derived.Lib.ReplaceLaws
import Derived.Laws.Cover3
import Derived.Lib.SliceRun
import Derived.RegionTactic

namespace Go.Proofs.YtimdioacmojkeaaGreatDoor
open Go.RowKit

/-- things of k cells each, whose cells are as R says, in a block of whatever type -/
structure Rw {α : Type} (k : Nat) (R : World → α → List Value → Prop) (w : World) (v : Value) (l : List α) : Prop where
  at_ : ((∃ a c, v = .slice a 0 c) ∧ l = []) ∨ ∃ bk o cap, v = .slice (some ⟨bk, o, none⟩) l.length cap ∧ l.length ≤ cap ∧ bk < w.heap.size ∧
    ∀ j t, l[j]? = some t → ∃ c : List Value, c.length = k ∧ R w t c ∧ ∀ r u, c[r]? = some u → w.cell? ⟨bk, o + j * k + r, none⟩ = some u

section
variable {α : Type} {k : Nat} {R : World → α → List Value → Prop} {w W : World} {v : Value} {l : List α}
theorem Rw.nil (a : Option Addr) (c : Nat) : Rw k R w (.slice a 0 c) ([] : List α) := ⟨.inl ⟨⟨_, _, rfl⟩, rfl⟩⟩

theorem Rw.slice (h : Rw k R w v l) : ∃ a c, v = .slice a l.length c := by
  rcases h.at_ with ⟨⟨a, c, rfl⟩, rfl⟩ | ⟨bk, o, cap, rfl, _⟩
  · exact ⟨_, _, rfl⟩
  · exact ⟨_, _, rfl⟩

theorem Rw.below (h : Rw k R w v l) (hb : Below w.heap.size w W) (hR : ∀ t c, R w t c → R W t c) : Rw k R W v l := by
  rcases h.at_ with h | ⟨bk, o, cap, h1, h2, h3, h4⟩
  · exact ⟨.inl h⟩
  · refine ⟨.inr ⟨bk, o, cap, h1, h2, Nat.lt_of_lt_of_le h3 hb.size, fun j t hj => ?_⟩⟩
    obtain ⟨c, c1, c2, c3⟩ := h4 j t hj
    refine ⟨c, c1, hR t c c2, fun r u hu => ?_⟩
    exact (Below.cell hb (p := ⟨bk, o + j * k + r, none⟩) h3).trans (c3 r u hu)

theorem Rw.get {a : Option Addr} {n c : Nat} (h : Rw k R w (.slice a n c) l) (j : Nat) (t : α) (hj : l[j]? = some t) : ∃ bk o cs, a = some ⟨bk, o, none⟩ ∧ bk < w.heap.size ∧ cs.length = k ∧ R w t cs ∧
    ∀ r u, cs[r]? = some u → w.cell? ⟨bk, o + j * k + r, none⟩ = some u := by
  rcases h.at_ with ⟨_, rfl⟩ | ⟨bk, o, cap, h1, h2, h3, h4⟩
  · simp at hj
  · rw [Value.slice.injEq] at h1
    obtain ⟨rfl, rfl, rfl⟩ := h1
    obtain ⟨cs, c1, c2, c3⟩ := h4 j t hj
    exact ⟨bk, o, cs, rfl, h3, c1, c2, c3⟩

theorem Rw.of_ry {T : TypeId} (h : Ry k T R w v l) : Rw k R w v l := by
  rcases h.at_ with h | ⟨bk, o, cap, h1, h2, ⟨cur, fr, h3⟩, h4⟩
  · exact ⟨.inl h⟩
  · exact ⟨.inr ⟨bk, o, cap, h1, h2, (Array.getElem?_eq_some_iff.1 h3).1, h4⟩⟩

end

/-- a node -/
structure Nod where
  name : ByteArray
  kind : Int
  mode : Int
  time : Int
  size : Int
  parts : List (List UInt8)
  link : ByteArray

def Nod.nd (n : Nod) : Td.Nd := ⟨n.name.data.toList, n.kind, n.mode, n.time, n.size, n.parts, n.link.data.toList⟩

def nds (l : List Nod) : List Td.Nd := l.map Nod.nd

theorem nds_length (l : List Nod) : (nds l).length = l.length := List.length_map _

/-- its cells, v its parts -/
abbrev ndC (n : Nod) (v : Value) : List Value := [.string n.name, .int .i64 n.kind, .int .i64 n.mode, .int .i64 n.time, .int .i64 n.size, v, .string n.link]

/-- what is sure of a node that comes in, or is made -/
structure Nod.Ok (n : Nod) : Prop where
  kind : (Lit.int .i64 n.kind).wf = true
  mode : (Lit.int .i64 n.mode).wf = true
  time : (Lit.int .i64 n.time).wf = true
  size : (Lit.int .i64 n.size).wf = true
  name : n.name.size ≤ 9223372036854775807
  link : n.link.size ≤ 9223372036854775807
  ids : ∀ p ∈ n.parts, p.length = 8

theorem Nod.Ok.wn {n : Nod} (h : n.Ok) : Td.Wn n.nd := by
  have ht := h.time
  simp [Lit.wf, IntKind.min, IntKind.max, IntKind.signed, IntKind.bits] at ht
  exact ⟨ht.1, ht.2, h.ids⟩

def NdR (w : World) (n : Nod) (c : List Value) : Prop := ∃ v, c = ndC n v ∧ Rx 8 idC w v n.parts ∧ n.Ok

theorem NdR.below {w W : World} {n : Nod} {c : List Value} (h : NdR w n c) (hb : Below w.heap.size w W) : NdR W n c := by
  obtain ⟨v, e, q, r⟩ := h
  exact ⟨v, e, q.below hb, r⟩

/-- nodes that lie in memory -/
abbrev Nds (w : World) (v : Value) (l : List Nod) : Prop := Rw 7 NdR w v l

theorem Nds.below {w W : World} {v : Value} {l : List Nod} (h : Nds w v l) (hb : Below w.heap.size w W) : Nds W v l := Rw.below h hb fun _ _ q => q.below hb

end Go.Proofs.YtimdioacmojkeaaGreatDoor

namespace Go.Proofs.YtimdioacmojkeaaGreatDoor
open Go.RowKit

/-- every block that was there, and of whose object p holds, is as it was -/
structure Ko (p : Obj → Prop) (A B : World) : Prop where
  os : B.os = A.os
  tape : B.tape = A.tape
  output : B.output = A.output
  size : A.heap.size ≤ B.heap.size
  obj : ∀ (k : Nat) (o : Obj), A.heap[k]? = some o → p o → B.heap[k]? = some o

section
variable {p : Obj → Prop} {A B C : World}
theorem Ko.refl (p : Obj → Prop) (A : World) : Ko p A A := ⟨rfl, rfl, rfl, Nat.le_refl _, fun _ _ h _ => h⟩

theorem Ko.trans (h : Ko p A B) (k : Ko p B C) : Ko p A C :=
  ⟨k.os.trans h.os, k.tape.trans h.tape, k.output.trans h.output, Nat.le_trans h.size k.size, fun i o ho hp => k.obj i o (h.obj i o ho hp) hp⟩

theorem Ko.of_below (h : Below A.heap.size A B) : Ko p A B := ⟨h.os, h.tape, h.output, h.size, fun k _ ho _ => (h.block k (Array.getElem?_eq_some_iff.1 ho).1).trans ho⟩

theorem Ko.of_kept {q : Nat → Prop} (h : Kept q A B) (hq : ∀ k o, A.heap[k]? = some o → p o → q k) : Ko p A B :=
  ⟨h.os, h.tape, h.output, h.size, fun k o ho hp => h.obj (hq k o ho hp) ho⟩

theorem Ko.set {g : Nat} {o : Obj} (h : B.heap[g]? = some o) (hn : ¬ p o) (j : Nat) (x : Value) : Ko p B (B.setCell ⟨g, j, none⟩ x) :=
  ⟨rfl, rfl, rfl, by simp [World.setCell], fun k o' ho hp => (Below.heap_setCell _ _ _ _ (fun e => by
    have e : k = g := e
    subst e
    rw [h] at ho
    cases ho
    exact hn hp)).trans ho⟩

theorem Ko.mono {q : Obj → Prop} (h : Ko p A B) (hq : ∀ o, q o → p o) : Ko q A B := ⟨h.os, h.tape, h.output, h.size, fun k o ho hp => h.obj k o ho (hq o hp)⟩

end

/-- all but rows of blobs, the planter, maps -/
def pP : Obj → Prop
  | .cells _ t _ => t ≠ 37 ∧ t ≠ 59
  | _ => False

/-- all but rows of items and the reaper -/
def pR : Obj → Prop
  | .cells _ t _ => t ≠ 46 ∧ t ≠ 79
  | _ => True

/-- a row of one's own of cells of which p holds stays -/
theorem own_ko {p : Obj → Prop} {base : Nat} {e : TypeId} {k : Nat} {v : Value} {n : Nat} {xs : List Value} {w w' : World} (h : w.ownsRow base e k v n xs) (hk : Ko p w w') (hp : ∀ cur fr, p (.cells cur e fr)) : w'.ownsRow base e k v n xs := by
  obtain ⟨h1, h2⟩ := h
  refine ⟨h1, ?_⟩
  rcases h2 with h2 | ⟨g, cap, cur, hv, hg, hh, r⟩
  · exact .inl h2
  · exact .inr ⟨g, cap, cur, hv, hg, hk.obj g _ hh (hp _ _), r⟩

theorem Rx.keepb {α : Type} {k : Nat} {C : α → List Value} {base : Nat} {w w' : World} {v : Value} {l : List α} (h : Rx k C w v l) (hk : Below base w w') (hb : ∀ a n c, v = .slice (some a) n c → l ≠ [] → a.block < base) : Rx k C w' v l := by
  by_cases hl : l = []
  · subst hl
    rcases h.at_ with ⟨h1, _⟩ | ⟨bk, o, cap, e, _⟩
    · exact ⟨.inl ⟨h1, rfl⟩, h.room⟩
    · exact ⟨.inl ⟨⟨_, _, e⟩, rfl⟩, h.room⟩
  · exact h.kept (Kept.of_below_at (p := fun k => k < base) hk fun _ h => h) (fun a n c e => hb a n c e hl)

/-- the planter in block b: its way, the items left, its map m, what was told -/
structure Plt (base b m : Nat) (fx mn mx bt : Int) (w : World) (left : List Im) (bs : List Blb) (n : Nat) : Prop where
  ex : ∃ lv bv, w.heap[b]? = some (.cells #[.int .i64 fx, .int .i64 mn, .int .i64 mx, .int .i64 bt, lv, .map (some m), bv] 59 (0, 0)) ∧ Ims w lv left ∧
    (∀ a n c, lv = .slice (some a) n c → left ≠ [] → a.block < base) ∧ w.ownsRow base 37 2 bv bs.length (rowR blC bs)
  map : Mp w m n (mpB bs)
  at_ : base ≤ b
  atm : base ≤ m

/-- what stays beside it -/
structure Pf (base : Nat) (A B : World) : Prop where
  low : Below base A B
  ko : Ko pP A B

theorem Pf.refl {base : Nat} (A : World) : Pf base A A := ⟨Below.refl _ _, Ko.refl _ _⟩

theorem Pf.trans {base : Nat} {A B C : World} (h : Pf base A B) (k : Pf base B C) : Pf base A C := ⟨h.low.trans k.low, h.ko.trans k.ko⟩

theorem Pf.of_below {base : Nat} {A B : World} (h : Below A.heap.size A B) (hb : base ≤ A.heap.size) : Pf base A B := ⟨h.mono hb, Ko.of_below h⟩

theorem Pf.size {base : Nat} {A B : World} (h : Pf base A B) : A.heap.size ≤ B.heap.size := h.ko.size

theorem Pf.cells {base : Nat} {A B : World} (h : Pf base A B) {k : Nat} {cur : Array Value} {t : TypeId} {fr : Nat × Nat} (ho : A.heap[k]? = some (.cells cur t fr)) (h1 : t ≠ 37) (h2 : t ≠ 59) : B.heap[k]? = some (.cells cur t fr) :=
  h.ko.obj k _ ho ⟨h1, h2⟩

theorem Plt.below {base b m : Nat} {fx mn mx bt : Int} {w w' : World} {left : List Im} {bs : List Blb} {n : Nat} (h : Plt base b m fx mn mx bt w left bs n) (hb : Below w.heap.size w w') : Plt base b m fx mn mx bt w' left bs n := by
  obtain ⟨⟨lv, bv, h1, h2, h3, h4⟩, hm, ha, hc⟩ := h
  exact ⟨⟨lv, bv, (hb.block b (Array.getElem?_eq_some_iff.1 h1).1).trans h1, h2.below hb, h3, own_below h4 hb⟩, hm.below hb, ha, hc⟩

/-- seven cells in a block of their own -/
theorem sev_at {w : World} {b : Nat} {T : TypeId} {fr : Nat × Nat} {x0 x1 x2 x3 x4 x5 x6 : Value} (h : w.heap[b]? = some (.cells #[x0, x1, x2, x3, x4, x5, x6] T fr)) :
    w.cell? ⟨b, 0, none⟩ = some x0 ∧ w.cell? ⟨b, 1, none⟩ = some x1 ∧ w.cell? ⟨b, 2, none⟩ = some x2 ∧ w.cell? ⟨b, 3, none⟩ = some x3 ∧ w.cell? ⟨b, 4, none⟩ = some x4 ∧ w.cell? ⟨b, 5, none⟩ = some x5 ∧ w.cell? ⟨b, 6, none⟩ = some x6 ∧ b < w.heap.size := by
  refine ⟨?_, ?_, ?_, ?_, ?_, ?_, ?_, (Array.getElem?_eq_some_iff.1 h).1⟩ <;> simp [World.cell?, h]

theorem free_at {w : World} {b : Nat} {T : TypeId} {cur : Array Value} (h : w.heap[b]? = some (.cells cur T (0, 0))) (j : Nat) : w.frozen? ⟨b, j, none⟩ = false := by simp [World.frozen?, h]

end Go.Proofs.YtimdioacmojkeaaGreatDoor

namespace Go.Proofs
open Go.Shelf
def Tryz.lays148_ren : Go.Shelf.Ren := ⟨fun | 148 => 45 | 222 => 67 | 223 => 68 | 269 => 93 | n => n, fun | 9 => 9 | 3 => 3 | 4 => 4 | 5 => 5 | 146 => 137 | 51 => 136 | 46 => 111 | n => n, fun | n => n⟩
theorem Tryz.lays148 : Go.Proofs.Lays.n148 Tryz.prog Tryz.lays148_ren := {
  mixed := by kernel_rfl
  f148 := Tryz.func45.trans (congrArg some (by kernel_rfl))
  f222 := Tryz.func67.trans (congrArg some (by kernel_rfl))
  f223 := Tryz.func68.trans (congrArg some (by kernel_rfl))
  f269 := Tryz.func93.trans (congrArg some (by kernel_rfl))
  t3 := Tryz.underlying3
  a3 := Tryz.isAgg3
  z3 := Tryz.sizeOf3
  v3 := Tryz.zeroValue3
  t4 := Tryz.underlying4
  a4 := Tryz.isAgg4
  z4 := Tryz.sizeOf4
  v4 := Tryz.zeroValue4
  t5 := Tryz.underlying5
  a5 := Tryz.isAgg5
  z5 := Tryz.sizeOf5
  v5 := Tryz.zeroValue5
  t9 := Tryz.underlying9
  a9 := Tryz.isAgg9
  z9 := Tryz.sizeOf9
  v9 := Tryz.zeroValue9
  t46 := Tryz.underlying111
  a46 := Tryz.isAgg111
  z46 := Tryz.sizeOf111
  v46 := Tryz.zeroValue111
  t51 := Tryz.underlying136
  a51 := Tryz.isAgg136
  z51 := Tryz.sizeOf136
  v51 := Tryz.zeroValue136
  t146 := Tryz.underlying137
  a146 := Tryz.isAgg137
  z146 := Tryz.sizeOf137
  v146 := Tryz.zeroValue137 }
open Go.RowKit Go.Lib in
theorem Tryz.strings_LastIndex_one (s sub : ByteArray) (h1 : sub.size = 1) (hs : s.size < 4611686018427387904) (w : World) :
    Calls Tryz.prog 45 #[.string s, .string sub] w fun e w' => e = .returned (.int .i64 (Lib.lastIndexByte s ((sub[0]'(by omega)).toNat : Int))) ∧ w' = w := Any.strings_LastIndex_one Tryz.lays148 s sub h1 hs w
end Go.Proofs

namespace Go.Proofs.YtimdioacmojkeaaGreatDoor
open Go.RowKit
set_option maxRecDepth 4000

theorem last_at {s : ByteArray} {a b : List UInt8} (h : s.data.toList = a ++ 47 :: b) (hb : (47 : UInt8) ∉ b) : Lib.lastIndexByte s 47 = (a.length : Int) := by
  have := Wk.last_of a b hb
  rw [← h] at this
  exact this

theorem last_call (s : ByteArray) (a b : List UInt8) (w : World) (h : s.data.toList = a ++ 47 :: b) (hb : (47 : UInt8) ∉ b) (hs : s.size < 4611686018427387904) :
    Calls Tryz.prog 45 #[.string s, .string ⟨#[47]⟩] w fun e w' => e = .returned (.int .i64 (a.length : Nat)) ∧ w' = w := by
  refine (Tryz.strings_LastIndex_one s ⟨#[47]⟩ rfl hs w).mono ?_
  rintro e w' ⟨rfl, h'⟩
  have e1 : (((⟨#[47]⟩ : ByteArray)[0]'(by decide)).toNat : Int) = 47 := by decide
  rw [e1, last_at h hb]
  exact ⟨rfl, h'⟩

set_option maxHeartbeats 1000000 in
theorem parent_any (s : ByteArray) (a b : List UInt8) (w : World) (h : s.data.toList = a ++ 47 :: b) (hb : (47 : UInt8) ∉ b) (hs : s.size < 4611686018427387904) :
    Calls Tryz.prog 27 #[.string s] w fun e w' => e = .returned (.string ⟨a.toArray⟩) ∧ w' = w := by
  have hl := last_call s a b w h hb hs
  have hsz : s.size = a.length + 1 + b.length := by rw [Lib.size_eq, h]; simp; omega
  have he : Hid (s.extract 0 a.length = ⟨a.toArray⟩) := by
    show _ = _
    rw [ext_eq, h]; simp
  generalize hn : a.length = n at *
  go_enter Tryz.func27, Tryz.ntmps27
  go_wp2_with fail
  refine hl.mono ?_
  rintro e u ⟨rfl, hu⟩
  obtain rfl := hu.symm
  go_wp2_with fail
  go_ret
  exact ⟨congrArg (fun z => Ending.returned (.string z)) he.out, rfl⟩

set_option maxHeartbeats 1000000 in
theorem lastName_any (s : ByteArray) (a b : List UInt8) (w : World) (h : s.data.toList = a ++ 47 :: b) (hb : (47 : UInt8) ∉ b) (hs : s.size < 4611686018427387904) :
    Calls Tryz.prog 63 #[.string s] w fun e w' => e = .returned (.string ⟨b.toArray⟩) ∧ w' = w := by
  have hl := last_call s a b w h hb hs
  have hsz : s.size = a.length + 1 + b.length := by rw [Lib.size_eq, h]; simp; omega
  have he : Hid (s.extract (a.length + 1) (a.length + 1 + b.length) = ⟨b.toArray⟩) := by
    show _ = _
    rw [ext_eq, h]
    rw [show a ++ 47 :: b = (a ++ [47]) ++ b by simp, List.drop_left' (by simp)]
    rw [List.take_of_length_le (by omega)]
  generalize hn : a.length = n at *
  go_enter Tryz.func63, Tryz.ntmps63
  go_wp2_with fail
  refine hl.mono ?_
  rintro e u ⟨rfl, hu⟩
  obtain rfl := hu.symm
  go_wp2_with fail
  go_ret
  exact ⟨congrArg (fun z => Ending.returned (.string z)) he.out, rfl⟩

theorem info_blb : (Tryz.prog.info? 37).map (fun i => (i.zero, i.size, i.bytes)) = some (some (.agg #[.int .i64 0, .string ⟨#[]⟩]), 2, 24) := by kernel_rfl

/-- the planter, its map and its row of blobs having changed -/
theorem Plt.map_lt {base b m : Nat} {fx mn mx bt : Int} {w : World} {left : List Im} {bs : List Blb} {n : Nat} (h : Plt base b m fx mn mx bt w left bs n) : m < w.heap.size := h.map.lt

theorem Plt.ne {base b m : Nat} {fx mn mx bt : Int} {w : World} {left : List Im} {bs : List Blb} {n : Nat} (h : Plt base b m fx mn mx bt w left bs n) : b ≠ m := by
  rintro rfl
  obtain ⟨lv, bv, h1, _⟩ := h.ex
  obtain ⟨es, c, h2⟩ := h.map.isMap
  rw [h1] at h2
  cases h2

/-- eight zeros that were laid ahead of what changes a map alone -/
theorem I8.aft {m : Nat} {W2 w3 : World} (k3 : Kept (fun k => k ≠ m) (W2.alloc (.cells Z8 29)).drew w3) (hm : m < W2.heap.size) : I8 w3 W2.heap.size (List.replicate 8 0) := by
  have h0 := I8.new W2 29
  have h : I8 (W2.alloc (.cells Z8 29)).drew W2.heap.size (List.replicate 8 0) := h0.below (Below.refl _ _).drew h0.lt
  exact h.kept k3 (by show W2.heap.size ≠ m; omega)

theorem kept_set8 {m : Nat} {w W : World} {G : Nat} (h : Kept (fun k => k ≠ m) w W) (hG : w.heap.size ≤ G) (b0 b1 b2 b3 b4 b5 b6 b7 : UInt8) : Kept (fun k => k ≠ m) w (set8 W G b0 b1 b2 b3 b4 b5 b6 b7) := by
  have hb : Below G W (set8 W G b0 b1 b2 b3 b4 b5 b6 b7) := below_set8 (Below.refl _ _) (Nat.le_refl _) _ _ _ _ _ _ _ _
  exact ⟨hb.os.trans h.os, hb.tape.trans h.tape, hb.output.trans h.output, Nat.le_trans h.size hb.size, fun k hk hp => (hb.block k (by omega)).trans (h.block k hk hp)⟩

theorem kept_not8 (W : World) (G : Nat) (b0 b1 b2 b3 b4 b5 b6 b7 : UInt8) : Kept (fun k => k ≠ G) W (set8 W G b0 b1 b2 b3 b4 b5 b6 b7) :=
  (((((((((Kept.refl _ W).setCell (by simp) _).setCell (by simp) _).setCell (by simp) _).setCell (by simp) _).setCell (by simp) _).setCell (by simp) _).setCell (by simp) _).setCell (by simp) _)

theorem Mp.set8 {w : World} {m n G : Nat} {l : List (List UInt8 × Value)} (h : Mp w m n l) (hG : m < G) (b0 b1 b2 b3 b4 b5 b6 b7 : UInt8) : Mp (set8 w G b0 b1 b2 b3 b4 b5 b6 b7) m n l :=
  h.obj fun _ _ ho => ((below_set8 (Below.refl G w) (Nat.le_refl _) b0 b1 b2 b3 b4 b5 b6 b7).block m hG).trans ho

theorem two_at {W : World} {B : Nat} {x : Blb} (h0 : W.cell? ⟨B, 0, none⟩ = some (.int .i64 x.kind)) (h1 : W.cell? ⟨B, 1, none⟩ = some (.string x.bytes)) : ∀ j u, (blC x)[j]? = some u → W.cell? ((⟨B, 0, none⟩ : Addr).add j) = some u := by
  intro j u hj
  rw [Addr.add_mid, Nat.zero_add]
  match j, hj with
  | 0, hj => rw [h0]; exact hj
  | 1, hj => rw [h1]; exact hj

theorem set_six {W : World} {M : Nat} {x0 x1 x2 x3 x4 x5 x6 : Value} {T : TypeId} {fr : Nat × Nat} (h : W.heap[M]? = some (.cells #[x0, x1, x2, x3, x4, x5, x6] T fr)) (a : Value) :
    (W.setCell ⟨M, 6, none⟩ a).heap[M]? = some (.cells #[x0, x1, x2, x3, x4, x5, a] T fr) := by
  simp [World.setCell, Array.getElem?_modify, h]

/-- the planter when a blob has been put, and told if it was new -/
theorem Plt.more {base b m n' : Nat} {fx mn mx bt : Int} {w w' : World} {left : List Im} {bs' : List Blb} {lv bv : Value} (h2 : Ims w lv left) (h3 : ∀ a n c, lv = .slice (some a) n c → left ≠ [] → a.block < base)
    (hk : Below base w w') (h1 : w'.heap[b]? = some (.cells #[.int .i64 fx, .int .i64 mn, .int .i64 mx, .int .i64 bt, lv, .map (some m), bv] 59 (0, 0)))
    (h4 : w'.ownsRow base 37 2 bv bs'.length (rowR blC bs')) (hm : Mp w' m n' (mpB bs')) (ha : base ≤ b) (hc : base ≤ m) : Plt base b m fx mn mx bt w' left bs' n' :=
  ⟨⟨lv, bv, h1, h2.keepb hk h3, h3, h4⟩, hm, ha, hc⟩

set_option maxHeartbeats 2000000 in
theorem tell_any (base b m n : Nat) (fx mn mx bt : Int) (left : List Im) (bs : List Blb) (x : Blb) (w : World) (h : Plt base b m fx mn mx bt w left bs n) (hn : n < 1000000000) (hl : bs.length ≤ 1000000000) (hx : x.bytes.size ≤ 9223372036854775807) :
    Calls Tryz.prog 44 #[.pointer (some ⟨b, 0, none⟩), blV x] w fun e w' => e = .returned (.tuple #[idV (idI bs x), .int .i64 (errI bs x)]) ∧ (∃ n', n' ≤ n + 1 ∧ Plt base b m fx mn mx bt w' left (more bs x) n') ∧ Pf base w w' := by
  obtain ⟨i0, hi, hz0, hz1, hz2⟩ := info_parts info_blb
  obtain ⟨W2, hW2⟩ : ∃ W2, W2 = (w.alloc (.cells #[.int .i64 x.kind, .string x.bytes] 37)).alloc (.cells Z8 29) := ⟨_, rfl⟩
  have hB2 : Below w.heap.size w W2 := by rw [hW2]; exact ((Below.refl _ w).alloc (Nat.le_refl _) _).alloc (by simp) _
  have hS2 : W2.heap.size = w.heap.size + 2 := by rw [hW2]; simp
  have c0 : W2.cell? ⟨w.heap.size, 0, none⟩ = some (.int .i64 x.kind) := by rw [hW2]; simp
  have c1 : W2.cell? ⟨w.heap.size, 1, none⟩ = some (.string x.bytes) := by rw [hW2]; simp
  have hX2 : I8 W2 (w.heap.size + 1) (List.replicate 8 0) := by
    rw [hW2]
    have := I8.new (w.alloc (.cells #[.int .i64 x.kind, .string x.bytes] 37)) 29
    rwa [World.size_alloc] at this
  have hbm : b ≠ m := h.ne
  have hmlt : m < w.heap.size := h.map_lt
  obtain ⟨⟨lv, bv, p1, p2, p3, p4⟩, hmp0, ha, hm⟩ := h
  have hblt : b < w.heap.size := (Array.getElem?_eq_some_iff.1 p1).1
  have hbase : base ≤ w.heap.size := by omega
  have hmp := hmp0.below hB2
  obtain ⟨d0, d1, d2, d3, d4, d5, d6, dlt⟩ := sev_at ((hB2.block b hblt).trans p1)
  have HNm : Hid (∀ g, bv.ownBlock = some g → g ≠ m) := fun g hg e => by
    subst e
    obtain ⟨cur, hc, _⟩ := own_block p4 hg
    obtain ⟨es, ck, hk⟩ := hmp0.isMap
    rw [hc] at hk
    cases hk
  have HKo : Hid (∀ k o, w.heap[k]? = some o → pP o → k ≠ m ∧ k ≠ b ∧ bv.ownBlock ≠ some k) := fun k o ho hp => by
    refine ⟨fun e => ?_, fun e => ?_, fun e => ?_⟩
    · subst e
      obtain ⟨es, ck, hk⟩ := hmp0.isMap
      rw [hk] at ho
      cases ho
      exact hp
    · subst e
      rw [p1] at ho
      cases ho
      exact hp.2 rfl
    · obtain ⟨cur, hc, _⟩ := own_block p4 e
      rw [hc] at ho
      cases ho
      exact hp.1 rfl
  have HLo : Hid (∀ k, k < base → k ≠ m ∧ k ≠ b ∧ bv.ownBlock ≠ some k) := fun k hk => by
    refine ⟨by omega, by omega, fun e => ?_⟩
    obtain ⟨cur, hc, hg, _⟩ := own_block p4 e
    omega
  have hput := fun W (hW : Below W2.heap.size W2 W) => hput_any m n bs x W (hmp.below hW) hn hx
  obtain ⟨b0, b1, b2, b3, b4, b5, b6, b7, hL⟩ := eight _ (idI_length bs x)
  have hput' : ∀ W, Below W2.heap.size W2 W → Calls Tryz.prog 56 #[.map (some m), .agg #[.int .i64 x.kind, .string x.bytes]] W fun e w' => e = .returned (.tuple #[.agg #[.int .u8 (b0.toNat : Int), .int .u8 (b1.toNat : Int), .int .u8 (b2.toNat : Int), .int .u8 (b3.toNat : Int), .int .u8 (b4.toNat : Int), .int .u8 (b5.toNat : Int), .int .u8 (b6.toNat : Int), .int .u8 (b7.toNat : Int)], .bool (newI bs x), .int .i64 (errI bs x)]) ∧ (∃ n', n' ≤ n + 1 ∧ Mp w' m n' (mpB (more bs x))) ∧ Kept (fun k => k ≠ m) W w' := fun W hW => by
    have := hput W hW
    rw [hL] at this
    exact this
  dsimp only [Z8] at hW2
  unfold blV
  rw [hL]
  have HMo : Hid (newI bs x = false → more bs x = bs) := fun q => by
    unfold newI at q; unfold more; rw [if_neg (of_decide_eq_false q)]
  have HMt : Hid (newI bs x = true → more bs x = bs ++ [x]) := fun q => by
    unfold newI at q; unfold more; rw [if_pos (of_decide_eq_true q)]
  generalize newI bs x = NW at *
  generalize errI bs x = ER at *
  generalize more bs x = MB at *
  have HP4 : Hid (w.ownsRow base 37 2 bv bs.length (rowR blC bs)) := p4
  have HP1 : Hid (w.heap[b]? = some (.cells #[.int .i64 fx, .int .i64 mn, .int .i64 mx, .int .i64 bt, lv, .map (some m), bv] 59 (0, 0))) := p1
  have HP2 : Hid (Ims w lv left) := p2
  have HP3 : Hid (∀ a n c, lv = .slice (some a) n c → left ≠ [] → a.block < base) := p3
  have HX2 : Hid (I8 W2 (w.heap.size + 1) (List.replicate 8 0)) := hX2
  have HB2 : Hid (Below w.heap.size w W2) := hB2
  have HC : Hid (W2.cell? ⟨w.heap.size, 0, none⟩ = some (.int .i64 x.kind) ∧ W2.cell? ⟨w.heap.size, 1, none⟩ = some (.string x.bytes)) := ⟨c0, c1⟩
  have HS2 : Hid (W2.heap.size = w.heap.size + 2) := hS2
  have HML : Hid (m < W2.heap.size) := by show _ < _; omega
  have hlt0 : w.heap.size < W2.heap.size := by omega
  have hlt1 : w.heap.size + 1 < W2.heap.size := by omega
  have Hne : Hid (b ≠ m ∧ base ≤ w.heap.size ∧ base ≤ b ∧ base ≤ m ∧ bs.length ≤ 1000000000) := ⟨hbm, hbase, ha, hm, hl⟩
  clear hS2 hput hL p1 p2 p3 p4 hX2 hB2 hmp hmp0 hbase ha hm hl
  go_enter Tryz.func44, Tryz.ntmps44
  go_upto_region 1 with fail
  rw [← hW2]
  clear hW2
  go_cut [6, 7, 8] from 9 (fun u v y wx => v = .bool NW ∧ y = .int .i64 ER ∧ ∃ G, u = .pointer (some ⟨G, 0, none⟩) ∧ Hid (I8 wx G [b0, b1, b2, b3, b4, b5, b6, b7]) ∧ Hid (w.heap.size + 2 ≤ G) ∧ Hid (∃ n', n' ≤ n + 1 ∧ Mp wx m n' (mpB MB)) ∧ Hid (Kept (fun k => k ≠ m) W2 wx))
  case first =>
    go_region_with (refine (hput' _ ?_).mono ?_; (first | exact (Below.refl _ _).drew | exact ((Below.refl _ _).alloc (Nat.le_refl _) _).drew); rintro e w3 ⟨rfl, h3, k3⟩; try (have hX3 := I8.aft k3 HML.out; obtain ⟨f0, f1, f2, f3, f4, f5, f6, f7⟩ := hX3.free; obtain ⟨e0, e1, e2, e3, e4, e5, e6, e7⟩ := I8.cells (b0 := 0) (b1 := 0) (b2 := 0) (b3 := 0) (b4 := 0) (b5 := 0) (b6 := 0) (b7 := 0) hX3))
    all_goals
      go_wp2_with fail
      go_meet
      obtain ⟨n', hn', hm'⟩ := h3
      first
      | (have hq := hX3
         exact ⟨rfl, rfl, _, rfl, hq.store b0 b1 b2 b3 b4 b5 b6 b7, Nat.le_of_eq HS2.out.symm, ⟨n', hn', hm'.set8 HML.out b0 b1 b2 b3 b4 b5 b6 b7⟩, kept_set8 (((Kept.refl _ W2).alloc _).drew.trans k3) (Nat.le_refl _) b0 b1 b2 b3 b4 b5 b6 b7⟩)
      | exact ⟨rfl, rfl, _, rfl, I8.laid (heap_alloc_new w3 _), Nat.le_trans (Nat.le_of_eq HS2.out.symm) k3.size, ⟨n', hn', hm'.below ((Below.refl _ _).alloc (Nat.le_refl _) _)⟩, (((Kept.refl _ W2).drew).trans k3).alloc _⟩
  case rest =>
  obtain ⟨rfl, rfl, G, rfl, HX, HG, HM, HK⟩ := hcut
  obtain ⟨wd, hwd⟩ : ∃ wd, wd = wc := ⟨_, rfl⟩
  subst hwd
  have hKw : Kept (fun k => k ≠ m) w wd := (Kept.of_below HB2.out).trans HK.out
  have HKw : Hid (Kept (fun k => k ≠ m) w wd) := hKw
  have p1c := hKw.obj (show b ≠ m from Hne.out.1) HP1.out
  have p4c := own_kept HP4.out hKw HNm.out
  have hXr := HX2.out.kept HK.out (show w.heap.size + 1 ≠ m by omega)
  have HXr : Hid (I8 wd (w.heap.size + 1) (List.replicate 8 0)) := hXr
  cases NW with
  | false =>
    have hmo := HMo.out rfl
    subst hmo
    have HMx : Hid (∃ n', n' ≤ n + 1 ∧ Mp wd m n' (mpB MB)) := HM
    obtain ⟨e0, e1, e2, e3, e4, e5, e6, e7⟩ := I8.cells (b0 := 0) (b1 := 0) (b2 := 0) (b3 := 0) (b4 := 0) (b5 := 0) (b6 := 0) (b7 := 0) hXr
    obtain ⟨f0, f1, f2, f3, f4, f5, f6, f7⟩ := hXr.free
    obtain ⟨r0, r1, r2, r3, r4, r5, r6, r7⟩ := HX.out.cells
    have HK9 : Hid (Kept (fun k => k ≠ m) w (set8 wd (w.heap.size + 1) b0 b1 b2 b3 b4 b5 b6 b7)) := kept_set8 hKw (by omega) _ _ _ _ _ _ _ _
    clear hKw p1c p4c hXr d0 d1 d2 d3 d4 d5 d6 hput' c0 c1 HMo HMt HM
    go_wp2_with fail
    refine bodyPost_ret (v := .tuple #[.agg #[B b0, B b1, B b2, B b3, B b4, B b5, B b6, B b7], .int .i64 ER]) ?_ rfl ⟨rfl, ?_, ?_⟩
    · have hres : Tryz.f44.results = #[.cell 4 29, .tmp 5] := by kernel_rfl
      simp only [results, hres]
      go_simp
      exact ⟨rfl, rfl, rfl, rfl, rfl, rfl, rfl, rfl⟩
    · obtain ⟨n', hn', hm'⟩ := HMx.out
      exact ⟨n', hn', Plt.more HP2.out HP3.out (HK9.out.below Hne.out.2.1 fun k hk => (HLo.out k hk).1) (HK9.out.obj Hne.out.1 HP1.out) (own_kept HP4.out HK9.out HNm.out) (hm'.set8 (by omega) _ _ _ _ _ _ _ _) Hne.out.2.2.1 Hne.out.2.2.2.1⟩
    · exact ⟨HK9.out.below Hne.out.2.1 fun k hk => (HLo.out k hk).1, Ko.of_kept HK9.out fun k o ho hp => (HKo.out k o ho hp).1⟩
  | true =>
    have hmo := HMt.out rfl
    subst hmo
    have HMx : Hid (∃ n', n' ≤ n + 1 ∧ Mp wd m n' (mpB (bs ++ [x]))) := HM
    have HP1c : Hid (wd.heap[b]? = some (.cells #[.int .i64 fx, .int .i64 mn, .int .i64 mx, .int .i64 bt, lv, .map (some m), bv] 59 (0, 0))) := p1c
    obtain ⟨g0, g1, g2, g3, g4, g5, g6, glt⟩ := sev_at p1c
    have hc0 : wd.cell? ⟨w.heap.size, 0, none⟩ = some (.int .i64 x.kind) := by
      have e := HK.out.block w.heap.size hlt0 (show w.heap.size ≠ m by omega)
      have := HC.out.1
      simp only [World.cell?, e] at this ⊢
      exact this
    have hc1 : wd.cell? ⟨w.heap.size, 1, none⟩ = some (.string x.bytes) := by
      have e := HK.out.block w.heap.size hlt0 (show w.heap.size ≠ m by omega)
      have := HC.out.2
      simp only [World.cell?, e] at this ⊢
      exact this
    have hwl : w.heap.size < wd.heap.size := Nat.lt_of_lt_of_le hlt0 HK.out.size
    obtain ⟨a, c, ebv⟩ := own_form p4c
    have HBV : Hid (bv = .slice a bs.length c) := ebv
    subst ebv
    have hrow : ∀ o2, ((wd.alloc o2).drew).ownsRow base 37 2 (.slice a bs.length c) bs.length (rowR blC bs) := fun o2 => (p4c.alloc o2).drew
    have HObl : Hid (∀ g, (Value.slice a bs.length c).ownBlock = some g → g ≠ b ∧ g < w.heap.size) := fun g hg => by
      obtain ⟨cur, hc, _, h3⟩ := own_block HP4.out hg
      refine ⟨fun e => ?_, h3⟩
      subst e
      rw [HP1.out] at hc
      cases hc
    have HQ : Hid (∀ o2 w1, ((wd.alloc o2).drew).grownBy w1 (Value.slice a bs.length c).ownBlock →
        w1.heap[b]? = some (.cells #[.int .i64 fx, .int .i64 mn, .int .i64 mx, .int .i64 bt, lv, .map (some m), .slice a bs.length c] 59 (0, 0)) ∧ Kept (fun k => (Value.slice a bs.length c).ownBlock ≠ some k) wd w1) := by
      intro o2 w1 hg
      have hk : Kept (fun k => (Value.slice a bs.length c).ownBlock ≠ some k) wd w1 := Kept.grown ((Kept.refl _ wd).alloc o2).drew hg fun k hk hp => hp hk
      exact ⟨hk.obj (fun e => (HObl.out _ e).1 rfl) HP1c.out, hk⟩
    have HLn : Hid (bs.length ≤ 1000000000) := Hne.out.2.2.2.2
    have hbw : base ≤ wd.heap.size := Nat.le_trans Hne.out.2.1 (Nat.le_of_lt hwl)
    have hln : bs.length ≤ 1000000000 := HLn.out
    obtain ⟨N, hN⟩ : ∃ N, N = bs.length := ⟨_, rfl⟩
    clear hKw p1c p4c hXr d0 d1 d2 d3 d4 d5 d6 hput' c0 c1 HMo HMt HM
    go_wp2_with fail
    go_cut [] from 9 (fun wx => Hid (∃ g cap, wx.ownsRow base 37 2 (.slice (some ⟨g, 0, none⟩) (bs.length + 1) cap) (bs.length + 1) (rowR blC bs ++ blC x) ∧
      wx.heap[b]? = some (.cells #[.int .i64 fx, .int .i64 mn, .int .i64 mx, .int .i64 bt, lv, .map (some m), .slice (some ⟨g, 0, none⟩) (bs.length + 1) cap] 59 (0, 0)) ∧
      Kept (fun k => k ≠ b ∧ (Value.slice a bs.length c).ownBlock ≠ some k) wd wx ∧ ((Value.slice a bs.length c).ownBlock = some g ∨ g = wd.heap.size + 1)))
    case first =>
      go_region_law ((refine step_append_lies _ (by rfl) (.tmp 24) (.tmp 26) 27 (by rfl) base 37 i0 (.agg #[.int .i64 0, .string ⟨#[]⟩]) 2 24 Tryz.underlying27 hi hz0 hz1 hz2 rfl (by decide) (.slice a bs.length c) bs.length (rowR blC bs) (by rfl) (hrow _) ⟨wd.heap.size, 0, none⟩ 1 1 (blC x) (by rfl) (by rfl) (two_at (by simp) (by simp)) (by simp [blC, Value.oneCell']) (by decide) (by unfold maxLen; omega) (by omega) (by simp; omega) (wd.heap.size + 1) (by simp) ?_; intro g cap w1 hown1 hgrow hat hlt; obtain ⟨q1, q2⟩ := HQ.out _ _ hgrow; obtain ⟨z0, z1, z2, z3, z4, z5, z6, zlt⟩ := sev_at q1; have zf := free_at q1 6))
      all_goals
        go_wp2_with fail
        go_meet
        have hgb : g ≠ b := fun e => by
          rcases hat with h | h
          · exact (HObl.out g h).1 e
          · omega
        exact ⟨g, cap, own_kept hown1 ((Kept.refl _ w1).setCell (p := fun k => k ≠ b) (by simp) _) (fun g' hg' e => hgb (by cases hg'; exact e)), set_six q1 _, (q2.mono fun _ h => h.2).setCell (fun h => h.1 rfl) _, hat⟩
    case rest =>
    obtain ⟨g, cap, hown, hbc, hk, hat⟩ := hcut.out
    have hk9 : Kept (fun k => k ≠ m ∧ k ≠ b ∧ (Value.slice a bs.length c).ownBlock ≠ some k) w wc := (HKw.out.mono fun _ h => h.1).trans (hk.mono fun _ h => h.2)
    have hG := HG.out
    have hX9 := HX.out.kept hk ⟨fun e => by omega, fun e => by have := (HObl.out G e).2; omega⟩
    have hXr9 := HXr.out.kept hk ⟨fun e => by omega, fun e => by have := (HObl.out _ e).2; omega⟩
    have HM9 : Hid (∃ n', n' ≤ n + 1 ∧ Mp wc m n' (mpB (bs ++ [x]))) := by
      obtain ⟨n', hn', hm'⟩ := HMx.out
      exact ⟨n', hn', hm'.obj fun _ _ ho => (hk.block m hm'.lt ⟨fun e => Hne.out.1 e.symm, fun e => HNm.out m e rfl⟩).trans ho⟩
    obtain ⟨e0, e1, e2, e3, e4, e5, e6, e7⟩ := I8.cells (b0 := 0) (b1 := 0) (b2 := 0) (b3 := 0) (b4 := 0) (b5 := 0) (b6 := 0) (b7 := 0) hXr9
    obtain ⟨f0, f1, f2, f3, f4, f5, f6, f7⟩ := hXr9.free
    obtain ⟨r0, r1, r2, r3, r4, r5, r6, r7⟩ := hX9.cells
    have HB9 : Hid (Below (w.heap.size + 1) wc (set8 wc (w.heap.size + 1) b0 b1 b2 b3 b4 b5 b6 b7)) := below_set8 (Below.refl _ _) (Nat.le_refl _) _ _ _ _ _ _ _ _
    have HK9 : Hid (Kept (fun k => k ≠ m ∧ k ≠ b ∧ (Value.slice a bs.length c).ownBlock ≠ some k) w (set8 wc (w.heap.size + 1) b0 b1 b2 b3 b4 b5 b6 b7)) :=
      ⟨HB9.out.os.trans hk9.os, HB9.out.tape.trans hk9.tape, HB9.out.output.trans hk9.output, Nat.le_trans hk9.size HB9.out.size, fun k hk hp => (HB9.out.block k (by omega)).trans (hk9.block k hk hp)⟩
    have HO9 : Hid ((set8 wc (w.heap.size + 1) b0 b1 b2 b3 b4 b5 b6 b7).ownsRow base 37 2 (.slice (some ⟨g, 0, none⟩) (bs.length + 1) cap) (bs ++ [x]).length (rowR blC (bs ++ [x]))) := by
      have hgw : g ≠ w.heap.size + 1 := fun e => by
        rcases hat with h | h
        · have := (HObl.out g h).2
          omega
        · omega
      exact own_kept (own_one_more hown) (kept_not8 wc (w.heap.size + 1) _ _ _ _ _ _ _ _) (fun g' hg' e => hgw (by cases hg'; exact e))
    have HB1c : Hid (wc.heap[b]? = some (.cells #[.int .i64 fx, .int .i64 mn, .int .i64 mx, .int .i64 bt, lv, .map (some m), .slice (some ⟨g, 0, none⟩) (bs.length + 1) cap] 59 (0, 0))) := hbc
    clear hX9 hXr9 hk9 hk hown hbc hat HQ hrow g0 g1 g2 g3 g4 g5 g6 hc0 hc1 hcut
    go_wp2_with fail
    refine bodyPost_ret (v := .tuple #[.agg #[B b0, B b1, B b2, B b3, B b4, B b5, B b6, B b7], .int .i64 ER]) ?_ rfl ⟨rfl, ?_, ?_⟩
    · have hres : Tryz.f44.results = #[.cell 4 29, .tmp 5] := by kernel_rfl
      simp only [results, hres]
      go_simp
      exact ⟨rfl, rfl, rfl, rfl, rfl, rfl, rfl, rfl⟩
    · obtain ⟨n', hn', hm'⟩ := HM9.out
      exact ⟨n', hn', Plt.more HP2.out HP3.out (HK9.out.below Hne.out.2.1 HLo.out) ((HB9.out.block b (by omega)).trans HB1c.out) HO9.out (hm'.set8 (by omega) _ _ _ _ _ _ _ _) Hne.out.2.2.1 Hne.out.2.2.2.1⟩
    · exact ⟨HK9.out.below Hne.out.2.1 HLo.out, Ko.of_kept HK9.out HKo.out⟩

end Go.Proofs.YtimdioacmojkeaaGreatDoor

namespace Go.Proofs.YtimdioacmojkeaaGreatDoor
open Go.RowKit
set_option maxRecDepth 4000

namespace Nn
/-- the bytes that follow, one by one -/
def run : Nat → List Nat → Option Nat
  | c, [] => some c
  | c, b :: l => if b < 128 ∨ 191 < b then none else run (64 * c + b - 128) l
/-- how a character of n bytes ends -/
def done (low n : Nat) : Option Nat → Nat × Nat
  | none => (0, 0)
  | some c => fin low c n
theorem done_none (low n : Nat) : done low n none = (0, 0) := rfl
theorem done_bad {low n c : Nat} (h : c < low ∨ 1114111 < c ∨ (55296 ≤ c ∧ c < 57344)) : done low n (some c) = (0, 0) := by
  show fin low c n = _
  unfold fin; rw [if_pos h]
theorem done_good {low n c : Nat} (h : ¬ (c < low ∨ 1114111 < c ∨ (55296 ≤ c ∧ c < 57344))) : done low n (some c) = (c, n) := by
  show fin low c n = _
  unfold fin; rw [if_neg h]
theorem run_two (n b0 b1 b2 b3 : Nat) (hb : 194 ≤ b0 ∧ b0 < 224) (hn : ¬ n < 2) : chrR n b0 b1 b2 b3 = done 128 2 (run (b0 - 192) [b1]) := by
  unfold chrR
  rw [if_neg (by omega), if_pos hb, run]
  by_cases c : b1 < 128 ∨ 191 < b1
  · rw [if_pos (.inr c), if_pos c]; rfl
  · rw [if_neg (by omega), if_neg c]; rfl
theorem run_three (n b0 b1 b2 b3 : Nat) (hb : 224 ≤ b0 ∧ b0 < 240) (hn : ¬ n < 3) : chrR n b0 b1 b2 b3 = done 2048 3 (run (b0 - 224) [b1, b2]) := by
  unfold chrR
  rw [if_neg (by omega), if_neg (by omega), if_pos hb, run]
  by_cases c : b1 < 128 ∨ 191 < b1
  · rw [if_pos (.inr (.inl c)), if_pos c]; rfl
  · rw [if_neg c, run]
    by_cases d : b2 < 128 ∨ 191 < b2
    · rw [if_pos (.inr (.inr d)), if_pos d]; rfl
    · rw [if_neg (by omega), if_neg d]; rfl
theorem run_four (n b0 b1 b2 b3 : Nat) (hb : 240 ≤ b0 ∧ b0 < 245) (hn : ¬ n < 4) : chrR n b0 b1 b2 b3 = done 65536 4 (run (b0 - 240) [b1, b2, b3]) := by
  unfold chrR
  rw [if_neg (by omega), if_neg (by omega), if_neg (by omega), if_pos hb, run]
  by_cases c : b1 < 128 ∨ 191 < b1
  · rw [if_pos (.inr (.inl c)), if_pos c]; rfl
  · rw [if_neg c, run]
    by_cases d : b2 < 128 ∨ 191 < b2
    · rw [if_pos (.inr (.inr (.inl d))), if_pos d]; rfl
    · rw [if_neg d, run]
      by_cases f : b3 < 128 ∨ 191 < b3
      · rw [if_pos (.inr (.inr (.inr f))), if_pos f]; rfl
      · rw [if_neg (by omega), if_neg f]; rfl
theorem run_short (n b0 b1 b2 b3 : Nat) (h : (194 ≤ b0 ∧ b0 < 224 ∧ n < 2) ∨ (224 ≤ b0 ∧ b0 < 240 ∧ n < 3) ∨ (240 ≤ b0 ∧ b0 < 245 ∧ n < 4)) : chrR n b0 b1 b2 b3 = (0, 0) := by
  unfold chrR
  rcases h with ⟨h1, h2, h3⟩ | ⟨h1, h2, h3⟩ | ⟨h1, h2, h3⟩
  · rw [if_neg (by omega), if_pos ⟨h1, h2⟩, if_pos (.inl h3)]
  · rw [if_neg (by omega), if_neg (by omega), if_pos ⟨h1, h2⟩, if_pos (.inl h3)]
  · rw [if_neg (by omega), if_neg (by omega), if_neg (by omega), if_pos ⟨h1, h2⟩, if_pos (.inl h3)]
theorem run_no (n b0 b1 b2 b3 : Nat) (h1 : 128 ≤ b0) (h : b0 < 194 ∨ 245 ≤ b0) : chrR n b0 b1 b2 b3 = (0, 0) := by
  unfold chrR
  rw [if_neg (by omega), if_neg (by omega), if_neg (by omega), if_neg (by omega)]
theorem run_drop (c : Nat) (bs : List Nat) (j : Nat) (hj : j < bs.length) : run c (bs.drop j) = if bs.getD j 0 < 128 ∨ 191 < bs.getD j 0 then none else run (64 * c + bs.getD j 0 - 128) (bs.drop (j + 1)) := by
  rw [List.drop_eq_getElem_cons hj, run, List.getD_eq_getElem?_getD, List.getElem?_eq_getElem hj]
  rfl
end Nn

/-- '[]byte(s)': its cells -/
theorem conv_by (w : World) (s : ByteArray) : ∃ W1 cap, (convert 9 84 (.string s)).run Tryz.prog w = .ok (.slice (some ⟨w.heap.size, 0, none⟩) s.size cap) W1 ∧
    (∀ k (hk : k < s.size), W1.cell? ⟨w.heap.size, k, none⟩ = some (.int .u8 (s[k].toNat : Nat))) ∧ Below w.heap.size w W1 := by
  have hcv := run_bytes_of_string (P := Tryz.prog) w 9 84 5 s (by kernel_rfl) (by kernel_rfl) (by kernel_rfl)
  exact ⟨_, _, hcv, fun k hk => bytes_cell w s _ _ k hk, ((Below.refl _ w).alloc (Nat.le_refl _) _).drew⟩
/-- the bytes of a text from the second on -/
theorem ext_get (s : ByteArray) (n k : Nat) (hn : n ≤ s.size) (hk : k < (s.extract 1 n).size) : ((s.extract 1 n)[k].toNat) = (s.data.toList.getD (k + 1) 0).toNat := by
  rw [ByteArray.size_extract] at hk
  rw [ByteArray.getElem_extract, Nat.add_comm k 1, List.getD_eq_getElem?_getD, Lib.data_getElem? s (1 + k) (by omega)]
  rfl
theorem first_get (s : ByteArray) (h : 0 < s.size) : (s[0].toNat) = (s.data.toList.getD 0 0).toNat := by
  rw [List.getD_eq_getElem?_getD, List.getElem?_eq_getElem (by rw [← Lib.size_eq]; omega)]
  rfl

def ChOut (s : ByteArray) (w : World) (e : Ending) (w' : World) : Prop :=
  e = .returned (.tuple #[.int .i64 (Nn.chr s.data.toList).1, .int .i64 (Nn.chr s.data.toList).2]) ∧ Below w.heap.size w w'

set_option maxHeartbeats 2000000 in
set_option maxRecDepth 8000 in
theorem rchar_two (s : ByteArray) (w : World) (hs : s.size ≤ 140737488351232) (h0 : 0 < s.size) (b0 : Nat) (hb0 : s[0].toNat = b0) (hr : 194 ≤ b0 ∧ b0 < 224) (hn : 2 ≤ s.size) :
    Calls Tryz.prog 136 #[.string s] w (ChOut s w) := by
  have hne : s.data.toList ≠ [] := fun e => by rw [Lib.size_eq, e] at h0; simp at h0
  have e0 : s.toList.isEmpty = false := by
    rw [Lib.toList_data]
    cases hx : s.data.toList with
    | nil => exact absurd hx hne
    | cons a b => rfl
  have e0' : (s.toList == []) = false := by rw [beq_eq_false_iff_ne, Lib.toList_data]; exact hne
  obtain ⟨bs, hbs⟩ : ∃ bs, bs = [(s.data.toList.getD 1 0).toNat] := ⟨_, rfl⟩
  have hlen : bs.length = 1 := by rw [hbs]; rfl
  have HZ : Hid (Nn.chr s.data.toList = Nn.done 128 2 (Nn.run (b0 - 192) bs)) := by
    show _ = _
    rw [Nn.chr_R _ hne, hbs, ← first_get s h0, hb0]
    exact Nn.run_two _ _ _ _ _ hr (by rw [← Lib.size_eq]; omega)
  obtain ⟨t, ht⟩ : ∃ t, s.extract 1 2 = t := ⟨_, rfl⟩
  have htz : t.size = 1 := by rw [← ht, ByteArray.size_extract]; omega
  obtain ⟨W1, cap, hcv, hcell, hbel⟩ := conv_by w t
  have HCL : Hid (∀ k, k < 1 → W1.cell? ⟨w.heap.size, k, none⟩ = some (.int .u8 (bs.getD k 0 : Nat))) := fun k hk => by
    rw [hcell k (by omega)]
    have := ext_get s 2 k hn (by rw [ht]; omega)
    simp only [ht] at this
    rw [this, hbs]
    match k, hk with
    | 0, _ => rfl
  have HB : Hid (Below w.heap.size w W1) := hbel
  have HBS : Hid (∀ k, bs.getD k 0 < 256) := fun k => by
    rw [hbs]
    match k with
    | 0 => exact UInt8.toNat_lt _
    | _ + 1 => simp
  rw [htz] at hcv
  have hnz : ((2 : Int)) ≤ (s.size : Int) := by omega
  have h0z : (0 : Int) < (s.size : Int) := by omega
  obtain ⟨c0, hc0⟩ : ∃ c0, c0 = b0 - 192 := ⟨_, rfl⟩
  have hcz : (b0 : Int) - 192 = (c0 : Int) := by omega
  have hc31 : c0 ≤ 31 := by omega
  rw [← hc0] at HZ
  obtain ⟨Z, hZ⟩ : ∃ Z, Nn.run c0 bs = Z := ⟨_, rfl⟩
  have HR : Hid (Nn.run c0 (bs.drop 0) = Z) := hZ
  rw [hZ] at HZ
  have HL : Hid (bs.length = 1) := hlen
  clear hbs hlen hcell hbel hne hc0 hZ htz
  go_enter Tryz.func136, Tryz.ntmps136
  go_wp2_with fail
  go_loop [4, 53] (fun c i => ∃ j C : Nat, j ≤ 1 ∧ i = .int .i64 j ∧ c = .int .i64 C ∧ Hid (Nn.run C (bs.drop j) = Z) ∧ (j = 0 → C ≤ 31) ∧ (j = 1 → C ≤ 2047) ∧ (j = 2 → C ≤ 131071) ∧ C ≤ 8388607) (fun _ i => 1 - (intOf i).toNat)
  case atStart => exact ⟨0, c0, by omega, rfl, rfl, HR, by omega, by omega, by omega, by omega⟩
  case round =>
    clear HR
    obtain ⟨j, C, hj, rfl, rfl, HR, q0, q1, q2, q3⟩ := hrel
    by_cases hlt : j < 1
    · have cj := HCL.out j hlt
      have HD : Hid (Z = if bs.getD j 0 < 128 ∨ 191 < bs.getD j 0 then none else Nn.run (64 * C + bs.getD j 0 - 128) (bs.drop (j + 1))) := by
        show _ = _
        rw [← Nn.run_drop _ _ _ (by rw [HL.out]; exact hlt)]; exact HR.out.symm
      have hb256 := HBS.out j
      generalize bs.getD j 0 = b at *
      clear HR
      by_cases hbad : b < 128 ∨ 191 < b
      · have HN : Hid (Z = none) := by have := HD.out; rwa [if_pos hbad] at this
        clear HD
        by_cases h1 : b < 128
        · clear hbad
          go_wp2_with fail
          go_ret2
          exact ⟨by rw [HZ.out, HN.out, Nn.done_none]; rfl, HB.out⟩
        · have h2 : 191 < b := by omega
          clear hbad
          go_wp2_with fail
          go_ret2
          exact ⟨by rw [HZ.out, HN.out, Nn.done_none]; rfl, HB.out⟩
      · have HR2 : Hid (Nn.run (64 * C + b - 128) (bs.drop (j + 1)) = Z) := by have := HD.out; rw [if_neg hbad] at this; exact this.symm
        have h1 : ¬ b < 128 := by omega
        have h2 : ¬ 191 < b := by omega
        obtain ⟨D, hD⟩ : ∃ D, 64 * C + b - 128 = D := ⟨_, rfl⟩
        have hDz : 64 * (C : Int) + (b : Int) - 128 = (D : Int) := by omega
        have hD3 : D ≤ 8388607 := by omega
        have hd0 : j + 1 = 1 → D ≤ 2047 := by omega
        have hd1 : j + 1 = 2 → D ≤ 131071 := by omega
        rw [hD] at HR2
        clear HD hbad hD
        go_wp2_with fail
        go_round
        case rel => exact ⟨_, _, .int .i64 D, .int .u8 b, .int .i64 ((j : Int) + 1), ⟨j + 1, by omega, by go_num, D, rfl, HR2, by omega, hd0, hd1, hD3⟩, rfl, rfl, rfl, rfl, rfl⟩
        case measure => simp only [intOf]; omega
    · obtain rfl : j = 1 := by omega
      have HN : Hid (Z = some C) := by
        have := HR.out
        rw [List.drop_eq_nil_of_le (by rw [HL.out]; omega), Nn.run] at this
        exact this.symm
      clear HR HCL HBS q0 q1 q2
      obtain ⟨c, hc⟩ : ∃ c : Int, c = (C : Int) := ⟨_, rfl⟩
      have HCc : Hid (c = (C : Int)) := hc
      by_cases h1 : C < 128
      · have HE : Hid (Nn.chr s.data.toList = (0, 0)) := by
          show _ = _
          rw [HZ.out, HN.out]; exact Nn.done_bad (.inl h1)
        have i1 : c < 128 := by omega
        rw [← hc]
        clear h1 HZ HN hc q3
        go_wp2_with fail
        go_ret2
        exact ⟨by rw [HE.out]; rfl, HB.out⟩
      by_cases h2 : 1114111 < C
      · have HE : Hid (Nn.chr s.data.toList = (0, 0)) := by
          show _ = _
          rw [HZ.out, HN.out]; exact Nn.done_bad (.inr (.inl h2))
        have i1 : ¬ c < 128 := by omega
        have i2 : 1114111 < c := by omega
        rw [← hc]
        clear h1 h2 HZ HN hc q3
        go_wp2_with fail
        go_ret2
        exact ⟨by rw [HE.out]; rfl, HB.out⟩
      by_cases h3 : 55296 ≤ C ∧ C < 57344
      · have HE : Hid (Nn.chr s.data.toList = (0, 0)) := by
          show _ = _
          rw [HZ.out, HN.out]; exact Nn.done_bad (.inr (.inr h3))
        have i1 : ¬ c < 128 := by omega
        have i2 : ¬ 1114111 < c := by omega
        have i3 : 55296 ≤ c := by omega
        have i4 : c < 57344 := by omega
        rw [← hc]
        clear h1 h2 h3 HZ HN hc q3
        go_wp2_with fail
        go_ret2
        exact ⟨by rw [HE.out]; rfl, HB.out⟩
      have HE : Hid (Nn.chr s.data.toList = (C, 2)) := by
        show _ = _
        rw [HZ.out, HN.out]; exact Nn.done_good (by omega)
      have i1 : ¬ c < 128 := by omega
      have i2 : ¬ 1114111 < c := by omega
      by_cases h4 : 55296 ≤ C
      · have i3 : 55296 ≤ c := by omega
        have i4 : ¬ c < 57344 := by omega
        rw [← hc]
        clear h1 h2 h3 h4 HZ HN hc q3
        go_wp2_with fail
        go_ret2
        exact ⟨by rw [HE.out, HCc.out]; rfl, HB.out⟩
      · have i3 : ¬ 55296 ≤ c := by omega
        rw [← hc]
        clear h1 h2 h3 h4 HZ HN hc q3
        go_wp2_with fail
        go_ret2
        exact ⟨by rw [HE.out, HCc.out]; rfl, HB.out⟩

set_option maxHeartbeats 2000000 in
set_option maxRecDepth 8000 in
theorem rchar_three (s : ByteArray) (w : World) (hs : s.size ≤ 140737488351232) (h0 : 0 < s.size) (b0 : Nat) (hb0 : s[0].toNat = b0) (hr : 224 ≤ b0 ∧ b0 < 240) (hn : 3 ≤ s.size) :
    Calls Tryz.prog 136 #[.string s] w (ChOut s w) := by
  have hne : s.data.toList ≠ [] := fun e => by rw [Lib.size_eq, e] at h0; simp at h0
  have e0 : s.toList.isEmpty = false := by
    rw [Lib.toList_data]
    cases hx : s.data.toList with
    | nil => exact absurd hx hne
    | cons a b => rfl
  have e0' : (s.toList == []) = false := by rw [beq_eq_false_iff_ne, Lib.toList_data]; exact hne
  obtain ⟨bs, hbs⟩ : ∃ bs, bs = [(s.data.toList.getD 1 0).toNat, (s.data.toList.getD 2 0).toNat] := ⟨_, rfl⟩
  have hlen : bs.length = 2 := by rw [hbs]; rfl
  have HZ : Hid (Nn.chr s.data.toList = Nn.done 2048 3 (Nn.run (b0 - 224) bs)) := by
    show _ = _
    rw [Nn.chr_R _ hne, hbs, ← first_get s h0, hb0]
    exact Nn.run_three _ _ _ _ _ hr (by rw [← Lib.size_eq]; omega)
  obtain ⟨t, ht⟩ : ∃ t, s.extract 1 3 = t := ⟨_, rfl⟩
  have htz : t.size = 2 := by rw [← ht, ByteArray.size_extract]; omega
  obtain ⟨W1, cap, hcv, hcell, hbel⟩ := conv_by w t
  have HCL : Hid (∀ k, k < 2 → W1.cell? ⟨w.heap.size, k, none⟩ = some (.int .u8 (bs.getD k 0 : Nat))) := fun k hk => by
    rw [hcell k (by omega)]
    have := ext_get s 3 k hn (by rw [ht]; omega)
    simp only [ht] at this
    rw [this, hbs]
    match k, hk with
    | 0, _ => rfl
    | 1, _ => rfl
  have HB : Hid (Below w.heap.size w W1) := hbel
  have HBS : Hid (∀ k, bs.getD k 0 < 256) := fun k => by
    rw [hbs]
    match k with
    | 0 => exact UInt8.toNat_lt _
    | 1 => exact UInt8.toNat_lt _
    | _ + 2 => simp
  rw [htz] at hcv
  have hnz : ((3 : Int)) ≤ (s.size : Int) := by omega
  have h0z : (0 : Int) < (s.size : Int) := by omega
  obtain ⟨c0, hc0⟩ : ∃ c0, c0 = b0 - 224 := ⟨_, rfl⟩
  have hcz : (b0 : Int) - 224 = (c0 : Int) := by omega
  have hc31 : c0 ≤ 31 := by omega
  rw [← hc0] at HZ
  obtain ⟨Z, hZ⟩ : ∃ Z, Nn.run c0 bs = Z := ⟨_, rfl⟩
  have HR : Hid (Nn.run c0 (bs.drop 0) = Z) := hZ
  rw [hZ] at HZ
  have HL : Hid (bs.length = 2) := hlen
  clear hbs hlen hcell hbel hne hc0 hZ htz
  go_enter Tryz.func136, Tryz.ntmps136
  go_wp2_with fail
  go_loop [4, 53] (fun c i => ∃ j C : Nat, j ≤ 2 ∧ i = .int .i64 j ∧ c = .int .i64 C ∧ Hid (Nn.run C (bs.drop j) = Z) ∧ (j = 0 → C ≤ 31) ∧ (j = 1 → C ≤ 2047) ∧ (j = 2 → C ≤ 131071) ∧ C ≤ 8388607) (fun _ i => 2 - (intOf i).toNat)
  case atStart => exact ⟨0, c0, by omega, rfl, rfl, HR, by omega, by omega, by omega, by omega⟩
  case round =>
    clear HR
    obtain ⟨j, C, hj, rfl, rfl, HR, q0, q1, q2, q3⟩ := hrel
    by_cases hlt : j < 2
    · have cj := HCL.out j hlt
      have HD : Hid (Z = if bs.getD j 0 < 128 ∨ 191 < bs.getD j 0 then none else Nn.run (64 * C + bs.getD j 0 - 128) (bs.drop (j + 1))) := by
        show _ = _
        rw [← Nn.run_drop _ _ _ (by rw [HL.out]; exact hlt)]; exact HR.out.symm
      have hb256 := HBS.out j
      generalize bs.getD j 0 = b at *
      clear HR
      by_cases hbad : b < 128 ∨ 191 < b
      · have HN : Hid (Z = none) := by have := HD.out; rwa [if_pos hbad] at this
        clear HD
        by_cases h1 : b < 128
        · clear hbad
          go_wp2_with fail
          go_ret2
          exact ⟨by rw [HZ.out, HN.out, Nn.done_none]; rfl, HB.out⟩
        · have h2 : 191 < b := by omega
          clear hbad
          go_wp2_with fail
          go_ret2
          exact ⟨by rw [HZ.out, HN.out, Nn.done_none]; rfl, HB.out⟩
      · have HR2 : Hid (Nn.run (64 * C + b - 128) (bs.drop (j + 1)) = Z) := by have := HD.out; rw [if_neg hbad] at this; exact this.symm
        have h1 : ¬ b < 128 := by omega
        have h2 : ¬ 191 < b := by omega
        obtain ⟨D, hD⟩ : ∃ D, 64 * C + b - 128 = D := ⟨_, rfl⟩
        have hDz : 64 * (C : Int) + (b : Int) - 128 = (D : Int) := by omega
        have hD3 : D ≤ 8388607 := by omega
        have hd0 : j + 1 = 1 → D ≤ 2047 := by omega
        have hd1 : j + 1 = 2 → D ≤ 131071 := by omega
        rw [hD] at HR2
        clear HD hbad hD
        go_wp2_with fail
        go_round
        case rel => exact ⟨_, _, .int .i64 D, .int .u8 b, .int .i64 ((j : Int) + 1), ⟨j + 1, by omega, by go_num, D, rfl, HR2, by omega, hd0, hd1, hD3⟩, rfl, rfl, rfl, rfl, rfl⟩
        case measure => simp only [intOf]; omega
    · obtain rfl : j = 2 := by omega
      have HN : Hid (Z = some C) := by
        have := HR.out
        rw [List.drop_eq_nil_of_le (by rw [HL.out]; omega), Nn.run] at this
        exact this.symm
      clear HR HCL HBS q0 q1 q2
      obtain ⟨c, hc⟩ : ∃ c : Int, c = (C : Int) := ⟨_, rfl⟩
      have HCc : Hid (c = (C : Int)) := hc
      by_cases h1 : C < 2048
      · have HE : Hid (Nn.chr s.data.toList = (0, 0)) := by
          show _ = _
          rw [HZ.out, HN.out]; exact Nn.done_bad (.inl h1)
        have i1 : c < 2048 := by omega
        rw [← hc]
        clear h1 HZ HN hc q3
        go_wp2_with fail
        go_ret2
        exact ⟨by rw [HE.out]; rfl, HB.out⟩
      by_cases h2 : 1114111 < C
      · have HE : Hid (Nn.chr s.data.toList = (0, 0)) := by
          show _ = _
          rw [HZ.out, HN.out]; exact Nn.done_bad (.inr (.inl h2))
        have i1 : ¬ c < 2048 := by omega
        have i2 : 1114111 < c := by omega
        rw [← hc]
        clear h1 h2 HZ HN hc q3
        go_wp2_with fail
        go_ret2
        exact ⟨by rw [HE.out]; rfl, HB.out⟩
      by_cases h3 : 55296 ≤ C ∧ C < 57344
      · have HE : Hid (Nn.chr s.data.toList = (0, 0)) := by
          show _ = _
          rw [HZ.out, HN.out]; exact Nn.done_bad (.inr (.inr h3))
        have i1 : ¬ c < 2048 := by omega
        have i2 : ¬ 1114111 < c := by omega
        have i3 : 55296 ≤ c := by omega
        have i4 : c < 57344 := by omega
        rw [← hc]
        clear h1 h2 h3 HZ HN hc q3
        go_wp2_with fail
        go_ret2
        exact ⟨by rw [HE.out]; rfl, HB.out⟩
      have HE : Hid (Nn.chr s.data.toList = (C, 3)) := by
        show _ = _
        rw [HZ.out, HN.out]; exact Nn.done_good (by omega)
      have i1 : ¬ c < 2048 := by omega
      have i2 : ¬ 1114111 < c := by omega
      by_cases h4 : 55296 ≤ C
      · have i3 : 55296 ≤ c := by omega
        have i4 : ¬ c < 57344 := by omega
        rw [← hc]
        clear h1 h2 h3 h4 HZ HN hc q3
        go_wp2_with fail
        go_ret2
        exact ⟨by rw [HE.out, HCc.out]; rfl, HB.out⟩
      · have i3 : ¬ 55296 ≤ c := by omega
        rw [← hc]
        clear h1 h2 h3 h4 HZ HN hc q3
        go_wp2_with fail
        go_ret2
        exact ⟨by rw [HE.out, HCc.out]; rfl, HB.out⟩

set_option maxHeartbeats 2000000 in
set_option maxRecDepth 8000 in
theorem rchar_four (s : ByteArray) (w : World) (hs : s.size ≤ 140737488351232) (h0 : 0 < s.size) (b0 : Nat) (hb0 : s[0].toNat = b0) (hr : 240 ≤ b0 ∧ b0 < 245) (hn : 4 ≤ s.size) :
    Calls Tryz.prog 136 #[.string s] w (ChOut s w) := by
  have hne : s.data.toList ≠ [] := fun e => by rw [Lib.size_eq, e] at h0; simp at h0
  have e0 : s.toList.isEmpty = false := by
    rw [Lib.toList_data]
    cases hx : s.data.toList with
    | nil => exact absurd hx hne
    | cons a b => rfl
  have e0' : (s.toList == []) = false := by rw [beq_eq_false_iff_ne, Lib.toList_data]; exact hne
  obtain ⟨bs, hbs⟩ : ∃ bs, bs = [(s.data.toList.getD 1 0).toNat, (s.data.toList.getD 2 0).toNat, (s.data.toList.getD 3 0).toNat] := ⟨_, rfl⟩
  have hlen : bs.length = 3 := by rw [hbs]; rfl
  have HZ : Hid (Nn.chr s.data.toList = Nn.done 65536 4 (Nn.run (b0 - 240) bs)) := by
    show _ = _
    rw [Nn.chr_R _ hne, hbs, ← first_get s h0, hb0]
    exact Nn.run_four _ _ _ _ _ hr (by rw [← Lib.size_eq]; omega)
  obtain ⟨t, ht⟩ : ∃ t, s.extract 1 4 = t := ⟨_, rfl⟩
  have htz : t.size = 3 := by rw [← ht, ByteArray.size_extract]; omega
  obtain ⟨W1, cap, hcv, hcell, hbel⟩ := conv_by w t
  have HCL : Hid (∀ k, k < 3 → W1.cell? ⟨w.heap.size, k, none⟩ = some (.int .u8 (bs.getD k 0 : Nat))) := fun k hk => by
    rw [hcell k (by omega)]
    have := ext_get s 4 k hn (by rw [ht]; omega)
    simp only [ht] at this
    rw [this, hbs]
    match k, hk with
    | 0, _ => rfl
    | 1, _ => rfl
    | 2, _ => rfl
  have HB : Hid (Below w.heap.size w W1) := hbel
  have HBS : Hid (∀ k, bs.getD k 0 < 256) := fun k => by
    rw [hbs]
    match k with
    | 0 => exact UInt8.toNat_lt _
    | 1 => exact UInt8.toNat_lt _
    | 2 => exact UInt8.toNat_lt _
    | _ + 3 => simp
  rw [htz] at hcv
  have hnz : ((4 : Int)) ≤ (s.size : Int) := by omega
  have h0z : (0 : Int) < (s.size : Int) := by omega
  obtain ⟨c0, hc0⟩ : ∃ c0, c0 = b0 - 240 := ⟨_, rfl⟩
  have hcz : (b0 : Int) - 240 = (c0 : Int) := by omega
  have hc31 : c0 ≤ 31 := by omega
  rw [← hc0] at HZ
  obtain ⟨Z, hZ⟩ : ∃ Z, Nn.run c0 bs = Z := ⟨_, rfl⟩
  have HR : Hid (Nn.run c0 (bs.drop 0) = Z) := hZ
  rw [hZ] at HZ
  have HL : Hid (bs.length = 3) := hlen
  clear hbs hlen hcell hbel hne hc0 hZ htz
  go_enter Tryz.func136, Tryz.ntmps136
  go_wp2_with fail
  go_loop [4, 53] (fun c i => ∃ j C : Nat, j ≤ 3 ∧ i = .int .i64 j ∧ c = .int .i64 C ∧ Hid (Nn.run C (bs.drop j) = Z) ∧ (j = 0 → C ≤ 31) ∧ (j = 1 → C ≤ 2047) ∧ (j = 2 → C ≤ 131071) ∧ C ≤ 8388607) (fun _ i => 3 - (intOf i).toNat)
  case atStart => exact ⟨0, c0, by omega, rfl, rfl, HR, by omega, by omega, by omega, by omega⟩
  case round =>
    clear HR
    obtain ⟨j, C, hj, rfl, rfl, HR, q0, q1, q2, q3⟩ := hrel
    by_cases hlt : j < 3
    · have cj := HCL.out j hlt
      have HD : Hid (Z = if bs.getD j 0 < 128 ∨ 191 < bs.getD j 0 then none else Nn.run (64 * C + bs.getD j 0 - 128) (bs.drop (j + 1))) := by
        show _ = _
        rw [← Nn.run_drop _ _ _ (by rw [HL.out]; exact hlt)]; exact HR.out.symm
      have hb256 := HBS.out j
      generalize bs.getD j 0 = b at *
      clear HR
      by_cases hbad : b < 128 ∨ 191 < b
      · have HN : Hid (Z = none) := by have := HD.out; rwa [if_pos hbad] at this
        clear HD
        by_cases h1 : b < 128
        · clear hbad
          go_wp2_with fail
          go_ret2
          exact ⟨by rw [HZ.out, HN.out, Nn.done_none]; rfl, HB.out⟩
        · have h2 : 191 < b := by omega
          clear hbad
          go_wp2_with fail
          go_ret2
          exact ⟨by rw [HZ.out, HN.out, Nn.done_none]; rfl, HB.out⟩
      · have HR2 : Hid (Nn.run (64 * C + b - 128) (bs.drop (j + 1)) = Z) := by have := HD.out; rw [if_neg hbad] at this; exact this.symm
        have h1 : ¬ b < 128 := by omega
        have h2 : ¬ 191 < b := by omega
        obtain ⟨D, hD⟩ : ∃ D, 64 * C + b - 128 = D := ⟨_, rfl⟩
        have hDz : 64 * (C : Int) + (b : Int) - 128 = (D : Int) := by omega
        have hD3 : D ≤ 8388607 := by omega
        have hd0 : j + 1 = 1 → D ≤ 2047 := by omega
        have hd1 : j + 1 = 2 → D ≤ 131071 := by omega
        rw [hD] at HR2
        clear HD hbad hD
        go_wp2_with fail
        go_round
        case rel => exact ⟨_, _, .int .i64 D, .int .u8 b, .int .i64 ((j : Int) + 1), ⟨j + 1, by omega, by go_num, D, rfl, HR2, by omega, hd0, hd1, hD3⟩, rfl, rfl, rfl, rfl, rfl⟩
        case measure => simp only [intOf]; omega
    · obtain rfl : j = 3 := by omega
      have HN : Hid (Z = some C) := by
        have := HR.out
        rw [List.drop_eq_nil_of_le (by rw [HL.out]; omega), Nn.run] at this
        exact this.symm
      clear HR HCL HBS q0 q1 q2
      obtain ⟨c, hc⟩ : ∃ c : Int, c = (C : Int) := ⟨_, rfl⟩
      have HCc : Hid (c = (C : Int)) := hc
      by_cases h1 : C < 65536
      · have HE : Hid (Nn.chr s.data.toList = (0, 0)) := by
          show _ = _
          rw [HZ.out, HN.out]; exact Nn.done_bad (.inl h1)
        have i1 : c < 65536 := by omega
        rw [← hc]
        clear h1 HZ HN hc q3
        go_wp2_with fail
        go_ret2
        exact ⟨by rw [HE.out]; rfl, HB.out⟩
      by_cases h2 : 1114111 < C
      · have HE : Hid (Nn.chr s.data.toList = (0, 0)) := by
          show _ = _
          rw [HZ.out, HN.out]; exact Nn.done_bad (.inr (.inl h2))
        have i1 : ¬ c < 65536 := by omega
        have i2 : 1114111 < c := by omega
        rw [← hc]
        clear h1 h2 HZ HN hc q3
        go_wp2_with fail
        go_ret2
        exact ⟨by rw [HE.out]; rfl, HB.out⟩
      by_cases h3 : 55296 ≤ C ∧ C < 57344
      · have HE : Hid (Nn.chr s.data.toList = (0, 0)) := by
          show _ = _
          rw [HZ.out, HN.out]; exact Nn.done_bad (.inr (.inr h3))
        have i1 : ¬ c < 65536 := by omega
        have i2 : ¬ 1114111 < c := by omega
        have i3 : 55296 ≤ c := by omega
        have i4 : c < 57344 := by omega
        rw [← hc]
        clear h1 h2 h3 HZ HN hc q3
        exact absurd i4 (by omega)
      have HE : Hid (Nn.chr s.data.toList = (C, 4)) := by
        show _ = _
        rw [HZ.out, HN.out]; exact Nn.done_good (by omega)
      have i1 : ¬ c < 65536 := by omega
      have i2 : ¬ 1114111 < c := by omega
      by_cases h4 : 55296 ≤ C
      · have i3 : 55296 ≤ c := by omega
        have i4 : ¬ c < 57344 := by omega
        rw [← hc]
        clear h1 h2 h3 h4 HZ HN hc q3
        go_wp2_with fail
        go_ret2
        exact ⟨by rw [HE.out, HCc.out]; rfl, HB.out⟩
      · have i3 : ¬ 55296 ≤ c := by omega
        rw [← hc]
        clear h1 h2 h3 h4 HZ HN hc q3
        exact absurd i1 (by omega)

set_option maxHeartbeats 1000000 in
theorem rchar_nil (w : World) : Calls Tryz.prog 136 #[.string ⟨#[]⟩] w fun e w' => e = .returned (.tuple #[.int .i64 0, .int .i64 0]) ∧ w' = w := by
  go_enter Tryz.func136, Tryz.ntmps136
  go_wp2_with fail
  go_ret2
  exact ⟨rfl, rfl⟩

set_option maxHeartbeats 1000000 in
theorem rchar_few (s : ByteArray) (w : World) (h0 : 0 < s.size) (b0 : Nat) (hb0 : s[0].toNat = b0) (hlt : b0 < 128) :
    Calls Tryz.prog 136 #[.string s] w fun e w' => e = .returned (.tuple #[.int .i64 b0, .int .i64 1]) ∧ w' = w := by
  have hne : s.data.toList ≠ [] := fun e => by rw [Lib.size_eq, e] at h0; simp at h0
  have e0 : s.toList.isEmpty = false := by
    rw [Lib.toList_data]
    cases hx : s.data.toList with
    | nil => exact absurd hx hne
    | cons a b => rfl
  have e0' : (s.toList == []) = false := by rw [beq_eq_false_iff_ne, Lib.toList_data]; exact hne
  have h0z : (0 : Int) < (s.size : Int) := by omega
  clear hne
  go_enter Tryz.func136, Tryz.ntmps136
  go_wp2_with fail
  go_ret2
  exact ⟨rfl, rfl⟩

set_option maxHeartbeats 1000000 in
theorem rchar_none (s : ByteArray) (w : World) (h0 : 0 < s.size) (b0 : Nat) (hb0 : s[0].toNat = b0) (hlt : ¬ b0 < 128) (h256 : b0 < 256) (h : (194 ≤ b0 ∧ b0 < 224 ∧ s.size < 2) ∨ (224 ≤ b0 ∧ b0 < 240 ∧ s.size < 3) ∨ (240 ≤ b0 ∧ b0 < 245 ∧ s.size < 4) ∨ b0 < 194 ∨ 245 ≤ b0) :
    Calls Tryz.prog 136 #[.string s] w fun e w' => e = .returned (.tuple #[.int .i64 0, .int .i64 0]) ∧ w' = w := by
  have hne : s.data.toList ≠ [] := fun e => by rw [Lib.size_eq, e] at h0; simp at h0
  have e0 : s.toList.isEmpty = false := by
    rw [Lib.toList_data]
    cases hx : s.data.toList with
    | nil => exact absurd hx hne
    | cons a b => rfl
  have e0' : (s.toList == []) = false := by rw [beq_eq_false_iff_ne, Lib.toList_data]; exact hne
  have h0z : (0 : Int) < (s.size : Int) := by omega
  clear hne
  rcases h with ⟨h1, h2, h3⟩ | ⟨h1, h2, h3⟩ | ⟨h1, h2, h3⟩ | h1 | h1
  all_goals
    go_enter Tryz.func136, Tryz.ntmps136
    go_wp2_with fail
    go_ret2
    exact ⟨rfl, rfl⟩

theorem rchar_any (s : ByteArray) (w : World) (hs : s.size ≤ 140737488351232) : Calls Tryz.prog 136 #[.string s] w (ChOut s w) := by
  by_cases h0 : 0 < s.size
  · have hne : s.data.toList ≠ [] := fun e => by rw [Lib.size_eq, e] at h0; simp at h0
    obtain ⟨b0, hb0⟩ : ∃ b0, s[0].toNat = b0 := ⟨_, rfl⟩
    have h256 : b0 < 256 := by rw [← hb0]; exact UInt8.toNat_lt _
    have hR := Nn.chr_R _ hne
    rw [← first_get s h0, hb0] at hR
    by_cases h1 : b0 < 128
    · refine (rchar_few s w h0 b0 hb0 h1).mono ?_
      rintro e w' ⟨rfl, rfl⟩
      refine ⟨?_, Below.refl _ _⟩
      rw [hR, Nn.chrR, if_pos h1]
      rfl
    by_cases hbad : (194 ≤ b0 ∧ b0 < 224 ∧ s.size < 2) ∨ (224 ≤ b0 ∧ b0 < 240 ∧ s.size < 3) ∨ (240 ≤ b0 ∧ b0 < 245 ∧ s.size < 4) ∨ b0 < 194 ∨ 245 ≤ b0
    · refine (rchar_none s w h0 b0 hb0 h1 h256 hbad).mono ?_
      rintro e w' ⟨rfl, rfl⟩
      refine ⟨?_, Below.refl _ _⟩
      have : Nn.chr s.data.toList = (0, 0) := by
        rw [hR]
        rw [Lib.size_eq] at hbad
        rcases hbad with h | h | h | h
        · exact Nn.run_short _ _ _ _ _ (.inl h)
        · exact Nn.run_short _ _ _ _ _ (.inr (.inl h))
        · exact Nn.run_short _ _ _ _ _ (.inr (.inr h))
        · exact Nn.run_no _ _ _ _ _ (by omega) h
      rw [this]
      rfl
    by_cases c2 : 194 ≤ b0 ∧ b0 < 224
    · exact rchar_two s w hs h0 b0 hb0 c2 (by omega)
    by_cases c3 : 224 ≤ b0 ∧ b0 < 240
    · exact rchar_three s w hs h0 b0 hb0 c3 (by omega)
    · exact rchar_four s w hs h0 b0 hb0 (by omega) (by omega)
  · have hz : s.data.toList = [] := List.length_eq_zero_iff.1 (by rw [← Lib.size_eq]; omega)
    have hs0 : s = ⟨#[]⟩ := by
      apply ByteArray.ext
      apply Array.toList_inj.1
      simpa using hz
    subst hs0
    refine (rchar_nil w).mono ?_
    rintro e w' ⟨rfl, rfl⟩
    exact ⟨rfl, Below.refl _ _⟩
end Go.Proofs.YtimdioacmojkeaaGreatDoor

namespace Go.Proofs.YtimdioacmojkeaaGreatDoor
open Go.RowKit
set_option maxRecDepth 4000

namespace Nn
open Go.Lib
/-- a text has characters just if it is UTF-8 -/
theorem chars_valid (l : List UInt8) : validD l = (chars l).isSome := by
  induction l using chars_ind with
  | h0 => rfl
  | hs l hne ih =>
    rw [validD_step l hne, chars_step l hne]
    by_cases c : decodeL l = (65533, 1)
    · have e : (chr l).2 = 0 := by rw [chr, if_neg hne, if_pos c]
      rw [if_pos (by rw [c]; exact ⟨rfl, rfl⟩), if_pos e]
      rfl
    · have e : chr l = decodeL l := by rw [chr, if_neg hne, if_neg c]
      have h1 := decodeL_width l
      rw [if_neg (fun q => c (Prod.ext q.1 q.2)), if_neg (by rw [e]; omega), ← e, ih (by rw [e]; omega)]
      cases chars (l.drop (chr l).2) <;> rfl
/-- may a name have that character? -/
def may (c : Nat) : Bool := decide (32 ≤ c ∧ c ≠ 127 ∧ c ≠ 47)
theorem may_any_iff (l : List Nat) : l.any (fun c => decide (c = 47 ∨ c < 32 ∨ c = 127)) = !l.all may := by
  induction l with
  | nil => rfl
  | cons c l ih =>
    rw [List.any_cons, List.all_cons, ih, Bool.not_and]
    congr 1
    unfold may
    by_cases h : c = 47 ∨ c < 32 ∨ c = 127
    · rw [decide_eq_true h, decide_eq_false (by omega)]; rfl
    · rw [decide_eq_false h, decide_eq_true (by omega)]; rfl
/-- P36 of a text that has characters -/
theorem nm_some {s : List UInt8} {l : List Nat} (h : chars s = some l) (h0 : s ≠ []) (h1 : s ≠ [46]) (h2 : s ≠ [46, 46]) : nm s = if l.all may = false then 8 else if 24 < l.length then 2 else 0 := by
  have hl : l ≠ [] := fun e => h0 ((chars_empty s).1 (by rw [h, e]))
  unfold nm
  rw [h]
  dsimp only
  rw [if_neg (by simp only [not_or]; exact ⟨hl, h1, h2⟩), may_any_iff]
  cases l.all may <;> simp
theorem nm_none {s : List UInt8} (h : chars s = none) : nm s = 8 := by unfold nm; rw [h]
theorem nm_few {s : List UInt8} (h : s = [] ∨ s = [46] ∨ s = [46, 46]) : nm s = 8 := by
  rcases h with rfl | rfl | rfl <;> decide +kernel
/-- a step of ranging -/
theorem chars_head {l : List UInt8} {r : List Nat} (h : chars l = some r) (hne : l ≠ []) : decodeL l = chr l ∧ 1 ≤ (chr l).2 ∧ ∃ r', r = (chr l).1 :: r' ∧ chars (l.drop (chr l).2) = some r' := by
  rw [chars_step l hne] at h
  by_cases c : (chr l).2 = 0
  · rw [if_pos c] at h; cases h
  rw [if_neg c] at h
  obtain ⟨r', h1, rfl⟩ := Option.map_eq_some_iff.1 h
  refine ⟨?_, by omega, r', rfl, h1⟩
  unfold chr at c ⊢
  rw [if_neg hne] at c ⊢
  split at c
  · exact absurd rfl c
  · rename_i q; rw [if_neg q]
end Nn

theorem may_any (c : Nat) (w : World) :
    Calls Tryz.prog 133 #[.int .i32 c] w fun e w' => e = .returned (.bool (Nn.may c)) ∧ w' = w := by
  by_cases h1 : 32 ≤ c
  · by_cases h2 : c = 127
    · have HE : Hid (Nn.may c = false) := decide_eq_false (by omega)
      have hq : ((c : Int) != 127) = false := by rw [bne_eq_false_iff_eq]; omega
      clear h2
      go_enter Tryz.func133, Tryz.ntmps133
      go_wp2_with fail
      go_ret
      exact ⟨by rw [HE.out]; rfl, rfl⟩
    · have hq : ((c : Int) != 127) = true := by rw [bne_iff_ne]; omega
      by_cases h3 : c = 47
      · have HE : Hid (Nn.may c = false) := decide_eq_false (by omega)
        have hr : ((c : Int) != 47) = false := by rw [bne_eq_false_iff_eq]; omega
        clear h2 h3
        go_enter Tryz.func133, Tryz.ntmps133
        go_wp2_with fail
        go_ret
        exact ⟨by rw [HE.out]; rfl, rfl⟩
      · have HE : Hid (Nn.may c = true) := decide_eq_true (by omega)
        have hr : ((c : Int) != 47) = true := by rw [bne_iff_ne]; omega
        clear h2 h3
        go_enter Tryz.func133, Tryz.ntmps133
        go_wp2_with fail
        go_ret
        exact ⟨by rw [HE.out]; rfl, rfl⟩
  · have HE : Hid (Nn.may c = false) := decide_eq_false (by omega)
    go_enter Tryz.func133, Tryz.ntmps133
    go_wp2_with fail
    go_ret
    exact ⟨by rw [HE.out]; rfl, rfl⟩

/-- unicode/utf8's tables as they are laid -/
def Tabs (w : World) : Prop := Lib.Utf8Tabs 1 2 w
theorem Tabs.below {w w' : World} (h : Tabs w) (hb : Below w.heap.size w w') : Tabs w' := Utf8Tabs_below h hb

theorem data_ne {s : ByteArray} {l : List UInt8} (h : s.data.toList ≠ l) : (s.toList == l) = false := by
  rw [beq_eq_false_iff_ne, Lib.toList_data]
  exact h
theorem of_data {s : ByteArray} {l : List UInt8} (h : s.data.toList = l) : s = ⟨l.toArray⟩ := by
  apply ByteArray.ext
  apply Array.toList_inj.1
  simpa using h

set_option maxHeartbeats 1000000 in
theorem check_few (s : ByteArray) (w : World) (h : s.data.toList = [] ∨ s.data.toList = [46] ∨ s.data.toList = [46, 46]) :
    Calls Tryz.prog 103 #[.string s] w fun e w' => e = .returned (.int .i64 8) ∧ Below w.heap.size w w' := by
  rcases h with h | h | h
  all_goals
    obtain rfl := of_data h
    clear h
    go_enter Tryz.func103, Tryz.ntmps103
    go_wp2_with fail
    go_ret
    exact ⟨rfl, Below.refl _ _⟩

set_option maxHeartbeats 1000000 in
theorem check_of (s : ByteArray) (w : World) (hs : s.size ≤ 9223372036854775807)
    (hV : Calls Tryz.prog 132 #[.string s] w fun e w' => e = .returned (.bool (Lib.validD s.data.toList)) ∧ Below w.heap.size w w') :
    Calls Tryz.prog 103 #[.string s] w fun e w' => e = .returned (.int .i64 (Nn.nm s.data.toList)) ∧ Below w.heap.size w w' := by
  by_cases h : s.data.toList = [] ∨ s.data.toList = [46] ∨ s.data.toList = [46, 46]
  · rw [Nn.nm_few h]
    exact check_few s w h
  simp only [not_or] at h
  have e0 : (s.toList == []) = false := data_ne h.1
  have e0' : s.toList.isEmpty = false := by
    rw [Lib.toList_data]
    cases hx : s.data.toList with
    | nil => exact absurd hx h.1
    | cons a b => rfl
  have e1 : (s.toList == [46]) = false := data_ne h.2.1
  have e2 : (s.toList == [46, 46]) = false := data_ne h.2.2
  cases hc : Nn.chars s.data.toList with
  | none =>
    rw [Nn.chars_valid, hc] at hV
    have HE : Hid (Nn.nm s.data.toList = 8) := Nn.nm_none hc
    clear hc h
    go_enter Tryz.func103, Tryz.ntmps103
    go_wp2_with fail
    refine hV.mono ?_
    rintro e w1 ⟨rfl, b1⟩
    go_wp2_with fail
    go_ret
    exact ⟨by rw [HE.out]; rfl, b1⟩
  | some L =>
    rw [Nn.chars_valid, hc] at hV
    have HE : Hid (Nn.nm s.data.toList = if L.all Nn.may = false then 8 else if 24 < L.length then 2 else 0) := Nn.nm_some hc h.1 h.2.1 h.2.2
    have HC : Hid (Nn.chars (s.data.toList.drop 0) = some L) := hc
    clear hc h
    go_enter Tryz.func103, Tryz.ntmps103
    go_wp2_with fail
    refine hV.mono ?_
    rintro e w1 ⟨rfl, b1⟩
    have HB : Hid (Below w.heap.size w w1) := b1
    clear b1 hV
    go_wp2_with fail
    go_loopw [3] (fun c wr => ∃ (pos : Nat) (ds rs : List Nat), c = .int .i64 ds.length ∧ wr = w1.iter s pos ∧ Hid (Nn.chars (s.data.toList.drop pos) = some rs) ∧ Hid (ds.all Nn.may = true) ∧ Hid (L = ds ++ rs) ∧ pos ≤ s.size ∧ ds.length ≤ pos) (fun _ wr => s.size - wr.iterPos w1.heap.size)
    case atStart => exact ⟨0, [], L, rfl, rfl, HC, rfl, rfl, by omega, by simp⟩
    case round =>
      clear HC
      obtain ⟨pos, ds, rs, rfl, rfl, HC, HM, HL, hp, hd⟩ := hrel
      by_cases hlt : pos < s.size
      · have hne : s.data.toList.drop pos ≠ [] := by
          intro e
          have := List.drop_eq_nil_iff.1 e
          rw [← Lib.size_eq] at this
          omega
        obtain ⟨x1, x2, r', x3, x4⟩ := Nn.chars_head HC.out hne
        have x5 := Nn.chr_le (s.data.toList.drop pos)
        rw [List.length_drop, ← Lib.size_eq] at x5
        rw [Lib.decodeL_drop] at x1
        rw [List.drop_drop] at x4
        have hnx : ∀ ty, (Instr.next (.pointer (some ⟨w1.heap.size, 0, none⟩)) true ty).run Tryz.prog (w1.iter s pos) = _ := fun ty => run_next_any w1 s pos ty hlt
        rw [x1] at hnx
        generalize Nn.chr (s.data.toList.drop pos) = D at *
        obtain ⟨r, n⟩ := D
        dsimp only at *
        have HX4 : Hid (Nn.chars (s.data.toList.drop (pos + n)) = some r') := x4
        have HL2 : Hid (L = ds ++ r :: r') := by rw [← x3]; exact HL.out
        clear x1 x3 x4 HC HL hne
        by_cases hm : Nn.may r = true
        · have hq := may_any r (w1.iter s (pos + n))
          rw [hm] at hq
          go_wp2_with fail
          refine hq.mono ?_
          rintro e u ⟨rfl, rfl⟩
          go_wp2_with fail
          go_roundw
          case rel =>
            refine ⟨pos + n, ds ++ [r], r', by simp, rfl, HX4, ?_, ?_, by omega, by simp; omega⟩
            · show _ = _
              rw [List.all_append, HM.out]; simp [hm]
            · show _ = _
              rw [HL2.out]; simp
          case measure => simp only [World.iterPos_iter]; omega
        · have hm := Bool.eq_false_iff.2 hm
          have hq := may_any r (w1.iter s (pos + n))
          rw [hm] at hq
          have HZ : Hid (Nn.nm s.data.toList = 8) := by
            show _ = _
            rw [HE.out, HL2.out, if_pos (by simp [hm])]
          go_wp2_with fail
          refine hq.mono ?_
          rintro e u ⟨rfl, hu⟩
          obtain rfl := hu.symm
          go_wp2_with fail
          go_ret
          exact ⟨by rw [HZ.out]; rfl, HB.out.alloc HB.out.size _⟩
      · obtain rfl : pos = s.size := by omega
        have hr : rs = [] := by
          have := HC.out
          rw [List.drop_eq_nil_of_le (by rw [← Lib.size_eq]; omega), Nn.chars_nil] at this
          exact (Option.some.inj this).symm
        have hnx : ∀ ty, (Instr.next (.pointer (some ⟨w1.heap.size, 0, none⟩)) true ty).run Tryz.prog (w1.iter s s.size) = _ := fun ty => run_next_end w1 s s.size ty hlt
        have HZ : Hid (Nn.nm s.data.toList = if 24 < ds.length then 2 else 0) := by
          show _ = _
          rw [HE.out, HL.out, hr, List.append_nil, if_neg (by rw [HM.out]; simp)]
        clear HC HL hr hlt hp
        by_cases hq : 24 < ds.length
        · go_wp2_with fail
          go_ret
          exact ⟨by rw [HZ.out, if_pos hq]; rfl, HB.out.alloc HB.out.size _⟩
        · go_wp2_with fail
          go_ret
          exact ⟨by rw [HZ.out, if_neg hq]; rfl, HB.out.alloc HB.out.size _⟩
end Go.Proofs.YtimdioacmojkeaaGreatDoor

namespace Go.Proofs.YtimdioacmojkeaaGreatDoor
open Go.RowKit
set_option maxRecDepth 4000

/-- a number as a cell -/
def Nv (n : Nat) : Value := .int .i64 n
theorem info_int : (Tryz.prog.info? 3).map (fun i => (i.zero, i.size, i.bytes)) = some (some (.int .i64 0), 1, 8) := by kernel_rfl
theorem info_of' {P : Program} {e : TypeId} {z : Option Value} {s b : Nat} (h : (P.info? e).map (fun i => (i.zero, i.size, i.bytes)) = some (z, s, b)) : ∃ i, P.info? e = some i ∧ i.zero = z ∧ i.size = s ∧ i.bytes = b := by
  cases hi : P.info? e with
  | none => rw [hi] at h; cases h
  | some i =>
    rw [hi] at h
    simp only [Option.map_some, Option.some.injEq, Prod.mk.injEq] at h
    exact ⟨i, rfl, h.1, h.2.1, h.2.2⟩
theorem own_num {base : Nat} {w wr w1 : World} {v v1 : Value} {l : List Nat} {t : Nat} {o : Obj} (hown : wr.ownsRow base 3 1 v l.length (l.map Nv))
    (hown1 : w1.ownsRow base 3 1 v1 (l.length + 1) (l.map Nv ++ [.int .i64 t])) (hg : (wr.alloc o).grownBy w1 v.ownBlock) (hbel : Below base w wr) (hbase : base ≤ w.heap.size) :
    w1.ownsRow base 3 1 v1 (l ++ [t]).length ((l ++ [t]).map Nv) ∧ Below base w w1 := by
  refine ⟨by simpa [Nv] using hown1, ?_⟩
  have hs := hbel.size
  refine (hbel.alloc (by omega) o).grown hg (by simp; omega) ?_
  intro k hk
  exact (hown.lt k hk).1
/-- what Chars answers -/
def CharsOut (s : ByteArray) (w : World) (e : Ending) (w' : World) : Prop :=
  Below w.heap.size w w' ∧ ((Nn.chars s.data.toList = none ∧ e = .returned (.tuple #[.slice none 0 0, .bool false])) ∨
    ∃ l v, Nn.chars s.data.toList = some l ∧ e = .returned (.tuple #[v, .bool true]) ∧ w'.ownsRow w.heap.size 3 1 v l.length (l.map Nv))
theorem Nn.chars_count : ∀ (l : List UInt8) (cs : List Nat), Nn.chars l = some cs → cs.length ≤ l.length := by
  intro l
  induction l using Nn.chars_ind with
  | h0 => intro cs h; rw [Nn.chars_nil] at h; cases h; simp
  | hs l hne ih =>
    intro cs h
    obtain ⟨_, h1, r, rfl, h2⟩ := Nn.chars_head h hne
    have := ih (by omega) r h2
    have hl := List.length_pos_iff.2 hne
    rw [List.length_drop] at this
    simp only [List.length_cons]
    omega
theorem Nn.ext_drop' (s : ByteArray) (i : Nat) : (s.extract i s.size).data.toList = s.data.toList.drop i := by
  rw [ByteArray.data_extract, Array.toList_extract, List.extract_eq_take_drop]
  exact List.take_of_length_le (by rw [List.length_drop, ← Lib.size_eq]; omega)
/-- how far Chars is -/
structure ChS (Z : Option (List Nat)) (n : Nat) (ds : List Nat) (t : ByteArray) : Prop where
  val : (Nn.chars t.data.toList).map (ds ++ ·) = Z
  len : ds.length + t.size ≤ n

set_option maxHeartbeats 2000000 in
theorem rchars_any (s : ByteArray) (w : World) (hs : s.size ≤ 4194304) :
    Calls Tryz.prog 107 #[.string s] w (CharsOut s w) := by
  obtain ⟨i0, hi, hz0, hz1, hz2⟩ := info_of' info_int
  obtain ⟨Z, hZ⟩ : ∃ Z, Nn.chars s.data.toList = Z := ⟨_, rfl⟩
  have HZ : Hid (Nn.chars s.data.toList = Z) := hZ
  have HS : Hid (ChS Z s.size [] s) := ⟨by rw [hZ]; cases Z <;> rfl, by simp⟩
  clear hZ
  go_enter Tryz.func107, Tryz.ntmps107
  go_wp2_with fail
  go_loopg [0, 4] (s.size + 1) (fun g s0 v wr => ∃ (t : ByteArray) (ds : List Nat), s0 = .string t ∧ g = t.size + 1 ∧ Hid (ChS Z s.size ds t) ∧ Hid (wr.ownsRow w.heap.size 3 1 v ds.length (ds.map Nv)) ∧ Hid (Below w.heap.size w wr))
  case atStart => exact ⟨s, [], rfl, rfl, HS, World.ownsRow_nil _ _ _ _, Below.refl _ _⟩
  case round =>
    clear HS
    obtain ⟨t, ds, rfl, rfl, HS, HO, HB⟩ := hrel
    have hlen := HS.out.len
    obtain ⟨a1, c1, rfl⟩ := own_len HO.out
    by_cases h0 : t.data.toList = []
    · have HE : Hid (Z = some ds) := by
        have := HS.out.val
        rw [h0, Nn.chars_nil] at this
        show _ = _
        simpa using this.symm
      obtain rfl := of_data h0
      clear h0
      go_wp2_with fail
      go_ret2
      exact ⟨HB.out, .inr ⟨ds, _, by rw [HZ.out, HE.out], rfl, HO.out⟩⟩
    · have e0 : (t.toList == []) = false := data_ne h0
      have e0' : t.toList.isEmpty = false := by
        rw [Lib.toList_data]
        cases hx : t.data.toList with
        | nil => exact absurd hx h0
        | cons a b => rfl
      have hq := rchar_any t wr (by omega)
      unfold ChOut at hq
      have hv := HS.out.val
      rw [Nn.chars_step _ h0] at hv
      have hle := Nn.chr_le t.data.toList
      rw [← Lib.size_eq] at hle
      have hbs := HB.out.size
      by_cases hn : (Nn.chr t.data.toList).2 = 0
      · have HE : Hid (Z = none) := by
          rw [if_pos hn] at hv
          exact hv.symm
        rw [hn] at hq
        clear hv hle hn
        generalize (Nn.chr t.data.toList).1 = c at *
        go_wp2_with fail
        refine hq.mono ?_
        rintro e w2 ⟨rfl, b2⟩
        have HB2 : Hid (Below w.heap.size w w2) := HB.out.trans (b2.mono HB.out.size)
        clear b2 hq
        go_wp2_with fail
        go_ret2
        exact ⟨HB2.out, .inl ⟨by rw [HZ.out, HE.out], rfl⟩⟩
      · obtain ⟨r, hr⟩ : ∃ r, t.extract (Nn.chr t.data.toList).2 t.size = r := ⟨_, rfl⟩
        have hrz : r.size + (Nn.chr t.data.toList).2 = t.size := by rw [← hr, ByteArray.size_extract]; omega
        have HS2 : Hid (ChS Z s.size (ds ++ [(Nn.chr t.data.toList).1]) r) := by
          refine ⟨?_, by simp; omega⟩
          rw [if_neg hn] at hv
          rw [← hv, ← hr, Nn.ext_drop', Option.map_map]
          congr 1
          funext x
          simp
        generalize (Nn.chr t.data.toList).1 = c at *
        generalize (Nn.chr t.data.toList).2 = n at *
        have hnz : ((n : Int) == 0) = false := by rw [beq_eq_false_iff_ne]; omega
        have hn0 : (0 : Int) ≤ (n : Int) := by omega
        have hnl : (n : Int) ≤ (t.size : Int) := by omega
        have hdl : ds.length ≤ 4194304 := by omega
        clear hv
        go_wp2_with fail
        refine hq.mono ?_
        rintro e w2 ⟨rfl, b2⟩
        have hown := own_below HO.out b2
        have hbel := HB.out.trans (b2.mono HB.out.size)
        have hb2 := hbel.size
        clear b2 hq HO HB
        go_wp2_with (at_builtin; refine wpList_append_own _ rfl _ _ 143 rfl w.heap.size 3 i0 (.int .i64 0) 1 8 Tryz.underlying143 hi hz0 hz1 hz2 rfl (by decide) _ _ _ rfl (hown.alloc _) ⟨w2.heap.size, 0, none⟩ 1 1 [.int .i64 c] rfl rfl ?c1 ?c2 ?c3 ?c4 ?c5 ?_)
        case c1 =>
          intro j u hj
          match j, hj with
          | 0, hj => simp at hj; subst hj; simp [Addr.add]
        case c2 => intro u hu; simp at hu; subst hu; rfl
        case c3 => unfold maxLen; omega
        case c4 => omega
        case c5 => simp; omega
        intro v' w3 hown1 hgrow _
        have R := own_num hown hown1 hgrow hbel (Nat.le_refl _)
        have HR1 : Hid (w3.ownsRow w.heap.size 3 1 v' (ds ++ [c]).length ((ds ++ [c]).map Nv)) := R.1
        have HR2 : Hid (Below w.heap.size w w3) := R.2
        clear R hown1 hgrow hown hbel
        go_wp2_with fail
        go_roundg (r.size + 1)
        case measure => omega
        case rel => exact ⟨r, ds ++ [c], rfl, rfl, HS2, HR1, HR2⟩

theorem num_cell {base : Nat} {w : World} {g n cap : Nat} {l : List Nat} (h : w.ownsRow base 3 1 (.slice (some ⟨g, 0, none⟩) n cap) n (l.map Nv)) (k : Nat) (hk : k < n) :
    w.cell? ⟨g, k, none⟩ = some (.int .i64 (l.getD k 0 : Nat)) := by
  have hn : l.length = n := by have := h.1; simpa using this
  rw [h.cellAt k (by omega), List.getElem?_map, List.getD_eq_getElem?_getD, List.getElem?_eq_getElem (by omega)]
  rfl
theorem Nn.all_drop (l : List Nat) (k : Nat) (hk : k < l.length) : (l.drop k).all Nn.may = (Nn.may (l.getD k 0) && (l.drop (k + 1)).all Nn.may) := by
  rw [List.drop_eq_getElem_cons hk, List.all_cons, List.getD_eq_getElem?_getD, List.getElem?_eq_getElem hk]
  rfl

set_option maxHeartbeats 2000000 in
set_option maxRecDepth 8000 in
theorem rname_any (s : ByteArray) (w : World) (hs : s.size ≤ 4194304) :
    Calls Tryz.prog 82 #[.string s] w fun e w' => e = .returned (.int .i64 (Nn.nm s.data.toList)) ∧ Below w.heap.size w w' := by
  have hq := rchars_any s w hs
  go_enter Tryz.func82, Tryz.ntmps82
  go_wp2_with fail
  refine hq.mono ?_
  rintro e w1 ⟨hb, ⟨hc, rfl⟩ | ⟨l, v, hc, rfl, ho⟩⟩
  · have HE : Hid (Nn.nm s.data.toList = 8) := Nn.nm_none hc
    have HB : Hid (Below w.heap.size w w1) := hb
    clear hb hc hq
    go_wp2_with fail
    go_ret
    exact ⟨by rw [HE.out]; rfl, HB.out⟩
  · have HB : Hid (Below w.heap.size w w1) := hb
    by_cases hf : s.data.toList = [] ∨ s.data.toList = [46] ∨ s.data.toList = [46, 46]
    · have HE : Hid (Nn.nm s.data.toList = 8) := Nn.nm_few hf
      obtain ⟨a1, c1, rfl⟩ := own_len ho
      rcases hf with hf | hf | hf
      · have hl : l = [] := by rw [hf, Nn.chars_nil] at hc; exact (Option.some.inj hc).symm
        subst hl
        clear hb hc hq ho hf
        go_wp2_with fail
        go_ret
        exact ⟨by rw [HE.out]; rfl, HB.out⟩
      all_goals
        have hl : ((l.length : Int) == 0) = false := by
          rw [beq_eq_false_iff_ne]
          have : l ≠ [] := fun e => by
            rw [e] at hc
            have := (Nn.chars_empty _).1 hc
            rw [hf] at this
            cases this
          have := List.length_pos_iff.2 this
          omega
        obtain rfl := of_data hf
        clear hb hc hq ho hf
        go_wp2_with fail
        go_ret
        exact ⟨by rw [HE.out]; rfl, HB.out⟩
    simp only [not_or] at hf
    have HE : Hid (Nn.nm s.data.toList = if l.all Nn.may = false then 8 else if 24 < l.length then 2 else 0) := Nn.nm_some hc hf.1 hf.2.1 hf.2.2
    have hl0 : 1 ≤ l.length := by
      have : l ≠ [] := fun e => hf.1 ((Nn.chars_empty _).1 (by rw [hc, e]))
      exact List.length_pos_iff.2 this
    have hl1 : l.length ≤ 4194304 := by
      have := Nn.chars_count _ _ hc
      rw [← Lib.size_eq] at this
      omega
    have hl : ((l.length : Int) == 0) = false := by rw [beq_eq_false_iff_ne]; omega
    have e1 : (s.toList == [46]) = false := data_ne hf.2.1
    have e2 : (s.toList == [46, 46]) = false := data_ne hf.2.2
    obtain ⟨g, c, rfl, _⟩ := own_some ho (by omega)
    have HO : Hid (w1.ownsRow w.heap.size 3 1 (.slice (some ⟨g, 0, none⟩) l.length c) l.length (l.map Nv)) := ho
    have HS : Hid ((l.drop 0).all Nn.may = l.all Nn.may) := rfl
    obtain ⟨N, hN⟩ : ∃ N, N = l.length := ⟨_, rfl⟩
    have HN : Hid (N = l.length) := hN
    rw [← hN] at HO HE hl hl0 hl1 ⊢
    clear hb hc hq hf ho hN
    generalize l.all Nn.may = A at *
    go_wp2_with fail
    go_loop [29] (fun i => ∃ k : Nat, k ≤ N ∧ i = .int .i64 k ∧ Hid ((l.drop k).all Nn.may = A)) (fun i => N - (intOf i).toNat)
    case atStart => exact ⟨0, by omega, rfl, HS⟩
    case round =>
      clear HS
      obtain ⟨k, hk, rfl, HS⟩ := hrel
      by_cases hlt : k < N
      · have c0 := num_cell HO.out k hlt
        have HD : Hid (A = (Nn.may (l.getD k 0) && (l.drop (k + 1)).all Nn.may)) := by
          show _ = _
          rw [← Nn.all_drop _ _ (by rw [← HN.out]; exact hlt)]; exact HS.out.symm
        generalize l.getD k 0 = b at *
        clear HS
        by_cases h1 : b = 47
        · have HZ : Hid (A = false) := by
            show _ = _
            rw [HD.out, show Nn.may b = false from decide_eq_false (by omega)]; rfl
          subst h1
          clear HD
          go_wp2_with fail
          go_ret
          exact ⟨by rw [HE.out, HZ.out]; rfl, HB.out⟩
        have d1 : ((b : Int) == 47) = false := by rw [beq_eq_false_iff_ne]; omega
        by_cases h2 : b < 32
        · have HZ : Hid (A = false) := by
            show _ = _
            rw [HD.out, show Nn.may b = false from decide_eq_false (by omega)]; rfl
          clear HD h1
          go_wp2_with fail
          go_ret
          exact ⟨by rw [HE.out, HZ.out]; rfl, HB.out⟩
        by_cases h3 : b = 127
        · have HZ : Hid (A = false) := by
            show _ = _
            rw [HD.out, show Nn.may b = false from decide_eq_false (by omega)]; rfl
          subst h3
          clear HD h1 d1
          go_wp2_with fail
          go_ret
          exact ⟨by rw [HE.out, HZ.out]; rfl, HB.out⟩
        have d3 : ((b : Int) == 127) = false := by rw [beq_eq_false_iff_ne]; omega
        have HZ : Hid ((l.drop (k + 1)).all Nn.may = A) := by
          show _ = _
          rw [HD.out, show Nn.may b = true from decide_eq_true (by omega)]; rfl
        clear HD h1 h3
        go_wp2_with fail
        go_round
        case rel => exact ⟨k + 1, by omega, by go_num, HZ⟩
        case measure => simp only [intOf]; omega
      · obtain rfl : k = N := by omega
        have HZ : Hid (A = true) := by
          have := HS.out
          rw [List.drop_eq_nil_of_le (by rw [← HN.out]; omega)] at this
          exact this.symm
        clear HS
        by_cases h24 : 24 < k
        · go_wp2_with fail
          go_ret
          exact ⟨by rw [HE.out, HZ.out, if_neg (by simp), if_pos h24]; rfl, HB.out⟩
        · go_wp2_with fail
          go_ret
          exact ⟨by rw [HE.out, HZ.out, if_neg (by simp), if_neg h24]; rfl, HB.out⟩
end Go.Proofs.YtimdioacmojkeaaGreatDoor

namespace Go.Proofs.YtimdioacmojkeaaGreatDoor
open Go.RowKit
set_option maxRecDepth 4000

/-- a node by value, v its parts -/
abbrev ndV (n : Nod) (v : Value) : Value := .agg (ndC n v).toArray

/-- a node's cells in a block of its own -/
theorem seven_at {w : World} {b : Nat} {T : TypeId} {fr : Nat × Nat} {x0 x1 x2 x3 x4 x5 x6 : Value} (h : w.heap[b]? = some (.cells #[x0, x1, x2, x3, x4, x5, x6] T fr)) :
    w.cell? ⟨b, 0, none⟩ = some x0 ∧ w.cell? ⟨b, 1, none⟩ = some x1 ∧ w.cell? ⟨b, 2, none⟩ = some x2 ∧ w.cell? ⟨b, 3, none⟩ = some x3 ∧ w.cell? ⟨b, 4, none⟩ = some x4 ∧ w.cell? ⟨b, 5, none⟩ = some x5 ∧ w.cell? ⟨b, 6, none⟩ = some x6 := by
  simp only [World.cell?, h]
  exact ⟨rfl, rfl, rfl, rfl, rfl, rfl, rfl⟩

set_option maxHeartbeats 4000000 in
set_option maxRecDepth 10000 in
theorem nodeErr_any (n : Nod) (a : Option Addr) (c : Nat) (w : World) (hn : n.name.size ≤ 4194304) (hl : n.link.size ≤ 9223372036854775807) :
    Calls Tryz.prog 97 #[ndV n (.slice a n.parts.length c)] w fun e w' => e = .returned (.int .i64 (Td.nErr n.nd)) ∧ Below w.heap.size w w' := by
  have HT : Hid (Td.nErr n.nd = if Nn.nm n.name.data.toList ≠ 0 then Nn.nm n.name.data.toList
    else if n.mode < 0 ∨ 511 < n.mode ∨ n.size < 0 ∨ 4096 < n.size ∨ 300 < n.parts.length then 1
    else if n.kind < 1 ∨ 3 < n.kind then 5
    else if (n.kind = 1 ∧ n.link.data.toList ≠ []) ∨ (1 < n.kind ∧ n.size ≠ 0) ∨ (n.kind = 2 ∧ (n.parts.length ≠ 1 ∨ n.link.data.toList ≠ [])) ∨ (n.kind = 3 ∧ (n.parts.length ≠ 0 ∨ n.link.data.toList = [])) then 4
    else if 1024 < n.link.data.toList.length then 2 else 0) := rfl
  obtain ⟨W1, hW1⟩ : ∃ W1, W1 = w.alloc (.cells (ndC n (.slice a n.parts.length c)).toArray 89) := ⟨_, rfl⟩
  have HB1 : Hid (Below w.heap.size w W1) := by rw [hW1]; exact (Below.refl _ w).alloc (Nat.le_refl _) _
  have HM1 : Hid (W1.heap[w.heap.size]? = some (.cells (ndC n (.slice a n.parts.length c)).toArray 89 (0, 0))) := by rw [hW1]; exact heap_alloc_new w _
  have hr := rname_any n.name W1 hn
  generalize Td.nErr n.nd = R at *
  generalize Nn.nm n.name.data.toList = E at *
  generalize n.parts.length = P at *
  obtain ⟨name, kind, mode, time, size, parts, link⟩ := n
  dsimp only at *
  go_enter Tryz.func97, Tryz.ntmps97
  go_wp2_with fail
  rw [← hW1]
  clear hW1
  refine hr.mono ?_
  rintro e w2 ⟨rfl, b2⟩
  have HB : Hid (Below w.heap.size w w2) := HB1.out.trans (b2.mono HB1.out.size)
  obtain ⟨m0, m1, m2, m3, m4, m5, m6⟩ := seven_at ((b2.block _ (Array.getElem?_eq_some_iff.1 HM1.out).1).trans HM1.out)
  clear HB1 HM1 hr b2 m0 m3 hn
  obtain ⟨bk, hbk⟩ : ∃ bk, bk = w.heap.size := ⟨_, rfl⟩
  rw [← hbk] at m1 m2 m4 m5 m6 ⊢
  clear hbk
  by_cases hE : E = 0
  · subst hE
    rw [if_neg (by simp)] at HT
    by_cases h1 : mode < 0
    · have HR : Hid (R = 1) := by
        have := HT.out
        rwa [if_pos (by omega)] at this
      clear HT
      go_wp2_with fail
      go_ret
      exact ⟨by rw [HR.out]; rfl, HB.out⟩
    by_cases h2 : 511 < mode
    · have HR : Hid (R = 1) := by
        have := HT.out
        rwa [if_pos (by omega)] at this
      clear HT
      go_wp2_with fail
      go_ret
      exact ⟨by rw [HR.out]; rfl, HB.out⟩
    by_cases h3 : size < 0
    · have HR : Hid (R = 1) := by
        have := HT.out
        rwa [if_pos (by omega)] at this
      clear HT
      go_wp2_with fail
      go_ret
      exact ⟨by rw [HR.out]; rfl, HB.out⟩
    by_cases h4 : 4096 < size
    · have HR : Hid (R = 1) := by
        have := HT.out
        rwa [if_pos (by omega)] at this
      clear HT
      go_wp2_with fail
      go_ret
      exact ⟨by rw [HR.out]; rfl, HB.out⟩
    by_cases h5 : 300 < P
    · have g5 : (300 : Int) < (P : Int) := by omega
      have HR : Hid (R = 1) := by
        have := HT.out
        rwa [if_pos (by omega)] at this
      clear HT
      go_wp2_with fail
      go_ret
      exact ⟨by rw [HR.out]; rfl, HB.out⟩
    have g5 : ¬ (300 : Int) < (P : Int) := by omega
    rw [if_neg (by omega)] at HT
    by_cases k1 : kind < 1
    · have HR : Hid (R = 5) := by
        have := HT.out
        rwa [if_pos (by omega)] at this
      clear HT
      go_wp2_with fail
      go_ret
      exact ⟨by rw [HR.out]; rfl, HB.out⟩
    by_cases k2 : 3 < kind
    · have HR : Hid (R = 5) := by
        have := HT.out
        rwa [if_pos (by omega)] at this
      clear HT
      go_wp2_with fail
      go_ret
      exact ⟨by rw [HR.out]; rfl, HB.out⟩
    rw [if_neg (by omega)] at HT
    obtain rfl | rfl | rfl : kind = 1 ∨ kind = 2 ∨ kind = 3 := by omega
    · by_cases hk : link.data.toList = []
      · obtain rfl := of_data hk
        rw [if_neg (by simp)] at HT
        have HR : Hid (R = 0) := by
          have := HT.out
          rwa [if_neg (by simp)] at this
        clear HT
        go_wp2_with fail
        go_ret
        exact ⟨by rw [HR.out]; rfl, HB.out⟩
      · have e1 : (link.toList == []) = false := data_ne hk
        have HR : Hid (R = 4) := by
          have := HT.out
          rwa [if_pos (.inl ⟨rfl, hk⟩)] at this
        clear HT
        go_wp2_with fail
        go_ret
        exact ⟨by rw [HR.out]; rfl, HB.out⟩
    · by_cases hz : size = 0
      · subst hz
        by_cases hp : P = 1
        · subst hp
          by_cases hk : link.data.toList = []
          · obtain rfl := of_data hk
            rw [if_neg (by simp)] at HT
            have HR : Hid (R = 0) := by
              have := HT.out
              rwa [if_neg (by simp)] at this
            clear HT
            go_wp2_with fail
            go_ret
            exact ⟨by rw [HR.out]; rfl, HB.out⟩
          · have e1 : (link.toList == []) = false := data_ne hk
            have HR : Hid (R = 4) := by
              have := HT.out
              rwa [if_pos (.inr (.inr (.inl ⟨rfl, .inr hk⟩)))] at this
            clear HT
            go_wp2_with fail
            go_ret
            exact ⟨by rw [HR.out]; rfl, HB.out⟩
        · have gp : ((P : Int) != 1) = true := by rw [bne_iff_ne]; omega
          have HR : Hid (R = 4) := by
            have := HT.out
            rwa [if_pos (.inr (.inr (.inl ⟨rfl, .inl hp⟩)))] at this
          clear HT
          go_wp2_with fail
          go_ret
          exact ⟨by rw [HR.out]; rfl, HB.out⟩
      · have gz : (size != 0) = true := by rw [bne_iff_ne]; exact hz
        have HR : Hid (R = 4) := by
          have := HT.out
          rwa [if_pos (.inr (.inl ⟨by omega, hz⟩))] at this
        clear HT
        go_wp2_with fail
        go_ret
        exact ⟨by rw [HR.out]; rfl, HB.out⟩
    · by_cases hz : size = 0
      · subst hz
        by_cases hp : P = 0
        · subst hp
          by_cases hk : link.data.toList = []
          · obtain rfl := of_data hk
            have HR : Hid (R = 4) := by
              have := HT.out
              rwa [if_pos (.inr (.inr (.inr ⟨rfl, .inr hk⟩)))] at this
            clear HT
            go_wp2_with fail
            go_ret
            exact ⟨by rw [HR.out]; rfl, HB.out⟩
          · have e1 : (link.toList == []) = false := data_ne hk
            rw [if_neg (by simp [hk])] at HT
            by_cases hL : 1024 < link.size
            · have gL : (1024 : Int) < (link.size : Int) := by omega
              have HR : Hid (R = 2) := by
                have := HT.out
                rwa [if_pos (by rw [← Lib.size_eq]; exact hL)] at this
              clear HT
              go_wp2_with fail
              go_ret
              exact ⟨by rw [HR.out]; rfl, HB.out⟩
            · have gL : ¬ (1024 : Int) < (link.size : Int) := by omega
              have HR : Hid (R = 0) := by
                have := HT.out
                rwa [if_neg (by rw [← Lib.size_eq]; exact hL)] at this
              clear HT
              go_wp2_with fail
              go_ret
              exact ⟨by rw [HR.out]; rfl, HB.out⟩
        · have gp : ((P : Int) != 0) = true := by rw [bne_iff_ne]; omega
          have HR : Hid (R = 4) := by
            have := HT.out
            rwa [if_pos (.inr (.inr (.inr ⟨rfl, .inl hp⟩)))] at this
          clear HT
          go_wp2_with fail
          go_ret
          exact ⟨by rw [HR.out]; rfl, HB.out⟩
      · have gz : (size != 0) = true := by rw [bne_iff_ne]; exact hz
        have HR : Hid (R = 4) := by
          have := HT.out
          rwa [if_pos (.inr (.inl ⟨by omega, hz⟩))] at this
        clear HT
        go_wp2_with fail
        go_ret
        exact ⟨by rw [HR.out]; rfl, HB.out⟩
  · have hqn : (E != 0) = true := by rw [bne_iff_ne]; exact hE
    have HR : Hid (R = E) := by
      have := HT.out
      rwa [if_pos hE] at this
    clear HT
    go_wp2_with fail
    go_ret
    exact ⟨by rw [HR.out]; rfl, HB.out⟩

end Go.Proofs.YtimdioacmojkeaaGreatDoor

namespace Go.Proofs.YtimdioacmojkeaaGreatDoor
open Go.RowKit
set_option maxRecDepth 4000

/-- the name ahead of place k -/
def prv (l : List Nod) : Nat → Option (List UInt8)
  | 0 => none
  | j + 1 => (l[j]?).map fun n => n.name.data.toList

theorem Td.ckB_cons (p : Option Td.Bs) (n : Td.Nd) (l : List Td.Nd) : Td.ckB p (n :: l) = if Td.nErr n ≠ 0 then Td.nErr n else if Td.low p n.name = true then 4 else Td.ckB (some n.name) l := rfl

theorem nds_drop (l : List Nod) (k : Nat) (h : k < l.length) : nds (l.drop k) = l[k].nd :: nds (l.drop (k + 1)) := by
  rw [List.drop_eq_getElem_cons h]; rfl

set_option maxHeartbeats 2000000 in
set_option maxRecDepth 10000 in
theorem rnodes_any (v : Value) (l : List Nod) (w : World) (h : Nds w v l) (hl : l.length ≤ 9223372036854775807) (hs : ∀ n ∈ l, n.name.size ≤ 4194304) :
    Calls Tryz.prog 72 #[v] w fun e w' => e = .returned (.int .i64 (Td.check (nds l))) ∧ Below w.heap.size w w' := by
  obtain ⟨a, c, rfl⟩ := h.slice
  have HX : Hid (Nds w (.slice a l.length c) l) := h
  have HS0 : Hid (∀ n ∈ l, n.name.size ≤ 4194304) := hs
  have HT : Hid (Td.check (nds l) = if 64 < l.length then 2 else Td.ckB none (nds l)) := by show _ = _; rw [← nds_length l]; rfl
  generalize Td.check (nds l) = R at *
  obtain ⟨N, hN⟩ : ∃ N, N = l.length := ⟨_, rfl⟩
  have HN : Hid (N = l.length) := hN
  rw [← hN] at HX HT hl ⊢
  clear h hs hN
  by_cases h64 : 64 < N
  · have HR : Hid (R = 2) := by
      have := HT.out
      rwa [if_pos h64] at this
    have g : (64 : Int) < (N : Int) := by omega
    clear HT
    go_enter Tryz.func72, Tryz.ntmps72
    go_wp2_with fail
    go_ret
    exact ⟨by rw [HR.out]; rfl, Below.refl _ _⟩
  have HC : Hid (Td.ckB (prv l 0) (nds (l.drop 0)) = R) := by
    have := HT.out
    rw [if_neg h64] at this
    exact this.symm
  have g : ¬ (64 : Int) < (N : Int) := by omega
  clear HT
  go_enter Tryz.func72, Tryz.ntmps72
  go_wp2_with fail
  go_loopw [11] (fun x wr => ∃ k : Nat, k ≤ N ∧ x = .int .i64 k ∧ Hid (Td.ckB (prv l k) (nds (l.drop k)) = R) ∧ Hid (Below w.heap.size w wr)) (fun x _ => N - (intOf x).toNat)
  case atStart => exact ⟨0, by omega, rfl, HC, Below.refl _ _⟩
  case round =>
    clear HC
    obtain ⟨k, hk, rfl, HC, HB⟩ := hrel
    by_cases hlt : k < N
    · have hkl : k < l.length := by rw [← HN.out]; exact hlt
      obtain ⟨bk, o, cs, rfl, hbk, hcl, ⟨v, rfl, hPs, hok⟩, hcell⟩ := (HX.out.below HB.out).get k l[k] (List.getElem?_eq_getElem hkl)
      have hSt := HC.out
      rw [nds_drop l k hkl, Td.ckB_cons] at hSt
      have HSt : Hid ((if Td.nErr l[k].nd ≠ 0 then Td.nErr l[k].nd else if Td.low (prv l k) l[k].name.data.toList = true then 4 else Td.ckB (some l[k].name.data.toList) (nds (l.drop (k + 1)))) = R) := hSt
      have HP1 : Hid (prv l (k + 1) = some l[k].name.data.toList) := by show _ = _; rw [prv, List.getElem?_eq_getElem hkl]; rfl
      have HPk : Hid (∀ j, k = j + 1 → ∃ t : ByteArray, prv l k = some t.data.toList ∧ wr.cell? ⟨bk, o + j * 7, none⟩ = some (.string t)) := fun j hj => by
        subst hj
        obtain ⟨bk', o', cs', e', _, _, ⟨v', rfl, _⟩, hc'⟩ := (HX.out.below HB.out).get j l[j] (List.getElem?_eq_getElem (by omega))
        cases e'
        exact ⟨l[j].name, by rw [prv, List.getElem?_eq_getElem (by omega)]; rfl, hc' 0 _ rfl⟩
      obtain ⟨av, cv, rfl, _⟩ := hPs.slice
      obtain ⟨W1, hW1⟩ : ∃ W1, W1 = wr.alloc (.cells (ndC l[k] (.slice av l[k].parts.length cv)).toArray 89) := ⟨_, rfl⟩
      have hB1 : Below wr.heap.size wr W1 := by rw [hW1]; exact (Below.refl _ wr).alloc (Nat.le_refl _) _
      have HB1 : Hid (Below w.heap.size w W1) := HB.out.trans (hB1.mono HB.out.size)
      have HM1 : Hid (W1.heap[wr.heap.size]? = some (.cells (ndC l[k] (.slice av l[k].parts.length cv)).toArray 89 (0, 0))) := by rw [hW1]; exact heap_alloc_new wr _
      have hne := nodeErr_any l[k] av cv W1 (HS0.out _ (List.getElem_mem hkl)) hok.link
      have c0 : wr.cell? ⟨bk, o + k * 7, none⟩ = some (.string l[k].name) := hcell 0 _ rfl
      have c1 := hcell 1 _ rfl
      have c2 := hcell 2 _ rfl
      have c3 := hcell 3 _ rfl
      have c4 := hcell 4 _ rfl
      have c5 := hcell 5 _ rfl
      have c6 := hcell 6 _ rfl
      generalize Td.nErr l[k].nd = E at *
      generalize l[k] = n at *
      generalize n.parts.length = np at *
      clear hcell hPs hok hcl HC hSt
      obtain ⟨name, kind, mode, time, size, parts, link⟩ := n
      dsimp only at *
      go_upto_region 6 with fail
      rw [← hW1]
      obtain ⟨b7, hb7⟩ : ∃ b7, b7 = wr.heap.size := ⟨_, rfl⟩
      rw [← hb7] at HM1 ⊢
      obtain ⟨m0, m1, m2, m3, m4, m5, m6⟩ := seven_at HM1.out
      clear hW1 c0 c1 c2 c3 c4 c5 c6 hb7
      go_wp2_with fail
      refine hne.mono ?_
      rintro e w3 ⟨rfl, b3⟩
      have HB3 : Hid (Below w.heap.size w w3) := HB1.out.trans (b3.mono HB1.out.size)
      have HP3 : Hid (∀ j, k = j + 1 → ∃ t : ByteArray, prv l k = some t.data.toList ∧ w3.cell? ⟨bk, o + j * 7, none⟩ = some (.string t)) := fun j hj => by
        obtain ⟨t, p1, p2⟩ := HPk.out j hj
        exact ⟨t, p1, (Below.cell (hB1.trans (b3.mono hB1.size)) (p := ⟨bk, o + j * 7, none⟩) hbk).trans p2⟩
      obtain ⟨n0, _⟩ := seven_at ((b3.block _ (Array.getElem?_eq_some_iff.1 HM1.out).1).trans HM1.out)
      clear hne b3 m0 m1 m2 m3 m4 m5 m6 HPk HM1 hB1 HB1
      by_cases hE : E = 0
      · subst hE
        rw [if_neg (by simp)] at HSt
        go_wp2_with fail
        rcases Nat.eq_zero_or_pos k with hk0 | hk0
        · have hd : decide ((0 : Int) < (k : Int)) = false := decide_eq_false (by omega)
          have HS2 : Hid (Td.ckB (prv l (k + 1)) (nds (l.drop (k + 1))) = R) := by
            have := HSt.out
            rw [hk0, prv, Td.low, if_neg (by simp)] at this
            show _ = _
            rw [HP1.out, hk0]
            exact this
          clear HSt HP3 HP1
          go_quiet (fail)
          go_wp2_with fail
          go_roundw
          case measure => simp only [intOf]; omega
          case rel => exact ⟨k + 1, by omega, by go_num, HS2, below_drewN HB3.out _⟩
        · obtain ⟨j, rfl⟩ : ∃ j, k = j + 1 := ⟨k - 1, by omega⟩
          obtain ⟨t, p1, p2⟩ := HP3.out j rfl
          have hd : decide ((0 : Int) < ((j + 1 : Nat) : Int)) = true := decide_eq_true (by omega)
          have hj : j < N := by omega
          have HL : Hid ((if (!Op.bytesLess t.data.toList name.data.toList) = true then 4 else Td.ckB (prv l (j + 1 + 1)) (nds (l.drop (j + 1 + 1)))) = R) := by
            have := HSt.out
            rw [p1, Td.low] at this
            rw [HP1.out]
            exact this
          clear HSt HP3 HP1 p1
          rw [← Lib.toList_data, ← Lib.toList_data] at HL
          go_quiet (fail)
          cases hbl : Op.bytesLess t.toList name.toList with
          | true =>
            have HS2 : Hid (Td.ckB (prv l (j + 1 + 1)) (nds (l.drop (j + 1 + 1))) = R) := by
              have := HL.out
              rwa [hbl, if_neg (by simp)] at this
            clear HL
            go_wp2_with fail
            go_roundw
            case measure => simp only [intOf]; omega
            case rel => exact ⟨j + 1 + 1, by omega, by go_num, HS2, below_drewN HB3.out _⟩
          | false =>
            have HR : Hid (R = 4) := by
              have := HL.out
              rw [hbl, if_pos (by rfl)] at this
              exact this.symm
            clear HL
            go_wp2_with fail
            go_ret
            exact ⟨by rw [HR.out]; rfl, below_drewN HB3.out _⟩
      · have hqn : (E != 0) = true := by rw [bne_iff_ne]; exact hE
        have HR : Hid (R = E) := by
          have := HSt.out
          rw [if_pos hE] at this
          exact this.symm
        clear HSt
        go_wp2_with fail
        go_ret
        exact ⟨by rw [HR.out]; rfl, HB3.out⟩
    · obtain rfl : k = N := by omega
      have HE : Hid (0 = R) := by
        have := HC.out
        rwa [List.drop_eq_nil_of_le (by rw [HN.out]; exact Nat.le_refl _)] at this
      clear HC
      go_wp2_with fail
      go_ret
      exact ⟨by rw [← HE.out]; rfl, HB.out⟩

end Go.Proofs.YtimdioacmojkeaaGreatDoor

namespace Go.Proofs
open Go.Shelf
def Tryz.lays129_ren : Go.Shelf.Ren := ⟨fun | 129 => 144 | n => n, fun | 53 => 109 | 3 => 3 | 4 => 4 | 46 => 111 | 5 => 5 | 9 => 9 | n => n, fun | n => n⟩
theorem Tryz.lays129 : Go.Proofs.Lays.n129 Tryz.prog Tryz.lays129_ren := {
  mixed := by kernel_rfl
  f129 := Tryz.func144.trans (congrArg some (by kernel_rfl))
  t3 := Tryz.underlying3
  a3 := Tryz.isAgg3
  z3 := Tryz.sizeOf3
  v3 := Tryz.zeroValue3
  t4 := Tryz.underlying4
  a4 := Tryz.isAgg4
  z4 := Tryz.sizeOf4
  v4 := Tryz.zeroValue4
  t5 := Tryz.underlying5
  a5 := Tryz.isAgg5
  z5 := Tryz.sizeOf5
  v5 := Tryz.zeroValue5
  t9 := Tryz.underlying9
  a9 := Tryz.isAgg9
  z9 := Tryz.sizeOf9
  v9 := Tryz.zeroValue9
  t46 := Tryz.underlying111
  a46 := Tryz.isAgg111
  z46 := Tryz.sizeOf111
  v46 := Tryz.zeroValue111
  t53 := Tryz.underlying109
  a53 := Tryz.isAgg109
  z53 := Tryz.sizeOf109
  v53 := Tryz.zeroValue109 }
theorem Tryz.bits_Len64 (x : Int) (w : World) (h0 : 0 ≤ x) (h1 : x ≤ 18446744073709551615) :
    Calls Tryz.prog 144 #[.int .u64 x] w fun e w' => e = .returned (.int .i64 (Lib.bitLen x.toNat)) ∧ w' = w := Any.bits_Len64 Tryz.lays129 x w h0 h1
end Go.Proofs

namespace Go.Proofs.YtimdioacmojkeaaGreatDoor
open Go.RowKit
set_option maxRecDepth 4000

theorem bitLen_dig (n : Nat) (h : n < 256 ^ 8) : (Lib.bitLen n + 7) / 8 = (Nm.dig n).length := by
  have key : ∀ (f m : Nat), m < 256 ^ f → f ≤ 8 → (Lib.bitLen m + 7) / 8 = (Nm.digF f m).length := by
    intro f
    induction f with
    | zero => intro m hm _; have : m = 0 := by simpa using hm
              subst this; decide
    | succ f ih =>
      intro m hm hf
      have h64 : m < 18446744073709551616 := Nat.lt_of_lt_of_le hm (Nat.le_trans (Nat.pow_le_pow_right (by omega) hf) (by omega))
      rw [Nm.digF]
      split
      · subst_vars; decide
      · rename_i hn
        by_cases hs : 256 ≤ m
        · rw [Lib.bitLen_shift8 m hs h64, List.length_append, List.length_singleton, ← ih (m / 256) (by rw [Nat.pow_succ] at hm; omega) (by omega)]
          omega
        · have h0 : m / 256 = 0 := by omega
          have hd : Nm.digF f 0 = [] := by cases f <;> simp [Nm.digF]
          rw [h0, hd]
          have h1 := Lib.bitLen_le8 ⟨m, by omega⟩
          have h2 := Lib.bitLen_half m hn (by omega)
          simp at h1 ⊢
          omega
  exact key 8 n h (by omega)

set_option maxHeartbeats 400000 in
theorem count_any (n : Int) (w : World) (h0 : 0 ≤ n) (h1 : n ≤ 18446744073709551615) :
    Calls Tryz.prog 124 #[.int .u64 n] w fun e w' => e = .returned (.int .i64 (Nm.dig n.toNat).length) ∧ w' = w := by
  have hb := bitLen_dig n.toNat (by omega)
  have hl := Nm.dig_length_le n.toNat
  have hbl : Lib.bitLen n.toNat ≤ 64 := by omega
  have HB : Hid ((Lib.bitLen n.toNat + 7) / 8 = (Nm.dig n.toNat).length) := hb
  clear hb hl
  go_enter Tryz.func124, Tryz.ntmps124
  go_wp2_with (go_at_call 144; refine (Tryz.bits_Len64 _ _ h0 h1).mono ?_; rintro e w' ⟨rfl, rfl⟩)
  go_ret
  exact ⟨ret_int (by rw [← HB.out]; omega), rfl⟩

theorem byte_at (n t : Int) (q : Nat) (n0 : 0 ≤ n) (h0 : 0 ≤ t) (h1 : t ≤ 255) :
    bits .xor .u8 (n / 2 ^ (8 * q) % 256) t = ((UInt8.ofNat (n.toNat / 256 ^ q % 256) ^^^ UInt8.ofNat t.toNat).toNat : Int) := by
  obtain ⟨m, rfl⟩ := Int.eq_ofNat_of_zero_le n0
  obtain ⟨T, rfl⟩ := Int.eq_ofNat_of_zero_le h0
  have e : ((m : Int) / 2 ^ (8 * q) % 256) = ((m / 256 ^ q % 256 : Nat) : Int) := by
    have : (2 : Int) ^ (8 * q) = ((256 ^ q : Nat) : Int) := by rw [Int.pow_mul]; simp
    rw [this]; simp
  rw [e, u8_xor_nat _ _ (by omega) (by omega)]
  simp only [Int.toNat_natCast]
  generalize m / 256 ^ q = x
  have hx : (UInt8.ofNat (x % 256)).toNat = x % 256 := by rw [UInt8.toNat_ofNat']; omega
  rw [← xor_u8 _ _ (by omega), hx]
theorem append_step {base : Nat} {w wr w1 : World} {v v1 : Value} {ys zs : List UInt8} {n t : Int} {q : Nat} {o : Obj} (hown : wr.ownsRow base 5 1 v ys.length (ys.map B))
    (hown1 : w1.ownsRow base 5 1 v1 (ys.length + 1) (ys.map B ++ [.int .u8 (bits .xor .u8 (n / 2 ^ (8 * q) % 256) t)])) (hg : (wr.alloc o).grownBy w1 v.ownBlock) (hbel : Below base w wr) (hbase : base ≤ w.heap.size)
    (heq : ys ++ Nm.tn t.toNat (Nm.low (q + 1) n.toNat) = zs) (n0 : 0 ≤ n) (_n1 : n ≤ 18446744073709551615) (h0 : 0 ≤ t) (h1 : t ≤ 255) :
    w1.ownsRow base 5 1 v1 (ys ++ [UInt8.ofNat (n.toNat / 256 ^ q % 256) ^^^ UInt8.ofNat t.toNat]).length ((ys ++ [UInt8.ofNat (n.toNat / 256 ^ q % 256) ^^^ UInt8.ofNat t.toNat]).map B) ∧
      (ys ++ [UInt8.ofNat (n.toNat / 256 ^ q % 256) ^^^ UInt8.ofNat t.toNat]) ++ Nm.tn t.toNat (Nm.low q n.toNat) = zs ∧ Below base w w1 := by
  refine ⟨?_, ?_, ?_⟩
  · rw [byte_at n t q n0 h0 h1] at hown1
    simpa [B] using hown1
  · rw [← heq, Nm.low, List.append_assoc]
    simp [Nm.tn]
  · have hs := hbel.size
    refine (hbel.alloc (by omega) o).grown hg (by simp; omega) ?_
    intro k hk
    exact (hown.lt k hk).1

set_option maxHeartbeats 400000 in
theorem digits_app (base : Nat) (v : Value) (xs : List UInt8) (n k t : Int) (w : World) (hown : w.ownsRow base 5 1 v xs.length (xs.map B)) (hbase : base ≤ w.heap.size) (hx : xs.length ≤ 1000)
    (n0 : 0 ≤ n) (n1 : n ≤ 18446744073709551615) (k0 : 0 ≤ k) (k1 : k ≤ 8) (h0 : 0 ≤ t) (h1 : t ≤ 255) :
    Calls Tryz.prog 125 #[v, .int .u64 n, .int .i64 k, .int .u8 t] w fun e w' => ∃ v', e = .returned v' ∧
      w'.ownsRow base 5 1 v' (xs ++ Nm.tn t.toNat (Nm.low k.toNat n.toNat)).length ((xs ++ Nm.tn t.toNat (Nm.low k.toNat n.toNat)).map B) ∧ Below base w w' := by
  obtain ⟨i0, hi, hz0, hz1, hz2⟩ := info_parts info_u8
  go_enter Tryz.func125, Tryz.ntmps125
  go_wp2
  go_loopw [0, 9] (fun v i wr => ∃ (r : Nat) (ys : List UInt8), r ≤ k.toNat ∧ i = .int .i64 ((r : Int) - 1) ∧ wr.ownsRow base 5 1 v ys.length (ys.map B) ∧
      ys ++ Nm.tn t.toNat (Nm.low r n.toNat) = xs ++ Nm.tn t.toNat (Nm.low k.toNat n.toNat) ∧ Below base w wr) (fun _ i _ => (intOf i + 1).toNat)
  case atStart => exact ⟨k.toNat, xs, Nat.le_refl _, int_eq (by omega), hown, rfl, Below.refl _ _⟩
  case round =>
    obtain ⟨r, ys, hr, rfl, hown', heq, hbel⟩ := hrel
    have hbs := hbel.size
    cases r with
    | zero =>
      go_wp2
      go_ret
      refine ⟨u0, rfl, ?_, hbel⟩
      rw [← heq, show Nm.low 0 n.toNat = [] from rfl]
      simpa [Nm.tn] using hown'
    | succ q =>
      have hyl : ys.length ≤ xs.length + 8 := by
        have := congrArg List.length heq
        simp [Nm.tn_length, Nm.low_length] at this
        omega
      go_wp2_with (at_builtin; refine wpList_append_own _ rfl _ _ 84 rfl base 5 i0 (.int .u8 0) 1 1 Tryz.underlying84 hi hz0 hz1 hz2 rfl (by decide) _ _ _ rfl (hown'.alloc _) ⟨wr.heap.size, 0, none⟩ 1 1 [.int .u8 (bits .xor .u8 (n / 2 ^ (8 * q) % 256) t)] rfl rfl ?c1 ?c2 ?c3 ?c4 ?c5 ?_)
      case c1 =>
        intro j u hj
        match j, hj with
        | 0, hj => simp at hj; subst hj; simp [Addr.add]
      case c2 => intro u hu; simp at hu; subst hu; rfl
      case c3 => unfold maxLen; omega
      case c4 => omega
      case c5 => simp; omega
      intro v' w1 hown1 hgrow _
      have R := append_step (q := q) hown' hown1 hgrow hbel hbase heq n0 n1 h0 h1
      clear hown1 hgrow hown' heq hbel
      go_wp2
      go_roundw
      case rel => exact ⟨q, _, by omega, by go_num, R.1, R.2.1, R.2.2⟩
      case measure => simp [intOf]
end Go.Proofs.YtimdioacmojkeaaGreatDoor

namespace Go.Proofs.YtimdioacmojkeaaGreatDoor
open Go.RowKit

theorem number_step (s : ByteArray) (q : Nat) (hq : s.size = q + 1) (h8 : s.size ≤ 8) :
    IntKind.u64.wrap (256 * (Nm.val (s.data.toList.take q) : Int)) = 256 * (Nm.val (s.data.toList.take q) : Int) ∧
    256 * Nm.val (s.data.toList.take q) + (s[q]'(by omega)).toNat = Nm.val s.data.toList ∧ Nm.val s.data.toList < 18446744073709551616 := by
  have h1 := take_snoc s q (by omega)
  rw [List.take_of_length_le (by rw [← Lib.size_eq]; omega)] at h1
  have hlt := Nm.val_lt s.data.toList
  have hp : 256 ^ s.data.toList.length ≤ 256 ^ 8 := Nat.pow_le_pow_right (by omega) (by rw [← Lib.size_eq]; exact h8)
  have h2 : Nm.val s.data.toList = 256 * Nm.val (s.data.toList.take q) + (s[q]'(by omega)).toNat := by rw [← Nm.val_snoc, ← h1]
  exact ⟨wrap_u64 _ (by omega) (by omega), by omega, by omega⟩
end Go.Proofs.YtimdioacmojkeaaGreatDoor



namespace Go.Proofs
open Go.Shelf
def Tryz.lays99_ren : Go.Shelf.Ren := ⟨fun | 99 => 76 | 206 => 101 | n => n, fun | 9 => 9 | 4 => 4 | 3 => 3 | n => n, fun | n => n⟩
theorem Tryz.lays99 : Go.Proofs.Lays.n99 Tryz.prog Tryz.lays99_ren := {
  mixed := by kernel_rfl
  f99 := Tryz.func76.trans (congrArg some (by kernel_rfl))
  f206 := Tryz.func101.trans (congrArg some (by kernel_rfl))
  t3 := Tryz.underlying3
  a3 := Tryz.isAgg3
  z3 := Tryz.sizeOf3
  v3 := Tryz.zeroValue3
  t4 := Tryz.underlying4
  a4 := Tryz.isAgg4
  z4 := Tryz.sizeOf4
  v4 := Tryz.zeroValue4
  t9 := Tryz.underlying9
  a9 := Tryz.isAgg9
  z9 := Tryz.sizeOf9
  v9 := Tryz.zeroValue9 }
open Go.RowKit Go.Lib in
theorem Tryz.strings_HasPrefix (s p : ByteArray) (w : World) :
    Calls Tryz.prog 76 #[.string s, .string p] w fun e w' => e = .returned (.bool (Lib.hasPrefix s.data.toList p.data.toList)) ∧ w' = w := Any.strings_HasPrefix Tryz.lays99 s p w
end Go.Proofs

namespace Go.Proofs.YtimdioacmojkeaaGreatDoor
open Go.RowKit
set_option maxRecDepth 4000

set_option maxHeartbeats 400000 in
theorem rput_any (n : Int) (w : World) (n0 : 0 ≤ n) (n1 : n ≤ 18446744073709551615) :
    Calls Tryz.prog 73 #[.int .u64 n] w fun e w' => e = .returned (.string ⟨(Nm.put n.toNat).toArray⟩) ∧ Below w.heap.size w w' := by
  have hl := Nm.dig_length_le n.toNat
  have hr1 := str_new ((Nm.dig n.toNat).length : Int) (by omega) (by omega)
  have hcat : ∀ W : World, (Op.stringOp .add ⟨#[UInt8.ofNat ((Nm.dig n.toNat).length : Int).toNat]⟩ ⟨(Nm.dig n.toNat).toArray⟩).run Tryz.prog W = .ok (.string ⟨(Nm.put n.toNat).toArray⟩) W := fun W =>
    run_string_add_lists W [UInt8.ofNat ((Nm.dig n.toNat).length : Int).toNat] _ (by simp) (by omega)
  rw [Int.toNat_natCast] at hcat
  simp only [Int.toNat_natCast] at hr1
  go_enter Tryz.func73, Tryz.ntmps73
  go_wp2_with fail
  refine (digits_any 8 n _ n0 (by omega) (by omega)).mono ?_
  rintro e w1 ⟨rfl, hb⟩
  rw [show Nm.digF 8 n.toNat = Nm.dig n.toNat from rfl]
  have hbs := hb.size
  go_wp2_with fail
  go_ret
  exact ⟨rfl, hb.alloc hbs _⟩

theorem pre_zero (l : List UInt8) (k : Nat) (h : k ≤ l.length) (z : UInt8) : Lib.hasPrefix (l.take k) [z] = decide (0 < k ∧ l.headD 0 = z) := by
  cases k with
  | zero => simp [Lib.hasPrefix]
  | succ k =>
    cases l with
    | nil => simp at h
    | cons b l =>
      have e : Lib.hasPrefix (List.take (k + 1) (b :: l)) [z] = (z == b) := by simp [Lib.hasPrefix, List.isPrefixOf]
      rw [e, Bool.eq_iff_iff, beq_iff_eq, decide_eq_true_eq]
      exact ⟨fun h => ⟨by omega, h.symm⟩, fun h => h.2.symm⟩
theorem mid_data (s : ByteArray) (k : Nat) : (s.extract 1 (1 + k)).data.toList = s.data.toList.tail.take k := by
  rw [Lib.extract_data, List.drop_one, Nat.add_sub_cancel_left]
theorem tail_length (s : ByteArray) : s.data.toList.tail.length = s.size - 1 := by rw [List.length_tail, ← Lib.size_eq]
theorem list_ne' (s : ByteArray) (h : 0 < s.size) : s.data.toList ≠ [] := by
  intro e; have := Lib.size_eq s; rw [e] at this; simp only [List.length_nil] at this; omega
end Go.Proofs.YtimdioacmojkeaaGreatDoor

namespace Go.Proofs.YtimdioacmojkeaaGreatDoor
open Go.RowKit
end Go.Proofs.YtimdioacmojkeaaGreatDoor

namespace Go.Proofs.YtimdioacmojkeaaGreatDoor
open Go.RowKit
set_option maxRecDepth 4000

set_option maxHeartbeats 1000000 in
theorem putT_any (s : ByteArray) (w : World) (hs : s.size ≤ 1024) :
    Calls Tryz.prog 126 #[.string s] w fun e w' => e = .returned (.tuple #[.string ⟨(Nm.putT s.data.toList).toArray⟩, .int .i64 0]) ∧ Below w.heap.size w w' := by
  obtain ⟨i0, hi, hz0, hz1, hz2⟩ := info_parts info_u8
  go_enter Tryz.func126, Tryz.ntmps126
  go_wp2
  go_loopw [4, 5] (fun v i wr => ∃ (k : Nat) (ys : List UInt8), k ≤ s.size ∧ i = .int .i64 k ∧ wr.ownsRow w.heap.size 5 1 v ys.length (ys.map B) ∧
      ys = Nm.esc (s.data.toList.take k) ∧ Below w.heap.size w wr) (fun _ i _ => s.size - (intOf i).toNat)
  case atStart => exact ⟨0, [], Nat.zero_le _, rfl, World.ownsRow_nil _ _ _ _, rfl, Below.refl _ _⟩
  case round =>
    obtain ⟨k, ys, hk, rfl, hown, hys, hbel⟩ := hrel
    have hbs := hbel.size
    have HY : Hid (ys = Nm.esc (s.data.toList.take k)) := hys
    have hyl : ys.length ≤ 2048 := by rw [hys]; have := Nm.esc_length (s.data.toList.take k); have := List.length_take_le k s.data.toList; omega
    clear hys
    by_cases hlt : k < s.size
    · have hb := s[k].toNat_lt
      have hts := take_snoc s k hlt
      have HT : Hid (s.data.toList.take (k + 1) = s.data.toList.take k ++ [s[k]]) := hts
      clear hts
      generalize hc : s[k] = c at *
      by_cases hz : c = 0
      · have hq : ((c.toNat : Int) == 0) = true := by rw [hz]; decide
        have HZ : Hid (c = 0) := hz
        clear hz
        go_wp2_with (at_builtin; refine wpList_append_own _ rfl (.tmp 15) (.tmp 19) 84 rfl w.heap.size 5 i0 (.int .u8 0) 1 1 Tryz.underlying84 hi hz0 hz1 hz2 rfl (by decide) _ _ _ rfl (hown.alloc _) ⟨wr.heap.size, 0, none⟩ 1 1 [.int .u8 (c.toNat : Int)] rfl rfl ?c1 ?c2 ?c3 ?c4 ?c5 ?_)
        case c1 =>
          intro j u hj
          match j, hj with
          | 0, hj => simp at hj; subst hj; simp [Addr.add]
        case c2 => intro u hu; simp at hu; subst hu; rfl
        case c3 => unfold maxLen; omega
        case c4 => omega
        case c5 => simp; omega
        intro v1 w1 hown1 hgrow _
        obtain ⟨hown2, hbel2⟩ := own_more (b := c) hown hown1 rfl hgrow hbel (Nat.le_refl _)
        clear hown1 hgrow hown hbel
        have hbs2 := hbel2.size
        go_wp2_with (at_builtin; refine wpList_append_own _ rfl (.tmp 25) (.tmp 26) 84 rfl w.heap.size 5 i0 (.int .u8 0) 1 1 Tryz.underlying84 hi hz0 hz1 hz2 rfl (by decide) _ _ _ rfl (hown2.alloc _) ⟨w1.heap.size, 0, none⟩ 1 1 [.int .u8 255] rfl rfl ?d1 ?d2 ?d3 ?d4 ?d5 ?_)
        case d1 =>
          intro j u hj
          match j, hj with
          | 0, hj => simp at hj; subst hj; simp [Addr.add]
        case d2 => intro u hu; simp at hu; subst hu; rfl
        case d3 => unfold maxLen; simp; omega
        case d4 => simp; omega
        case d5 => simp; omega
        intro v2 w2 hown3 hgrow2 _
        obtain ⟨hown4, hbel4⟩ := own_more (b := 255) hown2 (by simpa using hown3) rfl hgrow2 hbel2 (Nat.le_refl _)
        clear hown3 hgrow2 hown2 hbel2
        go_wp2
        go_roundw
        case rel => exact ⟨k + 1, _, by omega, by go_num, hown4, by rw [HT.out, HZ.out, Nm.esc_zero, ← HY.out], hbel4⟩
        case measure => simp [intOf]; omega
      · have hq : ((c.toNat : Int) == 0) = false := by
          rw [beq_eq_false_iff_ne]; intro h; exact hz (UInt8.toNat_inj.1 (by simp; omega))
        go_wp2_with (at_builtin; refine wpList_append_own _ rfl (.tmp 15) (.tmp 19) 84 rfl w.heap.size 5 i0 (.int .u8 0) 1 1 Tryz.underlying84 hi hz0 hz1 hz2 rfl (by decide) _ _ _ rfl (hown.alloc _) ⟨wr.heap.size, 0, none⟩ 1 1 [.int .u8 (c.toNat : Int)] rfl rfl ?e1 ?e2 ?e3 ?e4 ?e5 ?_)
        case e1 =>
          intro j u hj
          match j, hj with
          | 0, hj => simp at hj; subst hj; simp [Addr.add]
        case e2 => intro u hu; simp at hu; subst hu; rfl
        case e3 => unfold maxLen; omega
        case e4 => omega
        case e5 => simp; omega
        intro v1 w1 hown1 hgrow _
        obtain ⟨hown2, hbel2⟩ := own_more (b := c) hown hown1 rfl hgrow hbel (Nat.le_refl _)
        clear hown1 hgrow hown hbel
        go_wp2
        go_roundw
        case rel => exact ⟨k + 1, _, by omega, by go_num, hown2, by rw [HT.out, Nm.esc_other _ _ hz, ← HY.out], hbel2⟩
        case measure => simp [intOf]; omega
    · have hfin : Hid (ys ++ [0, 0] = Nm.putT s.data.toList) := by
        show _ = _
        rw [HY.out, List.take_of_length_le (by rw [← Lib.size_eq]; omega)]; rfl
      go_wp2_with (at_builtin; refine wpList_append_own _ rfl (.tmp 28) (.tmp 29) 84 rfl w.heap.size 5 i0 (.int .u8 0) 1 1 Tryz.underlying84 hi hz0 hz1 hz2 rfl (by decide) _ _ _ rfl (hown.alloc _) ⟨wr.heap.size, 0, none⟩ 2 2 [.int .u8 0, .int .u8 0] rfl rfl ?f1 ?f2 ?f3 ?f4 ?f5 ?_)
      case f1 =>
        intro j u hj
        match j, hj with
        | 0, hj => simp at hj; subst hj; simp [Addr.add]
        | 1, hj => simp at hj; subst hj; simp [Addr.add]
      case f2 => intro u hu; simp at hu; subst hu; rfl
      case f3 => unfold maxLen; omega
      case f4 => omega
      case f5 => simp; omega
      intro v1 w1 hown1 hgrow _
      have hown2 : w1.ownsRow w.heap.size 5 1 v1 (ys ++ [0, 0]).length ((ys ++ [0, 0]).map B) := by simpa [B] using hown1
      have hbel2 : Below w.heap.size w w1 := by
        refine (hbel.alloc hbs _).grown hgrow (by simp; omega) ?_
        intro j hj
        exact (hown.lt j hj).1
      rw [hfin.out] at hown2
      have hcv := run_str hown2
      clear hown1 hown2 hgrow hown hbel
      go_wp2
      go_ret2
      exact ⟨rfl, hbel2⟩

set_option maxHeartbeats 400000 in
theorem putT_large (s : ByteArray) (w : World) (hs : 1024 < s.size) (_h : s.size ≤ 140737488351232) :
    Calls Tryz.prog 126 #[.string s] w fun e w' => e = .returned (.tuple #[.string ⟨#[]⟩, .int .i64 2]) ∧ w' = w := by
  go_enter Tryz.func126, Tryz.ntmps126
  go_wp2
  go_ret2
  exact ⟨rfl, rfl⟩
end Go.Proofs.YtimdioacmojkeaaGreatDoor

namespace Go.Proofs.YtimdioacmojkeaaGreatDoor
open Go.RowKit
set_option maxRecDepth 4000

theorem drop_byte (s : ByteArray) (k : Nat) (h : k < s.size) : s.data.toList.drop k = s[k] :: s.data.toList.drop (k + 1) := by
  rw [List.drop_eq_getElem_cons (by simpa using h)]; rfl
theorem byte_ne (c z : UInt8) (h : c ≠ z) : ((c.toNat : Int) == (z.toNat : Int)) = false := by
  rw [beq_eq_false_iff_ne]; intro e; exact h (UInt8.toNat_inj.1 (by omega))

/-- an owned slice shows its length -/
theorem gt_own_len {w : World} {base : Nat} {v : Value} {ys : List UInt8} (h : w.ownsRow base 5 1 v ys.length (ys.map B)) : ∃ a cap, v = .slice a ys.length cap := by
  rcases h.2 with ⟨rfl, h0⟩ | ⟨g, cap, cur, rfl, _⟩
  · exact ⟨none, 0, by rw [h0]⟩
  · exact ⟨_, _, rfl⟩

set_option maxHeartbeats 2000000 in
theorem getT_any (s : ByteArray) (w : World) (hs : s.size ≤ 140737488355328) :
    Calls Tryz.prog 139 #[.string s] w fun e w' =>
      e = .returned (.tuple #[.string ⟨(Nm.getT s.data.toList).1.toArray⟩, .int .i64 (Nm.getT s.data.toList).2.1, .int .i64 (Nm.getT s.data.toList).2.2]) ∧ Below w.heap.size w w' := by
  obtain ⟨i0, hi, hz0, hz1, hz2⟩ := info_parts info_u8
  obtain ⟨G, hG⟩ : ∃ G, Nm.getT s.data.toList = G := ⟨_, rfl⟩
  rw [hG]
  have HG : Hid (Nm.scanT s.data.toList [] 0 = G) := hG
  clear hG
  go_enter Tryz.func139, Tryz.ntmps139
  go_wp2
  go_loopw [5, 6] (fun v i wr => ∃ (k : Nat) (ys : List UInt8), k ≤ s.size ∧ i = .int .i64 k ∧ wr.ownsRow w.heap.size 5 1 v ys.length (ys.map B) ∧
      Hid (Nm.scanT (s.data.toList.drop k) ys k = G) ∧ ys.length ≤ 1024 ∧ Below w.heap.size w wr) (fun _ i _ => s.size - (intOf i).toNat)
  case atStart => exact ⟨0, [], Nat.zero_le _, rfl, World.ownsRow_nil _ _ _ _, HG, by simp, Below.refl _ _⟩
  case round =>
    obtain ⟨k, ys, hk, rfl, hown, HS, hyl, hbel⟩ := hrel
    have hbs := hbel.size
    have hyl2 : ys.length ≤ 1024 := hyl
    by_cases hlt : k < s.size
    · have hb := s[k].toNat_lt
      have hds := drop_byte s k hlt
      generalize hc : s[k] = c at *
      by_cases hz : c = 0
      · subst hz
        by_cases he : k + 1 = s.size
        · have hq1 : ((k : Int) + 1 == (s.size : Int)) = true := by rw [beq_iff_eq]; omega
          have hres : G = ([], 0, 3) := by rw [← HS.out, hds, List.drop_of_length_le (by rw [← Lib.size_eq]; omega)]; exact Nm.scan_end _ _
          subst hres
          clear hds HS HG he
          go_wp2
          go_ret3
          exact ⟨rfl, hbel⟩
        have hlt2 : k + 1 < s.size := by omega
        have hq1 : ((k : Int) + 1 == (s.size : Int)) = false := by rw [beq_eq_false_iff_ne]; omega
        have hds2 := drop_byte s (k + 1) hlt2
        rw [hds2] at hds
        have hb2 := s[k + 1].toNat_lt
        clear hds2
        generalize hd : s[k + 1] = d at *
        by_cases hd0 : d = 0
        · subst hd0
          have hres : G = (ys, k + 2, 0) := by rw [← HS.out, hds]; exact Nm.scan_zeros _ _ _
          subst hres
          have hcv := run_str hown
          clear hds HS HG
          go_wp2
          go_ret3
          exact ⟨rfl, hbel⟩
        have hq2 : ((d.toNat : Int) == 0) = false := byte_ne d 0 hd0
        by_cases hd1 : d = 255
        · subst hd1
          by_cases hf : ys.length = 1024
          · have hq3 : ((ys.length : Int) == 1024) = true := by rw [beq_iff_eq]; omega
            have hres : G = ([], 0, 2) := by rw [← HS.out, hds]; exact Nm.scan_esc_full _ _ _ hf
            subst hres
            obtain ⟨a, cap, rfl⟩ := gt_own_len hown
            clear hds HS HG hf
            go_wp2
            go_ret3
            exact ⟨rfl, hbel⟩
          · have hq3 : ((ys.length : Int) == 1024) = false := by rw [beq_eq_false_iff_ne]; omega
            have HN : Hid (Nm.scanT (s.data.toList.drop (k + 2)) (ys ++ [0]) (k + 2) = G) := by show _ = _; rw [← HS.out, hds]; exact (Nm.scan_esc _ _ _ hf).symm
            obtain ⟨a, cap, rfl⟩ := gt_own_len hown
            clear hds HS HG
            go_wp2_with (at_builtin; refine wpList_append_own _ rfl (.tmp 40) (.tmp 42) 84 rfl w.heap.size 5 i0 (.int .u8 0) 1 1 Tryz.underlying84 hi hz0 hz1 hz2 rfl (by decide) _ _ _ rfl (hown.alloc _) ⟨wr.heap.size, 0, none⟩ 1 1 [.int .u8 0] rfl rfl ?p1 ?p2 ?p3 ?p4 ?p5 ?_)
            case p1 =>
              intro j u hj
              match j, hj with
              | 0, hj => simp at hj; subst hj; simp [Addr.add]
            case p2 => intro u hu; simp at hu; subst hu; rfl
            case p3 => unfold maxLen; omega
            case p4 => omega
            case p5 => simp; omega
            intro v1 w1 hown1 hgrow _
            obtain ⟨hown2, hbel2⟩ := own_more (b := 0) hown hown1 rfl hgrow hbel (Nat.le_refl _)
            clear hown1 hgrow hown hbel
            go_wp2
            go_roundw
            case rel => exact ⟨k + 2, _, by omega, by go_num, hown2, HN, by simp; omega, hbel2⟩
            case measure => simp [intOf]; omega
        · have hq3 : ((d.toNat : Int) != 255) = true := by rw [bne_iff_ne]; intro e; exact hd1 (UInt8.toNat_inj.1 (by simp; omega))
          have hres : G = ([], 0, 4) := by rw [← HS.out, hds]; exact Nm.scan_bad _ _ _ _ hd0 hd1
          subst hres
          clear hds HS HG
          go_wp2
          go_ret3
          exact ⟨rfl, hbel⟩
      · have hq : ((c.toNat : Int) == 0) = false := byte_ne c 0 hz
        by_cases hf : ys.length = 1024
        · have hq3 : ((ys.length : Int) == 1024) = true := by rw [beq_iff_eq]; omega
          have hres : G = ([], 0, 2) := by rw [← HS.out, hds]; exact Nm.scan_full _ _ _ _ hz hf
          subst hres
          obtain ⟨a, cap, rfl⟩ := gt_own_len hown
          clear hds HS HG hf
          go_wp2
          go_ret3
          exact ⟨rfl, hbel⟩
        · have hq3 : ((ys.length : Int) == 1024) = false := by rw [beq_eq_false_iff_ne]; omega
          have HN : Hid (Nm.scanT (s.data.toList.drop (k + 1)) (ys ++ [c]) (k + 1) = G) := by show _ = _; rw [← HS.out, hds]; exact (Nm.scan_byte _ _ _ _ hz hf).symm
          obtain ⟨a, cap, rfl⟩ := gt_own_len hown
          clear hds HS HG
          go_wp2_with (at_builtin; refine wpList_append_own _ rfl (.tmp 40) (.tmp 42) 84 rfl w.heap.size 5 i0 (.int .u8 0) 1 1 Tryz.underlying84 hi hz0 hz1 hz2 rfl (by decide) _ _ _ rfl (hown.alloc _) ⟨wr.heap.size, 0, none⟩ 1 1 [.int .u8 (c.toNat : Int)] rfl rfl ?r1 ?r2 ?r3 ?r4 ?r5 ?_)
          case r1 =>
            intro j u hj
            match j, hj with
            | 0, hj => simp at hj; subst hj; simp [Addr.add]
          case r2 => intro u hu; simp at hu; subst hu; rfl
          case r3 => unfold maxLen; omega
          case r4 => omega
          case r5 => simp; omega
          intro v1 w1 hown1 hgrow _
          obtain ⟨hown2, hbel2⟩ := own_more (b := c) hown hown1 rfl hgrow hbel (Nat.le_refl _)
          clear hown1 hgrow hown hbel
          go_wp2
          go_roundw
          case rel => exact ⟨k + 1, _, by omega, by go_num, hown2, HN, by simp; omega, hbel2⟩
          case measure => simp [intOf]; omega
    · have hres : G = ([], 0, 3) := by rw [← HS.out, List.drop_of_length_le (by rw [← Lib.size_eq]; omega)]; rfl
      subst hres
      clear HS HG
      go_wp2
      go_ret3
      exact ⟨rfl, hbel⟩
end Go.Proofs.YtimdioacmojkeaaGreatDoor

namespace Go.Proofs
open Go.Shelf
def Tryz.lays155_ren : Go.Shelf.Ren := ⟨fun | 155 => 99 | 154 => 130 | 138 => 83 | 165 => 149 | 143 => 110 | 166 => 150 | 197 => 151 | 169 => 152 | 195 => 108 | 218 => 109 | 240 => 165 | 241 => 166 | 219 => 137 | 260 => 167 | 276 => 173 | 277 => 174 | 217 => 106 | 225 => 154 | 224 => 155 | 267 => 156 | 266 => 135 | 314 => 168 | n => n, fun | 9 => 9 | 3 => 3 | 4 => 4 | 72 => 181 | 0 => 0 | 76 => 185 | 105 => 187 | 21 => 21 | 5 => 5 | 70 => 179 | 20 => 20 | 37 => 84 | 75 => 184 | 127 => 163 | 164 => 206 | 46 => 111 | 119 => 190 | 139 => 193 | 138 => 192 | 146 => 137 | 51 => 136 | 80 => 151 | n => n, fun | 1 => 0 | 3 => 1 | 4 => 2 | n => n⟩
theorem Tryz.lays155 : Go.Proofs.Lays.n155 Tryz.prog Tryz.lays155_ren := {
  mixed := by kernel_rfl
  f138 := Tryz.func83.trans (congrArg some (by kernel_rfl))
  f143 := Tryz.func110.trans (congrArg some (by kernel_rfl))
  f154 := Tryz.func130.trans (congrArg some (by kernel_rfl))
  f155 := Tryz.func99.trans (congrArg some (by kernel_rfl))
  f165 := Tryz.func149.trans (congrArg some (by kernel_rfl))
  f166 := Tryz.func150.trans (congrArg some (by kernel_rfl))
  f169 := Tryz.func152.trans (congrArg some (by kernel_rfl))
  f195 := Tryz.func108.trans (congrArg some (by kernel_rfl))
  f197 := Tryz.func151.trans (congrArg some (by kernel_rfl))
  f217 := Tryz.func106.trans (congrArg some (by kernel_rfl))
  f218 := Tryz.func109.trans (congrArg some (by kernel_rfl))
  f219 := Tryz.func137.trans (congrArg some (by kernel_rfl))
  f224 := Tryz.func155.trans (congrArg some (by kernel_rfl))
  f225 := Tryz.func154.trans (congrArg some (by kernel_rfl))
  f240 := Tryz.func165.trans (congrArg some (by kernel_rfl))
  f241 := Tryz.func166.trans (congrArg some (by kernel_rfl))
  f260 := Tryz.func167.trans (congrArg some (by kernel_rfl))
  f266 := Tryz.func135.trans (congrArg some (by kernel_rfl))
  f267 := Tryz.func156.trans (congrArg some (by kernel_rfl))
  f276 := Tryz.func173.trans (congrArg some (by kernel_rfl))
  f277 := Tryz.func174.trans (congrArg some (by kernel_rfl))
  f314 := Tryz.func168.trans (congrArg some (by kernel_rfl))
  t0 := Tryz.underlying0
  a0 := Tryz.isAgg0
  z0 := Tryz.sizeOf0
  v0 := Tryz.zeroValue0
  t3 := Tryz.underlying3
  a3 := Tryz.isAgg3
  z3 := Tryz.sizeOf3
  v3 := Tryz.zeroValue3
  t4 := Tryz.underlying4
  a4 := Tryz.isAgg4
  z4 := Tryz.sizeOf4
  v4 := Tryz.zeroValue4
  t5 := Tryz.underlying5
  a5 := Tryz.isAgg5
  z5 := Tryz.sizeOf5
  v5 := Tryz.zeroValue5
  t9 := Tryz.underlying9
  a9 := Tryz.isAgg9
  z9 := Tryz.sizeOf9
  v9 := Tryz.zeroValue9
  t20 := Tryz.underlying20
  a20 := Tryz.isAgg20
  z20 := Tryz.sizeOf20
  v20 := Tryz.zeroValue20
  t21 := Tryz.underlying21
  a21 := Tryz.isAgg21
  z21 := Tryz.sizeOf21
  v21 := Tryz.zeroValue21
  t37 := Tryz.underlying84
  a37 := Tryz.isAgg84
  z37 := Tryz.sizeOf84
  v37 := Tryz.zeroValue84
  t46 := Tryz.underlying111
  a46 := Tryz.isAgg111
  z46 := Tryz.sizeOf111
  v46 := Tryz.zeroValue111
  t51 := Tryz.underlying136
  a51 := Tryz.isAgg136
  z51 := Tryz.sizeOf136
  v51 := Tryz.zeroValue136
  t70 := Tryz.underlying179
  a70 := Tryz.isAgg179
  z70 := Tryz.sizeOf179
  v70 := Tryz.zeroValue179
  t72 := Tryz.underlying181
  a72 := Tryz.isAgg181
  z72 := Tryz.sizeOf181
  v72 := Tryz.zeroValue181
  t75 := Tryz.underlying184
  a75 := Tryz.isAgg184
  z75 := Tryz.sizeOf184
  v75 := Tryz.zeroValue184
  t76 := Tryz.underlying185
  a76 := Tryz.isAgg185
  z76 := Tryz.sizeOf185
  v76 := Tryz.zeroValue185
  t105 := Tryz.underlying187
  a105 := Tryz.isAgg187
  z105 := Tryz.sizeOf187
  v105 := Tryz.zeroValue187
  t119 := Tryz.underlying190
  a119 := Tryz.isAgg190
  z119 := Tryz.sizeOf190
  t127 := Tryz.underlying163
  a127 := Tryz.isAgg163
  z127 := Tryz.sizeOf163
  v127 := Tryz.zeroValue163
  t138 := Tryz.underlying192
  a138 := Tryz.isAgg192
  z138 := Tryz.sizeOf192
  v138 := Tryz.zeroValue192
  t139 := Tryz.underlying193
  a139 := Tryz.isAgg193
  z139 := Tryz.sizeOf193
  v139 := Tryz.zeroValue193
  t146 := Tryz.underlying137
  a146 := Tryz.isAgg137
  z146 := Tryz.sizeOf137
  v146 := Tryz.zeroValue137
  t164 := Tryz.underlying206
  a164 := Tryz.isAgg206
  z164 := Tryz.sizeOf206
  v164 := Tryz.zeroValue206
  g1 := by kernel_rfl
  g3 := by kernel_rfl
  g4 := by kernel_rfl }
theorem Tryz.Builder_Extra_155 : Builder.Extra Tryz.prog Tryz.lays155_ren := {
  sizeBuilder := by kernel_rfl
  liesBuilder := by kernel_rfl
  t5 := Tryz.underlying5
  a5 := Tryz.isAgg5
  z5 := Tryz.sizeOf5
  v5 := Tryz.zeroValue5
  infoByte := by kernel_rfl
  cellsByte := by kernel_rfl
  sizeByte := by kernel_rfl
  neB5 := by decide }
open Go.RowKit Go.Lib in
theorem Tryz.strings_ReplaceAll (s old new : ByteArray) (m : Int) (w : World) (hs : s.size < 4294967281) (hm : w.cell? ⟨0, 0, none⟩ = some (.int .i64 m)) (h1 : 1 ≤ old.size) (hlen : s.size + Lib.countB s old * new.size ≤ 140737488355328) :
    Calls Tryz.prog 99 #[.string s, .string old, .string new] w fun e w' =>
      e = .returned (.string ⟨(Lib.replaceAll s.data.toList old.data.toList new.data.toList).toArray⟩) ∧ Below w.heap.size w w' := Any.strings_ReplaceAll Tryz.lays155 Tryz.Builder_Extra_155 s old new m w hs hm h1 hlen
end Go.Proofs

namespace Go.Proofs.YtimdioacmojkeaaGreatDoor
open Go.RowKit
set_option maxRecDepth 4000

theorem replace_esc (l : List UInt8) : Lib.replaceK [0] [0, 255] (l.count 0) l = Nm.esc l := by
  induction l with
  | nil => rfl
  | cons b l ih =>
    by_cases hb : b = 0
    · subst hb
      rw [List.count_cons_self, Lib.replaceK_hit _ _ _ _ 0 (by rw [Lib.index_one]; rfl)]
      show [0, 255] ++ Lib.replaceK [0] [0, 255] (List.count 0 l) l = _
      rw [ih]; rfl
    · have hne : ¬ (b == (0 : UInt8)) = true := by simpa using hb
      rw [List.count_cons_of_ne hb]
      have he : Nm.esc (b :: l) = b :: Nm.esc l := by simp [Nm.esc, hb]
      rw [he]
      cases hk : List.count 0 l with
      | zero => rw [hk] at ih; rw [← ih]; rfl
      | succ k =>
        rw [hk] at ih
        obtain ⟨i, hi⟩ := Lib.index_of_count (s := l) (old := [0]) (by rw [Lib.count_one, hk]; omega)
        rw [Lib.replaceK_hit _ _ _ _ i hi] at ih
        have hi2 : Lib.index (b :: l) [0] = ((i + 1 : Nat) : Int) := by
          rw [Lib.index_one] at hi ⊢
          unfold Lib.indexByte
          rw [if_neg hne, hi, if_neg (by intro e; have := beq_iff_eq.1 e; omega)]
          omega
        rw [Lib.replaceK_hit _ _ _ _ (i + 1) hi2, List.take_succ_cons, ← ih]
        rfl
theorem replaceAll_esc (l : List UInt8) : Lib.replaceAll l [0] [0, 255] = Nm.esc l := by
  rw [Lib.replaceAll, Lib.replace, if_neg (by decide), Lib.replaceNum, if_pos (.inl (by decide)), Lib.count_one, replace_esc]

set_option maxHeartbeats 400000 in
theorem rputT_any (s : ByteArray) (m : Int) (w : World) (hm : w.cell? ⟨0, 0, none⟩ = some (.int .i64 m)) (hs : s.size ≤ 1024) :
    Calls Tryz.prog 74 #[.string s] w fun e w' => e = .returned (.tuple #[.string ⟨(Nm.putT s.data.toList).toArray⟩, .int .i64 0]) ∧ Below w.heap.size w w' := by
  have hl := Nm.esc_length s.data.toList
  rw [← Lib.size_eq] at hl
  have hcat : ∀ W : World, (Op.stringOp .add ⟨(Nm.esc s.data.toList).toArray⟩ ⟨#[0, 0]⟩).run Tryz.prog W = .ok (.string ⟨(Nm.putT s.data.toList).toArray⟩) W := fun W =>
    run_string_add_lists W _ [0, 0] (by omega) (by simp)
  have hcb := Lib.countB_mul_le ⟨#[0]⟩ (by decide) s.size s (Nat.le_refl _)
  go_enter Tryz.func74, Tryz.ntmps74
  go_wp2_with fail
  refine (Tryz.strings_ReplaceAll s ⟨#[0]⟩ ⟨#[0, 255]⟩ m _ (by omega) hm (by decide) (by
    have e1 : (⟨#[0]⟩ : ByteArray).size = 1 := rfl
    have e2 : (⟨#[0, 255]⟩ : ByteArray).size = 2 := rfl
    rw [e1] at hcb
    rw [e2]
    omega)).mono ?_
  rintro e w1 ⟨rfl, hb⟩
  rw [show ({ data := #[0] } : ByteArray).data.toList = [0] from rfl, show ({ data := #[0, 255] } : ByteArray).data.toList = [0, 255] from rfl, replaceAll_esc]
  go_wp2_with fail
  go_ret2
  exact ⟨rfl, hb⟩

set_option maxHeartbeats 400000 in
theorem rputT_large (s : ByteArray) (w : World) (hs : 1024 < s.size) (_h : s.size ≤ 140737488351232) :
    Calls Tryz.prog 74 #[.string s] w fun e w' => e = .returned (.tuple #[.string ⟨#[]⟩, .int .i64 2]) ∧ w' = w := by
  go_enter Tryz.func74, Tryz.ntmps74
  go_wp2
  go_ret2
  exact ⟨rfl, rfl⟩

theorem one_byte (s : ByteArray) (k : Nat) (h : k < s.size) : s.extract k (k + 1) = ⟨#[s[k]]⟩ := by
  apply ByteArray.ext
  apply Array.ext'
  rw [Lib.extract_data, drop_byte s k h, Nat.add_sub_cancel_left]
  rfl
end Go.Proofs.YtimdioacmojkeaaGreatDoor

namespace Go.Proofs.YtimdioacmojkeaaGreatDoor
open Go.RowKit
set_option maxRecDepth 4000

/-- what lies in cell j when k bytes have been turned -/
def turnAt (s : ByteArray) (k j : Nat) : Int := if j < k then 255 - ((s.data.toList.getD j 0).toNat : Int) else ((s.data.toList.getD j 0).toNat : Int)
theorem getD_byteT (s : ByteArray) (j : Nat) (h : j < s.size) : s.data.toList.getD j 0 = s[j] := by
  rw [List.getD_eq_getElem?_getD, List.getElem?_eq_getElem (by simpa using h)]; rfl
theorem turn_step {s : ByteArray} {k B : Nat} {w : World} (hk : k < s.size) (h : ∀ j, j < s.size → w.cell? ⟨B, j, none⟩ = some (.int .u8 (turnAt s k j))) :
    ∀ j, j < s.size → (w.setCell ⟨B, k, none⟩ (.int .u8 (255 - (s[k].toNat : Int)))).cell? ⟨B, j, none⟩ = some (.int .u8 (turnAt s (k + 1) j)) := by
  intro j hj
  by_cases e : j = k
  · subst e
    rw [World.cell?_setCell_same _ _ _ (h j hj), turnAt, if_pos (by omega), getD_byteT s j hj]
  · rw [World.cell?_setCell_other _ _ _ _ (by intro h; exact e (congrArg Addr.off h).symm), h j hj, turnAt, turnAt]
    by_cases hjk : j < k
    · rw [if_pos hjk, if_pos (by omega)]
    · rw [if_neg hjk, if_neg (by omega)]
theorem turn_back (s : ByteArray) (B cap : Nat) (w : World) (h : ∀ j, j < s.size → w.cell? ⟨B, j, none⟩ = some (.int .u8 (turnAt s s.size j))) :
    (convert 84 9 (.slice (some ⟨B, 0, none⟩) s.size cap)).run Tryz.prog w = .ok (.string ⟨(Nm.tn 255 s.data.toList).toArray⟩) w := by
  have hl : (Nm.tn 255 s.data.toList).length = s.size := by rw [Nm.tn_length, ← Lib.size_eq]
  have := run_convert_bytes_back w 84 9 5 ⟨B, 0, none⟩ cap (Nm.tn 255 s.data.toList) (P := Tryz.prog) (by kernel_rfl) (by kernel_rfl) (by kernel_rfl) (by
    intro j hj
    rw [hl] at hj
    have e : (⟨B, 0, none⟩ : Addr).add j = ⟨B, j, none⟩ := by unfold Addr.add; split <;> simp_all
    have hb := s[j].toNat_lt
    have g : (Nm.tn 255 s.data.toList)[j] = s[j] ^^^ UInt8.ofNat 255 := by simp [Nm.tn]; rfl
    rw [e, h j hj, turnAt, if_pos hj, getD_byteT s j hj, g, Nm.not_byte]
    congr 2
    omega)
  rw [hl] at this
  exact this

set_option maxHeartbeats 400000 in
theorem turned_any (s : ByteArray) (w : World) (hs : s.size ≤ 140737488351232) :
    Calls Tryz.prog 100 #[.string s] w fun e w' => e = .returned (.string ⟨(Nm.tn 255 s.data.toList).toArray⟩) ∧ Below w.heap.size w w' := by
  have hcv := run_bytes_of_string (P := Tryz.prog) w 9 84 5 s (by kernel_rfl) (by kernel_rfl) (by kernel_rfl)
  have hcell : ∀ j, j < s.size → (w.alloc (.cells (bytesRow s (grownCap w s.size 0 5)) 5 ((bytesRow s (grownCap w s.size 0 5)).size, (bytesRow s (grownCap w s.size 0 5)).size + 1))).drew.cell? ⟨w.heap.size, j, none⟩ = some (.int .u8 (turnAt s 0 j)) := by
    intro j hj
    rw [turnAt, if_neg (by omega), getD_byteT s j hj]
    exact bytes_cell w s _ _ j hj
  have hfz : ∀ j, j < s.size → (w.alloc (.cells (bytesRow s (grownCap w s.size 0 5)) 5 ((bytesRow s (grownCap w s.size 0 5)).size, (bytesRow s (grownCap w s.size 0 5)).size + 1))).drew.frozen? ⟨w.heap.size, j, none⟩ = false := by
    intro j hj
    exact bytes_free w s _ j hj
  generalize bytesRow s (grownCap w s.size 0 5) = C at *
  generalize grownCap w s.size 0 5 = cap at *
  have HC := hcell
  have HF := hfz
  have H1 : Hid (∀ j, j < s.size → (w.alloc (.cells C 5 (C.size, C.size + 1))).drew.cell? ⟨w.heap.size, j, none⟩ = some (.int .u8 (turnAt s 0 j))) := hcell
  have H2 : Hid (∀ j, j < s.size → (w.alloc (.cells C 5 (C.size, C.size + 1))).drew.frozen? ⟨w.heap.size, j, none⟩ = false) := hfz
  clear hcell hfz HC HF
  go_enter Tryz.func100, Tryz.ntmps100
  go_wp2
  go_loopw [9] (fun i wr => ∃ k : Nat, k ≤ s.size ∧ i = .int .i64 k ∧ (∀ j, j < s.size → wr.cell? ⟨w.heap.size, j, none⟩ = some (.int .u8 (turnAt s k j))) ∧
      (∀ j, j < s.size → wr.frozen? ⟨w.heap.size, j, none⟩ = false) ∧ Below w.heap.size w wr) (fun i _ => s.size - (intOf i).toNat)
  case atStart => exact ⟨0, Nat.zero_le _, rfl, H1.out, H2.out, ((Below.refl _ _).alloc (Nat.le_refl _) _).drew⟩
  case round =>
    obtain ⟨k, hk, rfl, hc, hf, hb⟩ := hrel
    by_cases hlt : k < s.size
    · have hck : wr.cell? ⟨w.heap.size, k, none⟩ = some (.int .u8 (s[k].toNat : Int)) := by rw [hc k hlt, turnAt, if_neg (by omega), getD_byteT s k hlt]
      have hfk := hf k hlt
      have hst := turn_step hlt hc
      have hbk := s[k].toNat_lt
      have HS : Hid (∀ j, j < s.size → (wr.setCell ⟨w.heap.size, k, none⟩ (.int .u8 (255 - (s[k].toNat : Int)))).cell? ⟨w.heap.size, j, none⟩ = some (.int .u8 (turnAt s (k + 1) j))) := hst
      have HF : Hid (∀ j, j < s.size → wr.frozen? ⟨w.heap.size, j, none⟩ = false) := hf
      clear hst hc hf hcv
      go_wp2
      go_roundw
      case rel => exact ⟨k + 1, by omega, by go_num, HS.out, by simpa using HF.out, hb.setCell (Nat.le_refl _) _⟩
      case measure => simp [intOf]; omega
    · obtain rfl : k = s.size := by omega
      have hbk := turn_back s w.heap.size cap wr hc
      clear hc hf hcv
      go_wp2
      go_ret
      exact ⟨rfl, hb⟩
end Go.Proofs.YtimdioacmojkeaaGreatDoor

namespace Go.Proofs.YtimdioacmojkeaaGreatDoor
open Go.RowKit

theorem xor255 (b : UInt8) : b ^^^ UInt8.ofNat 255 = 0 ↔ b = 255 := by
  simp

/-- what is said of k digits from the second byte on, turned by t -/
theorem read_mid (s : ByteArray) (k t : Nat) (h8 : k ≤ 8) (hl : 1 + k ≤ s.size) (hd : ¬ (0 < k ∧ s.data.toList.tail.headD 0 ^^^ UInt8.ofNat t = 0)) :
    Nm.readN s.data.toList.tail k t = (Nm.val (Nm.tn t (s.data.toList.tail.take k)), 0) := by
  rw [Nm.readN, if_neg (by omega), if_neg (by rw [tail_length]; omega), if_neg hd]
theorem read_bad (s : ByteArray) (k t : Nat) (h8 : k ≤ 8) (hl : 1 + k ≤ s.size) (hd : 0 < k ∧ s.data.toList.tail.headD 0 ^^^ UInt8.ofNat t = 0) :
    Nm.readN s.data.toList.tail k t = (0, 4) := by
  rw [Nm.readN, if_neg (by omega), if_neg (by rw [tail_length]; omega), if_pos hd]
theorem read_short (s : ByteArray) (k t : Nat) (h8 : k ≤ 8) (hp : 0 < s.size) (hl : s.size < 1 + k) :
    Nm.readN s.data.toList.tail k t = (0, 3) := by
  rw [Nm.readN, if_neg (by omega), if_pos (by rw [tail_length]; omega)]
end Go.Proofs.YtimdioacmojkeaaGreatDoor

namespace Go.Proofs.YtimdioacmojkeaaGreatDoor
open Go.RowKit

theorem head3 {a b : Int} {c : Int} {a' b' c' : Int} (h1 : a = a') (h2 : b = b') (h3 : c = c') :
    Ending.returned (.tuple #[.int .i64 a, .int .i64 b, .int .i64 c]) = .returned (.tuple #[.int .i64 a', .int .i64 b', .int .i64 c']) := by rw [h1, h2, h3]
end Go.Proofs.YtimdioacmojkeaaGreatDoor

namespace Go.Proofs.YtimdioacmojkeaaGreatDoor
open Go.RowKit

/-- two nodes in blocks of their own: the answer, and the one that is filled -/
structure R2 (w W : World) (b : Nat) (x0 x1 x2 x3 x4 x5 x6 : Value) : Prop where
  res : W.heap[b]? = some (.cells #[.string ⟨#[]⟩, .int .i64 0, .int .i64 0, .int .i64 0, .int .i64 0, .slice none 0 0, .string ⟨#[]⟩] 89 (0, 0))
  str : W.heap[b + 1]? = some (.cells #[x0, x1, x2, x3, x4, x5, x6] 89 (0, 0))
  bel : Below w.heap.size w W
  at_ : w.heap.size = b

section
variable {w W W' : World} {b : Nat} {x0 x1 x2 x3 x4 x5 x6 y : Value}
theorem R2.past (h : R2 w W b x0 x1 x2 x3 x4 x5 x6) (hb : Below W.heap.size W W') : R2 w W' b x0 x1 x2 x3 x4 x5 x6 :=
  ⟨(hb.block _ (Array.getElem?_eq_some_iff.1 h.res).1).trans h.res, (hb.block _ (Array.getElem?_eq_some_iff.1 h.str).1).trans h.str, h.bel.trans (hb.mono h.bel.size), h.at_⟩

theorem R2.setAt (h : R2 w W b x0 x1 x2 x3 x4 x5 x6) (j : Nat) (y : Value) {y0 y1 y2 y3 y4 y5 y6 : Value} (e : (#[x0, x1, x2, x3, x4, x5, x6] : Array Value).setIfInBounds j y = #[y0, y1, y2, y3, y4, y5, y6]) :
    R2 w (W.setCell ⟨b + 1, j, none⟩ y) b y0 y1 y2 y3 y4 y5 y6 := by
  refine ⟨?_, ?_, h.bel.setCell (p := ⟨b + 1, j, none⟩) (by have := h.at_; simp; omega) _, h.at_⟩
  · rw [Below.heap_setCell _ _ _ _ (by simp)]; exact h.res
  · rw [← e]
    simp [World.setCell, Array.getElem?_modify, h.str]

theorem seven_fz {b : Nat} {T : TypeId} (h : W.heap[b]? = some (.cells #[x0, x1, x2, x3, x4, x5, x6] T (0, 0))) :
    W.frozen? ⟨b, 0, none⟩ = false ∧ W.frozen? ⟨b, 1, none⟩ = false ∧ W.frozen? ⟨b, 2, none⟩ = false ∧ W.frozen? ⟨b, 3, none⟩ = false ∧ W.frozen? ⟨b, 4, none⟩ = false ∧ W.frozen? ⟨b, 5, none⟩ = false ∧ W.frozen? ⟨b, 6, none⟩ = false := by
  refine ⟨?_, ?_, ?_, ?_, ?_, ?_, ?_⟩ <;> simp [World.frozen?, h]

theorem below7 (h : Below w.heap.size w W) (hM : w.heap.size = b) (x0 x1 x2 x3 x4 x5 x6 : Value) :
    Below w.heap.size w (((((((W.setCell ⟨b, 0, none⟩ x0).setCell ⟨b, 1, none⟩ x1).setCell ⟨b, 2, none⟩ x2).setCell ⟨b, 3, none⟩ x3).setCell ⟨b, 4, none⟩ x4).setCell ⟨b, 5, none⟩ x5).setCell ⟨b, 6, none⟩ x6) :=
  ((((((h.setCell (p := ⟨b, 0, none⟩) (Nat.le_of_eq hM) x0).setCell (p := ⟨b, 1, none⟩) (Nat.le_of_eq hM) x1).setCell (p := ⟨b, 2, none⟩) (Nat.le_of_eq hM) x2).setCell (p := ⟨b, 3, none⟩) (Nat.le_of_eq hM) x3).setCell (p := ⟨b, 4, none⟩) (Nat.le_of_eq hM) x4).setCell (p := ⟨b, 5, none⟩) (Nat.le_of_eq hM) x5).setCell (p := ⟨b, 6, none⟩) (Nat.le_of_eq hM) x6

end

/-- what nodeRead answers -/
def RdOut (s : ByteArray) (w : World) (e : Ending) (w' : World) : Prop :=
  Below w.heap.size w w' ∧
  (((Td.rdOne s.data.toList).2.2 ≠ 0 ∧ ∃ (n : Nod) (a : Option Addr) (m c : Nat), e = .returned (.tuple #[ndV n (.slice a m c), .string ⟨#[]⟩, .int .i64 (Td.rdOne s.data.toList).2.2])) ∨
   ∃ (n : Nod) (v : Value), (Td.rdOne s.data.toList) = (n.nd, (Td.rdOne s.data.toList).2.1, 0) ∧ e = .returned (.tuple #[ndV n v, .string ⟨(Td.rdOne s.data.toList).2.1.toArray⟩, .int .i64 0]) ∧ Rx 8 idC w' v n.parts ∧
    (∀ a m c, v = .slice (some a) m c → ∃ cur fr, w'.heap[a.block]? = some (.cells cur 29 fr)) ∧ n.Ok ∧ n.name.size ≤ 1024)

theorem ext_str (s : ByteArray) (k : Nat) : s.extract k s.size = ⟨(s.data.toList.drop k).toArray⟩ := by
  apply ByteArray.ext
  apply Array.toList_inj.1
  rw [Nn.ext_drop']

/-! the reading in stages -/
namespace Td
def rdK (t : Bs) (kd md : Nat) (i : Int) (sz np : Nat) (l : Bs) : Nd × Bs × Int :=
  if l.length < 8 * np then (nd0, [], 3) else
  let k := Nm.getT (l.drop (8 * np))
  if k.2.2 ≠ 0 then (nd0, [], k.2.2) else
  (⟨t, kd, md, i, sz, eights np l, k.1⟩, (l.drop (8 * np)).drop k.2.1, 0)

def rdP (t : Bs) (kd md : Nat) (i : Int) (sz : Nat) (l : Bs) : Nd × Bs × Int := let p := num 300 l; if p.2.2 ≠ 0 then (nd0, [], p.2.2) else rdK t kd md i sz p.1 p.2.1

def rdZ (t : Bs) (kd md : Nat) (i : Int) (l : Bs) : Nd × Bs × Int := let z := num 4096 l; if z.2.2 ≠ 0 then (nd0, [], z.2.2) else rdP t kd md i z.1 z.2.1

def rdI (t : Bs) (kd md : Nat) (l : Bs) : Nd × Bs × Int := let i := Nm.getI l; if i.2.2 ≠ 0 then (nd0, [], i.2.2) else rdZ t kd md i.1 (l.drop i.2.1)

def rdM (t : Bs) (kd : Nat) (l : Bs) : Nd × Bs × Int := let m := num 511 l; if m.2.2 ≠ 0 then (nd0, [], m.2.2) else rdI t kd m.1 m.2.1

theorem rdOne_M {s t : Bs} {kt : Nat} (h1 : Nm.getT s = (t, kt, 0)) (h2 : s.drop kt ≠ []) : rdOne s = rdM t ((s.drop kt).headD 0).toNat (s.drop kt).tail := by
  unfold rdOne
  rw [h1]
  simp only [ne_eq, not_true, if_false, if_neg h2]
  rfl

theorem num_len (most : Nat) (s : Bs) : (num most s).2.1.length ≤ s.length := by
  unfold num
  simp only
  split
  · simp
  · split
    · simp
    · simp

theorem num_most {most : Nat} {s : Bs} {n : Nat} {r : Bs} {e : Int} (h : num most s = (n, r, e)) : n ≤ most := by
  unfold num at h
  simp only at h
  split at h
  · have := congrArg (fun q => q.1) h
    simp at this
    omega
  · split at h
    · have := congrArg (fun q => q.1) h
      simp at this
      omega
    · have := congrArg (fun q => q.1) h
      simp at this
      omega

theorem num_zero {most : Nat} {s : Bs} {n : Nat} {r : Bs} {e : Int} (h : num most s = (n, r, e)) (he : e ≠ 0) : r = [] := by
  unfold num at h
  simp only at h
  split at h
  · exact (congrArg (fun q => q.2.1) h).symm
  · split at h
    · exact (congrArg (fun q => q.2.1) h).symm
    · exact absurd (congrArg (fun q => q.2.2) h).symm he

theorem rdM_err {t l r : Bs} {kd n : Nat} {e : Int} (h : num 511 l = (n, r, e)) (he : e ≠ 0) : (rdM t kd l).2.2 = e := by unfold rdM; rw [h]; simp only [if_pos he]

theorem rdM_ok {t l r : Bs} {kd n : Nat} (h : num 511 l = (n, r, 0)) : rdM t kd l = rdI t kd n r := by unfold rdM; rw [h]; simp only [ne_eq, not_true, if_false]

theorem rdI_err {t l : Bs} {kd md k : Nat} {i e : Int} (h : Nm.getI l = (i, k, e)) (he : e ≠ 0) : (rdI t kd md l).2.2 = e := by unfold rdI; rw [h]; simp only [if_pos he]

theorem rdI_ok {t l : Bs} {kd md k : Nat} {i : Int} (h : Nm.getI l = (i, k, 0)) : rdI t kd md l = rdZ t kd md i (l.drop k) := by unfold rdI; rw [h]; simp only [ne_eq, not_true, if_false]

theorem rdZ_err {t l r : Bs} {kd md n : Nat} {i e : Int} (h : num 4096 l = (n, r, e)) (he : e ≠ 0) : (rdZ t kd md i l).2.2 = e := by unfold rdZ; rw [h]; simp only [if_pos he]

theorem rdZ_ok {t l r : Bs} {kd md n : Nat} {i : Int} (h : num 4096 l = (n, r, 0)) : rdZ t kd md i l = rdP t kd md i n r := by unfold rdZ; rw [h]; simp only [ne_eq, not_true, if_false]

theorem rdP_err {t l r : Bs} {kd md sz n : Nat} {i e : Int} (h : num 300 l = (n, r, e)) (he : e ≠ 0) : (rdP t kd md i sz l).2.2 = e := by unfold rdP; rw [h]; simp only [if_pos he]

theorem rdP_ok {t l r : Bs} {kd md sz n : Nat} {i : Int} (h : num 300 l = (n, r, 0)) : rdP t kd md i sz l = rdK t kd md i sz n r := by unfold rdP; rw [h]; simp only [ne_eq, not_true, if_false]

theorem rdK_short {t l : Bs} {kd md sz np : Nat} {i : Int} (h : l.length < 8 * np) : (rdK t kd md i sz np l).2.2 = 3 := by unfold rdK; rw [if_pos h]

theorem rdK_err {t l k : Bs} {kd md sz np kk : Nat} {i e : Int} (h : ¬ l.length < 8 * np) (hk : Nm.getT (l.drop (8 * np)) = (k, kk, e)) (he : e ≠ 0) : (rdK t kd md i sz np l).2.2 = e := by unfold rdK; rw [if_neg h, hk]; simp only [if_pos he]

theorem rdK_ok {t l k : Bs} {kd md sz np kk : Nat} {i : Int} (h : ¬ l.length < 8 * np) (hk : Nm.getT (l.drop (8 * np)) = (k, kk, 0)) : rdK t kd md i sz np l = (⟨t, kd, md, i, sz, eights np l, k⟩, (l.drop (8 * np)).drop kk, 0) := by
  unfold rdK; rw [if_neg h, hk]; simp only [ne_eq, not_true, if_false]

theorem eights_more : ∀ (j : Nat) (l : Bs), eights (j + 1) l = eights j l ++ [(l.drop (8 * j)).take 8]
  | 0, l => rfl
  | j + 1, l => by
    rw [eights, eights_more j (l.drop 8), List.drop_drop, show 8 + 8 * j = 8 * (j + 1) from by omega]
    rfl

end Td

theorem eight_of8 {t : List UInt8} (h : t.length = 8) : ∃ b0 b1 b2 b3 b4 b5 b6 b7, t = [b0, b1, b2, b3, b4, b5, b6, b7] := by
  match t, h with
  | [b0, b1, b2, b3, b4, b5, b6, b7], _ => exact ⟨b0, b1, b2, b3, b4, b5, b6, b7, rfl⟩

theorem own_ge {base : Nat} {e : TypeId} {k : Nat} {v : Value} {n : Nat} {xs : List Value} {w : World} (h : w.ownsRow base e k v n xs) {g : Nat} (hg : v.ownBlock = some g) : base ≤ g := by
  obtain ⟨_, _, q, _⟩ := own_block h hg
  exact q

theorem own_more8 {w : World} {b n : Nat} {v : Value} {es es' : List (List UInt8)} {x : List UInt8} (h : w.ownsRow (b + 2) 29 8 v n (rowR idC es ++ idC x)) (he : es' = es ++ [x]) (y : Value) :
    (w.setCell ⟨b + 1, 5, none⟩ y).ownsRow (b + 2) 29 8 v n (rowR idC es') := by
  subst he
  rw [rowR_more]
  exact own_kept h ((Kept.refl (fun k => k ≠ b + 1) w).setCell (by simp) _) fun g hg => by have := own_ge h hg; omega

theorem rx_sub {w : World} {v : Value} {L : List { x : List UInt8 // x.length = 8 }} (hr : Rx 8 (fun x : { x : List UInt8 // x.length = 8 } => idC x.1) w v L) : Rx 8 idC w v (L.map (·.1)) := by
  refine ⟨?_, hr.room⟩
  rcases hr.at_ with ⟨h1, rfl⟩ | ⟨bk, o, cp, h1, h2, h3⟩
  · exact .inl ⟨h1, rfl⟩
  · refine .inr ⟨bk, o, cp, by rw [List.length_map]; exact h1, h2, fun j t hj r u hu => ?_⟩
    rw [List.getElem?_map] at hj
    cases e : L[j]? with
    | none => rw [e] at hj; simp at hj
    | some q =>
      rw [e] at hj
      obtain rfl : q.1 = t := by simpa using hj
      exact h3 j q e r u hu

theorem rx_own {base : Nat} {w : World} {v : Value} {n : Nat} {l : List (List UInt8)} (h : w.ownsRow base 29 8 v n (rowR idC l)) (hn : l.length = n) (h8 : ∀ t ∈ l, t.length = 8) : Rx 8 idC w v l := by
  obtain ⟨L, rfl⟩ : ∃ L : List { x : List UInt8 // x.length = 8 }, l = L.map (·.1) := ⟨l.attach.map (fun x => ⟨x.1, h8 x.1 x.2⟩), by simp [List.map_map, Function.comp_def]⟩
  refine rx_sub (Rx.of_own (base := base) (T := 29) (fun t => by rw [idC, List.length_map, t.2]) ?_)
  have e : rowR (fun x : { x : List UInt8 // x.length = 8 } => idC x.1) L = rowR idC (L.map (·.1)) := by simp [rowR]
  rw [e]
  rw [List.length_map] at hn
  rw [hn]
  exact h

theorem own_type {base n k : Nat} {T : TypeId} {w : World} {v : Value} {xs : List Value} (h : w.ownsRow base T k v n xs) : ∀ a m c, v = .slice (some a) m c → ∃ cur fr, w.heap[a.block]? = some (.cells cur T fr) := by
  intro a m c e
  rcases h.2 with ⟨rfl, _⟩ | ⟨g, cap, cur, rfl, hg, hh, _⟩
  · cases e
  · cases e
    exact ⟨_, _, hh⟩

theorem kept7 (W : World) (b : Nat) (x0 x1 x2 x3 x4 x5 x6 : Value) : Kept (fun k => k ≠ b) W (((((((W.setCell ⟨b, 0, none⟩ x0).setCell ⟨b, 1, none⟩ x1).setCell ⟨b, 2, none⟩ x2).setCell ⟨b, 3, none⟩ x3).setCell ⟨b, 4, none⟩ x4).setCell ⟨b, 5, none⟩ x5).setCell ⟨b, 6, none⟩ x6) :=
  (((((((Kept.refl (fun k => k ≠ b) W).setCell (a := ⟨b, 0, none⟩) (by simp) x0).setCell (a := ⟨b, 1, none⟩) (by simp) x1).setCell (a := ⟨b, 2, none⟩) (by simp) x2).setCell (a := ⟨b, 3, none⟩) (by simp) x3).setCell (a := ⟨b, 4, none⟩) (by simp) x4).setCell (a := ⟨b, 5, none⟩) (by simp) x5).setCell (a := ⟨b, 6, none⟩) (by simp) x6

theorem wf_i {n : Int} (h0 : -9223372036854775808 ≤ n) (h1 : n ≤ 9223372036854775807) : (Lit.int .i64 n).wf = true := by
  simp [Lit.wf, IntKind.min, IntKind.max, IntKind.signed, IntKind.bits]
  omega

theorem R2.grown {w W W' : World} {b : Nat} {x0 x1 x2 x3 x4 x5 x6 : Value} {row : Option Nat} (h : R2 w W b x0 x1 x2 x3 x4 x5 x6) (hg : W.grownBy W' row) (hr : ∀ g, row = some g → b + 2 ≤ g) : R2 w W' b x0 x1 x2 x3 x4 x5 x6 :=
  ⟨(hg.block b (Array.getElem?_eq_some_iff.1 h.res).1 fun e => by have := hr b e.symm; omega).trans h.res, (hg.block (b + 1) (Array.getElem?_eq_some_iff.1 h.str).1 fun e => by have := hr (b + 1) e.symm; omega).trans h.str,
    h.bel.grown hg h.bel.size fun g hgb => by have := hr g hgb; have := h.at_; omega, h.at_⟩

theorem info_id : (Tryz.prog.info? 29).map (fun i => (i.zero, i.size, i.bytes)) = some (some (.agg #[.int .u8 0, .int .u8 0, .int .u8 0, .int .u8 0, .int .u8 0, .int .u8 0, .int .u8 0, .int .u8 0]), 8, 8) := by kernel_rfl

theorem eight_new (W : World) (v0 v1 v2 v3 v4 v5 v6 v7 : Value) {T : TypeId} : ∀ j u, [v0, v1, v2, v3, v4, v5, v6, v7][j]? = some u → (W.alloc (.cells #[v0, v1, v2, v3, v4, v5, v6, v7] T)).cell? ((⟨W.heap.size, 0, none⟩ : Addr).add j) = some u := by
  intro j u hj
  rw [show ((⟨W.heap.size, 0, none⟩ : Addr).add j) = ⟨W.heap.size, j, none⟩ from by unfold Addr.add; split <;> simp_all]
  match j, hj with
  | 0, hj => simp at hj; subst hj; simp
  | 1, hj => simp at hj; subst hj; simp
  | 2, hj => simp at hj; subst hj; simp
  | 3, hj => simp at hj; subst hj; simp
  | 4, hj => simp at hj; subst hj; simp
  | 5, hj => simp at hj; subst hj; simp
  | 6, hj => simp at hj; subst hj; simp
  | 7, hj => simp at hj; subst hj; simp

theorem R2.drew {w W : World} {b : Nat} {x0 x1 x2 x3 x4 x5 x6 : Value} (h : R2 w W b x0 x1 x2 x3 x4 x5 x6) : R2 w W.drew b x0 x1 x2 x3 x4 x5 x6 := ⟨h.res, h.str, h.bel.drew, h.at_⟩
end Go.Proofs.YtimdioacmojkeaaGreatDoor

namespace Go.Proofs.YtimdioacmojkeaaGreatDoor
open Go.RowKit

/-- a node whose IDs lie in a block of IDs -/
def NdG (w : World) (n : Nod) (c : List Value) : Prop := ∃ v, c = ndC n v ∧ Rx 8 idC w v n.parts ∧ (∀ a m c, v = .slice (some a) m c → ∃ cur fr, w.heap[a.block]? = some (.cells cur 29 fr)) ∧ n.Ok

theorem NdG.kt {w W : World} {n : Nod} {c : List Value} (hk : Kt 89 w W) (h : NdG w n c) : NdG W n c := by
  obtain ⟨v, e, hr, ht, ho⟩ := h
  refine ⟨v, e, ⟨?_, hr.room⟩, fun a m c hv => ?_, ho⟩
  · rcases hr.at_ with h1 | ⟨bk, o, cap, h1, h2, h3⟩
    · exact .inl h1
    · obtain ⟨cur, fr, hb⟩ := ht _ _ _ h1
      have hb' := hk.cell hb (by decide)
      refine .inr ⟨bk, o, cap, h1, Nat.lt_of_lt_of_le h2 hk.size, fun j t hj r u hu => ?_⟩
      rw [← h3 j t hj r u hu]
      simp only [World.cell?] at hb hb' ⊢
      rw [hb, hb']
  · obtain ⟨cur, fr, hb⟩ := ht a m c hv
    exact ⟨cur, fr, hk.cell hb (by decide)⟩

theorem NdG.below {w W : World} {n : Nod} {c : List Value} (hb : Below w.heap.size w W) (h : NdG w n c) : NdG W n c := NdG.kt (Kt.of_below hb) h

theorem NdG.r {w : World} {n : Nod} {c : List Value} (h : NdG w n c) : NdR w n c := by
  obtain ⟨v, e, hr, _, ho⟩ := h
  exact ⟨v, e, hr, ho⟩

theorem Nds.of_oy {base : Nat} {w : World} {v : Value} {l : List Nod} (h : Oy 7 89 NdG base w v l) : Nds w v l := by
  rcases (Rw.of_ry h.ry).at_ with h1 | ⟨bk, o, cap, h1, h2, h3, h4⟩
  · exact ⟨.inl h1⟩
  · refine ⟨.inr ⟨bk, o, cap, h1, h2, h3, fun j t hj => ?_⟩⟩
    obtain ⟨c, c1, c2, c3⟩ := h4 j t hj
    exact ⟨c, c1, c2.r, c3⟩

theorem info_nd : (Tryz.prog.info? 89).map (fun i => (i.zero, i.size, i.bytes)) = some (some (.agg #[.string ⟨#[]⟩, .int .i64 0, .int .i64 0, .int .i64 0, .int .i64 0, .slice none 0 0, .string ⟨#[]⟩]), 7, 88) := by kernel_rfl

theorem below7' {w W : World} {B b : Nat} (h : Below B w W) (hM : B ≤ b) (x0 x1 x2 x3 x4 x5 x6 : Value) :
    Below B w (((((((W.setCell ⟨b, 0, none⟩ x0).setCell ⟨b, 1, none⟩ x1).setCell ⟨b, 2, none⟩ x2).setCell ⟨b, 3, none⟩ x3).setCell ⟨b, 4, none⟩ x4).setCell ⟨b, 5, none⟩ x5).setCell ⟨b, 6, none⟩ x6) :=
  ((((((h.setCell (p := ⟨b, 0, none⟩) hM x0).setCell (p := ⟨b, 1, none⟩) hM x1).setCell (p := ⟨b, 2, none⟩) hM x2).setCell (p := ⟨b, 3, none⟩) hM x3).setCell (p := ⟨b, 4, none⟩) hM x4).setCell (p := ⟨b, 5, none⟩) hM x5).setCell (p := ⟨b, 6, none⟩) hM x6

theorem set_seven {W : World} {b : Nat} {T : TypeId} {y0 y1 y2 y3 y4 y5 y6 : Value} (h : W.heap[b]? = some (.cells #[y0, y1, y2, y3, y4, y5, y6] T (0, 0))) (x0 x1 x2 x3 x4 x5 x6 : Value) :
    (((((((W.setCell ⟨b, 0, none⟩ x0).setCell ⟨b, 1, none⟩ x1).setCell ⟨b, 2, none⟩ x2).setCell ⟨b, 3, none⟩ x3).setCell ⟨b, 4, none⟩ x4).setCell ⟨b, 5, none⟩ x5).setCell ⟨b, 6, none⟩ x6).heap[b]? = some (.cells #[x0, x1, x2, x3, x4, x5, x6] T (0, 0)) := by
  simp [World.setCell, Array.getElem?_modify, h]

theorem kt_any {T : TypeId} {W : World} {b : Nat} (h : ∃ cur fr, W.heap[b]? = some (.cells cur T fr)) (j : Nat) (x : Value) : Kt T W (W.setCell ⟨b, j, none⟩ x) ∧ ∃ cur fr, (W.setCell ⟨b, j, none⟩ x).heap[b]? = some (.cells cur T fr) := by
  obtain ⟨cur, fr, h⟩ := h
  refine ⟨Kt.set h j x, ?_⟩
  simp [World.setCell, Array.getElem?_modify, h]

theorem kt_seven {W : World} {b : Nat} {T : TypeId} {cur : Array Value} {fr : Nat × Nat} (h : W.heap[b]? = some (.cells cur T fr)) (x0 x1 x2 x3 x4 x5 x6 : Value) :
    Kt T W (((((((W.setCell ⟨b, 0, none⟩ x0).setCell ⟨b, 1, none⟩ x1).setCell ⟨b, 2, none⟩ x2).setCell ⟨b, 3, none⟩ x3).setCell ⟨b, 4, none⟩ x4).setCell ⟨b, 5, none⟩ x5).setCell ⟨b, 6, none⟩ x6) := by
  obtain ⟨k0, h0⟩ := kt_any ⟨_, _, h⟩ 0 x0
  obtain ⟨k1, h1⟩ := kt_any h0 1 x1
  obtain ⟨k2, h2⟩ := kt_any h1 2 x2
  obtain ⟨k3, h3⟩ := kt_any h2 3 x3
  obtain ⟨k4, h4⟩ := kt_any h3 4 x4
  obtain ⟨k5, h5⟩ := kt_any h4 5 x5
  obtain ⟨k6, _⟩ := kt_any h5 6 x6
  exact (((((k0.trans k1).trans k2).trans k3).trans k4).trans k5).trans k6

theorem seven_new (W : World) (v0 v1 v2 v3 v4 v5 v6 : Value) {T : TypeId} : ∀ j u, [v0, v1, v2, v3, v4, v5, v6][j]? = some u → (W.alloc (.cells #[v0, v1, v2, v3, v4, v5, v6] T)).cell? ((⟨W.heap.size, 0, none⟩ : Addr).add j) = some u := by
  intro j u hj
  rw [show ((⟨W.heap.size, 0, none⟩ : Addr).add j) = ⟨W.heap.size, j, none⟩ from by unfold Addr.add; split <;> simp_all]
  match j, hj with
  | 0, hj => simp at hj; subst hj; simp
  | 1, hj => simp at hj; subst hj; simp
  | 2, hj => simp at hj; subst hj; simp
  | 3, hj => simp at hj; subst hj; simp
  | 4, hj => simp at hj; subst hj; simp
  | 5, hj => simp at hj; subst hj; simp
  | 6, hj => simp at hj; subst hj; simp

/-- what TreeRead answers -/
def TrOut (s : ByteArray) (w : World) (e : Ending) (w' : World) : Prop :=
  ∃ v l, e = .returned (.tuple #[v, .int .i64 (Td.read s.data.toList).2]) ∧ nds l = (Td.read s.data.toList).1 ∧ Nds w' v l ∧ l.length ≤ 64 ∧ (∀ n ∈ l, n.name.size ≤ 1024) ∧ Below w.heap.size w w'

theorem Td.rdAll_step {m : Nat} {s : Td.Bs} {out : List Td.Nd} {RES : List Td.Nd × Int} (h : Td.rdAll (m + 1) s out = RES) : ((Td.rdOne s).2.2 ≠ 0 → RES = ([], (Td.rdOne s).2.2)) ∧ ((Td.rdOne s).2.2 = 0 → Td.rdAll m (Td.rdOne s).2.1 (out ++ [(Td.rdOne s).1]) = RES) := by
  rw [Td.rdAll] at h
  refine ⟨fun he => ?_, fun he => ?_⟩
  · rw [if_pos he] at h; exact h.symm
  · rw [if_neg (fun k => k he)] at h; exact h
end Go.Proofs.YtimdioacmojkeaaGreatDoor

namespace Go.Proofs.YtimdioacmojkeaaGreatDoor
open Go.RowKit
set_option maxRecDepth 4000

/-- the planter behind at most c blobs -/
def Pq (base b m : Nat) (fx mn mx bt : Int) (c : Nat) (w : World) (left : List Im) (bs : List Blb) : Prop := bs.length ≤ c ∧ ∃ n, n ≤ c ∧ Plt base b m fx mn mx bt w left bs n

theorem Pq.below {base b m : Nat} {fx mn mx bt : Int} {c : Nat} {w w' : World} {left : List Im} {bs : List Blb} (h : Pq base b m fx mn mx bt c w left bs) (hb : Below w.heap.size w w') : Pq base b m fx mn mx bt c w' left bs := by
  obtain ⟨h1, n, h2, h3⟩ := h
  exact ⟨h1, n, h2, h3.below hb⟩

theorem Pq.mono {base b m : Nat} {fx mn mx bt : Int} {c c' : Nat} {w : World} {left : List Im} {bs : List Blb} (h : Pq base b m fx mn mx bt c w left bs) (hc : c ≤ c') : Pq base b m fx mn mx bt c' w left bs := by
  obtain ⟨h1, n, h2, h3⟩ := h
  exact ⟨by omega, n, by omega, h3⟩

theorem Pq.base {base b m : Nat} {fx mn mx bt : Int} {c : Nat} {w : World} {left : List Im} {bs : List Blb} (h : Pq base b m fx mn mx bt c w left bs) : base ≤ w.heap.size := by
  obtain ⟨h1, n, h2, h3⟩ := h
  obtain ⟨lv, bv, p1, _⟩ := h3.ex
  have := (Array.getElem?_eq_some_iff.1 p1).1
  have := h3.at_
  omega

theorem tell_q (base b m c : Nat) (fx mn mx bt : Int) (left : List Im) (bs : List Blb) (x : Blb) (w : World) (h : Pq base b m fx mn mx bt c w left bs) (hc : c < 1000000000) (hx : x.bytes.size ≤ 9223372036854775807) :
    Calls Tryz.prog 44 #[.pointer (some ⟨b, 0, none⟩), blV x] w fun e w' => e = .returned (.tuple #[idV (idI bs x), .int .i64 (errI bs x)]) ∧ Pq base b m fx mn mx bt (c + 1) w' left (more bs x) ∧ Pf base w w' := by
  obtain ⟨h1, n, h2, h3⟩ := h
  refine (tell_any base b m n fx mn mx bt left bs x w h3 (by omega) (by omega) hx).mono ?_
  rintro e w' ⟨he, ⟨n', hn', hp⟩, hf⟩
  have := more_length bs x
  exact ⟨he, ⟨by omega, n', by omega, hp⟩, hf⟩

theorem own_pf {base base' : Nat} {e : TypeId} {k : Nat} {v : Value} {n : Nat} {xs : List Value} {w w' : World} (h : w.ownsRow base' e k v n xs) (hk : Pf base w w') (h1 : e ≠ 37) (h2 : e ≠ 59) : w'.ownsRow base' e k v n xs :=
  own_ko h hk.ko fun _ _ => ⟨h1, h2⟩

theorem own_kt {base' : Nat} {T e : TypeId} {k : Nat} {v : Value} {n : Nat} {xs : List Value} {w w' : World} (h : w.ownsRow base' e k v n xs) (hk : Kt T w w') (hne : e ≠ T) : w'.ownsRow base' e k v n xs := by
  obtain ⟨h1, h2⟩ := h
  refine ⟨h1, ?_⟩
  rcases h2 with h2 | ⟨g, cap, cur, hv, hg, hh, r⟩
  · exact .inl h2
  · exact .inr ⟨g, cap, cur, hv, hg, hk.cell hh hne, r⟩

/-- the planter stays while rows of another type grow -/
theorem Plt.kt {T : TypeId} {base b m n : Nat} {fx mn mx bt : Int} {w w' : World} {left : List Im} {bs : List Blb} (h : Plt base b m fx mn mx bt w left bs n) (hk : Kt T w w') (hl : Below base w w') (h1 : 37 ≠ T) (h2 : 59 ≠ T) : Plt base b m fx mn mx bt w' left bs n := by
  obtain ⟨⟨lv, bv, p1, p2, p3, p4⟩, hm, ha, hc⟩ := h
  exact ⟨⟨lv, bv, hk.cell p1 h2, p2.keepb hl p3, p3, own_kt p4 hk h1⟩, hm.obj fun es c ho => hk.obj _ _ ho (fun ⟨_, _, e⟩ => by cases e), ha, hc⟩

theorem Pq.kt {T : TypeId} {base b m c : Nat} {fx mn mx bt : Int} {w w' : World} {left : List Im} {bs : List Blb} (h : Pq base b m fx mn mx bt c w left bs) (hk : Kt T w w') (hl : Below base w w') (h1 : 37 ≠ T) (h2 : 59 ≠ T) : Pq base b m fx mn mx bt c w' left bs := by
  obtain ⟨q1, n, q2, q3⟩ := h
  exact ⟨q1, n, q2, q3.kt hk hl h1 h2⟩

/-- what is made later may change -/
theorem Pf.then {base : Nat} {w w3 w6 : World} (h : Pf base w w3) (hb : Below w.heap.size w3 w6) (hbase : base ≤ w.heap.size) : Pf base w w6 :=
  ⟨h.low.trans (hb.mono hbase), ⟨hb.os.trans h.ko.os, hb.tape.trans h.ko.tape, hb.output.trans h.ko.output, Nat.le_trans h.ko.size hb.size, fun k o ho hp => (hb.block k (Array.getElem?_eq_some_iff.1 ho).1).trans (h.ko.obj k o ho hp)⟩⟩

def mkB (p : List UInt8) : ByteArray := ⟨p.toArray⟩

theorem sv_tv (P : List Ck.Bs) : P.map Sv = (P.map mkB).map Tv := by
  rw [List.map_map]
  rfl

/-- what pieces leaves, when k of them have been told -/
theorem pieces_step {P : List Wk.Bs} {k : Nat} {p : Wk.Bs} (hp : P[k]? = some p) {bs : List Blb} {T : List Pk.Bl × List Wk.Bs × Int} {done : List Wk.Bs}
    (h : T = ((Wk.pieces (P.drop k) (pl bs)).1, done ++ (Wk.pieces (P.drop k) (pl bs)).2.1, (Wk.pieces (P.drop k) (pl bs)).2.2)) :
    (errI bs ⟨1, mkB p⟩ ≠ 0 → T.2.2 = errI bs ⟨1, mkB p⟩) ∧
    (errI bs ⟨1, mkB p⟩ = 0 → T = ((Wk.pieces (P.drop (k + 1)) (pl (more bs ⟨1, mkB p⟩))).1, (done ++ [idI bs ⟨1, mkB p⟩]) ++ (Wk.pieces (P.drop (k + 1)) (pl (more bs ⟨1, mkB p⟩))).2.1, (Wk.pieces (P.drop (k + 1)) (pl (more bs ⟨1, mkB p⟩))).2.2)) := by
  have hlt := (List.getElem?_eq_some_iff.1 hp).1
  have e0 : P.drop k = p :: P.drop (k + 1) := by
    rw [List.drop_eq_getElem_cons hlt, (List.getElem?_eq_some_iff.1 hp).2]
  rw [e0, Wk.pieces] at h
  have eb : (⟨1, mkB p⟩ : Blb).p = (1, p) := rfl
  constructor
  · intro hE
    have hE' : (Wk.into (pl bs) (1, p)).2.2 ≠ 0 := hE
    rw [h]
    dsimp only
    rw [if_pos hE']
    rfl
  · intro hE
    have hm := more_pl hE
    rw [eb] at hm
    rw [hm] at h
    rw [h]
    have hi : idI bs ⟨1, mkB p⟩ = Pk.bid (1, p) := by unfold idI; rw [if_pos hE]; rfl
    rw [hi]
    simp

set_option maxHeartbeats 4000000 in
set_option maxRecDepth 10000 in
theorem file_any (base b m c : Nat) (fx mn mx bt : Int) (left : List Im) (bs : List Blb) (s : ByteArray) (w : World) (h : Pq base b m fx mn mx bt c w left bs) (hc : c < 900000000) (hw : wayN fx mn mx bt = 0) (hs : s.size ≤ 4096) (R : List Pk.Bl × List Wk.Bs × Int) (hR : R = Wk.pieces (cutF fx mn mx bt s.data.toList) (pl bs)) :
    Calls Tryz.prog 64 #[.pointer (some ⟨b, 0, none⟩), .string s] w fun e w' => ∃ v, e = .returned (.tuple #[v, .int .i64 R.2.2]) ∧ Pf base w w' ∧
      (R.2.2 ≠ 0 → v = .slice none 0 0) ∧ (R.2.2 = 0 → w'.ownsRow w.heap.size 29 8 v R.2.1.length (rowR idC R.2.1) ∧ (∀ t ∈ R.2.1, t.length = 8) ∧ R.2.1.length ≤ 257 ∧ ∃ bs', pl bs' = R.1 ∧ Pq base b m fx mn mx bt (c + 257) w' left bs') := by
  obtain ⟨i0, hi, hz0, hz1, hz2⟩ := info_of' info_id
  have hcut := wcut_any fx mn mx bt s w
  have hPn : (cutW fx mn mx bt s).length ≤ 257 := by
    have := cutF_few hw s.data.toList (by rw [← Lib.size_eq]; exact hs)
    have hsz : s.data.toList.length = s.size := (Lib.size_eq s).symm
    rw [hsz] at this
    have : (cutW fx mn mx bt s).length ≤ s.size / 16 + 1 := this
    omega
  have HPs : Hid (∀ p ∈ cutW fx mn mx bt s, (mkB p).size ≤ 9223372036854775807) := fun p hp => by
    have hj := cutF_join hw s.data.toList (by rw [← Lib.size_eq]; exact hs)
    have hp' : p ∈ cutF fx mn mx bt s.data.toList := hp
    have : p.length ≤ s.size := by
      have := mem_flat hp'
      rw [hj, ← Lib.size_eq] at this
      exact this
    rw [mkB, Lib.size_eq]
    simp
    omega
  rw [cutF_of] at hR
  generalize cutW fx mn mx bt s = P at *
  have HT0 : Hid (R = ((Wk.pieces (P.drop 0) (pl bs)).1, [] ++ (Wk.pieces (P.drop 0) (pl bs)).2.1, (Wk.pieces (P.drop 0) (pl bs)).2.2)) := by
    show _ = _
    rw [hR]; simp
  have HQ0 : Hid (Pq base b m fx mn mx bt (c + 0) w left bs) := h
  have hbase := h.base
  obtain ⟨_, n, _, h3⟩ := h
  obtain ⟨lv, bv, p1, _⟩ := h3.ex
  obtain ⟨d0, d1, d2, d3, _, _, _, dlt⟩ := sev_at p1
  clear hR h3 p1 hw
  go_enter Tryz.func64, Tryz.ntmps64
  go_wp2_with fail
  refine hcut.mono ?_
  rintro e w1 ⟨v1, rfl, o1, b1⟩
  have HO1 : Hid (w1.ownsRow (w.heap.size + 1) 9 1 v1 P.length (P.map Sv)) := o1
  have HQ1 : Hid (Pq base b m fx mn mx bt (c + 0) w1 left bs) := HQ0.out.below b1
  have HF1 : Hid (Pf base w w1) := Pf.of_below b1 hbase
  obtain ⟨a1, c1, rfl⟩ := own_form o1
  obtain ⟨N, hN⟩ : ∃ N, N = P.length := ⟨_, rfl⟩
  have HN : Hid (N = P.length) := hN
  rw [← hN] at HO1 hPn ⊢
  clear hcut o1 b1 HQ0 d0 d1 d2 d3 dlt hN
  go_wp2_with fail
  go_loopw [6, 18] (fun v i wr => ∃ (k : Nat) (done : List Wk.Bs) (bk : List Blb), k ≤ N ∧ i = .int .i64 k ∧ done.length = k ∧
    Hid (R = ((Wk.pieces (P.drop k) (pl bk)).1, done ++ (Wk.pieces (P.drop k) (pl bk)).2.1, (Wk.pieces (P.drop k) (pl bk)).2.2)) ∧ Hid (Pq base b m fx mn mx bt (c + k) wr left bk) ∧
    Hid (wr.ownsRow w.heap.size 29 8 v k (rowR idC done)) ∧ Hid (∀ t ∈ done, t.length = 8) ∧ Hid (Pf base w wr) ∧ Hid (wr.ownsRow (w.heap.size + 1) 9 1 (.slice a1 N c1) N (P.map Sv))) (fun _ i _ => N - (intOf i).toNat)
  case atStart => exact ⟨0, [], bs, by omega, rfl, rfl, HT0, HQ1, World.ownsRow_nil _ _ _ _, (fun _ h => absurd h List.not_mem_nil), HF1, HO1⟩
  case round =>
    clear HT0 HQ1 HF1 HO1
    obtain ⟨k, done, bk, hk, rfl, hdk, HT, HQ, HO, H8, HF, HOs⟩ := hrel
    by_cases hlt : k < N
    · have hkP : k < P.length := by rw [← HN.out]; exact hlt
      obtain ⟨p, hp⟩ : ∃ p, P[k]? = some p := ⟨_, List.getElem?_eq_getElem hkP⟩
      have hx : Tx wr (.slice a1 N c1) (P.map mkB) := Tx.of_own (by rw [List.length_map, ← HN.out, ← sv_tv]; exact HOs.out)
      obtain ⟨bk1, o1, rfl, hbk1, hc1⟩ := hx.get k (by simpa using hkP)
      have hcell : wr.cell? ⟨bk1, o1 + k, none⟩ = some (.string (mkB p)) := by
        rw [hc1, List.getD_eq_getElem?_getD, List.getElem?_map, hp]
        rfl
      obtain ⟨s1, s2⟩ := pieces_step hp HT.out
      have HS1 : Hid (errI bk ⟨1, mkB p⟩ ≠ 0 → R.2.2 = errI bk ⟨1, mkB p⟩) := s1
      have HS2 : Hid (errI bk ⟨1, mkB p⟩ = 0 → R = ((Wk.pieces (P.drop (k + 1)) (pl (more bk ⟨1, mkB p⟩))).1, (done ++ [idI bk ⟨1, mkB p⟩]) ++ (Wk.pieces (P.drop (k + 1)) (pl (more bk ⟨1, mkB p⟩))).2.1, (Wk.pieces (P.drop (k + 1)) (pl (more bk ⟨1, mkB p⟩))).2.2)) := s2
      have htell := tell_q base b m (c + k) fx mn mx bt left bk ⟨1, mkB p⟩ wr HQ.out (by omega) (HPs.out p (List.mem_of_getElem? hp))
      have hil := idI_length bk ⟨1, mkB p⟩
      obtain ⟨b0, b1, b2, b3, b4, b5, b6, b7, hL⟩ := eight _ hil
      rw [hL] at htell HS2
      have htell' : Calls Tryz.prog 44 #[.pointer (some ⟨b, 0, none⟩), .agg #[.int .i64 1, .string (mkB p)]] wr fun e w' => e = .returned (.tuple #[.agg #[.int .u8 (b0.toNat : Int), .int .u8 (b1.toNat : Int), .int .u8 (b2.toNat : Int), .int .u8 (b3.toNat : Int), .int .u8 (b4.toNat : Int), .int .u8 (b5.toNat : Int), .int .u8 (b6.toNat : Int), .int .u8 (b7.toNat : Int)], .int .i64 (errI bk ⟨1, mkB p⟩)]) ∧ Pq base b m fx mn mx bt (c + k + 1) w' left (more bk ⟨1, mkB p⟩) ∧ Pf base wr w' := htell
      generalize mkB p = pc at *
      generalize errI bk ⟨1, pc⟩ = ER at *
      generalize more bk ⟨1, pc⟩ = MB at *
      clear htell hil hL hx hc1 s1 s2 hkP hp HQ
      have HRs : Hid ((R.2.2 ≠ 0 → R.2.2 ≠ 0)) := fun h => h
      by_cases hE : ER = 0
      · subst hE
        have HT2 := (show Hid _ from HS2.out rfl)
        clear HS1 HS2
        go_wp2_with fail
        refine htell'.mono ?_
        rintro e w3 ⟨rfl, q3, f3⟩
        have HQ3 : Hid (Pq base b m fx mn mx bt (c + (k + 1)) w3 left MB) := q3
        have HF3 : Hid (Pf base w w3) := HF.out.trans f3
        have HOs3 : Hid (w3.ownsRow (w.heap.size + 1) 9 1 (.slice (some ⟨bk1, o1, none⟩) N c1) N (P.map Sv)) := own_pf HOs.out f3 (by decide) (by decide)
        have hO3 : w3.ownsRow w.heap.size 29 8 u6 k (rowR idC done) := own_pf HO.out f3 (by decide) (by decide)
        have hsz3 : w.heap.size ≤ w3.heap.size := HF3.out.size
        have hb3 : base ≤ w3.heap.size := Nat.le_trans hbase hsz3
        clear htell' q3 f3 HO HF HOs HT hcell hbk1
        go_wp2_with (at_builtin; refine wpList_append_own _ rfl (.tmp 32) (.tmp 34) 53 rfl w.heap.size 29 i0 (.agg #[.int .u8 0, .int .u8 0, .int .u8 0, .int .u8 0, .int .u8 0, .int .u8 0, .int .u8 0, .int .u8 0]) 8 8 Tryz.underlying53 hi hz0 hz1 hz2 rfl (by decide) _ _ _ rfl ((hO3.alloc _).alloc _) ⟨w3.heap.size + 1, 0, none⟩ 1 1 [.int .u8 (b0.toNat : Int), .int .u8 (b1.toNat : Int), .int .u8 (b2.toNat : Int), .int .u8 (b3.toNat : Int), .int .u8 (b4.toNat : Int), .int .u8 (b5.toNat : Int), .int .u8 (b6.toNat : Int), .int .u8 (b7.toNat : Int)] rfl rfl ?c1 ?c2 ?c3 ?c4 ?c5 ?_)
        case c1 => have := eight_new (w3.alloc (.cells #[.int .u8 (b0.toNat : Int), .int .u8 (b1.toNat : Int), .int .u8 (b2.toNat : Int), .int .u8 (b3.toNat : Int), .int .u8 (b4.toNat : Int), .int .u8 (b5.toNat : Int), .int .u8 (b6.toNat : Int), .int .u8 (b7.toNat : Int)] 29)) (.int .u8 (b0.toNat : Int)) (.int .u8 (b1.toNat : Int)) (.int .u8 (b2.toNat : Int)) (.int .u8 (b3.toNat : Int)) (.int .u8 (b4.toNat : Int)) (.int .u8 (b5.toNat : Int)) (.int .u8 (b6.toNat : Int)) (.int .u8 (b7.toNat : Int)) (T := 29); rwa [World.size_alloc] at this
        case c2 => simp [Value.oneCell']
        case c3 => unfold maxLen; omega
        case c4 => omega
        case c5 => simp; omega
        intro v6 w6 hown6 hgrow _
        have hO3' := (hO3.alloc (.cells #[.int .u8 (b0.toNat : Int), .int .u8 (b1.toNat : Int), .int .u8 (b2.toNat : Int), .int .u8 (b3.toNat : Int), .int .u8 (b4.toNat : Int), .int .u8 (b5.toNat : Int), .int .u8 (b6.toNat : Int), .int .u8 (b7.toNat : Int)] 29)).alloc (.cells #[.int .u8 (b0.toNat : Int), .int .u8 (b1.toNat : Int), .int .u8 (b2.toNat : Int), .int .u8 (b3.toNat : Int), .int .u8 (b4.toNat : Int), .int .u8 (b5.toNat : Int), .int .u8 (b6.toNat : Int), .int .u8 (b7.toNat : Int)] 29)
        have hk6 : Kt 29 w3 w6 := (((Kt.refl _ w3).alloc _).alloc _).trans (Kt.of_grown hgrow fun g hg => by
          obtain ⟨cur, q, _⟩ := own_block hO3' hg
          exact ⟨cur, _, q⟩)
        have hb6 : Below w.heap.size w3 w6 := (((Below.refl _ w3).alloc hsz3 _).alloc (by simp; omega) _).grown hgrow (by simp; omega) fun q hq => (hO3'.lt q hq).1
        have HQ6 : Hid (Pq base b m fx mn mx bt (c + (k + 1)) w6 left MB) := HQ3.out.kt hk6 (hb6.mono hbase) (by decide) (by decide)
        have HF6 : Hid (Pf base w w6) := HF3.out.then hb6 hbase
        have HOs6 : Hid (w6.ownsRow (w.heap.size + 1) 9 1 (.slice (some ⟨bk1, o1, none⟩) N c1) N (P.map Sv)) := own_kt HOs3.out hk6 (by decide)
        have HO6 : Hid (w6.ownsRow w.heap.size 29 8 v6 (k + 1) (rowR idC (done ++ [[b0, b1, b2, b3, b4, b5, b6, b7]]))) := by
          show World.ownsRow _ _ _ _ _ _ _
          rw [rowR_more]
          exact hown6
        have H86 : Hid (∀ t ∈ done ++ [[b0, b1, b2, b3, b4, b5, b6, b7]], t.length = 8) := fun t ht => by
          rcases List.mem_append.1 ht with q | q
          · exact H8.out t q
          · rw [List.mem_singleton.1 q]; rfl
        have HLd : Hid ((done ++ [[b0, b1, b2, b3, b4, b5, b6, b7]]).length = k + 1) := by show _ = _; rw [List.length_append, hdk]; rfl
        clear hown6 hgrow hO3 hO3' hk6 hb6 HQ3 HF3 HOs3 H8
        go_wp2_with fail
        go_roundw
        case rel => exact ⟨k + 1, _, MB, by omega, by go_num, HLd.out, HT2, HQ6, HO6, H86, HF6, HOs6⟩
        case measure => simp only [intOf]; omega
      · have HRE : Hid (R.2.2 = ER) := HS1.out hE
        have hne : (ER != 0) = true := by rw [bne_iff_ne]; exact hE
        have HE : Hid (ER ≠ 0) := hE
        clear HS1 HS2 hE
        go_wp2_with fail
        refine htell'.mono ?_
        rintro e w3 ⟨rfl, _, f3⟩
        have HF3 : Hid (Pf base w (w3.alloc (.cells #[.int .u8 (b0.toNat : Int), .int .u8 (b1.toNat : Int), .int .u8 (b2.toNat : Int), .int .u8 (b3.toNat : Int), .int .u8 (b4.toNat : Int), .int .u8 (b5.toNat : Int), .int .u8 (b6.toNat : Int), .int .u8 (b7.toNat : Int)] 29))) := (HF.out.trans f3).trans (Pf.of_below ((Below.refl _ w3).alloc (Nat.le_refl _) _) (Nat.le_trans hbase (HF.out.trans f3).size))
        clear htell' f3 HO HF HOs HT hcell hbk1
        go_wp2_with fail
        go_ret2
        exact ⟨_, by rw [HRE.out]; rfl, HF3.out, fun _ => rfl, fun e => absurd (HRE.out.symm.trans e) HE.out⟩
    · obtain rfl : k = N := by omega
      have HRz : Hid (R = (pl bk, done, 0)) := by
        have e : P.drop P.length = [] := List.drop_of_length_le (Nat.le_refl _)
        show _ = _
        rw [HT.out, HN.out, e]
        simp [Wk.pieces]
      have HQz : Hid (Pq base b m fx mn mx bt (c + 257) wr left bk) := HQ.out.mono (by omega)
      have hd257 : done.length ≤ 257 := by omega
      have HDk : Hid (done.length = k) := hdk
      clear HT HQ HOs
      go_wp2_with fail
      go_ret2
      refine ⟨_, by rw [HRz.out]; rfl, HF.out, fun e => absurd (by rw [HRz.out]) e, fun _ => ?_⟩
      rw [HRz.out]
      exact ⟨by rw [HDk.out]; exact HO.out, H8.out, hd257, bk, rfl, HQz.out⟩

end Go.Proofs.YtimdioacmojkeaaGreatDoor

namespace Go.Proofs.YtimdioacmojkeaaGreatDoor
open Go.RowKit

/-- what operation j waits for -/
def afters (md : Region.Mode) (ops : Array Oper) (j : Nat) : List Nat :=
  match ops[j]? with
  | none => []
  | some o => (o.after.toList.filter fun e => Region.binds md e).map (·.on)
def clos (md : Region.Mode) (ops : Array Oper) : Nat → List Nat → List Nat
  | 0, S => S
  | k + 1, S => clos md ops k (S ++ S.flatMap (afters md ops))
/-- the operations from m on wait for all ahead of m -/
def tailB (md : Region.Mode) (ops : Array Oper) (m k : Nat) : Bool :=
  (List.range m).all (fun i => (clos md ops k (afters md ops m)).contains i) && ((List.range ops.size).all (fun j => decide (j ≤ m) || (clos md ops k (afters md ops j)).contains m) &&
    (List.range ops.size).all (fun j => (afters md ops j).all fun i => decide (i < j)))
section
variable {P : Program} {md : Region.Mode} {ops ops' : Array Oper} {C : World → Prop}
theorem afters_listed {listed : Array Bool} (hc : closedB md ops listed = true) {j : Nat} (hj : listed.getD j false = true) : ∀ i ∈ afters md ops j, listed.getD i false = true := by
  intro i hi
  unfold afters at hi
  cases ho : ops[j]? with
  | none => rw [ho] at hi; simp at hi
  | some o =>
    rw [ho] at hi
    obtain ⟨e, he, rfl⟩ := List.mem_map.1 hi
    obtain ⟨he1, he2⟩ := List.mem_filter.1 he
    have hlt : j < ops.size := (Array.getElem?_eq_some_iff.1 ho).1
    have := List.all_eq_true.1 hc j (List.mem_range.2 hlt)
    rw [hj, ho, Bool.not_true, Bool.false_or] at this
    have h2 := (Array.all_eq_true'.1 this) e (Array.mem_toList_iff.1 he1)
    rw [he2, Bool.not_true, Bool.false_or] at h2
    exact h2
theorem clos_listed {listed : Array Bool} (hc : closedB md ops listed = true) : ∀ (k : Nat) (S : List Nat), (∀ i ∈ S, listed.getD i false = true) → ∀ i ∈ clos md ops k S, listed.getD i false = true
  | 0, _, h => h
  | k + 1, S, h => clos_listed hc k _ fun i hi => by
    rcases List.mem_append.1 hi with a | a
    · exact h i a
    · obtain ⟨j, hj, hi'⟩ := List.mem_flatMap.1 a
      exact afters_listed hc (h j hj) i hi'
theorem ready_afters {listed : Array Bool} {j : Nat} (h : j ∈ Region.ready md ops listed) : ∀ i ∈ afters md ops j, listed.getD i false = true := by
  obtain ⟨_, o, ho, hall⟩ := mem_ready.1 h
  intro i hi
  unfold afters at hi
  rw [ho] at hi
  obtain ⟨e, he, rfl⟩ := List.mem_map.1 hi
  obtain ⟨he1, he2⟩ := List.mem_filter.1 he
  exact hall e (Array.mem_toList_iff.1 he1) he2
theorem ready_some {listed : Array Bool} (hs : listed.size = ops.size) (hb : ∀ j, j < ops.size → ∀ i ∈ afters md ops j, i < j) : ∀ (n j : Nat), j ≤ n → j < ops.size → listed.getD j true = false → Region.ready md ops listed ≠ [] := by
  intro n
  induction n with
  | zero =>
    intro j hn hj hf h0
    obtain rfl : j = 0 := by omega
    have : 0 ∈ Region.ready md ops listed := by
      refine mem_ready.2 ⟨hf, ops[0], Array.getElem?_eq_getElem hj, fun e he hbd => ?_⟩
      have := hb 0 hj e.on (by unfold afters; rw [Array.getElem?_eq_getElem hj]; exact List.mem_map_of_mem (List.mem_filter.2 ⟨Array.mem_toList_iff.2 he, hbd⟩))
      omega
    rw [h0] at this
    simp at this
  | succ n ih =>
    intro j hn hj hf h0
    by_cases hall : ∀ i ∈ afters md ops j, listed.getD i false = true
    · have : j ∈ Region.ready md ops listed := by
        refine mem_ready.2 ⟨hf, ops[j], Array.getElem?_eq_getElem hj, fun e he hbd => ?_⟩
        exact hall e.on (by unfold afters; rw [Array.getElem?_eq_getElem hj]; exact List.mem_map_of_mem (List.mem_filter.2 ⟨Array.mem_toList_iff.2 he, hbd⟩))
      rw [h0] at this
      simp at this
    · simp only [Classical.not_forall] at hall
      obtain ⟨i, hi, hl⟩ := hall
      have hij := hb j hj i hi
      refine ih i (by omega) (by omega) ?_ h0
      have hlt : i < listed.size := by omega
      simp [Array.getD, hlt] at hl ⊢
      exact hl
/-- the first m listed, no other one -/
def upTo (m n : Nat) : Array Bool := (List.replicate m true ++ List.replicate (n - m) false).toArray
theorem upTo_of {listed : Array Bool} {m n : Nat} (hs : listed.size = n) (hm : m ≤ n) (h1 : ∀ i, i < m → listed.getD i false = true) (h2 : ∀ i, m ≤ i → i < n → listed.getD i true = false) : listed = upTo m n := by
  refine Array.ext (by simp [upTo, hs]; omega) fun i hi hi' => ?_
  by_cases c : i < m
  · have := h1 i c
    simp [Array.getD, hi] at this
    rw [this]
    simp [upTo, c]
  · have := h2 i (by omega) (by omega)
    simp [Array.getD, hi] at this
    rw [this]
    simp [upTo, List.getElem_append, c]
theorem count_set {listed : Array Bool} {i fuel : Nat} (hi : i < listed.size) (hf : listed.getD i true = false) (hc : listed.toList.count false = fuel + 1) : (listed.setIfInBounds i true).toList.count false = fuel := by
  have hv : listed[i] = false := by simpa [Array.getD, hi] using hf
  rw [Array.toList_setIfInBounds, List.count_set (by simpa using hi)]
  simp [hv, hc]
/-- the last ones are mute: what is asked at the end is asked here -/
theorem mute_end {m : Nat} {Qz : Act → Prop} (hmu : ∀ i, m ≤ i → i < ops'.size → ∃ o, ops'[i]? = some o ∧ o.guard = none ∧ o.dst = none) : ∀ (fuel : Nat) (listed : Array Bool) (a : Act), (∀ i, i < m → listed.getD i false = true) → wpAnyQ P md ops' C Qz fuel listed a → Qz a
  | 0, _, _, _, h => h.2
  | fuel + 1, listed, a, hl, h => by
    cases hr : Region.ready md ops' listed with
    | nil => exact h.1 hr
    | cons i r =>
      have hi : i ∈ Region.ready md ops' listed := by rw [hr]; exact List.mem_cons_self
      have hq := h.2 i hi
      obtain ⟨hf, o, ho, _⟩ := mem_ready.1 hi
      have hsz : i < ops'.size := (Array.getElem?_eq_some_iff.1 ho).1
      have him : m ≤ i := by
        rcases Nat.lt_or_ge i m with c | c
        · have := hl i c
          rcases Nat.lt_or_ge i listed.size with d | d
          · simp [Array.getD, d] at this hf; rw [this] at hf; cases hf
          · simp [Array.getD, Nat.not_lt.2 d] at this
        · exact c
      obtain ⟨o', ho', g, d⟩ := hmu i him hsz
      unfold qOp at hq
      rw [ho'] at hq
      simp only [Region.wanted, g, if_true] at hq
      obtain ⟨v, _, hn⟩ := hq
      rw [d] at hn
      refine mute_end hmu fuel (listed.setIfInBounds i true) a (fun j hj => ?_) hn
      rw [getD_set_other false (by omega)]
      exact hl j hj
theorem any_of_tail {m k : Nat} {Q : Exit → Act → World → Prop} (hT : tailB md ops m k = true) (hm : m < ops.size) (hs' : ops'.size = ops.size) (hsame : ∀ i, i < m → ops'[i]? = ops[i]?)
    (hmu : ∀ i, m ≤ i → i < ops'.size → ∃ o, ops'[i]? = some o ∧ o.guard = none ∧ o.dst = none) (hrd : ∀ listed, Region.ready md ops' listed = Region.ready md ops listed) (hg : ∀ (i : Nat) (o : Oper), ops[i]? = some o → o.guard = none) :
    ∀ (fuel : Nat) (listed : Array Bool) (a : Act) (w : World), C w → listed.size = ops.size → closedB md ops listed = true → (∀ i, m ≤ i → i < ops.size → listed.getD i true = false) → listed.toList.count false = fuel →
      wpAnyQ P md ops' C (fun a' => ∀ w', C w' → wpAny P md ops Q (ops.size - m) (upTo m ops.size) a' w') fuel listed a → wpAny P md ops Q fuel listed a w := by
  simp only [tailB, Bool.and_eq_true, List.all_eq_true, List.mem_range, Bool.or_eq_true, decide_eq_true_eq, List.contains_iff_mem] at hT
  obtain ⟨hT1, hT2, hT3⟩ := hT
  intro fuel
  induction fuel with
  | zero =>
    intro listed a w hC hs hc hz hn h
    exfalso
    have h1 := hz m (Nat.le_refl _) hm
    have hlt : m < listed.size := by omega
    have h2 : listed[m] = false := by simpa [Array.getD, hlt] using h1
    exact (List.count_eq_zero.1 hn) (h2 ▸ (by simp))
  | succ fuel ih =>
    intro listed a w hC hs hc hz hn h
    by_cases hall : ∀ i, i < m → listed.getD i false = true
    · have he := upTo_of hs (Nat.le_of_lt hm) hall hz
      have hf : fuel + 1 = ops.size - m := by
        rw [← hn, he, upTo]
        simp [List.count_replicate]
      have hq := mute_end hmu (fuel + 1) listed a hall h
      rw [he, hf]
      exact hq w hC
    · simp only [Classical.not_forall] at hall
      obtain ⟨j, hj, hl⟩ := hall
      have hlj : listed.getD j true = false := by
        have hlt : j < listed.size := by omega
        simp [Array.getD, hlt] at hl ⊢
        exact hl
      refine ⟨fun h0 => absurd h0 (ready_some hs hT3 j j (Nat.le_refl _) (by omega) hlj), fun i hi => ?_⟩
      have him : i < m := by
        rcases Nat.lt_or_ge i m with c | c
        · exact c
        · exfalso
          obtain ⟨hfi, o, ho, _⟩ := mem_ready.1 hi
          have hsz : i < ops.size := (Array.getElem?_eq_some_iff.1 ho).1
          rcases Nat.lt_or_ge m i with d | d
          · rcases hT2 i hsz with e | e
            · omega
            · have := clos_listed hc k _ (ready_afters hi) m e
              have h1 := hz m (Nat.le_refl _) hm
              have hlt : m < listed.size := by omega
              simp [Array.getD, hlt] at this h1
              rw [h1] at this
              cases this
          · obtain rfl : i = m := by omega
            exact hl (clos_listed hc k _ (ready_afters hi) j (hT1 j hj))
      have hfi : listed.getD i true = false := (mem_ready.1 hi).1
      have hq := h.2 i (by rw [hrd]; exact hi)
      have hq2 : qOp P ops C i (wpAnyQ P md ops' C (fun a' => ∀ w', C w' → wpAny P md ops Q (ops.size - m) (upTo m ops.size) a' w') fuel (listed.setIfInBounds i true)) a := by
        unfold qOp at hq ⊢
        rw [hsame i him] at hq
        cases ho : ops[i]? with
        | none => rw [ho] at hq; exact hq
        | some o =>
          rw [ho] at hq
          simp only [Region.wanted, hg i o ho, if_true] at hq ⊢
          exact hq
      refine wpOp_of_qOp hC (fun a' w' hC' hK => ih _ _ _ hC' (by rw [Array.size_setIfInBounds]; exact hs) (closed_set hc hi) (fun p hp hp2 => ?_) (count_set (by omega) hfi hn) hK) hq2
      rw [getD_set_other true (by omega)]
      exact hz p hp hp2
end
/-- all from m on, put to rest -/
def muted (m : Nat) (l : List Oper) : List Oper := l.take m ++ (l.drop m).map mute
theorem wpQuiet_muted {P : Program} {ops : Array Oper} {C : World → Prop} {Q : Act → Prop} : ∀ (l : List Oper) (a : Act), l.all (fun o => o.guard.isNone) = true → Q a → wpQuiet P ops C Q (l.map mute) a
  | [], _, _, h => h
  | o :: l, a, hg, h => by
    rw [List.all_cons, Bool.and_eq_true] at hg
    have h0 : o.guard = none := by simpa using hg.1
    rw [List.map_cons]
    unfold wpQuiet
    rw [if_pos (by simp [Region.wanted, mute, h0])]
    refine ⟨undef, fun w _ => ?_, wpQuiet_muted l a hg.2 h⟩
    unfold Oper.quietAt
    simp [mute, execOp, Act.eval, Oper.quietUpon]
theorem wpQuiet_append {P : Program} {ops : Array Oper} {C : World → Prop} {Q : Act → Prop} (l2 : List Oper) : ∀ (l1 : List Oper) (a : Act), wpQuiet P ops C (wpQuiet P ops C Q l2) l1 a → wpQuiet P ops C Q (l1 ++ l2) a
  | [], _, h => h
  | o :: l1, a, h => by
    rw [List.cons_append]
    unfold wpQuiet at h ⊢
    split
    · rename_i hw
      rw [if_pos hw] at h
      exact Oper.quiet_mono (fun a' => wpQuiet_append l2 l1 a') h
    · rename_i hw
      rw [if_neg hw] at h
      exact wpQuiet_append l2 l1 _ h
theorem wpQuiet_mono {P : Program} {ops : Array Oper} {C : World → Prop} {Q Q' : Act → Prop} (hq : ∀ a, Q a → Q' a) : ∀ (l : List Oper) (a : Act), wpQuiet P ops C Q l a → wpQuiet P ops C Q' l a
  | [], a, h => hq a h
  | o :: l, a, h => by
    unfold wpQuiet at h ⊢
    split
    · rename_i hw
      rw [if_pos hw] at h
      exact Oper.quiet_mono (fun a' => wpQuiet_mono hq l a') h
    · rename_i hw
      rw [if_neg hw] at h
      exact wpQuiet_mono hq l _ h
theorem wp_region_tail {P : Program} {id : Nat} {Q : Exit → Act → World → Prop} {a : Act} {w : World} {l : List Oper} {C : World → Prop} (m k : Nat) (hm : P.follows .mixedOrders = true) (hml : m < l.length)
    (hB : Region.lexB .any (muted m l).toArray = true) (hT : tailB .any l.toArray m k = true) (hg : l.all (fun o => o.guard.isNone) = true) (h0 : closedB .any l.toArray (Array.replicate l.length false) = true) (hw : C w.drew)
    (h : wpQuiet P (muted m l).toArray C (fun a' => ∀ w', C w' → wpAny P .any l.toArray Q (l.length - m) (upTo m l.length) a' w') (l.take m) a) :
    (Code.region id l.toArray true).wp P Q a w := by
  have h := wpQuiet_append ((l.drop m).map mute) _ _ (wpQuiet_mono (Q' := wpQuiet P (muted m l).toArray C (fun a' => ∀ w', C w' → wpAny P .any l.toArray Q (l.length - m) (upTo m l.length) a' w') ((l.drop m).map mute)) (fun a' ha => wpQuiet_muted (l.drop m) a' (List.all_eq_true.2 fun o ho => List.all_eq_true.1 hg o (List.mem_of_mem_drop ho)) ha) _ _ h)
  have hgs : ∀ (i : Nat) (o : Oper), l.toArray[i]? = some o → o.guard = none := fun i o ho => by
    have := List.all_eq_true.1 hg o (List.mem_of_getElem? (by simpa using ho))
    simpa using this
  have hlen : (muted m l).length = l.length := by simp [muted]; omega
  have hget : ∀ j, (muted m l)[j]? = if j < m then l[j]? else (l[j]?).map mute := fun j => by
    unfold muted
    by_cases c : j < m
    · rw [List.getElem?_append_left (by simp; omega), if_pos c, List.getElem?_take, if_pos c]
    · rw [List.getElem?_append_right (by simp; omega), if_neg c, List.getElem?_map, List.getElem?_drop]
      congr 2
      simp
      omega
  have hrd : ∀ listed, Region.ready .any (muted m l).toArray listed = Region.ready .any l.toArray listed := fun listed => by
    unfold Region.ready
    simp only [List.size_toArray, hlen]
    congr 1
    funext j
    simp only [List.getElem?_toArray, hget]
    by_cases c : j < m
    · rw [if_pos c]
    · rw [if_neg c]
      cases l[j]? <;> simp [mute]
  simp only [Region.lexB, Bool.and_eq_true] at hB
  refine wp_region_any hm ?_
  refine any_of_tail (m := m) (k := k) (C := C) (ops' := (muted m l).toArray) hT (by simpa using hml) (by simp [hlen]) (fun i hi => by simp only [List.getElem?_toArray, hget]; rw [if_pos hi]) (fun i hi hi2 => ?_) hrd hgs _ _ _ _ hw (by simp) (by simpa using h0) (fun i _ hi => ?_) (by simp) ?_
  · have hl : i < l.length := by simpa [hlen] using hi2
    refine ⟨mute l[i], ?_, ?_, rfl⟩
    · simp only [List.getElem?_toArray, hget]
      rw [if_neg (by omega), List.getElem?_eq_getElem hl]
      rfl
    · exact hgs i l[i] (by simp [hl])
  · have hl : i < l.length := by simpa using hi
    simp [Array.getD, hl]
  · have := wpAnyQ_lex (P := P) (C := C) (md := .any) hB.1 (muted m l) 0 (Array.replicate (muted m l).toArray.size false) a (by simp) (by simpa using hB.2) h
    simpa [hlen] using this
end Go.Proofs.YtimdioacmojkeaaGreatDoor

namespace Go.Proofs.YtimdioacmojkeaaGreatDoor
open Go.RowKit

/-- which operations ahead of operation k it looks at -/
def deps (ops : Array Oper) (k : Nat) : List Nat :=
  match ops[k]? with
  | none => []
  | some o => (List.range k).filter fun j => match (ops[j]?).bind (·.dst) with | some d => (o.looksAt ops).contains d | none => false
abbrev Law := Value → World → Prop
def upd (env : Nat → Law) (k : Nat) (V : Law) : Nat → Law := fun j => if j = k then V else env j
/-- one operation: what it leaves is as V says, the world has grown -/
def StepR (P : Program) (G : World → World → Prop) (V : Law) (ops : Array Oper) (o : Oper) (a : Act) (w : World) : Prop :=
  if Region.wanted o (yielded ops a.tmps) then ∀ K : Act → World → Prop, (∀ u w', V u w' → G w w' → K (a.put o.dst u) w') → o.wp P a w K (fun _ _ _ => False) else V undef w
/-- the walk in the order of the text -/
def walkR (P : Program) (G : World → World → Prop) (W0 : World) (ops : Array Oper) (End : (Nat → Law) → ((Nat → Value) → Act) → Prop) : List Oper → Nat → (Nat → Law) → ((Nat → Value) → Act) → Prop
  | [], _, env, A => End env A
  | o :: l, k, env, A =>
    (∃ c, (∀ v w, G W0 w → (∀ j, (deps ops k).contains j = true → env j (v j) w) → StepR P G (fun u _ => u = c) ops o (A v) w) ∧ walkR P G W0 ops End l (k + 1) (upd env k fun u _ => u = c) (fun v => (A v).put o.dst c)) ∨
    (∃ V : Law, (∀ u w w', V u w → G w w' → V u w') ∧ (∀ v w, G W0 w → (∀ j, (deps ops k).contains j = true → env j (v j) w) → StepR P G V ops o (A v) w) ∧ walkR P G W0 ops End l (k + 1) (upd env k V) (fun v => (A v).put o.dst (v k)))
/-- the operations that came up, laid over a0 in the order of the text -/
def lay (ops : Array Oper) (a0 : Act) (v : Nat → Value) (f : Nat → Bool) : Nat → Act
  | 0 => a0
  | k + 1 => if f k then (lay ops a0 v f k).put ((ops[k]?).bind (·.dst)) (v k) else lay ops a0 v f k
/-- no slot is written twice; what an operation looks at is there ahead of it, or comes behind it -/
def relB (md : Region.Mode) (ops : Array Oper) (m : Nat) : Bool :=
  ((List.range m).all fun i => (List.range m).all fun j => decide (i = j) || (match (ops[i]?).bind (·.dst) with | some d => decide ((ops[j]?).bind (·.dst) ≠ some d) | none => true)) &&
  ((List.range m).all fun i => match ops[i]? with
    | none => true
    | some o => (List.range m).all fun j => match (ops[j]?).bind (·.dst) with
      | none => true
      | some d => !(o.looksAt ops).contains d || decide (i = j) || (decide (j < i) && (afters md ops i).contains j) || (decide (i < j) && (afters md ops j).contains i)) &&
  (List.range ops.size).all (fun j => (afters md ops j).all fun i => decide (i < j))
section
variable {P : Program} {md : Region.Mode} {ops : Array Oper} {G : World → World → Prop} {W0 : World} {End : (Nat → Law) → ((Nat → Value) → Act) → Prop}
theorem walkR_spec : ∀ (l : List Oper) (k : Nat) (env : Nat → Law) (A : (Nat → Value) → Act), (∀ j, j < l.length → l[j]? = ops[k + j]?) → walkR P G W0 ops End l k env A →
    ∃ (V : Nat → Law) (x : Nat → (Nat → Value) → Value) (B : Nat → (Nat → Value) → Act), (∀ j, j < k → V j = env j) ∧ (∀ j, k ≤ j → j < k + l.length → ∀ u w w', V j u w → G w w' → V j u w') ∧ B k = A ∧
      (∀ i o, k ≤ i → i < k + l.length → ops[i]? = some o → (∀ v, B (i + 1) v = (B i v).put o.dst (x i v)) ∧ (∀ v w, V i (v i) w → x i v = v i) ∧
        (∀ v w, G W0 w → (∀ j, (deps ops i).contains j = true → V j (v j) w) → StepR P G (V i) ops o (B i v) w)) ∧ End V (B (k + l.length))
  | [], k, env, A, _, h => ⟨env, fun _ _ => undef, fun _ => A, fun _ _ => rfl, fun j h1 h2 => by simp at h2; omega, rfl, fun i o h1 h2 => by simp at h2; omega, h⟩
  | o :: l, k, env, A, hl, h => by
    have h0 : ops[k]? = some o := by simpa using (hl 0 (by simp)).symm
    have hl' : ∀ j, j < l.length → l[j]? = ops[k + 1 + j]? := fun j hj => by
      have := hl (j + 1) (by simpa using hj)
      rw [show k + 1 + j = k + (j + 1) from by omega, ← this]
      rfl
    have hdep : ∀ i j, (deps ops i).contains j = true → j < i := fun i j hj => by
      unfold deps at hj
      cases ho : ops[i]? with
      | none => rw [ho] at hj; simp at hj
      | some o' =>
        rw [ho] at hj
        have := List.mem_filter.1 (List.contains_iff_mem.1 hj)
        exact List.mem_range.1 this.1
    have go : ∀ (U : Law) (y : (Nat → Value) → Value), (∀ u w w', U u w → G w w' → U u w') → (∀ v w, U (v k) w → y v = v k) →
        (∀ v w, G W0 w → (∀ j, (deps ops k).contains j = true → env j (v j) w) → StepR P G U ops o (A v) w) → walkR P G W0 ops End l (k + 1) (upd env k U) (fun v => (A v).put o.dst (y v)) →
        ∃ (V : Nat → Law) (x : Nat → (Nat → Value) → Value) (B : Nat → (Nat → Value) → Act), (∀ j, j < k → V j = env j) ∧ (∀ j, k ≤ j → j < k + (o :: l).length → ∀ u w w', V j u w → G w w' → V j u w') ∧ B k = A ∧
          (∀ i o, k ≤ i → i < k + (o :: l).length → ops[i]? = some o → (∀ v, B (i + 1) v = (B i v).put o.dst (x i v)) ∧ (∀ v w, V i (v i) w → x i v = v i) ∧
            (∀ v w, G W0 w → (∀ j, (deps ops i).contains j = true → V j (v j) w) → StepR P G (V i) ops o (B i v) w)) ∧ End V (B (k + (o :: l).length)) := by
      intro U y hU hy hstep hw
      obtain ⟨V, x, B, h1, h2, h3, h4, h5⟩ := walkR_spec l (k + 1) _ _ hl' hw
      have hVk : V k = U := by rw [h1 k (by omega)]; simp [upd]
      have hVj : ∀ j, j < k → V j = env j := fun j hj => by rw [h1 j (by omega)]; simp [upd, show j ≠ k from by omega]
      refine ⟨V, fun i => if i = k then y else x i, fun i => if i = k then A else B i, hVj, fun j a b => ?_, by simp, fun i o' a b ho' => ?_, ?_⟩
      · by_cases e : j = k
        · subst e; rw [hVk]; exact hU
        · exact h2 j (by omega) (by rw [List.length_cons] at b; omega)
      · by_cases e : i = k
        · subst e
          obtain rfl : o = o' := by rw [h0] at ho'; exact Option.some.inj ho'
          refine ⟨fun v => ?_, fun v w hv => ?_, fun v w hw' hd => ?_⟩
          · dsimp only
            rw [if_neg (by omega), if_pos rfl, if_pos rfl, h3]
          · dsimp only
            rw [hVk] at hv; rw [if_pos rfl]; exact hy v w hv
          · dsimp only
            rw [hVk, if_pos rfl]
            refine hstep v w hw' fun j hj => ?_
            have := hd j hj
            rwa [hVj j (hdep i j hj)] at this
        · obtain ⟨q1, q2, q3⟩ := h4 i o' (by omega) (by rw [List.length_cons] at b; omega) ho'
          refine ⟨fun v => ?_, fun v w hv => ?_, fun v w hw' hd => ?_⟩
          · dsimp only
            rw [if_neg (by omega), if_neg e, if_neg e]; exact q1 v
          · dsimp only
            rw [if_neg e]; exact q2 v w hv
          · dsimp only
            rw [if_neg e]; exact q3 v w hw' hd
      · dsimp only
        rw [if_neg (by rw [List.length_cons]; omega), List.length_cons, show k + (l.length + 1) = k + 1 + l.length from by omega]
        exact h5
    rcases h with ⟨c, hs, hw⟩ | ⟨U, hU, hs, hw⟩
    · exact go (fun u _ => u = c) (fun _ => c) (fun _ _ _ e _ => e) (fun _ _ e => e.symm) hs hw
    · exact go U (fun v => v k) hU (fun _ _ _ => rfl) hs hw
theorem put_size (a : Act) (d : Option Tmp) (u : Value) : (a.put d u).tmps.size = a.tmps.size := by cases d <;> simp [Act.put]
theorem lay_size (a0 : Act) (v : Nat → Value) (f : Nat → Bool) : ∀ k, (lay ops a0 v f k).tmps.size = a0.tmps.size
  | 0 => rfl
  | k + 1 => by
    rw [lay]
    split
    · rw [put_size, lay_size a0 v f k]
    · exact lay_size a0 v f k
theorem lay_agree (a0 : Act) {v y : Nat → Value} {f g : Nat → Bool} (t : Nat) : ∀ k, (∀ j, j < k → (ops[j]?).bind (·.dst) = some t → f j = g j ∧ (f j = true → v j = y j)) →
    (lay ops a0 v f k).tmps[t]? = (lay ops a0 y g k).tmps[t]?
  | 0, _ => rfl
  | k + 1, h => by
    have ih := lay_agree a0 t k fun j hj => h j (by omega)
    by_cases e : (ops[k]?).bind (·.dst) = some t
    · obtain ⟨h1, h2⟩ := h k (by omega) e
      rw [lay, lay, ← h1, e]
      cases hf : f k with
      | false => simpa using ih
      | true =>
        have sz : (lay ops a0 v f k).tmps.size = (lay ops a0 y g k).tmps.size := by rw [lay_size, lay_size]
        rw [h2 hf]
        simp only [if_true, Act.put, Array.getElem?_setIfInBounds, sz]
    · have skip : ∀ (b : Act) (u : Value), (b.put ((ops[k]?).bind (·.dst)) u).tmps[t]? = b.tmps[t]? := fun b u => by
        cases hd : (ops[k]?).bind (·.dst) with
        | none => rfl
        | some d =>
          have : d ≠ t := fun q => e (by rw [hd, q])
          simp [Act.put, Array.getElem?_setIfInBounds_ne this]
      rw [lay, lay]
      split <;> split <;> (try rw [skip]) <;> (try rw [skip]) <;> exact ih
theorem lay_same (a0 : Act) {v y : Nat → Value} {f g : Nat → Bool} : ∀ k, (∀ j, j < k → f j = g j ∧ (f j = true → v j = y j)) → lay ops a0 v f k = lay ops a0 y g k
  | 0, _ => rfl
  | k + 1, h => by
    obtain ⟨h1, h2⟩ := h k (by omega)
    rw [lay, lay, lay_same a0 k fun j hj => h j (by omega), ← h1]
    cases hf : f k with
    | false => rfl
    | true => rw [h2 hf]
theorem lay_set (a0 : Act) {v : Nat → Value} {f : Nat → Bool} {i : Nat} {u : Value} (hf : f i = false) {m : Nat} (hd : ∀ j, j < m → j ≠ i → ∀ d, (ops[i]?).bind (·.dst) = some d → (ops[j]?).bind (·.dst) ≠ some d) : ∀ k, k ≤ m → i < k →
    lay ops a0 (fun j => if j = i then u else v j) (fun j => if j = i then true else f j) k = (lay ops a0 v f k).put ((ops[i]?).bind (·.dst)) u
  | 0, _, h => by omega
  | k + 1, hk, h => by
    by_cases e : k = i
    · subst e
      rw [lay, lay, if_pos (by simp), if_pos rfl, hf, if_neg (by simp)]
      congr 1
      exact lay_same a0 _ fun j hj => by
        have : j ≠ k := by omega
        simp [this]
    · have ih := lay_set a0 (v := v) (u := u) hf hd k (by omega) (by omega)
      rw [lay, lay, ih]
      simp only [if_neg e]
      cases hfk : f k with
      | false => simp
      | true =>
        simp only [if_true]
        exact Act.put_comm _ u (v k) fun d hd' => hd k (by omega) e d hd'
theorem execOp_agree {o : Oper} (hs : ∀ cs b, o.op ≠ .select cs b) {a b : Act} (h : ∀ t, t ∈ o.looksAt ops → a.tmps[t]? = b.tmps[t]?) : execOp a.eval o = execOp b.eval o :=
  execOp_congr o hs fun x hx => by
    cases x with
    | tmp t =>
      have := h t (List.mem_append_left _ (List.mem_filterMap.2 ⟨.tmp t, by simpa using hx, rfl⟩))
      simp [Act.eval, this]
    | _ => rfl
theorem wanted_agree {o : Oper} {a b : Act} (h : ∀ t, t ∈ o.looksAt ops → a.tmps[t]? = b.tmps[t]?) : Region.wanted o (yielded ops a.tmps) = Region.wanted o (yielded ops b.tmps) := by
  unfold Region.wanted
  cases hg : o.guard with
  | none => rfl
  | some gw =>
    obtain ⟨g, want⟩ := gw
    have hy : yielded ops a.tmps g = yielded ops b.tmps g := by
      unfold yielded
      cases ht : (ops[g]?).bind (·.dst) with
      | none => rfl
      | some t =>
        have := h t (by simp [Oper.looksAt, hg, ht])
        simp [this]
    simp only [hy]
theorem put_same {a b : Act} (hs : a.tmps.size = b.tmps.size) {d : Option Tmp} {u u' : Value} (h : b.put d u = b.put d u') : a.put d u = a.put d u' := by
  cases d with
  | none => rfl
  | some d =>
    simp only [Act.put, Act.mk.injEq, and_true] at h ⊢
    by_cases hd : d < b.tmps.size
    · have := congrArg (·[d]?) h
      simp [hd] at this
      rw [this]
    · have h1 : a.tmps.size ≤ d := by rw [hs]; exact Nat.le_of_not_lt hd
      rw [Array.setIfInBounds_eq_of_size_le h1, Array.setIfInBounds_eq_of_size_le h1]
theorem step_at {o : Oper} (hs : ∀ cs b, o.op ≠ .select cs b) {a b : Act} {w : World} {V : Law} (hsz : a.tmps.size = b.tmps.size) (h : ∀ t, t ∈ o.looksAt ops → a.tmps[t]? = b.tmps[t]?) (hb : StepR P G V ops o b w) : StepR P G V ops o a w := by
  unfold StepR at *
  rw [wanted_agree h]
  split
  · rename_i hw
    rw [if_pos hw] at hb
    intro K hK
    have h1 := hb (fun a' w' => ∃ u, a' = b.put o.dst u ∧ V u w' ∧ G w w') fun u w' hv hg => ⟨u, rfl, hv, hg⟩
    unfold Oper.wp at *
    rw [execOp_agree hs h]
    have fin : ∀ u w', (∃ u', b.put o.dst u = b.put o.dst u' ∧ V u' w' ∧ G w w') → K (a.put o.dst u) w' := fun u w' ⟨u', e, hv, hg⟩ => by
      rw [put_same hsz e]; exact hK u' w' hv hg
    generalize (execOp b.eval o).run P w = r at *
    cases r with
    | ok n w' =>
      cases n <;> simp only [Oper.upon] at h1 ⊢
      case value u => exact fin u w' h1
      case skip => exact fin undef w' h1
      case defer d =>
        obtain ⟨u', e, _⟩ := h1
        exfalso
        have e2 := congrArg (fun (q : Act) => q.defers.length) e
        cases hd : o.dst <;> simp [hd, Act.put] at e2
      case enter f args =>
        refine Calls.mono h1 fun e w'' he => ?_
        cases e with
        | returned u => exact fin u w'' he
        | panicked c => exact he.elim
        | outgrown => exact absurd he (by simp [LetsOut])
      case row row args => exact Rows.mono h1 fun u w'' he => fin u w'' he
    | halt x w' => cases x <;> simp only [Oper.upon] at h1
  · rename_i hw
    rwa [if_neg hw] at hb
/-- what the Bool says -/
theorem relB_spec {m : Nat} (h : relB md ops m = true) :
    (∀ i, i < m → ∀ j, j < m → i ≠ j → ∀ d, (ops[i]?).bind (·.dst) = some d → (ops[j]?).bind (·.dst) ≠ some d) ∧
    (∀ i, i < m → ∀ o, ops[i]? = some o → ∀ j, j < m → ∀ d, (ops[j]?).bind (·.dst) = some d → d ∈ o.looksAt ops → i = j ∨ (j < i ∧ j ∈ afters md ops i) ∨ (i < j ∧ i ∈ afters md ops j)) ∧
    (∀ j, j < ops.size → ∀ i ∈ afters md ops j, i < j) := by
  simp only [relB, Bool.and_eq_true, List.all_eq_true, List.mem_range, Bool.or_eq_true, decide_eq_true_eq] at h
  obtain ⟨⟨h1, h2⟩, h3⟩ := h
  refine ⟨fun i hi j hj hne d hd => ?_, fun i hi o ho j hj d hd hl => ?_, h3⟩
  · have := h1 i hi j hj
    rw [hd] at this
    rcases this with e | e
    · exact absurd e hne
    · simpa using e
  · have := h2 i hi
    rw [ho] at this
    simp only [List.all_eq_true, List.mem_range] at this
    have := this j hj
    rw [hd] at this
    simp only [Bool.or_eq_true, Bool.and_eq_true, decide_eq_true_eq, Bool.not_eq_true', List.contains_iff_mem] at this
    rcases this with ((e | e) | e) | e
    · rw [List.contains_iff_mem.2 hl] at e; cases e
    · exact .inl e
    · exact .inr (.inl e)
    · exact .inr (.inr e)
theorem any_of_rel {m : Nat} {a0 : Act} {Q : Exit → Act → World → Prop} {V : Nat → Law} {x : Nat → (Nat → Value) → Value} {B : Nat → (Nat → Value) → Act} (hGr : ∀ w, G w w) (hG : ∀ w w' w'', G w w' → G w' w'' → G w w'')
    (hR : relB md ops m = true) (hm : m ≤ ops.size) (hsel : Region.noSelect ops = true)
    (hT : ∀ listed : Array Bool, listed.size = ops.size → closedB md ops listed = true → (∃ j, j < m ∧ listed.getD j false = false) → ∀ i ∈ Region.ready md ops listed, i < m)
    (hmono : ∀ j, j < m → ∀ u w w', V j u w → G w w' → V j u w') (hB0 : ∀ v, B 0 v = a0)
    (hB : ∀ i o, i < m → ops[i]? = some o → (∀ v, B (i + 1) v = (B i v).put o.dst (x i v)) ∧ (∀ v w, V i (v i) w → x i v = v i) ∧ (∀ v w, G W0 w → (∀ j, (deps ops i).contains j = true → V j (v j) w) → StepR P G (V i) ops o (B i v) w))
    (hE : ∀ v w, G W0 w → (∀ j, j < m → V j (v j) w) → wpAny P md ops Q (ops.size - m) (upTo m ops.size) (B m v) w) :
    ∀ (fuel : Nat) (listed : Array Bool) (v : Nat → Value) (w : World), G W0 w → listed.size = ops.size → closedB md ops listed = true → (∀ i, m ≤ i → i < ops.size → listed.getD i true = false) → listed.toList.count false = fuel →
      (∀ j, j < m → listed.getD j false = true → V j (v j) w) → wpAny P md ops Q fuel listed (lay ops a0 v (fun j => listed.getD j false) m) w := by
  obtain ⟨hR1, hR2, hR3⟩ := relB_spec hR
  have hget : ∀ i, i < m → ∃ o, ops[i]? = some o := fun i hi => ⟨_, Array.getElem?_eq_getElem (by omega)⟩
  have hBlay : ∀ v i, i ≤ m → B i v = lay ops a0 (fun j => x j v) (fun j => decide (j < i)) m := fun v i hi => by
    have h1 : ∀ k, k ≤ i → B k v = lay ops a0 (fun j => x j v) (fun j => decide (j < i)) k := fun k => by
      induction k with
      | zero => intro _; exact hB0 v
      | succ k ih =>
        intro hk
        obtain ⟨o, ho⟩ := hget k (by omega)
        rw [(hB k o (by omega) ho).1 v, ih (by omega), lay, if_pos (by simp; omega), ho]
        rfl
    have h2 : ∀ k, lay ops a0 (fun j => x j v) (fun j => decide (j < i)) (i + k) = lay ops a0 (fun j => x j v) (fun j => decide (j < i)) i := fun k => by
      induction k with
      | zero => rfl
      | succ k ih => rw [← Nat.add_assoc, lay, if_neg (by simp), ih]
    rw [h1 i (Nat.le_refl _), ← h2 (m - i), show i + (m - i) = m from by omega]
  intro fuel
  induction fuel with
  | zero =>
    intro listed v w hw hs hc hz hn hV
    have hall : ∀ i, i < ops.size → listed.getD i false = true := fun i hi => by
      have hlt : i < listed.size := by omega
      have : listed[i] ≠ false := fun e => (List.count_eq_zero.1 hn) (e ▸ (by simp))
      simpa [Array.getD, hlt] using this
    have hmn : m = ops.size := by
      rcases Nat.lt_or_ge m ops.size with c | c
      · have h1 := hz m (Nat.le_refl _) c
        have h2 := hall m c
        have hlt : m < listed.size := by omega
        simp [Array.getD, hlt] at h1 h2
        rw [h1] at h2; cases h2
      · omega
    have he : listed = upTo m ops.size := upTo_of hs hm (fun i hi => hall i (by omega)) hz
    have ha : lay ops a0 v (fun j => listed.getD j false) m = B m v := by
      rw [hBlay v m (Nat.le_refl _)]
      refine lay_same a0 m fun j hj => ⟨by rw [hall j (by omega)]; simp [hj], fun _ => ?_⟩
      obtain ⟨o, ho⟩ := hget j hj
      exact ((hB j o hj ho).2.1 v w (hV j hj (hall j (by omega)))).symm
    have := hE v w hw fun j hj => hV j hj (hall j (by omega))
    rw [show ops.size - m = 0 from by omega, ← he, ← ha] at this
    exact this
  | succ fuel ih =>
    intro listed v w hw hs hc hz hn hV
    by_cases hall : ∀ i, i < m → listed.getD i false = true
    · have he := upTo_of hs hm hall hz
      have hf : fuel + 1 = ops.size - m := by
        rw [← hn, he, upTo]
        simp [List.count_replicate]
      have ha : lay ops a0 v (fun j => listed.getD j false) m = B m v := by
        rw [hBlay v m (Nat.le_refl _)]
        refine lay_same a0 m fun j hj => ⟨by rw [hall j hj]; simp [hj], fun _ => ?_⟩
        obtain ⟨o, ho⟩ := hget j hj
        exact ((hB j o hj ho).2.1 v w (hV j hj (hall j hj))).symm
      have := hE v w hw fun j hj => hV j hj (hall j hj)
      rw [ha, he, hf]
      exact this
    · simp only [Classical.not_forall] at hall
      obtain ⟨j0, hj0, hl0⟩ := hall
      have hl0' : listed.getD j0 false = false := by simpa using hl0
      have hlj : listed.getD j0 true = false := by
        have hlt : j0 < listed.size := by omega
        simp [Array.getD, hlt] at hl0' ⊢
        exact hl0'
      refine ⟨fun h0 => absurd h0 (ready_some hs hR3 j0 j0 (Nat.le_refl _) (by omega) hlj), fun i hi => ?_⟩
      have him : i < m := hT listed hs hc ⟨j0, hj0, hl0'⟩ i hi
      obtain ⟨hfi, o, ho, _⟩ := mem_ready.1 hi
      obtain ⟨_, _, hst⟩ := hB i o him ho
      have hfi' : listed.getD i false = false := by
        have hlt : i < listed.size := by omega
        simp [Array.getD, hlt] at hfi ⊢
        exact hfi
      have haft := ready_afters hi
      -- what it looks at
      have hdeps : ∀ j, (deps ops i).contains j = true → j < m ∧ listed.getD j false = true := fun j hj => by
        unfold deps at hj
        rw [ho] at hj
        have := List.mem_filter.1 (List.contains_iff_mem.1 hj)
        have hji := List.mem_range.1 this.1
        have h2 := this.2
        cases hd : (ops[j]?).bind (·.dst) with
        | none => rw [hd] at h2; simp at h2
        | some d =>
          rw [hd] at h2
          simp only [List.contains_iff_mem] at h2
          rcases hR2 i him o ho j (by omega) d hd h2 with e | e | e
          · omega
          · exact ⟨by omega, haft j e.2⟩
          · omega
      have hagree : ∀ t, t ∈ o.looksAt ops → (lay ops a0 v (fun j => listed.getD j false) m).tmps[t]? = (B i v).tmps[t]? := fun t ht => by
        rw [hBlay v i (by omega)]
        refine lay_agree a0 t m fun j hj hd => ?_
        rcases hR2 i him o ho j hj t hd ht with e | e | e
        · subst e
          exact ⟨by rw [hfi']; simp, fun q => by rw [hfi'] at q; cases q⟩
        · have hq := haft j e.2
          refine ⟨by rw [hq]; simp [e.1], fun _ => ?_⟩
          obtain ⟨oj, hoj⟩ := hget j hj
          exact ((hB j oj hj hoj).2.1 v w (hV j hj hq)).symm
        · have hnj : listed.getD j false = false := by
            cases hq : listed.getD j false with
            | false => rfl
            | true =>
              have := afters_listed hc hq i e.2
              rw [hfi'] at this; cases this
          exact ⟨by rw [hnj]; simp; omega, fun q => by rw [hnj] at q; cases q⟩
      have hstep := step_at (fun cs b => Region.noSelect_spec hsel i o cs b ho) (by rw [lay_size, hBlay v i (by omega), lay_size]) hagree (hst v w hw fun j hj => hV j (hdeps j hj).1 (hdeps j hj).2)
      have hnext : ∀ u w', V i u w' → G w w' → wpAny P md ops Q fuel (listed.setIfInBounds i true) ((lay ops a0 v (fun j => listed.getD j false) m).put o.dst u) w' := fun u w' hu hg => by
        have hset := lay_set a0 (v := v) (f := fun j => listed.getD j false) (u := u) hfi' (fun j hj hne d hd => hR1 i him j hj (Ne.symm hne) d hd) m (Nat.le_refl _) him
        rw [ho] at hset
        rw [show o.dst = (some o).bind (·.dst) from rfl, ← hset]
        have hfun : (fun j => if j = i then true else listed.getD j false) = fun j => (listed.setIfInBounds i true).getD j false := funext fun j => by
          by_cases e : j = i
          · subst e
            have hlt : j < listed.size := by omega
            simp [Array.getD, hlt]
          · rw [if_neg e, getD_set_other false e]
        rw [hfun]
        refine ih (listed.setIfInBounds i true) _ w' (hG _ _ _ hw hg) (by rw [Array.size_setIfInBounds]; exact hs) (closed_set hc hi) (fun p hp hp2 => ?_) (count_set (by omega) hfi hn) fun j hj hl => ?_
        · rw [getD_set_other true (by omega)]; exact hz p hp hp2
        · by_cases e : j = i
          · subst e; rw [if_pos rfl]; exact hu
          · rw [if_neg e]
            rw [getD_set_other false e] at hl
            exact hmono j hj _ _ _ (hV j hj hl) hg
      unfold wpOp
      rw [ho]
      dsimp only
      unfold StepR at hstep
      split
      · rename_i hwt
        rw [if_pos hwt] at hstep
        have h1 := hstep _ hnext
        refine .inl ?_
        unfold Oper.wp at *
        generalize (execOp (lay ops a0 v (fun j => listed.getD j false) m).eval o).run P w = r at *
        cases r with
        | ok n w' =>
          cases n <;> simp only [Oper.upon] at h1 ⊢ <;> first | exact h1 | (refine Calls.mono h1 fun e w'' he => ?_; cases e <;> first | exact he | exact he.elim | exact absurd he (by simp [LetsOut]))
        | halt y w' => cases y <;> simp only [Oper.upon] at h1
      · rename_i hwt
        rw [if_neg hwt] at hstep
        exact hnext undef w hstep (hGr w)
theorem step_run {V : Law} {o : Oper} {a : Act} {w : World} (hwt : Region.wanted o (yielded ops a.tmps) = true) (u : Value) (w' : World) (h : (execOp a.eval o).run P w = .ok (.value u) w') (hv : V u w') (hg : G w w') : StepR P G V ops o a w := by
  unfold StepR
  rw [if_pos hwt]
  intro K hK
  unfold Oper.wp
  rw [h]
  exact hK u w' hv hg
theorem step_call {V : Law} {o : Oper} {a : Act} {w : World} (hwt : Region.wanted o (yielded ops a.tmps) = true) (f : FuncId) (args : Array Value) (h : (execOp a.eval o).run P w = .ok (.enter f args) w)
    (hc : Calls P f args w fun e w'' => ∃ u, e = .returned u ∧ V u w'' ∧ G w w'') : StepR P G V ops o a w := by
  unfold StepR
  rw [if_pos hwt]
  intro K hK
  unfold Oper.wp
  rw [h]
  refine Calls.mono hc fun e w'' ⟨u, he, hv, hg⟩ => ?_
  subst he
  exact hK u w'' hv hg
theorem step_skip {V : Law} {o : Oper} {a : Act} {w : World} (hwt : Region.wanted o (yielded ops a.tmps) = false) (hv : V undef w) : StepR P G V ops o a w := by
  unfold StepR
  rw [if_neg (by rw [hwt]; simp)]
  exact hv
theorem closed_none (md : Region.Mode) (ops : Array Oper) (n : Nat) : closedB md ops (Array.replicate n false) = true := by
  unfold closedB
  rw [List.all_eq_true]
  intro j _
  have : (Array.replicate n false).getD j false = false := by
    by_cases h : j < n
    · simp [Array.getD, h]
    · simp [Array.getD, h]
  rw [this]
  rfl
theorem wp_region_rel_tail {id : Nat} {Q : Exit → Act → World → Prop} {a : Act} {w : World} {l : List Oper} (m k : Nat) (hGr : ∀ w, G w w) (hG : ∀ w w' w'', G w w' → G w' w'' → G w w'') (hm : P.follows .mixedOrders = true)
    (hml : m ≤ l.length) (hsel : Region.noSelect l.toArray = true) (hR : relB .any l.toArray m = true) (hT : m = l.length ∨ tailB .any l.toArray m k = true) (hw : G W0 w.drew)
    (h : walkR P G W0 l.toArray (fun env A => ∀ v w, G W0 w → (∀ j, j < m → env j (v j) w) → wpAny P .any l.toArray Q (l.length - m) (upTo m l.length) (A v) w) (l.take m) 0 (fun _ _ _ => True) (fun _ => a)) :
    (Code.region id l.toArray true).wp P Q a w := by
  have hlen : (l.take m).length = m := by rw [List.length_take]; omega
  obtain ⟨V, x, B, _, h2, h3, h4, h5⟩ := walkR_spec (P := P) (ops := l.toArray) (l.take m) 0 _ _ (fun j hj => by
    rw [hlen] at hj
    rw [List.getElem?_take, if_pos hj, Nat.zero_add]
    simp) h
  rw [hlen, Nat.zero_add] at h5
  simp only [hlen, Nat.zero_add, Nat.zero_le, true_implies] at h2 h4
  refine wp_region_any hm ?_
  have hlay : ∀ k, lay l.toArray a (fun _ => undef) (fun j => (Array.replicate l.toArray.size false).getD j false) k = a := fun k => by
    induction k with
    | zero => rfl
    | succ k ih =>
      rw [lay, if_neg, ih]
      by_cases h : k < l.length
      · simp [h]
      · simp [h]
  have hTT : ∀ listed : Array Bool, listed.size = l.toArray.size → closedB .any l.toArray listed = true → (∃ j, j < m ∧ listed.getD j false = false) → ∀ i ∈ Region.ready .any l.toArray listed, i < m := by
    intro listed hs hc ⟨j, hj, hlj⟩ i hi
    obtain ⟨hfi, o, ho, _⟩ := mem_ready.1 hi
    have hsz : i < l.toArray.size := (Array.getElem?_eq_some_iff.1 ho).1
    rcases hT with e | hT
    · rw [e]; simpa using hsz
    · simp only [tailB, Bool.and_eq_true, List.all_eq_true, List.mem_range, Bool.or_eq_true, decide_eq_true_eq, List.contains_iff_mem] at hT
      obtain ⟨hT1, hT2, _⟩ := hT
      rcases Nat.lt_or_ge i m with c | c
      · exact c
      · exfalso
        have hall : ∀ q, listed.getD q false = true → ∀ y ∈ afters .any l.toArray q, listed.getD y false = true := fun q hq => afters_listed hc hq
        have hmj : m ∈ clos .any l.toArray k (afters .any l.toArray i) → listed.getD m false = true := clos_listed hc k _ (ready_afters hi) m
        have fin : listed.getD m false = true → False := fun hq => by
          have := clos_listed hc k _ (hall m hq) j (hT1 j hj)
          rw [hlj] at this; cases this
        rcases Nat.lt_or_ge m i with d | d
        · rcases hT2 i hsz with e | e
          · omega
          · exact fin (hmj e)
        · obtain rfl : i = m := by omega
          have := clos_listed hc k _ (ready_afters hi) j (hT1 j hj)
          rw [hlj] at this; cases this
  have := any_of_rel (P := P) (md := .any) (ops := l.toArray) (G := G) (W0 := W0) (m := m) (a0 := a) (Q := Q) (V := V) (x := x) (B := B) hGr hG hR (by simpa using hml) hsel hTT h2 (fun v => by rw [h3]) h4 (by simpa using h5)
    l.toArray.size (Array.replicate l.toArray.size false) (fun _ => undef) w.drew hw (by simp) (closed_none _ _ _) (fun i _ hi => by have hi' : i < l.length := by simpa using hi
                                                                                                                                     simp [Array.getD, hi']) (by simp) (fun j _ hl => by
      exfalso
      by_cases hj : j < l.length
      · simp [hj] at hl
      · simp [hj] at hl)
  rw [hlay] at this
  exact this
/-- the world has grown: all that was there is as it was -/
def Gw (w w' : World) : Prop := Below w.heap.size w w'
theorem Gw.refl (w : World) : Gw w w := Below.refl _ w
theorem Gw.trans (w w' w'' : World) (h : Gw w w') (k : Gw w' w'') : Gw w w'' := Below.trans h (Below.mono k h.size)
/-- the same, all operations -/
theorem wp_region_rel {id : Nat} {Q : Exit → Act → World → Prop} {a : Act} {w : World} {l : List Oper} (hGr : ∀ w, G w w) (hG : ∀ w w' w'', G w w' → G w' w'' → G w w'') (hm : P.follows .mixedOrders = true)
    (hsel : Region.noSelect l.toArray = true) (hR : relB .any l.toArray l.length = true) (hw : G W0 w.drew)
    (h : walkR P G W0 l.toArray (fun env A => ∀ v w, G W0 w → (∀ j, j < l.length → env j (v j) w) → Q .normal (A v) w) l 0 (fun _ _ _ => True) (fun _ => a)) :
    (Code.region id l.toArray true).wp P Q a w := by
  refine wp_region_rel_tail (G := G) (W0 := W0) l.length 0 hGr hG hm (Nat.le_refl _) hsel hR (.inl rfl) hw ?_
  rw [List.take_length, Nat.sub_self]
  have key : ∀ (l' : List Oper) (k : Nat) (env : Nat → Law) (A : (Nat → Value) → Act), walkR P G W0 l.toArray (fun env A => ∀ v w, G W0 w → (∀ j, j < l.length → env j (v j) w) → Q .normal (A v) w) l' k env A →
      walkR P G W0 l.toArray (fun env A => ∀ v w, G W0 w → (∀ j, j < l.length → env j (v j) w) → wpAny P .any l.toArray Q 0 (upTo l.length l.length) (A v) w) l' k env A := by
    intro l'
    induction l' with
    | nil =>
      intro k env A h v w hw hv
      refine ⟨?_, h v w hw hv⟩
      cases hr : Region.ready .any l.toArray (upTo l.length l.length) with
      | nil => rfl
      | cons i r =>
        exfalso
        have hi : i ∈ Region.ready .any l.toArray (upTo l.length l.length) := by rw [hr]; exact List.mem_cons_self
        have := (mem_ready.1 hi).1
        by_cases hlt : i < l.length
        · simp [upTo, Array.getD, hlt] at this
        · simp [upTo, Array.getD, hlt] at this
    | cons o l' ih =>
      intro k env A h
      rcases h with ⟨c, h1, h2⟩ | ⟨V, h1, h2, h3⟩
      · exact .inl ⟨c, h1, ih _ _ _ h2⟩
      · exact .inr ⟨V, h1, h2, ih _ _ _ h3⟩
  exact key _ _ _ _ h
end
end Go.Proofs.YtimdioacmojkeaaGreatDoor

namespace Go.Proofs.YtimdioacmojkeaaGreatDoor
open Go.RowKit
set_option maxRecDepth 4000

/-- seven cells written -/
def set7 (W : World) (G : Nat) (x0 x1 x2 x3 x4 x5 x6 : Value) : World :=
  ((((((W.setCell ⟨G, 0, none⟩ x0).setCell ⟨G, 1, none⟩ x1).setCell ⟨G, 2, none⟩ x2).setCell ⟨G, 3, none⟩ x3).setCell ⟨G, 4, none⟩ x4).setCell ⟨G, 5, none⟩ x5).setCell ⟨G, 6, none⟩ x6

theorem below_set7 {B' : Nat} {w W : World} {G : Nat} (h : Below B' w W) (hg : B' ≤ G) (x0 x1 x2 x3 x4 x5 x6 : Value) : Below B' w (set7 W G x0 x1 x2 x3 x4 x5 x6) :=
  ((((((h.setCell hg _).setCell hg _).setCell hg _).setCell hg _).setCell hg _).setCell hg _).setCell hg _

theorem set_at {W : World} {M : Nat} {cur : Array Value} {T : TypeId} {fr : Nat × Nat} (h : W.heap[M]? = some (.cells cur T fr)) (j : Nat) (a : Value) :
    (W.setCell ⟨M, j, none⟩ a).heap[M]? = some (.cells (cur.setIfInBounds j a) T fr) := by
  simp [World.setCell, Array.getElem?_modify, h]

theorem seven_set {W : World} {G : Nat} {y0 y1 y2 y3 y4 y5 y6 : Value} {T : TypeId} {fr : Nat × Nat} (h : W.heap[G]? = some (.cells #[y0, y1, y2, y3, y4, y5, y6] T fr)) (x0 x1 x2 x3 x4 x5 x6 : Value) :
    (set7 W G x0 x1 x2 x3 x4 x5 x6).heap[G]? = some (.cells #[x0, x1, x2, x3, x4, x5, x6] T fr) ∧ Kt T W (set7 W G x0 x1 x2 x3 x4 x5 x6) := by
  have h0 : (W.setCell ⟨G, 0, none⟩ x0).heap[G]? = some (.cells #[x0, y1, y2, y3, y4, y5, y6] T fr) := by simpa using set_at h 0 x0
  have h1 : ((W.setCell ⟨G, 0, none⟩ x0).setCell ⟨G, 1, none⟩ x1).heap[G]? = some (.cells #[x0, x1, y2, y3, y4, y5, y6] T fr) := by simpa using set_at h0 1 x1
  have h2 : (((W.setCell ⟨G, 0, none⟩ x0).setCell ⟨G, 1, none⟩ x1).setCell ⟨G, 2, none⟩ x2).heap[G]? = some (.cells #[x0, x1, x2, y3, y4, y5, y6] T fr) := by simpa using set_at h1 2 x2
  have h3 : ((((W.setCell ⟨G, 0, none⟩ x0).setCell ⟨G, 1, none⟩ x1).setCell ⟨G, 2, none⟩ x2).setCell ⟨G, 3, none⟩ x3).heap[G]? = some (.cells #[x0, x1, x2, x3, y4, y5, y6] T fr) := by simpa using set_at h2 3 x3
  have h4 : (((((W.setCell ⟨G, 0, none⟩ x0).setCell ⟨G, 1, none⟩ x1).setCell ⟨G, 2, none⟩ x2).setCell ⟨G, 3, none⟩ x3).setCell ⟨G, 4, none⟩ x4).heap[G]? = some (.cells #[x0, x1, x2, x3, x4, y5, y6] T fr) := by simpa using set_at h3 4 x4
  have h5 : ((((((W.setCell ⟨G, 0, none⟩ x0).setCell ⟨G, 1, none⟩ x1).setCell ⟨G, 2, none⟩ x2).setCell ⟨G, 3, none⟩ x3).setCell ⟨G, 4, none⟩ x4).setCell ⟨G, 5, none⟩ x5).heap[G]? = some (.cells #[x0, x1, x2, x3, x4, x5, y6] T fr) := by simpa using set_at h4 5 x5
  have h6 : (((((((W.setCell ⟨G, 0, none⟩ x0).setCell ⟨G, 1, none⟩ x1).setCell ⟨G, 2, none⟩ x2).setCell ⟨G, 3, none⟩ x3).setCell ⟨G, 4, none⟩ x4).setCell ⟨G, 5, none⟩ x5).setCell ⟨G, 6, none⟩ x6).heap[G]? = some (.cells #[x0, x1, x2, x3, x4, x5, x6] T fr) := by simpa using set_at h5 6 x6
  exact ⟨h6, ((((((Kt.set h 0 x0).trans (Kt.set h0 1 x1)).trans (Kt.set h1 2 x2)).trans (Kt.set h2 3 x3)).trans (Kt.set h3 4 x4)).trans (Kt.set h4 5 x5)).trans (Kt.set h5 6 x6)⟩

theorem free7 {w : World} {b : Nat} {T : TypeId} {cur : Array Value} (h : w.heap[b]? = some (.cells cur T (0, 0))) : w.frozen? ⟨b, 0, none⟩ = false ∧ w.frozen? ⟨b, 1, none⟩ = false ∧ w.frozen? ⟨b, 2, none⟩ = false ∧ w.frozen? ⟨b, 3, none⟩ = false ∧ w.frozen? ⟨b, 4, none⟩ = false ∧ w.frozen? ⟨b, 5, none⟩ = false ∧ w.frozen? ⟨b, 6, none⟩ = false :=
  ⟨free_at h 0, free_at h 1, free_at h 2, free_at h 3, free_at h 4, free_at h 5, free_at h 6⟩

theorem Kt.set1 {T : TypeId} {W : World} {G j : Nat} {cur : Array Value} {fr : Nat × Nat} (h : W.heap[G]? = some (.cells cur T fr)) (a : Value) : Kt T W (W.setCell ⟨G, j, none⟩ a) := Kt.set h j a

/-- how an item comes in: its block, the result's, the node's -/
structure Nb (w W : World) (x : Im) (B G : Nat) (nv : Array Value) : Prop where
  eq : B = w.heap.size
  ge : B + 2 ≤ G
  it : W.heap[B]? = some (.cells #[.string x.path, .int .i64 x.kind, .int .i64 x.mode, .int .i64 x.time, .string x.bytes] 46 (0, 0))
  res : W.heap[B + 1]? = some (.cells #[.string ⟨#[]⟩, .int .i64 0, .int .i64 0, .int .i64 0, .int .i64 0, .slice none 0 0, .string ⟨#[]⟩] 89 (0, 0))
  nd : W.heap[G]? = some (.cells nv 89 (0, 0))

theorem Nb.set {w W : World} {x : Im} {B G : Nat} {nv nv' : Array Value} (h : Nb w W x B G nv) (j : Nat) (a : Value) (e : nv.setIfInBounds j a = nv') : Nb w (W.setCell ⟨G, j, none⟩ a) x B G nv' := by
  have := h.ge
  refine ⟨h.eq, h.ge, ?_, ?_, ?_⟩
  · rw [Below.heap_setCell _ _ _ _ (by show B ≠ G; omega)]; exact h.it
  · rw [Below.heap_setCell _ _ _ _ (by show B + 1 ≠ G; omega)]; exact h.res
  · rw [← e]; exact set_at h.nd j a

theorem Nb.pf {base : Nat} {w W W' : World} {x : Im} {B G : Nat} {nv : Array Value} (h : Nb w W x B G nv) (hf : Pf base W W') : Nb w W' x B G nv :=
  ⟨h.eq, h.ge, hf.cells h.it (by decide) (by decide), hf.cells h.res (by decide) (by decide), hf.cells h.nd (by decide) (by decide)⟩

theorem Nb.past {w W W' : World} {x : Im} {B G : Nat} {nv : Array Value} (h : Nb w W x B G nv) (hb : Below W.heap.size W W') : Nb w W' x B G nv :=
  ⟨h.eq, h.ge, (hb.block _ (Array.getElem?_eq_some_iff.1 h.it).1).trans h.it, (hb.block _ (Array.getElem?_eq_some_iff.1 h.res).1).trans h.res, (hb.block _ (Array.getElem?_eq_some_iff.1 h.nd).1).trans h.nd⟩

/-- the node's block as it is made -/
def Nz (B : Nat) (u : Value) (W : World) : Prop := ∃ g, u = .pointer (some ⟨g, 0, none⟩) ∧ W.heap[g]? = some (.cells #[.string ⟨#[]⟩, .int .i64 0, .int .i64 0, .int .i64 0, .int .i64 0, .slice none 0 0, .string ⟨#[]⟩] 89 (0, 0)) ∧ B ≤ g

theorem Nz.mono {B : Nat} (u : Value) (w w' : World) (h : Nz B u w) (hg : Gw w w') : Nz B u w' := by
  obtain ⟨g, e, h1, h2⟩ := h
  exact ⟨g, e, (Below.block hg g (Array.getElem?_eq_some_iff.1 h1).1).trans h1, h2⟩

theorem two_new (w : World) (o1 o2 : Obj) : ((w.alloc o1).alloc o2).heap[w.heap.size]? = some o1 ∧ ((w.alloc o1).alloc o2).heap[w.heap.size + 1]? = some o2 ∧ ((w.alloc o1).alloc o2).heap.size = w.heap.size + 2 ∧ Below w.heap.size w ((w.alloc o1).alloc o2) := by
  have s1 : (w.alloc o1).heap.size = w.heap.size + 1 := World.size_alloc _ _
  have s2 : ((w.alloc o1).alloc o2).heap.size = w.heap.size + 2 := by rw [World.size_alloc, s1]
  have h1 := heap_alloc_new w o1
  have h2 := heap_alloc_new (w.alloc o1) o2
  rw [s1] at h2
  have b2 := (Below.refl _ (w.alloc o1)).alloc (Nat.le_refl _) o2
  exact ⟨(b2.block _ (by rw [s1]; omega)).trans h1, h2, s2, ((Below.refl _ w).alloc (Nat.le_refl _) o1).alloc (by rw [s1]; omega) o2⟩

set_option maxHeartbeats 2000000 in
set_option maxRecDepth 10000 in
/-- a link -/
theorem node_link (base b m c : Nat) (fx mn mx bt : Int) (left : List Im) (bs : List Blb) (x : Im) (nm : ByteArray) (w : World) (h : Pq base b m fx mn mx bt c w left bs) (hk : x.kind = 3)
    (hln : ∀ W, Calls Tryz.prog 63 #[.string x.path] W fun e w' => e = .returned (.string nm) ∧ w' = W) :
    Calls Tryz.prog 42 #[.pointer (some ⟨b, 0, none⟩), imV x] w fun e w' => e = .returned (.tuple #[.agg #[.string nm, .int .i64 3, .int .i64 x.mode, .int .i64 x.time, .int .i64 0, .slice none 0 0, .string x.bytes], .int .i64 0]) ∧ Pf base w w' ∧ Pq base b m fx mn mx bt c w' left bs := by
  have hbase := h.base
  obtain ⟨path, kind, mode, time, bytes⟩ := x
  dsimp only at hk hln ⊢
  subst hk
  obtain ⟨W2, hW2⟩ : ∃ W2, W2 = (w.alloc (.cells #[.string path, .int .i64 3, .int .i64 mode, .int .i64 time, .string bytes] 46)).alloc (.cells #[.string ⟨#[]⟩, .int .i64 0, .int .i64 0, .int .i64 0, .int .i64 0, .slice none 0 0, .string ⟨#[]⟩] 89) := ⟨_, rfl⟩
  obtain ⟨t1, t2, t3, t4⟩ := two_new w (.cells #[.string path, .int .i64 3, .int .i64 mode, .int .i64 time, .string bytes] 46) (.cells #[.string ⟨#[]⟩, .int .i64 0, .int .i64 0, .int .i64 0, .int .i64 0, .slice none 0 0, .string ⟨#[]⟩] 89)
  rw [← hW2] at t1 t2 t3 t4
  have HQ : Hid (Pq base b m fx mn mx bt c w left bs) := h
  have HT : Hid (W2.heap[w.heap.size]? = some (.cells #[.string path, .int .i64 3, .int .i64 mode, .int .i64 time, .string bytes] 46 (0, 0)) ∧ W2.heap[w.heap.size + 1]? = some (.cells #[.string ⟨#[]⟩, .int .i64 0, .int .i64 0, .int .i64 0, .int .i64 0, .slice none 0 0, .string ⟨#[]⟩] 89 (0, 0)) ∧ W2.heap.size = w.heap.size + 2 ∧ Below w.heap.size w W2) := ⟨t1, t2, t3, t4⟩
  clear h t1 t2 t3 t4
  have H0 : Hid (∀ W, Gw W2 W → W.cell? ⟨w.heap.size, 0, none⟩ = some (.string path) ∧ W.cell? ⟨w.heap.size, 1, none⟩ = some (.int .i64 3) ∧ W.cell? ⟨w.heap.size, 2, none⟩ = some (.int .i64 mode) ∧ W.cell? ⟨w.heap.size, 3, none⟩ = some (.int .i64 time) ∧ W.cell? ⟨w.heap.size, 4, none⟩ = some (.string bytes)) := fun W hW => by
    have := five_at ((Below.block hW _ (Array.getElem?_eq_some_iff.1 HT.out.1).1).trans HT.out.1)
    exact ⟨this.1, this.2.1, this.2.2.1, this.2.2.2.1, this.2.2.2.2.1⟩
  go_enter Tryz.func42, Tryz.ntmps42
  go_upto_region 1 with fail
  rw [← hW2]
  clear hW2
  refine wp_region_rel_tail (G := Gw) (W0 := W2) 11 1 Gw.refl Gw.trans (by kernel_rfl) (by decide) (by kernel_rfl) (by kernel_rfl) (.inr (by kernel_rfl)) (Below.refl _ W2).drew ?_
  refine .inl ⟨.pointer (some ⟨w.heap.size, 0, none⟩), fun v W hW hd => step_run rfl _ W (by clear hd; go_simp) rfl (Gw.refl _), ?_⟩
  simp only [Act.put, List.setIfInBounds_toArray, List.set_cons_zero, List.set_cons_succ]
  refine .inl ⟨.string path, fun v W hW hd => step_run rfl _ W (by clear hd; obtain ⟨c0, c1, c2, c3, c4⟩ := H0.out W hW; go_simp) rfl (Gw.refl _), ?_⟩
  simp only [Act.put, List.setIfInBounds_toArray, List.set_cons_zero, List.set_cons_succ]
  refine .inl ⟨.string nm, fun v W hW hd => step_call rfl 63 #[.string path] (by clear hd; go_simp) ((hln W).mono fun e w' h => ⟨_, h.1, rfl, by rw [h.2]; exact Gw.refl _⟩), ?_⟩
  simp only [Act.put, List.setIfInBounds_toArray, List.set_cons_zero, List.set_cons_succ]
  refine .inl ⟨.pointer (some ⟨w.heap.size, 1, none⟩), fun v W hW hd => step_run rfl _ W (by clear hd; go_simp) rfl (Gw.refl _), ?_⟩
  simp only [Act.put, List.setIfInBounds_toArray, List.set_cons_zero, List.set_cons_succ]
  refine .inl ⟨.int .i64 3, fun v W hW hd => step_run rfl _ W (by clear hd; obtain ⟨c0, c1, c2, c3, c4⟩ := H0.out W hW; go_simp) rfl (Gw.refl _), ?_⟩
  simp only [Act.put, List.setIfInBounds_toArray, List.set_cons_zero, List.set_cons_succ]
  refine .inl ⟨.pointer (some ⟨w.heap.size, 2, none⟩), fun v W hW hd => step_run rfl _ W (by clear hd; go_simp) rfl (Gw.refl _), ?_⟩
  simp only [Act.put, List.setIfInBounds_toArray, List.set_cons_zero, List.set_cons_succ]
  refine .inl ⟨.int .i64 mode, fun v W hW hd => step_run rfl _ W (by clear hd; obtain ⟨c0, c1, c2, c3, c4⟩ := H0.out W hW; go_simp) rfl (Gw.refl _), ?_⟩
  simp only [Act.put, List.setIfInBounds_toArray, List.set_cons_zero, List.set_cons_succ]
  refine .inl ⟨.pointer (some ⟨w.heap.size, 3, none⟩), fun v W hW hd => step_run rfl _ W (by clear hd; go_simp) rfl (Gw.refl _), ?_⟩
  simp only [Act.put, List.setIfInBounds_toArray, List.set_cons_zero, List.set_cons_succ]
  refine .inl ⟨.int .i64 time, fun v W hW hd => step_run rfl _ W (by clear hd; obtain ⟨c0, c1, c2, c3, c4⟩ := H0.out W hW; go_simp) rfl (Gw.refl _), ?_⟩
  simp only [Act.put, List.setIfInBounds_toArray, List.set_cons_zero, List.set_cons_succ]
  refine .inl ⟨.agg #[.string nm, .int .i64 3, .int .i64 mode, .int .i64 time, .int .i64 0, .slice none 0 0, .string ⟨#[]⟩], fun v W hW hd => step_run rfl _ W (by clear hd; go_simp) rfl (Gw.refl _), ?_⟩
  simp only [Act.put, List.setIfInBounds_toArray, List.set_cons_zero, List.set_cons_succ]
  refine .inr ⟨Nz (w.heap.size + 2), Nz.mono, fun v W hW hd => step_run rfl _ (W.alloc (.cells #[.string ⟨#[]⟩, .int .i64 0, .int .i64 0, .int .i64 0, .int .i64 0, .slice none 0 0, .string ⟨#[]⟩] 89)) (by clear hd; go_simp) ⟨_, rfl, heap_alloc_new W _, Nat.le_trans (Nat.le_of_eq HT.out.2.2.1.symm) (Below.size hW)⟩ ((Below.refl _ W).alloc (Nat.le_refl _) _), ?_⟩
  simp only [Act.put, List.setIfInBounds_toArray, List.set_cons_zero, List.set_cons_succ]
  intro v W hW hV
  have h10 : Nz (w.heap.size + 2) (v 10) W := hV 10 (by decide)
  clear hV
  obtain ⟨g, e10, hg, hge⟩ := h10
  simp only [Nat.reduceAdd]
  rw [e10]
  obtain ⟨z0, z1, z2, z3, z4, z5, z6, zlt⟩ := sev_at hg
  obtain ⟨f0, f1, f2, f3, f4, f5, f6⟩ := free7 hg
  have hs7 := seven_set hg (.string nm) (.int .i64 3) (.int .i64 mode) (.int .i64 time) (.int .i64 0) (.slice none 0 0) (.string ⟨#[]⟩)
  have hB4 : Below (w.heap.size + 2) W2 (set7 W g (.string nm) (.int .i64 3) (.int .i64 mode) (.int .i64 time) (.int .i64 0) (.slice none 0 0) (.string ⟨#[]⟩)) := below_set7 (Below.mono hW (Nat.le_of_eq HT.out.2.2.1.symm)) hge _ _ _ _ _ _ _
  obtain ⟨W4, hW4⟩ : ∃ W4, W4 = set7 W g (.string nm) (.int .i64 3) (.int .i64 mode) (.int .i64 time) (.int .i64 0) (.slice none 0 0) (.string ⟨#[]⟩) := ⟨_, rfl⟩
  rw [← hW4] at hs7 hB4
  have HNb : Hid (Nb w W4 ⟨path, 3, mode, time, bytes⟩ w.heap.size g #[.string nm, .int .i64 3, .int .i64 mode, .int .i64 time, .int .i64 0, .slice none 0 0, .string ⟨#[]⟩]) :=
    ⟨rfl, hge, (hB4.block _ (by omega)).trans HT.out.1, (hB4.block _ (by omega)).trans HT.out.2.1, hs7.1⟩
  have HB4 : Hid (Below w.heap.size w W4) := HT.out.2.2.2.trans (hB4.mono (by omega))
  clear hs7 hB4 e10 H0 hW HT hge zlt hln hg
  unfold set7 at hW4
  refine wpAny_ready (rs := [11]) (by kernel_rfl) (by simp) ?_
  refine AllReady.cons rfl (fun K hK => ?_) AllReady.nil
  rw [if_pos (by rfl)]
  go_simp
  rw [← hW4]
  clear hW4 z0 z1 z2 z3 z4 z5 z6 f0 f1 f2 f3 f4 f5 f6
  refine hK _ _ ?_
  clear hK K
  refine wpAny_done (by kernel_rfl) ?_ _
  obtain ⟨i0, i1, i2, i3, i4, ilt⟩ := five_at HNb.out.it
  obtain ⟨n0, n1, n2, n3, n4, n5, n6, nlt⟩ := sev_at HNb.out.nd
  obtain ⟨f0, f1, f2, f3, f4, f5, f6⟩ := free7 HNb.out.nd
  obtain ⟨r0, r1, r2, r3, r4, r5, r6, rlt⟩ := sev_at HNb.out.res
  obtain ⟨g0, g1, g2, g3, g4, g5, g6⟩ := free7 HNb.out.res
  have HgB : Hid (w.heap.size + 2 ≤ g) := HNb.out.ge
  have hgne : g ≠ w.heap.size + 1 := by have := HgB.out; omega
  have hgne2 : w.heap.size + 1 ≠ g := by have := HgB.out; omega
  have HB9 : Hid (Below w.heap.size w (set7 (W4.setCell ⟨g, 6, none⟩ (.string bytes)) (w.heap.size + 1) (.string nm) (.int .i64 3) (.int .i64 mode) (.int .i64 time) (.int .i64 0) (.slice none 0 0) (.string bytes))) :=
    below_set7 (HB4.out.setCell (by show w.heap.size ≤ g; have := HgB.out; omega) _) (by omega) _ _ _ _ _ _ _
  go_wp2_with fail
  refine bodyPost_ret (v := .tuple #[.agg #[.string nm, .int .i64 3, .int .i64 mode, .int .i64 time, .int .i64 0, .slice none 0 0, .string bytes], .int .i64 0]) ?_ rfl ⟨rfl, Pf.of_below HB9.out hbase, HQ.out.below HB9.out⟩
  have hres : Tryz.f42.results = #[.cell 4 89, .tmp 5] := by kernel_rfl
  simp only [results, hres]
  go_simp

set_option maxHeartbeats 2000000 in
set_option maxRecDepth 10000 in
/-- a file -/
theorem node_file (base b m c : Nat) (fx mn mx bt : Int) (left : List Im) (bs : List Blb) (x : Im) (nm : ByteArray) (w : World) (h : Pq base b m fx mn mx bt c w left bs) (hk : x.kind = 1) (hc : c < 900000000) (hw : wayN fx mn mx bt = 0) (hs : x.bytes.size ≤ 4096)
    (hln : ∀ W, Calls Tryz.prog 63 #[.string x.path] W fun e w' => e = .returned (.string nm) ∧ w' = W) (R : List Pk.Bl × List Wk.Bs × Int) (hR : R = Wk.pieces (cutF fx mn mx bt x.bytes.data.toList) (pl bs)) :
    Calls Tryz.prog 42 #[.pointer (some ⟨b, 0, none⟩), imV x] w fun e w' => ∃ a n c', e = .returned (.tuple #[.agg #[.string nm, .int .i64 1, .int .i64 x.mode, .int .i64 x.time, .int .i64 x.bytes.size, .slice a n c', .string ⟨#[]⟩], .int .i64 R.2.2]) ∧ Pf base w w' ∧
      (R.2.2 = 0 → w'.ownsRow w.heap.size 29 8 (.slice a n c') R.2.1.length (rowR idC R.2.1) ∧ (∀ t ∈ R.2.1, t.length = 8) ∧ R.2.1.length ≤ 257 ∧ ∃ bs', pl bs' = R.1 ∧ Pq base b m fx mn mx bt (c + 257) w' left bs') := by
  have hbase := h.base
  obtain ⟨path, kind, mode, time, bytes⟩ := x
  dsimp only at hk hln hs hR ⊢
  subst hk
  obtain ⟨W2, hW2⟩ : ∃ W2, W2 = (w.alloc (.cells #[.string path, .int .i64 1, .int .i64 mode, .int .i64 time, .string bytes] 46)).alloc (.cells #[.string ⟨#[]⟩, .int .i64 0, .int .i64 0, .int .i64 0, .int .i64 0, .slice none 0 0, .string ⟨#[]⟩] 89) := ⟨_, rfl⟩
  obtain ⟨t1, t2, t3, t4⟩ := two_new w (.cells #[.string path, .int .i64 1, .int .i64 mode, .int .i64 time, .string bytes] 46) (.cells #[.string ⟨#[]⟩, .int .i64 0, .int .i64 0, .int .i64 0, .int .i64 0, .slice none 0 0, .string ⟨#[]⟩] 89)
  rw [← hW2] at t1 t2 t3 t4
  have HQ : Hid (Pq base b m fx mn mx bt c w left bs) := h
  have HT : Hid (W2.heap[w.heap.size]? = some (.cells #[.string path, .int .i64 1, .int .i64 mode, .int .i64 time, .string bytes] 46 (0, 0)) ∧ W2.heap[w.heap.size + 1]? = some (.cells #[.string ⟨#[]⟩, .int .i64 0, .int .i64 0, .int .i64 0, .int .i64 0, .slice none 0 0, .string ⟨#[]⟩] 89 (0, 0)) ∧ W2.heap.size = w.heap.size + 2 ∧ Below w.heap.size w W2) := ⟨t1, t2, t3, t4⟩
  clear h t1 t2 t3 t4
  have H0 : Hid (∀ W, Gw W2 W → W.cell? ⟨w.heap.size, 0, none⟩ = some (.string path) ∧ W.cell? ⟨w.heap.size, 1, none⟩ = some (.int .i64 1) ∧ W.cell? ⟨w.heap.size, 2, none⟩ = some (.int .i64 mode) ∧ W.cell? ⟨w.heap.size, 3, none⟩ = some (.int .i64 time) ∧ W.cell? ⟨w.heap.size, 4, none⟩ = some (.string bytes)) := fun W hW => by
    have := five_at ((Below.block hW _ (Array.getElem?_eq_some_iff.1 HT.out.1).1).trans HT.out.1)
    exact ⟨this.1, this.2.1, this.2.2.1, this.2.2.2.1, this.2.2.2.2.1⟩
  go_enter Tryz.func42, Tryz.ntmps42
  go_upto_region 1 with fail
  rw [← hW2]
  clear hW2
  refine wp_region_rel_tail (G := Gw) (W0 := W2) 11 1 Gw.refl Gw.trans (by kernel_rfl) (by decide) (by kernel_rfl) (by kernel_rfl) (.inr (by kernel_rfl)) (Below.refl _ W2).drew ?_
  refine .inl ⟨.pointer (some ⟨w.heap.size, 0, none⟩), fun v W hW hd => step_run rfl _ W (by clear hd; go_simp) rfl (Gw.refl _), ?_⟩
  simp only [Act.put, List.setIfInBounds_toArray, List.set_cons_zero, List.set_cons_succ]
  refine .inl ⟨.string path, fun v W hW hd => step_run rfl _ W (by clear hd; obtain ⟨c0, c1, c2, c3, c4⟩ := H0.out W hW; go_simp) rfl (Gw.refl _), ?_⟩
  simp only [Act.put, List.setIfInBounds_toArray, List.set_cons_zero, List.set_cons_succ]
  refine .inl ⟨.string nm, fun v W hW hd => step_call rfl 63 #[.string path] (by clear hd; go_simp) ((hln W).mono fun e w' h => ⟨_, h.1, rfl, by rw [h.2]; exact Gw.refl _⟩), ?_⟩
  simp only [Act.put, List.setIfInBounds_toArray, List.set_cons_zero, List.set_cons_succ]
  refine .inl ⟨.pointer (some ⟨w.heap.size, 1, none⟩), fun v W hW hd => step_run rfl _ W (by clear hd; go_simp) rfl (Gw.refl _), ?_⟩
  simp only [Act.put, List.setIfInBounds_toArray, List.set_cons_zero, List.set_cons_succ]
  refine .inl ⟨.int .i64 1, fun v W hW hd => step_run rfl _ W (by clear hd; obtain ⟨c0, c1, c2, c3, c4⟩ := H0.out W hW; go_simp) rfl (Gw.refl _), ?_⟩
  simp only [Act.put, List.setIfInBounds_toArray, List.set_cons_zero, List.set_cons_succ]
  refine .inl ⟨.pointer (some ⟨w.heap.size, 2, none⟩), fun v W hW hd => step_run rfl _ W (by clear hd; go_simp) rfl (Gw.refl _), ?_⟩
  simp only [Act.put, List.setIfInBounds_toArray, List.set_cons_zero, List.set_cons_succ]
  refine .inl ⟨.int .i64 mode, fun v W hW hd => step_run rfl _ W (by clear hd; obtain ⟨c0, c1, c2, c3, c4⟩ := H0.out W hW; go_simp) rfl (Gw.refl _), ?_⟩
  simp only [Act.put, List.setIfInBounds_toArray, List.set_cons_zero, List.set_cons_succ]
  refine .inl ⟨.pointer (some ⟨w.heap.size, 3, none⟩), fun v W hW hd => step_run rfl _ W (by clear hd; go_simp) rfl (Gw.refl _), ?_⟩
  simp only [Act.put, List.setIfInBounds_toArray, List.set_cons_zero, List.set_cons_succ]
  refine .inl ⟨.int .i64 time, fun v W hW hd => step_run rfl _ W (by clear hd; obtain ⟨c0, c1, c2, c3, c4⟩ := H0.out W hW; go_simp) rfl (Gw.refl _), ?_⟩
  simp only [Act.put, List.setIfInBounds_toArray, List.set_cons_zero, List.set_cons_succ]
  refine .inl ⟨.agg #[.string nm, .int .i64 1, .int .i64 mode, .int .i64 time, .int .i64 0, .slice none 0 0, .string ⟨#[]⟩], fun v W hW hd => step_run rfl _ W (by clear hd; go_simp) rfl (Gw.refl _), ?_⟩
  simp only [Act.put, List.setIfInBounds_toArray, List.set_cons_zero, List.set_cons_succ]
  refine .inr ⟨Nz (w.heap.size + 2), Nz.mono, fun v W hW hd => step_run rfl _ (W.alloc (.cells #[.string ⟨#[]⟩, .int .i64 0, .int .i64 0, .int .i64 0, .int .i64 0, .slice none 0 0, .string ⟨#[]⟩] 89)) (by clear hd; go_simp) ⟨_, rfl, heap_alloc_new W _, Nat.le_trans (Nat.le_of_eq HT.out.2.2.1.symm) (Below.size hW)⟩ ((Below.refl _ W).alloc (Nat.le_refl _) _), ?_⟩
  simp only [Act.put, List.setIfInBounds_toArray, List.set_cons_zero, List.set_cons_succ]
  intro v W hW hV
  have h10 : Nz (w.heap.size + 2) (v 10) W := hV 10 (by decide)
  clear hV
  obtain ⟨g, e10, hg, hge⟩ := h10
  simp only [Nat.reduceAdd]
  rw [e10]
  obtain ⟨z0, z1, z2, z3, z4, z5, z6, zlt⟩ := sev_at hg
  obtain ⟨f0, f1, f2, f3, f4, f5, f6⟩ := free7 hg
  have hs7 := seven_set hg (.string nm) (.int .i64 1) (.int .i64 mode) (.int .i64 time) (.int .i64 0) (.slice none 0 0) (.string ⟨#[]⟩)
  have hB4 : Below (w.heap.size + 2) W2 (set7 W g (.string nm) (.int .i64 1) (.int .i64 mode) (.int .i64 time) (.int .i64 0) (.slice none 0 0) (.string ⟨#[]⟩)) := below_set7 (Below.mono hW (Nat.le_of_eq HT.out.2.2.1.symm)) hge _ _ _ _ _ _ _
  obtain ⟨W4, hW4⟩ : ∃ W4, W4 = set7 W g (.string nm) (.int .i64 1) (.int .i64 mode) (.int .i64 time) (.int .i64 0) (.slice none 0 0) (.string ⟨#[]⟩) := ⟨_, rfl⟩
  rw [← hW4] at hs7 hB4
  have HNb : Hid (Nb w W4 ⟨path, 1, mode, time, bytes⟩ w.heap.size g #[.string nm, .int .i64 1, .int .i64 mode, .int .i64 time, .int .i64 0, .slice none 0 0, .string ⟨#[]⟩]) :=
    ⟨rfl, hge, (hB4.block _ (by omega)).trans HT.out.1, (hB4.block _ (by omega)).trans HT.out.2.1, hs7.1⟩
  have HB4 : Hid (Below w.heap.size w W4) := HT.out.2.2.2.trans (hB4.mono (by omega))
  clear hs7 hB4 e10 H0 hW HT hge zlt hln hg
  unfold set7 at hW4
  refine wpAny_ready (rs := [11]) (by kernel_rfl) (by simp) ?_
  refine AllReady.cons rfl (fun K hK => ?_) AllReady.nil
  rw [if_pos (by rfl)]
  go_simp
  rw [← hW4]
  clear hW4 z0 z1 z2 z3 z4 z5 z6 f0 f1 f2 f3 f4 f5 f6
  refine hK _ _ ?_
  clear hK K
  refine wpAny_done (by kernel_rfl) ?_ _
  have hgw : w.heap.size + 2 ≤ g := HNb.out.ge
  have hgne : g ≠ w.heap.size + 1 := by omega
  have hgne2 : w.heap.size + 1 ≠ g := by omega
  have HNb5 : Hid (Nb w (W4.setCell ⟨g, 4, none⟩ (.int .i64 bytes.size)) ⟨path, 1, mode, time, bytes⟩ w.heap.size g #[.string nm, .int .i64 1, .int .i64 mode, .int .i64 time, .int .i64 bytes.size, .slice none 0 0, .string ⟨#[]⟩]) := HNb.out.set 4 _ rfl
  have HB5 : Hid (Below w.heap.size w (W4.setCell ⟨g, 4, none⟩ (.int .i64 bytes.size))) := HB4.out.setCell (by show w.heap.size ≤ g; omega) _
  obtain ⟨W5, hW5⟩ : ∃ W5, W5 = W4.setCell ⟨g, 4, none⟩ (.int .i64 bytes.size) := ⟨_, rfl⟩
  rw [← hW5] at HNb5 HB5
  have hfile := file_any base b m c fx mn mx bt left bs bytes W5 (HQ.out.below HB5.out) hc hw hs R hR
  have hs5 : w.heap.size ≤ W5.heap.size := HB5.out.size
  have hsg : g < W5.heap.size := (Array.getElem?_eq_some_iff.1 HNb5.out.nd).1
  obtain ⟨i0, i1, i2, i3, i4, ilt⟩ := five_at HNb.out.it
  obtain ⟨n0, n1, n2, n3, n4, n5, n6, nlt⟩ := sev_at HNb.out.nd
  obtain ⟨f0, f1, f2, f3, f4, f5, f6⟩ := free7 HNb.out.nd
  obtain ⟨j0, j1, j2, j3, j4, jlt⟩ := five_at HNb5.out.it
  clear hR hw hs hc
  go_upto_region 6 with fail
  rw [← hW5]
  clear hW5 i0 i1 i2 i3 i4 n0 n1 n2 n3 n4 n5 n6 f0 f1 f2 f3 f4 f5 f6 nlt
  go_wp2_with fail
  refine hfile.mono ?_
  rintro e w6 ⟨v, rfl, hf6, hv0, hok⟩
  have hform : ∃ a n c', v = .slice a n c' := by
    by_cases hE : R.2.2 = 0
    · obtain ⟨a, c', e⟩ := own_form (hok hE).1
      exact ⟨a, _, c', e⟩
    · exact ⟨none, 0, 0, hv0 hE⟩
  obtain ⟨a, n, c', rfl⟩ := hform
  have HOK : Hid (R.2.2 = 0 → w6.ownsRow W5.heap.size 29 8 (.slice a n c') R.2.1.length (rowR idC R.2.1) ∧ (∀ t ∈ R.2.1, t.length = 8) ∧ R.2.1.length ≤ 257 ∧ ∃ bs', pl bs' = R.1 ∧ Pq base b m fx mn mx bt (c + 257) w6 left bs') := hok
  have HNb6 : Hid (Nb w w6 ⟨path, 1, mode, time, bytes⟩ w.heap.size g #[.string nm, .int .i64 1, .int .i64 mode, .int .i64 time, .int .i64 bytes.size, .slice none 0 0, .string ⟨#[]⟩]) := HNb5.out.pf hf6
  have HF6 : Hid (Pf base w w6) := (Pf.of_below HB5.out hbase).trans hf6
  obtain ⟨n0, n1, n2, n3, n4, n5, n6, nlt⟩ := sev_at HNb6.out.nd
  obtain ⟨f0, f1, f2, f3, f4, f5, f6⟩ := free7 HNb6.out.nd
  obtain ⟨r0, r1, r2, r3, r4, r5, r6, rlt⟩ := sev_at HNb6.out.res
  obtain ⟨g0, g1, g2, g3, g4, g5, g6⟩ := free7 HNb6.out.res
  have HNb7 : Hid (Nb w (w6.setCell ⟨g, 5, none⟩ (.slice a n c')) ⟨path, 1, mode, time, bytes⟩ w.heap.size g #[.string nm, .int .i64 1, .int .i64 mode, .int .i64 time, .int .i64 bytes.size, .slice a n c', .string ⟨#[]⟩]) := HNb6.out.set 5 _ rfl
  have HB9 : Hid (Below w.heap.size w6 (set7 (w6.setCell ⟨g, 5, none⟩ (.slice a n c')) (w.heap.size + 1) (.string nm) (.int .i64 1) (.int .i64 mode) (.int .i64 time) (.int .i64 bytes.size) (.slice a n c') (.string ⟨#[]⟩))) :=
    below_set7 ((Below.refl _ w6).setCell (by show w.heap.size ≤ g; omega) _) (by omega) _ _ _ _ _ _ _
  have HK9 : Hid (Kt 89 w6 (set7 (w6.setCell ⟨g, 5, none⟩ (.slice a n c')) (w.heap.size + 1) (.string nm) (.int .i64 1) (.int .i64 mode) (.int .i64 time) (.int .i64 bytes.size) (.slice a n c') (.string ⟨#[]⟩))) :=
    (Kt.set HNb6.out.nd 5 _).trans (seven_set HNb7.out.res _ _ _ _ _ _ _).2
  clear hok hv0 hf6 hfile
  go_wp2_with fail
  refine bodyPost_ret (v := .tuple #[.agg #[.string nm, .int .i64 1, .int .i64 mode, .int .i64 time, .int .i64 bytes.size, .slice a n c', .string ⟨#[]⟩], .int .i64 R.2.2]) ?_ rfl ⟨a, n, c', rfl, HF6.out.then HB9.out hbase, fun hE => ?_⟩
  · have hres : Tryz.f42.results = #[.cell 4 89, .tmp 5] := by kernel_rfl
    simp only [results, hres]
    go_simp
  · obtain ⟨o1, o2, o3, bs', o4, o5⟩ := HOK.out hE
    exact ⟨own_lower (own_kt o1 HK9.out (by decide)) hs5, o2, o3, bs', o4, o5.kt HK9.out (HB9.out.mono hbase) (by decide) (by decide)⟩

theorem I8.zero {W : World} {G : Nat} {t : TypeId} (h : W.heap[G]? = some (.cells Z8 t (0, 0))) : I8 W G (List.replicate 8 0) := by
  refine ⟨by simp, fun j hj => ?_, fun j _ => by simp [World.frozen?, h], (Array.getElem?_eq_some_iff.1 h).1⟩
  rw [List.getD_eq_getElem?_getD, List.getElem?_replicate, if_pos hj, cell_of_row _ G j _ _ _ h]
  match j, hj with
  | 0, _ | 1, _ | 2, _ | 3, _ | 4, _ | 5, _ | 6, _ | 7, _ => rfl

theorem I8.kt8 {T : TypeId} {W : World} {G : Nat} {cur : Array Value} {fr : Nat × Nat} (h : W.heap[G]? = some (.cells cur T fr)) (b0 b1 b2 b3 b4 b5 b6 b7 : UInt8) : Kt T W (set8 W G b0 b1 b2 b3 b4 b5 b6 b7) := by
  have hk := kept_not8 W G b0 b1 b2 b3 b4 b5 b6 b7
  refine ⟨hk.os, hk.tape, hk.output, hk.size, fun k o ho hn => ?_⟩
  by_cases e : k = G
  · subst e
    rw [h] at ho
    cases ho
    exact absurd ⟨_, _, rfl⟩ hn
  · exact hk.obj e ho

/-- an ID in a block of its own, as a row -/
theorem one_id (W : World) (b0 b1 b2 b3 b4 b5 b6 b7 : UInt8) : (W.alloc (.cells #[.int .u8 (b0.toNat : Int), .int .u8 (b1.toNat : Int), .int .u8 (b2.toNat : Int), .int .u8 (b3.toNat : Int), .int .u8 (b4.toNat : Int), .int .u8 (b5.toNat : Int), .int .u8 (b6.toNat : Int), .int .u8 (b7.toNat : Int)] 29)).ownsRow W.heap.size 29 8 (.slice (some ⟨W.heap.size, 0, none⟩) 1 1) 1 (idC [b0, b1, b2, b3, b4, b5, b6, b7]) :=
  ⟨rfl, .inr ⟨W.heap.size, 1, #[.int .u8 (b0.toNat : Int), .int .u8 (b1.toNat : Int), .int .u8 (b2.toNat : Int), .int .u8 (b3.toNat : Int), .int .u8 (b4.toNat : Int), .int .u8 (b5.toNat : Int), .int .u8 (b6.toNat : Int), .int .u8 (b7.toNat : Int)], rfl, Nat.le_refl _, heap_alloc_new W _, Nat.le_refl _, by unfold maxLen; omega, rfl, rfl⟩⟩

set_option maxHeartbeats 4000000 in
set_option maxRecDepth 10000 in
/-- a directory -/
theorem node_dir (base b m c c' : Nat) (fx mn mx bt : Int) (left left' : List Im) (bs : List Blb) (x : Im) (nm : ByteArray) (w : World) (h : Pq base b m fx mn mx bt c w left bs) (hk : x.kind = 2)
    (hln : ∀ W, Calls Tryz.prog 63 #[.string x.path] W fun e w' => e = .returned (.string nm) ∧ w' = W) (R : List Pk.Bl × Wk.Bs × Int)
    (hd : ∀ W, Below base w W → Pq base b m fx mn mx bt c W left bs → Calls Tryz.prog 22 #[.pointer (some ⟨b, 0, none⟩), .string x.path] W fun e w' => ∃ id, e = .returned (.tuple #[idV id, .int .i64 R.2.2]) ∧ id.length = 8 ∧ Pf base W w' ∧ (R.2.2 = 0 → id = R.2.1 ∧ ∃ bs', pl bs' = R.1 ∧ Pq base b m fx mn mx bt c' w' left' bs')) :
    Calls Tryz.prog 42 #[.pointer (some ⟨b, 0, none⟩), imV x] w fun e w' => ∃ a id, e = .returned (.tuple #[.agg #[.string nm, .int .i64 2, .int .i64 x.mode, .int .i64 x.time, .int .i64 0, .slice a 1 1, .string ⟨#[]⟩], .int .i64 R.2.2]) ∧ Pf base w w' ∧
      id.length = 8 ∧ w'.ownsRow w.heap.size 29 8 (.slice a 1 1) 1 (idC id) ∧ (R.2.2 = 0 → id = R.2.1 ∧ ∃ bs', pl bs' = R.1 ∧ Pq base b m fx mn mx bt c' w' left' bs') := by
  have hbase := h.base
  obtain ⟨path, kind, mode, time, bytes⟩ := x
  dsimp only at hk hln hd ⊢
  subst hk
  obtain ⟨W2, hW2⟩ : ∃ W2, W2 = (w.alloc (.cells #[.string path, .int .i64 2, .int .i64 mode, .int .i64 time, .string bytes] 46)).alloc (.cells #[.string ⟨#[]⟩, .int .i64 0, .int .i64 0, .int .i64 0, .int .i64 0, .slice none 0 0, .string ⟨#[]⟩] 89) := ⟨_, rfl⟩
  obtain ⟨t1, t2, t3, t4⟩ := two_new w (.cells #[.string path, .int .i64 2, .int .i64 mode, .int .i64 time, .string bytes] 46) (.cells #[.string ⟨#[]⟩, .int .i64 0, .int .i64 0, .int .i64 0, .int .i64 0, .slice none 0 0, .string ⟨#[]⟩] 89)
  rw [← hW2] at t1 t2 t3 t4
  have HQ : Hid (Pq base b m fx mn mx bt c w left bs) := h
  have HT : Hid (W2.heap[w.heap.size]? = some (.cells #[.string path, .int .i64 2, .int .i64 mode, .int .i64 time, .string bytes] 46 (0, 0)) ∧ W2.heap[w.heap.size + 1]? = some (.cells #[.string ⟨#[]⟩, .int .i64 0, .int .i64 0, .int .i64 0, .int .i64 0, .slice none 0 0, .string ⟨#[]⟩] 89 (0, 0)) ∧ W2.heap.size = w.heap.size + 2 ∧ Below w.heap.size w W2) := ⟨t1, t2, t3, t4⟩
  clear h t1 t2 t3 t4
  have H0 : Hid (∀ W, Gw W2 W → W.cell? ⟨w.heap.size, 0, none⟩ = some (.string path) ∧ W.cell? ⟨w.heap.size, 1, none⟩ = some (.int .i64 2) ∧ W.cell? ⟨w.heap.size, 2, none⟩ = some (.int .i64 mode) ∧ W.cell? ⟨w.heap.size, 3, none⟩ = some (.int .i64 time) ∧ W.cell? ⟨w.heap.size, 4, none⟩ = some (.string bytes)) := fun W hW => by
    have := five_at ((Below.block hW _ (Array.getElem?_eq_some_iff.1 HT.out.1).1).trans HT.out.1)
    exact ⟨this.1, this.2.1, this.2.2.1, this.2.2.2.1, this.2.2.2.2.1⟩
  go_enter Tryz.func42, Tryz.ntmps42
  go_upto_region 1 with fail
  rw [← hW2]
  clear hW2
  refine wp_region_rel_tail (G := Gw) (W0 := W2) 11 1 Gw.refl Gw.trans (by kernel_rfl) (by decide) (by kernel_rfl) (by kernel_rfl) (.inr (by kernel_rfl)) (Below.refl _ W2).drew ?_
  refine .inl ⟨.pointer (some ⟨w.heap.size, 0, none⟩), fun v W hW hd => step_run rfl _ W (by clear hd; go_simp) rfl (Gw.refl _), ?_⟩
  simp only [Act.put, List.setIfInBounds_toArray, List.set_cons_zero, List.set_cons_succ]
  refine .inl ⟨.string path, fun v W hW hd => step_run rfl _ W (by clear hd; obtain ⟨c0, c1, c2, c3, c4⟩ := H0.out W hW; go_simp) rfl (Gw.refl _), ?_⟩
  simp only [Act.put, List.setIfInBounds_toArray, List.set_cons_zero, List.set_cons_succ]
  refine .inl ⟨.string nm, fun v W hW hd => step_call rfl 63 #[.string path] (by clear hd; go_simp) ((hln W).mono fun e w' h => ⟨_, h.1, rfl, by rw [h.2]; exact Gw.refl _⟩), ?_⟩
  simp only [Act.put, List.setIfInBounds_toArray, List.set_cons_zero, List.set_cons_succ]
  refine .inl ⟨.pointer (some ⟨w.heap.size, 1, none⟩), fun v W hW hd => step_run rfl _ W (by clear hd; go_simp) rfl (Gw.refl _), ?_⟩
  simp only [Act.put, List.setIfInBounds_toArray, List.set_cons_zero, List.set_cons_succ]
  refine .inl ⟨.int .i64 2, fun v W hW hd => step_run rfl _ W (by clear hd; obtain ⟨c0, c1, c2, c3, c4⟩ := H0.out W hW; go_simp) rfl (Gw.refl _), ?_⟩
  simp only [Act.put, List.setIfInBounds_toArray, List.set_cons_zero, List.set_cons_succ]
  refine .inl ⟨.pointer (some ⟨w.heap.size, 2, none⟩), fun v W hW hd => step_run rfl _ W (by clear hd; go_simp) rfl (Gw.refl _), ?_⟩
  simp only [Act.put, List.setIfInBounds_toArray, List.set_cons_zero, List.set_cons_succ]
  refine .inl ⟨.int .i64 mode, fun v W hW hd => step_run rfl _ W (by clear hd; obtain ⟨c0, c1, c2, c3, c4⟩ := H0.out W hW; go_simp) rfl (Gw.refl _), ?_⟩
  simp only [Act.put, List.setIfInBounds_toArray, List.set_cons_zero, List.set_cons_succ]
  refine .inl ⟨.pointer (some ⟨w.heap.size, 3, none⟩), fun v W hW hd => step_run rfl _ W (by clear hd; go_simp) rfl (Gw.refl _), ?_⟩
  simp only [Act.put, List.setIfInBounds_toArray, List.set_cons_zero, List.set_cons_succ]
  refine .inl ⟨.int .i64 time, fun v W hW hd => step_run rfl _ W (by clear hd; obtain ⟨c0, c1, c2, c3, c4⟩ := H0.out W hW; go_simp) rfl (Gw.refl _), ?_⟩
  simp only [Act.put, List.setIfInBounds_toArray, List.set_cons_zero, List.set_cons_succ]
  refine .inl ⟨.agg #[.string nm, .int .i64 2, .int .i64 mode, .int .i64 time, .int .i64 0, .slice none 0 0, .string ⟨#[]⟩], fun v W hW hd => step_run rfl _ W (by clear hd; go_simp) rfl (Gw.refl _), ?_⟩
  simp only [Act.put, List.setIfInBounds_toArray, List.set_cons_zero, List.set_cons_succ]
  refine .inr ⟨Nz (w.heap.size + 2), Nz.mono, fun v W hW hd => step_run rfl _ (W.alloc (.cells #[.string ⟨#[]⟩, .int .i64 0, .int .i64 0, .int .i64 0, .int .i64 0, .slice none 0 0, .string ⟨#[]⟩] 89)) (by clear hd; go_simp) ⟨_, rfl, heap_alloc_new W _, Nat.le_trans (Nat.le_of_eq HT.out.2.2.1.symm) (Below.size hW)⟩ ((Below.refl _ W).alloc (Nat.le_refl _) _), ?_⟩
  simp only [Act.put, List.setIfInBounds_toArray, List.set_cons_zero, List.set_cons_succ]
  intro v W hW hV
  have h10 : Nz (w.heap.size + 2) (v 10) W := hV 10 (by decide)
  clear hV
  obtain ⟨g, e10, hg, hge⟩ := h10
  simp only [Nat.reduceAdd]
  rw [e10]
  obtain ⟨z0, z1, z2, z3, z4, z5, z6, zlt⟩ := sev_at hg
  obtain ⟨f0, f1, f2, f3, f4, f5, f6⟩ := free7 hg
  have hs7 := seven_set hg (.string nm) (.int .i64 2) (.int .i64 mode) (.int .i64 time) (.int .i64 0) (.slice none 0 0) (.string ⟨#[]⟩)
  have hB4 : Below (w.heap.size + 2) W2 (set7 W g (.string nm) (.int .i64 2) (.int .i64 mode) (.int .i64 time) (.int .i64 0) (.slice none 0 0) (.string ⟨#[]⟩)) := below_set7 (Below.mono hW (Nat.le_of_eq HT.out.2.2.1.symm)) hge _ _ _ _ _ _ _
  obtain ⟨W4, hW4⟩ : ∃ W4, W4 = set7 W g (.string nm) (.int .i64 2) (.int .i64 mode) (.int .i64 time) (.int .i64 0) (.slice none 0 0) (.string ⟨#[]⟩) := ⟨_, rfl⟩
  rw [← hW4] at hs7 hB4
  have HNb : Hid (Nb w W4 ⟨path, 2, mode, time, bytes⟩ w.heap.size g #[.string nm, .int .i64 2, .int .i64 mode, .int .i64 time, .int .i64 0, .slice none 0 0, .string ⟨#[]⟩]) :=
    ⟨rfl, hge, (hB4.block _ (by omega)).trans HT.out.1, (hB4.block _ (by omega)).trans HT.out.2.1, hs7.1⟩
  have HB4 : Hid (Below w.heap.size w W4) := HT.out.2.2.2.trans (hB4.mono (by omega))
  clear hs7 hB4 e10 H0 hW HT hge zlt hln hg
  unfold set7 at hW4
  refine wpAny_ready (rs := [11]) (by kernel_rfl) (by simp) ?_
  refine AllReady.cons rfl (fun K hK => ?_) AllReady.nil
  rw [if_pos (by rfl)]
  go_simp
  rw [← hW4]
  clear hW4 z0 z1 z2 z3 z4 z5 z6 f0 f1 f2 f3 f4 f5 f6
  refine hK _ _ ?_
  clear hK K
  refine wpAny_done (by kernel_rfl) ?_ _
  have hgw : w.heap.size + 2 ≤ g := HNb.out.ge
  have hgne : g ≠ w.heap.size + 1 := by omega
  have hgne2 : w.heap.size + 1 ≠ g := by omega
  obtain ⟨i0, i1, i2, i3, i4, ilt⟩ := five_at HNb.out.it
  have hsg : g < W4.heap.size := (Array.getElem?_eq_some_iff.1 HNb.out.nd).1
  obtain ⟨W5, hW5⟩ : ∃ W5, W5 = W4.alloc (.cells Z8 29) := ⟨_, rfl⟩
  have hB45 : Below W4.heap.size W4 W5 := by rw [hW5]; exact (Below.refl _ W4).alloc (Nat.le_refl _) _
  have HI5 : Hid (W5.heap[W4.heap.size]? = some (.cells Z8 29 (0, 0))) := by rw [hW5]; exact heap_alloc_new W4 _
  have HNb5 : Hid (Nb w W5 ⟨path, 2, mode, time, bytes⟩ w.heap.size g #[.string nm, .int .i64 2, .int .i64 mode, .int .i64 time, .int .i64 0, .slice none 0 0, .string ⟨#[]⟩]) := HNb.out.past hB45
  have HB5 : Hid (Below w.heap.size w W5) := HB4.out.trans (hB45.mono HB4.out.size)
  obtain ⟨j0, j1, j2, j3, j4, jlt⟩ := five_at HNb5.out.it
  have hd5 := hd W5 (HB5.out.mono hbase) (HQ.out.below HB5.out)
  have hs4 : w.heap.size ≤ W4.heap.size := HB4.out.size
  clear hd hB45
  go_upto_region 9 with fail
  rw [← hW5]
  clear hW5 i0 i1 i2 i3 i4
  go_wp2_with fail
  refine hd5.mono ?_
  rintro e w6 ⟨id, rfl, hid, hf6, hok⟩
  obtain ⟨b0, b1, b2, b3, b4, b5, b6, b7, rfl⟩ := eight id hid
  have eV : idV [b0, b1, b2, b3, b4, b5, b6, b7] = .agg #[.int .u8 (b0.toNat : Int), .int .u8 (b1.toNat : Int), .int .u8 (b2.toNat : Int), .int .u8 (b3.toNat : Int), .int .u8 (b4.toNat : Int), .int .u8 (b5.toNat : Int), .int .u8 (b6.toNat : Int), .int .u8 (b7.toNat : Int)] := rfl
  rw [eV]
  have HOK : Hid (R.2.2 = 0 → [b0, b1, b2, b3, b4, b5, b6, b7] = R.2.1 ∧ ∃ bs', pl bs' = R.1 ∧ Pq base b m fx mn mx bt c' w6 left' bs') := hok
  have HF6 : Hid (Pf base w w6) := (Pf.of_below HB5.out hbase).trans hf6
  have hI6 : w6.heap[W4.heap.size]? = some (.cells Z8 29 (0, 0)) := hf6.cells HI5.out (by decide) (by decide)
  have HNb6 : Hid (Nb w w6 ⟨path, 2, mode, time, bytes⟩ w.heap.size g #[.string nm, .int .i64 2, .int .i64 mode, .int .i64 time, .int .i64 0, .slice none 0 0, .string ⟨#[]⟩]) := HNb5.out.pf hf6
  have hX6 := I8.zero hI6
  obtain ⟨e0, e1, e2, e3, e4, e5, e6, e7⟩ := I8.cells (b0 := 0) (b1 := 0) (b2 := 0) (b3 := 0) (b4 := 0) (b5 := 0) (b6 := 0) (b7 := 0) hX6
  obtain ⟨f0, f1, f2, f3, f4, f5, f6, f7⟩ := hX6.free
  obtain ⟨W7, hW7⟩ : ∃ W7, W7 = set8 w6 W4.heap.size b0 b1 b2 b3 b4 b5 b6 b7 := ⟨_, rfl⟩
  have hX7 : I8 W7 W4.heap.size [b0, b1, b2, b3, b4, b5, b6, b7] := by rw [hW7]; exact hX6.store _ _ _ _ _ _ _ _
  have hB67 : Below W4.heap.size w6 W7 := by rw [hW7]; exact below_set8 (Below.refl _ _) (Nat.le_refl _) _ _ _ _ _ _ _ _
  have hK67 : Kt 29 w6 W7 := by rw [hW7]; exact I8.kt8 hI6 _ _ _ _ _ _ _ _
  have HNb7 : Hid (Nb w W7 ⟨path, 2, mode, time, bytes⟩ w.heap.size g #[.string nm, .int .i64 2, .int .i64 mode, .int .i64 time, .int .i64 0, .slice none 0 0, .string ⟨#[]⟩]) :=
    ⟨rfl, hgw, hK67.cell HNb6.out.it (by decide), hK67.cell HNb6.out.res (by decide), hK67.cell HNb6.out.nd (by decide)⟩
  unfold set8 at hW7
  simp only [B] at hW7
  obtain ⟨d0, d1, d2, d3, d4, d5, d6, d7⟩ := hX7.cells
  clear hok hf6 hid eV
  go_upto_region 10 with fail
  rw [← hW7]
  clear hW7 e0 e1 e2 e3 e4 e5 e6 e7 f0 f1 f2 f3 f4 f5 f6 f7 hX6 j0 j1 j2 j3 j4
  have hs7 : w.heap.size ≤ W7.heap.size := by have := hB67.size; have := HF6.out.size; omega
  have HNs : Hid (Nb w (W7.setCell ⟨g, 5, none⟩ (.slice (some ⟨W7.heap.size, 0, none⟩) 1 1)) ⟨path, 2, mode, time, bytes⟩ w.heap.size g #[.string nm, .int .i64 2, .int .i64 mode, .int .i64 time, .int .i64 0, .slice (some ⟨W7.heap.size, 0, none⟩) 1 1, .string ⟨#[]⟩]) := HNb7.out.set 5 _ rfl
  have hKs : Kt 89 W7 (W7.setCell ⟨g, 5, none⟩ (.slice (some ⟨W7.heap.size, 0, none⟩) 1 1)) := Kt.set HNb7.out.nd 5 _
  have hss : (W7.setCell ⟨g, 5, none⟩ (.slice (some ⟨W7.heap.size, 0, none⟩) 1 1)).heap.size = W7.heap.size := by simp [World.setCell]
  have hBs : Below w.heap.size W7 (W7.setCell ⟨g, 5, none⟩ (.slice (some ⟨W7.heap.size, 0, none⟩) 1 1)) := (Below.refl _ W7).setCell (by show w.heap.size ≤ g; omega) _
  obtain ⟨W8, hW8⟩ : ∃ W8, W8 = (W7.setCell ⟨g, 5, none⟩ (.slice (some ⟨W7.heap.size, 0, none⟩) 1 1)).alloc (.cells #[.int .u8 (b0.toNat : Int), .int .u8 (b1.toNat : Int), .int .u8 (b2.toNat : Int), .int .u8 (b3.toNat : Int), .int .u8 (b4.toNat : Int), .int .u8 (b5.toNat : Int), .int .u8 (b6.toNat : Int), .int .u8 (b7.toNat : Int)] 29) := ⟨_, rfl⟩
  have hB78 : Below W7.heap.size (W7.setCell ⟨g, 5, none⟩ (.slice (some ⟨W7.heap.size, 0, none⟩) 1 1)) W8 := by rw [hW8]; exact (Below.refl _ _).alloc (Nat.le_of_eq hss.symm) _
  have HO8 : Hid (W8.ownsRow W7.heap.size 29 8 (.slice (some ⟨W7.heap.size, 0, none⟩) 1 1) 1 (idC [b0, b1, b2, b3, b4, b5, b6, b7])) := by
    have := one_id (W7.setCell ⟨g, 5, none⟩ (.slice (some ⟨W7.heap.size, 0, none⟩) 1 1)) b0 b1 b2 b3 b4 b5 b6 b7
    rw [hss] at this
    rw [hW8]
    exact this
  have HNb9 : Hid (Nb w W8 ⟨path, 2, mode, time, bytes⟩ w.heap.size g #[.string nm, .int .i64 2, .int .i64 mode, .int .i64 time, .int .i64 0, .slice (some ⟨W7.heap.size, 0, none⟩) 1 1, .string ⟨#[]⟩]) := HNs.out.past (by rw [hss]; exact hB78)
  have HB9 : Hid (Below w.heap.size W8 (set7 W8 (w.heap.size + 1) (.string nm) (.int .i64 2) (.int .i64 mode) (.int .i64 time) (.int .i64 0) (.slice (some ⟨W7.heap.size, 0, none⟩) 1 1) (.string ⟨#[]⟩))) :=
    below_set7 (Below.refl _ W8) (by omega) _ _ _ _ _ _ _
  have HK9 : Hid (Kt 89 W8 (set7 W8 (w.heap.size + 1) (.string nm) (.int .i64 2) (.int .i64 mode) (.int .i64 time) (.int .i64 0) (.slice (some ⟨W7.heap.size, 0, none⟩) 1 1) (.string ⟨#[]⟩))) :=
    (seven_set HNb9.out.res _ _ _ _ _ _ _).2
  have HK8 : Hid (Kt 29 w6 W7) := hK67
  have HK8s : Hid (Kt 89 W7 W8) := hKs.trans (Kt.of_below (by rw [hss]; exact hB78))
  have HB8 : Hid (Below w.heap.size w6 W7) := hB67.mono hs4
  have HB8s : Hid (Below w.heap.size W7 W8) := hBs.trans (hB78.mono hs7)
  obtain ⟨n0, n1, n2, n3, n4, n5, n6, nlt⟩ := sev_at HNb9.out.nd
  obtain ⟨r0, r1, r2, r3, r4, r5, r6, rlt⟩ := sev_at HNb9.out.res
  obtain ⟨g0, g1, g2, g3, g4, g5, g6⟩ := free7 HNb9.out.res
  obtain ⟨m0, m1, m2, m3, m4, m5, m6, mlt⟩ := sev_at HNb7.out.nd
  obtain ⟨q0, q1, q2, q3, q4, q5, q6⟩ := free7 HNb7.out.nd
  clear hX7 hB67 hK67 hB78 hss hBs hKs
  go_upto_region 13 with fail
  rw [← hW8]
  clear hW8 m0 m1 m2 m3 m4 m5 m6 mlt q0 q1 q2 q3 q4 q5 q6 d0 d1 d2 d3 d4 d5 d6 d7
  go_wp2_with fail
  refine bodyPost_ret (v := .tuple #[.agg #[.string nm, .int .i64 2, .int .i64 mode, .int .i64 time, .int .i64 0, .slice (some ⟨W7.heap.size, 0, none⟩) 1 1, .string ⟨#[]⟩], .int .i64 R.2.2]) ?_ rfl ⟨_, [b0, b1, b2, b3, b4, b5, b6, b7], rfl, ((HF6.out.then HB8.out hbase).then HB8s.out hbase).then HB9.out hbase, rfl, own_lower (own_kt HO8.out HK9.out (by decide)) hs7, fun hE => ?_⟩
  · have hres : Tryz.f42.results = #[.cell 4 89, .tmp 5] := by kernel_rfl
    simp only [results, hres]
    go_simp
  · obtain ⟨o1, bs', o4, o5⟩ := HOK.out hE
    exact ⟨o1, bs', o4, ((o5.kt HK8.out (HB8.out.mono hbase) (by decide) (by decide)).kt HK8s.out (HB8s.out.mono hbase) (by decide) (by decide)).kt HK9.out (HB9.out.mono hbase) (by decide) (by decide)⟩

end Go.Proofs.YtimdioacmojkeaaGreatDoor

namespace Go.Proofs.YtimdioacmojkeaaGreatDoor
open Go.RowKit
set_option maxRecDepth 4000

set_option maxHeartbeats 1000000 in
theorem rpid_of (b0 b1 b2 b3 b4 b5 b6 b7 : UInt8) (k : Nat) (s : ByteArray) (w : World) (hk : kB (k : Int) = true) (hk3 : k ≤ 3) (hs : s.size ≤ 4096)
    (hn : ∀ W, Calls Tryz.prog 96 #[.string ⟨(UInt8.ofNat k :: s.data.toList).toArray⟩] W fun e w' => e = .returned (.agg #[B b0, B b1, B b2, B b3, B b4, B b5, B b6, B b7]) ∧ Below W.heap.size W w') :
    Calls Tryz.prog 71 #[.agg #[.int .i64 k, .string s]] w fun e w' => e = .returned (.tuple #[.agg #[B b0, B b1, B b2, B b3, B b4, B b5, B b6, B b7], .int .i64 0]) ∧ Below w.heap.size w w' := by
  simp only [B] at hn
  have hisk := fun W => rkind_any (k : Int) W
  rw [hk] at hisk
  clear hk
  have hcat : ∀ W : World, (Op.stringOp .add ⟨#[UInt8.ofNat k]⟩ s).run Tryz.prog W = .ok (.string ⟨(UInt8.ofNat k :: s.data.toList).toArray⟩) W := fun W => by
    have := run_string_add_lists (P := Tryz.prog) W [UInt8.ofNat k] s.data.toList (by simp) (by rw [← Lib.size_eq]; omega)
    exact this
  obtain ⟨W2, hW2⟩ : ∃ W2, W2 = (w.alloc (.cells #[.int .i64 k, .string s] 37)).alloc (.cells Z8 29) := ⟨_, rfl⟩
  have hsz : W2.heap.size = w.heap.size + 2 := by rw [hW2]; simp
  have hX : I8 W2 (w.heap.size + 1) (List.replicate 8 0) := by
    rw [hW2]
    have := I8.new (w.alloc (.cells #[.int .i64 k, .string s] 37)) 29
    rwa [World.size_alloc] at this
  have hB2 : Below w.heap.size w W2 := by rw [hW2]; exact ((Below.refl _ w).alloc (Nat.le_refl _) _).alloc (by simp) _
  have c0 : W2.cell? ⟨w.heap.size, 0, none⟩ = some (.int .i64 k) := by rw [hW2]; simp
  have c1 : W2.cell? ⟨w.heap.size, 1, none⟩ = some (.string s) := by rw [hW2]; simp
  have hr1 := str_new (k : Int) (by omega) (by omega) W2
  simp only [Int.toNat_natCast, hsz] at hr1
  dsimp only [Z8] at hW2
  go_enter Tryz.func71, Tryz.ntmps71
  go_wp2_with fail
  rw [← hW2]
  clear hW2
  refine (hisk _).mono ?_
  rintro e u ⟨rfl, hu⟩
  obtain rfl := hu.symm
  clear hu hisk
  go_wp2_with fail
  refine (hn _).mono ?_
  rintro e w2 ⟨rfl, hb2⟩
  have hb1 : Below W2.heap.size W2 w2 := ((Below.refl _ W2).alloc (Nat.le_refl _) _).trans (hb2.mono (by simp))
  have hX2 := hX.below hb1 (by omega)
  obtain ⟨e0, e1, e2, e3, e4, e5, e6, e7⟩ := I8.cells (b0 := 0) (b1 := 0) (b2 := 0) (b3 := 0) (b4 := 0) (b5 := 0) (b6 := 0) (b7 := 0) hX2
  obtain ⟨f0, f1, f2, f3, f4, f5, f6, f7⟩ := hX2.free
  have HB2 : Hid (Below w.heap.size w (set8 w2 (w.heap.size + 1) b0 b1 b2 b3 b4 b5 b6 b7)) := below_set8 (hB2.trans (hb1.mono (by omega))) (by omega) _ _ _ _ _ _ _ _
  clear hX hX2 hb2 hb1 hB2 hn hr1 hcat
  go_wp2_with fail
  refine bodyPost_ret (v := .tuple #[.agg #[B b0, B b1, B b2, B b3, B b4, B b5, B b6, B b7], .int .i64 0]) ?_ rfl ⟨rfl, HB2.out⟩
  have hres : Tryz.f71.results = #[.cell 2 29, .tmp 3] := by kernel_rfl
  simp only [results, hres]
  go_simp
  exact ⟨rfl, rfl, rfl, rfl, rfl, rfl, rfl, rfl⟩

set_option maxHeartbeats 1000000 in
theorem rpid_kind (k : Int) (s : ByteArray) (w : World) (hk : kB k = false) :
    Calls Tryz.prog 71 #[.agg #[.int .i64 k, .string s]] w fun e w' => e = .returned (.tuple #[.agg ((List.replicate 8 0).map B).toArray, .int .i64 5]) ∧ Below w.heap.size w w' := by
  have hisk := fun W => rkind_any k W
  rw [hk] at hisk
  clear hk
  obtain ⟨W2, hW2⟩ : ∃ W2, W2 = (w.alloc (.cells #[.int .i64 k, .string s] 37)).alloc (.cells Z8 29) := ⟨_, rfl⟩
  have hX : I8 W2 (w.heap.size + 1) (List.replicate 8 0) := by
    rw [hW2]
    have := I8.new (w.alloc (.cells #[.int .i64 k, .string s] 37)) 29
    rwa [World.size_alloc] at this
  have hB2 : Below w.heap.size w W2 := by rw [hW2]; exact ((Below.refl _ w).alloc (Nat.le_refl _) _).alloc (by simp) _
  have c0 : W2.cell? ⟨w.heap.size, 0, none⟩ = some (.int .i64 k) := by rw [hW2]; simp
  have c1 : W2.cell? ⟨w.heap.size, 1, none⟩ = some (.string s) := by rw [hW2]; simp
  dsimp only [Z8] at hW2
  obtain ⟨e0, e1, e2, e3, e4, e5, e6, e7⟩ := I8.cells (b0 := 0) (b1 := 0) (b2 := 0) (b3 := 0) (b4 := 0) (b5 := 0) (b6 := 0) (b7 := 0) hX
  obtain ⟨f0, f1, f2, f3, f4, f5, f6, f7⟩ := hX.free
  have HB2 : Hid (Below w.heap.size w (set8 W2 (w.heap.size + 1) 0 0 0 0 0 0 0 0)) := below_set8 hB2 (by omega) _ _ _ _ _ _ _ _
  clear hX hB2
  go_enter Tryz.func71, Tryz.ntmps71
  go_wp2_with fail
  rw [← hW2]
  clear hW2
  refine (hisk _).mono ?_
  rintro e u ⟨rfl, hu⟩
  obtain rfl := hu.symm
  clear hu hisk
  go_wp2_with fail
  refine bodyPost_ret (v := .tuple #[.agg #[B 0, B 0, B 0, B 0, B 0, B 0, B 0, B 0], .int .i64 5]) ?_ rfl ⟨rfl, HB2.out⟩
  have hres : Tryz.f71.results = #[.cell 2 29, .tmp 3] := by kernel_rfl
  simp only [results, hres]
  go_simp
  rfl

set_option maxHeartbeats 1000000 in
theorem rpid_large (k : Int) (s : ByteArray) (w : World) (hk : kB k = true) (hs : 4096 < s.size) (hs2 : s.size ≤ 9223372036854775807) :
    Calls Tryz.prog 71 #[.agg #[.int .i64 k, .string s]] w fun e w' => e = .returned (.tuple #[.agg ((List.replicate 8 0).map B).toArray, .int .i64 2]) ∧ Below w.heap.size w w' := by
  have hisk := fun W => rkind_any k W
  rw [hk] at hisk
  clear hk
  obtain ⟨W2, hW2⟩ : ∃ W2, W2 = (w.alloc (.cells #[.int .i64 k, .string s] 37)).alloc (.cells Z8 29) := ⟨_, rfl⟩
  have hX : I8 W2 (w.heap.size + 1) (List.replicate 8 0) := by
    rw [hW2]
    have := I8.new (w.alloc (.cells #[.int .i64 k, .string s] 37)) 29
    rwa [World.size_alloc] at this
  have hB2 : Below w.heap.size w W2 := by rw [hW2]; exact ((Below.refl _ w).alloc (Nat.le_refl _) _).alloc (by simp) _
  have c0 : W2.cell? ⟨w.heap.size, 0, none⟩ = some (.int .i64 k) := by rw [hW2]; simp
  have c1 : W2.cell? ⟨w.heap.size, 1, none⟩ = some (.string s) := by rw [hW2]; simp
  dsimp only [Z8] at hW2
  obtain ⟨e0, e1, e2, e3, e4, e5, e6, e7⟩ := I8.cells (b0 := 0) (b1 := 0) (b2 := 0) (b3 := 0) (b4 := 0) (b5 := 0) (b6 := 0) (b7 := 0) hX
  obtain ⟨f0, f1, f2, f3, f4, f5, f6, f7⟩ := hX.free
  have HB2 : Hid (Below w.heap.size w (set8 W2 (w.heap.size + 1) 0 0 0 0 0 0 0 0)) := below_set8 hB2 (by omega) _ _ _ _ _ _ _ _
  clear hX hB2
  go_enter Tryz.func71, Tryz.ntmps71
  go_wp2_with fail
  rw [← hW2]
  clear hW2
  refine (hisk _).mono ?_
  rintro e u ⟨rfl, hu⟩
  obtain rfl := hu.symm
  clear hu hisk
  go_wp2_with fail
  refine bodyPost_ret (v := .tuple #[.agg #[B 0, B 0, B 0, B 0, B 0, B 0, B 0, B 0], .int .i64 2]) ?_ rfl ⟨rfl, HB2.out⟩
  have hres : Tryz.f71.results = #[.cell 2 29, .tmp 3] := by kernel_rfl
  simp only [results, hres]
  go_simp
  rfl

/-- what the document's ID of a blob is -/
theorem rpid_any (b : Blb) (w : World) (hb : b.bytes.size ≤ 9223372036854775807) :
    Calls Tryz.prog 71 #[blV b] w fun e w' => e = .returned (.tuple #[.agg ((idOr b).map B).toArray, .int .i64 (Pk.bErr b.p)]) ∧ Below w.heap.size w w' := by
  obtain ⟨k, s⟩ := b
  have hsz : s.data.toList.length = s.size := (Lib.size_eq s).symm
  by_cases hk : kB k = true
  · have hk' : k = 1 ∨ k = 2 ∨ k = 3 := kB_of.1 hk
    by_cases hs : s.size ≤ 4096
    · have he : Pk.bErr (Blb.p ⟨k, s⟩) = 0 := by
        show (if k = 1 ∨ k = 2 ∨ k = 3 then (if 4096 < s.data.toList.length then (2 : Int) else 0) else 5) = 0
        rw [if_pos hk', if_neg (by omega)]
      have hi : idOr ⟨k, s⟩ = Nm.low 8 (Mx.narrow 64 (UInt8.ofNat k.toNat :: s.data.toList)) := by rw [idOr, if_pos he]; rfl
      obtain ⟨b0, b1, b2, b3, b4, b5, b6, b7, hL⟩ := eight _ (idOr_length ⟨k, s⟩)
      obtain ⟨n, rfl⟩ : ∃ n : Nat, k = (n : Int) := ⟨k.toNat, by rcases hk' with rfl | rfl | rfl <;> rfl⟩
      have hn3 : n ≤ 3 := by rcases hk' with h | h | h <;> omega
      rw [he, hL]
      refine rpid_of b0 b1 b2 b3 b4 b5 b6 b7 n s w hk hn3 hs fun W => ?_
      have := rid_any ⟨(UInt8.ofNat n :: s.data.toList).toArray⟩ W (by rw [Lib.size_eq]; simp only [List.length_cons]; omega)
      rw [show Nm.low 8 (Mx.narrow 64 (⟨(UInt8.ofNat n :: s.data.toList).toArray⟩ : ByteArray).data.toList) = [b0, b1, b2, b3, b4, b5, b6, b7] from by rw [← hL, hi]; rfl] at this
      exact this
    · have he : Pk.bErr (Blb.p ⟨k, s⟩) = 2 := by
        show (if k = 1 ∨ k = 2 ∨ k = 3 then (if 4096 < s.data.toList.length then (2 : Int) else 0) else 5) = 2
        rw [if_pos hk', if_pos (by omega)]
      rw [idOr, if_neg (by omega), he]
      exact rpid_large k s w hk (by omega) hb
  · have he : Pk.bErr (Blb.p ⟨k, s⟩) = 5 := by
      show (if k = 1 ∨ k = 2 ∨ k = 3 then (if 4096 < s.data.toList.length then (2 : Int) else 0) else 5) = 5
      rw [if_neg (fun h : k = 1 ∨ k = 2 ∨ k = 3 => hk (kB_of.2 h))]
    rw [idOr, if_neg (by omega), he]
    exact rpid_kind k s w (by simpa using hk)
end Go.Proofs.YtimdioacmojkeaaGreatDoor
