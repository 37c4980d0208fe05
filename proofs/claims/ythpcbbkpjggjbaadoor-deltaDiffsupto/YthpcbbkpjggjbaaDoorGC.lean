/-
  A Roll as it lies in memory, and what stays of it when a cell is written.
  What Push of package roll answers.
  What lumkeep.pushed answers.
  What has been pushed: the window holds the last sixteen bytes, and the sum is theirs.
  The first piece of a text, and pieces with their places (no Go in it).
  What ruledBytes of package chunk answers.
  A loop over a function that keeps variables of its own in memory: what is kept, the contract of such a function, and the loop over it.
  What the functions tell that ruled of package chunk answers.
  What Cut of package lumref answers.
  What the functions tell that pieces of package chunk answers.
  What Cut of package chunk answers.
  What Fixed of package chunk, and of package lumref, answers.
  P47: what WayOK and cut of package walk answer.
  Rows of things that themselves have rows: what lies in memory, by a relation; what stays while rows of one type grow.
  Nodes as they lie in memory: rows of things that have rows themselves, in blocks that stay.
  P47, P48: what stays while a world is planted or reaped; the planter as it lies in memory.
  The library's contracts at this program: strings_LastIndex_one (laid by the guide's own tools, written out in plain words).
  P47: what parent, lastName and tell of package walk answer.
  The library's contracts at this program: slices_Contains_string, slices_Contains_string_empty (laid by the guide's own tools, written out in plain words).
  P46: what checkItem and Check of package walk answer.
  P46: what Check of package walk answers.
  Package delta: what Diff answers.
  Package delta: what sideBySide answers of two rows of api.Item and api.Edit.
  Package delta: what hasItsItem and Check answer.
  Package delta: what Apply answers.
  The statements' small world as it lies in memory.
  Two edits compared; slices.Equal over two rows of edits: are they the same?
  What the statements of package delta lean on: applied; what is other between nothing and the small world.
-/
import Derived.Test.YthpcbbkpjggjbaaDoorGB
import Derived.Deep.MidRow
import Derived.Lib.LazyBuf
import Derived.Deep.Cut
import Derived.Deep.RegionWith
import Derived.Test.YthpcbbkpjggjbaaDoorGA
import Derived.RangeFuncNested
import Derived.RangeFuncBound
import Derived.RangeFuncLeaves
import Derived.WalkKit
import Derived.RangeFuncCalls
import Derived.Shelf.Abstract
import Derived.Shelf.RegionOpen
import Derived.OwnWalkIn
import Derived.TacticsInMore
import Derived.LoopNIn
import Derived.LoopIn
import Derived.Maps.AppendAt
import Derived.Laws.AppendOwn
import Derived.Shelf.Strings.LastIndex
import Derived.Test.YthpcbbkpjggjbaaDoorProg
import Derived.OwnWalk
import Derived.Deep.AppendLies
import Derived.Deep.RegionLaw
import Derived.Shelf.Slices.Turned
import Derived.BigQuiet
import Derived.Deep.CutBlock
import Derived.Deep.DeepCutAuto

namespace Go.Proofs.YthpcbbkpjggjbaaDoor
open Go.RowKit

/-- the cells of a Roll -/
def rollCells (l : List UInt8) (i : Int) (o : Nat) : List Value := l.map B ++ [.int .i64 i, .int .u32 o]
theorem rollCells_length {l : List UInt8} (h : l.length = 16) (i : Int) (o : Nat) : (rollCells l i o).length = 18 := by
  rw [rollCells, List.length_append, List.length_map, h]; rfl
theorem rollCells_lo {l : List UInt8} (h : l.length = 16) (i : Int) (o : Nat) {k : Nat} (hk : k < 16) : (rollCells l i o)[k]? = some (B (l.getD k 0)) := by
  rw [rollCells, List.getElem?_append_left (by simpa [h] using hk), List.getElem?_map, List.getElem?_eq_getElem (by omega), List.getD_eq_getElem?_getD, List.getElem?_eq_getElem (by omega)]
  rfl
theorem rollCells_16 {l : List UInt8} (h : l.length = 16) (i : Int) (o : Nat) : (rollCells l i o)[16]? = some (.int .i64 i) := by
  rw [rollCells, List.getElem?_append_right (by simp [h]), List.length_map, h]; rfl
theorem rollCells_17 {l : List UInt8} (h : l.length = 16) (i : Int) (o : Nat) : (rollCells l i o)[17]? = some (.int .u32 o) := by
  rw [rollCells, List.getElem?_append_right (by simp [h]), List.length_map, h]; rfl
theorem rollCells_one (l : List UInt8) (i : Int) (o : Nat) : (rollCells l i o).toArray.all (·.oneCell') = true := by
  apply all_oneCell_toArray
  intro v hv
  rw [rollCells, List.mem_append] at hv
  rcases hv with hv | hv
  · obtain ⟨b, _, rfl⟩ := List.mem_map.1 hv; rfl
  · simp only [List.mem_cons, List.not_mem_nil, or_false] at hv
    rcases hv with rfl | rfl <;> rfl

/-- block G holds a Roll, all of it may be written, and 18 cells of the block behind it too; below block B the world is as w was -/
structure RS (A G : Nat) (w W : World) (l : List UInt8) (i : Int) (o : Nat) : Prop where
  len : l.length = 16
  rng : W.rangeAt G 0 (rollCells l i o)
  fz : ∀ j, j < 18 → W.frozen? ⟨G, j, none⟩ = false
  res : W.there (G + 1) 0 18
  bel : Below A w W
  low : A ≤ G

theorem RS.lo {A G : Nat} {w W : World} {l : List UInt8} {i : Int} {o : Nat} (h : RS A G w W l i o) {k : Nat} (hk : k < 16) : W.cell? ⟨G, k, none⟩ = some (.int .u8 ((l.getD k 0).toNat : Int)) := by
  have := h.rng k _ (rollCells_lo h.len i o hk)
  simpa [B] using this
theorem RS.c16 {A G : Nat} {w W : World} {l : List UInt8} {i : Int} {o : Nat} (h : RS A G w W l i o) : W.cell? ⟨G, 16, none⟩ = some (.int .i64 i) := by
  have := h.rng 16 _ (rollCells_16 h.len i o)
  simpa using this
theorem RS.c17 {A G : Nat} {w W : World} {l : List UInt8} {i : Int} {o : Nat} (h : RS A G w W l i o) : W.cell? ⟨G, 17, none⟩ = some (.int .u32 o) := by
  have := h.rng 17 _ (rollCells_17 h.len i o)
  simpa using this
theorem RS.drew {A G : Nat} {w W : World} {l : List UInt8} {i : Int} {o : Nat} (h : RS A G w W l i o) : RS A G w W.drew l i o :=
  ⟨h.len, fun j v hv => by simpa using h.rng j v hv, fun j hj => by simpa using h.fz j hj, fun j hj => by simpa using h.res j hj, h.bel.drew, h.low⟩
/-- one cell written -/
theorem RS.write {A G : Nat} {w W : World} {l l' : List UInt8} {i i' : Int} {o o' k : Nat} {v : Value} (h : RS A G w W l i o) (hk : k < 18) (hl : l'.length = 16) (hv : (rollCells l' i' o')[k]? = some v)
    (hn : ∀ j, j ≠ k → (rollCells l' i' o')[j]? = (rollCells l i o)[j]?) : RS A G w (W.setCell ⟨G, k, none⟩ v) l' i' o' := by
  have hx : ∃ u, (rollCells l i o)[k]? = some u := ⟨_, List.getElem?_eq_getElem (by rw [rollCells_length h.len]; exact hk)⟩
  obtain ⟨u, hu⟩ := hx
  have hc : W.cell? ⟨G, k, none⟩ = some u := by simpa using h.rng k u hu
  refine ⟨hl, ?_, ?_, ?_, h.bel.setCell h.low _, h.low⟩
  · intro j x hj
    rw [Nat.zero_add]
    by_cases e : j = k
    · subst e
      rw [World.cell?_setCell_same _ _ _ hc, ← hv, hj]
    · rw [World.cell?_setCell_other _ _ _ _ (by intro q; exact e (congrArg Addr.off q).symm)]
      rw [hn j e] at hj
      simpa using h.rng j x hj
  · intro j hj
    simpa using h.fz j hj
  · intro j hj
    rw [World.cell?_setCell_other _ _ _ _ (by intro q; have := congrArg Addr.block q; simp at this)]
    simpa using h.res j hj
theorem RS.sum {A G : Nat} {w W : World} {l : List UInt8} {i : Int} {o : Nat} (h : RS A G w W l i o) (o' : Nat) : RS A G w (W.setCell ⟨G, 17, none⟩ (.int .u32 (o' : Int))) l i o' := by
  refine h.write (by omega) h.len (rollCells_17 h.len i o') fun j hj => ?_
  rcases Nat.lt_or_ge j 16 with h1 | h1
  · rw [rollCells_lo h.len i o h1, rollCells_lo h.len i o' h1]
  · rcases Nat.lt_or_ge j 17 with h2 | h2
    · rw [show j = 16 from by omega, rollCells_16 h.len, rollCells_16 h.len]
    · rw [List.getElem?_eq_none (by rw [rollCells_length h.len]; omega), List.getElem?_eq_none (by rw [rollCells_length h.len]; omega)]
theorem RS.place {A G : Nat} {w W : World} {l : List UInt8} {i : Int} {o : Nat} (h : RS A G w W l i o) (i' : Int) : RS A G w (W.setCell ⟨G, 16, none⟩ (.int .i64 i')) l i' o := by
  refine h.write (by omega) h.len (rollCells_16 h.len i' o) fun j hj => ?_
  rcases Nat.lt_or_ge j 16 with h1 | h1
  · rw [rollCells_lo h.len i o h1, rollCells_lo h.len i' o h1]
  · rcases Nat.lt_or_ge j 18 with h2 | h2
    · rw [show j = 17 from by omega, rollCells_17 h.len, rollCells_17 h.len]
    · rw [List.getElem?_eq_none (by rw [rollCells_length h.len]; omega), List.getElem?_eq_none (by rw [rollCells_length h.len]; omega)]
theorem RS.byte {A G : Nat} {w W : World} {l : List UInt8} {i : Int} {o : Nat} (h : RS A G w W l i o) {k : Nat} (hk : k < 16) (b : UInt8) : RS A G w (W.setCell ⟨G, k, none⟩ (.int .u8 (b.toNat : Int))) (l.set k b) i o := by
  have hl : (l.set k b).length = 16 := by rw [List.length_set]; exact h.len
  refine h.write (by omega) hl (by rw [rollCells_lo hl i o hk, List.getD_eq_getElem?_getD, List.getElem?_set_self (by rw [h.len]; exact hk)]; rfl) fun j hj => ?_
  rcases Nat.lt_or_ge j 16 with h1 | h1
  · rw [rollCells_lo hl i o h1, rollCells_lo h.len i o h1, List.getD_eq_getElem?_getD, List.getD_eq_getElem?_getD, List.getElem?_set_ne (by omega)]
  · rcases Nat.lt_or_ge j 17 with h2 | h2
    · rw [show j = 16 from by omega, rollCells_16 h.len, rollCells_16 hl]
    · rcases Nat.lt_or_ge j 18 with h3 | h3
      · rw [show j = 17 from by omega, rollCells_17 h.len, rollCells_17 hl]
      · rw [List.getElem?_eq_none (by rw [rollCells_length hl]; omega), List.getElem?_eq_none (by rw [rollCells_length h.len]; omega)]
end Go.Proofs.YthpcbbkpjggjbaaDoor

namespace Go.Proofs.YthpcbbkpjggjbaaDoor
open Go.RowKit
end Go.Proofs.YthpcbbkpjggjbaaDoor

namespace Go.Proofs.YthpcbbkpjggjbaaDoor
open Go.RowKit

/-- a Roll, as data -/
structure Rst where
  l : List UInt8
  i : Nat
  o : Nat
def Rst.push (r : Rst) (b : UInt8) : Rst := ⟨r.l.set r.i b, (r.i + 1) % 16, Rl.pushS r.o (r.l.getD r.i 0).toNat b.toNat⟩
def Rst.all (r : Rst) (s : List UInt8) : Rst := s.foldl Rst.push r
structure Rst.Ok (r : Rst) : Prop where
  len : r.l.length = 16
  low : r.i < 16
  sum : r.o < 2147483648
theorem Rst.Ok.push {r : Rst} (h : r.Ok) (b : UInt8) : (r.push b).Ok :=
  ⟨by rw [Rst.push, List.length_set]; exact h.len, Nat.mod_lt _ (by omega), Rl.pushS_lt h.sum (Rl.byte_lt _) (Rl.byte_lt _)⟩
theorem Rst.Ok.all {r : Rst} (h : r.Ok) (s : List UInt8) : (r.all s).Ok := by
  induction s generalizing r with
  | nil => exact h
  | cons b s ih => exact ih (h.push b)
def Rst.cells (r : Rst) : List Value := rollCells r.l r.i r.o
theorem Rst.all_snoc (r : Rst) (s : List UInt8) (b : UInt8) : r.all (s ++ [b]) = (r.all s).push b := by
  rw [Rst.all, List.foldl_append]; rfl
theorem Rst.all_take (r : Rst) (s : ByteArray) (k : Nat) (h : k < s.size) : r.all (s.data.toList.take (k + 1)) = (r.all (s.data.toList.take k)).push s[k] := by
  rw [take_snoc s k h, Rst.all_snoc]

theorem RS.past {A G : Nat} {w W W' : World} {l : List UInt8} {i : Int} {o : Nat} (h : RS A G w W l i o) (hb : Below W.heap.size W W') : RS A G w W' l i o := by
  have hg : G < W.heap.size := World.block_lt_of_cell? W _ h.c16
  have hg1 : G + 1 < W.heap.size := by
    obtain ⟨u, hu⟩ := Option.isSome_iff_exists.1 (h.res 0 (by omega)).1
    exact World.block_lt_of_cell? W _ hu
  refine ⟨h.len, ?_, ?_, ?_, h.bel.trans (hb.mono (by have := h.low; omega)), h.low⟩
  · intro j v hv
    rw [hb.cell (p := ⟨G, 0 + j, none⟩) hg]
    exact h.rng j v hv
  · intro j hj
    rw [hb.frozen (p := ⟨G, j, none⟩) hg]
    exact h.fz j hj
  · intro j hj
    rw [hb.cell (p := ⟨G + 1, 0 + j, none⟩) hg1, hb.frozen (p := ⟨G + 1, 0 + j, none⟩) hg1]
    exact h.res j hj
theorem RS.whole {A G : Nat} {w W : World} {l l' : List UInt8} {i i' : Int} {o o' : Nat} (h : RS A G w W l i o) (hl : l'.length = 16) : RS A G w (W.setCells G 0 (rollCells l' i' o')) l' i' o' := by
  have hlen := rollCells_length hl i' o'
  have ht : W.there G 0 (rollCells l' i' o').length := by
    intro j hj
    rw [hlen] at hj
    rw [Nat.zero_add]
    refine ⟨?_, h.fz j hj⟩
    have := h.rng.isSome j (by rw [rollCells_length h.len]; exact hj)
    simpa using this
  refine ⟨hl, World.rangeAt_setCells_same W G 0 _ ht, ?_, World.there_setCells h.res G 0 _, below_setCells h.low _ _ _ h.bel, h.low⟩
  intro j hj
  rw [World.frozen?_setCells]
  exact h.fz j hj
end Go.Proofs.YthpcbbkpjggjbaaDoor

namespace Go.Proofs.YthpcbbkpjggjbaaDoor
open Go.RowKit

theorem drop_past (l : List UInt8) {n : Nat} (h : l.length ≤ n) : l.drop n = [] := List.drop_eq_nil_of_le h
def Rst.zero : Rst := ⟨List.replicate 16 0, 0, 0⟩
/-- the window, the oldest byte first -/
def Rst.win (r : Rst) : List UInt8 := r.l.drop r.i ++ r.l.take r.i
theorem win_push {l : List UInt8} {i : Nat} (hl : l.length = 16) (hi : i < 16) (b : UInt8) :
    (l.set i b).drop ((i + 1) % 16) ++ (l.set i b).take ((i + 1) % 16) = (l.drop i ++ l.take i).tail ++ [b] := by
  have hd : l.drop i = l[i] :: l.drop (i + 1) := List.drop_eq_getElem_cons (by omega)
  rw [hd, List.cons_append, List.tail_cons]
  by_cases h : i = 15
  · subst h
    rw [show (15 + 1) % 16 = 0 from rfl, List.drop_zero, List.take_zero, List.append_nil, drop_past l (by omega), List.nil_append]
    rw [List.set_eq_take_append_cons_drop, if_pos (by omega), drop_past l (by omega)]
  · rw [Nat.mod_eq_of_lt (by omega), List.append_assoc]
    congr 1
    · rw [List.drop_set_of_lt (by omega)]
    · rw [List.take_succ_eq_append_getElem (by rw [List.length_set]; omega), List.take_set_of_le (by omega), List.getElem_set_self]
theorem win_head {l : List UInt8} {i : Nat} (hl : l.length = 16) (hi : i < 16) : l.drop i ++ l.take i = l.getD i 0 :: (l.drop i ++ l.take i).tail := by
  have hd : l.drop i = l[i] :: l.drop (i + 1) := List.drop_eq_getElem_cons (by omega)
  rw [hd, List.cons_append, List.tail_cons, List.getD_eq_getElem?_getD, List.getElem?_eq_getElem (by omega)]
  rfl
/-- of what was pushed -/
structure Rst.Of (r : Rst) (p : List UInt8) : Prop where
  ok : r.Ok
  win : r.win = Rl.lastL p
  sum : r.o = Rl.ofL p
theorem Rst.Of.zero : Rst.zero.Of [] := ⟨⟨rfl, by decide, by decide⟩, rfl, rfl⟩
theorem Rst.Of.push {r : Rst} {p : List UInt8} (h : r.Of p) (b : UInt8) : (r.push b).Of (p ++ [b]) := by
  have hw : (r.push b).win = Rl.lastL (p ++ [b]) := by
    rw [Rl.lastL_snoc, ← h.win]
    exact win_push h.ok.len h.ok.low b
  refine ⟨h.ok.push b, hw, ?_⟩
  have h1 : Rl.lastL p = (r.l.getD r.i 0) :: (Rl.lastL p).tail := by
    rw [← h.win]; exact win_head h.ok.len h.ok.low
  have h2 := Rl.lastL_length p
  show Rl.mxk 8 (r.o ^^^ Rl.mxk 120 (r.l.getD r.i 0).toNat) ^^^ b.toNat = _
  rw [h.sum, ← Rl.lastL_sum, ← Rl.lastL_sum, Rl.lastL_snoc]
  conv => lhs; rw [h1]
  exact Rl.ofA_push _ b _ (by rw [List.length_tail]; omega)
theorem Rst.Of.all {r : Rst} {p : List UInt8} (h : r.Of p) (s : List UInt8) : (r.all s).Of (p ++ s) := by
  induction s generalizing r p with
  | nil => rw [List.append_nil]; exact h
  | cons b s ih =>
    have := ih (h.push b)
    rw [List.append_assoc] at this
    exact this
theorem ofL_forgets (s t : List UInt8) (h : 16 ≤ t.length) : Rl.ofL (s ++ t) = Rl.ofL t := by
  rw [Rl.ofL, Rl.ofL, List.length_append, List.drop_append, drop_past s (by omega), List.nil_append, show s.length + t.length - 16 - s.length = t.length - 16 from by omega]
end Go.Proofs.YthpcbbkpjggjbaaDoor

namespace Go.Proofs.YthpcbbkpjggjbaaDoor
namespace Ck

/-- n is the length of the first piece, 0 if there is none -/
structure First (E : Bs → Bool) (t : Bs) (n : Nat) : Prop where
  hit : n = 0 ∨ (1 ≤ n ∧ n ≤ t.length ∧ E (t.take n) = true)
  miss : ∀ k, 1 ≤ k → k ≤ t.length → (n = 0 ∨ k < n) → E (t.take k) = false
theorem first_ex (E : Bs → Bool) (t : Bs) : ∃ n, First E t n := by
  have key : ∀ m, (∃ n, 1 ≤ n ∧ n ≤ m ∧ E (t.take n) = true ∧ ∀ k, 1 ≤ k → k < n → E (t.take k) = false) ∨ (∀ k, 1 ≤ k → k ≤ m → E (t.take k) = false) := by
    intro m
    induction m with
    | zero => exact .inr fun k h1 h2 => by omega
    | succ m ih =>
      rcases ih with ⟨n, h1, h2, h3, h4⟩ | h
      · exact .inl ⟨n, h1, by omega, h3, h4⟩
      · cases e : E (t.take (m + 1)) with
        | true => exact .inl ⟨m + 1, by omega, Nat.le_refl _, e, fun k h1 h2 => h k h1 (by omega)⟩
        | false =>
          refine .inr fun k h1 h2 => ?_
          by_cases hk : k = m + 1
          · rw [hk]; exact e
          · exact h k h1 (by omega)
  rcases key t.length with ⟨n, h1, h2, h3, h4⟩ | h
  · exact ⟨n, .inr ⟨h1, h2, h3⟩, fun k a _ c => h4 k a (by omega)⟩
  · exact ⟨0, .inl rfl, fun k a b _ => h k a b⟩
variable {E : Bs → Bool}
theorem run_before {t : Bs} {n : Nat} (h : First E t n) : ∀ k, k ≤ t.length → (n = 0 ∨ k < n) → run E ([], []) (t.take k) = ([], t.take k) := by
  intro k
  induction k with
  | zero => intro _ _; rfl
  | succ k ih =>
    intro h1 h2
    rw [List.take_succ_eq_append_getElem (by omega), run_snoc, ih (by omega) (by omega), step, ← List.take_succ_eq_append_getElem (by omega), h.miss (k + 1) (by omega) h1 h2]
    rfl
theorem pieces_first_none {t : Bs} (h : First E t 0) : pieces E t = ([], t) := by
  have := run_before h t.length (Nat.le_refl _) (.inl rfl)
  rw [List.take_length] at this
  exact this
theorem pieces_first {t : Bs} {n : Nat} (h : First E t n) (hn : 0 < n) : pieces E t = (t.take n :: (pieces E (t.drop n)).1, (pieces E (t.drop n)).2) := by
  rcases h.hit with h0 | ⟨h1, h2, h3⟩
  · omega
  · obtain ⟨m, rfl⟩ : ∃ m, n = m + 1 := ⟨n - 1, by omega⟩
    have hr : run E ([], []) (t.take (m + 1)) = ([t.take (m + 1)], []) := by
      rw [List.take_succ_eq_append_getElem (by omega), run_snoc, run_before h m (by omega) (.inr (by omega)), step, ← List.take_succ_eq_append_getElem (by omega), h3]
      rfl
    have : pieces E t = run E ([], []) (t.take (m + 1) ++ t.drop (m + 1)) := by rw [List.take_append_drop]; rfl
    rw [this, run_append, hr, run_from]
    rfl

/-- the pieces, with the places where they begin -/
def withAt (a : Nat) : List Bs → List (Nat × Bs)
  | [] => []
  | p :: ps => (a, p) :: withAt (a + p.length) ps
theorem withAt_append (l m : List Bs) : ∀ a, withAt a (l ++ m) = withAt a l ++ withAt (a + l.flatten.length) m := by
  induction l with
  | nil => intro a; simp [withAt]
  | cons p l ih =>
    intro a
    rw [List.cons_append, withAt, ih, withAt, List.cons_append, List.flatten_cons, List.length_append, Nat.add_assoc]
theorem withAt_snd (l : List Bs) : ∀ a, (withAt a l).map (·.2) = l := by
  induction l with
  | nil => intro a; rfl
  | cons p l ih => intro a; rw [withAt, List.map_cons, ih]
theorem withAt_length (l : List Bs) : ∀ a, (withAt a l).length = l.length := by
  intro a
  rw [← List.length_map (f := fun x : Nat × Bs => x.2), withAt_snd]
/-- where the next one begins -/
theorem withAt_next {l : List Bs} {a : Nat} {pre : List (Nat × Bs)} {x : Nat × Bs} {post : List (Nat × Bs)} (h : withAt a l = pre ++ x :: post) : x.1 = a + (pre.map (·.2)).flatten.length := by
  induction pre generalizing a l with
  | nil =>
    cases l with
    | nil => simp [withAt] at h
    | cons p l =>
      rw [withAt, List.nil_append, List.cons.injEq] at h
      rw [← h.1]; simp
  | cons y pre ih =>
    cases l with
    | nil => simp [withAt] at h
    | cons p l =>
      rw [withAt, List.cons_append, List.cons.injEq] at h
      have := ih h.2
      rw [this, ← h.1]
      simp only [List.map_cons, List.flatten_cons, List.length_append]
      omega
end Ck
end Go.Proofs.YthpcbbkpjggjbaaDoor

namespace Go.Proofs.YthpcbbkpjggjbaaDoor
open Go.RowKit
end Go.Proofs.YthpcbbkpjggjbaaDoor

namespace Go.Proofs.YthpcbbkpjggjbaaDoor
open Go.RowKit

theorem Kept.putObj {p : Nat → Prop} {A B : World} (h : Kept p A B) {r : Nat} (hr : ¬ p r) (o : Obj) : Kept p A (B.putObj r o) :=
  h.trans ⟨rfl, rfl, rfl, by simp, fun k _ hk => World.putObj_heap_other (fun e => hr (by rw [← e]; exact hk))⟩
theorem Kept.boxed {p : Nat → Prop} {A B : World} (h : Kept p A B) {k : Nat} {t : TypeId} {v : Value} (hk : p k) (ho : Boxed A k t v) : Boxed B k t v := h.obj hk ho

theorem RoundIn.anyDepth' {m m' : Nat} {P : Program} {l : Nat} {f : FuncId} {tmps : Array Value} {assign body : Code} {w : World} {R : Ending → World → Prop}
    (h : RoundIn Fence.wide m P l f tmps assign body w R) : RoundIn Fence.wide m' P l f tmps assign body w R := ⟨h.1, fun c cs _ => h.2 c cs (room_wide _)⟩
theorem YieldAt.anyDepth' {m : Nat} (m' : Nat) {P : Program} {l : Nat} {args : Array Value} {W : World} {R : Ending → World → Prop} (h : YieldAt Fence.wide m P l args W R) : YieldAt Fence.wide m' P l args W R := by
  obtain ⟨fn, tmps, assign, body, hy, hR⟩ := h
  exact ⟨fn, tmps, assign, body, hy, RoundIn.anyDepth' hR⟩

/-- Entered at W, the function g (with lb captured) tells xs in their order, till it is told to stop. It has d blocks of its own, the first that it lays; a round must keep these, and those of Kp. -/
def Tells {α : Type} (P : Program) (g : Nat) (lb : Array Value) (encs : α → Array Value) (xs : List α) (d : Nat) (Kp : Nat → Prop) (W : World) : Prop :=
  ∀ (l : Nat) (J Jx : List α → World → Prop),
    (∀ pre A B, W.heap.size ≤ A.heap.size → J pre A → Kept (fun k => ¬ (W.heap.size ≤ k ∧ k < W.heap.size + d)) A B → J pre B) →
    (∀ pre A B, W.heap.size ≤ A.heap.size → Jx pre A → Kept (fun k => ¬ (W.heap.size ≤ k ∧ k < W.heap.size + d)) A B → Jx pre B) →
    (∀ pre x W1, W.heap.size + d ≤ W1.heap.size → pre ++ [x] <+: xs → J pre W1 → YieldAt Fence.wide 0 P l (encs x) W1 fun e W' =>
      Kept (fun k => Kp k ∨ (W.heap.size ≤ k ∧ k < W.heap.size + d)) W1 W' ∧ ((e = .returned (.bool true) ∧ J (pre ++ [x]) W') ∨ (e = .returned (.bool false) ∧ Jx (pre ++ [x]) W'))) →
    J [] W →
    Calls P g (#[.func (.yield l) #[] #[]] ++ lb) W fun e W' => (∃ v, e = .returned v) ∧ W.heap.size ≤ W'.heap.size ∧ (J xs W' ∨ ∃ pre, pre <+: xs ∧ Jx pre W')

/-- how a round's body may be left -/
def rfPost {α : Type} (Kk : Nat → Prop) (I : List α → World → Prop) (Ix : Code → List α → World → Prop) (xs : List α) (W : World) : Exit → Act → World → Prop
  | .normal, _, W' => Kept Kk W W' ∧ I xs W'
  | .ret, _, W' => Kept Kk W W' ∧ Ix .ret xs W'
  | .exit id, _, W' => Kept Kk W W' ∧ Ix (.exit id) xs W'
  | _, _, _ => False

/-- the loop over such a function -/
theorem rf_outer {α : Type} {P : Program} {n m : Nat} {g : Operand} {ps : Array Tmp} {assign body : Code} {Q : Exit → Act → World → Prop} {a : Act} {w : World} {gf : Nat} {lb : Array Value}
    (hg : a.eval g = .func (.func gf) #[] lb) (eg : ∀ args w, (callFunc gf args).run P w = .ok (.enter gf args) w)
    {encs : α → Array Value} {xs : List α} {d : Nat} {Kp : Nat → Prop}
    (hseq : ∀ W1, Below w.heap.size w W1 → W1.heap.size = w.heap.size + 2 → Tells P gf lb encs xs d Kp W1)
    (hK : ¬ Kp (w.heap.size + 1)) (hps : ∀ x, (encs x).size = ps.size)
    (I : List α → World → Prop) (Ix : Code → List α → World → Prop)
    (hI : ∀ pre A B, w.heap.size ≤ A.heap.size → I pre A → Kept (fun k => k ≠ w.heap.size + 1 ∧ ¬ (w.heap.size + 2 ≤ k ∧ k < w.heap.size + 2 + d)) A B → I pre B)
    (hIx : ∀ c pre A B, w.heap.size ≤ A.heap.size → Ix c pre A → Kept (fun k => k ≠ w.heap.size + 1 ∧ ¬ (w.heap.size + 2 ≤ k ∧ k < w.heap.size + 2 + d)) A B → Ix c pre B)
    (h0 : I [] w) (a₁ : α → Act)
    (hassign : ∀ (l : Nat) (x : α) (W : World) (Kq : Act → World → Prop), Kq (a₁ x) W →
      assign.wpIn (Fence.wide.inRound l) m P (Exit.then Kq (fun _ _ _ => False)) { tmps := (ps.zip (encs x)).foldl (fun t (p, v) => t.setIfInBounds p v) a.tmps, defers := [] } W)
    (hbody : ∀ (l : Nat) (pre : List α) (x : α) (W : World), l = w.heap.size + 1 → w.heap.size + 2 + d ≤ W.heap.size → pre ++ [x] <+: xs → I pre W →
      body.wpIn (Fence.wide.inRound l) m P (rfPost (fun k => k = w.heap.size ∨ k = w.heap.size + 1 ∨ (Kp k ∨ (w.heap.size + 2 ≤ k ∧ k < w.heap.size + 2 + d))) I Ix (pre ++ [x]) W) (a₁ x) W)
    (hdone : ∀ (W : World), w.heap.size + 2 ≤ W.heap.size → I xs W → W.heap[w.heap.size]? = some (.deferred (some [])) → Q .normal { a with defers := { target := .collected w.heap.size, args := #[] } :: a.defers } W)
    (hstop : ∀ (c : Code) (pre : List α) (W : World), w.heap.size + 2 ≤ W.heap.size → pre <+: xs → Ix c pre W → W.heap[w.heap.size]? = some (.deferred (some [])) → c.wpIn Fence.wide n P Q { a with defers := { target := .collected w.heap.size, args := #[] } :: a.defers } W) :
    (Code.rangeFunc g ps assign body).wpIn Fence.wide n P Q a w := by
  have hK' : ¬ (Kp (w.heap.size + 1) ∨ (w.heap.size + 2 ≤ w.heap.size + 1 ∧ w.heap.size + 1 < w.heap.size + 2 + d)) := fun h => h.elim hK (by omega)
  refine wpIn_rangeFunc fun fn hfn => ?_
  obtain ⟨rc, hrc⟩ : ∃ rc : LoopState → Option Code → Loop, rc = fun st pe => { state := st, pending := pe, fn, tmps := a.tmps, params := ps, assign, body, defers := w.heap.size } := ⟨_, rfl⟩
  have hsz : ((w.alloc (.deferred (some []))).alloc (.loop (rc .ready none))).heap.size = w.heap.size + 2 := by simp
  have hbl : Below w.heap.size w ((w.alloc (.deferred (some []))).alloc (.loop (rc .ready none))) := ((Below.refl _ w).alloc (Nat.le_refl _) _).alloc (by simp) _
  have hl1 : ((w.alloc (.deferred (some []))).alloc (.loop (rc .ready none))).heap[w.heap.size + 1]? = some (.loop (rc .ready none)) := by
    have := World.alloc_heap_new (w.alloc (.deferred (some []))) (.loop (rc .ready none)); rwa [World.size_alloc] at this
  have hk1 : ((w.alloc (.deferred (some []))).alloc (.loop (rc .ready none))).heap[w.heap.size]? = some (.deferred (some [])) :=
    (Below.heap_alloc _ _ _ (by simp)).trans (World.alloc_heap_new w _)
  have hin := run_enterLoop_outer (P := P) (w := w) fn a.tmps ps assign body
  rw [show ({ state := .ready, pending := none, fn, tmps := a.tmps, params := ps, assign, body, defers := w.heap.size } : Loop) = rc .ready none from by rw [hrc]] at hin
  generalize (w.alloc (.deferred (some []))).alloc (.loop (rc .ready none)) = W1 at hsz hbl hl1 hk1 hin
  have hst : ∀ {p : Nat → Prop} {A B : World} {k : Nat} {o : Obj}, Kept p A B → p k → A.heap[k]? = some o → B.heap[k]? = some o := fun h hp ho => h.obj hp ho
  have hx1 : ∀ k, k < w.heap.size + 2 → ¬ (w.heap.size + 2 ≤ k ∧ k < w.heap.size + 2 + d) := fun k hk hx => by omega
  refine ⟨w.heap.size + 1, [{ target := .collected w.heap.size, args := #[] }], W1, { target := .fn (.func gf) lb, args := #[.func (.yield (w.heap.size + 1)) #[] #[]] }, W1, gf,
    #[.func (.yield (w.heap.size + 1)) #[] #[]] ++ lb, W1, hin, ?_, fun _ _ => trivial, ?_, fun h => by simp [Fence.wide] at h, callsIn_wide.2 ?_⟩
  · simp only [resolve, hg]
    simp [go_sem]
  · simp [invoke, go_sem, eg]
  have hT := hseq W1 hbl hsz
  unfold Tells at hT
  rw [hsz] at hT
  refine (hT (w.heap.size + 1)
    (fun pre W => I pre W ∧ W.heap[w.heap.size + 1]? = some (.loop (rc .ready none)) ∧ W.heap[w.heap.size]? = some (.deferred (some [])))
    (fun pre W => ∃ c, Ix c pre W ∧ W.heap[w.heap.size + 1]? = some (.loop (rc .done (some c))) ∧ W.heap[w.heap.size]? = some (.deferred (some [])))
    ?_ ?_ ?_ ?_).mono ?_
  · rintro pre A B hA ⟨hi, hl, hk⟩ hkp
    exact ⟨hI pre A B (by omega) hi (hkp.mono fun k h => h.2), hst hkp (hx1 _ (by omega)) hl, hst hkp (hx1 _ (by omega)) hk⟩
  · rintro pre A B hA ⟨c, hi, hl, hk⟩ hkp
    exact ⟨c, hIx c pre A B (by omega) hi (hkp.mono fun k h => h.2), hst hkp (hx1 _ (by omega)) hl, hst hkp (hx1 _ (by omega)) hk⟩
  · -- one round
    rintro pre x W hW hpre ⟨hi, hl, hk⟩
    have hlt : w.heap.size + 1 < W.heap.size := (Array.getElem?_eq_some_iff.1 hl).1
    have hy := run_yield (P := P) (args := encs x) hl (by rw [hrc]; exact hps x)
    rw [hrc] at hy
    refine ⟨fn, _, assign, body, hy, RoundIn.anyDepth' (roundIn_of_wpIn (n := m) trivial (hassign _ x W _ ?_))⟩
    clear hy
    refine ⟨_, run_beginRound hl (by rw [hrc]), ?_⟩
    have hl2 : (W.putObj (w.heap.size + 1) (.loop { rc .ready none with state := .busy })).heap[w.heap.size + 1]? = some (.loop { rc .ready none with state := .busy }) := World.putObj_heap_same hlt
    have hk2 : (W.putObj (w.heap.size + 1) (.loop { rc .ready none with state := .busy })).heap[w.heap.size]? = some (.deferred (some [])) := (World.putObj_heap_other (by omega)).trans hk
    have hkk : Kept (fun k => Kp k ∨ (w.heap.size + 2 ≤ k ∧ k < w.heap.size + 2 + d)) W (W.putObj (w.heap.size + 1) (.loop { rc .ready none with state := .busy })) := (Kept.refl _ _).putObj hK' _
    have hi2 := hI pre _ (W.putObj (w.heap.size + 1) (.loop { rc .ready none with state := .busy })) (by omega) hi ((Kept.refl _ _).putObj (fun h => h.1 rfl) _)
    have hs2 : w.heap.size + 2 + d ≤ (W.putObj (w.heap.size + 1) (.loop { rc .ready none with state := .busy })).heap.size := by rw [World.putObj_size]; exact hW
    generalize W.putObj (w.heap.size + 1) (.loop { rc .ready none with state := .busy }) = W2 at hl2 hk2 hkk hi2 hs2
    refine wpIn_mono (hbody _ pre x W2 rfl hs2 hpre hi2) ?_
    have fin : ∀ (jump : Option Code) (W3 : World), Kept (fun k => k = w.heap.size ∨ k = w.heap.size + 1 ∨ (Kp k ∨ (w.heap.size + 2 ≤ k ∧ k < w.heap.size + 2 + d))) W2 W3 →
        (Instr.endRound (w.heap.size + 1) jump).run P W3 = .ok (.bool jump.isNone) (W3.putObj (w.heap.size + 1) (.loop (rc (if jump.isNone then .ready else .done) jump))) ∧
        w.heap.size ≤ W3.heap.size ∧
        Kept (fun k => Kp k ∨ (w.heap.size + 2 ≤ k ∧ k < w.heap.size + 2 + d)) W (W3.putObj (w.heap.size + 1) (.loop (rc (if jump.isNone then .ready else .done) jump))) ∧
        Kept (fun k => k ≠ w.heap.size + 1 ∧ ¬ (w.heap.size + 2 ≤ k ∧ k < w.heap.size + 2 + d)) W3 (W3.putObj (w.heap.size + 1) (.loop (rc (if jump.isNone then .ready else .done) jump))) ∧
        (W3.putObj (w.heap.size + 1) (.loop (rc (if jump.isNone then .ready else .done) jump))).heap[w.heap.size + 1]? = some (.loop (rc (if jump.isNone then .ready else .done) jump)) ∧
        (W3.putObj (w.heap.size + 1) (.loop (rc (if jump.isNone then .ready else .done) jump))).heap[w.heap.size]? = some (.deferred (some [])) := fun jump W3 h3 => by
      have hl3 := h3.obj (.inr (.inl rfl)) hl2
      have hr := run_endRound (P := P) jump hl3
      have hs3 := h3.size
      rw [hrc] at hr ⊢
      exact ⟨hr, by omega, hkk.trans ((h3.mono fun k hk => .inr (.inr hk)).putObj hK' _), (Kept.refl _ _).putObj (fun h => h.1 rfl) _, World.putObj_heap_same (Array.getElem?_eq_some_iff.1 hl3).1, (World.putObj_heap_other (by omega)).trans (h3.obj (.inl rfl) hk2)⟩
    rintro e a3 W3 hp
    cases e with
    | normal =>
      obtain ⟨h3, hi3⟩ := hp
      obtain ⟨hr, hs3, hkp, hkx, hl4, hk4⟩ := fin none W3 h3
      exact ⟨_, _, hr, hkp, .inl ⟨rfl, hI _ _ _ hs3 hi3 hkx, hl4, hk4⟩⟩
    | ret =>
      obtain ⟨h3, hi3⟩ := hp
      obtain ⟨hr, hs3, hkp, hkx, hl4, hk4⟩ := fin (some .ret) W3 h3
      exact ⟨_, _, hr, hkp, .inr ⟨rfl, .ret, hIx _ _ _ _ hs3 hi3 hkx, hl4, hk4⟩⟩
    | exit id =>
      obtain ⟨h3, hi3⟩ := hp
      obtain ⟨hr, hs3, hkp, hkx, hl4, hk4⟩ := fin (some (.exit id)) W3 h3
      exact ⟨_, _, hr, hkp, .inr ⟨rfl, .exit id, hIx _ _ _ _ hs3 hi3 hkx, hl4, hk4⟩⟩
    | goto t => exact hp.elim
    | panic ch => exact hp.elim
    | outgrown => exact hp.elim
  · exact ⟨hI [] w W1 (Nat.le_refl _) h0 (Kept.of_below hbl), hl1, hk1⟩
  · -- behind it
    rintro e W2 ⟨⟨v, rfl⟩, hs2, (⟨hi, hl, hk⟩ | ⟨pre, hpre, c, hi, hl, hk⟩)⟩
    · exact ⟨none, _, by have := run_endLoop (P := P) hl (by rw [hrc]; simp); rw [hrc] at this; exact this,
        hdone _ (by rw [World.putObj_size]; exact hs2) (hI _ _ _ (by omega) hi ((Kept.refl _ _).putObj (fun h => h.1 rfl) _)) ((World.putObj_heap_other (by omega)).trans hk)⟩
    · exact ⟨some c, _, by have := run_endLoop (P := P) hl (by rw [hrc]; simp); rw [hrc] at this; exact this,
        hstop c pre _ (by rw [World.putObj_size]; exact hs2) hpre (hIx c _ _ _ (by omega) hi ((Kept.refl _ _).putObj (fun h => h.1 rfl) _)) ((World.putObj_heap_other (by omega)).trans hk)⟩
end Go.Proofs.YthpcbbkpjggjbaaDoor

namespace Go.Proofs.YthpcbbkpjggjbaaDoor
open Go.RowKit Go.Shelf

theorem drop_ext (s : ByteArray) (a : Nat) : (s.extract a s.size).data.toList = s.data.toList.drop a := by
  rw [ext_eq]
  show List.take _ _ = _
  rw [List.take_of_length_le (by rw [List.length_drop, ← Lib.size_eq]; exact Nat.le_refl _)]
theorem piece_ext (s : ByteArray) (a n : Nat) : s.extract a (a + n) = ⟨((s.data.toList.drop a).take n).toArray⟩ := by
  rw [ext_eq, show a + n - a = n from by omega]
end Go.Proofs.YthpcbbkpjggjbaaDoor

namespace Go.Proofs.YthpcbbkpjggjbaaDoor
open Go.RowKit

/-- what Cut tells -/
def cutL (mn mx bt : Int) (s : ByteArray) : List Ck.Bs := if sizeN mn mx bt s.size = 0 then Ck.cut (Ck.ends mn.toNat mx.toNat bt.toNat Rl.ofL) s.data.toList else []
theorem sizeN_zero {mn mx bt n : Int} : sizeN mn mx bt n = 0 ↔ OkCut mn mx bt ∧ n ≤ 4096 := by
  unfold sizeN
  by_cases h : OkCut mn mx bt
  · rw [if_pos h]
    by_cases h2 : n ≤ 4096
    · rw [if_pos h2]; exact ⟨fun _ => ⟨h, h2⟩, fun _ => rfl⟩
    · rw [if_neg h2]; exact ⟨fun e => by omega, fun e => absurd e.2 h2⟩
  · rw [if_neg h]; exact ⟨fun e => by omega, fun e => absurd e.1 h⟩
theorem cut_some {E : Ck.Bs → Bool} {t : Ck.Bs} {l : List Ck.Bs} {q : Ck.Bs} (h : Ck.pieces E t = (l, q)) (hq : q ≠ []) : Ck.cut E t = l ++ [q] := by rw [Ck.cut_of h, if_neg hq]
theorem cut_none {E : Ck.Bs → Bool} {t : Ck.Bs} {l : List Ck.Bs} (h : Ck.pieces E t = (l, [])) : Ck.cut E t = l := by rw [Ck.cut_of h, if_pos rfl]
end Go.Proofs.YthpcbbkpjggjbaaDoor

namespace Go.Proofs.YthpcbbkpjggjbaaDoor
open Go.RowKit Go.Shelf

attribute [local go_sem] Oper.semAt_some
theorem RoundIn.inRound' {F : Fence} {n : Nat} {P : Program} {l : Nat} {f : FuncId} {tmps : Array Value} {assign body : Code} {w : World} {R : Ending → World → Prop} (l2 : Nat)
    (h : RoundIn F n P l f tmps assign body w R) : RoundIn (F.inRound l2) n P l f tmps assign body w R := h
end Go.Proofs.YthpcbbkpjggjbaaDoor

namespace Go.Proofs.YthpcbbkpjggjbaaDoor
open Go.RowKit Go.Shelf

attribute [local go_sem] Oper.semAt_some
/-- 'l = append(l, p)', l a variable in a box -/
theorem box_appended {W w1 : World} {base B : Nat} {t e : TypeId} {size : Nat} {v v' : Value} {k m : Nat} {xs ys : List Value} {tmp : Obj} {p : Nat → Prop} (hv : Boxed W B t v) (hB : B < base)
    (hrow : W.ownsRow base e size v k xs) (hown' : w1.ownsRow base e size v' m ys) (hgrow : (W.alloc tmp).grownBy w1 v.ownBlock) (hp : ∀ k, p k → k ≠ B ∧ k < base) :
    Boxed w1 B t v ∧ Boxed (w1.setCell ⟨B, 0, none⟩ v') B t v' ∧ (w1.setCell ⟨B, 0, none⟩ v').ownsRow base e size v' m ys ∧ Kept p W (w1.setCell ⟨B, 0, none⟩ v') := by
  have hne : some B ≠ v.ownBlock := fun h => by have := (hrow.lt B h.symm).1; omega
  have hv1 : Boxed w1 B t v := (hv.alloc tmp).kept hgrow hne
  refine ⟨hv1, hv1.set v', ownsRow_setCell_below hown' hB v', ?_⟩
  refine (((Kept.refl p W).alloc tmp).grown hgrow fun j ej hpj => ?_).setCell (fun h => (hp _ h).1 rfl) v'
  have h1 := (hrow.lt j ej).1
  have h2 := (hp j hpj).2
  omega

theorem ck_own_kept {p : Nat → Prop} {A B : World} {base : Nat} {e : TypeId} {k : Nat} {v : Value} {n : Nat} {xs : List Value} (h : A.ownsRow base e k v n xs) (hk : Kept p A B) (hp : ∀ g, base ≤ g → p g) : B.ownsRow base e k v n xs := by
  obtain ⟨h1, h2⟩ := h
  refine ⟨h1, ?_⟩
  rcases h2 with h2 | ⟨g, cap, cur, hv, hg, hh, r⟩
  · exact .inl h2
  · exact .inr ⟨g, cap, cur, hv, hg, hk.obj (hp g hg) hh, r⟩
/-- pieces that were collected in a variable -/
structure Got (n₀ : Nat) (w : World) (base bl : Nat) (l : List Ck.Bs) (V : World) : Prop where
  box : ∃ v, Boxed V bl 50 v ∧ V.ownsRow base 9 1 v l.length (l.map Sv)
  bel : Below n₀ w V
theorem Got.kept {p : Nat → Prop} {n₀ base bl : Nat} {w A B : World} {l : List Ck.Bs} (h : Got n₀ w base bl l A) (hk : Kept p A B) (hb : p bl) (hp : ∀ g, base ≤ g → p g) (hn : ∀ k, k < n₀ → p k) (hs : n₀ ≤ A.heap.size) : Got n₀ w base bl l B := by
  obtain ⟨⟨v, h1, h2⟩, h3⟩ := h
  exact ⟨⟨v, hk.boxed hb h1, ck_own_kept h2 hk hp⟩, h3.trans (hk.below hs hn)⟩
end Go.Proofs.YthpcbbkpjggjbaaDoor

namespace Go.Proofs.YthpcbbkpjggjbaaDoor
open Go.RowKit

def fixN (n len : Int) : Int := if n < 1 ∨ 1024 < n then 1 else if len ≤ 4096 then 0 else 2
def fixL (n : Int) (s : ByteArray) : List Ck.Bs := if fixN n s.size = 0 then Ck.fixed n.toNat s.data.toList else []

theorem fix_at (n : Nat) (s : ByteArray) (k : Nat) : (s.extract (k * n) (min (k * n + n) s.size)).data.toList = (s.data.toList.drop (k * n)).take n := by
  rw [ext_eq]
  show List.take _ _ = _
  by_cases h : k * n + n ≤ s.size
  · rw [Nat.min_eq_left h, show k * n + n - k * n = n from by omega]
  · rw [Nat.min_eq_right (by omega), List.take_of_length_le (by rw [List.length_drop, ← Lib.size_eq]; exact Nat.le_refl _), List.take_of_length_le (by rw [List.length_drop, ← Lib.size_eq]; omega)]

theorem fix_sum (n : Nat) (s : ByteArray) (h1 : 1 ≤ n) : (∀ k, k < Ck.many n s.size ↔ k * n < s.size) ∧ Ck.fx n s.data.toList 0 = [] ∧ (∀ k, (Ck.fx n s.data.toList k).length = k) ∧
    (∀ k, Ck.fx n s.data.toList (k + 1) = Ck.fx n s.data.toList k ++ [(s.extract (k * n) (min (k * n + n) s.size)).data.toList]) ∧ Ck.fx n s.data.toList (Ck.many n s.size) = Ck.fixed n s.data.toList :=
  ⟨fun k => Ck.many_lt (by omega), rfl, fun k => Ck.fx_length _ _ _, fun k => by rw [fix_at, Ck.fx_succ], by rw [Ck.fixed, ← Lib.size_eq]⟩
theorem fixN_one {n len : Int} (h : n < 1 ∨ 1024 < n) : fixN n len = 1 := if_pos h
theorem fixN_two {n len : Int} (h : ¬ (n < 1 ∨ 1024 < n)) (h2 : 4096 < len) : fixN n len = 2 := by rw [fixN, if_neg h, if_neg (by omega)]
theorem fixN_zero {n len : Int} (h : ¬ (n < 1 ∨ 1024 < n)) (h2 : len ≤ 4096) : fixN n len = 0 := by rw [fixN, if_neg h, if_pos h2]
end Go.Proofs.YthpcbbkpjggjbaaDoor

namespace Go.Proofs.YthpcbbkpjggjbaaDoor
open Go.RowKit

/-- a way, as it is handed in -/
abbrev wayV (fx mn mx bt : Int) : Value := .agg #[.int .i64 fx, .int .i64 mn, .int .i64 mx, .int .i64 bt]

/-- WayOK -/
def wayN (fx mn mx bt : Int) : Int := if fx = 0 then okN mn mx bt else if fx < 16 ∨ 1024 < fx then 1 else 0

/-- the pieces of a text -/
def cutW (fx mn mx bt : Int) (s : ByteArray) : List Ck.Bs := if fx = 0 then cutL mn mx bt s else fixL fx s

def cutF (fx mn mx bt : Int) (s : List UInt8) : List (List UInt8) := cutW fx mn mx bt ⟨s.toArray⟩

theorem cutF_of (fx mn mx bt : Int) (s : ByteArray) : cutF fx mn mx bt s.data.toList = cutW fx mn mx bt s := rfl

theorem okN_ok {mn mx bt : Int} (h : okN mn mx bt = 0) : OkCut mn mx bt := by
  unfold okN at h
  by_cases q : OkCut mn mx bt
  · exact q
  · rw [if_neg q] at h; cases h

theorem cutW_fixed {fx mn mx bt : Int} (h0 : fx ≠ 0) (h : wayN fx mn mx bt = 0) (s : ByteArray) (hs : s.size ≤ 4096) : 16 ≤ fx ∧ fx ≤ 1024 ∧ cutW fx mn mx bt s = Ck.fixed fx.toNat s.data.toList := by
  unfold wayN at h
  rw [if_neg h0] at h
  split at h
  · cases h
  rename_i q
  refine ⟨by omega, by omega, ?_⟩
  unfold cutW fixL
  rw [if_neg h0, if_pos]
  unfold fixN
  rw [if_neg (by omega), if_pos (by omega)]

theorem cutW_cut {fx mn mx bt : Int} (h0 : fx = 0) (h : wayN fx mn mx bt = 0) (s : ByteArray) (hs : s.size ≤ 4096) : OkCut mn mx bt ∧ cutW fx mn mx bt s = Ck.cut (Ck.ends mn.toNat mx.toNat bt.toNat Rl.ofL) s.data.toList := by
  unfold wayN at h
  rw [if_pos h0] at h
  have hO := okN_ok h
  refine ⟨hO, ?_⟩
  unfold cutW cutL
  rw [if_pos h0, if_pos (sizeN_zero.2 ⟨hO, by omega⟩)]

theorem cutF_join {fx mn mx bt : Int} (h : wayN fx mn mx bt = 0) (s : List UInt8) (hs : s.length ≤ 4096) : (cutF fx mn mx bt s).flatten = s := by
  unfold cutF
  by_cases h0 : fx = 0
  · rw [(cutW_cut h0 h ⟨s.toArray⟩ (by rw [Lib.size_eq]; simpa using hs)).2]
    exact Ck.cut_join _
  · obtain ⟨h1, _, e⟩ := cutW_fixed h0 h ⟨s.toArray⟩ (by rw [Lib.size_eq]; simpa using hs)
    rw [e]
    exact Ck.fixed_join (by omega) _

theorem flat_many (m : Nat) : ∀ (l : List (List UInt8)), (∀ (j : Nat) (hj : j < l.length), j + 1 < l.length → m ≤ (l[j]).length) → (l.length - 1) * m ≤ l.flatten.length
  | [], _ => by simp
  | [a], _ => by simp
  | a :: b :: l, h => by
    have h0 := h 0 (by simp) (by simp)
    have ih := flat_many m (b :: l) fun j hj hj2 => h (j + 1) (by simpa using hj) (by simpa using hj2)
    rw [List.flatten_cons, List.length_append]
    have e : (a :: b :: l).length - 1 = ((b :: l).length - 1) + 1 := by simp
    rw [e, Nat.add_mul, Nat.one_mul]
    have h0 : m ≤ a.length := h0
    omega

theorem cutF_few {fx mn mx bt : Int} (h : wayN fx mn mx bt = 0) (s : List UInt8) (hs : s.length ≤ 4096) : (cutF fx mn mx bt s).length ≤ s.length / 16 + 1 := by
  have hj := cutF_join h s hs
  have hm : ((cutF fx mn mx bt s).length - 1) * 16 ≤ (cutF fx mn mx bt s).flatten.length := by
    refine flat_many 16 _ fun j hj1 hj2 => ?_
    by_cases h0 : fx = 0
    · obtain ⟨hO, e⟩ := cutW_cut h0 h ⟨s.toArray⟩ (by rw [Lib.size_eq]; simpa using hs)
      have e : cutF fx mn mx bt s = _ := e
      obtain ⟨o1, o2, o3, _⟩ := hO
      have hl1 : j < (Ck.cut (Ck.ends mn.toNat mx.toNat bt.toNat Rl.ofL) s).length := by rw [e] at hj1; exact hj1
      have := Ck.cut_size (mn := mn.toNat) (mx := mx.toNat) (bits := bt.toNat) (sum := Rl.ofL) (by omega) (by omega) s hl1
      have hg : (cutF fx mn mx bt s)[j] = (Ck.cut (Ck.ends mn.toNat mx.toNat bt.toNat Rl.ofL) s)[j] := by congr 1
      rw [hg]
      have hl2 : j + 1 < (Ck.cut (Ck.ends mn.toNat mx.toNat bt.toNat Rl.ofL) s).length := by rw [e] at hj2; exact hj2
      have := this.2.2 hl2
      omega
    · obtain ⟨h1, h2, e⟩ := cutW_fixed h0 h ⟨s.toArray⟩ (by rw [Lib.size_eq]; simpa using hs)
      have e : cutF fx mn mx bt s = _ := e
      have hl1 : j < (Ck.fixed fx.toNat s).length := by rw [e] at hj1; exact hj1
      have hl2 : j + 1 < (Ck.fixed fx.toNat s).length := by rw [e] at hj2; exact hj2
      have := (Ck.fixed_size (n := fx.toNat) (s := s) (by omega) hl1).2.2 hl2
      have hg : (cutF fx mn mx bt s)[j] = (Ck.fixed fx.toNat s)[j] := by congr 1
      rw [hg]
      omega
  rw [hj] at hm
  omega
end Go.Proofs.YthpcbbkpjggjbaaDoor

namespace Go.Proofs.YthpcbbkpjggjbaaDoor
open Go.RowKit

/-- every block that was there is as it was, but those of one type -/
structure Kt (T : TypeId) (A B : World) : Prop where
  os : B.os = A.os
  tape : B.tape = A.tape
  output : B.output = A.output
  size : A.heap.size ≤ B.heap.size
  obj : ∀ (k : Nat) (o : Obj), A.heap[k]? = some o → (¬ ∃ cur fr, o = .cells cur T fr) → B.heap[k]? = some o

section
variable {T T' : TypeId} {A B C : World}
theorem Kt.refl (T : TypeId) (A : World) : Kt T A A := ⟨rfl, rfl, rfl, Nat.le_refl _, fun _ _ h _ => h⟩

theorem Kt.trans (h : Kt T A B) (k : Kt T B C) : Kt T A C :=
  ⟨k.os.trans h.os, k.tape.trans h.tape, k.output.trans h.output, Nat.le_trans h.size k.size, fun i _ ho hn => k.obj i _ (h.obj i _ ho hn) hn⟩

theorem Kt.of_below (h : Below A.heap.size A B) : Kt T A B := ⟨h.os, h.tape, h.output, h.size, fun k _ ho _ => (h.block k (Array.getElem?_eq_some_iff.1 ho).1).trans ho⟩

theorem Kt.of_grown {row : Option Nat} (h : A.grownBy B row) (hr : ∀ g, row = some g → ∃ cur fr, A.heap[g]? = some (.cells cur T fr)) : Kt T A B :=
  ⟨h.os, h.tape, h.output, h.size, fun k _ ho hn => (h.block k (Array.getElem?_eq_some_iff.1 ho).1 (fun e => by
    obtain ⟨cur, fr, hc⟩ := hr k e.symm
    rw [hc] at ho
    cases ho
    exact hn ⟨_, _, rfl⟩)).trans ho⟩

theorem Kt.alloc (h : Kt T A B) (o : Obj) : Kt T A (B.alloc o) := h.trans (Kt.of_below ((Below.refl _ B).alloc (Nat.le_refl _) o))

theorem Kt.drew (h : Kt T A B) : Kt T A B.drew := ⟨h.os, h.tape, h.output, h.size, h.obj⟩

theorem Kt.set {g : Nat} {cur : Array Value} {fr : Nat × Nat} (h : B.heap[g]? = some (.cells cur T fr)) (j : Nat) (x : Value) : Kt T B (B.setCell ⟨g, j, none⟩ x) :=
  ⟨rfl, rfl, rfl, by simp [World.setCell], fun k _ ho hn => (Below.heap_setCell _ _ _ _ (fun e => by
    have e : k = g := e
    subst e
    rw [h] at ho
    cases ho
    exact hn ⟨_, _, rfl⟩)).trans ho⟩

theorem Kt.cell (h : Kt T A B) {k : Nat} {cur : Array Value} {fr : Nat × Nat} (ho : A.heap[k]? = some (.cells cur T' fr)) (hne : T' ≠ T) : B.heap[k]? = some (.cells cur T' fr) :=
  h.obj k _ ho (fun ⟨_, _, e⟩ => by cases e; exact hne rfl)

end

/-- things of k cells each, whose cells are as R says -/
structure Ry {α : Type} (k : Nat) (T : TypeId) (R : World → α → List Value → Prop) (w : World) (v : Value) (l : List α) : Prop where
  at_ : ((∃ a c, v = .slice a 0 c) ∧ l = []) ∨ ∃ bk o cap, v = .slice (some ⟨bk, o, none⟩) l.length cap ∧ l.length ≤ cap ∧ (∃ cur fr, w.heap[bk]? = some (.cells cur T fr)) ∧
    ∀ j t, l[j]? = some t → ∃ c : List Value, c.length = k ∧ R w t c ∧ ∀ r u, c[r]? = some u → w.cell? ⟨bk, o + j * k + r, none⟩ = some u

section
variable {α : Type} {k : Nat} {T : TypeId} {R : World → α → List Value → Prop} {w W : World} {v : Value} {l : List α}
theorem Ry.nil (a : Option Addr) (c : Nat) : Ry k T R w (.slice a 0 c) [] := ⟨.inl ⟨⟨_, _, rfl⟩, rfl⟩⟩

theorem Ry.slice (h : Ry k T R w v l) : ∃ a c, v = .slice a l.length c := by
  rcases h.at_ with ⟨⟨a, c, rfl⟩, rfl⟩ | ⟨bk, o, cap, rfl, _⟩
  · exact ⟨_, _, rfl⟩
  · exact ⟨_, _, rfl⟩

theorem Ry.room {a : Option Addr} {n c : Nat} (h : Ry k T R w (.slice a n c) l) (hn : 0 < l.length) : l.length ≤ c ∧ n = l.length := by
  rcases h.at_ with ⟨_, rfl⟩ | ⟨bk, o, cap, e, h1, _⟩
  · simp at hn
  · cases e; exact ⟨h1, rfl⟩

theorem Ry.obj (h : Ry k T R w v l) (hR : ∀ t c, R w t c → R W t c) (ho : ∀ (g : Nat) cur fr, w.heap[g]? = some (.cells cur T fr) → W.heap[g]? = some (.cells cur T fr)) : Ry k T R W v l := by
  rcases h.at_ with h | ⟨bk, o, cap, h1, h2, ⟨cur, fr, h3⟩, h4⟩
  · exact ⟨.inl h⟩
  · have e := ho bk cur fr h3
    refine ⟨.inr ⟨bk, o, cap, h1, h2, ⟨cur, fr, e⟩, fun j t hj => ?_⟩⟩
    obtain ⟨c, c1, c2, c3⟩ := h4 j t hj
    refine ⟨c, c1, hR t c c2, fun r u hu => ?_⟩
    rw [← c3 r u hu]
    simp only [World.cell?, h3, e]

theorem Ry.kt {T' : TypeId} (h : Ry k T R w v l) (hk : Kt T' w W) (hne : T ≠ T') (hR : ∀ t c, R w t c → R W t c) : Ry k T R W v l := h.obj hR fun _ _ _ ho => hk.cell ho hne

theorem Ry.below (h : Ry k T R w v l) (hb : Below w.heap.size w W) (hR : ∀ t c, R w t c → R W t c) : Ry k T R W v l :=
  h.obj hR fun g _ _ ho => (hb.block g (Array.getElem?_eq_some_iff.1 ho).1).trans ho

theorem Ry.get {a : Option Addr} {n c : Nat} (h : Ry k T R w (.slice a n c) l) (j : Nat) (t : α) (hj : l[j]? = some t) : ∃ bk o cs, a = some ⟨bk, o, none⟩ ∧ bk < w.heap.size ∧ cs.length = k ∧ R w t cs ∧
    ∀ r u, cs[r]? = some u → w.cell? ⟨bk, o + j * k + r, none⟩ = some u := by
  rcases h.at_ with ⟨_, rfl⟩ | ⟨bk, o, cap, h1, h2, ⟨cur, fr, h3⟩, h4⟩
  · simp at hj
  · rw [Value.slice.injEq] at h1
    obtain ⟨rfl, rfl, rfl⟩ := h1
    obtain ⟨cs, c1, c2, c3⟩ := h4 j t hj
    exact ⟨bk, o, cs, rfl, (Array.getElem?_eq_some_iff.1 h3).1, c1, c2, c3⟩

end

/-- a row of one's own of such things -/
def Oy {α : Type} (k : Nat) (T : TypeId) (R : World → α → List Value → Prop) (base : Nat) (w : World) (v : Value) (l : List α) : Prop :=
  ∃ cs : List (List Value), w.ownsRow base T k v l.length cs.flatten ∧ (∀ c ∈ cs, c.length = k) ∧ cs.length = l.length ∧ ∀ (j : Nat) t c, l[j]? = some t → cs[j]? = some c → R w t c

theorem flat_get {k : Nat} : ∀ (cs : List (List Value)), (∀ c ∈ cs, c.length = k) → ∀ (i r : Nat) (c : List Value), cs[i]? = some c → r < k → cs.flatten[i * k + r]? = c[r]?
  | [], _, i, r, c, hi, _ => by simp at hi
  | q :: cs, h, i, r, c, hi, hr => by
    have hq := h q (by simp)
    rw [List.flatten_cons]
    cases i with
    | zero =>
      obtain rfl : q = c := by simpa using hi
      rw [Nat.zero_mul, Nat.zero_add, List.getElem?_append_left (by rw [hq]; exact hr)]
    | succ i =>
      rw [List.getElem?_append_right (by rw [hq, Nat.add_mul, Nat.one_mul]; omega), hq, show (i + 1) * k + r - k = i * k + r from by rw [Nat.add_mul, Nat.one_mul]; omega]
      exact flat_get cs (fun c hc => h c (by simp [hc])) i r c (by simpa using hi) hr

section
variable {α : Type} {k : Nat} {T : TypeId} {R : World → α → List Value → Prop} {base : Nat} {w W : World} {v : Value} {l : List α}
theorem Oy.nil : Oy k T R base w (.slice none 0 0) ([] : List α) := ⟨[], World.ownsRow_nil w _ _ _, by simp, rfl, fun j t c h => by simp at h⟩

theorem Oy.ry (h : Oy k T R base w v l) : Ry k T R w v l := by
  obtain ⟨cs, h1, h2, h3, h4⟩ := h
  rcases h1.2 with ⟨rfl, h0⟩ | ⟨g, cap, cur, rfl, hg, hh, hle, _⟩
  · have : l = [] := List.length_eq_zero_iff.1 h0
    subst this
    exact Ry.nil _ _
  · refine ⟨.inr ⟨g, 0, cap, rfl, hle, ⟨cur, _, hh⟩, fun j t hj => ?_⟩⟩
    have hjl := (List.getElem?_eq_some_iff.1 hj).1
    have hc : cs[j]? = some (cs[j]'(by omega)) := List.getElem?_eq_getElem (by omega)
    generalize cs[j]'(by omega) = c at hc
    have hck := h2 c (List.mem_of_getElem? hc)
    refine ⟨c, hck, h4 j t c hj hc, fun r u hu => ?_⟩
    have hr : r < k := by
      have := (List.getElem?_eq_some_iff.1 hu).1
      omega
    have := World.ownsRow.cells h1 (g := g) rfl (j * k + r) u (by rw [flat_get cs h2 j r c hc hr]; exact hu)
    rw [show (0 : Nat) + j * k + r = j * k + r from by omega]
    rwa [show ((⟨g, 0, none⟩ : Addr).add (j * k + r)) = ⟨g, j * k + r, none⟩ from by unfold Addr.add; split <;> simp_all] at this

theorem Oy.obj (h : Oy k T R base w v l) (hR : ∀ t c, R w t c → R W t c) (ho : ∀ (g : Nat) cur fr, w.heap[g]? = some (.cells cur T fr) → W.heap[g]? = some (.cells cur T fr)) : Oy k T R base W v l := by
  obtain ⟨cs, h1, h2, h3, h4⟩ := h
  refine ⟨cs, ⟨h1.1, ?_⟩, h2, h3, fun j t c a b => hR t c (h4 j t c a b)⟩
  rcases h1.2 with h | ⟨g, cap, cur, hv, hg, hh, r⟩
  · exact .inl h
  · exact .inr ⟨g, cap, cur, hv, hg, ho g _ _ hh, r⟩

theorem Oy.below (h : Oy k T R base w v l) (hb : Below w.heap.size w W) (hR : ∀ t c, R w t c → R W t c) : Oy k T R base W v l :=
  h.obj hR fun g _ _ ho => (hb.block g (Array.getElem?_eq_some_iff.1 ho).1).trans ho

theorem Oy.kt {T' : TypeId} (h : Oy k T R base w v l) (hk : Kt T' w W) (hne : T ≠ T') (hR : ∀ t c, R w t c → R W t c) : Oy k T R base W v l := h.obj hR fun _ _ _ ho => hk.cell ho hne

/-- one more behind it -/
theorem Oy.more {cs : List (List Value)} {c : List Value} {t : α} {v1 : Value} (h2 : ∀ c ∈ cs, c.length = k) (h3 : cs.length = l.length) (h4 : ∀ (j : Nat) t c, l[j]? = some t → cs[j]? = some c → R W t c)
    (h : W.ownsRow base T k v1 (l.length + 1) (cs.flatten ++ c)) (hc : c.length = k) (hR : R W t c) : Oy k T R base W v1 (l ++ [t]) := by
  refine ⟨cs ++ [c], ?_, fun x hx => ?_, by simp [h3], fun j t' c' hj hc' => ?_⟩
  · rw [List.length_append, List.length_singleton, List.flatten_append, List.flatten_singleton]; exact h
  · rcases List.mem_append.1 hx with hx | hx
    · exact h2 x hx
    · rw [List.mem_singleton.1 hx]; exact hc
  · rcases Nat.lt_or_ge j l.length with q | q
    · rw [List.getElem?_append_left q] at hj
      rw [List.getElem?_append_left (by omega)] at hc'
      exact h4 j t' c' hj hc'
    · have hjl := (List.getElem?_eq_some_iff.1 hj).1
      rw [List.length_append, List.length_singleton] at hjl
      obtain rfl : j = l.length := by omega
      rw [List.getElem?_append_right (Nat.le_refl _), Nat.sub_self] at hj
      rw [List.getElem?_append_right (by omega), h3, Nat.sub_self] at hc'
      simp at hj hc'
      subst hj; subst hc'
      exact hR

theorem Oy.own (h : Oy k T R base w v l) {g : Nat} (hg : v.ownBlock = some g) : (∃ cur fr, w.heap[g]? = some (.cells cur T fr)) ∧ base ≤ g := by
  obtain ⟨cs, h1, _⟩ := h
  obtain ⟨cur, a, b, _⟩ := own_block h1 hg
  exact ⟨⟨cur, _, a⟩, b⟩

/-- what an append of one leaves: all but the rows of its type stands -/
theorem Oy.grown {base : Nat} {v : Value} {l : List α} (h : Oy k T R base w v l) (hg : w.grownBy W v.ownBlock) : Kt T w W := Kt.of_grown hg fun _ hgv => (h.own hgv).1

end

end Go.Proofs.YthpcbbkpjggjbaaDoor

namespace Go.Proofs.YthpcbbkpjggjbaaDoor
open Go.RowKit

/-- things of k cells each, whose cells are as R says, in a block of whatever type -/
structure Rw {α : Type} (k : Nat) (R : World → α → List Value → Prop) (w : World) (v : Value) (l : List α) : Prop where
  at_ : ((∃ a c, v = .slice a 0 c) ∧ l = []) ∨ ∃ bk o cap, v = .slice (some ⟨bk, o, none⟩) l.length cap ∧ l.length ≤ cap ∧ bk < w.heap.size ∧
    ∀ j t, l[j]? = some t → ∃ c : List Value, c.length = k ∧ R w t c ∧ ∀ r u, c[r]? = some u → w.cell? ⟨bk, o + j * k + r, none⟩ = some u

section
variable {α : Type} {k : Nat} {R : World → α → List Value → Prop} {w W : World} {v : Value} {l : List α}
theorem Rw.nil (a : Option Addr) (c : Nat) : Rw k R w (.slice a 0 c) ([] : List α) := ⟨.inl ⟨⟨_, _, rfl⟩, rfl⟩⟩

theorem Rw.slice (h : Rw k R w v l) : ∃ a c, v = .slice a l.length c := by
  rcases h.at_ with ⟨⟨a, c, rfl⟩, rfl⟩ | ⟨bk, o, cap, rfl, _⟩
  · exact ⟨_, _, rfl⟩
  · exact ⟨_, _, rfl⟩

theorem Rw.below (h : Rw k R w v l) (hb : Below w.heap.size w W) (hR : ∀ t c, R w t c → R W t c) : Rw k R W v l := by
  rcases h.at_ with h | ⟨bk, o, cap, h1, h2, h3, h4⟩
  · exact ⟨.inl h⟩
  · refine ⟨.inr ⟨bk, o, cap, h1, h2, Nat.lt_of_lt_of_le h3 hb.size, fun j t hj => ?_⟩⟩
    obtain ⟨c, c1, c2, c3⟩ := h4 j t hj
    refine ⟨c, c1, hR t c c2, fun r u hu => ?_⟩
    exact (Below.cell hb (p := ⟨bk, o + j * k + r, none⟩) h3).trans (c3 r u hu)

theorem Rw.get {a : Option Addr} {n c : Nat} (h : Rw k R w (.slice a n c) l) (j : Nat) (t : α) (hj : l[j]? = some t) : ∃ bk o cs, a = some ⟨bk, o, none⟩ ∧ bk < w.heap.size ∧ cs.length = k ∧ R w t cs ∧
    ∀ r u, cs[r]? = some u → w.cell? ⟨bk, o + j * k + r, none⟩ = some u := by
  rcases h.at_ with ⟨_, rfl⟩ | ⟨bk, o, cap, h1, h2, h3, h4⟩
  · simp at hj
  · rw [Value.slice.injEq] at h1
    obtain ⟨rfl, rfl, rfl⟩ := h1
    obtain ⟨cs, c1, c2, c3⟩ := h4 j t hj
    exact ⟨bk, o, cs, rfl, h3, c1, c2, c3⟩

theorem Rw.of_ry {T : TypeId} (h : Ry k T R w v l) : Rw k R w v l := by
  rcases h.at_ with h | ⟨bk, o, cap, h1, h2, ⟨cur, fr, h3⟩, h4⟩
  · exact ⟨.inl h⟩
  · exact ⟨.inr ⟨bk, o, cap, h1, h2, (Array.getElem?_eq_some_iff.1 h3).1, h4⟩⟩

end

/-- a node -/
structure Nod where
  name : ByteArray
  kind : Int
  mode : Int
  time : Int
  size : Int
  parts : List (List UInt8)
  link : ByteArray

def Nod.nd (n : Nod) : Td.Nd := ⟨n.name.data.toList, n.kind, n.mode, n.time, n.size, n.parts, n.link.data.toList⟩

def nds (l : List Nod) : List Td.Nd := l.map Nod.nd

theorem nds_length (l : List Nod) : (nds l).length = l.length := List.length_map _

/-- its cells, v its parts -/
abbrev ndC (n : Nod) (v : Value) : List Value := [.string n.name, .int .i64 n.kind, .int .i64 n.mode, .int .i64 n.time, .int .i64 n.size, v, .string n.link]

/-- what is sure of a node that comes in, or is made -/
structure Nod.Ok (n : Nod) : Prop where
  kind : (Lit.int .i64 n.kind).wf = true
  mode : (Lit.int .i64 n.mode).wf = true
  time : (Lit.int .i64 n.time).wf = true
  size : (Lit.int .i64 n.size).wf = true
  name : n.name.size ≤ 9223372036854775807
  link : n.link.size ≤ 9223372036854775807
  ids : ∀ p ∈ n.parts, p.length = 8

theorem Nod.Ok.wn {n : Nod} (h : n.Ok) : Td.Wn n.nd := by
  have ht := h.time
  simp [Lit.wf, IntKind.min, IntKind.max, IntKind.signed, IntKind.bits] at ht
  exact ⟨ht.1, ht.2, h.ids⟩

def NdR (w : World) (n : Nod) (c : List Value) : Prop := ∃ v, c = ndC n v ∧ Rx 8 idC w v n.parts ∧ n.Ok

theorem NdR.below {w W : World} {n : Nod} {c : List Value} (h : NdR w n c) (hb : Below w.heap.size w W) : NdR W n c := by
  obtain ⟨v, e, q, r⟩ := h
  exact ⟨v, e, q.below hb, r⟩

/-- nodes that lie in memory -/
abbrev Nds (w : World) (v : Value) (l : List Nod) : Prop := Rw 7 NdR w v l

theorem Nds.below {w W : World} {v : Value} {l : List Nod} (h : Nds w v l) (hb : Below w.heap.size w W) : Nds W v l := Rw.below h hb fun _ _ q => q.below hb

end Go.Proofs.YthpcbbkpjggjbaaDoor

namespace Go.Proofs.YthpcbbkpjggjbaaDoor
open Go.RowKit

/-- every block that was there, and of whose object p holds, is as it was -/
structure Ko (p : Obj → Prop) (A B : World) : Prop where
  os : B.os = A.os
  tape : B.tape = A.tape
  output : B.output = A.output
  size : A.heap.size ≤ B.heap.size
  obj : ∀ (k : Nat) (o : Obj), A.heap[k]? = some o → p o → B.heap[k]? = some o

section
variable {p : Obj → Prop} {A B C : World}
theorem Ko.refl (p : Obj → Prop) (A : World) : Ko p A A := ⟨rfl, rfl, rfl, Nat.le_refl _, fun _ _ h _ => h⟩

theorem Ko.trans (h : Ko p A B) (k : Ko p B C) : Ko p A C :=
  ⟨k.os.trans h.os, k.tape.trans h.tape, k.output.trans h.output, Nat.le_trans h.size k.size, fun i o ho hp => k.obj i o (h.obj i o ho hp) hp⟩

theorem Ko.of_below (h : Below A.heap.size A B) : Ko p A B := ⟨h.os, h.tape, h.output, h.size, fun k _ ho _ => (h.block k (Array.getElem?_eq_some_iff.1 ho).1).trans ho⟩

theorem Ko.of_kept {q : Nat → Prop} (h : Kept q A B) (hq : ∀ k o, A.heap[k]? = some o → p o → q k) : Ko p A B :=
  ⟨h.os, h.tape, h.output, h.size, fun k o ho hp => h.obj (hq k o ho hp) ho⟩

theorem Ko.set {g : Nat} {o : Obj} (h : B.heap[g]? = some o) (hn : ¬ p o) (j : Nat) (x : Value) : Ko p B (B.setCell ⟨g, j, none⟩ x) :=
  ⟨rfl, rfl, rfl, by simp [World.setCell], fun k o' ho hp => (Below.heap_setCell _ _ _ _ (fun e => by
    have e : k = g := e
    subst e
    rw [h] at ho
    cases ho
    exact hn hp)).trans ho⟩

theorem Ko.mono {q : Obj → Prop} (h : Ko p A B) (hq : ∀ o, q o → p o) : Ko q A B := ⟨h.os, h.tape, h.output, h.size, fun k o ho hp => h.obj k o ho (hq o hp)⟩

end

/-- a row of one's own of cells of which p holds stays -/
theorem own_ko {p : Obj → Prop} {base : Nat} {e : TypeId} {k : Nat} {v : Value} {n : Nat} {xs : List Value} {w w' : World} (h : w.ownsRow base e k v n xs) (hk : Ko p w w') (hp : ∀ cur fr, p (.cells cur e fr)) : w'.ownsRow base e k v n xs := by
  obtain ⟨h1, h2⟩ := h
  refine ⟨h1, ?_⟩
  rcases h2 with h2 | ⟨g, cap, cur, hv, hg, hh, r⟩
  · exact .inl h2
  · exact .inr ⟨g, cap, cur, hv, hg, hk.obj g _ hh (hp _ _), r⟩

theorem Rx.keepb {α : Type} {k : Nat} {C : α → List Value} {base : Nat} {w w' : World} {v : Value} {l : List α} (h : Rx k C w v l) (hk : Below base w w') (hb : ∀ a n c, v = .slice (some a) n c → l ≠ [] → a.block < base) : Rx k C w' v l := by
  by_cases hl : l = []
  · subst hl
    rcases h.at_ with ⟨h1, _⟩ | ⟨bk, o, cap, e, _⟩
    · exact ⟨.inl ⟨h1, rfl⟩, h.room⟩
    · exact ⟨.inl ⟨⟨_, _, e⟩, rfl⟩, h.room⟩
  · exact h.kept (Kept.of_below_at (p := fun k => k < base) hk fun _ h => h) (fun a n c e => hb a n c e hl)

/-- seven cells in a block of their own -/
theorem sev_at {w : World} {b : Nat} {T : TypeId} {fr : Nat × Nat} {x0 x1 x2 x3 x4 x5 x6 : Value} (h : w.heap[b]? = some (.cells #[x0, x1, x2, x3, x4, x5, x6] T fr)) :
    w.cell? ⟨b, 0, none⟩ = some x0 ∧ w.cell? ⟨b, 1, none⟩ = some x1 ∧ w.cell? ⟨b, 2, none⟩ = some x2 ∧ w.cell? ⟨b, 3, none⟩ = some x3 ∧ w.cell? ⟨b, 4, none⟩ = some x4 ∧ w.cell? ⟨b, 5, none⟩ = some x5 ∧ w.cell? ⟨b, 6, none⟩ = some x6 ∧ b < w.heap.size := by
  refine ⟨?_, ?_, ?_, ?_, ?_, ?_, ?_, (Array.getElem?_eq_some_iff.1 h).1⟩ <;> simp [World.cell?, h]

theorem free_at {w : World} {b : Nat} {T : TypeId} {cur : Array Value} (h : w.heap[b]? = some (.cells cur T (0, 0))) (j : Nat) : w.frozen? ⟨b, j, none⟩ = false := by simp [World.frozen?, h]

end Go.Proofs.YthpcbbkpjggjbaaDoor

namespace Go.Proofs
open Go.Shelf
def Tryd.lays148_ren : Go.Shelf.Ren := ⟨fun | 148 => 58 | 222 => 68 | 223 => 69 | 269 => 79 | n => n, fun | 9 => 9 | 3 => 3 | 4 => 4 | 5 => 5 | 146 => 104 | 51 => 103 | 46 => 115 | n => n, fun | n => n⟩
theorem Tryd.lays148 : Go.Proofs.Lays.n148 Tryd.prog Tryd.lays148_ren := {
  mixed := by kernel_rfl
  f148 := Tryd.func58.trans (congrArg some (by kernel_rfl))
  f222 := Tryd.func68.trans (congrArg some (by kernel_rfl))
  f223 := Tryd.func69.trans (congrArg some (by kernel_rfl))
  f269 := Tryd.func79.trans (congrArg some (by kernel_rfl))
  t3 := Tryd.underlying3
  a3 := Tryd.isAgg3
  z3 := Tryd.sizeOf3
  v3 := Tryd.zeroValue3
  t4 := Tryd.underlying4
  a4 := Tryd.isAgg4
  z4 := Tryd.sizeOf4
  v4 := Tryd.zeroValue4
  t5 := Tryd.underlying5
  a5 := Tryd.isAgg5
  z5 := Tryd.sizeOf5
  v5 := Tryd.zeroValue5
  t9 := Tryd.underlying9
  a9 := Tryd.isAgg9
  z9 := Tryd.sizeOf9
  v9 := Tryd.zeroValue9
  t46 := Tryd.underlying115
  a46 := Tryd.isAgg115
  z46 := Tryd.sizeOf115
  v46 := Tryd.zeroValue115
  t51 := Tryd.underlying103
  a51 := Tryd.isAgg103
  z51 := Tryd.sizeOf103
  v51 := Tryd.zeroValue103
  t146 := Tryd.underlying104
  a146 := Tryd.isAgg104
  z146 := Tryd.sizeOf104
  v146 := Tryd.zeroValue104 }
open Go.RowKit Go.Lib in
theorem Tryd.strings_LastIndex_one (s sub : ByteArray) (h1 : sub.size = 1) (hs : s.size < 4611686018427387904) (w : World) :
    Calls Tryd.prog 58 #[.string s, .string sub] w fun e w' => e = .returned (.int .i64 (Lib.lastIndexByte s ((sub[0]'(by omega)).toNat : Int))) ∧ w' = w := Any.strings_LastIndex_one Tryd.lays148 s sub h1 hs w
end Go.Proofs

namespace Go.Proofs.YthpcbbkpjggjbaaDoor
open Go.RowKit
set_option maxRecDepth 4000

theorem last_at {s : ByteArray} {a b : List UInt8} (h : s.data.toList = a ++ 47 :: b) (hb : (47 : UInt8) ∉ b) : Lib.lastIndexByte s 47 = (a.length : Int) := by
  have := Wk.last_of a b hb
  rw [← h] at this
  exact this

theorem last_call (s : ByteArray) (a b : List UInt8) (w : World) (h : s.data.toList = a ++ 47 :: b) (hb : (47 : UInt8) ∉ b) (hs : s.size < 4611686018427387904) :
    Calls Tryd.prog 58 #[.string s, .string ⟨#[47]⟩] w fun e w' => e = .returned (.int .i64 (a.length : Nat)) ∧ w' = w := by
  refine (Tryd.strings_LastIndex_one s ⟨#[47]⟩ rfl hs w).mono ?_
  rintro e w' ⟨rfl, h'⟩
  have e1 : (((⟨#[47]⟩ : ByteArray)[0]'(by decide)).toNat : Int) = 47 := by decide
  rw [e1, last_at h hb]
  exact ⟨rfl, h'⟩

set_option maxHeartbeats 1000000 in
theorem parent_any (s : ByteArray) (a b : List UInt8) (w : World) (h : s.data.toList = a ++ 47 :: b) (hb : (47 : UInt8) ∉ b) (hs : s.size < 4611686018427387904) :
    Calls Tryd.prog 42 #[.string s] w fun e w' => e = .returned (.string ⟨a.toArray⟩) ∧ w' = w := by
  have hl := last_call s a b w h hb hs
  have hsz : s.size = a.length + 1 + b.length := by rw [Lib.size_eq, h]; simp; omega
  have he : Hid (s.extract 0 a.length = ⟨a.toArray⟩) := by
    show _ = _
    rw [ext_eq, h]; simp
  generalize hn : a.length = n at *
  go_enter Tryd.func42, Tryd.ntmps42
  go_wp2_with fail
  refine hl.mono ?_
  rintro e u ⟨rfl, hu⟩
  obtain rfl := hu.symm
  go_wp2_with fail
  go_ret
  exact ⟨congrArg (fun z => Ending.returned (.string z)) he.out, rfl⟩

theorem kept_set8 {m : Nat} {w W : World} {G : Nat} (h : Kept (fun k => k ≠ m) w W) (hG : w.heap.size ≤ G) (b0 b1 b2 b3 b4 b5 b6 b7 : UInt8) : Kept (fun k => k ≠ m) w (set8 W G b0 b1 b2 b3 b4 b5 b6 b7) := by
  have hb : Below G W (set8 W G b0 b1 b2 b3 b4 b5 b6 b7) := below_set8 (Below.refl _ _) (Nat.le_refl _) _ _ _ _ _ _ _ _
  exact ⟨hb.os.trans h.os, hb.tape.trans h.tape, hb.output.trans h.output, Nat.le_trans h.size hb.size, fun k hk hp => (hb.block k (by omega)).trans (h.block k hk hp)⟩

theorem kept_not8 (W : World) (G : Nat) (b0 b1 b2 b3 b4 b5 b6 b7 : UInt8) : Kept (fun k => k ≠ G) W (set8 W G b0 b1 b2 b3 b4 b5 b6 b7) :=
  (((((((((Kept.refl _ W).setCell (by simp) _).setCell (by simp) _).setCell (by simp) _).setCell (by simp) _).setCell (by simp) _).setCell (by simp) _).setCell (by simp) _).setCell (by simp) _)

theorem two_at {W : World} {B : Nat} {x : Blb} (h0 : W.cell? ⟨B, 0, none⟩ = some (.int .i64 x.kind)) (h1 : W.cell? ⟨B, 1, none⟩ = some (.string x.bytes)) : ∀ j u, (blC x)[j]? = some u → W.cell? ((⟨B, 0, none⟩ : Addr).add j) = some u := by
  intro j u hj
  rw [Addr.add_mid, Nat.zero_add]
  match j, hj with
  | 0, hj => rw [h0]; exact hj
  | 1, hj => rw [h1]; exact hj

theorem set_six {W : World} {M : Nat} {x0 x1 x2 x3 x4 x5 x6 : Value} {T : TypeId} {fr : Nat × Nat} (h : W.heap[M]? = some (.cells #[x0, x1, x2, x3, x4, x5, x6] T fr)) (a : Value) :
    (W.setCell ⟨M, 6, none⟩ a).heap[M]? = some (.cells #[x0, x1, x2, x3, x4, x5, a] T fr) := by
  simp [World.setCell, Array.getElem?_modify, h]
end Go.Proofs.YthpcbbkpjggjbaaDoor

namespace Go.Proofs
open Go.Shelf
def Tryd.lays110_ren : Go.Shelf.Ren := ⟨fun | 110 => 41 | 109 => 57 | n => n, fun | 31 => 50 | 9 => 9 | 4 => 4 | 3 => 3 | 0 => 0 | n => n, fun | n => n⟩
theorem Tryd.lays110 : Go.Proofs.Lays.n110 Tryd.prog Tryd.lays110_ren := {
  mixed := by kernel_rfl
  f109 := Tryd.func57.trans (congrArg some (by kernel_rfl))
  f110 := Tryd.func41.trans (congrArg some (by kernel_rfl))
  t0 := Tryd.underlying0
  a0 := Tryd.isAgg0
  z0 := Tryd.sizeOf0
  v0 := Tryd.zeroValue0
  t3 := Tryd.underlying3
  a3 := Tryd.isAgg3
  z3 := Tryd.sizeOf3
  v3 := Tryd.zeroValue3
  t4 := Tryd.underlying4
  a4 := Tryd.isAgg4
  z4 := Tryd.sizeOf4
  v4 := Tryd.zeroValue4
  t9 := Tryd.underlying9
  a9 := Tryd.isAgg9
  z9 := Tryd.sizeOf9
  v9 := Tryd.zeroValue9
  t31 := Tryd.underlying50
  a31 := Tryd.isAgg50
  z31 := Tryd.sizeOf50
  v31 := Tryd.zeroValue50 }
open Go.Lib in
theorem Tryd.slices_Contains_string (b off n c : Nat) (zs : List ByteArray) (x : ByteArray) (w : World) (hz : n ≤ zs.length) (hbig : n ≤ 9223372036854775807) (hc : ∀ j, j < zs.length → w.cell? ⟨b, off + j, none⟩ = some (.string (zs.getD j ByteArray.empty))) :
    Calls Tryd.prog 41 #[.slice (some ⟨b, off, none⟩) n c, .string x] w fun e w' => e = .returned (.bool (Lib.containsS (zs.take n) x)) ∧ w' = w := Any.slices_Contains_string Tryd.lays110 b off n c zs x w hz hbig hc
open Go.Lib in
theorem Tryd.slices_Contains_string_empty (a : Option Addr) (c : Nat) (x : ByteArray) (w : World) :
    Calls Tryd.prog 41 #[.slice a 0 c, .string x] w fun e w' => e = .returned (.bool false) ∧ w' = w := Any.slices_Contains_string_empty Tryd.lays110 a c x w
end Go.Proofs

namespace Go.Proofs.YthpcbbkpjggjbaaDoor
open Go.RowKit
set_option maxRecDepth 4000

def mbN (k : Int) : Int := if k = 1 then 4096 else if k = 3 then 1024 else 0

def knB (k : Int) : Bool := decide (k = 1 ∨ k = 2 ∨ k = 3)

theorem most_any (k : Int) (w : World) :
    Calls Tryd.prog 55 #[.int .i64 k] w fun e w' => e = .returned (.tuple #[.int .i64 (mbN k), .bool (knB k)]) ∧ w' = w := by
  by_cases h1 : k = 1
  · subst h1
    go_enter Tryd.func55, Tryd.ntmps55
    go_wp2_with fail
    go_ret2
    exact ⟨rfl, rfl⟩
  by_cases h2 : k = 2
  · subst h2
    go_enter Tryd.func55, Tryd.ntmps55
    go_wp2_with fail
    go_ret2
    exact ⟨rfl, rfl⟩
  by_cases h3 : k = 3
  · subst h3
    go_enter Tryd.func55, Tryd.ntmps55
    go_wp2_with fail
    go_ret2
    exact ⟨rfl, rfl⟩
  have HE : Hid (knB k = false ∧ mbN k = 0) := ⟨decide_eq_false fun h => by omega, by unfold mbN; rw [if_neg h1, if_neg h3]⟩
  have e1 : (k == 1) = false := beq_eq_false_iff_ne.2 h1
  have e2 : (k == 2) = false := beq_eq_false_iff_ne.2 h2
  have e3 : (k == 3) = false := beq_eq_false_iff_ne.2 h3
  go_enter Tryd.func55, Tryd.ntmps55
  go_wp2_with fail
  go_ret2
  exact ⟨by rw [HE.out.1, HE.out.2]; rfl, rfl⟩

theorem mb_iff {kind : Int} (hk : kind = 1 ∨ kind = 2 ∨ kind = 3) (l : List UInt8) : ((l.length : Int) > mbN kind) ↔ ((kind = 1 ∧ 4096 < l.length) ∨ (kind = 2 ∧ l ≠ []) ∨ (kind = 3 ∧ 1024 < l.length)) := by
  have h0 : l ≠ [] ↔ 0 < l.length := List.length_pos_iff.symm
  rw [h0]
  rcases hk with rfl | rfl | rfl
  · show (l.length : Int) > 4096 ↔ _
    omega
  · show (l.length : Int) > 0 ↔ _
    omega
  · show (l.length : Int) > 1024 ↔ _
    omega

theorem behind_any (a b : ByteArray) (w : World) (ha : a.size ≤ 140737488351232) (hb : b.size ≤ 140737488351232) (hT : Tabs w) :
    Calls Tryd.prog 40 #[.string a, .string b] w fun e w' => e = .returned (.bool (Nn.less b.data.toList a.data.toList).1) ∧ Below w.heap.size w w' := by
  have hl := less_any b a w hb ha hT
  generalize (Nn.less b.data.toList a.data.toList).1 = L at *
  generalize (Nn.less b.data.toList a.data.toList).2 = E at *
  clear hT
  go_enter Tryd.func40, Tryd.ntmps40
  go_wp2_with fail
  refine hl.mono ?_
  rintro e w1 ⟨rfl, b1⟩
  have HB : Hid (Below w.heap.size w w1) := b1
  clear hl b1
  go_wp2_with fail
  go_ret
  exact ⟨rfl, HB.out⟩

set_option maxHeartbeats 2000000 in
theorem citem_any (x : Im) (w : World) (hx : x.Ok) (hT : Tabs w) :
    Calls Tryd.prog 39 #[imV x] w fun e w' => e = .returned (.int .i64 (Wk.iErr x.it)) ∧ Below w.heap.size w w' := by
  obtain ⟨path, kind, mode, time, bytes⟩ := x
  obtain ⟨W1, hW1⟩ : ∃ W1, W1 = w.alloc (.cells #[.string path, .int .i64 kind, .int .i64 mode, .int .i64 time, .string bytes] 29) := ⟨_, rfl⟩
  have hB1 : Below w.heap.size w W1 := by rw [hW1]; exact (Below.refl _ w).alloc (Nat.le_refl _) _
  have HB1 : Hid (Below w.heap.size w W1) := hB1
  have HM : Hid (W1.heap[w.heap.size]? = some (.cells #[.string path, .int .i64 kind, .int .i64 mode, .int .i64 time, .string bytes] 29 (0, 0))) := by rw [hW1]; exact heap_alloc_new w _
  have hsp := split_any path W1 (by have := hx.path; have : path.size ≤ 140737488351232 := this; omega) (hT.below hB1)
  have hmost := fun W => most_any kind W
  obtain ⟨E, hE⟩ : ∃ E, E = Wk.iErr (Im.it ⟨path, kind, mode, time, bytes⟩) := ⟨_, rfl⟩
  rw [← hE]
  have hbz : bytes.data.toList.length = bytes.size := (Lib.size_eq bytes).symm
  have HE : Hid (E = if (Nn.split path.data.toList).2 ≠ 0 then (Nn.split path.data.toList).2 else if (Nn.split path.data.toList).1 = [] then 8 else if kind ≠ 1 ∧ kind ≠ 2 ∧ kind ≠ 3 then 5 else if mode < 0 ∨ 511 < mode then 1
      else if (kind = 1 ∧ 4096 < bytes.data.toList.length) ∨ (kind = 2 ∧ bytes.data.toList ≠ []) ∨ (kind = 3 ∧ 1024 < bytes.data.toList.length) then 2 else if kind = 3 ∧ bytes.data.toList = [] then 4 else 0) := hE
  rw [hbz] at HE
  have HMb : Hid (∀ n : Int, n = mbN kind → knB kind = true → (((bytes.size : Int) > n) ↔ ((kind = 1 ∧ 4096 < bytes.size) ∨ (kind = 2 ∧ bytes.data.toList ≠ []) ∨ (kind = 3 ∧ 1024 < bytes.size)))) := by
    intro n hn hk
    have hk' : kind = 1 ∨ kind = 2 ∨ kind = 3 := of_decide_eq_true hk
    subst hn
    have := mb_iff hk' bytes.data.toList
    rw [hbz] at this
    exact this
  have HKn : Hid (knB kind = false ↔ (kind ≠ 1 ∧ kind ≠ 2 ∧ kind ≠ 3)) := by
    show _ ↔ _
    unfold knB
    rw [decide_eq_false_iff_not]
    omega
  unfold SpOut at hsp
  rcases hS : Nn.split path.data.toList with ⟨sl, se⟩
  rw [hS] at hsp HE
  dsimp only at hsp HE
  have hbz2 : bytes.size ≤ 140737488351232 := hx.bytes
  obtain ⟨m0, m1, m2, m3, m4, mlt⟩ := five_at HM.out
  generalize hmb : mbN kind = MB at *
  generalize hkn : knB kind = KN at *
  clear hE hbz hx hT hB1 hS
  go_enter Tryd.func39, Tryd.ntmps39
  go_wp2_with fail
  rw [← hW1]
  clear hW1
  refine hsp.mono ?_
  rintro e w2 ⟨v, l, rfl, hdl, htx, _, b2⟩
  have HB2 : Hid (Below w.heap.size w w2) := HB1.out.trans (b2.mono HB1.out.size)
  obtain ⟨n0, n1, n2, n3, n4, nlt⟩ := five_at ((b2.block _ (Array.getElem?_eq_some_iff.1 HM.out).1).trans HM.out)
  obtain ⟨a, c, rfl⟩ := htx.slice
  have hl0 : l.length = 0 ↔ sl = [] := by
    rw [← dl_length, hdl]
    exact List.length_eq_zero_iff
  have HL0 : Hid (l.length = 0 ↔ sl = []) := hl0
  generalize l.length = LN at *
  clear hsp b2 htx hdl m0 m1 m2 m3 m4 mlt hl0
  by_cases c1 : se = 0
  case neg =>
    have hne : (se != 0) = true := by rw [bne_iff_ne]; exact c1
    have HEe : Hid (E = se) := by show _ = _; rw [HE.out, if_pos c1]
    clear HE c1
    go_wp2_with fail
    go_ret
    exact ⟨by rw [HEe.out]; rfl, HB2.out⟩
  have hne : (se != 0) = false := by rw [c1]; rfl
  by_cases c2 : LN = 0
  · have HEe : Hid (E = 8) := by show _ = _; rw [HE.out, if_neg (fun q => q c1), if_pos (HL0.out.1 c2)]
    subst c2
    clear HE c1
    go_wp2_with fail
    go_ret
    exact ⟨by rw [HEe.out]; rfl, HB2.out⟩
  have c2' : ¬ sl = [] := fun q => c2 (HL0.out.2 q)
  have hl1 : (((LN : Nat) : Int) == 0) = false := by rw [beq_eq_false_iff_ne]; omega
  cases KN with
  | false =>
    have HEe : Hid (E = 5) := by show _ = _; rw [HE.out, if_neg (fun q => q c1), if_neg c2', if_pos (HKn.out.1 rfl)]
    clear HE c1 c2 c2' HMb HKn
    go_wp2_with fail
    refine (hmost _).mono ?_
    rintro e u ⟨rfl, hu⟩
    obtain rfl := hu.symm
    go_wp2_with fail
    go_ret
    exact ⟨by rw [HEe.out]; rfl, HB2.out⟩
  | true =>
    have c3 : ¬ (kind ≠ 1 ∧ kind ≠ 2 ∧ kind ≠ 3) := fun q => by have := HKn.out.2 q; cases this
    have hMb := HMb.out MB rfl rfl
    have HE2 : Hid (E = if mode < 0 ∨ 511 < mode then 1 else if (bytes.size : Int) > MB then 2 else if kind = 3 ∧ bytes.data.toList = [] then 4 else 0) := by
      show _ = _
      rw [HE.out, if_neg (fun q => q c1), if_neg c2', if_neg c3]
      by_cases q : (bytes.size : Int) > MB
      · rw [if_pos q, if_pos (hMb.1 q)]
      · rw [if_neg q, if_neg (fun z => q (hMb.2 z))]
    clear HE c1 c2 c2' HMb HKn c3 hMb hkn
    go_wp2_with fail
    refine (hmost _).mono ?_
    rintro e u ⟨rfl, hu⟩
    obtain rfl := hu.symm
    clear hmost hu hmb
    by_cases q1 : mode < 0
    · have HEe : Hid (E = 1) := by show _ = _; rw [HE2.out, if_pos (.inl q1)]
      clear HE2
      go_wp2_with fail
      go_ret
      exact ⟨by rw [HEe.out]; rfl, HB2.out⟩
    by_cases q2 : 511 < mode
    · have HEe : Hid (E = 1) := by show _ = _; rw [HE2.out, if_pos (.inr q2)]
      clear HE2
      go_wp2_with fail
      go_ret
      exact ⟨by rw [HEe.out]; rfl, HB2.out⟩
    by_cases q3 : (bytes.size : Int) > MB
    · have HEe : Hid (E = 2) := by show _ = _; rw [HE2.out, if_neg (by omega), if_pos q3]
      clear HE2
      go_wp2_with fail
      go_ret
      exact ⟨by rw [HEe.out]; rfl, HB2.out⟩
    by_cases q4 : kind = 3
    · by_cases q5 : bytes = ⟨#[]⟩
      · have HEe : Hid (E = 4) := by show _ = _; rw [HE2.out, if_neg (by omega), if_neg q3, if_pos ⟨q4, by rw [q5]⟩]
        subst q4
        subst q5
        clear HE2
        go_wp2_with fail
        go_ret
        exact ⟨by rw [HEe.out]; rfl, HB2.out⟩
      · have HEe : Hid (E = 0) := by show _ = _; rw [HE2.out, if_neg (by omega), if_neg q3, if_neg (fun z => q5 (of_data z.2))]
        have hne5 : bytes.toList.isEmpty = false := by
          rw [Lib.toList_data]
          cases h : bytes.data.toList with
          | nil => exact absurd (of_data h) q5
          | cons b r => rfl
        subst q4
        clear HE2
        go_wp2_with fail
        go_ret
        exact ⟨by rw [HEe.out]; rfl, HB2.out⟩
    · have HEe : Hid (E = 0) := by show _ = _; rw [HE2.out, if_neg (by omega), if_neg q3, if_neg (fun z => q4 z.1)]
      have hk3 : (kind == 3) = false := beq_eq_false_iff_ne.2 q4
      clear HE2
      go_wp2_with fail
      go_ret
      exact ⟨by rw [HEe.out]; rfl, HB2.out⟩

end Go.Proofs.YthpcbbkpjggjbaaDoor

namespace Go.Proofs.YthpcbbkpjggjbaaDoor
open Go.RowKit
set_option maxRecDepth 4000

theorem info_stx : (Tryd.prog.info? 9).map (fun i => (i.zero, i.size, i.bytes)) = some (some (.string ⟨#[]⟩), 1, 16) := by kernel_rfl

theorem wErr_step {l : List Im} {j : Nat} {x : Im} (hx : l[j]? = some x) : Wk.wErrF (its (l.take j)) (its (l.drop j)) = if Wk.iErr x.it ≠ 0 then Wk.iErr x.it else if Wk.late (its (l.take j)) x.it = true then 4 else if Wk.lies (its (l.take j)) x.it = false then 9 else Wk.wErrF (its (l.take (j + 1))) (its (l.drop (j + 1))) := by
  have hlt := (List.getElem?_eq_some_iff.1 hx).1
  have e0 : its (l.drop j) = x.it :: its (l.drop (j + 1)) := by
    rw [List.drop_eq_getElem_cons hlt, (List.getElem?_eq_some_iff.1 hx).2]; rfl
  have e1 : its (l.take (j + 1)) = its (l.take j) ++ [x.it] := by
    rw [List.take_succ_eq_append_getElem hlt, (List.getElem?_eq_some_iff.1 hx).2]; simp [its]
  rw [e0, Wk.wErrF, e1]

theorem late_at {l : List Im} {j : Nat} {x y : Im} (hy : l[j]? = some y) : Wk.late (its (l.take (j + 1))) x.it = !(Nn.less y.path.data.toList x.path.data.toList).1 := by
  have hlt := (List.getElem?_eq_some_iff.1 hy).1
  have e1 : its (l.take (j + 1)) = its (l.take j) ++ [y.it] := by
    rw [List.take_succ_eq_append_getElem hlt, (List.getElem?_eq_some_iff.1 hy).2]; simp [its]
  unfold Wk.late
  rw [e1, List.getLast?_concat]
  rfl

theorem dirs_more {l : List Im} {j : Nat} {x : Im} (hx : l[j]? = some x) : Wk.dirs (its (l.take (j + 1))) = if x.kind = 2 then Wk.dirs (its (l.take j)) ++ [x.it.path] else Wk.dirs (its (l.take j)) := by
  have hlt := (List.getElem?_eq_some_iff.1 hx).1
  have e1 : its (l.take (j + 1)) = its (l.take j) ++ [x.it] := by
    rw [List.take_succ_eq_append_getElem hlt, (List.getElem?_eq_some_iff.1 hx).2]; simp [its]
  rw [e1, Wk.dirs_snoc]
  rfl

theorem cont_dirs {D : List ByteArray} {L : List Wk.Bs} (h : dl D = L) (p : Wk.Bs) : Lib.containsS D (mkB p) = decide (p ∈ L) := by
  rw [Bool.eq_iff_iff, Lib.containsS_iff, decide_eq_true_eq, ← h]
  constructor
  · intro hm
    exact List.mem_map.2 ⟨_, hm, rfl⟩
  · intro hm
    obtain ⟨b, hb, e⟩ := List.mem_map.1 hm
    have : b = mkB p := by
      rw [mkB, ← e]
    rw [← this]; exact hb

set_option maxHeartbeats 4000000 in
set_option maxRecDepth 10000 in
theorem wcheck_any (v : Value) (l : List Im) (w : World) (h : Ims w v l) (hl : l.length ≤ 140737488351232) (hok : ∀ x ∈ l, x.Ok) (hT : Tabs w) :
    Calls Tryd.prog 20 #[v] w fun e w' => e = .returned (.int .i64 (Wk.world (its l))) ∧ Below w.heap.size w w' := by
  obtain ⟨i0, hi, hz0, hz1, hz2⟩ := info_parts info_stx
  obtain ⟨a, c, rfl, hlc1, hlc2⟩ := h.slice
  by_cases h100 : 100 < l.length
  · have HE : Hid (Wk.world (its l) = 2) := by show _ = _; unfold Wk.world; rw [if_pos (by rw [its_length]; exact h100)]
    generalize l.length = n at *
    go_enter Tryd.func20, Tryd.ntmps20
    go_wp2_with fail
    go_ret
    exact ⟨by rw [HE.out]; rfl, Below.refl _ _⟩
  have HE0 : Hid (Wk.world (its l) = Wk.wErrF (its (l.take 0)) (its (l.drop 0))) := by
    show _ = _; unfold Wk.world; rw [if_neg (by rw [its_length]; exact h100)]; rfl
  obtain ⟨R, hR⟩ : ∃ R, R = Wk.world (its l) := ⟨_, rfl⟩
  rw [← hR] at HE0 ⊢
  have HX : Hid (Ims w (.slice a l.length c) l) := h
  have HK : Hid (∀ x ∈ l, x.Ok) := hok
  have HT : Hid (Tabs w) := hT
  have hl100 : l.length ≤ 100 := by omega
  obtain ⟨N, hN⟩ : ∃ N, N = l.length := ⟨_, rfl⟩
  have HN : Hid (N = l.length) := hN
  rw [← hN] at HX hl100 hlc1 hl ⊢
  have HD1 : Hid ((w.alloc (.cells #[.string ⟨#[]⟩] 9)).ownsRow w.heap.size 9 1 (.slice (some ⟨w.heap.size, 0, none⟩) 1 1) [mkB []].length ([mkB []].map Tv)) :=
    ⟨by simp, .inr ⟨w.heap.size, 1, #[.string ⟨#[]⟩], rfl, Nat.le_refl _, heap_alloc_new w _, Nat.le_refl _, by unfold maxLen; simp, rfl, rfl⟩⟩
  have HB1 : Hid (Below w.heap.size w (w.alloc (.cells #[.string ⟨#[]⟩] 9))) := (Below.refl _ w).alloc (Nat.le_refl _) _
  clear h hok hT h100 hR hN
  go_enter Tryd.func20, Tryd.ntmps20
  go_wp2_with fail
  go_loopw [3, 13] (fun vd i wr => ∃ (j : Nat) (D : List ByteArray), j ≤ N ∧ i = .int .i64 j ∧ D.length ≤ j + 1 ∧ Hid (dl D = Wk.dirs (its (l.take j))) ∧ Hid (R = Wk.wErrF (its (l.take j)) (its (l.drop j))) ∧ Hid (wr.ownsRow w.heap.size 9 1 vd D.length (D.map Tv)) ∧ Hid (Below w.heap.size w wr)) (fun _ i _ => N - (intOf i).toNat)
  case atStart => exact ⟨0, [mkB []], by omega, rfl, by simp, rfl, HE0, HD1, HB1⟩
  case round =>
    clear HE0 HD1 HB1
    obtain ⟨j, D, hj, rfl, hDj, HD, HE, HO, HB⟩ := hrel
    by_cases hlt : j < N
    · have hjl : j < l.length := by rw [← HN.out]; exact hlt
      obtain ⟨x, hx⟩ : ∃ x, l[j]? = some x := ⟨_, List.getElem?_eq_getElem hjl⟩
      have hxo := HK.out x (List.mem_of_getElem? hx)
      have hst := wErr_step hx
      have HSt : Hid (R = if Wk.iErr x.it ≠ 0 then Wk.iErr x.it else if Wk.late (its (l.take j)) x.it = true then 4 else if Wk.lies (its (l.take j)) x.it = false then 9 else Wk.wErrF (its (l.take (j + 1))) (its (l.drop (j + 1)))) := by
        show _ = _; rw [HE.out, hst]
      have HDm := dirs_more hx
      rw [← HD.out] at HDm
      have hXr := HX.out.below HB.out
      rw [HN.out] at hXr
      obtain ⟨kb, ko, rfl, hkb, x0, x1, x2, x3, x4⟩ := hXr.item j x hx
      have hci := fun W (hW : Below w.heap.size w W) => citem_any x W hxo (HT.out.below hW)
      obtain ⟨a3, c3, e3⟩ := own_form HO.out
      subst e3
      have hok1 : Wk.iErr x.it = 0 → Wk.Ok1 x.it := fun q => Wk.iErr_ok q
      have HP : Hid (Wk.iErr x.it = 0 → (∀ W, Calls Tryd.prog 42 #[.string x.path] W fun e w' => e = .returned (.string (mkB (Wk.par x.it))) ∧ w' = W) ∧ Wk.lies (its (l.take j)) x.it = decide (Wk.par x.it ∈ Wk.dirs (its (l.take j)))) := fun q =>
        ⟨fun W => parent_any x.path (Wk.par x.it) (Wk.nam x.it) W (path_parts (Wk.iErr_ok q)) (Wk.nam_slash (Wk.iErr_ok q)) (path_size (Wk.iErr_ok q) hxo.path), Wk.lies_dirs (Wk.iErr_ok q)⟩
      have HDm2 : Hid (Wk.dirs (its (l.take (j + 1))) = if x.kind = 2 then dl D ++ [x.it.path] else dl D) := HDm
      have HPt : Hid (mkB x.it.path = x.path) := rfl
      obtain ⟨WA, hWA⟩ : ∃ WA, WA = wr.alloc (.cells #[.string x.path, .int .i64 x.kind, .int .i64 x.mode, .int .i64 x.time, .string x.bytes] 29) := ⟨_, rfl⟩
      have hbA : Below wr.heap.size wr WA := by rw [hWA]; exact (Below.refl _ wr).alloc (Nat.le_refl _) _
      have HM : Hid (WA.heap[wr.heap.size]? = some (.cells #[.string x.path, .int .i64 x.kind, .int .i64 x.mode, .int .i64 x.time, .string x.bytes] 29 (0, 0))) := by rw [hWA]; exact heap_alloc_new wr _
      have HBA : Hid (Below w.heap.size w WA) := HB.out.trans (hbA.mono HB.out.size)
      have HOA : Hid (WA.ownsRow w.heap.size 9 1 (.slice a3 D.length c3) D.length (D.map Tv)) := own_below HO.out hbA
      have hciA := hci WA HBA.out
      obtain ⟨PB, hPB⟩ : ∃ PB, PB = wr.heap.size := ⟨_, rfl⟩
      have HPB : Hid (w.heap.size ≤ PB) := by show _ ≤ _; rw [hPB]; exact HB.out.size
      have HPl : Hid (x.path.size ≤ 140737488351232) := hxo.path
      rw [← hPB] at HM
      obtain ⟨DN, hDN⟩ : ∃ DN, DN = D.length := ⟨_, rfl⟩
      have HDN : Hid (DN = D.length) := hDN
      rw [← hDN] at HOA hDj ⊢
      have HHx : Hid (l[j]? = some x) := hx
      obtain ⟨xp, xk, xm, xt, xb⟩ := x
      dsimp only at *
      clear hst HDm hXr hci hbA hx hxo hok1 HE HO HB hDN
      go_wp2_with fail
      rw [← hWA]
      refine hciA.mono ?_
      rintro e w2 ⟨rfl, b2⟩
      have HB2 : Hid (Below w.heap.size w w2) := HBA.out.trans (b2.mono HBA.out.size)
      have hM2 : w2.heap[PB]? = some (.cells #[.string xp, .int .i64 xk, .int .i64 xm, .int .i64 xt, .string xb] 29 (0, 0)) := (b2.block _ (Array.getElem?_eq_some_iff.1 HM.out).1).trans HM.out
      have HM2 : Hid (w2.heap[PB]? = some (.cells #[.string xp, .int .i64 xk, .int .i64 xm, .int .i64 xt, .string xb] 29 (0, 0))) := hM2
      have HO2 : Hid (w2.ownsRow w.heap.size 9 1 (.slice a3 DN c3) DN (D.map Tv)) := own_below HOA.out b2
      obtain ⟨y0, y1, y2, y3, y4, ylt⟩ := five_at hM2
      rw [← hPB]
      clear hWA hciA b2 hM2 x0 x1 x2 x3 x4 hkb HM HOA HBA hPB
      by_cases hE : Wk.iErr (Im.it ⟨xp, xk, xm, xt, xb⟩) = 0
      case neg =>
        have HRe : Hid (R = Wk.iErr (Im.it ⟨xp, xk, xm, xt, xb⟩)) := by show _ = _; rw [HSt.out, if_pos hE]
        have hne : (Wk.iErr (Im.it ⟨xp, xk, xm, xt, xb⟩) != 0) = true := by rw [bne_iff_ne]; exact hE
        generalize Wk.iErr (Im.it ⟨xp, xk, xm, xt, xb⟩) = ER at *
        clear hE HSt HP
        go_wp2_with fail
        go_ret
        exact ⟨by rw [HRe.out]; rfl, HB2.out⟩
      obtain ⟨hpar, hlies⟩ := HP.out hE
      have HSt2 : Hid (R = if Wk.late (its (l.take j)) (Im.it ⟨xp, xk, xm, xt, xb⟩) = true then 4 else if Wk.lies (its (l.take j)) (Im.it ⟨xp, xk, xm, xt, xb⟩) = false then 9 else Wk.wErrF (its (l.take (j + 1))) (its (l.drop (j + 1)))) := by
        show _ = _; rw [HSt.out, if_neg (fun q => q hE)]
      rw [hE]
      obtain ⟨LT, hLT⟩ : ∃ LT, LT = Wk.late (its (l.take j)) (Im.it ⟨xp, xk, xm, xt, xb⟩) := ⟨_, rfl⟩
      have HLT : Hid (LT = Wk.late (its (l.take j)) (Im.it ⟨xp, xk, xm, xt, xb⟩)) := hLT
      clear HSt HP hLT hE
      go_upto_region 10 with fail
      go_cut [36] from 14 to 51 (fun y wx => y = .bool LT ∧ Hid (Below w.heap.size w wx ∧ Below w2.heap.size w2 wx))
      case first =>
        by_cases hj0 : j = 0
        · subst hj0
          have HL0 : Hid (LT = false) := by show _ = _; rw [HLT.out]; rfl
          have hd : decide ((0 : Int) > 0) = false := by decide
          go_region
          all_goals
            go_wp2_with fail
            go_meet
            exact ⟨by rw [HL0.out], HB2.out.drew, (Below.refl _ w2).drew⟩
        · obtain ⟨i, rfl⟩ : ∃ i, j = i + 1 := ⟨j - 1, by omega⟩
          have hil : i < l.length := by omega
          obtain ⟨y, hy⟩ : ∃ y, l[i]? = some y := ⟨_, List.getElem?_eq_getElem hil⟩
          have hyo := HK.out y (List.mem_of_getElem? hy)
          have hla := late_at (x := ⟨xp, xk, xm, xt, xb⟩) hy
          have hX2 := HX.out.below HB2.out
          rw [HN.out] at hX2
          obtain ⟨kb', ko', ee, hkb', u0, _⟩ := hX2.item i y hy
          cases ee
          have hbeh := fun W (hW : Below w2.heap.size w2 W) => behind_any xp y.path W HPl.out hyo.path (HT.out.below (HB2.out.trans (hW.mono HB2.out.size)))
          have HLT' : Hid (LT = Wk.late (its (l.take (i + 1))) (Im.it ⟨xp, xk, xm, xt, xb⟩)) := HLT
          rw [hla] at HLT
          dsimp only at HLT hbeh
          generalize (Nn.less y.path.data.toList xp.data.toList).1 = LS at *
          have hd : decide (((i : Int) + 1) > 0) = true := decide_eq_true (by omega)
          have hij : ((i : Int) + 1 - 1) = i := by omega
          have hgt : ((i : Int) + 1 > 0) := by omega
          have hwr : IntKind.i64.wrap (i : Int) = (i : Int) := by
            simp only [IntKind.wrap, IntKind.bits, IntKind.signed]
            simp
            omega
          have HcX : Hid (∀ W, Gw w2 W → W.cell? ⟨PB, 0, none⟩ = some (.string xp)) := fun W hW => (Below.cell hW (p := ⟨PB, 0, none⟩) ylt).trans y0
          have HcY : Hid (∀ W, Gw w2 W → W.cell? ⟨kb, ko + i * 5, none⟩ = some (.string y.path)) := fun W hW => (Below.cell hW (p := ⟨kb, ko + i * 5, none⟩) hkb').trans u0
          have hiN : (i : Int) < (N : Int) := by omega
          generalize y.path = yp at *
          clear hla hX2 hyo hy hil hj0 hjl HHx
          cases LS with
          | true =>
            have HLf : Hid (LT = false) := HLT
            refine wp_region_rel (G := Gw) (W0 := w2) Gw.refl Gw.trans (by kernel_rfl) (by kernel_rfl) (by kernel_rfl) (Below.refl _ w2).drew ?_
            refine .inl ⟨.int .i64 ((i : Int) + 1), fun v W hW hd => step_run rfl _ W (by clear hd; go_simp) rfl (Gw.refl _), ?_⟩
            simp only [Act.put, List.setIfInBounds_toArray, List.set_cons_zero, List.set_cons_succ]
            refine .inl ⟨.bool true, fun v W hW hd => step_run rfl _ W (by clear hd; have he := hgt; go_simp) rfl (Gw.refl _), ?_⟩
            simp only [Act.put, List.setIfInBounds_toArray, List.set_cons_zero, List.set_cons_succ]
            refine .inl ⟨.bool true, fun v W hW hd => step_run rfl _ W (by clear hd; go_simp) rfl (Gw.refl _), ?_⟩
            simp only [Act.put, List.setIfInBounds_toArray, List.set_cons_zero, List.set_cons_succ]
            refine .inl ⟨.pointer (some ⟨PB, 0, none⟩), fun v W hW hd => step_run rfl _ W (by clear hd; go_simp) rfl (Gw.refl _), ?_⟩
            simp only [Act.put, List.setIfInBounds_toArray, List.set_cons_zero, List.set_cons_succ]
            refine .inl ⟨.string xp, fun v W hW hd => step_run rfl _ W (by clear hd; have ce := HcX.out W hW; go_simp) rfl (Gw.refl _), ?_⟩
            simp only [Act.put, List.setIfInBounds_toArray, List.set_cons_zero, List.set_cons_succ]
            refine .inl ⟨.slice (some ⟨kb, ko, none⟩) N c, fun v W hW hd => step_run rfl _ W (by clear hd; go_simp) rfl (Gw.refl _), ?_⟩
            simp only [Act.put, List.setIfInBounds_toArray, List.set_cons_zero, List.set_cons_succ]
            refine .inl ⟨.int .i64 ((i : Int) + 1), fun v W hW hd => step_run rfl _ W (by clear hd; go_simp) rfl (Gw.refl _), ?_⟩
            simp only [Act.put, List.setIfInBounds_toArray, List.set_cons_zero, List.set_cons_succ]
            refine .inl ⟨.int .i64 (i : Int), fun v W hW hd => step_run rfl _ W (by clear hd; have he := hij; have hf := hwr; go_simp) rfl (Gw.refl _), ?_⟩
            simp only [Act.put, List.setIfInBounds_toArray, List.set_cons_zero, List.set_cons_succ]
            refine .inl ⟨.pointer (some ⟨kb, ko + i * 5, none⟩), fun v W hW hd => step_run rfl _ W (by clear hd; go_simp) rfl (Gw.refl _), ?_⟩
            simp only [Act.put, List.setIfInBounds_toArray, List.set_cons_zero, List.set_cons_succ]
            refine .inl ⟨.pointer (some ⟨kb, ko + i * 5, none⟩), fun v W hW hd => step_run rfl _ W (by clear hd; go_simp) rfl (Gw.refl _), ?_⟩
            simp only [Act.put, List.setIfInBounds_toArray, List.set_cons_zero, List.set_cons_succ]
            refine .inl ⟨.string yp, fun v W hW hd => step_run rfl _ W (by clear hd; have ce := HcY.out W hW; go_simp) rfl (Gw.refl _), ?_⟩
            simp only [Act.put, List.setIfInBounds_toArray, List.set_cons_zero, List.set_cons_succ]
            refine .inl ⟨.bool true, fun v W hW hd => step_call rfl 40 #[.string xp, .string yp] (by clear hd; go_simp) ((hbeh W hW).mono fun e w' h => ⟨_, h.1, rfl, h.2⟩), ?_⟩
            simp only [Act.put, List.setIfInBounds_toArray, List.set_cons_zero, List.set_cons_succ]
            refine .inl ⟨.bool false, fun v W hW hd => step_run rfl _ W (by clear hd; go_simp) rfl (Gw.refl _), ?_⟩
            simp only [Act.put, List.setIfInBounds_toArray, List.set_cons_zero, List.set_cons_succ]
            refine .inl ⟨.bool false, fun v W hW hd => step_run rfl _ W (by clear hd; go_simp) rfl (Gw.refl _), ?_⟩
            simp only [Act.put, List.setIfInBounds_toArray, List.set_cons_zero, List.set_cons_succ]
            intro v w3 hW3 hV
            clear hV
            have b3 : Below w2.heap.size w2 w3 := hW3
            clear hW3
            go_wp2_with fail
            go_meet
            exact ⟨by rw [HLf.out], HB2.out.trans (b3.mono HB2.out.size), b3⟩
          | false =>
            have HLf : Hid (LT = true) := HLT
            refine wp_region_rel (G := Gw) (W0 := w2) Gw.refl Gw.trans (by kernel_rfl) (by kernel_rfl) (by kernel_rfl) (Below.refl _ w2).drew ?_
            refine .inl ⟨.int .i64 ((i : Int) + 1), fun v W hW hd => step_run rfl _ W (by clear hd; go_simp) rfl (Gw.refl _), ?_⟩
            simp only [Act.put, List.setIfInBounds_toArray, List.set_cons_zero, List.set_cons_succ]
            refine .inl ⟨.bool true, fun v W hW hd => step_run rfl _ W (by clear hd; have he := hgt; go_simp) rfl (Gw.refl _), ?_⟩
            simp only [Act.put, List.setIfInBounds_toArray, List.set_cons_zero, List.set_cons_succ]
            refine .inl ⟨.bool true, fun v W hW hd => step_run rfl _ W (by clear hd; go_simp) rfl (Gw.refl _), ?_⟩
            simp only [Act.put, List.setIfInBounds_toArray, List.set_cons_zero, List.set_cons_succ]
            refine .inl ⟨.pointer (some ⟨PB, 0, none⟩), fun v W hW hd => step_run rfl _ W (by clear hd; go_simp) rfl (Gw.refl _), ?_⟩
            simp only [Act.put, List.setIfInBounds_toArray, List.set_cons_zero, List.set_cons_succ]
            refine .inl ⟨.string xp, fun v W hW hd => step_run rfl _ W (by clear hd; have ce := HcX.out W hW; go_simp) rfl (Gw.refl _), ?_⟩
            simp only [Act.put, List.setIfInBounds_toArray, List.set_cons_zero, List.set_cons_succ]
            refine .inl ⟨.slice (some ⟨kb, ko, none⟩) N c, fun v W hW hd => step_run rfl _ W (by clear hd; go_simp) rfl (Gw.refl _), ?_⟩
            simp only [Act.put, List.setIfInBounds_toArray, List.set_cons_zero, List.set_cons_succ]
            refine .inl ⟨.int .i64 ((i : Int) + 1), fun v W hW hd => step_run rfl _ W (by clear hd; go_simp) rfl (Gw.refl _), ?_⟩
            simp only [Act.put, List.setIfInBounds_toArray, List.set_cons_zero, List.set_cons_succ]
            refine .inl ⟨.int .i64 (i : Int), fun v W hW hd => step_run rfl _ W (by clear hd; have he := hij; have hf := hwr; go_simp) rfl (Gw.refl _), ?_⟩
            simp only [Act.put, List.setIfInBounds_toArray, List.set_cons_zero, List.set_cons_succ]
            refine .inl ⟨.pointer (some ⟨kb, ko + i * 5, none⟩), fun v W hW hd => step_run rfl _ W (by clear hd; go_simp) rfl (Gw.refl _), ?_⟩
            simp only [Act.put, List.setIfInBounds_toArray, List.set_cons_zero, List.set_cons_succ]
            refine .inl ⟨.pointer (some ⟨kb, ko + i * 5, none⟩), fun v W hW hd => step_run rfl _ W (by clear hd; go_simp) rfl (Gw.refl _), ?_⟩
            simp only [Act.put, List.setIfInBounds_toArray, List.set_cons_zero, List.set_cons_succ]
            refine .inl ⟨.string yp, fun v W hW hd => step_run rfl _ W (by clear hd; have ce := HcY.out W hW; go_simp) rfl (Gw.refl _), ?_⟩
            simp only [Act.put, List.setIfInBounds_toArray, List.set_cons_zero, List.set_cons_succ]
            refine .inl ⟨.bool false, fun v W hW hd => step_call rfl 40 #[.string xp, .string yp] (by clear hd; go_simp) ((hbeh W hW).mono fun e w' h => ⟨_, h.1, rfl, h.2⟩), ?_⟩
            simp only [Act.put, List.setIfInBounds_toArray, List.set_cons_zero, List.set_cons_succ]
            refine .inl ⟨.bool true, fun v W hW hd => step_run rfl _ W (by clear hd; go_simp) rfl (Gw.refl _), ?_⟩
            simp only [Act.put, List.setIfInBounds_toArray, List.set_cons_zero, List.set_cons_succ]
            refine .inl ⟨.bool true, fun v W hW hd => step_run rfl _ W (by clear hd; go_simp) rfl (Gw.refl _), ?_⟩
            simp only [Act.put, List.setIfInBounds_toArray, List.set_cons_zero, List.set_cons_succ]
            intro v w3 hW3 hV
            clear hV
            have b3 : Below w2.heap.size w2 w3 := hW3
            clear hW3
            go_wp2_with fail
            go_meet
            exact ⟨by rw [HLf.out], HB2.out.trans (b3.mono HB2.out.size), b3⟩
      case rest =>
      obtain ⟨rfl, hbb⟩ := hcut
      have HB3 : Hid (Below w.heap.size w wc) := hbb.out.1
      have HM3 : Hid (wc.heap[PB]? = some (.cells #[.string xp, .int .i64 xk, .int .i64 xm, .int .i64 xt, .string xb] 29 (0, 0))) := (hbb.out.2.block _ (Array.getElem?_eq_some_iff.1 HM2.out).1).trans HM2.out
      have HO3 : Hid (wc.ownsRow w.heap.size 9 1 (.slice a3 DN c3) DN (D.map Tv)) := own_below HO2.out hbb.out.2
      clear HB2 HM2 HO2 hbb y0 y1 y2 y3 y4 ylt
      obtain ⟨y0, y1, y2, y3, y4, ylt⟩ := five_at HM3.out
      have hpw : PB < wc.heap.size := ylt
      cases LT with
      | true =>
        have HRe : Hid (R = 4) := by show _ = _; rw [HSt2.out, ← HLT.out]; rfl
        clear HSt2 hlies hpar
        go_wp2_with fail
        go_ret
        exact ⟨by rw [HRe.out]; rfl, HB3.out⟩
      | false =>
      have HSt3 : Hid (R = if decide (Wk.par (Im.it ⟨xp, xk, xm, xt, xb⟩) ∈ dl D) = false then 9 else Wk.wErrF (its (l.take (j + 1))) (its (l.drop (j + 1)))) := by
        show _ = _
        rw [HSt2.out, ← HLT.out, if_neg (by decide), hlies, HD.out]
      have hcont : Calls Tryd.prog 41 #[.slice a3 DN c3, .string (mkB (Wk.par (Im.it ⟨xp, xk, xm, xt, xb⟩)))] wc fun e w' => e = .returned (.bool (decide (Wk.par (Im.it ⟨xp, xk, xm, xt, xb⟩) ∈ dl D))) ∧ w' = wc := by
        have hx := Tx.of_own (w := wc) (l := D) (v := .slice a3 DN c3) (base := w.heap.size) (by rw [← HDN.out]; exact HO3.out)
        by_cases hD0 : D = []
        · subst hD0
          have : DN = 0 := HDN.out
          subst this
          exact Tryd.slices_Contains_string_empty a3 c3 _ wc
        · have hpos : 0 < D.length := List.length_pos_iff.2 hD0
          obtain ⟨bk, o, rfl, hbk, _⟩ := hx.get 0 hpos
          have := Tryd.slices_Contains_string bk o DN c3 D (mkB (Wk.par (Im.it ⟨xp, xk, xm, xt, xb⟩))) wc (by rw [HDN.out]; exact Nat.le_refl _) (by omega) (fun q hq => by
            obtain ⟨bk', o', ee, _, hc⟩ := hx.get q hq
            cases ee
            exact hc)
          rw [HDN.out, List.take_of_length_le (Nat.le_refl _), ← HDN.out, cont_dirs rfl] at this
          exact this
      generalize mkB (Wk.par (Im.it ⟨xp, xk, xm, xt, xb⟩)) = PP at *
      generalize decide (Wk.par (Im.it ⟨xp, xk, xm, xt, xb⟩) ∈ dl D) = CT at *
      clear HSt2 hlies HLT
      cases CT with
      | false =>
        have HRe : Hid (R = 9) := by show _ = _; rw [HSt3.out]; rfl
        clear HSt3
        go_wp2_with fail
        refine (hpar _).mono ?_
        rintro e u ⟨rfl, hu⟩
        obtain rfl := hu.symm
        clear hu
        go_wp2_with fail
        refine hcont.mono ?_
        rintro e u ⟨rfl, hu⟩
        obtain rfl := hu.symm
        clear hu
        go_wp2_with fail
        go_ret
        exact ⟨by rw [HRe.out]; rfl, HB3.out⟩
      | true =>
        have HRn : Hid (R = Wk.wErrF (its (l.take (j + 1))) (its (l.drop (j + 1)))) := by show _ = _; rw [HSt3.out]; rfl
        clear HSt3
        go_wp2_with fail
        refine (hpar _).mono ?_
        rintro e u ⟨rfl, hu⟩
        obtain rfl := hu.symm
        clear hu hpar
        go_wp2_with fail
        refine hcont.mono ?_
        rintro e u ⟨rfl, hu⟩
        obtain rfl := hu.symm
        clear hu hcont
        by_cases hk2 : xk = 2
        · have HDn : Hid (dl (D ++ [xp]) = Wk.dirs (its (l.take (j + 1)))) := by
            show _ = _
            rw [HDm2.out, if_pos hk2]
            show (D ++ [xp]).map _ = D.map _ ++ _
            rw [List.map_append]; rfl
          have hown := HO3.out
          have hws := HB3.out.size
          subst hk2
          go_wp2_with (at_builtin; refine wpList_append_own _ rfl (.tmp 46) (.tmp 49) 50 rfl w.heap.size 9 i0 (.string ⟨#[]⟩) 1 16 Tryd.underlying50 hi hz0 hz1 hz2 rfl (by decide) _ _ _ rfl (hown.alloc _) ⟨wc.heap.size, 0, none⟩ 1 1 [.string xp] rfl rfl ?c1 ?c2 ?c3 ?c4 ?c5 ?_)
          case c1 => intro q u hq; match q, hq with | 0, hq => simp at hq; subst hq; simp [Addr.add]
          case c2 => simp [Value.oneCell']
          case c3 => unfold maxLen; omega
          case c4 => omega
          case c5 => simp; omega
          intro v1 w5 hown5 hgrow _
          have hB5 : Below w.heap.size w w5 := (HB3.out.alloc hws _).grown hgrow (by rw [World.size_alloc]; omega) fun q hq => (hown.lt q hq).1
          have HB5 : Hid (Below w.heap.size w w5) := hB5
          have HO5 : Hid (w5.ownsRow w.heap.size 9 1 v1 (D ++ [xp]).length ((D ++ [xp]).map Tv)) := by
            show World.ownsRow _ _ _ _ _ _ _
            rw [List.length_append, ← HDN.out, List.map_append]
            exact hown5
          have hD5 : (D ++ [xp]).length ≤ j + 1 + 1 := by rw [List.length_append, ← HDN.out]; simp; omega
          clear hown5 hgrow hown hB5
          go_wp2_with fail
          go_roundw
          case measure => simp only [intOf]; omega
          case rel => exact ⟨j + 1, D ++ [xp], by omega, by go_num, hD5, HDn, HRn, HO5, HB5⟩
        · have HDn : Hid (dl D = Wk.dirs (its (l.take (j + 1)))) := by show _ = _; rw [HDm2.out, if_neg hk2]
          have hk2' : (xk == 2) = false := beq_eq_false_iff_ne.2 hk2
          have hD5 : D.length ≤ j + 1 + 1 := by rw [← HDN.out]; omega
          have HO5 : Hid (wc.ownsRow w.heap.size 9 1 (.slice a3 DN c3) D.length (D.map Tv)) := by rw [← HDN.out]; exact HO3.out
          clear hk2
          go_wp2_with fail
          go_roundw
          case measure => simp only [intOf]; omega
          case rel => exact ⟨j + 1, D, by omega, by go_num, hD5, HDn, HRn, HO5, HB3⟩
    · obtain rfl : j = N := by omega
      have HRe : Hid (R = 0) := by
        have e : l.drop j = [] := by rw [HN.out]; exact List.drop_of_length_le (Nat.le_refl _)
        show _ = _
        rw [HE.out, e]; rfl
      clear HE
      go_wp2_with fail
      go_ret
      exact ⟨by rw [HRe.out]; rfl, HB.out⟩

end Go.Proofs.YthpcbbkpjggjbaaDoor

namespace Go.Proofs.YthpcbbkpjggjbaaDoor
open Go.RowKit
set_option maxRecDepth 4000

set_option maxHeartbeats 16000000 in
theorem ddiff_any (va vb : Value) (a : List Im) (b : List Im) (w : World) (ha : Ims w va a) (hb : Ims w vb b) (la : a.length ≤ 140737488351232) (lb : b.length ≤ 140737488351232) (oa : ∀ x ∈ a, x.Ok) (ob : ∀ x ∈ b, x.Ok) (hT : Tabs w) :
    Calls Tryd.prog 8 #[va, vb] w fun e w' => ∃ v l, e = .returned (.tuple #[v, .int .i64 (Dl.diff (its a) (its b)).2]) ∧ w'.ownsRow w.heap.size 31 7 v l.length (rowR emC l) ∧ edl l = (Dl.diff (its a) (its b)).1 ∧ (∀ x ∈ l, x.Ok) ∧ Below w.heap.size w w' := by
  have hca := wcheck_any va a w ha la oa hT
  have HCb : Hid (∀ W, Below w.heap.size w W → Calls Tryd.prog 20 #[vb] W fun e w' => e = .returned (.int .i64 (Wk.world (its b))) ∧ Below W.heap.size W w') := fun W hW => wcheck_any vb b W (hb.below hW) lb ob (hT.below hW)
  have HSd : Hid (a.length + b.length ≤ 1000 → ∀ W, Below w.heap.size w W → Calls Tryd.prog 21 #[va, vb, .func (.func 22) #[] #[]] W fun e w' => ∃ v, e = .returned v ∧ w'.ownsRow W.heap.size 48 12 v (sdII a b).length (rowR iiC (sdII a b)) ∧ Below W.heap.size W w') := fun h W hW => sideII_any va vb a b W (ha.below hW) (hb.below hW) h oa ob (hT.below hW)
  have HP : Hid (Dl.diff (its a) (its b) = if Wk.world (its a) ≠ 0 then ([], Wk.world (its a)) else if Wk.world (its b) ≠ 0 then ([], Wk.world (its b)) else ((Dl.paths ((its a).map Wk.It.path ++ (its b).map Wk.It.path)).filterMap (Dl.diffE (its a) (its b)), 0)) := rfl
  have HT : Hid (Tabs w) := hT
  have HOa : Hid (∀ x ∈ a, x.Ok) := oa
  have HOb : Hid (∀ x ∈ b, x.Ok) := ob
  obtain ⟨RP, hRP⟩ : ∃ RP, RP = Dl.diff (its a) (its b) := ⟨_, rfl⟩
  rw [← hRP] at HP ⊢
  obtain ⟨EA, hEA⟩ : ∃ EA, EA = Wk.world (its a) := ⟨_, rfl⟩
  obtain ⟨EB, hEB⟩ : ∃ EB, EB = Wk.world (its b) := ⟨_, rfl⟩
  rw [← hEA] at hca
  rw [← hEB] at HCb
  have HEA : Hid (EA = Wk.world (its a)) := hEA
  have HEB : Hid (EB = Wk.world (its b)) := hEB
  clear ha hb la lb oa ob hT hRP hEA hEB
  go_enter Tryd.func8, Tryd.ntmps8
  go_wp2_with fail
  refine hca.mono ?_
  rintro e w1 ⟨rfl, b1⟩
  have HB1 : Hid (Below w.heap.size w w1) := b1
  clear hca b1
  by_cases c1 : EA = 0
  case neg =>
    have hne : (EA != 0) = true := by rw [bne_iff_ne]; exact c1
    have HRe : Hid (RP = ([], EA)) := by show _ = _; rw [HP.out, ← HEA.out, if_pos c1]
    clear HP HSd HCb
    go_wp2_with fail
    go_ret2
    exact ⟨_, [], by rw [HRe.out]; rfl, World.ownsRow_nil _ _ _ _, by rw [HRe.out]; rfl, fun x hx => absurd hx List.not_mem_nil, HB1.out⟩
  have hne : (EA != 0) = false := by rw [c1]; rfl
  have HEA0 : Hid (Wk.world (its a) = 0) := by show _ = _; rw [← HEA.out]; exact c1
  go_wp2_with fail
  refine (HCb.out _ HB1.out).mono ?_
  rintro e w2 ⟨rfl, b2⟩
  have HB2 : Hid (Below w.heap.size w w2) := HB1.out.trans (b2.mono HB1.out.size)
  clear HCb b2 hne c1
  by_cases c2 : EB = 0
  case neg =>
    have hne : (EB != 0) = true := by rw [bne_iff_ne]; exact c2
    have HRe : Hid (RP = ([], EB)) := by show _ = _; rw [HP.out, if_neg (fun q => q HEA0.out), ← HEB.out, if_pos c2]
    clear HP HSd
    go_wp2_with fail
    go_ret2
    exact ⟨_, [], by rw [HRe.out]; rfl, World.ownsRow_nil _ _ _ _, by rw [HRe.out]; rfl, fun x hx => absurd hx List.not_mem_nil, HB2.out⟩
  have hne : (EB != 0) = false := by rw [c2]; rfl
  have HEB0 : Hid (Wk.world (its b) = 0) := by show _ = _; rw [← HEB.out]; exact c2
  have hlen : a.length + b.length ≤ 1000 := by
    have h1 := (Dl.wld HEA0.out).1; have h2 := (Dl.wld HEB0.out).1; rw [its_length] at h1 h2; omega
  have hside := HSd.out hlen _ HB2.out
  obtain ⟨S, hS⟩ : ∃ S, S = sdII a b := ⟨_, rfl⟩
  have HS : Hid (S = sdII a b) := hS
  have HS3 : Hid (S.length ≤ 1000) := by
    show _ ≤ _
    rw [hS]
    exact Nat.le_trans (Dl.side_len _ _) hlen
  rw [← hS] at hside
  clear HSd c2 hlen hS
  go_wp2_with fail
  refine hside.mono ?_
  rintro e w4 ⟨vs, rfl, hs, b4⟩
  have HB4 : Hid (Below w.heap.size w w4) := HB2.out.trans (b4.mono HB2.out.size)
  have hR := Rx.of_own (C := iiC) (k := 12) iiC_len hs
  obtain ⟨sa, sc, rfl⟩ := own_form hs
  obtain ⟨N, hN⟩ : ∃ N, N = S.length := ⟨_, rfl⟩
  have HN : Hid (N = S.length) := hN
  rw [← hN] at hR ⊢
  have HR : Hid (Rx 12 iiC w4 (.slice sa N sc) S) := hR
  have hN3 : N ≤ 1000 := by have := HN.out; have := HS3.out; omega
  clear hside hs b4 hR hN hne
  go_wp2_with fail
  go_loopw [8, 25] (fun s i wr => ∃ k : Nat, k ≤ N ∧ i = .int .i64 k ∧ Hid (wr.ownsRow w4.heap.size 31 7 s ((S.take k).filterMap tD).length (rowR emC ((S.take k).filterMap tD))) ∧ Hid (Below w4.heap.size w4 wr)) (fun _ i _ => N - (intOf i).toNat)
  case atStart => exact ⟨0, by omega, rfl, World.ownsRow_nil _ _ _ _, Below.refl _ _⟩
  case round =>
    obtain ⟨k, hk, rfl, HO, HB⟩ := hrel
    by_cases hlt : k < N
    · obtain ⟨z, ht⟩ : ∃ z, S[k]? = some z := ⟨_, List.getElem?_eq_getElem (by have := HN.out; omega)⟩
      have hz := side_in a b z (by have := List.mem_of_getElem? ht; rw [HS.out] at this; exact this)
      obtain ⟨bk, o, rfl, hbk, hc⟩ := (HR.out.below HB.out).get k z ht
      obtain ⟨zx, zy⟩ := z
      cases zx with
      | none =>
        cases zy with
        | none => exact absurd hz.1 (by simp)
        | some y =>
          obtain ⟨yp, yk, ym, yt, yb⟩ := y
          have c0 : wr.cell? ⟨bk, o + k * 12, none⟩ = some (.string ⟨#[]⟩) := hc 0 _ rfl
          have c1 : wr.cell? ⟨bk, o + k * 12 + 1, none⟩ = some (.int .i64 0) := hc 1 _ rfl
          have c2 : wr.cell? ⟨bk, o + k * 12 + 2, none⟩ = some (.int .i64 0) := hc 2 _ rfl
          have c3 : wr.cell? ⟨bk, o + k * 12 + 3, none⟩ = some (.int .i64 0) := hc 3 _ rfl
          have c4 : wr.cell? ⟨bk, o + k * 12 + 4, none⟩ = some (.string ⟨#[]⟩) := hc 4 _ rfl
          have c5 : wr.cell? ⟨bk, o + k * 12 + 5, none⟩ = some (.string yp) := hc 5 _ rfl
          have c6 : wr.cell? ⟨bk, o + k * 12 + 6, none⟩ = some (.int .i64 yk) := hc 6 _ rfl
          have c7 : wr.cell? ⟨bk, o + k * 12 + 7, none⟩ = some (.int .i64 ym) := hc 7 _ rfl
          have c8 : wr.cell? ⟨bk, o + k * 12 + 8, none⟩ = some (.int .i64 yt) := hc 8 _ rfl
          have c9 : wr.cell? ⟨bk, o + k * 12 + 9, none⟩ = some (.string yb) := hc 9 _ rfl
          have c10 : wr.cell? ⟨bk, o + k * 12 + 10, none⟩ = some (.bool false) := hc 10 _ rfl
          have c11 : wr.cell? ⟨bk, o + k * 12 + 11, none⟩ = some (.bool true) := hc 11 _ rfl
          clear hc
          obtain ⟨s2, W6, hr6, ho6, hg6⟩ := more_ae w4.heap.size u8 ((S.take k).filterMap tD) (⟨yp, false, ⟨yp, yk, ym, yt, yb⟩⟩ : Em) ((wr.alloc (.cells #[.string ⟨#[]⟩, .int .i64 0, .int .i64 0, .int .i64 0, .string ⟨#[]⟩, .string yp, .int .i64 yk, .int .i64 ym, .int .i64 yt, .string yb, .bool false, .bool true] 48)).alloc (.cells #[.string yp, .bool false, .string yp, .int .i64 yk, .int .i64 ym, .int .i64 yt, .string yb] 31)) ((HO.out.alloc _).alloc _) (wr.heap.size + 1) (by rw [show wr.heap.size + 1 = (wr.alloc (.cells #[.string ⟨#[]⟩, .int .i64 0, .int .i64 0, .int .i64 0, .string ⟨#[]⟩, .string yp, .int .i64 yk, .int .i64 ym, .int .i64 yt, .string yb, .bool false, .bool true] 48)).heap.size from by simp]; exact heap_alloc_new _ _) (by have h1 := List.length_filterMap_le tD (S.take k); rw [List.length_take] at h1; have := HS3.out; have := HN.out; omega) (by have := HB.out.size; simp; omega)
          have HO6 : Hid (W6.ownsRow w4.heap.size 31 7 s2 ((S.take (k + 1)).filterMap tD).length (rowR emC ((S.take (k + 1)).filterMap tD))) := by
            rw [told_step ht, show tD (none, some ⟨yp, yk, ym, yt, yb⟩) = some (⟨yp, false, ⟨yp, yk, ym, yt, yb⟩⟩ : Em) from by rfl, Option.toList_some]; exact ho6
          have HB6 : Hid (Below w4.heap.size w4 W6) := (((HB.out.alloc HB.out.size _).alloc (by have := HB.out.size; simp; omega) _)).grown hg6 (by have := HB.out.size; simp; omega) fun g hg => (HO.out.lt g hg).1
          clear ho6 hg6 ht
          go_wp2_with (at_builtin; refine wpL_append_run rfl (.tmp 49) (.tmp 56) 23 23 rfl rfl _ _ s2 W6 rfl rfl hr6 ?_)
          clear hr6 c0 c1 c2 c3 c4 c5 c6 c7 c8 c9 c10 c11
          go_roundw
          case measure => simp only [intOf]; omega
          case rel => exact ⟨k + 1, by omega, by go_num, HO6, HB6⟩
      | some x =>
        cases zy with
        | none =>
          obtain ⟨xp, xk, xm, xt, xb⟩ := x
          have c0 : wr.cell? ⟨bk, o + k * 12, none⟩ = some (.string xp) := hc 0 _ rfl
          have c1 : wr.cell? ⟨bk, o + k * 12 + 1, none⟩ = some (.int .i64 xk) := hc 1 _ rfl
          have c2 : wr.cell? ⟨bk, o + k * 12 + 2, none⟩ = some (.int .i64 xm) := hc 2 _ rfl
          have c3 : wr.cell? ⟨bk, o + k * 12 + 3, none⟩ = some (.int .i64 xt) := hc 3 _ rfl
          have c4 : wr.cell? ⟨bk, o + k * 12 + 4, none⟩ = some (.string xb) := hc 4 _ rfl
          have c5 : wr.cell? ⟨bk, o + k * 12 + 5, none⟩ = some (.string ⟨#[]⟩) := hc 5 _ rfl
          have c6 : wr.cell? ⟨bk, o + k * 12 + 6, none⟩ = some (.int .i64 0) := hc 6 _ rfl
          have c7 : wr.cell? ⟨bk, o + k * 12 + 7, none⟩ = some (.int .i64 0) := hc 7 _ rfl
          have c8 : wr.cell? ⟨bk, o + k * 12 + 8, none⟩ = some (.int .i64 0) := hc 8 _ rfl
          have c9 : wr.cell? ⟨bk, o + k * 12 + 9, none⟩ = some (.string ⟨#[]⟩) := hc 9 _ rfl
          have c10 : wr.cell? ⟨bk, o + k * 12 + 10, none⟩ = some (.bool true) := hc 10 _ rfl
          have c11 : wr.cell? ⟨bk, o + k * 12 + 11, none⟩ = some (.bool false) := hc 11 _ rfl
          clear hc
          obtain ⟨s2, W6, hr6, ho6, hg6⟩ := more_ae w4.heap.size u8 ((S.take k).filterMap tD) (⟨xp, true, im0⟩ : Em) ((wr.alloc (.cells #[.string xp, .int .i64 xk, .int .i64 xm, .int .i64 xt, .string xb, .string ⟨#[]⟩, .int .i64 0, .int .i64 0, .int .i64 0, .string ⟨#[]⟩, .bool true, .bool false] 48)).alloc (.cells #[.string xp, .bool true, .string ⟨#[]⟩, .int .i64 0, .int .i64 0, .int .i64 0, .string ⟨#[]⟩] 31)) ((HO.out.alloc _).alloc _) (wr.heap.size + 1) (by rw [show wr.heap.size + 1 = (wr.alloc (.cells #[.string xp, .int .i64 xk, .int .i64 xm, .int .i64 xt, .string xb, .string ⟨#[]⟩, .int .i64 0, .int .i64 0, .int .i64 0, .string ⟨#[]⟩, .bool true, .bool false] 48)).heap.size from by simp]; exact heap_alloc_new _ _) (by have h1 := List.length_filterMap_le tD (S.take k); rw [List.length_take] at h1; have := HS3.out; have := HN.out; omega) (by have := HB.out.size; simp; omega)
          have HO6 : Hid (W6.ownsRow w4.heap.size 31 7 s2 ((S.take (k + 1)).filterMap tD).length (rowR emC ((S.take (k + 1)).filterMap tD))) := by
            rw [told_step ht, show tD (some ⟨xp, xk, xm, xt, xb⟩, none) = some (⟨xp, true, im0⟩ : Em) from by rfl, Option.toList_some]; exact ho6
          have HB6 : Hid (Below w4.heap.size w4 W6) := (((HB.out.alloc HB.out.size _).alloc (by have := HB.out.size; simp; omega) _)).grown hg6 (by have := HB.out.size; simp; omega) fun g hg => (HO.out.lt g hg).1
          clear ho6 hg6 ht
          go_wp2_with (at_builtin; refine wpL_append_run rfl (.tmp 32) (.tmp 37) 23 23 rfl rfl _ _ s2 W6 rfl rfl hr6 ?_)
          clear hr6 c0 c1 c2 c3 c4 c5 c6 c7 c8 c9 c10 c11
          go_roundw
          case measure => simp only [intOf]; omega
          case rel => exact ⟨k + 1, by omega, by go_num, HO6, HB6⟩
        | some y =>
          have heq := fun W => it_cmp W x y
          obtain ⟨xp, xk, xm, xt, xb⟩ := x
          obtain ⟨yp, yk, ym, yt, yb⟩ := y
          dsimp only at heq
          obtain ⟨SM, hSM⟩ : ∃ SM, SM = imSame ⟨xp, xk, xm, xt, xb⟩ ⟨yp, yk, ym, yt, yb⟩ := ⟨_, rfl⟩
          have HSM : Hid (SM = imSame ⟨xp, xk, xm, xt, xb⟩ ⟨yp, yk, ym, yt, yb⟩) := hSM
          rw [← hSM] at heq
          clear hSM
          cases SM with
          | true =>
            have c0 : wr.cell? ⟨bk, o + k * 12, none⟩ = some (.string xp) := hc 0 _ rfl
            have c1 : wr.cell? ⟨bk, o + k * 12 + 1, none⟩ = some (.int .i64 xk) := hc 1 _ rfl
            have c2 : wr.cell? ⟨bk, o + k * 12 + 2, none⟩ = some (.int .i64 xm) := hc 2 _ rfl
            have c3 : wr.cell? ⟨bk, o + k * 12 + 3, none⟩ = some (.int .i64 xt) := hc 3 _ rfl
            have c4 : wr.cell? ⟨bk, o + k * 12 + 4, none⟩ = some (.string xb) := hc 4 _ rfl
            have c5 : wr.cell? ⟨bk, o + k * 12 + 5, none⟩ = some (.string yp) := hc 5 _ rfl
            have c6 : wr.cell? ⟨bk, o + k * 12 + 6, none⟩ = some (.int .i64 yk) := hc 6 _ rfl
            have c7 : wr.cell? ⟨bk, o + k * 12 + 7, none⟩ = some (.int .i64 ym) := hc 7 _ rfl
            have c8 : wr.cell? ⟨bk, o + k * 12 + 8, none⟩ = some (.int .i64 yt) := hc 8 _ rfl
            have c9 : wr.cell? ⟨bk, o + k * 12 + 9, none⟩ = some (.string yb) := hc 9 _ rfl
            have c10 : wr.cell? ⟨bk, o + k * 12 + 10, none⟩ = some (.bool true) := hc 10 _ rfl
            have c11 : wr.cell? ⟨bk, o + k * 12 + 11, none⟩ = some (.bool true) := hc 11 _ rfl
            clear hc
            have HO6 : Hid (wr.ownsRow w4.heap.size 31 7 u8 ((S.take (k + 1)).filterMap tD).length (rowR emC ((S.take (k + 1)).filterMap tD))) := by
              rw [told_step ht, show tD (some ⟨xp, xk, xm, xt, xb⟩, some ⟨yp, yk, ym, yt, yb⟩) = none from by rw [tD_both, ← HSM.out]; rfl, Option.toList_none, List.append_nil]; exact HO.out
            have HB6 : Hid (Below w4.heap.size w4 (wr.alloc (.cells #[.string xp, .int .i64 xk, .int .i64 xm, .int .i64 xt, .string xb, .string yp, .int .i64 yk, .int .i64 ym, .int .i64 yt, .string yb, .bool true, .bool true] 48))) := HB.out.alloc HB.out.size _
            have HO7 : Hid ((wr.alloc (.cells #[.string xp, .int .i64 xk, .int .i64 xm, .int .i64 xt, .string xb, .string yp, .int .i64 yk, .int .i64 ym, .int .i64 yt, .string yb, .bool true, .bool true] 48)).ownsRow w4.heap.size 31 7 u8 ((S.take (k + 1)).filterMap tD).length (rowR emC ((S.take (k + 1)).filterMap tD))) := HO6.out.alloc _
            clear ht HO6
            go_wp2_with fail
            clear c0 c1 c2 c3 c4 c5 c6 c7 c8 c9 c10 c11
            go_roundw
            case measure => simp only [intOf]; omega
            case rel => exact ⟨k + 1, by omega, by go_num, HO7, HB6⟩
          | false =>
            have c0 : wr.cell? ⟨bk, o + k * 12, none⟩ = some (.string xp) := hc 0 _ rfl
            have c1 : wr.cell? ⟨bk, o + k * 12 + 1, none⟩ = some (.int .i64 xk) := hc 1 _ rfl
            have c2 : wr.cell? ⟨bk, o + k * 12 + 2, none⟩ = some (.int .i64 xm) := hc 2 _ rfl
            have c3 : wr.cell? ⟨bk, o + k * 12 + 3, none⟩ = some (.int .i64 xt) := hc 3 _ rfl
            have c4 : wr.cell? ⟨bk, o + k * 12 + 4, none⟩ = some (.string xb) := hc 4 _ rfl
            have c5 : wr.cell? ⟨bk, o + k * 12 + 5, none⟩ = some (.string yp) := hc 5 _ rfl
            have c6 : wr.cell? ⟨bk, o + k * 12 + 6, none⟩ = some (.int .i64 yk) := hc 6 _ rfl
            have c7 : wr.cell? ⟨bk, o + k * 12 + 7, none⟩ = some (.int .i64 ym) := hc 7 _ rfl
            have c8 : wr.cell? ⟨bk, o + k * 12 + 8, none⟩ = some (.int .i64 yt) := hc 8 _ rfl
            have c9 : wr.cell? ⟨bk, o + k * 12 + 9, none⟩ = some (.string yb) := hc 9 _ rfl
            have c10 : wr.cell? ⟨bk, o + k * 12 + 10, none⟩ = some (.bool true) := hc 10 _ rfl
            have c11 : wr.cell? ⟨bk, o + k * 12 + 11, none⟩ = some (.bool true) := hc 11 _ rfl
            clear hc
            obtain ⟨s2, W6, hr6, ho6, hg6⟩ := more_ae w4.heap.size u8 ((S.take k).filterMap tD) (⟨yp, false, ⟨yp, yk, ym, yt, yb⟩⟩ : Em) ((wr.alloc (.cells #[.string xp, .int .i64 xk, .int .i64 xm, .int .i64 xt, .string xb, .string yp, .int .i64 yk, .int .i64 ym, .int .i64 yt, .string yb, .bool true, .bool true] 48)).alloc (.cells #[.string yp, .bool false, .string yp, .int .i64 yk, .int .i64 ym, .int .i64 yt, .string yb] 31)) ((HO.out.alloc _).alloc _) (wr.heap.size + 1) (by rw [show wr.heap.size + 1 = (wr.alloc (.cells #[.string xp, .int .i64 xk, .int .i64 xm, .int .i64 xt, .string xb, .string yp, .int .i64 yk, .int .i64 ym, .int .i64 yt, .string yb, .bool true, .bool true] 48)).heap.size from by simp]; exact heap_alloc_new _ _) (by have h1 := List.length_filterMap_le tD (S.take k); rw [List.length_take] at h1; have := HS3.out; have := HN.out; omega) (by have := HB.out.size; simp; omega)
            have HO6 : Hid (W6.ownsRow w4.heap.size 31 7 s2 ((S.take (k + 1)).filterMap tD).length (rowR emC ((S.take (k + 1)).filterMap tD))) := by
              rw [told_step ht, show tD (some ⟨xp, xk, xm, xt, xb⟩, some ⟨yp, yk, ym, yt, yb⟩) = some (⟨yp, false, ⟨yp, yk, ym, yt, yb⟩⟩ : Em) from by rw [tD_both, ← HSM.out]; rfl, Option.toList_some]; exact ho6
            have HB6 : Hid (Below w4.heap.size w4 W6) := (((HB.out.alloc HB.out.size _).alloc (by have := HB.out.size; simp; omega) _)).grown hg6 (by have := HB.out.size; simp; omega) fun g hg => (HO.out.lt g hg).1
            clear ho6 hg6 ht
            go_wp2_with (at_builtin; refine wpL_append_run rfl (.tmp 49) (.tmp 56) 23 23 rfl rfl _ _ s2 W6 rfl rfl hr6 ?_)
            clear hr6 c0 c1 c2 c3 c4 c5 c6 c7 c8 c9 c10 c11
            go_roundw
            case measure => simp only [intOf]; omega
            case rel => exact ⟨k + 1, by omega, by go_num, HO6, HB6⟩
    · obtain rfl : k = N := by omega
      have HO1 : Hid (wr.ownsRow w4.heap.size 31 7 u8 (S.filterMap tD).length (rowR emC (S.filterMap tD))) := by
        have h := HO.out
        rw [List.take_of_length_le (by have := HN.out; omega)] at h
        exact h
      have HBw : Hid (Below w.heap.size w wr) := HB4.out.trans (HB.out.mono HB4.out.size)
      have HLn : Hid ((S.filterMap tD).length ≤ 1000) := Nat.le_trans (List.length_filterMap_le _ _) HS3.out
      clear HO HB
      have HK : Hid (∀ x ∈ S.filterMap tD, x.Ok) := fun q hq => by
        obtain ⟨⟨zx, zy⟩, hz, e⟩ := List.mem_filterMap.1 hq
        have hzz := side_in a b _ (by rw [HS.out] at hz; exact hz)
        cases zy with
        | none =>
          cases zx with
          | none => cases e
          | some x => cases e; exact ⟨(HOa.out x (hzz.2.1 x rfl)).path, im0_ok⟩
        | some y =>
          have hy := HOb.out y (hzz.2.2 y rfl)
          cases zx with
          | none => cases e; exact ⟨hy.path, hy⟩
          | some x =>
            unfold tD at e
            dsimp only at e
            split at e
            · cases e
            · cases e; exact ⟨hy.path, hy⟩
      have HRe : Hid (RP = (edl (S.filterMap tD), 0)) := by
        have h := diff_told HEA0.out HEB0.out
        unfold Dl.diff at h
        show _ = _
        rw [HP.out, HS.out]
        exact h
      have hown := ownEdits_any u8 (S.filterMap tD) wr _ HO1.out HK.out (by have := HLn.out; omega)
      clear HP
      go_wp2_with fail
      refine hown.mono ?_
      rintro e w5 ⟨rfl, b5⟩
      have HB5 : Hid (Below w.heap.size w w5) := HBw.out.trans (b5.mono HBw.out.size)
      have HO5 : Hid (w5.ownsRow w.heap.size 31 7 u8 (S.filterMap tD).length (rowR emC (S.filterMap tD))) := own_lower (own_below HO1.out b5) HB4.out.size
      clear hown b5
      go_wp2_with fail
      go_ret2
      exact ⟨_, S.filterMap tD, by rw [HRe.out]; rfl, HO5.out, by rw [HRe.out], HK.out, HB5.out⟩

end Go.Proofs.YthpcbbkpjggjbaaDoor

namespace Go.Proofs.YthpcbbkpjggjbaaDoor
open Go.RowKit
set_option maxRecDepth 4000

def lenIE : Value → Nat
  | .slice _ n _ => n
  | _ => 0

abbrev sdIE : List Im → List Em → List (Option Im × Option Em) := Dl.side (fun x : Im => x.it.path) (fun y : Em => y.ed.path)

/-- how far two rows have been gone through -/
structure SdIE (w : World) (a : List Im) (b : List Em) (p q s : Value) (W : World) (la : List Im) (lb : List Em) (done : List (Option Im × Option Em)) : Prop where
  ra : Ims w p la
  rb : Eds w q lb
  oa : ∀ x ∈ la, x.Ok
  ob : ∀ x ∈ lb, x.Ok
  row : W.ownsRow w.heap.size 59 14 s done.length (rowR ieC done)
  bel : Below w.heap.size w W
  eq : sdIE a b = done ++ sdIE la lb
  len : done.length + (la.length + lb.length) ≤ a.length + b.length

theorem info_ie : (Tryd.prog.info? 59).map (fun i => (i.zero, i.size, i.bytes)) = some (some (.agg #[.string ⟨#[]⟩, .int .i64 0, .int .i64 0, .int .i64 0, .string ⟨#[]⟩, .string ⟨#[]⟩, .bool false, .string ⟨#[]⟩, .int .i64 0, .int .i64 0, .int .i64 0, .string ⟨#[]⟩, .bool false, .bool false]), 14, 144) := by kernel_rfl

theorem inf_ie : (Tryd.prog.info? 59).map (·.size) = some 14 := by kernel_rfl

theorem ieC_len (z : Option Im × Option Em) : (ieC z).length = 14 := by rfl

theorem ieC_one (z : Option Im × Option Em) : ∀ u ∈ ieC z, u.oneCell' = true := prC_one imC_one emC_one z

theorem setA_ie {W : World} {b : Nat} {x0 : Im} {y0 : Em} {f g : Bool} {xp xb : ByteArray} {xk xm xt : Int} (h : W.heap[b]? = some (.cells (qC imC emC x0 y0 f g).toArray 59 (0, 0))) : (W.setCells b 0 (imC ⟨xp, xk, xm, xt, xb⟩)).heap[b]? = some (.cells (qC imC emC ⟨xp, xk, xm, xt, xb⟩ y0 f g).toArray 59 (0, 0)) := by
  exact sets_blk (post := emC y0 ++ [.bool f, .bool g]) (imC ⟨xp, xk, xm, xt, xb⟩) [] (imC x0) W h rfl

theorem setB_ie {W : World} {b : Nat} {x0 : Im} {y0 : Em} {f g : Bool} {yp yi yb : ByteArray} {yg : Bool} {yk ym yt : Int} (h : W.heap[b]? = some (.cells (qC imC emC x0 y0 f g).toArray 59 (0, 0))) : (W.setCells b 5 (emC ⟨yp, yg, ⟨yi, yk, ym, yt, yb⟩⟩)).heap[b]? = some (.cells (qC imC emC x0 ⟨yp, yg, ⟨yi, yk, ym, yt, yb⟩⟩ f g).toArray 59 (0, 0)) := by
  exact sets_blk (post := [.bool f, .bool g]) (emC ⟨yp, yg, ⟨yi, yk, ym, yt, yb⟩⟩) (imC x0) (emC y0) W h rfl

theorem flgA_ie {W : World} {b : Nat} {x0 : Im} {y0 : Em} {f g : Bool} (h : W.heap[b]? = some (.cells (qC imC emC x0 y0 f g).toArray 59 (0, 0))) : (W.setCell ⟨b, 12, none⟩ (.bool true)).heap[b]? = some (.cells (qC imC emC x0 y0 true g).toArray 59 (0, 0)) := set_blk h 12 (.bool true)

theorem flgB_ie {W : World} {b : Nat} {x0 : Im} {y0 : Em} {f g : Bool} (h : W.heap[b]? = some (.cells (qC imC emC x0 y0 f g).toArray 59 (0, 0))) : (W.setCell ⟨b, 13, none⟩ (.bool true)).heap[b]? = some (.cells (qC imC emC x0 y0 f true).toArray 59 (0, 0)) := set_blk h 13 (.bool true)

theorem more_ie (base : Nat) (v : Value) (l : List (Option Im × Option Em)) (t : Option Im × Option Em) (w : World) (h : w.ownsRow base 59 14 v l.length (rowR ieC l)) (g : Nat) (hg : w.heap[g]? = some (.cells (ieC t).toArray 59 (0, 0)))
    (hl : l.length < 100000) (hbase : base ≤ w.heap.size) :
    ∃ v' w', (Builtin.append_ #[55, 55] 55 #[v, .slice (some ⟨g, 0, none⟩) 1 1]).run Tryd.prog w = .ok v' w' ∧ w'.ownsRow base 59 14 v' (l ++ [t]).length (rowR ieC (l ++ [t])) ∧ w.grownBy w' v.ownBlock :=
  row_more Tryd.underlying55 info_ie rfl (by decide) ieC_len ieC_one base v l t w h g hg (by omega) (by omega) hbase

set_option maxHeartbeats 16000000 in
theorem sideIE_any (va vb : Value) (a : List Im) (b : List Em) (w : World) (ha : Ims w va a) (hb : Eds w vb b) (hla : a.length + b.length ≤ 1000) (oa : ∀ x ∈ a, x.Ok) (ob : ∀ x ∈ b, x.Ok) (hT : Tabs w) :
    Calls Tryd.prog 28 #[va, vb, .func (.func 29) #[] #[]] w fun e w' => ∃ v, e = .returned v ∧ w'.ownsRow w.heap.size 59 14 v (sdIE a b).length (rowR ieC (sdIE a b)) ∧ Below w.heap.size w w' := by
  obtain ⟨sa, sc, rfl, _, _⟩ := ha.slice
  obtain ⟨sb, tc, rfl, _, _⟩ := hb.slice
  have HT : Hid (Tabs w) := hT
  have HL0 : Hid (a.length + b.length ≤ 1000) := hla
  have H0 : Hid (SdIE w a b (.slice sa a.length sc) (.slice sb b.length tc) (.slice none 0 0) w a b []) := ⟨ha, hb, oa, ob, World.ownsRow_nil _ _ _ _, Below.refl _ _, rfl, by simp⟩
  generalize hna : a.length = na at *
  generalize hnb : b.length = nb at *
  clear ha hb hla oa ob hT
  go_enter Tryd.func28, Tryd.ntmps28
  go_upto_block 0 with fail
  go_cut [0, 1, 7] from 8 to 51 (fun p q s wx => ∃ la lb done, Hid (SdIE w a b p q s wx la lb done) ∧ Hid (la = [] ∨ lb = []))
  case first =>
    go_wp2_with fail
    go_loopw [0, 1, 7] (fun p q s wr => ∃ la lb done, Hid (SdIE w a b p q s wr la lb done)) (fun p q _ _ => lenIE p + lenIE q)
    case atStart => exact ⟨a, b, [], H0⟩
    case round =>
      clear H0
      obtain ⟨la, lb, done, H⟩ := hrel
      cases la with
      | nil =>
        obtain ⟨pa, pc, rfl, _, _⟩ := H.out.ra.slice
        go_wp2_with fail
        go_meet
        exact ⟨[], lb, done, H, .inl rfl⟩
      | cons x la =>
        cases lb with
        | nil =>
          obtain ⟨pa, pc, rfl, _, _⟩ := H.out.ra.slice
          obtain ⟨qa, qc, rfl, _, _⟩ := H.out.rb.slice
          go_wp2_with fail
          go_meet
          exact ⟨x :: la, [], done, H, .inr rfl⟩
        | cons y lb =>
          obtain ⟨pa, pc, rfl, hpc1, hpc2⟩ := H.out.ra.slice
          obtain ⟨qa, qc, rfl, hqc1, hqc2⟩ := H.out.rb.slice
          obtain ⟨bk, o, rfl, hbk, hxa⟩ := H.out.ra.get 0 x rfl
          obtain ⟨bkk, oo, rfl, hbkk, hxb⟩ := H.out.rb.get 0 y rfl
          obtain ⟨va, hva⟩ : ∃ va, va = Value.slice (if pc = 1 then some ⟨bk, o, none⟩ else some ⟨bk, o + 5, none⟩) la.length (pc - 1) := ⟨_, rfl⟩
          obtain ⟨vb, hvb⟩ : ∃ vb, vb = Value.slice (if qc = 1 then some ⟨bkk, oo, none⟩ else some ⟨bkk, oo + 7, none⟩) lb.length (qc - 1) := ⟨_, rfl⟩
          have HRa : Hid (Ims w va la) := by rw [hva]; exact H.out.ra.rest
          have HRb : Hid (Eds w vb lb) := by rw [hvb]; exact H.out.rb.rest
          have HXa : Hid (∀ W, Below wr.heap.size wr W → W.rangeAt bk o (imC x)) := fun W hW r u hu => by
            have h := hxa r u hu
            rw [Nat.zero_mul, Nat.add_zero] at h
            exact ((H.out.bel.trans (hW.mono H.out.bel.size)).cell (p := ⟨bk, _, none⟩) hbk).trans h
          have HXb : Hid (∀ W, Below wr.heap.size wr W → W.rangeAt bkk oo (emC y)) := fun W hW r u hu => by
            have h := hxb r u hu
            rw [Nat.zero_mul, Nat.add_zero] at h
            exact ((H.out.bel.trans (hW.mono H.out.bel.size)).cell (p := ⟨bkk, _, none⟩) hbkk).trans h
          have HCl : Hid (∀ W, Below wr.heap.size wr W → Calls Tryd.prog 29 #[imV x, emV y] W fun e w' => e = .returned (.int .i64 (Dl.cmp x.it.path y.ed.path)) ∧ Below W.heap.size W w') := fun W hW => cmpIE_any x y W (H.out.oa x List.mem_cons_self) (H.out.ob y List.mem_cons_self) (HT.out.below (H.out.bel.trans (hW.mono H.out.bel.size)))
          obtain ⟨n1, hn1⟩ : ∃ n, n = la.length := ⟨_, rfl⟩
          obtain ⟨n2, hn2⟩ : ∃ n, n = lb.length := ⟨_, rfl⟩
          have HN1 : Hid (n1 = la.length) := hn1
          have HN2 : Hid (n2 = lb.length) := hn2
          rw [List.length_cons, ← hn1] at hpc1 H
          rw [List.length_cons, ← hn2] at hqc1 H
          rw [← hn1] at hva
          rw [← hn2] at hvb
          rw [List.length_cons, ← hn1, List.length_cons, ← hn2]
          have HLa : Hid (lenIE va = n1) := by show _ = _; rw [hva]; rfl
          have HLb : Hid (lenIE vb = n2) := by show _ = _; rw [hvb]; rfl
          have Hva : Hid (va = Value.slice (if pc = 1 then some ⟨bk, o, none⟩ else some ⟨bk, o + 5, none⟩) n1 (pc - 1)) := hva
          have Hvb : Hid (vb = Value.slice (if qc = 1 then some ⟨bkk, oo, none⟩ else some ⟨bkk, oo + 7, none⟩) n2 (qc - 1)) := hvb
          obtain ⟨C, hC⟩ : ∃ C, C = Dl.cmp x.it.path y.ed.path := ⟨_, rfl⟩
          rw [← hC] at HCl
          have HC3 : Hid ((C = 0 ∧ x.it.path = y.ed.path) ∨ (C = -1 ∧ x.it.path ≠ y.ed.path ∧ (Nn.less x.it.path y.ed.path).1 = true) ∨ (C = 1 ∧ x.it.path ≠ y.ed.path ∧ (Nn.less x.it.path y.ed.path).1 = false)) := by
            show _ ∨ _
            rw [hC]
            unfold Dl.cmp
            by_cases e : x.it.path = y.ed.path
            · rw [if_pos e]; exact .inl ⟨rfl, e⟩
            · rw [if_neg e]
              cases k : (Nn.less x.it.path y.ed.path).1 with
              | true => exact .inr (.inl ⟨rfl, e, rfl⟩)
              | false => exact .inr (.inr ⟨rfl, e, rfl⟩)
          clear hva hvb hn1 hn2 hC hxa hxb hbk hbkk
          obtain ⟨xp, xk, xm, xt, xb⟩ := x
          obtain ⟨yp, yg, ⟨yi, yk, ym, yt, yb⟩⟩ := y
          have hg1 : ((n1 : Int) + 1 > 0) := by omega
          have hg2 : ((n2 : Int) + 1 > 0) := by omega
          obtain ⟨W1, hW1⟩ : ∃ W1, W1 = wr.alloc (.cells #[.string ⟨#[]⟩, .int .i64 0, .int .i64 0, .int .i64 0, .string ⟨#[]⟩, .string ⟨#[]⟩, .bool false, .string ⟨#[]⟩, .int .i64 0, .int .i64 0, .int .i64 0, .string ⟨#[]⟩, .bool false, .bool false] 59) := ⟨_, rfl⟩
          have HBr1 : Hid (Below wr.heap.size wr W1) := by rw [hW1]; exact (Below.refl _ wr).alloc (Nat.le_refl _) _
          have HM1 : Hid (W1.heap[wr.heap.size]? = some (.cells (ieC (none, none)).toArray 59 (0, 0))) := by rw [hW1]; exact heap_alloc_new wr _
          go_upto_region 4 with fail
          rw [← hW1]
          clear hW1
          refine wp_region_rel (G := Gw) (W0 := W1) Gw.refl Gw.trans (by kernel_rfl) (by kernel_rfl) (by kernel_rfl) (Below.refl _ W1).drew ?_
          refine .inl ⟨.func (.func 29) #[] #[], fun v W hW hd => step_run (by first | rfl | simp [Region.wanted, yielded]) _ W (by clear hd; go_simp) rfl (Gw.refl _), ?_⟩
          simp only [Act.put, List.setIfInBounds_toArray, List.set_cons_zero, List.set_cons_succ]
          refine .inl ⟨.slice (some ⟨bk, o, none⟩) (n1 + 1) pc, fun v W hW hd => step_run (by first | rfl | simp [Region.wanted, yielded]) _ W (by clear hd; go_simp) rfl (Gw.refl _), ?_⟩
          simp only [Act.put, List.setIfInBounds_toArray, List.set_cons_zero, List.set_cons_succ]
          refine .inl ⟨.pointer (some ⟨bk, o, none⟩), fun v W hW hd => step_run (by first | rfl | simp [Region.wanted, yielded]) _ W (by clear hd; go_simp) rfl (Gw.refl _), ?_⟩
          simp only [Act.put, List.setIfInBounds_toArray, List.set_cons_zero, List.set_cons_succ]
          refine .inl ⟨.agg #[.string xp, .int .i64 xk, .int .i64 xm, .int .i64 xt, .string xb], fun v W hW hd => step_run rfl _ W (exec_ld 29 (.tmp 24) rfl bk o rfl (imC ⟨xp, xk, xm, xt, xb⟩) _ (HXa.out W (HBr1.out.trans (Below.mono hW HBr1.out.size))) Tryd.underlying29 rfl (by kernel_rfl)) rfl (Gw.refl _), ?_⟩
          simp only [Act.put, List.setIfInBounds_toArray, List.set_cons_zero, List.set_cons_succ]
          refine .inl ⟨.slice (some ⟨bkk, oo, none⟩) (n2 + 1) qc, fun v W hW hd => step_run (by first | rfl | simp [Region.wanted, yielded]) _ W (by clear hd; go_simp) rfl (Gw.refl _), ?_⟩
          simp only [Act.put, List.setIfInBounds_toArray, List.set_cons_zero, List.set_cons_succ]
          refine .inl ⟨.pointer (some ⟨bkk, oo, none⟩), fun v W hW hd => step_run (by first | rfl | simp [Region.wanted, yielded]) _ W (by clear hd; go_simp) rfl (Gw.refl _), ?_⟩
          simp only [Act.put, List.setIfInBounds_toArray, List.set_cons_zero, List.set_cons_succ]
          refine .inl ⟨.agg #[.string yp, .bool yg, .string yi, .int .i64 yk, .int .i64 ym, .int .i64 yt, .string yb], fun v W hW hd => step_run rfl _ W (exec_ld 31 (.tmp 27) rfl bkk oo rfl (emC ⟨yp, yg, ⟨yi, yk, ym, yt, yb⟩⟩) _ (HXb.out W (HBr1.out.trans (Below.mono hW HBr1.out.size))) Tryd.underlying31 rfl (by kernel_rfl)) rfl (Gw.refl _), ?_⟩
          simp only [Act.put, List.setIfInBounds_toArray, List.set_cons_zero, List.set_cons_succ]
          refine .inl ⟨.int .i64 C, fun v W hW hd => step_call (by first | rfl | simp [Region.wanted, yielded]) 29 #[.agg #[.string xp, .int .i64 xk, .int .i64 xm, .int .i64 xt, .string xb], .agg #[.string yp, .bool yg, .string yi, .int .i64 yk, .int .i64 ym, .int .i64 yt, .string yb]] (by clear hd; go_simp) ((HCl.out W (HBr1.out.trans (Below.mono hW HBr1.out.size))).mono fun e w' h => ⟨_, h.1, rfl, h.2⟩), ?_⟩
          simp only [Act.put, List.setIfInBounds_toArray, List.set_cons_zero, List.set_cons_succ]
          refine .inl ⟨.int .i64 C, fun v W hW hd => step_run (by first | rfl | simp [Region.wanted, yielded]) _ W (by clear hd; go_simp) rfl (Gw.refl _), ?_⟩
          simp only [Act.put, List.setIfInBounds_toArray, List.set_cons_zero, List.set_cons_succ]
          intro v W2 hW2 hV
          have HB2 : Hid (Below wr.heap.size wr W2) := HBr1.out.trans (Below.mono hW2 HBr1.out.size)
          have HM2 : Hid (W2.heap[wr.heap.size]? = some (.cells (ieC (none, none)).toArray 59 (0, 0))) := (Below.block hW2 _ (Array.getElem?_eq_some_iff.1 HM1.out).1).trans HM1.out
          clear hV hW2 HM1 HBr1 HCl
          rcases HC3.out with ⟨rfl, he⟩ | ⟨rfl, hne, hls⟩ | ⟨rfl, hne, hls⟩
          · have HE : Hid ((⟨xp, xk, xm, xt, xb⟩ : Im).it.path = (⟨yp, yg, ⟨yi, yk, ym, yt, yb⟩⟩ : Em).ed.path) := he
            clear he HC3
            go_upto_region 6 with fail
            have HGa : Hid (∀ W, GA imC emC 59 wr.heap.size ⟨xp, xk, xm, xt, xb⟩ W2 W → W.rangeAt bk o (imC ⟨xp, xk, xm, xt, xb⟩)) := fun W hW => HXa.out W (HB2.out.trans (hW.kept.below HB2.out.size fun q hq e => by omega))
            refine wp_region_rel (G := GA imC emC 59 wr.heap.size ⟨xp, xk, xm, xt, xb⟩) (W0 := W2) GA.refl GA.trans (by kernel_rfl) (by kernel_rfl) (by kernel_rfl) (GA.drew W2) ?_
            refine .inl ⟨.slice (some ⟨bk, o, none⟩) (n1 + 1) pc, fun v W hW hd => step_run (by first | rfl | simp [Region.wanted, yielded]) _ W (by clear hd; go_simp) rfl (GA.refl _), ?_⟩
            simp only [Act.put, List.setIfInBounds_toArray, List.set_cons_zero, List.set_cons_succ]
            refine .inl ⟨.pointer (some ⟨bk, o, none⟩), fun v W hW hd => step_run (by first | rfl | simp [Region.wanted, yielded]) _ W (by clear hd; go_simp) rfl (GA.refl _), ?_⟩
            simp only [Act.put, List.setIfInBounds_toArray, List.set_cons_zero, List.set_cons_succ]
            refine .inl ⟨.agg #[.string xp, .int .i64 xk, .int .i64 xm, .int .i64 xt, .string xb], fun v W hW hd => step_run rfl _ W (exec_ld 29 (.tmp 33) rfl bk o rfl (imC ⟨xp, xk, xm, xt, xb⟩) _ (HGa.out W hW) Tryd.underlying29 rfl (by kernel_rfl)) rfl (GA.refl _), ?_⟩
            simp only [Act.put, List.setIfInBounds_toArray, List.set_cons_zero, List.set_cons_succ]
            refine .inl ⟨.slice (some ⟨bk, o, none⟩) (n1 + 1) pc, fun v W hW hd => step_run (by first | rfl | simp [Region.wanted, yielded]) _ W (by clear hd; go_simp) rfl (GA.refl _), ?_⟩
            simp only [Act.put, List.setIfInBounds_toArray, List.set_cons_zero, List.set_cons_succ]
            refine .inl ⟨va, fun v W hW hd => step_run (by first | rfl | simp [Region.wanted, yielded]) _ W (by clear hd; have hv := Hva.out; have hq : ¬ ((n1 : Int) + 1 < 1) := (by omega); go_simp) rfl (GA.refl _), ?_⟩
            simp only [Act.put, List.setIfInBounds_toArray, List.set_cons_zero, List.set_cons_succ]
            refine .inl ⟨.pointer (some ⟨wr.heap.size, 0, none⟩), fun v W hW hd => step_run (by first | rfl | simp [Region.wanted, yielded]) _ W (by clear hd; go_simp) rfl (GA.refl _), ?_⟩
            simp only [Act.put, List.setIfInBounds_toArray, List.set_cons_zero, List.set_cons_succ]
            refine .inr ⟨fun _ W => ∃ f, W.heap[wr.heap.size]? = some (.cells (qC imC emC ⟨xp, xk, xm, xt, xb⟩ (em0) f false).toArray 59 (0, 0)), fun u W W' hv hg => ?_, fun v W hW hd => ?_, ?_⟩
            · obtain ⟨f, hv⟩ := hv
              obtain ⟨x1, f1, e, _, h⟩ := hg.blk _ _ _ _ hv
              exact ⟨f1, by rw [show x1 = _ from e.elim id id] at h; exact h⟩
            · clear hd
              obtain ⟨x1, f1, _, _, hq⟩ := hW.blk im0 (em0) false false HM2.out
              exact step_still rfl (W.setCells wr.heap.size 0 (imC ⟨xp, xk, xm, xt, xb⟩)) (exec_st 29 (.tmp 37) (.tmp 34) rfl wr.heap.size 0 #[.string xp, .int .i64 xk, .int .i64 xm, .int .i64 xt, .string xb] rfl rfl (blk_there hq (Nat.le_of_ble_eq_true rfl)) (by kernel_rfl) (all_oneCell_toArray (imC_one ⟨xp, xk, xm, xt, xb⟩))) ⟨f1, setA_ie hq⟩ ⟨(Kept.refl _ _).sets (fun e => e rfl) _ _, fun x0 y0 f g h => ⟨_, _, .inr rfl, id, setA_ie h⟩⟩
            simp only [Act.put]
            refine .inl ⟨.pointer (some ⟨wr.heap.size, 12, none⟩), fun v W hW hd => step_run (by first | rfl | simp [Region.wanted, yielded]) _ W (by clear hd; go_simp) rfl (GA.refl _), ?_⟩
            simp only [Act.put, List.setIfInBounds_toArray, List.set_cons_zero, List.set_cons_succ]
            refine .inr ⟨fun _ W => ∃ x0, W.heap[wr.heap.size]? = some (.cells (qC imC emC x0 (em0) true false).toArray 59 (0, 0)), fun u W W' hv hg => ?_, fun v W hW hd => ?_, ?_⟩
            · obtain ⟨x0, hv⟩ := hv
              obtain ⟨x1, f1, _, e, h⟩ := hg.blk _ _ _ _ hv
              exact ⟨x1, by rw [e rfl] at h; exact h⟩
            · clear hd
              obtain ⟨x1, f1, _, _, hq⟩ := hW.blk im0 (em0) false false HM2.out
              have hth := (blk_there (o := 12) (k := 1) hq (Nat.le_of_ble_eq_true rfl)) 0 (by omega)
              have hf1 := hth.2
              obtain ⟨hcv, hf2⟩ := Option.isSome_iff_exists.1 hth.1
              simp only [Nat.add_zero] at hf1 hf2
              exact step_still rfl (W.setCell ⟨wr.heap.size, 12, none⟩ (.bool true)) (by clear hW hq hth; go_simp) ⟨x1, flgA_ie hq⟩ ⟨(Kept.refl _ _).setCell (a := ⟨wr.heap.size, 12, none⟩) (fun e => e rfl) _, fun x0 y0 f g h => ⟨_, _, .inl rfl, fun _ => rfl, flgA_ie h⟩⟩
            simp only [Act.put]
            refine .inl ⟨va, fun v W hW hd => step_run (by first | rfl | simp [Region.wanted, yielded]) _ W (by clear hd; go_simp) rfl (GA.refl _), ?_⟩
            simp only [Act.put, List.setIfInBounds_toArray, List.set_cons_zero]
            intro v W3 hW3 hV
            have h6 : ∃ f, W3.heap[wr.heap.size]? = some (.cells (qC imC emC ⟨xp, xk, xm, xt, xb⟩ (em0) f false).toArray 59 (0, 0)) := hV 6 (by decide)
            have h8 : ∃ x0, W3.heap[wr.heap.size]? = some (.cells (qC imC emC x0 (em0) true false).toArray 59 (0, 0)) := hV 8 (by decide)
            obtain ⟨f6, h6⟩ := h6
            obtain ⟨x8, h8⟩ := h8
            have HM4 : Hid (W3.heap[wr.heap.size]? = some (.cells (qC imC emC ⟨xp, xk, xm, xt, xb⟩ (em0) true false).toArray 59 (0, 0))) := by
              show _ = _
              rw [flagA (by rfl) h6 h8] at h6
              exact h6
            have HB4 : Hid (Below wr.heap.size wr W3) := HB2.out.trans (hW3.kept.below HB2.out.size fun q hq e => by omega)
            clear hV hW3 h6 h8 HGa HM2
            have HM2 := HM4
            have HB2 := HB4
            clear HM4 HB4
            go_upto_region 8 with fail
            have HGb : Hid (∀ W, GB imC emC 59 wr.heap.size ⟨yp, yg, ⟨yi, yk, ym, yt, yb⟩⟩ W3 W → W.rangeAt bkk oo (emC ⟨yp, yg, ⟨yi, yk, ym, yt, yb⟩⟩)) := fun W hW => HXb.out W (HB2.out.trans (hW.kept.below HB2.out.size fun q hq e => by omega))
            refine wp_region_rel (G := GB imC emC 59 wr.heap.size ⟨yp, yg, ⟨yi, yk, ym, yt, yb⟩⟩) (W0 := W3) GB.refl GB.trans (by kernel_rfl) (by kernel_rfl) (by kernel_rfl) (GB.drew W3) ?_
            refine .inl ⟨.slice (some ⟨bkk, oo, none⟩) (n2 + 1) qc, fun v W hW hd => step_run (by first | rfl | simp [Region.wanted, yielded]) _ W (by clear hd; go_simp) rfl (GB.refl _), ?_⟩
            simp only [Act.put, List.setIfInBounds_toArray, List.set_cons_zero, List.set_cons_succ]
            refine .inl ⟨.pointer (some ⟨bkk, oo, none⟩), fun v W hW hd => step_run (by first | rfl | simp [Region.wanted, yielded]) _ W (by clear hd; go_simp) rfl (GB.refl _), ?_⟩
            simp only [Act.put, List.setIfInBounds_toArray, List.set_cons_zero, List.set_cons_succ]
            refine .inl ⟨.agg #[.string yp, .bool yg, .string yi, .int .i64 yk, .int .i64 ym, .int .i64 yt, .string yb], fun v W hW hd => step_run rfl _ W (exec_ld 31 (.tmp 42) rfl bkk oo rfl (emC ⟨yp, yg, ⟨yi, yk, ym, yt, yb⟩⟩) _ (HGb.out W hW) Tryd.underlying31 rfl (by kernel_rfl)) rfl (GB.refl _), ?_⟩
            simp only [Act.put, List.setIfInBounds_toArray, List.set_cons_zero, List.set_cons_succ]
            refine .inl ⟨.slice (some ⟨bkk, oo, none⟩) (n2 + 1) qc, fun v W hW hd => step_run (by first | rfl | simp [Region.wanted, yielded]) _ W (by clear hd; go_simp) rfl (GB.refl _), ?_⟩
            simp only [Act.put, List.setIfInBounds_toArray, List.set_cons_zero, List.set_cons_succ]
            refine .inl ⟨vb, fun v W hW hd => step_run (by first | rfl | simp [Region.wanted, yielded]) _ W (by clear hd; have hv := Hvb.out; have hq : ¬ ((n2 : Int) + 1 < 1) := (by omega); go_simp) rfl (GB.refl _), ?_⟩
            simp only [Act.put, List.setIfInBounds_toArray, List.set_cons_zero, List.set_cons_succ]
            refine .inl ⟨.pointer (some ⟨wr.heap.size, 5, none⟩), fun v W hW hd => step_run (by first | rfl | simp [Region.wanted, yielded]) _ W (by clear hd; go_simp) rfl (GB.refl _), ?_⟩
            simp only [Act.put, List.setIfInBounds_toArray, List.set_cons_zero, List.set_cons_succ]
            refine .inr ⟨fun _ W => ∃ g, W.heap[wr.heap.size]? = some (.cells (qC imC emC ⟨xp, xk, xm, xt, xb⟩ ⟨yp, yg, ⟨yi, yk, ym, yt, yb⟩⟩ true g).toArray 59 (0, 0)), fun u W W' hv hg => ?_, fun v W hW hd => ?_, ?_⟩
            · obtain ⟨f, hv⟩ := hv
              obtain ⟨x1, f1, e, _, h⟩ := hg.blk _ _ _ _ hv
              exact ⟨f1, by rw [show x1 = _ from e.elim id id] at h; exact h⟩
            · clear hd
              obtain ⟨x1, f1, _, _, hq⟩ := hW.blk ⟨xp, xk, xm, xt, xb⟩ (em0) true false HM2.out
              exact step_still rfl (W.setCells wr.heap.size 5 (emC ⟨yp, yg, ⟨yi, yk, ym, yt, yb⟩⟩)) (exec_st 31 (.tmp 46) (.tmp 43) rfl wr.heap.size 5 #[.string yp, .bool yg, .string yi, .int .i64 yk, .int .i64 ym, .int .i64 yt, .string yb] rfl rfl (blk_there hq (Nat.le_of_ble_eq_true rfl)) (by kernel_rfl) (all_oneCell_toArray (emC_one ⟨yp, yg, ⟨yi, yk, ym, yt, yb⟩⟩))) ⟨f1, setB_ie hq⟩ ⟨(Kept.refl _ _).sets (fun e => e rfl) _ _, fun x0 y0 f g h => ⟨_, _, .inr rfl, id, setB_ie h⟩⟩
            simp only [Act.put]
            refine .inl ⟨.pointer (some ⟨wr.heap.size, 13, none⟩), fun v W hW hd => step_run (by first | rfl | simp [Region.wanted, yielded]) _ W (by clear hd; go_simp) rfl (GB.refl _), ?_⟩
            simp only [Act.put, List.setIfInBounds_toArray, List.set_cons_zero, List.set_cons_succ]
            refine .inr ⟨fun _ W => ∃ y0, W.heap[wr.heap.size]? = some (.cells (qC imC emC ⟨xp, xk, xm, xt, xb⟩ y0 true true).toArray 59 (0, 0)), fun u W W' hv hg => ?_, fun v W hW hd => ?_, ?_⟩
            · obtain ⟨x0, hv⟩ := hv
              obtain ⟨x1, f1, _, e, h⟩ := hg.blk _ _ _ _ hv
              exact ⟨x1, by rw [e rfl] at h; exact h⟩
            · clear hd
              obtain ⟨x1, f1, _, _, hq⟩ := hW.blk ⟨xp, xk, xm, xt, xb⟩ (em0) true false HM2.out
              have hth := (blk_there (o := 13) (k := 1) hq (Nat.le_of_ble_eq_true rfl)) 0 (by omega)
              have hf1 := hth.2
              obtain ⟨hcv, hf2⟩ := Option.isSome_iff_exists.1 hth.1
              simp only [Nat.add_zero] at hf1 hf2
              exact step_still rfl (W.setCell ⟨wr.heap.size, 13, none⟩ (.bool true)) (by clear hW hq hth; go_simp) ⟨x1, flgB_ie hq⟩ ⟨(Kept.refl _ _).setCell (a := ⟨wr.heap.size, 13, none⟩) (fun e => e rfl) _, fun x0 y0 f g h => ⟨_, _, .inl rfl, fun _ => rfl, flgB_ie h⟩⟩
            simp only [Act.put]
            refine .inl ⟨vb, fun v W hW hd => step_run (by first | rfl | simp [Region.wanted, yielded]) _ W (by clear hd; go_simp) rfl (GB.refl _), ?_⟩
            simp only [Act.put, List.setIfInBounds_toArray, List.set_cons_zero, List.set_cons_succ]
            intro v W4 hW3 hV
            have h6 : ∃ g, W4.heap[wr.heap.size]? = some (.cells (qC imC emC ⟨xp, xk, xm, xt, xb⟩ ⟨yp, yg, ⟨yi, yk, ym, yt, yb⟩⟩ true g).toArray 59 (0, 0)) := hV 6 (by decide)
            have h8 : ∃ y0, W4.heap[wr.heap.size]? = some (.cells (qC imC emC ⟨xp, xk, xm, xt, xb⟩ y0 true true).toArray 59 (0, 0)) := hV 8 (by decide)
            obtain ⟨f6, h6⟩ := h6
            obtain ⟨x8, h8⟩ := h8
            have HM4 : Hid (W4.heap[wr.heap.size]? = some (.cells (qC imC emC ⟨xp, xk, xm, xt, xb⟩ ⟨yp, yg, ⟨yi, yk, ym, yt, yb⟩⟩ true true).toArray 59 (0, 0))) := by
              show _ = _
              rw [flagB (by rfl) h6 h8] at h6
              exact h6
            have HB4 : Hid (Below wr.heap.size wr W4) := HB2.out.trans (hW3.kept.below HB2.out.size fun q hq e => by omega)
            clear hV hW3 h6 h8 HGb HM2
            have HZ : Hid (W4.heap.size = W4.heap.size) := rfl
            obtain ⟨s2, W6, hr6, ho6, hg6⟩ := more_ie w.heap.size u7 done ((some ⟨xp, xk, xm, xt, xb⟩, some ⟨yp, yg, ⟨yi, yk, ym, yt, yb⟩⟩) : Option Im × Option Em) (W4.alloc (.cells #[.string xp, .int .i64 xk, .int .i64 xm, .int .i64 xt, .string xb, .string yp, .bool yg, .string yi, .int .i64 yk, .int .i64 ym, .int .i64 yt, .string yb, .bool true, .bool true] 59)) ((own_below H.out.row HB4.out).alloc _) W4.heap.size (heap_alloc_new W4 _) (by have := HL0.out; have := H.out.len; have := HN1.out; have := HN2.out; simp only [List.length_cons] at *; omega) (by have := H.out.bel.size; have := HB4.out.size; simp; omega)
            have HO6 : Hid (W6.ownsRow w.heap.size 59 14 s2 (done ++ [((some ⟨xp, xk, xm, xt, xb⟩, some ⟨yp, yg, ⟨yi, yk, ym, yt, yb⟩⟩) : Option Im × Option Em)]).length (rowR ieC (done ++ [((some ⟨xp, xk, xm, xt, xb⟩, some ⟨yp, yg, ⟨yi, yk, ym, yt, yb⟩⟩) : Option Im × Option Em)]))) := ho6
            have HB6 : Hid (Below w.heap.size w W6) := ((H.out.bel.trans (HB4.out.mono H.out.bel.size)).alloc (Nat.le_trans H.out.bel.size HB4.out.size) _).grown hg6 (by have := H.out.bel.size; have := HB4.out.size; simp; omega) fun g hg => (H.out.row.lt g hg).1
            have hrg := blk_range HM4.out
            clear ho6 hg6 HZ
            go_upto_region 9 with fail
            refine wp_region_lit ?_
            refine wpList_plain rfl fun C hC => ?_
            go_simp
            refine hC _ _ ?_
            clear hC C
            refine wpList_load_mid rfl 59 (.tmp 8) rfl wr.heap.size 0 rfl [.string xp, .int .i64 xk, .int .i64 xm, .int .i64 xt, .string xb, .string yp, .bool yg, .string yi, .int .i64 yk, .int .i64 ym, .int .i64 yt, .string yb, .bool true, .bool true] _ hrg Tryd.underlying59 rfl (by kernel_rfl) ?_
            refine wpList_plain rfl fun C hC => ?_
            go_simp
            refine hC _ _ ?_
            clear hC C
            refine wpL_append_run rfl (.tmp 48) (.tmp 50) 55 55 rfl rfl _ _ s2 W6 rfl rfl hr6 ?_
            refine wpList_plain rfl fun C hC => ?_
            go_simp
            refine hC _ _ ?_
            clear hC C hr6 hrg HM4
            go_wp2_with fail
            go_roundw
            case rel => exact ⟨la, lb, done ++ [((some ⟨xp, xk, xm, xt, xb⟩, some ⟨yp, yg, ⟨yi, yk, ym, yt, yb⟩⟩) : Option Im × Option Em)], ⟨HRa.out, HRb.out, (fun q hq => H.out.oa q (List.mem_cons_of_mem _ hq)), (fun q hq => H.out.ob q (List.mem_cons_of_mem _ hq)), HO6.out, HB6.out, by rw [H.out.eq]; exact (congrArg (done ++ ·) (Dl.side_eq (f := fun x : Im => x.it.path) (g := fun y : Em => y.ed.path) HE.out la lb)).trans (by simp), by have := H.out.len; simp only [List.length_append, List.length_cons, List.length_nil] at *; omega⟩⟩
            case measure => have q1 := HLa.out; have q2 := HLb.out; have q3 := HN1.out; have q4 := HN2.out; (try rw [q1]); (try rw [q2]); simp only [lenIE]; omega
          · have HE : Hid ((⟨xp, xk, xm, xt, xb⟩ : Im).it.path ≠ (⟨yp, yg, ⟨yi, yk, ym, yt, yb⟩⟩ : Em).ed.path) := hne
            have HE2 : Hid ((Nn.less (⟨xp, xk, xm, xt, xb⟩ : Im).it.path (⟨yp, yg, ⟨yi, yk, ym, yt, yb⟩⟩ : Em).ed.path).1 = true) := hls
            clear hne hls HC3
            go_upto_region 6 with fail
            have HGa : Hid (∀ W, GA imC emC 59 wr.heap.size ⟨xp, xk, xm, xt, xb⟩ W2 W → W.rangeAt bk o (imC ⟨xp, xk, xm, xt, xb⟩)) := fun W hW => HXa.out W (HB2.out.trans (hW.kept.below HB2.out.size fun q hq e => by omega))
            refine wp_region_rel (G := GA imC emC 59 wr.heap.size ⟨xp, xk, xm, xt, xb⟩) (W0 := W2) GA.refl GA.trans (by kernel_rfl) (by kernel_rfl) (by kernel_rfl) (GA.drew W2) ?_
            refine .inl ⟨.slice (some ⟨bk, o, none⟩) (n1 + 1) pc, fun v W hW hd => step_run (by first | rfl | simp [Region.wanted, yielded]) _ W (by clear hd; go_simp) rfl (GA.refl _), ?_⟩
            simp only [Act.put, List.setIfInBounds_toArray, List.set_cons_zero, List.set_cons_succ]
            refine .inl ⟨.pointer (some ⟨bk, o, none⟩), fun v W hW hd => step_run (by first | rfl | simp [Region.wanted, yielded]) _ W (by clear hd; go_simp) rfl (GA.refl _), ?_⟩
            simp only [Act.put, List.setIfInBounds_toArray, List.set_cons_zero, List.set_cons_succ]
            refine .inl ⟨.agg #[.string xp, .int .i64 xk, .int .i64 xm, .int .i64 xt, .string xb], fun v W hW hd => step_run rfl _ W (exec_ld 29 (.tmp 33) rfl bk o rfl (imC ⟨xp, xk, xm, xt, xb⟩) _ (HGa.out W hW) Tryd.underlying29 rfl (by kernel_rfl)) rfl (GA.refl _), ?_⟩
            simp only [Act.put, List.setIfInBounds_toArray, List.set_cons_zero, List.set_cons_succ]
            refine .inl ⟨.slice (some ⟨bk, o, none⟩) (n1 + 1) pc, fun v W hW hd => step_run (by first | rfl | simp [Region.wanted, yielded]) _ W (by clear hd; go_simp) rfl (GA.refl _), ?_⟩
            simp only [Act.put, List.setIfInBounds_toArray, List.set_cons_zero, List.set_cons_succ]
            refine .inl ⟨va, fun v W hW hd => step_run (by first | rfl | simp [Region.wanted, yielded]) _ W (by clear hd; have hv := Hva.out; have hq : ¬ ((n1 : Int) + 1 < 1) := (by omega); go_simp) rfl (GA.refl _), ?_⟩
            simp only [Act.put, List.setIfInBounds_toArray, List.set_cons_zero, List.set_cons_succ]
            refine .inl ⟨.pointer (some ⟨wr.heap.size, 0, none⟩), fun v W hW hd => step_run (by first | rfl | simp [Region.wanted, yielded]) _ W (by clear hd; go_simp) rfl (GA.refl _), ?_⟩
            simp only [Act.put, List.setIfInBounds_toArray, List.set_cons_zero, List.set_cons_succ]
            refine .inr ⟨fun _ W => ∃ f, W.heap[wr.heap.size]? = some (.cells (qC imC emC ⟨xp, xk, xm, xt, xb⟩ (em0) f false).toArray 59 (0, 0)), fun u W W' hv hg => ?_, fun v W hW hd => ?_, ?_⟩
            · obtain ⟨f, hv⟩ := hv
              obtain ⟨x1, f1, e, _, h⟩ := hg.blk _ _ _ _ hv
              exact ⟨f1, by rw [show x1 = _ from e.elim id id] at h; exact h⟩
            · clear hd
              obtain ⟨x1, f1, _, _, hq⟩ := hW.blk im0 (em0) false false HM2.out
              exact step_still rfl (W.setCells wr.heap.size 0 (imC ⟨xp, xk, xm, xt, xb⟩)) (exec_st 29 (.tmp 37) (.tmp 34) rfl wr.heap.size 0 #[.string xp, .int .i64 xk, .int .i64 xm, .int .i64 xt, .string xb] rfl rfl (blk_there hq (Nat.le_of_ble_eq_true rfl)) (by kernel_rfl) (all_oneCell_toArray (imC_one ⟨xp, xk, xm, xt, xb⟩))) ⟨f1, setA_ie hq⟩ ⟨(Kept.refl _ _).sets (fun e => e rfl) _ _, fun x0 y0 f g h => ⟨_, _, .inr rfl, id, setA_ie h⟩⟩
            simp only [Act.put]
            refine .inl ⟨.pointer (some ⟨wr.heap.size, 12, none⟩), fun v W hW hd => step_run (by first | rfl | simp [Region.wanted, yielded]) _ W (by clear hd; go_simp) rfl (GA.refl _), ?_⟩
            simp only [Act.put, List.setIfInBounds_toArray, List.set_cons_zero, List.set_cons_succ]
            refine .inr ⟨fun _ W => ∃ x0, W.heap[wr.heap.size]? = some (.cells (qC imC emC x0 (em0) true false).toArray 59 (0, 0)), fun u W W' hv hg => ?_, fun v W hW hd => ?_, ?_⟩
            · obtain ⟨x0, hv⟩ := hv
              obtain ⟨x1, f1, _, e, h⟩ := hg.blk _ _ _ _ hv
              exact ⟨x1, by rw [e rfl] at h; exact h⟩
            · clear hd
              obtain ⟨x1, f1, _, _, hq⟩ := hW.blk im0 (em0) false false HM2.out
              have hth := (blk_there (o := 12) (k := 1) hq (Nat.le_of_ble_eq_true rfl)) 0 (by omega)
              have hf1 := hth.2
              obtain ⟨hcv, hf2⟩ := Option.isSome_iff_exists.1 hth.1
              simp only [Nat.add_zero] at hf1 hf2
              exact step_still rfl (W.setCell ⟨wr.heap.size, 12, none⟩ (.bool true)) (by clear hW hq hth; go_simp) ⟨x1, flgA_ie hq⟩ ⟨(Kept.refl _ _).setCell (a := ⟨wr.heap.size, 12, none⟩) (fun e => e rfl) _, fun x0 y0 f g h => ⟨_, _, .inl rfl, fun _ => rfl, flgA_ie h⟩⟩
            simp only [Act.put]
            refine .inl ⟨va, fun v W hW hd => step_run (by first | rfl | simp [Region.wanted, yielded]) _ W (by clear hd; go_simp) rfl (GA.refl _), ?_⟩
            simp only [Act.put, List.setIfInBounds_toArray, List.set_cons_zero]
            intro v W3 hW3 hV
            have h6 : ∃ f, W3.heap[wr.heap.size]? = some (.cells (qC imC emC ⟨xp, xk, xm, xt, xb⟩ (em0) f false).toArray 59 (0, 0)) := hV 6 (by decide)
            have h8 : ∃ x0, W3.heap[wr.heap.size]? = some (.cells (qC imC emC x0 (em0) true false).toArray 59 (0, 0)) := hV 8 (by decide)
            obtain ⟨f6, h6⟩ := h6
            obtain ⟨x8, h8⟩ := h8
            have HM4 : Hid (W3.heap[wr.heap.size]? = some (.cells (qC imC emC ⟨xp, xk, xm, xt, xb⟩ (em0) true false).toArray 59 (0, 0))) := by
              show _ = _
              rw [flagA (by rfl) h6 h8] at h6
              exact h6
            have HB4 : Hid (Below wr.heap.size wr W3) := HB2.out.trans (hW3.kept.below HB2.out.size fun q hq e => by omega)
            clear hV hW3 h6 h8 HGa HM2
            have HZ : Hid (W3.heap.size = W3.heap.size) := rfl
            obtain ⟨s2, W6, hr6, ho6, hg6⟩ := more_ie w.heap.size u7 done ((some ⟨xp, xk, xm, xt, xb⟩, none) : Option Im × Option Em) (W3.alloc (.cells #[.string xp, .int .i64 xk, .int .i64 xm, .int .i64 xt, .string xb, .string ⟨#[]⟩, .bool false, .string ⟨#[]⟩, .int .i64 0, .int .i64 0, .int .i64 0, .string ⟨#[]⟩, .bool true, .bool false] 59)) ((own_below H.out.row HB4.out).alloc _) W3.heap.size (heap_alloc_new W3 _) (by have := HL0.out; have := H.out.len; have := HN1.out; have := HN2.out; simp only [List.length_cons] at *; omega) (by have := H.out.bel.size; have := HB4.out.size; simp; omega)
            have HO6 : Hid (W6.ownsRow w.heap.size 59 14 s2 (done ++ [((some ⟨xp, xk, xm, xt, xb⟩, none) : Option Im × Option Em)]).length (rowR ieC (done ++ [((some ⟨xp, xk, xm, xt, xb⟩, none) : Option Im × Option Em)]))) := ho6
            have HB6 : Hid (Below w.heap.size w W6) := ((H.out.bel.trans (HB4.out.mono H.out.bel.size)).alloc (Nat.le_trans H.out.bel.size HB4.out.size) _).grown hg6 (by have := H.out.bel.size; have := HB4.out.size; simp; omega) fun g hg => (H.out.row.lt g hg).1
            have hrg := blk_range HM4.out
            clear ho6 hg6 HZ
            go_upto_region 9 with fail
            refine wp_region_lit ?_
            refine wpList_plain rfl fun C hC => ?_
            go_simp
            refine hC _ _ ?_
            clear hC C
            refine wpList_load_mid rfl 59 (.tmp 8) rfl wr.heap.size 0 rfl [.string xp, .int .i64 xk, .int .i64 xm, .int .i64 xt, .string xb, .string ⟨#[]⟩, .bool false, .string ⟨#[]⟩, .int .i64 0, .int .i64 0, .int .i64 0, .string ⟨#[]⟩, .bool true, .bool false] _ hrg Tryd.underlying59 rfl (by kernel_rfl) ?_
            refine wpList_plain rfl fun C hC => ?_
            go_simp
            refine hC _ _ ?_
            clear hC C
            refine wpL_append_run rfl (.tmp 48) (.tmp 50) 55 55 rfl rfl _ _ s2 W6 rfl rfl hr6 ?_
            refine wpList_plain rfl fun C hC => ?_
            go_simp
            refine hC _ _ ?_
            clear hC C hr6 hrg HM4
            go_wp2_with fail
            go_roundw
            case rel => exact ⟨la, ⟨yp, yg, ⟨yi, yk, ym, yt, yb⟩⟩ :: lb, done ++ [((some ⟨xp, xk, xm, xt, xb⟩, none) : Option Im × Option Em)], ⟨HRa.out, H.out.rb, (fun q hq => H.out.oa q (List.mem_cons_of_mem _ hq)), H.out.ob, HO6.out, HB6.out, by rw [H.out.eq]; exact (congrArg (done ++ ·) (Dl.side_lt (f := fun x : Im => x.it.path) (g := fun y : Em => y.ed.path) HE.out HE2.out la lb)).trans (by simp), by have := H.out.len; simp only [List.length_append, List.length_cons, List.length_nil] at *; omega⟩⟩
            case measure => have q1 := HLa.out; have q2 := HLb.out; have q3 := HN1.out; have q4 := HN2.out; (try rw [q1]); (try rw [q2]); simp only [lenIE]; omega
          · have HE : Hid ((⟨xp, xk, xm, xt, xb⟩ : Im).it.path ≠ (⟨yp, yg, ⟨yi, yk, ym, yt, yb⟩⟩ : Em).ed.path) := hne
            have HE2 : Hid ((Nn.less (⟨xp, xk, xm, xt, xb⟩ : Im).it.path (⟨yp, yg, ⟨yi, yk, ym, yt, yb⟩⟩ : Em).ed.path).1 = false) := hls
            clear hne hls HC3
            go_upto_region 8 with fail
            have HGb : Hid (∀ W, GB imC emC 59 wr.heap.size ⟨yp, yg, ⟨yi, yk, ym, yt, yb⟩⟩ W2 W → W.rangeAt bkk oo (emC ⟨yp, yg, ⟨yi, yk, ym, yt, yb⟩⟩)) := fun W hW => HXb.out W (HB2.out.trans (hW.kept.below HB2.out.size fun q hq e => by omega))
            refine wp_region_rel (G := GB imC emC 59 wr.heap.size ⟨yp, yg, ⟨yi, yk, ym, yt, yb⟩⟩) (W0 := W2) GB.refl GB.trans (by kernel_rfl) (by kernel_rfl) (by kernel_rfl) (GB.drew W2) ?_
            refine .inl ⟨.slice (some ⟨bkk, oo, none⟩) (n2 + 1) qc, fun v W hW hd => step_run (by first | rfl | simp [Region.wanted, yielded]) _ W (by clear hd; go_simp) rfl (GB.refl _), ?_⟩
            simp only [Act.put, List.setIfInBounds_toArray, List.set_cons_zero, List.set_cons_succ]
            refine .inl ⟨.pointer (some ⟨bkk, oo, none⟩), fun v W hW hd => step_run (by first | rfl | simp [Region.wanted, yielded]) _ W (by clear hd; go_simp) rfl (GB.refl _), ?_⟩
            simp only [Act.put, List.setIfInBounds_toArray, List.set_cons_zero, List.set_cons_succ]
            refine .inl ⟨.agg #[.string yp, .bool yg, .string yi, .int .i64 yk, .int .i64 ym, .int .i64 yt, .string yb], fun v W hW hd => step_run rfl _ W (exec_ld 31 (.tmp 42) rfl bkk oo rfl (emC ⟨yp, yg, ⟨yi, yk, ym, yt, yb⟩⟩) _ (HGb.out W hW) Tryd.underlying31 rfl (by kernel_rfl)) rfl (GB.refl _), ?_⟩
            simp only [Act.put, List.setIfInBounds_toArray, List.set_cons_zero, List.set_cons_succ]
            refine .inl ⟨.slice (some ⟨bkk, oo, none⟩) (n2 + 1) qc, fun v W hW hd => step_run (by first | rfl | simp [Region.wanted, yielded]) _ W (by clear hd; go_simp) rfl (GB.refl _), ?_⟩
            simp only [Act.put, List.setIfInBounds_toArray, List.set_cons_zero, List.set_cons_succ]
            refine .inl ⟨vb, fun v W hW hd => step_run (by first | rfl | simp [Region.wanted, yielded]) _ W (by clear hd; have hv := Hvb.out; have hq : ¬ ((n2 : Int) + 1 < 1) := (by omega); go_simp) rfl (GB.refl _), ?_⟩
            simp only [Act.put, List.setIfInBounds_toArray, List.set_cons_zero, List.set_cons_succ]
            refine .inl ⟨.pointer (some ⟨wr.heap.size, 5, none⟩), fun v W hW hd => step_run (by first | rfl | simp [Region.wanted, yielded]) _ W (by clear hd; go_simp) rfl (GB.refl _), ?_⟩
            simp only [Act.put, List.setIfInBounds_toArray, List.set_cons_zero, List.set_cons_succ]
            refine .inr ⟨fun _ W => ∃ g, W.heap[wr.heap.size]? = some (.cells (qC imC emC im0 ⟨yp, yg, ⟨yi, yk, ym, yt, yb⟩⟩ false g).toArray 59 (0, 0)), fun u W W' hv hg => ?_, fun v W hW hd => ?_, ?_⟩
            · obtain ⟨f, hv⟩ := hv
              obtain ⟨x1, f1, e, _, h⟩ := hg.blk _ _ _ _ hv
              exact ⟨f1, by rw [show x1 = _ from e.elim id id] at h; exact h⟩
            · clear hd
              obtain ⟨x1, f1, _, _, hq⟩ := hW.blk im0 (em0) false false HM2.out
              exact step_still rfl (W.setCells wr.heap.size 5 (emC ⟨yp, yg, ⟨yi, yk, ym, yt, yb⟩⟩)) (exec_st 31 (.tmp 46) (.tmp 43) rfl wr.heap.size 5 #[.string yp, .bool yg, .string yi, .int .i64 yk, .int .i64 ym, .int .i64 yt, .string yb] rfl rfl (blk_there hq (Nat.le_of_ble_eq_true rfl)) (by kernel_rfl) (all_oneCell_toArray (emC_one ⟨yp, yg, ⟨yi, yk, ym, yt, yb⟩⟩))) ⟨f1, setB_ie hq⟩ ⟨(Kept.refl _ _).sets (fun e => e rfl) _ _, fun x0 y0 f g h => ⟨_, _, .inr rfl, id, setB_ie h⟩⟩
            simp only [Act.put]
            refine .inl ⟨.pointer (some ⟨wr.heap.size, 13, none⟩), fun v W hW hd => step_run (by first | rfl | simp [Region.wanted, yielded]) _ W (by clear hd; go_simp) rfl (GB.refl _), ?_⟩
            simp only [Act.put, List.setIfInBounds_toArray, List.set_cons_zero, List.set_cons_succ]
            refine .inr ⟨fun _ W => ∃ y0, W.heap[wr.heap.size]? = some (.cells (qC imC emC im0 y0 false true).toArray 59 (0, 0)), fun u W W' hv hg => ?_, fun v W hW hd => ?_, ?_⟩
            · obtain ⟨x0, hv⟩ := hv
              obtain ⟨x1, f1, _, e, h⟩ := hg.blk _ _ _ _ hv
              exact ⟨x1, by rw [e rfl] at h; exact h⟩
            · clear hd
              obtain ⟨x1, f1, _, _, hq⟩ := hW.blk im0 (em0) false false HM2.out
              have hth := (blk_there (o := 13) (k := 1) hq (Nat.le_of_ble_eq_true rfl)) 0 (by omega)
              have hf1 := hth.2
              obtain ⟨hcv, hf2⟩ := Option.isSome_iff_exists.1 hth.1
              simp only [Nat.add_zero] at hf1 hf2
              exact step_still rfl (W.setCell ⟨wr.heap.size, 13, none⟩ (.bool true)) (by clear hW hq hth; go_simp) ⟨x1, flgB_ie hq⟩ ⟨(Kept.refl _ _).setCell (a := ⟨wr.heap.size, 13, none⟩) (fun e => e rfl) _, fun x0 y0 f g h => ⟨_, _, .inl rfl, fun _ => rfl, flgB_ie h⟩⟩
            simp only [Act.put]
            refine .inl ⟨vb, fun v W hW hd => step_run (by first | rfl | simp [Region.wanted, yielded]) _ W (by clear hd; go_simp) rfl (GB.refl _), ?_⟩
            simp only [Act.put, List.setIfInBounds_toArray, List.set_cons_zero, List.set_cons_succ]
            intro v W3 hW3 hV
            have h6 : ∃ g, W3.heap[wr.heap.size]? = some (.cells (qC imC emC im0 ⟨yp, yg, ⟨yi, yk, ym, yt, yb⟩⟩ false g).toArray 59 (0, 0)) := hV 6 (by decide)
            have h8 : ∃ y0, W3.heap[wr.heap.size]? = some (.cells (qC imC emC im0 y0 false true).toArray 59 (0, 0)) := hV 8 (by decide)
            obtain ⟨f6, h6⟩ := h6
            obtain ⟨x8, h8⟩ := h8
            have HM4 : Hid (W3.heap[wr.heap.size]? = some (.cells (qC imC emC im0 ⟨yp, yg, ⟨yi, yk, ym, yt, yb⟩⟩ false true).toArray 59 (0, 0))) := by
              show _ = _
              rw [flagB (by rfl) h6 h8] at h6
              exact h6
            have HB4 : Hid (Below wr.heap.size wr W3) := HB2.out.trans (hW3.kept.below HB2.out.size fun q hq e => by omega)
            clear hV hW3 h6 h8 HGb HM2
            have HZ : Hid (W3.heap.size = W3.heap.size) := rfl
            obtain ⟨s2, W6, hr6, ho6, hg6⟩ := more_ie w.heap.size u7 done ((none, some ⟨yp, yg, ⟨yi, yk, ym, yt, yb⟩⟩) : Option Im × Option Em) (W3.alloc (.cells #[.string ⟨#[]⟩, .int .i64 0, .int .i64 0, .int .i64 0, .string ⟨#[]⟩, .string yp, .bool yg, .string yi, .int .i64 yk, .int .i64 ym, .int .i64 yt, .string yb, .bool false, .bool true] 59)) ((own_below H.out.row HB4.out).alloc _) W3.heap.size (heap_alloc_new W3 _) (by have := HL0.out; have := H.out.len; have := HN1.out; have := HN2.out; simp only [List.length_cons] at *; omega) (by have := H.out.bel.size; have := HB4.out.size; simp; omega)
            have HO6 : Hid (W6.ownsRow w.heap.size 59 14 s2 (done ++ [((none, some ⟨yp, yg, ⟨yi, yk, ym, yt, yb⟩⟩) : Option Im × Option Em)]).length (rowR ieC (done ++ [((none, some ⟨yp, yg, ⟨yi, yk, ym, yt, yb⟩⟩) : Option Im × Option Em)]))) := ho6
            have HB6 : Hid (Below w.heap.size w W6) := ((H.out.bel.trans (HB4.out.mono H.out.bel.size)).alloc (Nat.le_trans H.out.bel.size HB4.out.size) _).grown hg6 (by have := H.out.bel.size; have := HB4.out.size; simp; omega) fun g hg => (H.out.row.lt g hg).1
            have hrg := blk_range HM4.out
            clear ho6 hg6 HZ
            go_upto_region 9 with fail
            refine wp_region_lit ?_
            refine wpList_plain rfl fun C hC => ?_
            go_simp
            refine hC _ _ ?_
            clear hC C
            refine wpList_load_mid rfl 59 (.tmp 8) rfl wr.heap.size 0 rfl [.string ⟨#[]⟩, .int .i64 0, .int .i64 0, .int .i64 0, .string ⟨#[]⟩, .string yp, .bool yg, .string yi, .int .i64 yk, .int .i64 ym, .int .i64 yt, .string yb, .bool false, .bool true] _ hrg Tryd.underlying59 rfl (by kernel_rfl) ?_
            refine wpList_plain rfl fun C hC => ?_
            go_simp
            refine hC _ _ ?_
            clear hC C
            refine wpL_append_run rfl (.tmp 48) (.tmp 50) 55 55 rfl rfl _ _ s2 W6 rfl rfl hr6 ?_
            refine wpList_plain rfl fun C hC => ?_
            go_simp
            refine hC _ _ ?_
            clear hC C hr6 hrg HM4
            go_wp2_with fail
            go_roundw
            case rel => exact ⟨⟨xp, xk, xm, xt, xb⟩ :: la, lb, done ++ [((none, some ⟨yp, yg, ⟨yi, yk, ym, yt, yb⟩⟩) : Option Im × Option Em)], ⟨H.out.ra, HRb.out, H.out.oa, (fun q hq => H.out.ob q (List.mem_cons_of_mem _ hq)), HO6.out, HB6.out, by rw [H.out.eq]; exact (congrArg (done ++ ·) (Dl.side_gt (f := fun x : Im => x.it.path) (g := fun y : Em => y.ed.path) HE.out HE2.out la lb)).trans (by simp), by have := H.out.len; simp only [List.length_append, List.length_cons, List.length_nil] at *; omega⟩⟩
            case measure => have q1 := HLa.out; have q2 := HLb.out; have q3 := HN1.out; have q4 := HN2.out; (try rw [q1]); (try rw [q2]); simp only [lenIE]; omega
  case rest =>
    obtain ⟨la, lb, done, H, HE⟩ := hcut
    obtain ⟨pa, pc, rfl, hpc1, hpc2⟩ := H.out.ra.slice
    obtain ⟨qa, qc, rfl, hqc1, hqc2⟩ := H.out.rb.slice
    obtain ⟨n1, hn1⟩ : ∃ n, n = la.length := ⟨_, rfl⟩
    obtain ⟨n2, hn2⟩ : ∃ n, n = lb.length := ⟨_, rfl⟩
    have HN1 : Hid (n1 = la.length) := hn1
    have HN2 : Hid (n2 = lb.length) := hn2
    have HLn : Hid (done.length + (la.length + lb.length) ≤ na + nb) := by have := H.out.len; show _ ≤ _; omega
    have HF : Hid (sdIE a b = (done ++ la.map (fun x : Im => ((some x, none) : Option Im × Option Em))) ++ lb.map (fun y : Em => ((none, some y) : Option Im × Option Em))) := by
      show _ = _
      rw [H.out.eq]
      rcases HE.out with e | e
      · subst e
        exact (congrArg (done ++ ·) (Dl.side_nil lb)).trans (by simp)
      · subst e
        exact (congrArg (done ++ ·) (Dl.side_nil2 la)).trans (by simp)
    rw [← hn1] at hpc1 H ⊢
    rw [← hn2] at hqc1 H ⊢
    clear hn1 hn2 HE
    go_wp2_with fail
    go_loopw [7, 54] (fun s i wr => ∃ k : Nat, k ≤ n1 ∧ i = .int .i64 k ∧ Hid (wr.ownsRow w.heap.size 59 14 s (done ++ (la.take k).map (fun x : Im => ((some x, none) : Option Im × Option Em))).length (rowR ieC (done ++ (la.take k).map (fun x : Im => ((some x, none) : Option Im × Option Em))))) ∧ Hid (Below w.heap.size w wr)) (fun _ i _ => n1 - (intOf i).toNat)
    case atStart => exact ⟨0, by omega, rfl, by show World.ownsRow _ _ _ _ _ _ _; simpa using H.out.row, H.out.bel⟩
    case round =>
      obtain ⟨k, hk, rfl, HO, HB⟩ := hrel
      by_cases hlt : k < n1
      · obtain ⟨t, ht⟩ : ∃ t, la[k]? = some t := ⟨_, List.getElem?_eq_getElem (by have := HN1.out; omega)⟩
        obtain ⟨bk, o, rfl, hbk, c0, c1, c2, c3, c4⟩ := (H.out.ra.below HB.out).item k t ht
        have HDn : Hid ((done ++ (la.take (k + 1)).map (fun x : Im => ((some x, none) : Option Im × Option Em))) = (done ++ (la.take k).map (fun x : Im => ((some x, none) : Option Im × Option Em))) ++ [(fun x : Im => ((some x, none) : Option Im × Option Em)) t]) := by show _ = _; rw [List.take_add_one, ht]; simp
        obtain ⟨xp, xk, xm, xt, xb⟩ := t
        dsimp only at c0 c1 c2 c3 c4
        obtain ⟨s2, W6, hr6, ho6, hg6⟩ := more_ie w.heap.size u7 _ ((fun x : Im => ((some x, none) : Option Im × Option Em)) ⟨xp, xk, xm, xt, xb⟩) ((wr.alloc (.cells #[.string xp, .int .i64 xk, .int .i64 xm, .int .i64 xt, .string xb] 29)).alloc (.cells #[.string xp, .int .i64 xk, .int .i64 xm, .int .i64 xt, .string xb, .string ⟨#[]⟩, .bool false, .string ⟨#[]⟩, .int .i64 0, .int .i64 0, .int .i64 0, .string ⟨#[]⟩, .bool true, .bool false] 59)) ((HO.out.alloc _).alloc _) (wr.heap.size + 1) (by rw [show wr.heap.size + 1 = (wr.alloc (.cells #[.string xp, .int .i64 xk, .int .i64 xm, .int .i64 xt, .string xb] 29)).heap.size from by simp]; exact heap_alloc_new _ _) (by have := HL0.out; have := HLn.out; have := HN1.out; have := HN2.out; simp only [List.length_append, List.length_map, List.length_take]; omega) (by have := HB.out.size; simp; omega)
        have HO6 : Hid (W6.ownsRow w.heap.size 59 14 s2 (done ++ (la.take (k + 1)).map (fun x : Im => ((some x, none) : Option Im × Option Em))).length (rowR ieC (done ++ (la.take (k + 1)).map (fun x : Im => ((some x, none) : Option Im × Option Em))))) := by
          rw [HDn.out]; exact ho6
        have HB6 : Hid (Below w.heap.size w W6) := (((HB.out.alloc HB.out.size _).alloc (by have := HB.out.size; simp; omega) _)).grown hg6 (by have := HB.out.size; simp; omega) fun g hg => (HO.out.lt g hg).1
        clear ho6 hg6 ht HDn
        go_wp2_with (at_builtin; refine wpL_append_run rfl (.tmp 58) (.tmp 61) 55 55 rfl rfl _ _ s2 W6 rfl rfl hr6 ?_)
        clear hr6 c0 c1 c2 c3 c4
        go_roundw
        case measure => simp only [intOf]; omega
        case rel => exact ⟨k + 1, by omega, by go_num, HO6, HB6⟩
      · obtain rfl : k = n1 := by omega
        have HO1 : Hid (wr.ownsRow w.heap.size 59 14 u7 (done ++ la.map (fun x : Im => ((some x, none) : Option Im × Option Em))).length (rowR ieC (done ++ la.map (fun x : Im => ((some x, none) : Option Im × Option Em))))) := by
          have h := HO.out
          rw [List.take_of_length_le (by have := HN1.out; omega)] at h
          exact h
        clear HO
        go_wp2_with fail
        go_loopw [7, 66] (fun s i wr => ∃ k : Nat, k ≤ n2 ∧ i = .int .i64 k ∧ Hid (wr.ownsRow w.heap.size 59 14 s ((done ++ la.map (fun x : Im => ((some x, none) : Option Im × Option Em))) ++ (lb.take k).map (fun y : Em => ((none, some y) : Option Im × Option Em))).length (rowR ieC ((done ++ la.map (fun x : Im => ((some x, none) : Option Im × Option Em))) ++ (lb.take k).map (fun y : Em => ((none, some y) : Option Im × Option Em))))) ∧ Hid (Below w.heap.size w wr)) (fun _ i _ => n2 - (intOf i).toNat)
        case atStart => exact ⟨0, by omega, rfl, by show World.ownsRow _ _ _ _ _ _ _; simpa using HO1.out, HB.out⟩
        case round =>
          obtain ⟨k, hk, rfl, HO, HB⟩ := hrel
          clear HO1
          by_cases hlt : k < n2
          · obtain ⟨t, ht⟩ : ∃ t, lb[k]? = some t := ⟨_, List.getElem?_eq_getElem (by have := HN2.out; omega)⟩
            obtain ⟨bk, o, rfl, hbk, c0, c1, c2, c3, c4, c5, c6⟩ := (H.out.rb.below HB.out).edit k t ht
            have HDn : Hid (((done ++ la.map (fun x : Im => ((some x, none) : Option Im × Option Em))) ++ (lb.take (k + 1)).map (fun y : Em => ((none, some y) : Option Im × Option Em))) = ((done ++ la.map (fun x : Im => ((some x, none) : Option Im × Option Em))) ++ (lb.take k).map (fun y : Em => ((none, some y) : Option Im × Option Em))) ++ [(fun y : Em => ((none, some y) : Option Im × Option Em)) t]) := by show _ = _; rw [List.take_add_one, ht]; simp
            obtain ⟨yp, yg, ⟨yi, yk, ym, yt, yb⟩⟩ := t
            dsimp only at c0 c1 c2 c3 c4 c5 c6
            obtain ⟨s2, W6, hr6, ho6, hg6⟩ := more_ie w.heap.size u7 _ ((fun y : Em => ((none, some y) : Option Im × Option Em)) ⟨yp, yg, ⟨yi, yk, ym, yt, yb⟩⟩) ((wr.alloc (.cells #[.string yp, .bool yg, .string yi, .int .i64 yk, .int .i64 ym, .int .i64 yt, .string yb] 31)).alloc (.cells #[.string ⟨#[]⟩, .int .i64 0, .int .i64 0, .int .i64 0, .string ⟨#[]⟩, .string yp, .bool yg, .string yi, .int .i64 yk, .int .i64 ym, .int .i64 yt, .string yb, .bool false, .bool true] 59)) ((HO.out.alloc _).alloc _) (wr.heap.size + 1) (by rw [show wr.heap.size + 1 = (wr.alloc (.cells #[.string yp, .bool yg, .string yi, .int .i64 yk, .int .i64 ym, .int .i64 yt, .string yb] 31)).heap.size from by simp]; exact heap_alloc_new _ _) (by have := HL0.out; have := HLn.out; have := HN1.out; have := HN2.out; simp only [List.length_append, List.length_map, List.length_take]; omega) (by have := HB.out.size; simp; omega)
            have HO6 : Hid (W6.ownsRow w.heap.size 59 14 s2 ((done ++ la.map (fun x : Im => ((some x, none) : Option Im × Option Em))) ++ (lb.take (k + 1)).map (fun y : Em => ((none, some y) : Option Im × Option Em))).length (rowR ieC ((done ++ la.map (fun x : Im => ((some x, none) : Option Im × Option Em))) ++ (lb.take (k + 1)).map (fun y : Em => ((none, some y) : Option Im × Option Em))))) := by
              rw [HDn.out]; exact ho6
            have HB6 : Hid (Below w.heap.size w W6) := (((HB.out.alloc HB.out.size _).alloc (by have := HB.out.size; simp; omega) _)).grown hg6 (by have := HB.out.size; simp; omega) fun g hg => (HO.out.lt g hg).1
            clear ho6 hg6 ht HDn
            go_wp2_with (at_builtin; refine wpL_append_run rfl (.tmp 70) (.tmp 73) 55 55 rfl rfl _ _ s2 W6 rfl rfl hr6 ?_)
            clear hr6 c0 c1 c2 c3 c4 c5 c6
            go_roundw
            case measure => simp only [intOf]; omega
            case rel => exact ⟨k + 1, by omega, by go_num, HO6, HB6⟩
          · obtain rfl : k = n2 := by omega
            have HO2 : Hid (wr.ownsRow w.heap.size 59 14 u7 (sdIE a b).length (rowR ieC (sdIE a b))) := by
              have h := HO.out
              rw [List.take_of_length_le (by have := HN2.out; omega), ← HF.out] at h
              exact h
            go_wp2_with fail
            go_ret
            exact ⟨_, rfl, HO2.out, HB.out⟩

end Go.Proofs.YthpcbbkpjggjbaaDoor

namespace Go.Proofs.YthpcbbkpjggjbaaDoor
open Go.RowKit
set_option maxRecDepth 4000

set_option maxHeartbeats 1000000 in
theorem has_any (x : Em) (w : World) :
    Calls Tryd.prog 36 #[emV x] w fun e w' => e = .returned (.bool (hasB x)) ∧ Below w.heap.size w w' := by
  obtain ⟨xp, xg, ⟨xi, xk, xm, xt, xb⟩⟩ := x
  obtain ⟨W1, hW1⟩ : ∃ W1, W1 = w.alloc (.cells #[.string xp, .bool xg, .string xi, .int .i64 xk, .int .i64 xm, .int .i64 xt, .string xb] 31) := ⟨_, rfl⟩
  have HB1 : Hid (Below w.heap.size w W1) := by rw [hW1]; exact (Below.refl _ w).alloc (Nat.le_refl _) _
  have HM1 : W1.heap[w.heap.size]? = some (.cells #[.string xp, .bool xg, .string xi, .int .i64 xk, .int .i64 xm, .int .i64 xt, .string xb] 31 (0, 0)) := by rw [hW1]; exact heap_alloc_new w _
  obtain ⟨m0, m1, m2, m3, m4, m5, m6, mlt⟩ := ed_at HM1
  have heq : ∀ W, (Op.equalIn 10000 29 (.agg #[.string xi, .int .i64 xk, .int .i64 xm, .int .i64 xt, .string xb]) (.agg #[.string ⟨#[]⟩, .int .i64 0, .int .i64 0, .int .i64 0, .string ⟨#[]⟩])).run Tryd.prog W = .ok (imSame ⟨xi, xk, xm, xt, xb⟩ im0) W := fun W => it_cmp W ⟨xi, xk, xm, xt, xb⟩ im0
  have HH : Hid (hasB ⟨xp, xg, ⟨xi, xk, xm, xt, xb⟩⟩ = if xg = true then imSame ⟨xi, xk, xm, xt, xb⟩ im0 else (xi.toList == xp.toList)) := rfl
  generalize hasB ⟨xp, xg, ⟨xi, xk, xm, xt, xb⟩⟩ = HBl at *
  generalize imSame ⟨xi, xk, xm, xt, xb⟩ im0 = SM at *
  clear HM1
  go_enter Tryd.func36, Tryd.ntmps36
  go_upto_region 1 with fail
  rw [← hW1]
  clear hW1
  cases xg with
  | true =>
    have HHe : Hid (HBl = SM) := by show _ = _; rw [HH.out, if_pos rfl]
    clear HH
    go_wp2_with fail
    go_ret
    exact ⟨by rw [HHe.out]; rfl, HB1.out⟩
  | false =>
    have HHe : Hid (HBl = (xi.toList == xp.toList)) := by show _ = _; rw [HH.out, if_neg (by decide)]
    clear HH
    obtain ⟨q, hq⟩ : ∃ q, q = (xi.toList == xp.toList) := ⟨_, rfl⟩
    rw [← hq] at HHe
    have hq2 : (xi.toList == xp.toList) = q := hq.symm
    clear hq
    go_wp2_with fail
    go_ret
    exact ⟨by rw [HHe.out, ← hq2]; rfl, HB1.out⟩

/-- the edit ahead of place k -/
def prE (l : List Em) (k : Nat) : Option Dl.Ed := if k = 0 then none else (l[k - 1]?).map Em.ed

theorem chk_step {l : List Em} {k : Nat} {x : Em} (hx : l[k]? = some x) : Dl.chkF (prE l k) (edl (l.drop k)) = if Dl.eErr x.ed ≠ 0 then Dl.eErr x.ed else if Dl.lateE (prE l k) x.ed = true then 4 else Dl.chkF (prE l (k + 1)) (edl (l.drop (k + 1))) := by
  have hlt := (List.getElem?_eq_some_iff.1 hx).1
  have e0 : edl (l.drop k) = x.ed :: edl (l.drop (k + 1)) := by
    rw [List.drop_eq_getElem_cons hlt, (List.getElem?_eq_some_iff.1 hx).2]; rfl
  have e1 : prE l (k + 1) = some x.ed := by unfold prE; rw [if_neg (by omega), Nat.add_sub_cancel, hx]; rfl
  rw [e0, Dl.chkF, e1]

theorem late_step {l : List Em} {k : Nat} {x y : Em} (hy : l[k]? = some y) : Dl.lateE (prE l (k + 1)) x.ed = !(Nn.less y.path.data.toList x.path.data.toList).1 := by
  have e1 : prE l (k + 1) = some y.ed := by unfold prE; rw [if_neg (by omega), Nat.add_sub_cancel, hy]; rfl
  rw [e1]
  rfl

set_option maxHeartbeats 8000000 in
theorem dcheck_any (v : Value) (l : List Em) (w : World) (h : Eds w v l) (hl : l.length ≤ 140737488351232) (hok : ∀ x ∈ l, x.Ok) (hT : Tabs w) :
    Calls Tryd.prog 15 #[v] w fun e w' => e = .returned (.int .i64 (Dl.check (edl l))) ∧ Below w.heap.size w w' := by
  obtain ⟨a, c, rfl, hlc1, hlc2⟩ := h.slice
  by_cases h200 : 200 < l.length
  · have HR : Hid (Dl.check (edl l) = 2) := by show _ = _; unfold Dl.check; rw [if_pos (by rw [edl_length]; exact h200)]
    generalize Dl.check (edl l) = R at *
    have hgt : ((l.length : Int) > 200) := by omega
    clear h hok hT
    go_enter Tryd.func15, Tryd.ntmps15
    go_wp2_with fail
    go_ret
    exact ⟨by rw [HR.out]; rfl, Below.refl _ _⟩
  have HR : Hid (Dl.check (edl l) = Dl.chkF (prE l 0) (edl (l.drop 0))) := by show _ = _; unfold Dl.check; rw [if_neg (by rw [edl_length]; exact h200)]; rfl
  generalize Dl.check (edl l) = R at *
  have HX : Hid (Eds w (.slice a l.length c) l) := h
  have HK : Hid (∀ x ∈ l, x.Ok) := hok
  have HT : Hid (Tabs w) := hT
  obtain ⟨N, hN⟩ : ∃ N, N = l.length := ⟨_, rfl⟩
  have HN : Hid (N = l.length) := hN
  rw [← hN] at HX hlc1 h200 ⊢
  clear h hok hT hN hl
  have hgt : ¬ ((N : Int) > 200) := by omega
  go_enter Tryd.func15, Tryd.ntmps15
  go_wp2_with fail
  clear hgt
  go_loopw [12] (fun i wr => ∃ k : Nat, k ≤ N ∧ i = .int .i64 k ∧ Hid (R = Dl.chkF (prE l k) (edl (l.drop k))) ∧ Hid (Below w.heap.size w wr)) (fun i _ => N - (intOf i).toNat)
  case atStart => exact ⟨0, by omega, rfl, HR, Below.refl _ _⟩
  case round =>
    clear HR
    obtain ⟨k, hk, rfl, HE, HB⟩ := hrel
    by_cases hlt : k < N
    · have hkl : k < l.length := by have := HN.out; omega
      obtain ⟨x, hx⟩ : ∃ x, l[k]? = some x := ⟨_, List.getElem?_eq_getElem hkl⟩
      have hxo := HK.out x (List.mem_of_getElem? hx)
      have hst := chk_step hx
      rw [← HE.out, eErr_has] at hst
      have HS : Hid (R = if (if (Nn.split x.path.data.toList).2 ≠ 0 then (Nn.split x.path.data.toList).2 else if hasB x = false then 4 else 0) ≠ 0 then (if (Nn.split x.path.data.toList).2 ≠ 0 then (Nn.split x.path.data.toList).2 else if hasB x = false then 4 else 0) else if Dl.lateE (prE l k) x.ed = true then 4 else Dl.chkF (prE l (k + 1)) (edl (l.drop (k + 1)))) := hst
      obtain ⟨kb, ko, rfl, hkb, u0, u1, u2, u3, u4, u5, u6⟩ := (HX.out.below HB.out).edit k x hx
      obtain ⟨W1, hW1⟩ : ∃ W1, W1 = wr.alloc (.cells #[.string x.path, .bool x.gone, .string x.item.path, .int .i64 x.item.kind, .int .i64 x.item.mode, .int .i64 x.item.time, .string x.item.bytes] 31) := ⟨_, rfl⟩
      have HB1 : Hid (Below w.heap.size w W1) := by rw [hW1]; exact HB.out.alloc HB.out.size _
      have HM1 : Hid (W1.heap[wr.heap.size]? = some (.cells #[.string x.path, .bool x.gone, .string x.item.path, .int .i64 x.item.kind, .int .i64 x.item.mode, .int .i64 x.item.time, .string x.item.bytes] 31 (0, 0))) := by rw [hW1]; exact heap_alloc_new wr _
      have hsp := split_any x.path W1 (by have := hxo.path; omega) (HT.out.below HB1.out)
      unfold SpOut at hsp
      have hhas := fun W => has_any x W
      have HCm : Hid (∀ y, (∃ i, k = i + 1 ∧ l[i]? = some y) → ∀ W, Below w.heap.size w W → Calls Tryd.prog 33 #[emV y, emV x] W fun e w' => e = .returned (.int .i64 (Dl.cmp y.ed.path x.ed.path)) ∧ Below W.heap.size W w') := fun y ⟨i, _, hy⟩ W hW => cmpEE_any y x W (HK.out y (List.mem_of_getElem? hy)) hxo (HT.out.below hW)
      have HLt : Hid (∀ y, (∃ i, k = i + 1 ∧ l[i]? = some y) → (Dl.lateE (prE l k) x.ed = true ↔ 0 ≤ Dl.cmp y.ed.path x.ed.path)) := fun y ⟨i, e, hy⟩ => by
        subst e
        rw [late_step hy, cmp_late]
        show _ ↔ (Nn.less y.path.data.toList x.path.data.toList).1 = false
        cases (Nn.less y.path.data.toList x.path.data.toList).1 <;> simp
      have HL0 : Hid (k = 0 → Dl.lateE (prE l k) x.ed = false) := fun e => by subst e; rfl
      have HY : Hid (k ≠ 0 → ∃ y, (∃ i, k = i + 1 ∧ l[i]? = some y)) := fun e => ⟨l[k - 1]'(by omega), k - 1, by omega, List.getElem?_eq_getElem (by omega)⟩
      generalize hLt : Dl.lateE (prE l k) x.ed = LT at *
      obtain ⟨NX, hNX⟩ : ∃ NX, NX = Dl.chkF (prE l (k + 1)) (edl (l.drop (k + 1))) := ⟨_, rfl⟩
      have HNe : Hid (NX = Dl.chkF (prE l (k + 1)) (edl (l.drop (k + 1)))) := hNX
      rw [← hNX] at HS
      clear hNX
      generalize hE : (Nn.split x.path.data.toList).2 = SE at *
      generalize hasB x = HH at *
      clear hst hE hLt hkl hxo
      go_upto_region 6 with fail
      rw [← hW1]
      clear hW1 u0 u1 u2 u3 u4 u5 u6
      obtain ⟨m0, m1, m2, m3, m4, m5, m6, mlt⟩ := ed_at HM1.out
      go_wp2_with fail
      refine hsp.mono ?_
      rintro e w2 ⟨vs, ls, rfl, _, _, _, b2⟩
      have HB2 : Hid (Below w.heap.size w w2) := HB1.out.trans (b2.mono HB1.out.size)
      have HM2 : Hid (w2.heap[wr.heap.size]? = some (.cells #[.string x.path, .bool x.gone, .string x.item.path, .int .i64 x.item.kind, .int .i64 x.item.mode, .int .i64 x.item.time, .string x.item.bytes] 31 (0, 0))) := (b2.block _ mlt).trans HM1.out
      clear hsp b2 m0 m1 m2 m3 m4 m5 m6 mlt HM1 HB1
      obtain ⟨m0, m1, m2, m3, m4, m5, m6, mlt⟩ := ed_at HM2.out
      by_cases c1 : SE = 0
      case neg =>
        have hne : (SE != 0) = true := by rw [bne_iff_ne]; exact c1
        have HRe : Hid (R = SE) := by show _ = _; rw [HS.out, if_pos c1, if_pos c1]
        clear HS c1
        go_wp2_with fail
        go_ret
        exact ⟨by rw [HRe.out]; rfl, HB2.out⟩
      have hne : (SE != 0) = false := by rw [c1]; rfl
      have HS2 : Hid (R = if (if HH = false then (4 : Int) else 0) ≠ 0 then (if HH = false then (4 : Int) else 0) else if LT = true then 4 else NX) := by show _ = _; rw [HS.out, c1]; rfl
      clear HS c1
      cases HH with
      | false =>
        have HRe : Hid (R = 4) := by show _ = _; rw [HS2.out, if_pos rfl, if_pos (by decide)]
        clear HS2
        go_wp2_with fail
        refine (hhas _).mono ?_
        rintro e w3 ⟨rfl, b3⟩
        have HB3 : Hid (Below w.heap.size w w3) := HB2.out.trans (b3.mono HB2.out.size)
        clear hhas b3
        go_wp2_with fail
        go_ret
        exact ⟨by rw [HRe.out]; rfl, HB3.out⟩
      | true =>
        have HS3 : Hid (R = if LT = true then 4 else NX) := by show _ = _; rw [HS2.out]; rfl
        clear HS2
        go_wp2_with fail
        refine (hhas _).mono ?_
        rintro e w3 ⟨rfl, b3⟩
        have HB3 : Hid (Below w.heap.size w w3) := HB2.out.trans (b3.mono HB2.out.size)
        have HM3 : Hid (w3.heap[wr.heap.size]? = some (.cells #[.string x.path, .bool x.gone, .string x.item.path, .int .i64 x.item.kind, .int .i64 x.item.mode, .int .i64 x.item.time, .string x.item.bytes] 31 (0, 0))) := (b3.block _ mlt).trans HM2.out
        clear hhas b3 m0 m1 m2 m3 m4 m5 m6 mlt HM2 HB2
        go_upto_region 11 with fail
        by_cases c2 : k = 0
        · have HSe : Hid (R = NX) := by show _ = _; rw [HS3.out, HL0.out c2, if_neg (by decide)]
          subst c2
          refine wp_region_rel (G := Gw) (W0 := w3) Gw.refl Gw.trans (by kernel_rfl) (by kernel_rfl) (by kernel_rfl) (Below.refl _ w3).drew ?_
          refine .inl ⟨.int .i64 0, fun v W hW hd => step_run (by first | rfl | simp [Region.wanted, yielded]) _ W (by clear hd; go_simp) rfl (Gw.refl _), ?_⟩
          simp only [Act.put, List.setIfInBounds_toArray, List.set_cons_zero, List.set_cons_succ]
          refine .inl ⟨.bool false, fun v W hW hd => step_run (by first | rfl | simp [Region.wanted, yielded]) _ W (by clear hd; go_simp) rfl (Gw.refl _), ?_⟩
          simp only [Act.put, List.setIfInBounds_toArray, List.set_cons_zero, List.set_cons_succ]
          refine .inl ⟨.bool false, fun v W hW hd => step_run (by first | rfl | simp [Region.wanted, yielded]) _ W (by clear hd; go_simp) rfl (Gw.refl _), ?_⟩
          simp only [Act.put, List.setIfInBounds_toArray, List.set_cons_zero, List.set_cons_succ]
          refine .inl ⟨undef, fun v W hW hd => step_skip (by first | rfl | simp [Region.wanted, yielded]) rfl, ?_⟩
          simp only [Act.put, List.setIfInBounds_toArray, List.set_cons_zero, List.set_cons_succ]
          refine .inl ⟨undef, fun v W hW hd => step_skip (by first | rfl | simp [Region.wanted, yielded]) rfl, ?_⟩
          simp only [Act.put, List.setIfInBounds_toArray, List.set_cons_zero, List.set_cons_succ]
          refine .inl ⟨undef, fun v W hW hd => step_skip (by first | rfl | simp [Region.wanted, yielded]) rfl, ?_⟩
          simp only [Act.put, List.setIfInBounds_toArray, List.set_cons_zero, List.set_cons_succ]
          refine .inl ⟨undef, fun v W hW hd => step_skip (by first | rfl | simp [Region.wanted, yielded]) rfl, ?_⟩
          simp only [Act.put, List.setIfInBounds_toArray, List.set_cons_zero, List.set_cons_succ]
          refine .inl ⟨undef, fun v W hW hd => step_skip (by first | rfl | simp [Region.wanted, yielded]) rfl, ?_⟩
          simp only [Act.put, List.setIfInBounds_toArray, List.set_cons_zero, List.set_cons_succ]
          refine .inl ⟨undef, fun v W hW hd => step_skip (by first | rfl | simp [Region.wanted, yielded]) rfl, ?_⟩
          simp only [Act.put, List.setIfInBounds_toArray, List.set_cons_zero, List.set_cons_succ]
          refine .inl ⟨undef, fun v W hW hd => step_skip (by first | rfl | simp [Region.wanted, yielded]) rfl, ?_⟩
          simp only [Act.put, List.setIfInBounds_toArray, List.set_cons_zero, List.set_cons_succ]
          refine .inl ⟨undef, fun v W hW hd => step_skip (by first | rfl | simp [Region.wanted, yielded]) rfl, ?_⟩
          simp only [Act.put, List.setIfInBounds_toArray, List.set_cons_zero, List.set_cons_succ]
          refine .inl ⟨.bool false, fun v W hW hd => step_run (by first | rfl | simp [Region.wanted, yielded]) _ W (by clear hd; go_simp) rfl (Gw.refl _), ?_⟩
          simp only [Act.put, List.setIfInBounds_toArray, List.set_cons_zero, List.set_cons_succ]
          intro v w4 hW4 hV
          have HB4 : Hid (Below w.heap.size w w4) := HB3.out.trans (Below.mono hW4 HB3.out.size)
          clear hV hW4
          go_wp2_with fail
          go_roundw
          case measure => simp only [intOf]; omega
          case rel => exact ⟨0 + 1, by omega, by go_num, by show _ = _; rw [HSe.out, HNe.out], HB4⟩
        · obtain ⟨y, hy⟩ := HY.out c2
          have hlt2 := HLt.out y hy
          have HCy : Hid (∀ W, Below w.heap.size w W → Calls Tryd.prog 33 #[emV y, emV x] W fun e w' => e = .returned (.int .i64 (Dl.cmp y.ed.path x.ed.path)) ∧ Below W.heap.size W w') := HCm.out y hy
          obtain ⟨i, rfl, hyi⟩ := hy
          have HG : Hid (∀ W, Gw w3 W → W.rangeAt kb (ko + i * 7) (emC y)) := fun W hW r u hu => by
            obtain ⟨kb', ko', e, h1, h2⟩ := (HX.out.below HB3.out).get i y hyi
            cases e
            exact (Below.cell hW (p := ⟨kb, _, none⟩) h1).trans (h2 r u hu)
          have HGx : Hid (∀ W, Gw w3 W → W.rangeAt wr.heap.size 0 (emC x)) := fun W hW => blk_range ((Below.block hW _ (Array.getElem?_eq_some_iff.1 HM3.out).1).trans HM3.out)
          generalize Dl.cmp y.ed.path x.ed.path = C at *
          obtain ⟨yp, yg, ⟨yi, yk, ym, yt, yb⟩⟩ := y
          obtain ⟨xp, xg, ⟨xi, xk, xm, xt, xb⟩⟩ := x
          have hij : ((i : Int) + 1 - 1) = i := by omega
          have hgt : ((i : Int) + 1 > 0) := by omega
          have hwr : IntKind.i64.wrap (i : Int) = (i : Int) := by
            simp only [IntKind.wrap, IntKind.bits, IntKind.signed]
            simp
            omega
          have hiN : (i : Int) < (N : Int) := by omega
          have HLT : Hid (LT = true ↔ 0 ≤ C) := hlt2
          clear hlt2 hyi HCm HLt HL0 HY c2 HM3
          refine wp_region_rel (G := Gw) (W0 := w3) Gw.refl Gw.trans (by kernel_rfl) (by kernel_rfl) (by kernel_rfl) (Below.refl _ w3).drew ?_
          refine .inl ⟨.int .i64 ((i : Int) + 1), fun v W hW hd => step_run (by first | rfl | simp [Region.wanted, yielded]) _ W (by clear hd; go_simp) rfl (Gw.refl _), ?_⟩
          simp only [Act.put, List.setIfInBounds_toArray, List.set_cons_zero, List.set_cons_succ]
          refine .inl ⟨.bool true, fun v W hW hd => step_run (by first | rfl | simp [Region.wanted, yielded]) _ W (by clear hd; go_simp) rfl (Gw.refl _), ?_⟩
          simp only [Act.put, List.setIfInBounds_toArray, List.set_cons_zero, List.set_cons_succ]
          refine .inl ⟨.bool true, fun v W hW hd => step_run (by first | rfl | simp [Region.wanted, yielded]) _ W (by clear hd; go_simp) rfl (Gw.refl _), ?_⟩
          simp only [Act.put, List.setIfInBounds_toArray, List.set_cons_zero, List.set_cons_succ]
          refine .inl ⟨.slice (some ⟨kb, ko, none⟩) N c, fun v W hW hd => step_run (by first | rfl | simp [Region.wanted, yielded]) _ W (by clear hd; go_simp) rfl (Gw.refl _), ?_⟩
          simp only [Act.put, List.setIfInBounds_toArray, List.set_cons_zero, List.set_cons_succ]
          refine .inl ⟨.int .i64 ((i : Int) + 1), fun v W hW hd => step_run (by first | rfl | simp [Region.wanted, yielded]) _ W (by clear hd; go_simp) rfl (Gw.refl _), ?_⟩
          simp only [Act.put, List.setIfInBounds_toArray, List.set_cons_zero, List.set_cons_succ]
          refine .inl ⟨.int .i64 (i : Int), fun v W hW hd => step_run (by first | rfl | simp [Region.wanted, yielded]) _ W (by clear hd; have he := hij; have hf := hwr; go_simp) rfl (Gw.refl _), ?_⟩
          simp only [Act.put, List.setIfInBounds_toArray, List.set_cons_zero, List.set_cons_succ]
          refine .inl ⟨.pointer (some ⟨kb, ko + i * 7, none⟩), fun v W hW hd => step_run (by first | rfl | simp [Region.wanted, yielded]) _ W (by clear hd; go_simp) rfl (Gw.refl _), ?_⟩
          simp only [Act.put, List.setIfInBounds_toArray, List.set_cons_zero, List.set_cons_succ]
          refine .inl ⟨.agg #[.string yp, .bool yg, .string yi, .int .i64 yk, .int .i64 ym, .int .i64 yt, .string yb], fun v W hW hd => step_run (by first | rfl | simp [Region.wanted, yielded]) _ W (exec_ld 31 (.tmp 35) rfl kb (ko + i * 7) rfl (emC ⟨yp, yg, ⟨yi, yk, ym, yt, yb⟩⟩) _ (HG.out W hW) Tryd.underlying31 rfl (by kernel_rfl)) rfl (Gw.refl _), ?_⟩
          simp only [Act.put, List.setIfInBounds_toArray, List.set_cons_zero, List.set_cons_succ]
          refine .inl ⟨.agg #[.string xp, .bool xg, .string xi, .int .i64 xk, .int .i64 xm, .int .i64 xt, .string xb], fun v W hW hd => step_run (by first | rfl | simp [Region.wanted, yielded]) _ W (exec_ld 31 (.tmp 4) rfl wr.heap.size 0 rfl (emC ⟨xp, xg, ⟨xi, xk, xm, xt, xb⟩⟩) _ (HGx.out W hW) Tryd.underlying31 rfl (by kernel_rfl)) rfl (Gw.refl _), ?_⟩
          simp only [Act.put, List.setIfInBounds_toArray, List.set_cons_zero, List.set_cons_succ]
          refine .inl ⟨.int .i64 C, fun v W hW hd => step_call (by first | rfl | simp [Region.wanted, yielded]) 33 #[.agg #[.string yp, .bool yg, .string yi, .int .i64 yk, .int .i64 ym, .int .i64 yt, .string yb], .agg #[.string xp, .bool xg, .string xi, .int .i64 xk, .int .i64 xm, .int .i64 xt, .string xb]] (by clear hd; go_simp) ((HCy.out W (HB3.out.trans (Below.mono hW HB3.out.size))).mono fun e w' h => ⟨_, h.1, rfl, h.2⟩), ?_⟩
          simp only [Act.put, List.setIfInBounds_toArray, List.set_cons_zero, List.set_cons_succ]
          refine .inl ⟨.bool (decide (C ≥ 0)), fun v W hW hd => step_run (by first | rfl | simp [Region.wanted, yielded]) _ W (by clear hd; go_simp) rfl (Gw.refl _), ?_⟩
          simp only [Act.put, List.setIfInBounds_toArray, List.set_cons_zero, List.set_cons_succ]
          refine .inl ⟨.bool (decide (C ≥ 0)), fun v W hW hd => step_run (by first | rfl | simp [Region.wanted, yielded]) _ W (by clear hd; go_simp) rfl (Gw.refl _), ?_⟩
          simp only [Act.put, List.setIfInBounds_toArray, List.set_cons_zero, List.set_cons_succ]
          intro v w4 hW4 hV
          have HB4 : Hid (Below w.heap.size w w4) := HB3.out.trans (Below.mono hW4 HB3.out.size)
          clear hV hW4 HCy HG HGx
          by_cases hC : 0 ≤ C
          · have hC2 : decide (C ≥ 0) = true := decide_eq_true hC
            have HRe : Hid (R = 4) := by show _ = _; rw [HS3.out, if_pos (HLT.out.2 hC)]
            have hC4 : ¬ (C < 0) := by omega
            clear HLT HS3
            go_wp2_with fail
            go_ret
            exact ⟨by rw [HRe.out]; rfl, HB4.out⟩
          · have hC2 : decide (C ≥ 0) = false := decide_eq_false hC
            have HRe : Hid (R = NX) := by show _ = _; rw [HS3.out, if_neg fun q => hC (HLT.out.1 q)]
            have hC4 : C < 0 := by omega
            clear HLT HS3
            go_wp2_with fail
            go_roundw
            case measure => simp only [intOf]; omega
            case rel => exact ⟨i + 1 + 1, by omega, by go_num, by show _ = _; rw [HRe.out, HNe.out], HB4⟩
    · obtain rfl : k = N := by omega
      have HRe : Hid (R = 0) := by
        have e : l.drop k = [] := by rw [HN.out]; exact List.drop_of_length_le (Nat.le_refl _)
        show _ = _
        rw [HE.out, e]; rfl
      go_wp2_with fail
      go_ret
      exact ⟨by rw [HRe.out]; rfl, HB.out⟩

end Go.Proofs.YthpcbbkpjggjbaaDoor

namespace Go.Proofs.YthpcbbkpjggjbaaDoor
open Go.RowKit
set_option maxRecDepth 4000

set_option maxHeartbeats 16000000 in
theorem dapply_any (va vb : Value) (a : List Im) (b : List Em) (w : World) (ha : Ims w va a) (hb : Eds w vb b) (la : a.length ≤ 140737488351232) (lb : b.length ≤ 140737488351232) (oa : ∀ x ∈ a, x.Ok) (ob : ∀ x ∈ b, x.Ok) (hT : Tabs w) :
    Calls Tryd.prog 11 #[va, vb] w fun e w' => ∃ v l, e = .returned (.tuple #[v, .int .i64 (Dl.apply (its a) (edl b)).2]) ∧ w'.ownsRow w.heap.size 29 5 v l.length (rowR imC l) ∧ its l = (Dl.apply (its a) (edl b)).1 ∧ (∀ x ∈ l, x.Ok) ∧ Below w.heap.size w w' := by
  have hca := wcheck_any va a w ha la oa hT
  have HCb : Hid (∀ W, Below w.heap.size w W → Calls Tryd.prog 15 #[vb] W fun e w' => e = .returned (.int .i64 (Dl.check (edl b))) ∧ Below W.heap.size W w') := fun W hW => dcheck_any vb b W (hb.below hW) lb ob (hT.below hW)
  have HSd : Hid (a.length + b.length ≤ 1000 → ∀ W, Below w.heap.size w W → Calls Tryd.prog 28 #[va, vb, .func (.func 29) #[] #[]] W fun e w' => ∃ v, e = .returned v ∧ w'.ownsRow W.heap.size 59 14 v (sdIE a b).length (rowR ieC (sdIE a b)) ∧ Below W.heap.size W w') := fun h W hW => sideIE_any va vb a b W (ha.below hW) (hb.below hW) h oa ob (hT.below hW)
  have HP : Hid (Dl.apply (its a) (edl b) = if Wk.world (its a) ≠ 0 then ([], Wk.world (its a)) else if Dl.check (edl b) ≠ 0 then ([], Dl.check (edl b)) else if Wk.world (Dl.appL (its a) (edl b)) ≠ 0 then ([], Wk.world (Dl.appL (its a) (edl b))) else (Dl.appL (its a) (edl b), 0)) := rfl
  have HT : Hid (Tabs w) := hT
  have HOa : Hid (∀ x ∈ a, x.Ok) := oa
  have HOb : Hid (∀ x ∈ b, x.Ok) := ob
  obtain ⟨RP, hRP⟩ : ∃ RP, RP = Dl.apply (its a) (edl b) := ⟨_, rfl⟩
  rw [← hRP] at HP ⊢
  obtain ⟨EA, hEA⟩ : ∃ EA, EA = Wk.world (its a) := ⟨_, rfl⟩
  obtain ⟨EB, hEB⟩ : ∃ EB, EB = Dl.check (edl b) := ⟨_, rfl⟩
  rw [← hEA] at hca
  rw [← hEB] at HCb
  have HEA : Hid (EA = Wk.world (its a)) := hEA
  have HEB : Hid (EB = Dl.check (edl b)) := hEB
  clear ha hb la lb oa ob hT hRP hEA hEB
  go_enter Tryd.func11, Tryd.ntmps11
  go_wp2_with fail
  refine hca.mono ?_
  rintro e w1 ⟨rfl, b1⟩
  have HB1 : Hid (Below w.heap.size w w1) := b1
  clear hca b1
  by_cases c1 : EA = 0
  case neg =>
    have hne : (EA != 0) = true := by rw [bne_iff_ne]; exact c1
    have HRe : Hid (RP = ([], EA)) := by show _ = _; rw [HP.out, ← HEA.out, if_pos c1]
    clear HP HSd HCb
    go_wp2_with fail
    go_ret2
    exact ⟨_, [], by rw [HRe.out]; rfl, World.ownsRow_nil _ _ _ _, by rw [HRe.out]; rfl, fun x hx => absurd hx List.not_mem_nil, HB1.out⟩
  have hne : (EA != 0) = false := by rw [c1]; rfl
  have HEA0 : Hid (Wk.world (its a) = 0) := by show _ = _; rw [← HEA.out]; exact c1
  go_wp2_with fail
  refine (HCb.out _ HB1.out).mono ?_
  rintro e w2 ⟨rfl, b2⟩
  have HB2 : Hid (Below w.heap.size w w2) := HB1.out.trans (b2.mono HB1.out.size)
  clear HCb b2 hne c1
  by_cases c2 : EB = 0
  case neg =>
    have hne : (EB != 0) = true := by rw [bne_iff_ne]; exact c2
    have HRe : Hid (RP = ([], EB)) := by show _ = _; rw [HP.out, if_neg (fun q => q HEA0.out), ← HEB.out, if_pos c2]
    clear HP HSd
    go_wp2_with fail
    go_ret2
    exact ⟨_, [], by rw [HRe.out]; rfl, World.ownsRow_nil _ _ _ _, by rw [HRe.out]; rfl, fun x hx => absurd hx List.not_mem_nil, HB2.out⟩
  have hne : (EB != 0) = false := by rw [c2]; rfl
  have HEB0 : Hid (Dl.check (edl b) = 0) := by show _ = _; rw [← HEB.out]; exact c2
  have hlen : a.length + b.length ≤ 1000 := by
    have h1 := (Dl.wld HEA0.out).1; have h2 := (Dl.check_ok.1 HEB0.out).1; rw [its_length] at h1; rw [edl_length] at h2; omega
  have hside := HSd.out hlen _ HB2.out
  obtain ⟨S, hS⟩ : ∃ S, S = sdIE a b := ⟨_, rfl⟩
  have HS : Hid (S = sdIE a b) := hS
  have HS3 : Hid (S.length ≤ 1000) := by
    show _ ≤ _
    rw [hS]
    exact Nat.le_trans (Dl.side_len _ _) hlen
  rw [← hS] at hside
  clear HSd c2 hlen hS
  go_wp2_with fail
  refine hside.mono ?_
  rintro e w4 ⟨vs, rfl, hs, b4⟩
  have HB4 : Hid (Below w.heap.size w w4) := HB2.out.trans (b4.mono HB2.out.size)
  have hR := Rx.of_own (C := ieC) (k := 14) ieC_len hs
  obtain ⟨sa, sc, rfl⟩ := own_form hs
  obtain ⟨N, hN⟩ : ∃ N, N = S.length := ⟨_, rfl⟩
  have HN : Hid (N = S.length) := hN
  rw [← hN] at hR ⊢
  have HR : Hid (Rx 14 ieC w4 (.slice sa N sc) S) := hR
  have hN3 : N ≤ 1000 := by have := HN.out; have := HS3.out; omega
  clear hside hs b4 hR hN hne
  go_wp2_with fail
  go_loopw [8, 26] (fun s i wr => ∃ k : Nat, k ≤ N ∧ i = .int .i64 k ∧ Hid (wr.ownsRow w4.heap.size 29 5 s ((S.take k).filterMap tA).length (rowR imC ((S.take k).filterMap tA))) ∧ Hid (Below w4.heap.size w4 wr)) (fun _ i _ => N - (intOf i).toNat)
  case atStart => exact ⟨0, by omega, rfl, World.ownsRow_nil _ _ _ _, Below.refl _ _⟩
  case round =>
    obtain ⟨k, hk, rfl, HO, HB⟩ := hrel
    by_cases hlt : k < N
    · obtain ⟨z, ht⟩ : ∃ z, S[k]? = some z := ⟨_, List.getElem?_eq_getElem (by have := HN.out; omega)⟩
      have hz := side_in a b z (by have := List.mem_of_getElem? ht; rw [HS.out] at this; exact this)
      obtain ⟨bk, o, rfl, hbk, hc⟩ := (HR.out.below HB.out).get k z ht
      obtain ⟨zx, zy⟩ := z
      cases zy with
      | none =>
        cases zx with
        | none => exact absurd hz.1 (by simp)
        | some x =>
          obtain ⟨xp, xk, xm, xt, xb⟩ := x
          have c0 : wr.cell? ⟨bk, o + k * 14, none⟩ = some (.string xp) := hc 0 _ rfl
          have c1 : wr.cell? ⟨bk, o + k * 14 + 1, none⟩ = some (.int .i64 xk) := hc 1 _ rfl
          have c2 : wr.cell? ⟨bk, o + k * 14 + 2, none⟩ = some (.int .i64 xm) := hc 2 _ rfl
          have c3 : wr.cell? ⟨bk, o + k * 14 + 3, none⟩ = some (.int .i64 xt) := hc 3 _ rfl
          have c4 : wr.cell? ⟨bk, o + k * 14 + 4, none⟩ = some (.string xb) := hc 4 _ rfl
          have c5 : wr.cell? ⟨bk, o + k * 14 + 5, none⟩ = some (.string ⟨#[]⟩) := hc 5 _ rfl
          have c6 : wr.cell? ⟨bk, o + k * 14 + 6, none⟩ = some (.bool false) := hc 6 _ rfl
          have c7 : wr.cell? ⟨bk, o + k * 14 + 7, none⟩ = some (.string ⟨#[]⟩) := hc 7 _ rfl
          have c8 : wr.cell? ⟨bk, o + k * 14 + 8, none⟩ = some (.int .i64 0) := hc 8 _ rfl
          have c9 : wr.cell? ⟨bk, o + k * 14 + 9, none⟩ = some (.int .i64 0) := hc 9 _ rfl
          have c10 : wr.cell? ⟨bk, o + k * 14 + 10, none⟩ = some (.int .i64 0) := hc 10 _ rfl
          have c11 : wr.cell? ⟨bk, o + k * 14 + 11, none⟩ = some (.string ⟨#[]⟩) := hc 11 _ rfl
          have c12 : wr.cell? ⟨bk, o + k * 14 + 12, none⟩ = some (.bool true) := hc 12 _ rfl
          have c13 : wr.cell? ⟨bk, o + k * 14 + 13, none⟩ = some (.bool false) := hc 13 _ rfl
          clear hc
          obtain ⟨s2, W6, hr6, ho6, hg6⟩ := more_ai w4.heap.size u8 ((S.take k).filterMap tA) (⟨xp, xk, xm, xt, xb⟩ : Im) ((wr.alloc (.cells #[.string xp, .int .i64 xk, .int .i64 xm, .int .i64 xt, .string xb, .string ⟨#[]⟩, .bool false, .string ⟨#[]⟩, .int .i64 0, .int .i64 0, .int .i64 0, .string ⟨#[]⟩, .bool true, .bool false] 59)).alloc (.cells #[.string xp, .int .i64 xk, .int .i64 xm, .int .i64 xt, .string xb] 29)) ((HO.out.alloc _).alloc _) (wr.heap.size + 1) (by rw [show wr.heap.size + 1 = (wr.alloc (.cells #[.string xp, .int .i64 xk, .int .i64 xm, .int .i64 xt, .string xb, .string ⟨#[]⟩, .bool false, .string ⟨#[]⟩, .int .i64 0, .int .i64 0, .int .i64 0, .string ⟨#[]⟩, .bool true, .bool false] 59)).heap.size from by simp]; exact heap_alloc_new _ _) (by have h1 := List.length_filterMap_le tA (S.take k); rw [List.length_take] at h1; have := HS3.out; have := HN.out; omega) (by have := HB.out.size; simp; omega)
          have HO6 : Hid (W6.ownsRow w4.heap.size 29 5 s2 ((S.take (k + 1)).filterMap tA).length (rowR imC ((S.take (k + 1)).filterMap tA))) := by
            rw [told_step ht, show tA (some ⟨xp, xk, xm, xt, xb⟩, none) = some (⟨xp, xk, xm, xt, xb⟩ : Im) from by rfl, Option.toList_some]; exact ho6
          have HB6 : Hid (Below w4.heap.size w4 W6) := (((HB.out.alloc HB.out.size _).alloc (by have := HB.out.size; simp; omega) _)).grown hg6 (by have := HB.out.size; simp; omega) fun g hg => (HO.out.lt g hg).1
          clear ho6 hg6 ht
          go_wp2_with (at_builtin; refine wpL_append_run rfl (.tmp 33) (.tmp 36) 22 22 rfl rfl _ _ s2 W6 rfl rfl hr6 ?_)
          clear hr6 c0 c1 c2 c3 c4 c5 c6 c7 c8 c9 c10 c11 c12 c13
          go_roundw
          case measure => simp only [intOf]; omega
          case rel => exact ⟨k + 1, by omega, by go_num, HO6, HB6⟩
      | some y =>
        obtain ⟨yp, yg, ⟨yi, yk, ym, yt, yb⟩⟩ := y
        cases zx with
        | none =>
          cases yg with
          | true =>
            have c0 : wr.cell? ⟨bk, o + k * 14, none⟩ = some (.string ⟨#[]⟩) := hc 0 _ rfl
            have c1 : wr.cell? ⟨bk, o + k * 14 + 1, none⟩ = some (.int .i64 0) := hc 1 _ rfl
            have c2 : wr.cell? ⟨bk, o + k * 14 + 2, none⟩ = some (.int .i64 0) := hc 2 _ rfl
            have c3 : wr.cell? ⟨bk, o + k * 14 + 3, none⟩ = some (.int .i64 0) := hc 3 _ rfl
            have c4 : wr.cell? ⟨bk, o + k * 14 + 4, none⟩ = some (.string ⟨#[]⟩) := hc 4 _ rfl
            have c5 : wr.cell? ⟨bk, o + k * 14 + 5, none⟩ = some (.string yp) := hc 5 _ rfl
            have c6 : wr.cell? ⟨bk, o + k * 14 + 6, none⟩ = some (.bool true) := hc 6 _ rfl
            have c7 : wr.cell? ⟨bk, o + k * 14 + 7, none⟩ = some (.string yi) := hc 7 _ rfl
            have c8 : wr.cell? ⟨bk, o + k * 14 + 8, none⟩ = some (.int .i64 yk) := hc 8 _ rfl
            have c9 : wr.cell? ⟨bk, o + k * 14 + 9, none⟩ = some (.int .i64 ym) := hc 9 _ rfl
            have c10 : wr.cell? ⟨bk, o + k * 14 + 10, none⟩ = some (.int .i64 yt) := hc 10 _ rfl
            have c11 : wr.cell? ⟨bk, o + k * 14 + 11, none⟩ = some (.string yb) := hc 11 _ rfl
            have c12 : wr.cell? ⟨bk, o + k * 14 + 12, none⟩ = some (.bool false) := hc 12 _ rfl
            have c13 : wr.cell? ⟨bk, o + k * 14 + 13, none⟩ = some (.bool true) := hc 13 _ rfl
            clear hc
            have HO6 : Hid (wr.ownsRow w4.heap.size 29 5 u8 ((S.take (k + 1)).filterMap tA).length (rowR imC ((S.take (k + 1)).filterMap tA))) := by
              rw [told_step ht, show tA (none, some ⟨yp, true, ⟨yi, yk, ym, yt, yb⟩⟩) = none from rfl, Option.toList_none, List.append_nil]; exact HO.out
            have HB6 : Hid (Below w4.heap.size w4 (wr.alloc (.cells #[.string ⟨#[]⟩, .int .i64 0, .int .i64 0, .int .i64 0, .string ⟨#[]⟩, .string yp, .bool true, .string yi, .int .i64 yk, .int .i64 ym, .int .i64 yt, .string yb, .bool false, .bool true] 59))) := HB.out.alloc HB.out.size _
            have HO7 : Hid ((wr.alloc (.cells #[.string ⟨#[]⟩, .int .i64 0, .int .i64 0, .int .i64 0, .string ⟨#[]⟩, .string yp, .bool true, .string yi, .int .i64 yk, .int .i64 ym, .int .i64 yt, .string yb, .bool false, .bool true] 59)).ownsRow w4.heap.size 29 5 u8 ((S.take (k + 1)).filterMap tA).length (rowR imC ((S.take (k + 1)).filterMap tA))) := HO6.out.alloc _
            clear ht HO6
            go_wp2_with fail
            clear c0 c1 c2 c3 c4 c5 c6 c7 c8 c9 c10 c11 c12 c13
            go_roundw
            case measure => simp only [intOf]; omega
            case rel => exact ⟨k + 1, by omega, by go_num, HO7, HB6⟩
          | false =>
            have c0 : wr.cell? ⟨bk, o + k * 14, none⟩ = some (.string ⟨#[]⟩) := hc 0 _ rfl
            have c1 : wr.cell? ⟨bk, o + k * 14 + 1, none⟩ = some (.int .i64 0) := hc 1 _ rfl
            have c2 : wr.cell? ⟨bk, o + k * 14 + 2, none⟩ = some (.int .i64 0) := hc 2 _ rfl
            have c3 : wr.cell? ⟨bk, o + k * 14 + 3, none⟩ = some (.int .i64 0) := hc 3 _ rfl
            have c4 : wr.cell? ⟨bk, o + k * 14 + 4, none⟩ = some (.string ⟨#[]⟩) := hc 4 _ rfl
            have c5 : wr.cell? ⟨bk, o + k * 14 + 5, none⟩ = some (.string yp) := hc 5 _ rfl
            have c6 : wr.cell? ⟨bk, o + k * 14 + 6, none⟩ = some (.bool false) := hc 6 _ rfl
            have c7 : wr.cell? ⟨bk, o + k * 14 + 7, none⟩ = some (.string yi) := hc 7 _ rfl
            have c8 : wr.cell? ⟨bk, o + k * 14 + 8, none⟩ = some (.int .i64 yk) := hc 8 _ rfl
            have c9 : wr.cell? ⟨bk, o + k * 14 + 9, none⟩ = some (.int .i64 ym) := hc 9 _ rfl
            have c10 : wr.cell? ⟨bk, o + k * 14 + 10, none⟩ = some (.int .i64 yt) := hc 10 _ rfl
            have c11 : wr.cell? ⟨bk, o + k * 14 + 11, none⟩ = some (.string yb) := hc 11 _ rfl
            have c12 : wr.cell? ⟨bk, o + k * 14 + 12, none⟩ = some (.bool false) := hc 12 _ rfl
            have c13 : wr.cell? ⟨bk, o + k * 14 + 13, none⟩ = some (.bool true) := hc 13 _ rfl
            clear hc
            obtain ⟨s2, W6, hr6, ho6, hg6⟩ := more_ai w4.heap.size u8 ((S.take k).filterMap tA) (⟨yi, yk, ym, yt, yb⟩ : Im) ((wr.alloc (.cells #[.string ⟨#[]⟩, .int .i64 0, .int .i64 0, .int .i64 0, .string ⟨#[]⟩, .string yp, .bool false, .string yi, .int .i64 yk, .int .i64 ym, .int .i64 yt, .string yb, .bool false, .bool true] 59)).alloc (.cells #[.string yi, .int .i64 yk, .int .i64 ym, .int .i64 yt, .string yb] 29)) ((HO.out.alloc _).alloc _) (wr.heap.size + 1) (by rw [show wr.heap.size + 1 = (wr.alloc (.cells #[.string ⟨#[]⟩, .int .i64 0, .int .i64 0, .int .i64 0, .string ⟨#[]⟩, .string yp, .bool false, .string yi, .int .i64 yk, .int .i64 ym, .int .i64 yt, .string yb, .bool false, .bool true] 59)).heap.size from by simp]; exact heap_alloc_new _ _) (by have h1 := List.length_filterMap_le tA (S.take k); rw [List.length_take] at h1; have := HS3.out; have := HN.out; omega) (by have := HB.out.size; simp; omega)
            have HO6 : Hid (W6.ownsRow w4.heap.size 29 5 s2 ((S.take (k + 1)).filterMap tA).length (rowR imC ((S.take (k + 1)).filterMap tA))) := by
              rw [told_step ht, show tA (none, some ⟨yp, false, ⟨yi, yk, ym, yt, yb⟩⟩) = some (⟨yi, yk, ym, yt, yb⟩ : Im) from by rfl, Option.toList_some]; exact ho6
            have HB6 : Hid (Below w4.heap.size w4 W6) := (((HB.out.alloc HB.out.size _).alloc (by have := HB.out.size; simp; omega) _)).grown hg6 (by have := HB.out.size; simp; omega) fun g hg => (HO.out.lt g hg).1
            clear ho6 hg6 ht
            go_wp2_with (at_builtin; refine wpL_append_run rfl (.tmp 42) (.tmp 46) 22 22 rfl rfl _ _ s2 W6 rfl rfl hr6 ?_)
            clear hr6 c0 c1 c2 c3 c4 c5 c6 c7 c8 c9 c10 c11 c12 c13
            go_roundw
            case measure => simp only [intOf]; omega
            case rel => exact ⟨k + 1, by omega, by go_num, HO6, HB6⟩
        | some x =>
          obtain ⟨xp, xk, xm, xt, xb⟩ := x
          cases yg with
          | true =>
            have c0 : wr.cell? ⟨bk, o + k * 14, none⟩ = some (.string xp) := hc 0 _ rfl
            have c1 : wr.cell? ⟨bk, o + k * 14 + 1, none⟩ = some (.int .i64 xk) := hc 1 _ rfl
            have c2 : wr.cell? ⟨bk, o + k * 14 + 2, none⟩ = some (.int .i64 xm) := hc 2 _ rfl
            have c3 : wr.cell? ⟨bk, o + k * 14 + 3, none⟩ = some (.int .i64 xt) := hc 3 _ rfl
            have c4 : wr.cell? ⟨bk, o + k * 14 + 4, none⟩ = some (.string xb) := hc 4 _ rfl
            have c5 : wr.cell? ⟨bk, o + k * 14 + 5, none⟩ = some (.string yp) := hc 5 _ rfl
            have c6 : wr.cell? ⟨bk, o + k * 14 + 6, none⟩ = some (.bool true) := hc 6 _ rfl
            have c7 : wr.cell? ⟨bk, o + k * 14 + 7, none⟩ = some (.string yi) := hc 7 _ rfl
            have c8 : wr.cell? ⟨bk, o + k * 14 + 8, none⟩ = some (.int .i64 yk) := hc 8 _ rfl
            have c9 : wr.cell? ⟨bk, o + k * 14 + 9, none⟩ = some (.int .i64 ym) := hc 9 _ rfl
            have c10 : wr.cell? ⟨bk, o + k * 14 + 10, none⟩ = some (.int .i64 yt) := hc 10 _ rfl
            have c11 : wr.cell? ⟨bk, o + k * 14 + 11, none⟩ = some (.string yb) := hc 11 _ rfl
            have c12 : wr.cell? ⟨bk, o + k * 14 + 12, none⟩ = some (.bool true) := hc 12 _ rfl
            have c13 : wr.cell? ⟨bk, o + k * 14 + 13, none⟩ = some (.bool true) := hc 13 _ rfl
            clear hc
            have HO6 : Hid (wr.ownsRow w4.heap.size 29 5 u8 ((S.take (k + 1)).filterMap tA).length (rowR imC ((S.take (k + 1)).filterMap tA))) := by
              rw [told_step ht, show tA (some ⟨xp, xk, xm, xt, xb⟩, some ⟨yp, true, ⟨yi, yk, ym, yt, yb⟩⟩) = none from rfl, Option.toList_none, List.append_nil]; exact HO.out
            have HB6 : Hid (Below w4.heap.size w4 (wr.alloc (.cells #[.string xp, .int .i64 xk, .int .i64 xm, .int .i64 xt, .string xb, .string yp, .bool true, .string yi, .int .i64 yk, .int .i64 ym, .int .i64 yt, .string yb, .bool true, .bool true] 59))) := HB.out.alloc HB.out.size _
            have HO7 : Hid ((wr.alloc (.cells #[.string xp, .int .i64 xk, .int .i64 xm, .int .i64 xt, .string xb, .string yp, .bool true, .string yi, .int .i64 yk, .int .i64 ym, .int .i64 yt, .string yb, .bool true, .bool true] 59)).ownsRow w4.heap.size 29 5 u8 ((S.take (k + 1)).filterMap tA).length (rowR imC ((S.take (k + 1)).filterMap tA))) := HO6.out.alloc _
            clear ht HO6
            go_wp2_with fail
            clear c0 c1 c2 c3 c4 c5 c6 c7 c8 c9 c10 c11 c12 c13
            go_roundw
            case measure => simp only [intOf]; omega
            case rel => exact ⟨k + 1, by omega, by go_num, HO7, HB6⟩
          | false =>
            have c0 : wr.cell? ⟨bk, o + k * 14, none⟩ = some (.string xp) := hc 0 _ rfl
            have c1 : wr.cell? ⟨bk, o + k * 14 + 1, none⟩ = some (.int .i64 xk) := hc 1 _ rfl
            have c2 : wr.cell? ⟨bk, o + k * 14 + 2, none⟩ = some (.int .i64 xm) := hc 2 _ rfl
            have c3 : wr.cell? ⟨bk, o + k * 14 + 3, none⟩ = some (.int .i64 xt) := hc 3 _ rfl
            have c4 : wr.cell? ⟨bk, o + k * 14 + 4, none⟩ = some (.string xb) := hc 4 _ rfl
            have c5 : wr.cell? ⟨bk, o + k * 14 + 5, none⟩ = some (.string yp) := hc 5 _ rfl
            have c6 : wr.cell? ⟨bk, o + k * 14 + 6, none⟩ = some (.bool false) := hc 6 _ rfl
            have c7 : wr.cell? ⟨bk, o + k * 14 + 7, none⟩ = some (.string yi) := hc 7 _ rfl
            have c8 : wr.cell? ⟨bk, o + k * 14 + 8, none⟩ = some (.int .i64 yk) := hc 8 _ rfl
            have c9 : wr.cell? ⟨bk, o + k * 14 + 9, none⟩ = some (.int .i64 ym) := hc 9 _ rfl
            have c10 : wr.cell? ⟨bk, o + k * 14 + 10, none⟩ = some (.int .i64 yt) := hc 10 _ rfl
            have c11 : wr.cell? ⟨bk, o + k * 14 + 11, none⟩ = some (.string yb) := hc 11 _ rfl
            have c12 : wr.cell? ⟨bk, o + k * 14 + 12, none⟩ = some (.bool true) := hc 12 _ rfl
            have c13 : wr.cell? ⟨bk, o + k * 14 + 13, none⟩ = some (.bool true) := hc 13 _ rfl
            clear hc
            obtain ⟨s2, W6, hr6, ho6, hg6⟩ := more_ai w4.heap.size u8 ((S.take k).filterMap tA) (⟨yi, yk, ym, yt, yb⟩ : Im) ((wr.alloc (.cells #[.string xp, .int .i64 xk, .int .i64 xm, .int .i64 xt, .string xb, .string yp, .bool false, .string yi, .int .i64 yk, .int .i64 ym, .int .i64 yt, .string yb, .bool true, .bool true] 59)).alloc (.cells #[.string yi, .int .i64 yk, .int .i64 ym, .int .i64 yt, .string yb] 29)) ((HO.out.alloc _).alloc _) (wr.heap.size + 1) (by rw [show wr.heap.size + 1 = (wr.alloc (.cells #[.string xp, .int .i64 xk, .int .i64 xm, .int .i64 xt, .string xb, .string yp, .bool false, .string yi, .int .i64 yk, .int .i64 ym, .int .i64 yt, .string yb, .bool true, .bool true] 59)).heap.size from by simp]; exact heap_alloc_new _ _) (by have h1 := List.length_filterMap_le tA (S.take k); rw [List.length_take] at h1; have := HS3.out; have := HN.out; omega) (by have := HB.out.size; simp; omega)
            have HO6 : Hid (W6.ownsRow w4.heap.size 29 5 s2 ((S.take (k + 1)).filterMap tA).length (rowR imC ((S.take (k + 1)).filterMap tA))) := by
              rw [told_step ht, show tA (some ⟨xp, xk, xm, xt, xb⟩, some ⟨yp, false, ⟨yi, yk, ym, yt, yb⟩⟩) = some (⟨yi, yk, ym, yt, yb⟩ : Im) from by rfl, Option.toList_some]; exact ho6
            have HB6 : Hid (Below w4.heap.size w4 W6) := (((HB.out.alloc HB.out.size _).alloc (by have := HB.out.size; simp; omega) _)).grown hg6 (by have := HB.out.size; simp; omega) fun g hg => (HO.out.lt g hg).1
            clear ho6 hg6 ht
            go_wp2_with (at_builtin; refine wpL_append_run rfl (.tmp 42) (.tmp 46) 22 22 rfl rfl _ _ s2 W6 rfl rfl hr6 ?_)
            clear hr6 c0 c1 c2 c3 c4 c5 c6 c7 c8 c9 c10 c11 c12 c13
            go_roundw
            case measure => simp only [intOf]; omega
            case rel => exact ⟨k + 1, by omega, by go_num, HO6, HB6⟩
    · obtain rfl : k = N := by omega
      have HO1 : Hid (wr.ownsRow w4.heap.size 29 5 u8 (S.filterMap tA).length (rowR imC (S.filterMap tA))) := by
        have h := HO.out
        rw [List.take_of_length_le (by have := HN.out; omega)] at h
        exact h
      have HBw : Hid (Below w.heap.size w wr) := HB4.out.trans (HB.out.mono HB4.out.size)
      have HLn : Hid ((S.filterMap tA).length ≤ 1000) := Nat.le_trans (List.length_filterMap_le _ _) HS3.out
      clear HO HB
      have HK : Hid (∀ x ∈ S.filterMap tA, x.Ok) := fun q hq => by
        obtain ⟨⟨zx, zy⟩, hz, e⟩ := List.mem_filterMap.1 hq
        have hzz := side_in a b _ (by rw [HS.out] at hz; exact hz)
        cases zy with
        | none => exact HOa.out q (hzz.2.1 q e)
        | some y =>
          have hy := HOb.out y (hzz.2.2 y rfl)
          unfold tA at e
          dsimp only at e
          split at e
          · cases e
          · cases e; exact hy.item
      have HAp : Hid (Dl.appL (its a) (edl b) = its (S.filterMap tA)) := by
        have h := app_told HEA0.out HEB0.out
        show _ = _
        rw [HS.out]
        exact h
      have HR3 : Hid (RP = if Wk.world (its (S.filterMap tA)) ≠ 0 then ([], Wk.world (its (S.filterMap tA))) else (its (S.filterMap tA), 0)) := by
        show _ = _
        rw [HP.out, if_neg (fun q => q HEA0.out), if_neg (fun q => q HEB0.out), HAp.out]
      have hwc := wcheck_any u8 (S.filterMap tA) wr (Rx.of_own imC_length HO1.out) (by have := HLn.out; omega) HK.out (HT.out.below HBw.out)
      obtain ⟨EC, hEC⟩ : ∃ EC, EC = Wk.world (its (S.filterMap tA)) := ⟨_, rfl⟩
      rw [← hEC] at hwc HR3
      have HEC : Hid (EC = Wk.world (its (S.filterMap tA))) := hEC
      clear HP hEC
      go_wp2_with fail
      refine hwc.mono ?_
      rintro e w5 ⟨rfl, b5⟩
      have HB5 : Hid (Below w.heap.size w w5) := HBw.out.trans (b5.mono HBw.out.size)
      have HO5 : Hid (w5.ownsRow w4.heap.size 29 5 u8 (S.filterMap tA).length (rowR imC (S.filterMap tA))) := own_below HO1.out b5
      clear hwc b5 HO1
      by_cases c3 : EC = 0
      case neg =>
        have hne : (EC != 0) = true := by rw [bne_iff_ne]; exact c3
        have HRe : Hid (RP = ([], EC)) := by show _ = _; rw [HR3.out, if_pos c3]
        clear HR3
        go_wp2_with fail
        go_ret2
        exact ⟨_, [], by rw [HRe.out]; rfl, World.ownsRow_nil _ _ _ _, by rw [HRe.out]; rfl, fun x hx => absurd hx List.not_mem_nil, HB5.out⟩
      have hne : (EC != 0) = false := by rw [c3]; rfl
      have HRe : Hid (RP = (its (S.filterMap tA), 0)) := by show _ = _; rw [HR3.out, if_neg (fun q => q c3)]
      have hown := ownItems_any u8 (S.filterMap tA) w5 _ HO5.out HK.out (by have := HLn.out; omega)
      clear HR3 c3
      go_wp2_with fail
      refine hown.mono ?_
      rintro e w6 ⟨rfl, b6⟩
      have HB6 : Hid (Below w.heap.size w w6) := HB5.out.trans (b6.mono HB5.out.size)
      have HO6 : Hid (w6.ownsRow w.heap.size 29 5 u8 (S.filterMap tA).length (rowR imC (S.filterMap tA))) := own_lower (own_below HO5.out b6) HB4.out.size
      clear hown b6
      go_wp2_with fail
      go_ret2
      exact ⟨_, S.filterMap tA, by rw [HRe.out]; rfl, HO6.out, by rw [HRe.out], HK.out, HB6.out⟩

end Go.Proofs.YthpcbbkpjggjbaaDoor

namespace Go.Proofs.YthpcbbkpjggjbaaDoor
open Go.RowKit
set_option maxRecDepth 4000

/-- the small world as it lies in memory -/
def smallM : List Im := [⟨⟨#[47, 100]⟩, 2, 0, 0, ⟨#[]⟩⟩, ⟨⟨#[47, 100, 47, 102]⟩, 1, 0, 0, ⟨#[48, 49, 50, 51, 52, 53, 54, 55, 56, 57, 97, 98, 99, 100, 101, 102, 48, 49, 50, 51, 52, 53, 54, 55, 56, 57, 97, 98, 99, 100, 101, 102, 33]⟩⟩]

theorem smallM_world : Wk.world (its smallM) = 0 := by decide +kernel

theorem smallM_ok : ∀ x ∈ smallM, x.Ok := fun x hx => by
  simp only [smallM, List.mem_cons, List.not_mem_nil, or_false] at hx
  rcases hx with rfl | rfl
  · exact ⟨by decide, by decide, by decide⟩
  · exact ⟨by decide, by decide, by decide⟩

theorem some_world (w : World) : Calls Tryd.prog 18 #[] w fun e w' => ∃ a c, e = .returned (.slice (some a) 2 c) ∧ Ims w' (.slice (some a) 2 c) smallM ∧ Below w.heap.size w w' := by
  have HB : Hid (∀ o, Below w.heap.size w (w.alloc o)) := fun o => (Below.refl _ w).alloc (Nat.le_refl _) o
  go_enter Tryd.func18, Tryd.ntmps18
  go_wp2_with fail
  go_ret
  refine ⟨_, _, rfl, ?_, HB.out _⟩
  refine Rx.of_own (base := w.heap.size) (T := 29) imC_length ⟨by rfl, .inr ⟨w.heap.size, 2, _, rfl, Nat.le_refl _, heap_alloc_new w _, Nat.le_refl _, by unfold maxLen; decide, rfl, rfl⟩⟩

end Go.Proofs.YthpcbbkpjggjbaaDoor

namespace Go.Proofs.YthpcbbkpjggjbaaDoor
open Go.RowKit
set_option maxRecDepth 4000

theorem fields_ed : ∃ f0 f1 f2, (Tryd.prog.fieldsOf 31).toList = [f0, f1, f2] ∧ f0.type = 9 ∧ f0.offset = 0 ∧ f0.name ≠ "_" ∧ f1.type = 4 ∧ f1.offset = 1 ∧ f1.name ≠ "_" ∧ f2.type = 29 ∧ f2.offset = 2 ∧ f2.name ≠ "_" := by
  rw [show (Tryd.prog.fieldsOf 31) = _ from by unfold Program.fieldsOf; rw [Tryd.underlying31]]
  exact ⟨_, _, _, rfl, rfl, rfl, by decide, rfl, rfl, by decide, rfl, rfl, by decide⟩

/-- are two edits the same? -/
def emSame (a b : Em) : Bool := (a.path.toList == b.path.toList) && ((a.gone == b.gone) && (imSame a.item b.item && true))

theorem emSame_iff {a b : Em} : emSame a b = true ↔ a = b := by
  constructor
  · intro h
    simp only [emSame, Bool.and_eq_true, beq_iff_eq, Lib.toList_data] at h
    obtain ⟨h0, h1, h2, _⟩ := h
    obtain ⟨p, g, i⟩ := a
    obtain ⟨p', g', i'⟩ := b
    simp only at h0 h1 h2
    rw [ba_inj h0, h1, imSame_iff.1 h2]
  · rintro rfl
    simp only [emSame, imSame_iff.2 rfl, beq_self_eq_true, Bool.and_self]

theorem ed_cmp (W : World) (a b : Em) : (Op.equalIn 10000 31 (.agg #[.string a.path, .bool a.gone, .string a.item.path, .int .i64 a.item.kind, .int .i64 a.item.mode, .int .i64 a.item.time, .string a.item.bytes]) (.agg #[.string b.path, .bool b.gone, .string b.item.path, .int .i64 b.item.kind, .int .i64 b.item.mode, .int .i64 b.item.time, .string b.item.bytes])).run Tryd.prog W = .ok (emSame a b) W := by
  have hp : Tryd.prog.stoodInHeld 31 = false := by kernel_rfl
  have hf : Tryd.prog.underlying 31 = some (.struct (Tryd.prog.fieldsOf 31)) := by kernel_rfl
  obtain ⟨f0, f1, f2, hfs, t0, o0, n0, t1, o1, n1, t2, o2, n2⟩ := fields_ed
  have hs : ∀ s t : ByteArray, (Op.equalIn 9999 9 (.string s) (.string t)).run Tryd.prog W = .ok (s.toList == t.toList) W := fun s t => run_equalIn_string (P := Tryd.prog) W 9998 9 s t (by kernel_rfl)
  have hb : ∀ x y : Bool, (Op.equalIn 9999 4 (.bool x) (.bool y)).run Tryd.prog W = .ok (x == y) W := fun x y => run_equalIn_bool (P := Tryd.prog) (w := W) 9998 4 x y (by kernel_rfl)
  rw [run_equalIn_struct W 9999 31 _ _ hf hp, hfs]
  refine eqf_cons W 9999 _ _ f0 _ (.string a.path) (.string b.path) _ _ n0 (by rw [t0, o0]; simp [part, go_sem]) (by rw [t0, o0]; simp [part, go_sem]) (by rw [t0]; exact hs _ _) ?_
  refine eqf_cons W 9999 _ _ f1 _ (.bool a.gone) (.bool b.gone) _ _ n1 (by rw [t1, o1]; simp [part, go_sem]) (by rw [t1, o1]; simp [part, go_sem]) (by rw [t1]; exact hb _ _) ?_
  refine eqf_cons W 9999 _ _ f2 _ (imV a.item) (imV b.item) _ _ n2 (by rw [t2, o2]; simp [part, go_sem]) (by rw [t2, o2]; simp [part, go_sem]) (by rw [t2]; exact it_cmp_at 9997 W _ _) ?_
  exact eqf_nil W 9999 _ _

set_option maxHeartbeats 2000000 in
theorem equal_eds (v1 v2 : Value) (l m : List Em) (w : World) (h1 : Eds w v1 l) (h2 : Eds w v2 m) (hl : l.length ≤ 140737488351232) :
    Calls Tryd.prog 10 #[v1, v2] w fun e w' => ∃ b : Bool, e = .returned (.bool b) ∧ (b = true ↔ l = m) ∧ Below w.heap.size w w' := by
  obtain ⟨a1, c1, rfl, j1, j2⟩ := h1.slice
  obtain ⟨a2, c2, rfl, j3, j4⟩ := h2.slice
  clear j1 j2 j3 j4
  obtain ⟨n1, hn1⟩ : ∃ n, n = l.length := ⟨_, rfl⟩
  obtain ⟨n2, hn2⟩ : ∃ n, n = m.length := ⟨_, rfl⟩
  have HN1 : Hid (n1 = l.length) := hn1
  have HN2 : Hid (n2 = m.length) := hn2
  rw [← hn1] at h1 hl ⊢
  rw [← hn2] at h2 ⊢
  clear hn1 hn2
  by_cases hq : n1 = n2
  case neg =>
    have hb : ((n1 : Int) != (n2 : Int)) = true := by rw [bne_iff_ne]; omega
    have HF : Hid (l ≠ m) := by rintro rfl; exact hq (HN1.out.trans HN2.out.symm)
    clear hq h1 h2
    go_enter Tryd.func10, Tryd.ntmps10
    go_wp2_with fail
    go_ret
    exact ⟨false, rfl, ⟨fun q => absurd q (by decide), fun q => absurd q HF.out⟩, Below.refl _ _⟩
  subst hq
  have hb : ((n1 : Int) != (n1 : Int)) = false := by simp
  go_enter Tryd.func10, Tryd.ntmps10
  go_wp2_with fail
  clear hb
  go_loopw [13] (fun i wr => ∃ k : Nat, k ≤ n1 ∧ i = .int .i64 k ∧ l.take k = m.take k ∧ Below w.heap.size w wr) (fun i _ => n1 - (intOf i).toNat)
  case atStart => exact ⟨0, by omega, rfl, rfl, Below.refl _ _⟩
  case round =>
    obtain ⟨k, hk, rfl, hpre, hbel⟩ := hrel
    have HP : Hid (l.take k = m.take k) := hpre
    clear hpre
    by_cases hlt : k < n1
    · obtain ⟨t, ht⟩ : ∃ t, l[k]? = some t := ⟨_, List.getElem?_eq_getElem (by have := HN1.out; omega)⟩
      obtain ⟨u, hu⟩ : ∃ u, m[k]? = some u := ⟨_, List.getElem?_eq_getElem (by have := HN2.out; omega)⟩
      obtain ⟨bk, o, rfl, hbk, c0, c1, c2, c3, c4, c5, c6⟩ := (h1.below hbel).edit k t ht
      obtain ⟨bk', o', rfl, hbk', d0, d1, d2, d3, d4, d5, d6⟩ := (h2.below hbel).edit k u hu
      have HT : Hid (l[k]? = some t ∧ m[k]? = some u) := ⟨ht, hu⟩
      clear h1 h2 ht hu
      have x0 : ∀ X : Since wr.heap.size wr, X.val.cell? ⟨bk, o + k * 7, none⟩ = some (.string t.path) := fun X => (X.property.cell (p := ⟨bk, o + k * 7, none⟩) hbk).trans c0
      have x1 : ∀ X : Since wr.heap.size wr, X.val.cell? ⟨bk, o + k * 7 + 1, none⟩ = some (.bool t.gone) := fun X => (X.property.cell (p := ⟨bk, o + k * 7 + 1, none⟩) hbk).trans c1
      have x2 : ∀ X : Since wr.heap.size wr, X.val.cell? ⟨bk, o + k * 7 + 2, none⟩ = some (.string t.item.path) := fun X => (X.property.cell (p := ⟨bk, o + k * 7 + 2, none⟩) hbk).trans c2
      have x3 : ∀ X : Since wr.heap.size wr, X.val.cell? ⟨bk, o + k * 7 + 3, none⟩ = some (.int .i64 t.item.kind) := fun X => (X.property.cell (p := ⟨bk, o + k * 7 + 3, none⟩) hbk).trans c3
      have x4 : ∀ X : Since wr.heap.size wr, X.val.cell? ⟨bk, o + k * 7 + 4, none⟩ = some (.int .i64 t.item.mode) := fun X => (X.property.cell (p := ⟨bk, o + k * 7 + 4, none⟩) hbk).trans c4
      have x5 : ∀ X : Since wr.heap.size wr, X.val.cell? ⟨bk, o + k * 7 + 5, none⟩ = some (.int .i64 t.item.time) := fun X => (X.property.cell (p := ⟨bk, o + k * 7 + 5, none⟩) hbk).trans c5
      have x6 : ∀ X : Since wr.heap.size wr, X.val.cell? ⟨bk, o + k * 7 + 6, none⟩ = some (.string t.item.bytes) := fun X => (X.property.cell (p := ⟨bk, o + k * 7 + 6, none⟩) hbk).trans c6
      have y0 : ∀ X : Since wr.heap.size wr, X.val.cell? ⟨bk', o' + k * 7, none⟩ = some (.string u.path) := fun X => (X.property.cell (p := ⟨bk', o' + k * 7, none⟩) hbk').trans d0
      have y1 : ∀ X : Since wr.heap.size wr, X.val.cell? ⟨bk', o' + k * 7 + 1, none⟩ = some (.bool u.gone) := fun X => (X.property.cell (p := ⟨bk', o' + k * 7 + 1, none⟩) hbk').trans d1
      have y2 : ∀ X : Since wr.heap.size wr, X.val.cell? ⟨bk', o' + k * 7 + 2, none⟩ = some (.string u.item.path) := fun X => (X.property.cell (p := ⟨bk', o' + k * 7 + 2, none⟩) hbk').trans d2
      have y3 : ∀ X : Since wr.heap.size wr, X.val.cell? ⟨bk', o' + k * 7 + 3, none⟩ = some (.int .i64 u.item.kind) := fun X => (X.property.cell (p := ⟨bk', o' + k * 7 + 3, none⟩) hbk').trans d3
      have y4 : ∀ X : Since wr.heap.size wr, X.val.cell? ⟨bk', o' + k * 7 + 4, none⟩ = some (.int .i64 u.item.mode) := fun X => (X.property.cell (p := ⟨bk', o' + k * 7 + 4, none⟩) hbk').trans d4
      have y5 : ∀ X : Since wr.heap.size wr, X.val.cell? ⟨bk', o' + k * 7 + 5, none⟩ = some (.int .i64 u.item.time) := fun X => (X.property.cell (p := ⟨bk', o' + k * 7 + 5, none⟩) hbk').trans d5
      have y6 : ∀ X : Since wr.heap.size wr, X.val.cell? ⟨bk', o' + k * 7 + 6, none⟩ = some (.string u.item.bytes) := fun X => (X.property.cell (p := ⟨bk', o' + k * 7 + 6, none⟩) hbk').trans d6
      clear c0 c1 c2 c3 c4 c5 c6 d0 d1 d2 d3 d4 d5 d6
      have heq := fun W => ed_cmp W t u
      have HS : Hid (emSame t u = true ↔ t = u) := emSame_iff
      have hne : Nonempty (Since wr.heap.size wr) := ⟨⟨wr, Below.refl _ _⟩⟩
      generalize emSame t u = S at *
      cases S
      · go_wp2_with fail
        refine wp_region_since (B := wr.heap.size) (W0 := wr) (by kernel_rfl) (by kernel_rfl) (Below.refl _ _) ?_
        repeat (go_big_quiet_step (fail))
        refine wpQuiet_nil ?_
        rintro w7 ⟨U, rfl⟩
        have hU := U.property
        have HB3 : Hid (Below w.heap.size w U.val) := hbel.trans (hU.mono hbel.size)
        generalize U.val = w7 at *
        clear hU hbel x0 x1 x2 x3 x4 x5 x6 y0 y1 y2 y3 y4 y5 y6 heq hne
        go_wp2_with fail
        go_ret
        refine ⟨false, rfl, ⟨fun q => absurd q (by decide), ?_⟩, HB3.out⟩
        rintro rfl
        have := HT.out.1.symm.trans HT.out.2
        have := HS.out.2 (Option.some.inj this)
        cases this
      · go_wp2_with fail
        refine wp_region_since (B := wr.heap.size) (W0 := wr) (by kernel_rfl) (by kernel_rfl) (Below.refl _ _) ?_
        repeat (go_big_quiet_step (fail))
        refine wpQuiet_nil ?_
        rintro w7 ⟨U, rfl⟩
        have hU := U.property
        have HB3 : Hid (Below w.heap.size w U.val) := hbel.trans (hU.mono hbel.size)
        generalize U.val = w7 at *
        clear hU hbel x0 x1 x2 x3 x4 x5 x6 y0 y1 y2 y3 y4 y5 y6 heq hne
        go_wp2_with fail
        go_roundw
        case rel =>
          refine ⟨k + 1, by omega, by go_num, ?_, HB3.out⟩
          rw [List.take_add_one, List.take_add_one, HP.out, HT.out.1, HT.out.2, HS.out.1 (by first | exact trivial | rfl)]
        case measure => simp only [intOf]; omega
    · go_wp2_with fail
      go_ret
      refine ⟨true, rfl, ⟨fun _ => ?_, fun _ => rfl⟩, hbel⟩
      have h := HP.out
      have := HN1.out
      have := HN2.out
      rwa [List.take_of_length_le (by omega), List.take_of_length_le (by omega)] at h

end Go.Proofs.YthpcbbkpjggjbaaDoor

namespace Go.Proofs.YthpcbbkpjggjbaaDoor
open Go.RowKit
set_option maxRecDepth 4000

theorem diff_small : (Dl.diff [] (its smallM)).2 = 0 ∧ (Dl.diff [] (its smallM)).1.length = 2 := by decide +kernel

theorem diff_small2 : (Dl.diff (its smallM) []).2 = 0 ∧ (Dl.diff (its smallM) []).1.length = 2 := by decide +kernel

/-- no items -/
theorem ims_nil (w : World) : Ims w (.slice none 0 0) [] := ⟨.inl ⟨⟨_, _, rfl⟩, rfl⟩, _, _, _, rfl, Nat.le_refl _, by omega⟩

theorem eds_nil (w : World) : Eds w (.slice none 0 0) [] := ⟨.inl ⟨⟨_, _, rfl⟩, rfl⟩, _, _, _, rfl, Nat.le_refl _, by omega⟩

/-- Diff, told with the row's length -/
theorem ddiff_say {va vb : Value} {a b : List Im} {w : World} (ha : Ims w va a) (hb : Ims w vb b) (la : a.length ≤ 140737488351232) (lb : b.length ≤ 140737488351232) (oa : ∀ x ∈ a, x.Ok) (ob : ∀ x ∈ b, x.Ok) (hT : Tabs w) {D : List Dl.Ed} {E : Int} (hD : Dl.diff (its a) (its b) = (D, E)) :
    Calls Tryd.prog 8 #[va, vb] w fun e w' => ∃ sa sc l, e = .returned (.tuple #[.slice sa l.length sc, .int .i64 E]) ∧ w'.ownsRow w.heap.size 31 7 (.slice sa l.length sc) l.length (rowR emC l) ∧ edl l = D ∧ (∀ x ∈ l, x.Ok) ∧ Below w.heap.size w w' := by
  refine (ddiff_any va vb a b w ha hb la lb oa ob hT).mono ?_
  rintro e w' ⟨v, l, he, h1, h2, h3, h4⟩
  rw [hD] at he h2
  obtain ⟨sa, sc, rfl⟩ := own_form h1
  exact ⟨sa, sc, l, he, h1, h2, h3, h4⟩

theorem diff_err {a b : List Wk.It} {D : List Dl.Ed} {E : Int} (h : Dl.diff a b = (D, E)) : (E = 0 → Wk.world a = 0 ∧ Wk.world b = 0) ∧ (E ≠ 0 → D = [] ∧ ¬ (Wk.world a = 0 ∧ Wk.world b = 0)) := by
  unfold Dl.diff at h
  split at h
  · rename_i q
    cases h
    exact ⟨fun e => absurd e q, fun _ => ⟨rfl, fun ⟨k, _⟩ => q k⟩⟩
  · rename_i q
    split at h
    · rename_i p
      cases h
      exact ⟨fun e => absurd e p, fun _ => ⟨rfl, fun ⟨_, k⟩ => p k⟩⟩
    · rename_i p
      cases h
      exact ⟨fun _ => ⟨Decidable.not_not.mp q, Decidable.not_not.mp p⟩, fun e => absurd rfl e⟩

set_option maxHeartbeats 1000000 in
theorem applied_any {va vb : Value} {a : List Im} {b : List Em} {w : World} (ha : Ims w va a) (hb : Eds w vb b) (la : a.length ≤ 140737488351232) (lb : b.length ≤ 140737488351232) (oa : ∀ x ∈ a, x.Ok) (ob : ∀ x ∈ b, x.Ok) (hT : Tabs w) {D : List Wk.It} {E : Int} (hD : Dl.apply (its a) (edl b) = (D, E)) :
    Calls Tryd.prog 19 #[va, vb] w fun e w' => ∃ sa sc l, e = .returned (.tuple #[.slice sa l.length sc, .bool (E == 0)]) ∧ w'.ownsRow w.heap.size 29 5 (.slice sa l.length sc) l.length (rowR imC l) ∧ its l = D ∧ (∀ x ∈ l, x.Ok) ∧ Below w.heap.size w w' := by
  have hc := dapply_any va vb a b w ha hb la lb oa ob hT
  rw [hD] at hc
  dsimp only at hc
  clear ha hb la lb oa ob hT hD
  go_enter Tryd.func19, Tryd.ntmps19
  go_wp2_with fail
  refine hc.mono ?_
  rintro e w' ⟨v, l, rfl, h1, h2, h3, h4⟩
  obtain ⟨sa, sc, rfl⟩ := own_form h1
  have H : Hid (w'.ownsRow w.heap.size 29 5 (.slice sa l.length sc) l.length (rowR imC l) ∧ its l = D ∧ (∀ x ∈ l, x.Ok) ∧ Below w.heap.size w w') := ⟨h1, h2, h3, h4⟩
  generalize hL : l.length = L at *
  clear hc h1 h2 h3 h4
  go_wp2_with fail
  go_ret2
  refine ⟨sa, sc, l, ?_⟩
  rw [hL]
  exact ⟨rfl, H.out.1, H.out.2⟩

end Go.Proofs.YthpcbbkpjggjbaaDoor
