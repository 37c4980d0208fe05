/-
  What lumkeep.pushed answers.
-/
import Derived.Test.YtdalpicpkandcabRollPush
import Derived.Deep.Cut
import Derived.Deep.RegionWith
namespace Go.Proofs.Ytdalpicpkandcab
open Go.RowKit

/-- a Roll, as data -/
structure Rst where
  l : List UInt8
  i : Nat
  o : Nat
def Rst.push (r : Rst) (b : UInt8) : Rst := ⟨r.l.set r.i b, (r.i + 1) % 16, Rl.pushS r.o (r.l.getD r.i 0).toNat b.toNat⟩
def Rst.all (r : Rst) (s : List UInt8) : Rst := s.foldl Rst.push r
structure Rst.Ok (r : Rst) : Prop where
  len : r.l.length = 16
  low : r.i < 16
  sum : r.o < 2147483648
theorem Rst.Ok.push {r : Rst} (h : r.Ok) (b : UInt8) : (r.push b).Ok :=
  ⟨by rw [Rst.push, List.length_set]; exact h.len, Nat.mod_lt _ (by omega), Rl.pushS_lt h.sum (Rl.byte_lt _) (Rl.byte_lt _)⟩
theorem Rst.Ok.all {r : Rst} (h : r.Ok) (s : List UInt8) : (r.all s).Ok := by
  induction s generalizing r with
  | nil => exact h
  | cons b s ih => exact ih (h.push b)
def Rst.cells (r : Rst) : List Value := rollCells r.l r.i r.o
theorem Rst.all_snoc (r : Rst) (s : List UInt8) (b : UInt8) : r.all (s ++ [b]) = (r.all s).push b := by
  rw [Rst.all, List.foldl_append]; rfl
theorem Rst.all_take (r : Rst) (s : ByteArray) (k : Nat) (h : k < s.size) : r.all (s.data.toList.take (k + 1)) = (r.all (s.data.toList.take k)).push s[k] := by
  rw [take_snoc s k h, Rst.all_snoc]

theorem push_rst (r : Rst) (h : r.Ok) (b : UInt8) (w : World) :
    Calls Try.prog 29 #[.agg r.cells.toArray, .int .u8 (b.toNat : Int)] w fun e w' => e = .returned (.tuple #[.agg (r.push b).cells.toArray, .int .i64 0]) ∧ Below w.heap.size w w' :=
  push_in r.l r.i r.o b w h.len h.low h.sum

theorem RS.past {A G : Nat} {w W W' : World} {l : List UInt8} {i : Int} {o : Nat} (h : RS A G w W l i o) (hb : Below W.heap.size W W') : RS A G w W' l i o := by
  have hg : G < W.heap.size := World.block_lt_of_cell? W _ h.c16
  have hg1 : G + 1 < W.heap.size := by
    obtain ⟨u, hu⟩ := Option.isSome_iff_exists.1 (h.res 0 (by omega)).1
    exact World.block_lt_of_cell? W _ hu
  refine ⟨h.len, ?_, ?_, ?_, h.bel.trans (hb.mono (by have := h.low; omega)), h.low⟩
  · intro j v hv
    rw [hb.cell (p := ⟨G, 0 + j, none⟩) hg]
    exact h.rng j v hv
  · intro j hj
    rw [hb.frozen (p := ⟨G, j, none⟩) hg]
    exact h.fz j hj
  · intro j hj
    rw [hb.cell (p := ⟨G + 1, 0 + j, none⟩) hg1, hb.frozen (p := ⟨G + 1, 0 + j, none⟩) hg1]
    exact h.res j hj
theorem RS.whole {A G : Nat} {w W : World} {l l' : List UInt8} {i i' : Int} {o o' : Nat} (h : RS A G w W l i o) (hl : l'.length = 16) : RS A G w (W.setCells G 0 (rollCells l' i' o')) l' i' o' := by
  have hlen := rollCells_length hl i' o'
  have ht : W.there G 0 (rollCells l' i' o').length := by
    intro j hj
    rw [hlen] at hj
    rw [Nat.zero_add]
    refine ⟨?_, h.fz j hj⟩
    have := h.rng.isSome j (by rw [rollCells_length h.len]; exact hj)
    simpa using this
  refine ⟨hl, World.rangeAt_setCells_same W G 0 _ ht, ?_, World.there_setCells h.res G 0 _, below_setCells h.low _ _ _ h.bel, h.low⟩
  intro j hj
  rw [World.frozen?_setCells]
  exact h.fz j hj
end Go.Proofs.Ytdalpicpkandcab
