/-
  A row of truths in a block of its own.
-/
import Derived.Test.YtfcnlfblfennaaaDoorTxMem
import Derived.WalkKit
import Derived.WalkSpells
import Derived.WalkLawsBesides
import Derived.OwnWalk
import Derived.Laws.AppendOwn
namespace Go.Proofs.YtfcnlfblfennaaaDoor
open Go.RowKit

/-- a row of truths in a block of its own -/
def Br (w : World) (b n : Nat) (f : Nat → Bool) : Prop := ∃ cur : Array Value, w.heap[b]? = some (.cells cur 4 (0, 0)) ∧ cur.size = n + 1 ∧ ∀ k, k ≤ n → cur[k]? = some (.bool (f k))
theorem Br.lt {w : World} {b n : Nat} {f : Nat → Bool} (h : Br w b n f) : b < w.heap.size := by
  obtain ⟨cur, h1, _⟩ := h
  exact (Array.getElem?_eq_some_iff.1 h1).1
theorem Br.cell {w : World} {b n : Nat} {f : Nat → Bool} (h : Br w b n f) {k : Nat} (hk : k ≤ n) : w.cell? ⟨b, k, none⟩ = some (.bool (f k)) := by
  obtain ⟨cur, h1, _, h3⟩ := h
  simp [World.cell?, h1, h3 k hk]
theorem Br.frozen {w : World} {b n : Nat} {f : Nat → Bool} (h : Br w b n f) (k : Nat) : w.frozen? ⟨b, k, none⟩ = false := by
  obtain ⟨cur, h1, _⟩ := h
  simp [World.frozen?, h1]
theorem Br.below {w w' : World} {b n : Nat} {f : Nat → Bool} (h : Br w b n f) (hb : Below w.heap.size w w') : Br w' b n f := by
  have hl := h.lt
  obtain ⟨cur, h1, h2⟩ := h
  exact ⟨cur, (hb.block b hl).trans h1, h2⟩
theorem Br.congr {w : World} {b n : Nat} {f g : Nat → Bool} (h : Br w b n f) (hg : ∀ k, k ≤ n → f k = g k) : Br w b n g := by
  obtain ⟨cur, h1, h2, h3⟩ := h
  exact ⟨cur, h1, h2, fun k hk => by rw [← hg k hk]; exact h3 k hk⟩
theorem Br.set {w : World} {b n : Nat} {f : Nat → Bool} (h : Br w b n f) (j : Nat) (x : Bool) : Br (w.setCell ⟨b, j, none⟩ (.bool x)) b n (fun k => if k = j then x else f k) := by
  obtain ⟨cur, h1, h2, h3⟩ := h
  refine ⟨cur.setIfInBounds j (.bool x), ?_, by simpa using h2, fun k hk => ?_⟩
  · simp [World.setCell, Array.getElem?_modify, h1]
  · rw [Array.getElem?_setIfInBounds]
    by_cases q : j = k
    · subst q
      rw [if_pos rfl, if_pos (by omega)]
      simp
    · rw [if_neg q, h3 k hk]
      simp [Ne.symm q]
theorem Br.other {w : World} {b n : Nat} {f : Nat → Bool} (h : Br w b n f) {c : Nat} (hc : c ≠ b) (j : Nat) (x : Value) : Br (w.setCell ⟨c, j, none⟩ x) b n f := by
  obtain ⟨cur, h1, h2⟩ := h
  exact ⟨cur, by rw [← h1]; simp [World.setCell, Array.getElem?_modify, hc], h2⟩
theorem Br.made {base g n : Nat} {w : World} (h : w.ownsRow base 4 1 (.slice (some ⟨g, 0, none⟩) (n + 1) (n + 1)) (n + 1) (madeCells (Value.bool false).cells ((n + 1) * 1)).toList) : Br w g n (fun _ => false) := by
  have e : (madeCells (Value.bool false).cells ((n + 1) * 1)).toList = List.replicate (n + 1) (Value.bool false) := by
    rw [Nat.mul_one]
    refine List.ext_getElem (by simp [size_madeCells]) fun i h1 h2 => ?_
    simp [madeCells, Value.cells, Nat.mod_one]
  rw [e] at h
  rcases h.2 with ⟨h0, _⟩ | ⟨g', cap, cur, hv, hb, hh, hle, hm, hs, htk⟩
  · cases h0
  · cases hv
    refine ⟨cur, hh, by simpa using hs, fun k hk => ?_⟩
    have q := congrArg (fun x => x[k]?) htk
    simp only [Nat.mul_one, List.getElem?_take, show k < n + 1 by omega, if_true] at q
    rw [← Array.getElem?_toList, q, List.getElem?_replicate, if_pos (by omega)]
theorem info_bool : (Tryd.prog.info? 4).map (fun i => (i.zero, i.size, i.bytes)) = some (some (.bool false), 1, 1) := by kernel_rfl
theorem below_set {w W : World} (h : Below w.heap.size w W) {b : Nat} (hb : w.heap.size ≤ b) (j : Nat) (x : Value) : Below w.heap.size w (W.setCell ⟨b, j, none⟩ x) :=
  h.trans ⟨rfl, rfl, rfl, by simp [World.setCell], fun k hk => Below.heap_setCell _ _ _ _ (fun e => by have e : k = b := e; omega)⟩
end Go.Proofs.YtfcnlfblfennaaaDoor
