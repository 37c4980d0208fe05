/-
  The bytes of '[]byte(s)'.
-/
import Derived.Test.YtlglkfnihjfnoaaDoorBase
import Derived.Laws.IdiomStrings
namespace Go.Proofs.YtlglkfnihjfnoaaDoor
open Go.RowKit

theorem bytes_cell (w : World) (s : ByteArray) (cap : Nat) (z : Nat × Nat) (j : Nat) (hj : j < s.size) :
    (w.alloc (.cells (bytesRow s cap) 5 z)).drew.cell? ⟨w.heap.size, j, none⟩ = some (.int .u8 (s[j].toNat : Int)) := by
  have hh : (w.alloc (.cells (bytesRow s cap) 5 z)).drew.heap[w.heap.size]? = some (.cells (bytesRow s cap) 5 z) := heap_alloc_new w _
  rw [cell_of_row _ w.heap.size j _ _ _ hh]
  have hsz : j < s.data.size := hj
  rw [bytesRow, Array.getElem?_append_left (by simpa using hsz), Array.getElem?_map, Array.getElem?_eq_getElem hsz]
  rfl
theorem bytes_free (w : World) (s : ByteArray) (cap : Nat) (j : Nat) (hj : j < s.size) :
    (w.alloc (.cells (bytesRow s cap) 5 ((bytesRow s cap).size, (bytesRow s cap).size + 1))).drew.frozen? ⟨w.heap.size, j, none⟩ = false := by
  have hh : (w.alloc (.cells (bytesRow s cap) 5 ((bytesRow s cap).size, (bytesRow s cap).size + 1))).drew.heap[w.heap.size]? = some (.cells (bytesRow s cap) 5 ((bytesRow s cap).size, (bytesRow s cap).size + 1)) := heap_alloc_new w _
  have hsz : j < s.data.size := hj
  simp only [World.frozen?, hh]
  simp [bytesRow]
  omega
end Go.Proofs.YtlglkfnihjfnoaaDoor
