/-
  A name of a list of nodes is no longer than the list's bulk.
-/
import Derived.Test.YtcgecafajgoeeaaDoorRows
import Derived.Test.YtcgecafajgoeeaaDoorNdMem
import Derived.Lib.Strings
namespace Go.Proofs.YtcgecafajgoeeaaDoor
open Go.RowKit

theorem bulk_mem {H : Type} : ∀ {elems : List (DataW H)} {d : DataW H}, d ∈ elems → Rows.uptoBulk d ≤ Rows.uptoBulkAll elems
  | [], d, h => (List.not_mem_nil h).elim
  | e :: l, d, h => by
    rw [Rows.uptoBulkAll]
    rcases List.mem_cons.1 h with rfl | h
    · omega
    · have := bulk_mem h; omega
theorem bulk_name {H : Type} (s : List UInt8) (r : List (DataW H)) : s.length ≤ Rows.uptoBulk (DataW.agg (.lit (.string s) :: r)) := by
  rw [Rows.uptoBulk, Rows.uptoBulkAll, Rows.uptoBulk]
  omega
theorem bulk_nds {H : Type} {l : List Nod} {elems : List (DataW H)} (h : ∀ t ∈ l, ∃ d ∈ elems, ∃ r, d = .agg (.lit (.string t.name.data.toList) :: r)) : ∀ n ∈ l, n.name.size ≤ Rows.uptoBulkAll elems := fun n hn => by
  obtain ⟨d, hd, r, rfl⟩ := h n hn
  have h1 := bulk_mem hd
  have h2 := bulk_name n.name.data.toList r
  rw [Lib.size_eq]
  omega
end Go.Proofs.YtcgecafajgoeeaaDoor
