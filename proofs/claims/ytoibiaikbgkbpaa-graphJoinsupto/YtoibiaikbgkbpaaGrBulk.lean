/-
  The bulk of lists that are read: no less than their length.
-/
import Derived.Test.YtoibiaikbgkbpaaRows
namespace Go.Proofs.Ytoibiaikbgkbpaa

theorem bulk_one {H : Type} (d : DataW H) : 1 ≤ Rows.uptoBulk d := by
  cases d with
  | lit l => cases l <;> simp [Rows.uptoBulk]
  | _ => simp [Rows.uptoBulk]

theorem bulk_len {H : Type} (l : List (DataW H)) : l.length ≤ Rows.uptoBulkAll l := by
  induction l with
  | nil => simp
  | cons d l ih =>
    have := bulk_one d
    rw [Rows.uptoBulkAll, List.length_cons]
    omega

end Go.Proofs.Ytoibiaikbgkbpaa
