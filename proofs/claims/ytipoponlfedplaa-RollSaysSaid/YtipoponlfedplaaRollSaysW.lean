/-
  The walk of lumlaw.RollSays: it returns true.
-/
import Derived.Test.YtipoponlfedplaaRollSaysOf
import Derived.Test.YtipoponlfedplaaRollPush
import Derived.Test.YtipoponlfedplaaRefPush
import Derived.Test.YtipoponlfedplaaRefOf
import Derived.Test.YtipoponlfedplaaRollLast
namespace Go.Proofs.Ytipoponlfedplaa
open Go.RowKit

theorem rollSays_walk (a b : Nat) (l : List UInt8) (i : Int) (o : Nat) (x : UInt8) (s : ByteArray) (ha : a < 4294967296) (hb : b < 4294967296) (hl : l.length = 16) (hs : s.size ≤ 140737488351232) (w : World) :
    Calls Try.prog 3 #[.int .u32 a, .int .u32 b, .agg (rollCells l i o).toArray, B x, .string s] w fun e w' => e = .returned (.bool true) ∧ Below w.heap.size w w' := by
  have li := rollCells_length hl i o
  by_cases hg : 0 ≤ i ∧ i < 16 ∧ o < 2147483648
  · obtain ⟨h0, h16, h31⟩ := hg
    obtain ⟨k, rfl⟩ := Int.eq_ofNat_of_zero_le h0
    have hl2 : (l.set k x).length = 16 := by rw [List.length_set]; exact hl
    exact rollSays_of _ _ (B x) 0 a b _ _ s w li (rollCells_length hl2 _ _) (rollCells_one _ _ _) (fun V => roll_eq V _ _ _ hl2) (fun V => push_in l k o x V hl (by omega) h31) (fun V => rpush_in l k o x V hl (by omega) h31)
      (fun V => times_any a b V ha hb) (fun V => rtimes_any a b V ha hb) (fun V => of_any s V (by omega)) (fun V => rof_any s V (by omega))
  · have hbad : i < 0 ∨ 16 ≤ i ∨ 2147483648 ≤ o := by omega
    have p1 := fun V => push_out l i o x V hl hbad
    have p2 := fun V => rpush_out l i o x V hl hbad
    rw [z18_eq] at p1 p2
    have hl2 : (List.replicate 16 (0 : UInt8)).length = 16 := List.length_replicate
    exact rollSays_of _ _ (B x) 1 a b _ _ s w li (rollCells_length hl2 _ _) (rollCells_one _ _ _) (fun V => roll_eq V _ _ _ hl2) p1 p2
      (fun V => times_any a b V ha hb) (fun V => rtimes_any a b V ha hb) (fun V => of_any s V (by omega)) (fun V => rof_any s V (by omega))
end Go.Proofs.Ytipoponlfedplaa
