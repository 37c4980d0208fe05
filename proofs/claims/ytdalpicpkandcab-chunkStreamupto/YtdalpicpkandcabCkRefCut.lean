/-
  What Cut of package lumref answers.
-/
import Derived.Test.YtdalpicpkandcabCkRef
namespace Go.Proofs.Ytdalpicpkandcab
open Go.RowKit

/-- what Cut tells -/
def cutL (mn mx bt : Int) (s : ByteArray) : List Ck.Bs := if sizeN mn mx bt s.size = 0 then Ck.cut (Ck.ends mn.toNat mx.toNat bt.toNat Rl.ofL) s.data.toList else []
theorem sizeN_zero {mn mx bt n : Int} : sizeN mn mx bt n = 0 ↔ OkCut mn mx bt ∧ n ≤ 4096 := by
  unfold sizeN
  by_cases h : OkCut mn mx bt
  · rw [if_pos h]
    by_cases h2 : n ≤ 4096
    · rw [if_pos h2]; exact ⟨fun _ => ⟨h, h2⟩, fun _ => rfl⟩
    · rw [if_neg h2]; exact ⟨fun e => by omega, fun e => absurd e.2 h2⟩
  · rw [if_neg h]; exact ⟨fun e => by omega, fun e => absurd e.1 h⟩
theorem cut_some {E : Ck.Bs → Bool} {t : Ck.Bs} {l : List Ck.Bs} {q : Ck.Bs} (h : Ck.pieces E t = (l, q)) (hq : q ≠ []) : Ck.cut E t = l ++ [q] := by rw [Ck.cut_of h, if_neg hq]
theorem cut_none {E : Ck.Bs → Bool} {t : Ck.Bs} {l : List Ck.Bs} (h : Ck.pieces E t = (l, [])) : Ck.cut E t = l := by rw [Ck.cut_of h, if_pos rfl]
end Go.Proofs.Ytdalpicpkandcab
