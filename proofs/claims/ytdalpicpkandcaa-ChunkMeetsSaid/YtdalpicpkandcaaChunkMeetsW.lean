/-
  lumkeep.ChunkMeets returns true.
-/
import Derived.Test.YtdalpicpkandcaaChunkMeetsOf
import Derived.Test.YtdalpicpkandcaaChunkLocalW
namespace Go.Proofs.Ytdalpicpkandcaa
open Go.RowKit

theorem cat_list (a b : ByteArray) : (a ++ b).data.toList = a.data.toList ++ b.data.toList := by
  rw [ByteArray.data_append]; simp
theorem cat_len (a b : ByteArray) : (a ++ b).size = a.size + b.size := by
  rw [Lib.size_eq, cat_list, List.length_append, ← Lib.size_eq, ← Lib.size_eq]
theorem chunkMeets_walk (mn mx bt : Int) (a b en : ByteArray) (_ : (Lit.int .i64 mn).wf = true) (_ : (Lit.int .i64 mx).wf = true) (_ : (Lit.int .i64 bt).wf = true) (z1 : a.size ≤ 140737488351232) (z2 : b.size ≤ 140737488351232) (z3 : en.size ≤ 140737488351232) (w : World) :
    Calls Try.prog 8 #[cutV mn mx bt, .string a, .string b, .string en] w fun e w' => e = .returned (.bool true) ∧ Below w.heap.size w w' := by
  by_cases h1 : sizeN mn mx bt (a ++ en).size = 0
  · by_cases h2 : sizeN mn mx bt (b ++ en).size = 0
    · obtain ⟨hO, hs1⟩ := sizeN_zero.1 h1
      obtain ⟨_, hs2⟩ := sizeN_zero.1 h2
      have hL : cutL mn mx bt (a ++ en) = Ck.cut (Ck.ends mn.toNat mx.toNat bt.toNat Rl.ofL) (a.data.toList ++ en.data.toList) := by rw [cutL, if_pos h1, cat_list]
      have hM : cutL mn mx bt (b ++ en) = Ck.cut (Ck.ends mn.toNat mx.toNat bt.toNat Rl.ofL) (b.data.toList ++ en.data.toList) := by rw [cutL, if_pos h2, cat_list]
      have e1 := fun V => cut_any mn mx bt (a ++ en) V
      have e2 := fun V => cut_any mn mx bt (b ++ en) V
      rw [h1] at e1
      rw [h2] at e2
      have ca := cat_len a en
      have cb := cat_len b en
      refine chunkMeets_in mn mx bt a b en z1 z2 z3 w _ _ (cutL mn mx bt (a ++ en)) (cutL mn mx bt (b ++ en)) fifty.1 rep50 cut50 e1 e2 ?_ ?_ ?_ ?_ (by omega) (by omega) ?_
      · rw [cutL, if_pos h1]; exact cutL_le _ _ _ (by have := hO.1; omega) (by have := hO.2.1; omega) _ (by omega)
      · rw [cutL, if_pos h2]; exact cutL_le _ _ _ (by have := hO.1; omega) (by have := hO.2.1; omega) _ (by omega)
      · rw [hL, Ck.cut_join, List.length_append, ← Lib.size_eq, ← Lib.size_eq]
      · rw [hM, Ck.cut_join, List.length_append, ← Lib.size_eq, ← Lib.size_eq]
      · intro i j _ _ h3 h4
        rw [hL, hM] at h3
        rw [hL] at h4
        rw [hL, hM]
        exact Ck.cut_meets h3 (by rw [← Lib.size_eq]; exact h4)
    · exact chunkMeets_out mn mx bt _ _ a b en z1 z2 z3 w _ _ _ _ fifty.1 (.inr h2) rep50 cut50 (fun V => cut_any mn mx bt (a ++ en) V) (fun V => cut_any mn mx bt (b ++ en) V)
  · exact chunkMeets_out mn mx bt _ _ a b en z1 z2 z3 w _ _ _ _ fifty.1 (.inl h1) rep50 cut50 (fun V => cut_any mn mx bt (a ++ en) V) (fun V => cut_any mn mx bt (b ++ en) V)
end Go.Proofs.Ytdalpicpkandcaa
