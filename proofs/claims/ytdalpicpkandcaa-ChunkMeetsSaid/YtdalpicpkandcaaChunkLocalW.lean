/-
  lumkeep.ChunkLocal returns true.
-/
import Derived.Test.YtdalpicpkandcaaChunkLocalOf
namespace Go.Proofs.Ytdalpicpkandcaa
open Go.RowKit

theorem rep50 (V : World) : Calls Try.prog 21 #[.string ⟨#[97]⟩, .int .i64 50] V fun e w' => e = .returned (.string ⟨(Lib.repeatL [97] 50).toArray⟩) ∧ Below V.heap.size V w' :=
  Try.strings_Repeat ⟨#[97]⟩ 50 V (by omega) (by simp [ByteArray.size])
theorem cut50 (V : World) : Calls Try.prog 11 #[cutV 16 20 12, .string ⟨(Lib.repeatL [97] 50).toArray⟩] V fun e w' => ∃ v, e = .returned (.tuple #[v, .int .i64 0]) ∧
    w'.ownsRow V.heap.size 9 1 v (cutL 16 20 12 ⟨(Lib.repeatL [97] 50).toArray⟩).length ((cutL 16 20 12 ⟨(Lib.repeatL [97] 50).toArray⟩).map Sv) ∧ Below V.heap.size V w' := by
  have := cut_any 16 20 12 ⟨(Lib.repeatL [97] 50).toArray⟩ V
  rw [fifty.2] at this
  exact this
theorem chunkLocal_walk (mn mx bt : Int) (s : ByteArray) (k : Int) (_ : (Lit.int .i64 mn).wf = true) (_ : (Lit.int .i64 mx).wf = true) (_ : (Lit.int .i64 bt).wf = true) (_ : s.size ≤ 140737488351232) (_ : (Lit.int .i64 k).wf = true) (w : World) :
    Calls Try.prog 7 #[cutV mn mx bt, .string s, .int .i64 k] w fun e w' => e = .returned (.bool true) ∧ Below w.heap.size w w' := by
  rcases Nat.eq_zero_or_pos (cutL mn mx bt s).length with h0 | h0
  · refine chunkLocal_no mn mx bt k (sizeN mn mx bt s.size) s w _ _ fifty.1 rep50 cut50 (fun V => ?_)
    have := cut_any mn mx bt s V
    rw [List.length_eq_zero_iff.1 h0] at this
    exact this
  · have h : sizeN mn mx bt s.size = 0 := by
      apply Classical.byContradiction
      intro h
      rw [cutL, if_neg h] at h0
      simp at h0
    obtain ⟨hO, hs⟩ := sizeN_zero.1 h
    have hL : cutL mn mx bt s = Ck.cut (Ck.ends mn.toNat mx.toNat bt.toNat Rl.ofL) s.data.toList := if_pos h
    have hfl : (cutL mn mx bt s).flatten = s.data.toList := by rw [hL]; exact Ck.cut_join _
    refine chunkLocal_ok mn mx bt k s w _ _ (cutL mn mx bt s) fifty.1 ?_ h0 (by rw [hfl, ← Lib.size_eq]; omega) rep50 cut50 (fun V => ?_) (fun i hi V => ?_)
    · rw [hL]; exact cutL_le _ _ _ (by have := hO.1; omega) (by have := hO.2.1; omega) s (by omega)
    · have := cut_any mn mx bt s V
      rw [h] at this
      exact this
    · obtain ⟨t, ht⟩ : ∃ t : ByteArray, t = ⟨((cutL mn mx bt s).drop i).flatten.toArray⟩ := ⟨_, rfl⟩
      have htl : t.data.toList = ((cutL mn mx bt s).drop i).flatten := by rw [ht]
      have hts : t.size ≤ 4096 := by
        rw [Lib.size_eq, htl]
        have h1 := congrArg List.length (show ((cutL mn mx bt s).take i).flatten ++ ((cutL mn mx bt s).drop i).flatten = (cutL mn mx bt s).flatten from by rw [← List.flatten_append, List.take_append_drop])
        rw [hfl, List.length_append, ← Lib.size_eq] at h1
        omega
      have hz : sizeN mn mx bt t.size = 0 := sizeN_zero.2 ⟨hO, by omega⟩
      have := cut_any mn mx bt t V
      rw [hz, show cutL mn mx bt t = (cutL mn mx bt s).drop i from by
        rw [cutL, if_pos hz, htl, hL]; exact Ck.cut_local _ _] at this
      rw [Sv, ← ht]
      exact this
end Go.Proofs.Ytdalpicpkandcaa
