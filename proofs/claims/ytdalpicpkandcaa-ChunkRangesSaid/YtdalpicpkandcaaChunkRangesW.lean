/-
  lumlaw.ChunkRanges returns true.
-/
import Derived.Test.YtdalpicpkandcaaChunkRangesOf
namespace Go.Proofs.Ytdalpicpkandcaa
open Go.RowKit

theorem wf_le {n : Int} (h : (Lit.int .i64 n).wf = true) : n ≤ 9223372036854775807 := by
  have h' : -9223372036854775808 ≤ n ∧ n ≤ 9223372036854775807 := by simpa [Lit.wf, IntKind.min, IntKind.max, IntKind.signed, IntKind.bits] using h
  exact h'.2
theorem chunkRanges_walk (mn mx bt : Int) (s : ByteArray) (most : Int) (_ : (Lit.int .i64 mn).wf = true) (_ : (Lit.int .i64 mx).wf = true) (_ : (Lit.int .i64 bt).wf = true) (_ : s.size ≤ 140737488351232) (hm : (Lit.int .i64 most).wf = true) (w : World) :
    Calls Try.prog 5 #[cutV mn mx bt, .string s, .int .i64 most] w fun e w' => e = .returned (.bool true) ∧ Below w.heap.size w w' := by
  by_cases h : sizeN mn mx bt s.size = 0
  · obtain ⟨hO, hs⟩ := sizeN_zero.1 h
    have eC := fun V => rcut_any mn mx bt s V
    rw [cutL, if_pos h, h] at eC
    obtain ⟨mn, rfl⟩ := Int.eq_ofNat_of_zero_le (show 0 ≤ mn by have := hO.1; omega)
    obtain ⟨mx, rfl⟩ := Int.eq_ofNat_of_zero_le (show 0 ≤ mx by have := hO.1; have := hO.2.1; omega)
    obtain ⟨bt, rfl⟩ := Int.eq_ofNat_of_zero_le (show 0 ≤ bt by have := hO.2.2.2.1; omega)
    simp only [Int.toNat_natCast] at eC
    exact chunkRanges_ok mn mx bt hO s (by omega) most (wf_le hm) w _ rfl (cutL_le mn mx bt (by have := hO.1; omega) (by have := hO.2.1; omega) s (by omega)) _ rfl eC
  · have eC := fun V => rcut_any mn mx bt s V
    rw [cutL, if_neg h] at eC
    exact chunkRanges_no mn mx bt s h most _ w eC
end Go.Proofs.Ytdalpicpkandcaa
