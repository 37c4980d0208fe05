/-
  lumkeep.ChunkWhole returns true.
-/
import Derived.Test.YtdalpicpkandcaaChunkWholeOf
namespace Go.Proofs.Ytdalpicpkandcaa
open Go.RowKit

theorem fixL_le' (n : Int) (s : ByteArray) : (fixL n s).length ≤ 4096 := by
  unfold fixL
  split
  · rename_i h
    unfold fixN at h
    split at h
    · omega
    · split at h
      · rw [Ck.fixed_length, ← Lib.size_eq]
        rcases Nat.eq_zero_or_pos (Ck.many n.toNat s.size) with h3 | h3
        · omega
        · have h4 := (Ck.many_lt (show 0 < n.toNat by omega)).1 (show Ck.many n.toNat s.size - 1 < Ck.many n.toNat s.size by omega)
          have h2 : (Ck.many n.toNat s.size - 1) * 1 ≤ (Ck.many n.toNat s.size - 1) * n.toNat := Nat.mul_le_mul (Nat.le_refl _) (by omega)
          omega
      · omega
  · simp
theorem chunkWhole_walk (mn mx bt n : Int) (s : ByteArray) (_ : (Lit.int .i64 mn).wf = true) (_ : (Lit.int .i64 mx).wf = true) (_ : (Lit.int .i64 bt).wf = true) (_ : (Lit.int .i64 n).wf = true) (_ : s.size ≤ 140737488351232) (w : World) :
    Calls Try.prog 6 #[cutV mn mx bt, .int .i64 n, .string s] w fun e w' => e = .returned (.bool true) ∧ Below w.heap.size w w' := by
  have e0 : ∀ V, Calls Try.prog 9 #[.int .i64 2, .string ⟨#[97, 98, 99]⟩] V fun e w' => ∃ v, e = .returned (.tuple #[v, .int .i64 0]) ∧ w'.ownsRow V.heap.size 9 1 v ([[97, 98], [99]] : List Ck.Bs).length (([[97, 98], [99]] : List Ck.Bs).map Sv) ∧ Below V.heap.size V w' := fun V => by
    have := fixed_any 2 ⟨#[97, 98, 99]⟩ V
    rw [show fixL 2 ⟨#[97, 98, 99]⟩ = [[97, 98], [99]] from rfl, show fixN 2 (ByteArray.size ⟨#[97, 98, 99]⟩ : Nat) = 0 from rfl] at this
    exact this
  have hP : (fixN n s.size ≠ 0 ∧ fixL n s = []) ∨ (fixN n s.size = 0 ∧ (fixL n s).flatten = s.data.toList ∧ s.size ≤ 4096 ∧ ∀ j (h : j < (fixL n s).length), 0 < (fixL n s)[j].length ∧ ((fixL n s)[j].length : Int) ≤ n ∧ (j + 1 < (fixL n s).length → n ≤ ((fixL n s)[j].length : Int))) := by
    by_cases h : fixN n s.size = 0
    · right
      have hr : 1 ≤ n ∧ s.size ≤ 4096 := by
        unfold fixN at h
        split at h
        · omega
        · split at h
          · omega
          · omega
      have hL : fixL n s = Ck.fixed n.toNat s.data.toList := if_pos h
      rw [hL]
      refine ⟨h, Ck.fixed_join (by omega) _, hr.2, fun j hj => ?_⟩
      obtain ⟨a, b, c⟩ := Ck.fixed_size (n := n.toNat) (s := s.data.toList) (by omega) hj
      exact ⟨a, by omega, fun h2 => by have := c h2; omega⟩
    · exact .inl ⟨h, if_neg h⟩
  by_cases h : sizeN mn mx bt s.size = 0
  · obtain ⟨hO, hs⟩ := sizeN_zero.1 h
    have e1 := fun V => cut_any mn mx bt s V
    rw [h] at e1
    have hL : cutL mn mx bt s = Ck.cut (Ck.ends mn.toNat mx.toNat bt.toNat Rl.ofL) s.data.toList := if_pos h
    rw [hL] at e1
    obtain ⟨o1, o2, _, _, _⟩ := hO
    refine chunkWhole_ok mn mx bt n _ s w _ _ _ rfl (fixL_le' n s) e0 e1 (fun V => fixed_any n s V) (cutL_le _ _ _ (by omega) (by omega) s (by omega)) (Ck.cut_join _) (by omega) ?_ hP
    intro j hj
    obtain ⟨a, b, c⟩ := Ck.cut_size (mn := mn.toNat) (mx := mx.toNat) (bits := bt.toNat) (sum := Rl.ofL) (by omega) (by omega) s.data.toList hj
    exact ⟨a, by omega, fun h2 => by have := c h2; omega⟩
  · have e1 := fun V => cut_any mn mx bt s V
    rw [show cutL mn mx bt s = [] from if_neg h] at e1
    exact chunkWhole_no mn mx bt n _ _ s w _ _ rfl (fixL_le' n s) e0 e1 (fun V => fixed_any n s V) h hP
end Go.Proofs.Ytdalpicpkandcaa
