/-
  Plain facts (no Go in here): the steps of a text, and: two unlike texts of one narrow sum have unlike steps that end alike.
-/
import Derived.Test.YtllioidjelgafabMixSpec
namespace Go.Proofs.Ytllioidjelgafab
open Go.RowKit

namespace Mx
/-- what goes in at step i of a text -/
def blkAt (l : List UInt8) (i : Nat) : Nat := if i < (l.length + 7) / 8 then blk l i else l.length
/-- what stands ahead of step i -/
def along (w : Nat) (l : List UInt8) : Nat → Nat
  | 0 => 0
  | i + 1 => cut w (step (along w l i) (blkAt l i))
theorem along_lt (w : Nat) (l : List UInt8) (i : Nat) : along w l i < 18446744073709551616 := by
  cases i with
  | zero => simp [along]
  | succ i => exact cut_lt (step_lt _ _)
theorem along_chain (w : Nat) (l : List UInt8) (i : Nat) (h : i ≤ (l.length + 7) / 8) : along w l i = chain w l i := by
  induction i with
  | zero => rfl
  | succ i ih => rw [along, chain, ih (by omega), blkAt, if_pos (by omega)]
theorem along_narrow (w : Nat) (l : List UInt8) : along w l ((l.length + 7) / 8 + 1) = narrow w l := by
  rw [along, narrow, along_chain w l _ (Nat.le_refl _), blkAt, if_neg (by omega)]
/-- the cells of step i -/
def tri (w : Nat) (l : List UInt8) (i : Nat) : List Value := [.int .u64 (along w l i : Nat), .int .u64 (blkAt l i : Nat), .int .u64 (along w l (i + 1) : Nat)]
/-- the cells of the first m steps -/
def tris (w : Nat) (l : List UInt8) : Nat → List Value
  | 0 => []
  | m + 1 => tris w l m ++ tri w l m
theorem byte_of_blk (l l' : List UInt8) (i : Nat) (h : blk l i = blk l' i) : ∀ j, j < 8 → byteAt l (8 * i + j) = byteAt l' (8 * i + j) := by
  have key : ∀ c, c ≤ 8 → hi l i c = hi l' i c → ∀ j, 8 - c ≤ j → j < 8 → byteAt l (8 * i + j) = byteAt l' (8 * i + j) := by
    intro c
    induction c with
    | zero => intro _ _ j h1 h2; omega
    | succ c ih =>
      intro hc he j h1 h2
      rw [hi, hi] at he
      have b1 := byteAt_lt l (8 * i + (7 - c))
      have b2 := byteAt_lt l' (8 * i + (7 - c))
      by_cases hj : j = 7 - c
      · subst hj; omega
      · exact ih (by omega) (by omega) j (by omega) h2
  intro j hj
  exact key 8 (Nat.le_refl _) h j (by omega) hj
theorem same_of_bytes (l l' : List UInt8) (hl : l.length = l'.length) (h : ∀ k, byteAt l k = byteAt l' k) : l = l' := by
  apply List.ext_getElem hl
  intro k h1 h2
  have := h k
  rw [byteAt, byteAt, List.getD_eq_getElem?_getD, List.getD_eq_getElem?_getD, List.getElem?_eq_getElem h1, List.getElem?_eq_getElem h2] at this
  exact UInt8.toNat_inj.1 this
/-- MERKLE, DAMGARD -/
theorem md (w : Nat) (a b : List UInt8) (hs : narrow w a = narrow w b) (hne : a ≠ b) :
    ∃ i j, i < (a.length + 7) / 8 + 1 ∧ j < (b.length + 7) / 8 + 1 ∧ along w a (i + 1) = along w b (j + 1) ∧ (along w a i ≠ along w b j ∨ blkAt a i ≠ blkAt b j) := by
  refine Classical.byContradiction fun hno => hne ?_
  have key : ∀ i j, i < (a.length + 7) / 8 + 1 → j < (b.length + 7) / 8 + 1 → along w a (i + 1) = along w b (j + 1) → along w a i = along w b j ∧ blkAt a i = blkAt b j := by
    intro i j hi hj he
    refine Classical.byContradiction fun hc => hno ⟨i, j, hi, hj, he, ?_⟩
    by_cases h : along w a i = along w b j
    · exact .inr fun h' => hc ⟨h, h'⟩
    · exact .inl h
  have top := key ((a.length + 7) / 8) ((b.length + 7) / 8) (by omega) (by omega) (by rw [along_narrow, along_narrow, hs])
  have hlen : a.length = b.length := by
    have := top.2
    rwa [blkAt, blkAt, if_neg (by omega), if_neg (by omega)] at this
  have down : ∀ d, d ≤ (a.length + 7) / 8 → along w a ((a.length + 7) / 8 - d) = along w b ((a.length + 7) / 8 - d) ∧ (0 < d → blkAt a ((a.length + 7) / 8 - d) = blkAt b ((a.length + 7) / 8 - d)) := by
    intro d
    induction d with
    | zero => intro _; exact ⟨by have := top.1; rw [← hlen] at this; exact this, fun h => by omega⟩
    | succ d ih =>
      intro hd
      have h1 := (ih (by omega)).1
      have h2 := key ((a.length + 7) / 8 - (d + 1)) ((a.length + 7) / 8 - (d + 1)) (by omega) (by rw [← hlen]; omega) (by rw [show (a.length + 7) / 8 - (d + 1) + 1 = (a.length + 7) / 8 - d from by omega]; exact h1)
      exact ⟨h2.1, fun _ => h2.2⟩
  apply same_of_bytes a b hlen
  intro k
  by_cases hk : k < a.length
  · have hq := (down ((a.length + 7) / 8 - k / 8) (by omega)).2 (by omega)
    rw [show (a.length + 7) / 8 - ((a.length + 7) / 8 - k / 8) = k / 8 from by omega, blkAt, blkAt, if_pos (by omega), if_pos (by rw [← hlen]; omega)] at hq
    have := byte_of_blk a b (k / 8) hq (k % 8) (by omega)
    rwa [show 8 * (k / 8) + k % 8 = k from by omega] at this
  · rw [byteAt_past (by omega), byteAt_past (by omega)]
end Mx
end Go.Proofs.Ytllioidjelgafab
