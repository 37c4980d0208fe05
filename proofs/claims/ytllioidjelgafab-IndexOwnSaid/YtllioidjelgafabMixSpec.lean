/-
  Plain facts (no Go in here): the digest of a text, block by block.
-/
import Derived.Test.YtllioidjelgafabMixMath
namespace Go.Proofs.Ytllioidjelgafab
namespace Mx

def byteAt (l : List UInt8) (k : Nat) : Nat := (l.getD k 0).toNat
/-- the highest c bytes of block i -/
def hi (l : List UInt8) (i : Nat) : Nat → Nat
  | 0 => 0
  | c + 1 => 256 * hi l i c + byteAt l (8 * i + (7 - c))
/-- block i of a text, the lowest byte first; behind the text there are noughts -/
def blk (l : List UInt8) (i : Nat) : Nat := hi l i 8
/-- the lowest w bits -/
def cut (w y : Nat) : Nat := y % 2 ^ w
/-- behind i blocks -/
def chain (w : Nat) (l : List UInt8) : Nat → Nat
  | 0 => 0
  | i + 1 => cut w (step (chain w l i) (blk l i))
def narrow (w : Nat) (l : List UInt8) : Nat := cut w (step (chain w l ((l.length + 7) / 8)) l.length)

theorem byteAt_lt (l : List UInt8) (k : Nat) : byteAt l k < 256 := UInt8.toNat_lt _
theorem hi_lt (l : List UInt8) (i : Nat) : ∀ c, hi l i c < 256 ^ c
  | 0 => by simp [hi]
  | c + 1 => by
    have h1 := hi_lt l i c
    have h2 := byteAt_lt l (8 * i + (7 - c))
    rw [hi, Nat.pow_succ]
    omega
theorem blk_lt (l : List UInt8) (i : Nat) : blk l i < 18446744073709551616 := hi_lt l i 8
theorem cut_le (w y : Nat) : cut w y ≤ y := Nat.mod_le _ _
theorem cut_lt {w y : Nat} (h : y < 18446744073709551616) : cut w y < 18446744073709551616 := Nat.lt_of_le_of_lt (cut_le w y) h
theorem cut_64 {y : Nat} (h : y < 18446744073709551616) : cut 64 y = y := Nat.mod_eq_of_lt h
theorem chain_lt (w : Nat) (l : List UInt8) (i : Nat) : chain w l i < 18446744073709551616 := by
  cases i with
  | zero => simp [chain]
  | succ i => exact cut_lt (step_lt _ _)
theorem narrow_lt (w : Nat) (l : List UInt8) : narrow w l < 18446744073709551616 := cut_lt (step_lt _ _)
/-- noughts behind make no difference -/
theorem byteAt_pad (l : List UInt8) (n k : Nat) : byteAt (l ++ List.replicate n 0) k = byteAt l k := by
  unfold byteAt
  rw [List.getD_eq_getElem?_getD, List.getD_eq_getElem?_getD]
  by_cases h : k < l.length
  · rw [List.getElem?_append_left h]
  · rw [List.getElem?_append_right (by omega), List.getElem?_eq_none (l := l) (by omega), List.getElem?_replicate]
    split <;> rfl
theorem byteAt_drop (l : List UInt8) (m k : Nat) : byteAt (l.drop m) k = byteAt l (m + k) := by
  unfold byteAt
  rw [List.getD_eq_getElem?_getD, List.getD_eq_getElem?_getD, List.getElem?_drop]
/-- the lowest c bytes of block i -/
def lo (l : List UInt8) (i : Nat) : Nat → Nat
  | 0 => 0
  | c + 1 => lo l i c + byteAt l (8 * i + c) * 256 ^ c
theorem lo_lt (l : List UInt8) (i : Nat) : ∀ c, lo l i c < 256 ^ c
  | 0 => by simp [lo]
  | c + 1 => by
    have h1 := lo_lt l i c
    have h2 := byteAt_lt l (8 * i + c)
    have h3 : byteAt l (8 * i + c) * 256 ^ c ≤ 255 * 256 ^ c := Nat.mul_le_mul_right _ (by omega)
    rw [lo, Nat.pow_succ]
    omega
theorem lo_blk (l : List UInt8) (i : Nat) : lo l i 8 = blk l i := by
  simp only [blk, lo, hi, Nat.reducePow, Nat.reduceSub, Nat.add_zero, Nat.zero_add]
  omega
/-- one byte more, put in by 'or' -/
theorem lo_or (l : List UInt8) (i c : Nat) : lo l i c ||| byteAt l (8 * i + c) * 256 ^ c = lo l i (c + 1) := by
  have h1 : lo l i c < 2 ^ (8 * c) := by rw [Nat.pow_mul]; exact lo_lt l i c
  rw [lo, show (256 : Nat) ^ c = 2 ^ (8 * c) from by rw [Nat.pow_mul], Nat.mul_comm (byteAt _ _), Nat.or_comm, Nat.add_comm (lo l i c), Nat.two_pow_add_eq_or_of_lt h1]
/-- behind the text there is nothing more -/
theorem byteAt_past {l : List UInt8} {k : Nat} (h : l.length ≤ k) : byteAt l k = 0 := by
  unfold byteAt
  rw [List.getD_eq_getElem?_getD, List.getElem?_eq_none h]; rfl
/-- up and down again: the lowest bits -/
theorem cut_shift {w : Nat} (y : Nat) (hw : w ≤ 64) : y * 2 ^ (64 - w) % 18446744073709551616 / 2 ^ (64 - w) = cut w y := by
  have h : (18446744073709551616 : Nat) = 2 ^ w * 2 ^ (64 - w) := by rw [← Nat.pow_add, show w + (64 - w) = 64 from by omega]
  rw [h, Nat.mul_mod_mul_right, Nat.mul_div_cancel _ (Nat.two_pow_pos _), cut]
end Mx
end Go.Proofs.Ytllioidjelgafab
