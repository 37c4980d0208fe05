/-
  Two texts of one length are held against each other as numbers are, byte by byte from the front.
-/
import Derived.Test.YtllioidjelgafabMath
import Derived.Test.YtllioidjelgafabBase
namespace Go.Proofs.Ytllioidjelgafab
theorem less_val : ∀ (a b : List UInt8), a.length = b.length → Op.bytesLess a b = decide (Nm.val a < Nm.val b)
  | [], [], _ => rfl
  | [], _ :: _, h => absurd h (by simp)
  | _ :: _, [], h => absurd h (by simp)
  | x :: a, y :: b, h => by
    have hl : a.length = b.length := by simpa using h
    have ha := Nm.val_lt a
    have hb := Nm.val_lt b
    rw [hl] at ha
    rw [Op.bytesLess, less_val a b hl, Nm.val_cons, Nm.val_cons, hl, Bool.eq_iff_iff]
    simp only [Bool.or_eq_true, Bool.and_eq_true, decide_eq_true_eq, beq_iff_eq]
    constructor
    · rintro (k | ⟨rfl, k⟩)
      · have k' : x.toNat + 1 ≤ y.toNat := UInt8.lt_iff_toNat_lt.mp k
        have := Nat.mul_le_mul_right (256 ^ b.length) k'
        rw [Nat.add_mul] at this
        omega
      · omega
    · intro k
      rcases Nat.lt_trichotomy x.toNat y.toNat with c | c | c
      · exact .inl (UInt8.lt_iff_toNat_lt.mpr c)
      · refine .inr ⟨UInt8.toNat_inj.mp c, ?_⟩
        rw [c] at k
        omega
      · have := Nat.mul_le_mul_right (256 ^ b.length) (show y.toNat + 1 ≤ x.toNat from c)
        rw [Nat.add_mul] at this
        omega
end Go.Proofs.Ytllioidjelgafab
