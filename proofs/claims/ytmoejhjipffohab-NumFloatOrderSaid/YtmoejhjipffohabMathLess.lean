/-
  Plain facts (no Go in here): the smaller of two has the smaller bytes.
-/
import Derived.Test.YtmoejhjipffohabMathBack
namespace Go.Proofs.Ytmoejhjipffohab
namespace Nm

theorem less_nil (x : List UInt8) : Op.bytesLess x [] = false := by cases x <;> rfl
theorem less_cons (a b : UInt8) (x y : List UInt8) : Op.bytesLess (a :: x) (b :: y) = (decide (a < b) || (a == b && Op.bytesLess x y)) := rfl
/-- of texts of one length: as their numbers -/
theorem less_val : ∀ (x y : List UInt8), x.length = y.length → Op.bytesLess x y = decide (val x < val y)
  | [], [], _ => rfl
  | [], _ :: _, h => by simp at h
  | _ :: _, [], h => by simp at h
  | a :: x, b :: y, h => by
    have hl : x.length = y.length := by simpa using h
    have ih := less_val x y hl
    have hx := val_lt x
    have hy := val_lt y
    rw [less_cons, ih, val_cons, val_cons, hl, Bool.eq_iff_iff]
    rw [hl] at hx
    generalize 256 ^ y.length = P at *
    simp only [Bool.or_eq_true, Bool.and_eq_true, decide_eq_true_eq, beq_iff_eq]
    rw [UInt8.lt_iff_toNat_lt, ← UInt8.toNat_inj]
    generalize a.toNat = A at *
    generalize b.toNat = C at *
    constructor
    · rintro (h1 | ⟨rfl, h2⟩)
      · have : (A + 1) * P ≤ C * P := Nat.mul_le_mul_right P h1
        rw [Nat.add_mul] at this
        omega
      · omega
    · intro h1
      by_cases h2 : A < C
      · exact .inl h2
      · right
        by_cases h3 : A = C
        · subst h3; exact ⟨rfl, by omega⟩
        · exfalso
          have : (C + 1) * P ≤ A * P := Nat.mul_le_mul_right P (by omega)
          rw [Nat.add_mul] at this
          omega
theorem less_head_lt (a b : UInt8) (x y : List UInt8) (h : a.toNat < b.toNat) : Op.bytesLess (a :: x) (b :: y) = true := by
  rw [less_cons, decide_eq_true (UInt8.lt_iff_toNat_lt.2 h)]; rfl
theorem less_head_gt (a b : UInt8) (x y : List UInt8) (h : b.toNat < a.toNat) : Op.bytesLess (a :: x) (b :: y) = false := by
  rw [less_cons, decide_eq_false (by rw [UInt8.lt_iff_toNat_lt]; omega)]
  have : (a == b) = false := by rw [beq_eq_false_iff_ne]; intro e; subst e; omega
  rw [this]; rfl
theorem less_head_eq (a : UInt8) (x y : List UInt8) : Op.bytesLess (a :: x) (a :: y) = Op.bytesLess x y := by
  rw [less_cons, decide_eq_false (by rw [UInt8.lt_iff_toNat_lt]; omega)]
  simp
/-- fewer digits: a smaller number -/
theorem dig_fewer (a b : Nat) (ha : a < 256 ^ 8) (h : (dig a).length < (dig b).length) : a < b := by
  have hb : b ≠ 0 := by intro e; subst e; simp [dig_zero] at h
  have ⟨g1, _⟩ := dig_ge b hb
  have g2 := dig_lt a ha
  have : 256 ^ (dig a).length ≤ 256 ^ ((dig b).length - 1) := Nat.pow_le_pow_right (by omega) (by omega)
  omega
theorem put_less (a b : Nat) (ha : a < 256 ^ 8) (hb : b < 256 ^ 8) : Op.bytesLess (put a) (put b) = decide (a < b) := by
  have la := dig_length_le a
  have lb := dig_length_le b
  have ca : (UInt8.ofNat (dig a).length).toNat = (dig a).length := by rw [UInt8.toNat_ofNat']; omega
  have cb : (UInt8.ofNat (dig b).length).toNat = (dig b).length := by rw [UInt8.toNat_ofNat']; omega
  unfold put
  by_cases h1 : (dig a).length < (dig b).length
  · rw [less_head_lt _ _ _ _ (by omega), decide_eq_true (dig_fewer a b ha h1)]
  · by_cases h2 : (dig b).length < (dig a).length
    · have := dig_fewer b a hb h2
      rw [less_head_gt _ _ _ _ (by omega), decide_eq_false (by omega)]
    · have he : (dig a).length = (dig b).length := by omega
      rw [he, less_head_eq, less_val _ _ he, val_dig a ha, val_dig b hb]
theorem putI_less (i j : Int) (i0 : -9223372036854775808 ≤ i) (i1 : i ≤ 9223372036854775807) (j0 : -9223372036854775808 ≤ j) (j1 : j ≤ 9223372036854775807) :
    Op.bytesLess (putI i) (putI j) = decide (i < j) := by
  have lo : ∀ k : Nat, (UInt8.ofNat (127 - (dig k).length)).toNat = 127 - (dig k).length := by
    intro k; have := dig_length_le k; rw [UInt8.toNat_ofNat']; omega
  have hi : ∀ k : Nat, (UInt8.ofNat (128 + (dig k).length)).toNat = 128 + (dig k).length := by
    intro k; have := dig_length_le k; rw [UInt8.toNat_ofNat']; omega
  unfold putI
  by_cases hi0 : i < 0
  · rw [if_pos hi0]
    by_cases hj0 : j < 0
    · rw [if_pos hj0]
      obtain ⟨a, ha⟩ : ∃ a, a = (-1 - i).toNat := ⟨_, rfl⟩
      obtain ⟨b, hb⟩ : ∃ b, b = (-1 - j).toNat := ⟨_, rfl⟩
      rw [← ha, ← hb]
      have la := dig_length_le a
      have lb := dig_length_le b
      by_cases h1 : (dig b).length < (dig a).length
      · have := dig_fewer b a (by omega) h1
        rw [less_head_lt _ _ _ _ (by rw [lo, lo]; omega), decide_eq_true (by omega)]
      · by_cases h2 : (dig a).length < (dig b).length
        · have := dig_fewer a b (by omega) h2
          rw [less_head_gt _ _ _ _ (by rw [lo, lo]; omega), decide_eq_false (by omega)]
        · have he : (dig a).length = (dig b).length := by omega
          have va := val_not (dig a)
          have vb := val_not (dig b)
          rw [val_dig a (by omega)] at va
          rw [val_dig b (by omega)] at vb
          rw [he, less_head_eq, less_val _ _ (by rw [tn_length, tn_length, he]), Bool.eq_iff_iff, decide_eq_true_eq, decide_eq_true_eq]
          rw [he] at va
          generalize 256 ^ (dig b).length = P at *
          omega
    · rw [if_neg hj0, less_head_lt _ _ _ _ (by rw [lo, hi]; omega), decide_eq_true (by omega)]
  · rw [if_neg hi0]
    by_cases hj0 : j < 0
    · rw [if_pos hj0, less_head_gt _ _ _ _ (by rw [lo, hi]; omega), decide_eq_false (by omega)]
    · rw [if_neg hj0]
      obtain ⟨a, ha⟩ : ∃ a, a = i.toNat := ⟨_, rfl⟩
      obtain ⟨b, hb⟩ : ∃ b, b = j.toNat := ⟨_, rfl⟩
      rw [← ha, ← hb]
      by_cases h1 : (dig a).length < (dig b).length
      · have := dig_fewer a b (by omega) h1
        rw [less_head_lt _ _ _ _ (by rw [hi, hi]; omega), decide_eq_true (by omega)]
      · by_cases h2 : (dig b).length < (dig a).length
        · have := dig_fewer b a (by omega) h2
          rw [less_head_gt _ _ _ _ (by rw [hi, hi]; omega), decide_eq_false (by omega)]
        · have he : (dig a).length = (dig b).length := by omega
          rw [he, less_head_eq, less_val _ _ he, val_dig a (by omega), val_dig b (by omega), Bool.eq_iff_iff, decide_eq_true_eq, decide_eq_true_eq]
          omega
theorem pos_of_ne {b : UInt8} (h : b ≠ 0) : 0 < b.toNat := by
  have : b.toNat ≠ 0 := fun e => h (UInt8.toNat_inj.1 (by simpa using e))
  omega
theorem putT_less : ∀ s t : List UInt8, Op.bytesLess (putT s) (putT t) = Op.bytesLess s t
  | [], [] => rfl
  | [], b :: t => by
    by_cases hb : b = 0
    · subst hb; rfl
    · rw [show putT (b :: t) = b :: putT t from by simp [putT, esc, hb], show putT [] = [0, 0] from rfl, less_head_lt _ _ _ _ (by have := pos_of_ne hb; simpa using this)]
      rfl
  | a :: s, [] => by
    by_cases ha : a = 0
    · subst ha; rfl
    · rw [show putT (a :: s) = a :: putT s from by simp [putT, esc, ha], show putT [] = [0, 0] from rfl, less_head_gt _ _ _ _ (by have := pos_of_ne ha; simpa using this)]
      rfl
  | a :: s, b :: t => by
    have ih := putT_less s t
    by_cases ha : a = 0
    · subst ha
      by_cases hb : b = 0
      · subst hb
        rw [show putT (0 :: s) = 0 :: 255 :: putT s from rfl, show putT (0 :: t) = 0 :: 255 :: putT t from rfl, less_head_eq, less_head_eq, less_head_eq, ih]
      · rw [show putT (b :: t) = b :: putT t from by simp [putT, esc, hb], show putT (0 :: s) = 0 :: 255 :: putT s from rfl,
          less_head_lt _ _ _ _ (by have := pos_of_ne hb; simpa using this), less_head_lt _ _ _ _ (by have := pos_of_ne hb; simpa using this)]
    · rw [show putT (a :: s) = a :: putT s from by simp [putT, esc, ha]]
      by_cases hb : b = 0
      · subst hb
        rw [show putT (0 :: t) = 0 :: 255 :: putT t from rfl, less_head_gt _ _ _ _ (by have := pos_of_ne ha; simpa using this), less_head_gt _ _ _ _ (by have := pos_of_ne ha; simpa using this)]
      · rw [show putT (b :: t) = b :: putT t from by simp [putT, esc, hb], less_cons, less_cons, ih]
end Nm
end Go.Proofs.Ytmoejhjipffohab
