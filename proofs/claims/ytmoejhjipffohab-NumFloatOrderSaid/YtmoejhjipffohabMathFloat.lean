/-
  Plain facts (no Go in here): how two floats stand to each other, and their bits.
-/
import Derived.Test.YtmoejhjipffohabMathLess
import GoSem.Core.Float
namespace Go.Proofs.Ytmoejhjipffohab
namespace Nm

/-- the magnitude of a rung, in units of the least one -/
def mag (r : Nat) : Nat := if r < 4503599627370496 then r else (4503599627370496 + r % 4503599627370496) * 2 ^ (r / 4503599627370496 - 1)
theorem mag_lt {r s : Nat} (h : r < s) : mag r < mag s := by
  unfold mag
  by_cases hs : s < 4503599627370496
  · rw [if_pos hs, if_pos (by omega)]; exact h
  rw [if_neg hs]
  have h1 : 1 ≤ 2 ^ (s / 4503599627370496 - 1) := Nat.one_le_two_pow
  by_cases hr : r < 4503599627370496
  · rw [if_pos hr]
    have : (4503599627370496 + s % 4503599627370496) * 1 ≤ (4503599627370496 + s % 4503599627370496) * 2 ^ (s / 4503599627370496 - 1) := Nat.mul_le_mul_left _ h1
    omega
  rw [if_neg hr]
  obtain ⟨p, hp⟩ : ∃ p, r / 4503599627370496 = p + 1 := ⟨r / 4503599627370496 - 1, by omega⟩
  obtain ⟨q, hq⟩ : ∃ q, s / 4503599627370496 = q + 1 := ⟨s / 4503599627370496 - 1, by omega⟩
  rw [hp, hq, Nat.add_sub_cancel, Nat.add_sub_cancel]
  by_cases he : p = q
  · subst he
    exact Nat.mul_lt_mul_of_pos_right (by omega) (Nat.two_pow_pos p)
  · have hlt : p + 1 ≤ q := by omega
    have e1 : (4503599627370496 + r % 4503599627370496) * 2 ^ p < 2 * 4503599627370496 * 2 ^ p := Nat.mul_lt_mul_of_pos_right (by omega) (Nat.two_pow_pos p)
    have e2 : 2 * 4503599627370496 * 2 ^ p = 4503599627370496 * 2 ^ (p + 1) := by rw [Nat.pow_succ]; omega
    have e3 : 4503599627370496 * 2 ^ (p + 1) ≤ 4503599627370496 * 2 ^ q := Nat.mul_le_mul_left _ (Nat.pow_le_pow_right (by omega) hlt)
    have e4 : 4503599627370496 * 2 ^ q ≤ (4503599627370496 + s % 4503599627370496) * 2 ^ q := Nat.mul_le_mul_right _ (by omega)
    omega
theorem mag_lt_iff (r s : Nat) : mag r < mag s ↔ r < s := by
  constructor
  · intro h
    by_cases h1 : r < s
    · exact h1
    · exfalso
      by_cases h2 : r = s
      · subst h2; omega
      · have := mag_lt (show s < r by omega); omega
  · exact mag_lt
theorem mag_zero : mag 0 = 0 := rfl
/-- a number's value in those units -/
def worth (neg : Bool) (r : Nat) : Int := if neg then -(mag r : Int) else (mag r : Int)

/-- what the bits stand for -/
theorem read_num (b : Nat) (h : b % 9223372036854775808 < 9218868437227405312) : ∃ (m e : Nat), Ieee.double.read b = .number (b / 9223372036854775808 % 2 == 1) m (Ieee.double.leastPlace + (e : Int)) ∧ m * 2 ^ e = mag (b % 9223372036854775808) := by
  have h1 : Ieee.double.infRung = 9218868437227405312 := by decide +kernel
  have h2 : Ieee.double.signWeight = 9223372036854775808 := by decide +kernel
  have h3 : Ieee.double.binade = 4503599627370496 := by decide +kernel
  unfold Ieee.Format.read mag
  simp only [h1, h2, h3]
  by_cases hs : b % 9223372036854775808 < 4503599627370496
  · rw [if_pos hs, if_pos hs]
    exact ⟨b % 9223372036854775808, 0, by simp, by simp⟩
  · rw [if_neg hs, if_pos h, if_neg hs]
    exact ⟨_, _, rfl, rfl⟩
theorem read_inf (b : Nat) (h : b % 9223372036854775808 = 9218868437227405312) : Ieee.double.read b = .infinity (b / 9223372036854775808 % 2 == 1) := by
  have h1 : Ieee.double.infRung = 9218868437227405312 := by decide +kernel
  have h2 : Ieee.double.signWeight = 9223372036854775808 := by decide +kernel
  have h3 : Ieee.double.binade = 4503599627370496 := by decide +kernel
  unfold Ieee.Format.read
  simp only [h1, h2, h3]
  rw [if_neg (by omega), if_neg (by omega), if_pos h]

def sv (neg : Bool) (x : Nat) : Int := if neg then -(x : Int) else (x : Int)
theorem sv_scale (s : Bool) (x c : Nat) : sv s (x * c) = sv s x * (c : Int) := by
  unfold sv
  cases s
  · simp
  · simp [Int.neg_mul]
theorem signed_eq (s : Bool) (m k : Nat) : Ieee.signed s m k = sv s (m * 2 ^ k) := by
  unfold Ieee.signed sv
  rw [Nat.shiftLeft_eq]
/-- two numbers stand to each other as their worths do -/
theorem order_num (s t : Bool) (m n e f : Nat) (L : Int) :
    ∃ c, (Ieee.Datum.number s m (L + e)).order (.number t n (L + f)) = some c ∧ (c = .lt → sv s (m * 2 ^ e) < sv t (n * 2 ^ f)) ∧ (c = .eq → sv s (m * 2 ^ e) = sv t (n * 2 ^ f)) := by
  obtain ⟨g, hg⟩ : ∃ g, g = min e f := ⟨_, rfl⟩
  have h1 : (L + (e : Int) - min (L + (e : Int)) (L + (f : Int))).toNat = e - g := by omega
  have h2 : (L + (f : Int) - min (L + (e : Int)) (L + (f : Int))).toNat = f - g := by omega
  have e1 : m * 2 ^ e = m * 2 ^ (e - g) * 2 ^ g := by rw [Nat.mul_assoc, ← Nat.pow_add]; congr 2; omega
  have e2 : n * 2 ^ f = n * 2 ^ (f - g) * 2 ^ g := by rw [Nat.mul_assoc, ← Nat.pow_add]; congr 2; omega
  have hp : (0 : Int) < ((2 ^ g : Nat) : Int) := by have := Nat.two_pow_pos g; omega
  refine ⟨_, rfl, ?_, ?_⟩
  · rw [h1, h2, Int.compare_eq_lt, signed_eq, signed_eq, e1, e2, sv_scale s (m * 2 ^ (e - g)), sv_scale t (n * 2 ^ (f - g))]
    intro h
    exact Int.mul_lt_mul_of_pos_right h hp
  · rw [h1, h2, Int.compare_eq_eq, signed_eq, signed_eq, e1, e2, sv_scale s (m * 2 ^ (e - g)), sv_scale t (n * 2 ^ (f - g))]
    intro h
    rw [h]
theorem sign_of (b : Nat) (h : b < 18446744073709551616) : (b / 9223372036854775808 % 2 == 1) = decide (9223372036854775808 ≤ b) := by
  rw [Bool.eq_iff_iff, beq_iff_eq, decide_eq_true_eq]; omega
theorem rung_le (b : Nat) (h : nanB b = false) : b % 9223372036854775808 ≤ 9218868437227405312 := by
  have := of_decide_eq_false h; omega
/-- floats that are no NaN: their order, and their bits -/
theorem order_bits (x y : Nat) (hx : x < 18446744073709551616) (hy : y < 18446744073709551616) (nx : nanB x = false) (ny : nanB y = false) :
    ∃ c, FloatKind.f64.format.order x y = some c ∧ (c = .lt → flip x < flip y) ∧ (c = .eq → x = y ∨ (x % 9223372036854775808 = 0 ∧ y % 9223372036854775808 = 0)) := by
  have rx := rung_le x nx
  have ry := rung_le y ny
  show ∃ c, (Ieee.double.read x).order (Ieee.double.read y) = some c ∧ _
  have lt_of : ∀ {r s : Nat}, (mag r : Int) < (mag s : Int) → r < s := fun h => (mag_lt_iff _ _).1 (by omega)
  have eq_of : ∀ {r s : Nat}, (mag r : Int) = (mag s : Int) → r = s := by
    intro r s h
    have h1 := mag_lt_iff r s
    have h2 := mag_lt_iff s r
    omega
  have zero_of : ∀ {r : Nat}, (mag r : Int) ≤ 0 → r = 0 := by
    intro r h
    have h1 := mag_lt_iff 0 r
    rw [mag_zero] at h1
    omega
  by_cases ix : x % 9223372036854775808 < 9218868437227405312
  · obtain ⟨m, e, h1, h2⟩ := read_num x ix
    rw [h1, sign_of x hx]
    by_cases iy : y % 9223372036854775808 < 9218868437227405312
    · obtain ⟨n, f, h3, h4⟩ := read_num y iy
      rw [h3, sign_of y hy]
      obtain ⟨c, g1, g2, g3⟩ := order_num (decide (9223372036854775808 ≤ x)) (decide (9223372036854775808 ≤ y)) m n e f Ieee.double.leastPlace
      refine ⟨c, g1, ?_, ?_⟩
      · intro hc
        have g := g2 hc
        rw [h2, h4] at g
        unfold sv at g
        unfold flip
        by_cases sx : 9223372036854775808 ≤ x
        · by_cases sy : 9223372036854775808 ≤ y
          · simp only [sx, sy, decide_true, if_true] at g
            have := lt_of (show (mag (y % 9223372036854775808) : Int) < (mag (x % 9223372036854775808) : Int) by omega)
            rw [if_neg (by omega), if_neg (by omega)]; omega
          · rw [if_neg (by omega), if_pos (by omega)]; omega
        · by_cases sy : 9223372036854775808 ≤ y
          · simp [sx, sy] at g
            exfalso; omega
          · simp only [sx, sy, decide_false] at g
            have := lt_of (show (mag (x % 9223372036854775808) : Int) < (mag (y % 9223372036854775808) : Int) by simpa using g)
            rw [if_pos (by omega), if_pos (by omega)]; omega
      · intro hc
        have g := g3 hc
        rw [h2, h4] at g
        unfold sv at g
        by_cases sx : 9223372036854775808 ≤ x
        · by_cases sy : 9223372036854775808 ≤ y
          · simp only [sx, sy, decide_true, if_true] at g
            have := eq_of (show (mag (x % 9223372036854775808) : Int) = (mag (y % 9223372036854775808) : Int) by omega)
            left; omega
          · simp [sx, sy] at g
            right
            exact ⟨zero_of (by omega), zero_of (by omega)⟩
        · by_cases sy : 9223372036854775808 ≤ y
          · simp [sx, sy] at g
            right
            exact ⟨zero_of (by omega), zero_of (by omega)⟩
          · simp only [sx, sy, decide_false] at g
            have := eq_of (show (mag (x % 9223372036854775808) : Int) = (mag (y % 9223372036854775808) : Int) by simpa using g)
            left; omega
    · have iy' : y % 9223372036854775808 = 9218868437227405312 := by omega
      rw [read_inf y iy', sign_of y hy]
      refine ⟨_, rfl, ?_, ?_⟩
      · intro hc
        unfold flip
        by_cases sy : 9223372036854775808 ≤ y
        · simp [sy] at hc
        · by_cases sx : 9223372036854775808 ≤ x
          · rw [if_neg (by omega), if_pos (by omega)]; omega
          · rw [if_pos (by omega), if_pos (by omega)]; omega
      · intro hc
        by_cases sy : 9223372036854775808 ≤ y <;> simp [sy] at hc
  · have ix' : x % 9223372036854775808 = 9218868437227405312 := by omega
    rw [read_inf x ix', sign_of x hx]
    by_cases iy : y % 9223372036854775808 < 9218868437227405312
    · obtain ⟨n, f, h3, h4⟩ := read_num y iy
      rw [h3]
      refine ⟨_, rfl, ?_, ?_⟩
      · intro hc
        unfold flip
        by_cases sx : 9223372036854775808 ≤ x
        · by_cases sy : 9223372036854775808 ≤ y
          · rw [if_neg (by omega), if_neg (by omega)]; omega
          · rw [if_neg (by omega), if_pos (by omega)]; omega
        · simp [sx] at hc
      · intro hc
        by_cases sx : 9223372036854775808 ≤ x <;> simp [sx] at hc
    · have iy' : y % 9223372036854775808 = 9218868437227405312 := by omega
      rw [read_inf y iy', sign_of y hy]
      refine ⟨_, rfl, ?_, ?_⟩
      · intro hc
        unfold flip
        by_cases sx : 9223372036854775808 ≤ x
        · by_cases sy : 9223372036854775808 ≤ y
          · simp [sx, sy] at hc
          · rw [if_neg (by omega), if_pos (by omega)]; omega
        · by_cases sy : 9223372036854775808 ≤ y
          · simp [sx, sy] at hc
            exact absurd hc (by decide)
          · simp [sx, sy] at hc
      · intro hc
        left
        by_cases sx : 9223372036854775808 ≤ x
        · by_cases sy : 9223372036854775808 ≤ y
          · omega
          · simp [sx, sy] at hc
        · by_cases sy : 9223372036854775808 ≤ y
          · simp [sx, sy] at hc
          · omega
theorem less_putF (x y : Nat) (hx : x < 18446744073709551616) (hy : y < 18446744073709551616) : Op.bytesLess (putF x) (putF y) = decide (flip (oneNaN x) < flip (oneNaN y)) := by
  have h1 := flip_lt _ (oneNaN_lt x hx)
  have h2 := flip_lt _ (oneNaN_lt y hy)
  rw [less_val _ _ (by rw [putF_length, putF_length]), putF, putF, val_low, val_low, Nat.mod_eq_of_lt (by omega), Nat.mod_eq_of_lt (by omega)]
theorem same_putF (x y : Nat) (hx : x < 18446744073709551616) (hy : y < 18446744073709551616) : (putF x == putF y) = decide (flip (oneNaN x) = flip (oneNaN y)) := by
  have h1 := flip_lt _ (oneNaN_lt x hx)
  have h2 := flip_lt _ (oneNaN_lt y hy)
  rw [Bool.eq_iff_iff, beq_iff_eq, decide_eq_true_eq]
  constructor
  · intro h
    have := congrArg val h
    rw [putF, putF, val_low, val_low, Nat.mod_eq_of_lt (by omega), Nat.mod_eq_of_lt (by omega)] at this
    exact this
  · intro h
    rw [putF, putF, h]
theorem nan_top (x y : Nat) (hx : x < 18446744073709551616) (ny : nanB y = true) : (nanB x = true → flip (oneNaN x) = flip (oneNaN y)) ∧ (nanB x = false → flip (oneNaN x) < flip (oneNaN y)) := by
  constructor
  · intro nx
    rw [oneNaN, oneNaN, if_pos nx, if_pos ny]
  · intro nx
    have := rung_le x nx
    rw [oneNaN, oneNaN, if_neg (by rw [nx]; decide), if_pos ny]
    unfold flip
    rw [if_pos (show 9221120237041090561 < 9223372036854775808 by omega)]
    split <;> omega
theorem oneNaN_of {x : Nat} (nx : nanB x = false) : oneNaN x = x := by rw [oneNaN, if_neg (by rw [nx]; decide)]
theorem flip_inj {x y : Nat} (hx : x < 18446744073709551616) (hy : y < 18446744073709551616) (h : flip x = flip y) : x = y := by
  have := congrArg unflip h
  rwa [unflip_flip x hx, unflip_flip y hy] at this
end Nm
end Go.Proofs.Ytmoejhjipffohab
