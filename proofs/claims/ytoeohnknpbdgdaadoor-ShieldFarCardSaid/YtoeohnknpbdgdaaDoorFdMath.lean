/-
  Plain facts (no Go in here): polynomials with coefficients 0 and 1 by the remainder of x^8 + x^4 + x^3 + x^2 + 1: numbers and products are those of a field; powers; inverses.
-/
import Derived.Test.YtoeohnknpbdgdaaDoorRollMath
namespace Go.Proofs.YtoeohnknpbdgdaaDoor
namespace Fd
open Rl (Lin lin_ext xor4)

/-- times x -/
def mx (a : Nat) : Nat := if a.testBit 7 then 2 * a ^^^ 285 else 2 * a
theorem mx_lin : Lin mx := fun a b => by
  unfold mx
  rw [Nat.testBit_xor, Rl.two_mul_xor]
  cases a.testBit 7 <;> cases b.testBit 7
  · simp
  · simp [Nat.xor_assoc]
  · simp only [Bool.true_bne, Bool.not_false, if_true]
    simp only [Bool.false_eq_true, if_false]
    rw [Nat.xor_assoc, Nat.xor_comm (2 * b), ← Nat.xor_assoc]
  · simp only [bne_self_eq_false, Bool.false_eq_true, if_false, if_true]
    rw [xor4, Nat.xor_self, Nat.xor_zero]
theorem mx_lt : ∀ {a : Nat}, a < 256 → mx a < 256 := by
  have : ∀ a, a < 256 → mx a < 256 := by decide +kernel
  exact fun {a} h => this a h
/-- times x^k -/
def mxk : Nat → Nat → Nat
  | 0, a => a
  | k + 1, a => mx (mxk k a)
theorem mxk_lin : ∀ k, Lin (mxk k)
  | 0 => fun _ _ => rfl
  | k + 1 => fun a b => by rw [mxk, mxk, mxk, mxk_lin k, mx_lin]
theorem mxk_lt (k : Nat) {a : Nat} (h : a < 256) : mxk k a < 256 := by
  induction k with
  | zero => exact h
  | succ k ih => exact mx_lt ih
theorem mxk_add (j k a : Nat) : mxk (j + k) a = mxk j (mxk k a) := by
  induction j with
  | zero => rw [Nat.zero_add]; rfl
  | succ j ih => rw [show j + 1 + k = j + k + 1 from by omega, mxk, mxk, ih]

/-- a number whose bits choose powers of x times a -/
def tB : Nat → Nat → Nat → Nat
  | 0, _, _ => 0
  | k + 1, a, b => tB k a b ^^^ (if b.testBit k then mxk k a else 0)
theorem tB_lin_b (a : Nat) : ∀ k, Lin (tB k a)
  | 0 => Rl.zero_lin
  | k + 1 => (tB_lin_b a k).xor (Rl.pick_lin (mxk k a) k)
theorem tB_lin_a (b : Nat) : ∀ k, Lin (fun a => tB k a b)
  | 0 => Rl.zero_lin
  | k + 1 => (tB_lin_a b k).xor (by
    cases b.testBit k
    · exact Rl.zero_lin
    · exact mxk_lin k)
theorem tB_lt (k : Nat) {a : Nat} (h : a < 256) (b : Nat) : tB k a b < 256 := by
  induction k with
  | zero => show (0 : Nat) < _; omega
  | succ k ih =>
    rw [tB]
    split
    · exact Nat.xor_lt_two_pow (n := 8) ih (mxk_lt k h)
    · rw [Nat.xor_zero]; exact ih

/-- P23: the product of two numbers -/
def M (a b : Nat) : Nat := tB 8 a b
theorem M_lt {a : Nat} (h : a < 256) (b : Nat) : M a b < 256 := tB_lt 8 h b
theorem M_lin_a (b : Nat) : Lin (fun a => M a b) := tB_lin_a b 8
theorem M_lin_b (a : Nat) : Lin (M a) := tB_lin_b a 8
theorem M_xor (a b c : Nat) : M a (b ^^^ c) = M a b ^^^ M a c := M_lin_b a b c
theorem xor_M (a b c : Nat) : M (a ^^^ b) c = M a c ^^^ M b c := M_lin_a c a b
theorem M_zero (a : Nat) : M a 0 = 0 := (M_lin_b a).zero
theorem zero_M (a : Nat) : M 0 a = 0 := (M_lin_a a).zero
theorem M_comm {a b : Nat} (ha : a < 256) (hb : b < 256) : M a b = M b a :=
  lin_ext (f := M a) (g := fun b => M b a) (M_lin_b a) (M_lin_a a) 8 (fun j hj =>
    lin_ext (f := fun a => M a (2 ^ j)) (g := M (2 ^ j)) (M_lin_a (2 ^ j)) (M_lin_b (2 ^ j)) 8 (fun i hi => by
      have h : ∀ j, j < 8 → ∀ i, i < 8 → M (2 ^ i) (2 ^ j) = M (2 ^ j) (2 ^ i) := by decide +kernel
      exact h j hj i hi) a ha) b hb
theorem M_assoc {a b c : Nat} (ha : a < 256) (hb : b < 256) (hc : c < 256) : M (M a b) c = M a (M b c) :=
  lin_ext (f := M (M a b)) (g := fun c => M a (M b c)) (M_lin_b _) ((M_lin_b a).comp (M_lin_b b)) 8 (fun k hk =>
    lin_ext (f := fun b => M (M a b) (2 ^ k)) (g := fun b => M a (M b (2 ^ k))) ((M_lin_a (2 ^ k)).comp (M_lin_b a)) ((M_lin_b a).comp (M_lin_a (2 ^ k))) 8 (fun j hj =>
      lin_ext (f := fun a => M (M a (2 ^ j)) (2 ^ k)) (g := fun a => M a (M (2 ^ j) (2 ^ k))) ((M_lin_a (2 ^ k)).comp (M_lin_a (2 ^ j))) (M_lin_a _) 8 (fun i hi => by
        have h : ∀ k, k < 8 → ∀ j, j < 8 → ∀ i, i < 8 → M (M (2 ^ i) (2 ^ j)) (2 ^ k) = M (2 ^ i) (M (2 ^ j) (2 ^ k)) := by decide +kernel
        exact h k hk j hj i hi) a ha) b hb) c hc
theorem M_one {a : Nat} (ha : a < 256) : M a 1 = a :=
  lin_ext (f := fun a => M a 1) (g := fun a => a) (M_lin_a 1) Rl.id_lin 8 (by decide +kernel) a ha
theorem one_M {a : Nat} (ha : a < 256) : M 1 a = a := by rw [M_comm (by omega) ha, M_one ha]
theorem two_M {a : Nat} (ha : a < 256) : M 2 a = mx a :=
  lin_ext (f := M 2) (g := mx) (M_lin_b 2) mx_lin 8 (by decide +kernel) a ha
theorem M_two {a : Nat} (ha : a < 256) : M a 2 = mx a := by rw [M_comm ha (by omega), two_M ha]
theorem mxk_M (k : Nat) {a : Nat} (ha : a < 256) : mxk k a = M (mxk k 1) a := by
  induction k with
  | zero => exact (one_M ha).symm
  | succ k ih =>
    have h1 := mxk_lt k (a := 1) (by omega)
    rw [mxk, mxk, ih, ← two_M (M_lt h1 a), ← two_M h1, M_assoc (by omega) h1 ha]

/-- squares of sums -/
theorem sq_xor {a b : Nat} (ha : a < 256) (hb : b < 256) : M (a ^^^ b) (a ^^^ b) = M a a ^^^ M b b := by
  rw [M_xor, xor_M, xor_M, M_comm hb ha, xor4, Nat.xor_comm (M a b) (M b b), ← Nat.xor_assoc, Nat.xor_assoc (M a a), ]
  rw [show M a a ^^^ (M a b ^^^ M b b) ^^^ M a b = M a a ^^^ M b b from by
    rw [Nat.xor_comm (M a b), ← Nat.xor_assoc, Nat.xor_assoc (M a a ^^^ M b b), Nat.xor_self, Nat.xor_zero]]

/-- the power 2^k, by squares -/
def sqk : Nat → Nat → Nat
  | 0, a => a
  | k + 1, a => M (sqk k a) (sqk k a)
/-- the power 254 -/
def inv (a : Nat) : Nat :=
  let b := M a a
  let c := M b b
  let d := M c c
  let e := M d d
  let f := M e e
  let g := M f f
  let h := M g g
  M b (M c (M d (M e (M f (M g h)))))
/-- what is asked of an inverse, by a search -/
def invs : Nat → Nat → Nat
  | 0, _ => 0
  | k + 1, a => if M a k = 1 then k else invs k a
theorem inv_ok : ∀ {a : Nat}, a < 256 → a ≠ 0 → inv a < 256 ∧ M a (inv a) = 1 := by
  have h : ∀ a, a < 256 → a ≠ 0 → inv a < 256 ∧ M a (inv a) = 1 := by decide +kernel
  exact fun {a} h1 h2 => h a h1 h2
theorem M_cancel {a b c : Nat} (ha : a < 256) (hb : b < 256) (hc : c < 256) (h0 : a ≠ 0) (h : M a b = M a c) : b = c := by
  obtain ⟨h1, h2⟩ := inv_ok ha h0
  have h3 : ∀ d, d < 256 → M (inv a) (M a d) = d := fun d hd => by
    rw [← M_assoc h1 ha hd, M_comm h1 ha, h2, one_M hd]
  rw [← h3 b hb, h, h3 c hc]
theorem M_eq_zero {a b : Nat} (ha : a < 256) (hb : b < 256) : M a b = 0 ↔ a = 0 ∨ b = 0 := by
  constructor
  · intro h
    by_cases h0 : a = 0
    · exact .inl h0
    · exact .inr (M_cancel ha hb (by omega) h0 (by rw [h, M_zero]))
  · rintro (h | h)
    · rw [h, zero_M]
    · rw [h, M_zero]
theorem inv_only {a b : Nat} (ha : a < 256) (hb : b < 256) (h : M a b = 1) : b = inv a := by
  have h0 : a ≠ 0 := fun h0 => by rw [h0, zero_M] at h; omega
  obtain ⟨h1, h2⟩ := inv_ok ha h0
  exact M_cancel ha hb h1 h0 (h.trans h2.symm)
theorem inv_zero : inv 0 = 0 := by decide +kernel

/-- P23: the power n -/
def P (a : Nat) : Nat → Nat
  | 0 => 1
  | n + 1 => M (P a n) a
theorem P_lt {a : Nat} (ha : a < 256) : ∀ n, P a n < 256
  | 0 => by show (1 : Nat) < _; omega
  | n + 1 => M_lt (P_lt ha n) a
theorem P_one {a : Nat} (ha : a < 256) : P a 1 = a := one_M ha
theorem P_add {a : Nat} (ha : a < 256) (n : Nat) : ∀ m, P a (n + m) = M (P a n) (P a m)
  | 0 => (M_one (P_lt ha n)).symm
  | m + 1 => by
    rw [← Nat.add_assoc, P, P_add ha n m, P, M_assoc (P_lt ha n) (P_lt ha m) ha]
theorem P_mul {a : Nat} (ha : a < 256) (n : Nat) : ∀ m, P a (n * m) = P (P a n) m
  | 0 => rfl
  | m + 1 => by rw [Nat.mul_succ, P_add ha, P_mul ha n m, P]
theorem P_two {a : Nat} (ha : a < 256) : P a 2 = M a a := by
  show M (M 1 a) a = M a a
  rw [one_M ha]
theorem P_sq {a : Nat} (ha : a < 256) (n : Nat) : P a (2 * n) = P (M a a) n := by rw [P_mul ha, P_two ha]
theorem P_M {a b : Nat} (ha : a < 256) (hb : b < 256) : ∀ n, P (M a b) n = M (P a n) (P b n)
  | 0 => (M_one (a := 1) (by omega)).symm
  | n + 1 => by
    have h1 := P_lt ha n
    have h2 := P_lt hb n
    rw [P, P_M ha hb n, P, P, M_assoc h1 h2 (M_lt ha b), M_assoc h1 ha (M_lt h2 b), ← M_assoc h2 ha hb, ← M_assoc ha h2 hb, M_comm h2 ha]
theorem zero_P : ∀ {n}, 0 < n → P 0 n = 0
  | _ + 1, _ => M_zero _
theorem sqk_P {a : Nat} (ha : a < 256) : ∀ k, sqk k a = P a (2 ^ k)
  | 0 => (P_one ha).symm
  | k + 1 => by rw [sqk, sqk_P ha k, Nat.pow_succ, P_mul ha, P_two (P_lt ha _)]
theorem sqk_lt {a : Nat} (ha : a < 256) (k : Nat) : sqk k a < 256 := by rw [sqk_P ha]; exact P_lt ha _
theorem sqk_xor {a b : Nat} (ha : a < 256) (hb : b < 256) : ∀ k, sqk k (a ^^^ b) = sqk k a ^^^ sqk k b
  | 0 => rfl
  | k + 1 => by rw [sqk, sqk, sqk, sqk_xor ha hb k, sq_xor (sqk_lt ha k) (sqk_lt hb k)]
/-- squared 8 times a number is itself -/
theorem sq8 : ∀ {a : Nat}, a < 256 → sqk 8 a = a := by
  have step : ∀ n, n ≤ 8 → ∀ a, a < 2 ^ n → sqk 8 a = a := by
    intro n
    induction n with
    | zero => intro _ a ha; obtain rfl : a = 0 := by simpa using ha
              decide +kernel
    | succ n ih =>
      intro hn a ha
      by_cases hlt : a < 2 ^ n
      · exact ih (by omega) a hlt
      · have hp : 2 ^ n ≤ 128 := Nat.pow_le_pow_right (i := n) (j := 7) (by omega) (by omega)
        have ht := Rl.top_xor (n := n) (x := a) (by omega) ha
        have e : a = (a ^^^ 2 ^ n) ^^^ 2 ^ n := by rw [Nat.xor_assoc, Nat.xor_self, Nat.xor_zero]
        have hb : ∀ n, n < 8 → sqk 8 (2 ^ n) = 2 ^ n := by decide +kernel
        rw [e, sqk_xor (by omega) (by omega), ih (by omega) _ ht, hb n (by omega)]
  exact fun {a} h => step 8 (by omega) a h
/-- FERMAT -/
theorem P_255 {a : Nat} (ha : a < 256) (h0 : a ≠ 0) : P a 255 = 1 := by
  have h1 : P a 256 = a := by have := sqk_P ha 8; rw [sq8 ha] at this; exact this.symm
  have h2 : M a (P a 255) = M a 1 := by rw [M_comm ha (P_lt ha _), M_one ha]; exact h1
  exact M_cancel ha (P_lt ha _) (by omega) h0 h2
theorem P_mod {a : Nat} (ha : a < 256) (h0 : a ≠ 0) (n : Nat) : P a n = P a (n % 255) := by
  have h := Nat.div_add_mod n 255
  have h1 : ∀ k, P 1 k = 1 := fun k => by
    induction k with
    | zero => rfl
    | succ k ih => rw [P, ih]; exact one_M (by omega)
  conv => lhs; rw [← h]
  rw [P_add ha, P_mul ha, P_255 ha h0, h1, one_M (P_lt ha _)]
theorem P_ne {a : Nat} (ha : a < 256) (h0 : a ≠ 0) : ∀ n, P a n ≠ 0
  | 0 => by show (1 : Nat) ≠ 0; omega
  | n + 1 => fun h => by
    rcases (M_eq_zero (P_lt ha n) ha).mp h with h | h
    · exact P_ne ha h0 n h
    · exact h0 h
theorem invs_spec {a : Nat} (ha : a < 256) (h0 : a ≠ 0) : ∀ k, inv a < k → k ≤ 256 → invs k a = inv a
  | 0, h, _ => by omega
  | k + 1, h, hk => by
    rw [invs]
    split
    · rename_i h1; exact inv_only ha (by omega) h1
    · rename_i h1
      refine invs_spec ha h0 k ?_ (by omega)
      have : inv a ≠ k := fun e => h1 (by rw [← e]; exact (inv_ok ha h0).2)
      omega

/-- the product, its bits one by one -/
def cl : Nat → Nat → Nat → Nat
  | 0, _, _ => 0
  | k + 1, a, b => cl k a b ^^^ (if b.testBit k then a * 2 ^ k else 0)
/-- a step of the remainder -/
def rs (i x : Nat) : Nat := if x.testBit i then x ^^^ 285 * 2 ^ (i - 8) else x
def rem : Nat → Nat → Nat
  | 0, x => x
  | k + 1, x => rem k (rs (k + 8) x)
theorem rs_lin (i : Nat) : Lin (rs i) := fun a b => by
  unfold rs
  rw [Nat.testBit_xor]
  cases a.testBit i <;> cases b.testBit i
  · simp
  · simp [Nat.xor_assoc]
  · simp only [Bool.true_bne, Bool.not_false, if_true]
    simp only [Bool.false_eq_true, if_false]
    rw [Nat.xor_assoc, Nat.xor_comm b, ← Nat.xor_assoc]
  · simp only [bne_self_eq_false, Bool.false_eq_true, if_false, if_true]
    rw [xor4, Nat.xor_self, Nat.xor_zero]
theorem rem_lin : ∀ k, Lin (rem k)
  | 0 => Rl.id_lin
  | k + 1 => (rem_lin k).comp (rs_lin (k + 8))
theorem mul_two_pow_xor (a b : Nat) : ∀ k, (a ^^^ b) * 2 ^ k = a * 2 ^ k ^^^ b * 2 ^ k
  | 0 => by simp
  | k + 1 => by
    have e : ∀ c : Nat, c * 2 ^ (k + 1) = 2 * (c * 2 ^ k) := fun c => by rw [Nat.pow_succ, ← Nat.mul_assoc, Nat.mul_comm]
    rw [e, e, e, mul_two_pow_xor a b k, Rl.two_mul_xor]
theorem cl_lin_b (a : Nat) : ∀ k, Lin (cl k a)
  | 0 => Rl.zero_lin
  | k + 1 => (cl_lin_b a k).xor (Rl.pick_lin (a * 2 ^ k) k)
theorem cl_lin_a (b : Nat) : ∀ k, Lin (fun a => cl k a b)
  | 0 => Rl.zero_lin
  | k + 1 => (cl_lin_a b k).xor (by
    cases b.testBit k
    · exact Rl.zero_lin
    · exact fun x y => mul_two_pow_xor x y k)
/-- the document's product: the remainder of the whole product -/
theorem M_rem {a b : Nat} (ha : a < 256) (hb : b < 256) : rem 8 (cl 8 a b) = M a b :=
  lin_ext (f := fun b => rem 8 (cl 8 a b)) (g := M a) ((rem_lin 8).comp (cl_lin_b a 8)) (M_lin_b a) 8 (fun j hj =>
    lin_ext (f := fun a => rem 8 (cl 8 a (2 ^ j))) (g := fun a => M a (2 ^ j)) ((rem_lin 8).comp (cl_lin_a (2 ^ j) 8)) (M_lin_a (2 ^ j)) 8 (fun i hi => by
      have h : ∀ j, j < 8 → ∀ i, i < 8 → rem 8 (cl 8 (2 ^ i) (2 ^ j)) = M (2 ^ i) (2 ^ j) := by decide +kernel
      exact h j hj i hi) a ha) b hb
end Fd
end Go.Proofs.YtoeohnknpbdgdaaDoor
