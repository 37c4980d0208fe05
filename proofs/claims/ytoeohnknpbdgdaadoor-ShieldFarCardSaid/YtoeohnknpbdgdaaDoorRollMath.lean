/-
  Plain facts (no Go in here): polynomials with coefficients 0 and 1 by the remainder of x^31 + x^3 + 1: products are those of a ring with 1, squares of sums are sums of squares.
-/
import Derived.WalkKit
namespace Go.Proofs.YtoeohnknpbdgdaaDoor
namespace Rl

def Lin (f : Nat → Nat) : Prop := ∀ x y, f (x ^^^ y) = f x ^^^ f y
theorem Lin.zero {f : Nat → Nat} (h : Lin f) : f 0 = 0 := by
  have := h 0 0
  rwa [Nat.xor_self, Nat.xor_self] at this
theorem Lin.comp {f g : Nat → Nat} (hf : Lin f) (hg : Lin g) : Lin (fun x => f (g x)) := fun x y => by
  show f (g (x ^^^ y)) = f (g x) ^^^ f (g y)
  rw [hg, hf]
theorem xor4 (a b c d : Nat) : a ^^^ b ^^^ (c ^^^ d) = a ^^^ c ^^^ (b ^^^ d) := by
  rw [Nat.xor_assoc, ← Nat.xor_assoc b c d, Nat.xor_comm b c, Nat.xor_assoc c b d, ← Nat.xor_assoc a c]
theorem Lin.xor {f g : Nat → Nat} (hf : Lin f) (hg : Lin g) : Lin (fun x => f x ^^^ g x) := fun x y => by
  show f (x ^^^ y) ^^^ g (x ^^^ y) = _
  rw [hf, hg, xor4]
theorem top_xor {n x : Nat} (h1 : 2 ^ n ≤ x) (h2 : x < 2 ^ (n + 1)) : x ^^^ 2 ^ n < 2 ^ n := by
  apply Nat.lt_pow_two_of_testBit
  intro i hi
  rw [Nat.testBit_xor, Nat.testBit_two_pow]
  by_cases he : n = i
  · subst he
    have : x.testBit n = true := by
      rw [Nat.testBit_eq_decide_div_mod_eq]
      have hp := Nat.two_pow_pos n
      have h3 : x / 2 ^ n = 1 := by
        apply Nat.div_eq_of_lt_le
        · omega
        · rw [Nat.pow_succ] at h2; omega
      simp [h3]
    simp [this]
  · have : x.testBit i = false := Nat.testBit_lt_two_pow (Nat.lt_of_lt_of_le h2 (Nat.pow_le_pow_right (by omega) (by omega)))
    simp [this, he]
/-- what is linear is known by its values at the powers of x -/
theorem lin_ext {f g : Nat → Nat} (hf : Lin f) (hg : Lin g) : ∀ n, (∀ i, i < n → f (2 ^ i) = g (2 ^ i)) → ∀ x, x < 2 ^ n → f x = g x
  | 0, _, x, hx => by
    obtain rfl : x = 0 := by simpa using hx
    rw [hf.zero, hg.zero]
  | n + 1, h, x, hx => by
    by_cases hlt : x < 2 ^ n
    · exact lin_ext hf hg n (fun i hi => h i (by omega)) x hlt
    · have e : x = (x ^^^ 2 ^ n) ^^^ 2 ^ n := by rw [Nat.xor_assoc, Nat.xor_self, Nat.xor_zero]
      rw [e, hf, hg, lin_ext hf hg n (fun i hi => h i (by omega)) _ (top_xor (by omega) hx), h n (by omega)]

/-- times x -/
def mx (a : Nat) : Nat := if a.testBit 30 then 2 * a ^^^ 2147483657 else 2 * a
theorem two_mul_xor (a b : Nat) : 2 * (a ^^^ b) = 2 * a ^^^ 2 * b := by
  apply Nat.eq_of_testBit_eq
  intro i
  cases i with
  | zero => simp
  | succ i =>
    have h : ∀ c : Nat, (2 * c).testBit (i + 1) = c.testBit i := fun c => by simp [Nat.testBit_succ]
    rw [Nat.testBit_xor, h, h, h, Nat.testBit_xor]
theorem mx_lin : Lin mx := fun a b => by
  unfold mx
  rw [Nat.testBit_xor, two_mul_xor]
  cases a.testBit 30 <;> cases b.testBit 30
  · simp
  · simp [Nat.xor_assoc]
  · simp only [Bool.true_bne, Bool.not_false, if_true]
    simp only [Bool.false_eq_true, if_false]
    rw [Nat.xor_assoc, Nat.xor_comm (2 * b), ← Nat.xor_assoc]
  · simp only [bne_self_eq_false, Bool.false_eq_true, if_false, if_true]
    rw [xor4, Nat.xor_self, Nat.xor_zero]
theorem mx_lt {a : Nat} (h : a < 2147483648) : mx a < 2147483648 := by
  unfold mx
  split
  · rename_i ht
    have h1 : 2 ^ 30 ≤ a := Nat.le_of_not_lt fun hl => by rw [Nat.testBit_lt_two_pow hl] at ht; exact Bool.noConfusion ht
    have h2 : 2 * a ^^^ 2147483657 = (2 * a ^^^ 2 ^ 31) ^^^ 9 := by rw [Nat.xor_assoc]; rfl
    rw [h2]
    exact Nat.xor_lt_two_pow (n := 31) (top_xor (by omega) (by omega)) (by decide)
  · rename_i ht
    have h1 : a < 2 ^ 30 := Nat.lt_of_not_le fun hl => by
      have : a.testBit 30 = true := by
        rw [Nat.testBit_eq_decide_div_mod_eq]
        have h3 : a / 2 ^ 30 = 1 := by omega
        simp [h3]
      exact ht this
    omega
/-- times x^k -/
def mxk : Nat → Nat → Nat
  | 0, a => a
  | k + 1, a => mx (mxk k a)
theorem mxk_lin : ∀ k, Lin (mxk k)
  | 0 => fun _ _ => rfl
  | k + 1 => fun a b => by rw [mxk, mxk, mxk, mxk_lin k, mx_lin]
theorem mxk_add (j k a : Nat) : mxk (j + k) a = mxk j (mxk k a) := by
  induction j with
  | zero => rw [Nat.zero_add]; rfl
  | succ j ih => rw [show j + 1 + k = j + k + 1 from by omega, mxk, mxk, ih]
theorem mxk_mx (k a : Nat) : mxk k (mx a) = mx (mxk k a) := by
  have h1 := mxk_add k 1 a
  have h2 := mxk_add 1 k a
  rw [Nat.add_comm] at h2
  exact h1.symm.trans h2
theorem mxk_comm (j k a : Nat) : mxk j (mxk k a) = mxk k (mxk j a) := by rw [← mxk_add, Nat.add_comm, mxk_add]
theorem mxk_lt (k : Nat) {a : Nat} (h : a < 2147483648) : mxk k a < 2147483648 := by
  induction k with
  | zero => exact h
  | succ k ih => exact mx_lt ih

/-- a number whose bits choose powers of x times a -/
def tB : Nat → Nat → Nat → Nat
  | 0, _, _ => 0
  | k + 1, a, b => tB k a b ^^^ (if b.testBit k then mxk k a else 0)
theorem pick_lin (c : Nat) (k : Nat) : Lin (fun b => if b.testBit k then c else 0) := fun a b => by
  show (if (a ^^^ b).testBit k then c else 0) = _
  rw [Nat.testBit_xor]
  show _ = (if a.testBit k then c else 0) ^^^ (if b.testBit k then c else 0)
  cases a.testBit k <;> cases b.testBit k <;> simp
theorem zero_lin : Lin (fun _ => 0) := fun _ _ => (Nat.xor_self 0).symm
theorem mx_zero : mx 0 = 0 := mx_lin.zero
theorem tB_lin_b (a : Nat) : ∀ k, Lin (tB k a)
  | 0 => zero_lin
  | k + 1 => (tB_lin_b a k).xor (pick_lin (mxk k a) k)
theorem tB_lin_a (b : Nat) : ∀ k, Lin (fun a => tB k a b)
  | 0 => zero_lin
  | k + 1 => (tB_lin_a b k).xor (by
    cases b.testBit k
    · exact zero_lin
    · exact mxk_lin k)
theorem tB_mx (k a b : Nat) : tB k (mx a) b = mx (tB k a b) := by
  induction k with
  | zero => exact mx_zero.symm
  | succ k ih =>
    rw [tB, tB, ih, mx_lin]
    cases b.testBit k
    · simp only [Bool.false_eq_true, if_false]; rw [mx_zero]
    · simp only [if_true]; rw [mxk_mx]
theorem tB_two (k a b : Nat) : tB (k + 1) a (2 * b) = mx (tB k a b) := by
  induction k with
  | zero => simp [tB]; rfl
  | succ k ih =>
    rw [tB, ih, tB, mx_lin, show (2 * b).testBit (k + 1) = b.testBit k from by simp [Nat.testBit_succ]]
    cases b.testBit k
    · simp only [Bool.false_eq_true, if_false]; rw [mx_zero]
    · rfl
theorem tB_more (a b m : Nat) (h : b < 2 ^ m) (d : Nat) : tB (m + d) a b = tB m a b := by
  induction d with
  | zero => rfl
  | succ d ih =>
    rw [← Nat.add_assoc, tB, ih, Nat.testBit_lt_two_pow (Nat.lt_of_lt_of_le h (Nat.pow_le_pow_right (by omega) (by omega)))]
    simp
theorem tB_pow (a i k : Nat) (h : i < k) : tB k a (2 ^ i) = mxk i a := by
  induction k with
  | zero => omega
  | succ k ih =>
    rw [tB, Nat.testBit_two_pow]
    by_cases hi : i = k
    · subst hi
      have h0 : ∀ m, m ≤ i → tB m a (2 ^ i) = 0 := by
        intro m
        induction m with
        | zero => intro _; rfl
        | succ m ihm => intro hm; rw [tB, ihm (by omega), Nat.testBit_two_pow]; simp; intro h; omega
      rw [h0 i (Nat.le_refl _)]
      simp
    · rw [ih (by omega)]
      simp [hi]
theorem tB_lt (k : Nat) {a : Nat} (h : a < 2147483648) (b : Nat) : tB k a b < 2147483648 := by
  induction k with
  | zero => show (0 : Nat) < _; omega
  | succ k ih =>
    rw [tB]
    split
    · exact Nat.xor_lt_two_pow (n := 31) ih (mxk_lt k h)
    · rw [Nat.xor_zero]; exact ih

/-- the remainder of a number of 64 bits -/
def rem (a : Nat) : Nat := tB 64 1 a
theorem rem_lin : Lin rem := tB_lin_b 1 64
theorem rem_lt (a : Nat) : rem a < 2147483648 := tB_lt 64 (by omega) a
theorem pw_small : ∀ i, i < 31 → mxk i 1 = 2 ^ i := by decide +kernel
theorem id_lin : Lin (fun x => x) := fun _ _ => rfl
theorem rem_small {a : Nat} (h : a < 2147483648) : rem a = a :=
  lin_ext rem_lin id_lin 31 (fun i hi => by
    show rem (2 ^ i) = 2 ^ i
    rw [rem, tB_pow _ _ _ (by omega), pw_small i hi]) a h
theorem rem_rem (a : Nat) : rem (rem a) = rem a := rem_small (rem_lt a)
theorem rem_two {a : Nat} (h : a < 2 ^ 63) : rem (2 * a) = mx (rem a) := by
  rw [rem, show (64 : Nat) = 63 + 1 from rfl, tB_two, rem, tB_more 1 a 63 h 1]
theorem rem_shift (k : Nat) {a : Nat} (h : a * 2 ^ k < 2 ^ 64) : rem (a * 2 ^ k) = mxk k (rem a) := by
  induction k with
  | zero => simp [mxk]
  | succ k ih =>
    have e : a * 2 ^ (k + 1) = 2 * (a * 2 ^ k) := by rw [Nat.pow_succ, ← Nat.mul_assoc, Nat.mul_comm]
    rw [e] at h ⊢
    rw [rem_two (by omega), ih (by omega), mxk]

/-- x^31 is x^3 + 1 -/
theorem mx31 {a : Nat} (h : a < 2147483648) : mxk 31 a = mxk 3 a ^^^ a :=
  lin_ext (f := mxk 31) (g := fun a => mxk 3 a ^^^ a) (mxk_lin 31) ((mxk_lin 3).xor id_lin) 31 (by decide +kernel) a h
theorem tB_modulus {a : Nat} (h : a < 2147483648) : tB 32 a 2147483657 = 0 := by
  have e : (2147483657 : Nat) = 2 ^ 31 ^^^ (2 ^ 3 ^^^ 2 ^ 0) := by decide
  rw [e, tB_lin_b, tB_lin_b, tB_pow _ _ _ (by omega), tB_pow _ _ _ (by omega), tB_pow _ _ _ (by omega), mx31 h]
  exact Nat.xor_self _

/-- the product of two remainders -/
def T (a b : Nat) : Nat := tB 32 a b
theorem T_lt {a : Nat} (h : a < 2147483648) (b : Nat) : T a b < 2147483648 := tB_lt 32 h b
theorem T_lin_a (b : Nat) : Lin (fun a => T a b) := tB_lin_a b 32
theorem T_lin_b (a : Nat) : Lin (T a) := tB_lin_b a 32
theorem T_mx_a (a b : Nat) : T (mx a) b = mx (T a b) := tB_mx 32 a b
theorem T_mxk_a (k a b : Nat) : T (mxk k a) b = mxk k (T a b) := by
  induction k with
  | zero => rfl
  | succ k ih => rw [mxk, T_mx_a, ih, mxk]
theorem T_mx_b {a b : Nat} (ha : a < 2147483648) (hb : b < 2147483648) : T a (mx b) = mx (T a b) := by
  have h2 : tB 32 a (2 * b) = mx (tB 32 a b) := by
    rw [show (32 : Nat) = 31 + 1 from rfl, tB_two, tB_more a b 31 hb 1]
  show tB 32 a (mx b) = mx (tB 32 a b)
  unfold mx
  split
  · rw [tB_lin_b, h2, tB_modulus ha, Nat.xor_zero]; rfl
  · exact h2
theorem T_mxk_b (k : Nat) {a b : Nat} (ha : a < 2147483648) (hb : b < 2147483648) : T a (mxk k b) = mxk k (T a b) := by
  induction k with
  | zero => rfl
  | succ k ih => rw [mxk, T_mx_b ha (mxk_lt k hb), ih, mxk]
theorem T_one (a : Nat) : T a 1 = a := tB_pow a 0 32 (by omega)
theorem T_pow (a i : Nat) (h : i < 32) : T a (2 ^ i) = mxk i a := tB_pow a i 32 h
theorem T_comm {a b : Nat} (ha : a < 2147483648) (hb : b < 2147483648) : T a b = T b a :=
  lin_ext (f := T a) (g := fun b => T b a) (T_lin_b a) (T_lin_a a) 31 (fun j hj => by
    show T a (2 ^ j) = T (2 ^ j) a
    exact lin_ext (f := fun a => T a (2 ^ j)) (g := T (2 ^ j)) (T_lin_a (2 ^ j)) (T_lin_b (2 ^ j)) 31 (fun i hi => by
      show T (2 ^ i) (2 ^ j) = T (2 ^ j) (2 ^ i)
      rw [T_pow _ _ (by omega), T_pow _ _ (by omega), ← pw_small i hi, ← pw_small j hj, mxk_comm]) a ha) b hb
theorem T_assoc {a b c : Nat} (ha : a < 2147483648) (hb : b < 2147483648) (hc : c < 2147483648) : T (T a b) c = T a (T b c) :=
  lin_ext (f := T (T a b)) (g := fun c => T a (T b c)) (T_lin_b _) ((T_lin_b a).comp (T_lin_b b)) 31 (fun k hk => by
    show T (T a b) (2 ^ k) = T a (T b (2 ^ k))
    rw [T_pow _ _ (by omega), T_pow _ _ (by omega), T_mxk_b k ha hb]) c hc
theorem T_rem_b {a y : Nat} (ha : a < 2147483648) (hy : y < 2 ^ 64) : T a (rem y) = tB 64 a y :=
  lin_ext (f := fun y => T a (rem y)) (g := tB 64 a) ((T_lin_b a).comp rem_lin) (tB_lin_b a 64) 64 (fun k hk => by
    show T a (rem (2 ^ k)) = tB 64 a (2 ^ k)
    rw [tB_pow _ _ _ hk, rem, tB_pow _ _ _ hk, T_mxk_b k ha (by omega), T_one]) y hy
theorem T_rem_b32 {a y : Nat} (ha : a < 2147483648) (hy : y < 4294967296) : T a (rem y) = T a y := by
  rw [T_rem_b ha (by omega), T]
  exact tB_more a y 32 hy 32

/-- the product, its bits one by one -/
def cl : Nat → Nat → Nat → Nat
  | 0, _, _ => 0
  | k + 1, a, b => cl k a b ^^^ (if b.testBit k then a * 2 ^ k else 0)
theorem cl_lt {a : Nat} (ha : a < 4294967296) (b : Nat) : ∀ k, k ≤ 32 → cl k a b < 2 ^ 64
  | 0, _ => by show (0 : Nat) < _; omega
  | k + 1, h => by
    rw [cl]
    split
    · refine Nat.xor_lt_two_pow (n := 64) (cl_lt ha b k (by omega)) ?_
      have h1 : 2 ^ k ≤ 2 ^ 31 := Nat.pow_le_pow_right (by omega) (by omega)
      have h2 : a * 2 ^ k ≤ 4294967295 * 2 ^ 31 := Nat.mul_le_mul (by omega) h1
      omega
    · rw [Nat.xor_zero]; exact cl_lt ha b k (by omega)
theorem rem_cl {a : Nat} (ha : a < 4294967296) (b : Nat) : ∀ k, k ≤ 32 → rem (cl k a b) = tB k (rem a) b
  | 0, _ => rem_lin.zero
  | k + 1, h => by
    rw [cl, tB, rem_lin, rem_cl ha b k (by omega)]
    split
    · have h1 : 2 ^ k ≤ 2 ^ 31 := Nat.pow_le_pow_right (by omega) (by omega)
      have h2 : a * 2 ^ k ≤ 4294967295 * 2 ^ 31 := Nat.mul_le_mul (by omega) h1
      rw [rem_shift k (by omega)]
    · rw [rem_lin.zero]
/-- P9 -/
def times (a b : Nat) : Nat := rem (cl 32 a b)
theorem times_T {a b : Nat} (ha : a < 4294967296) (hb : b < 4294967296) : times a b = T (rem a) (rem b) := by
  rw [times, rem_cl ha b 32 (by omega), T_rem_b32 (rem_lt a) hb]; rfl
theorem times_lt (a b : Nat) : times a b < 2147483648 := rem_lt _
theorem times_comm {a b : Nat} (ha : a < 4294967296) (hb : b < 4294967296) : times a b = times b a := by
  rw [times_T ha hb, times_T hb ha, T_comm (rem_lt _) (rem_lt _)]
theorem times_assoc {a b c : Nat} (ha : a < 4294967296) (hb : b < 4294967296) (hc : c < 4294967296) : times (times a b) c = times a (times b c) := by
  have h1 := times_lt a b
  have h2 := times_lt b c
  rw [times_T (a := times a b) (by omega) hc, times_T (b := times b c) ha (by omega), rem_small h1, rem_small h2, times_T ha hb, times_T hb hc, T_assoc (rem_lt _) (rem_lt _) (rem_lt _)]
theorem xor_lt32 {a b : Nat} (ha : a < 4294967296) (hb : b < 4294967296) : a ^^^ b < 4294967296 := Nat.xor_lt_two_pow (n := 32) ha hb
theorem times_xor {a b c : Nat} (ha : a < 4294967296) (hb : b < 4294967296) (hc : c < 4294967296) : times a (b ^^^ c) = times a b ^^^ times a c := by
  rw [times_T ha (xor_lt32 hb hc), times_T ha hb, times_T ha hc, rem_lin, T_lin_b]
theorem times_one {a : Nat} (ha : a < 4294967296) : times a 1 = rem a := by
  rw [times_T ha (by omega), rem_small (a := 1) (by omega), T_one]
theorem times_rem {a b : Nat} (ha : a < 4294967296) (hb : b < 4294967296) : times (rem a) b = times a b := by
  have h1 := rem_lt a
  rw [times_T (by omega) hb, times_T ha hb, rem_rem]
theorem rem_or {a : Nat} (ha : a < 4294967296) : rem a = a ∨ a / 2147483648 = 1 := by
  by_cases h : a < 2147483648
  · exact .inl (rem_small h)
  · exact .inr (by omega)

/-- FROBENIUS -/
def sq (a : Nat) : Nat := times a a
theorem sq_xor {a b : Nat} (ha : a < 4294967296) (hb : b < 4294967296) : sq (a ^^^ b) = sq a ^^^ sq b := by
  have h := xor_lt32 ha hb
  rw [sq, times_xor h ha hb, times_comm h ha, times_comm h hb, times_xor ha ha hb, times_xor hb ha hb, times_comm hb ha, xor4]
  show sq a ^^^ times a b ^^^ (times a b ^^^ sq b) = sq a ^^^ sq b
  rw [Nat.xor_assoc, ← Nat.xor_assoc (times a b), Nat.xor_self, Nat.zero_xor]
end Rl
end Go.Proofs.YtoeohnknpbdgdaaDoor
