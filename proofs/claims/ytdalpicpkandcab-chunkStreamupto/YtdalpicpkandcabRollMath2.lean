/-
  Plain facts (no Go in here): squared 31 times a number is itself; a sum that rolls.
-/
import Derived.Test.YtdalpicpkandcabRollMath
namespace Go.Proofs.Ytdalpicpkandcab
namespace Rl

/-- what is linear below a bound is known there by its values at the powers of x -/
theorem lin_ext_on {N : Nat} {f g : Nat → Nat} (hf : ∀ x y, x < 2 ^ N → y < 2 ^ N → f (x ^^^ y) = f x ^^^ f y) (hg : ∀ x y, x < 2 ^ N → y < 2 ^ N → g (x ^^^ y) = g x ^^^ g y) :
    ∀ n, n ≤ N → (∀ i, i < n → f (2 ^ i) = g (2 ^ i)) → ∀ x, x < 2 ^ n → f x = g x
  | 0, _, _, x, hx => by
    obtain rfl : x = 0 := by simpa using hx
    have h1 := hf 0 0 (Nat.two_pow_pos _) (Nat.two_pow_pos _)
    have h2 := hg 0 0 (Nat.two_pow_pos _) (Nat.two_pow_pos _)
    rw [Nat.xor_self, Nat.xor_self] at h1 h2
    rw [h1, h2]
  | n + 1, hn, h, x, hx => by
    by_cases hlt : x < 2 ^ n
    · exact lin_ext_on hf hg n (by omega) (fun i hi => h i (by omega)) x hlt
    · have e : x = (x ^^^ 2 ^ n) ^^^ 2 ^ n := by rw [Nat.xor_assoc, Nat.xor_self, Nat.xor_zero]
      have ht := top_xor (by omega) hx
      have hb : 2 ^ n < 2 ^ N := Nat.pow_lt_pow_right (by omega) (by omega)
      rw [e, hf _ _ (by omega) hb, hg _ _ (by omega) hb, lin_ext_on hf hg n (by omega) (fun i hi => h i (by omega)) _ ht, h n (by omega)]

/-- squares by a table -/
def sqT : List Nat → Nat → Nat → Nat
  | [], _, _ => 0
  | c :: l, a, i => (if a.testBit i then c else 0) ^^^ sqT l a (i + 1)
theorem sqT_lin : ∀ l i, Lin (fun a => sqT l a i)
  | [], _ => zero_lin
  | c :: l, i => (pick_lin c i).xor (sqT_lin l (i + 1))
def sqTab : List Nat := [1, 4, 16, 64, 256, 1024, 4096, 16384, 65536, 262144, 1048576, 4194304, 16777216, 67108864, 268435456, 1073741824, 18, 72, 288, 1152, 4608, 18432, 73728, 294912, 1179648, 4718592, 18874368, 75497472, 301989888, 1207959552, 536870930]
theorem sqTab_at : ∀ i, i < 31 → mxk i (2 ^ i) = sqT sqTab (2 ^ i) 0 := by decide +kernel
theorem sq_T {a : Nat} (h : a < 2147483648) : sq a = T a a := by
  rw [sq, times_T (by omega) (by omega), rem_small h]
theorem sq_tab {a : Nat} (h : a < 2147483648) : sq a = sqT sqTab a 0 :=
  lin_ext_on (N := 31) (f := sq) (g := fun a => sqT sqTab a 0) (fun x y hx hy => sq_xor (by omega) (by omega)) (fun x y _ _ => sqT_lin sqTab 0 x y) 31 (Nat.le_refl _) (fun i hi => by
    have hb : 2 ^ i < 2 ^ 31 := Nat.pow_lt_pow_right (by omega) hi
    show sq (2 ^ i) = sqT sqTab (2 ^ i) 0
    rw [sq_T (by omega), T_pow _ _ (by omega), sqTab_at i hi]) a h
theorem sq_lt (a : Nat) : sq a < 2147483648 := times_lt a a
def sqk : Nat → Nat → Nat
  | 0, a => a
  | k + 1, a => sq (sqk k a)
def sqTk : Nat → Nat → Nat
  | 0, a => a
  | k + 1, a => sqT sqTab (sqTk k a) 0
theorem sqk_lt (k : Nat) {a : Nat} (h : a < 2147483648) : sqk k a < 2147483648 := by
  cases k with
  | zero => exact h
  | succ k => exact sq_lt _
theorem sqk_tab (k : Nat) {a : Nat} (h : a < 2147483648) : sqk k a = sqTk k a := by
  induction k with
  | zero => rfl
  | succ k ih => rw [sqk, sqTk, sq_tab (sqk_lt k h), ih]
theorem sqTk_lin : ∀ k, Lin (sqTk k)
  | 0 => id_lin
  | k + 1 => (sqT_lin sqTab 0).comp (sqTk_lin k)
theorem sqTk_31 : ∀ i, i < 31 → sqTk 31 (2 ^ i) = 2 ^ i := by decide +kernel
/-- FROBENIUS: the field has 2^31 numbers -/
theorem sqk_31 {a : Nat} (h : a < 2147483648) : sqk 31 a = a := by
  rw [sqk_tab 31 h]
  exact lin_ext (sqTk_lin 31) id_lin 31 sqTk_31 a h

/-- bytes put in, the oldest first, behind what stands in o -/
def ofA (o : Nat) (l : List UInt8) : Nat := l.foldl (fun o b => mxk 8 o ^^^ b.toNat) o
theorem byte_lt (b : UInt8) : b.toNat < 256 := b.toNat_lt
theorem step_rem {o : Nat} (h : o < 2147483648) (b : UInt8) : rem (o * 256 ^^^ b.toNat) = mxk 8 o ^^^ b.toNat := by
  have hb := byte_lt b
  rw [rem_lin, show (256 : Nat) = 2 ^ 8 from rfl, rem_shift 8 (by omega), rem_small h, rem_small (a := b.toNat) (by omega)]
theorem step_lt {o : Nat} (h : o < 2147483648) (b : UInt8) : mxk 8 o ^^^ b.toNat < 2147483648 := by
  have hb := byte_lt b
  exact Nat.xor_lt_two_pow (n := 31) (mxk_lt 8 h) (by omega)
theorem ofA_lt {o : Nat} (h : o < 2147483648) (l : List UInt8) : ofA o l < 2147483648 := by
  induction l generalizing o with
  | nil => exact h
  | cons b l ih => exact ih (step_lt h b)
theorem ofA_cons (o : Nat) (b : UInt8) (l : List UInt8) : ofA o (b :: l) = ofA (mxk 8 o ^^^ b.toNat) l := rfl
theorem ofA_append (o : Nat) (l m : List UInt8) : ofA o (l ++ m) = ofA (ofA o l) m := List.foldl_append
theorem ofA_from (l : List UInt8) : ∀ o, ofA o l = mxk (8 * l.length) o ^^^ ofA 0 l := by
  induction l with
  | nil => intro o; exact (Nat.xor_zero o).symm
  | cons b l ih =>
    intro o
    have h0 : mxk 8 0 = 0 := (mxk_lin 8).zero
    rw [ofA_cons, ofA_cons, ih, ih (mxk 8 0 ^^^ b.toNat), h0, Nat.zero_xor, mxk_lin, ← mxk_add, List.length_cons, show 8 * (l.length + 1) = 8 * l.length + 8 from by omega, Nat.xor_assoc]
theorem ofA_zeros (n : Nat) (l : List UInt8) : ofA 0 (List.replicate n 0 ++ l) = ofA 0 l := by
  induction n with
  | zero => rfl
  | succ n ih =>
    have h0 : mxk 8 0 = 0 := (mxk_lin 8).zero
    rw [List.replicate_succ, List.cons_append, ofA_cons, h0]
    exact ih
/-- P10: Push: one byte goes, one comes -/
theorem ofA_push (g b : UInt8) (l : List UInt8) (h : l.length = 15) : mxk 8 (ofA 0 (g :: l) ^^^ mxk 120 g.toNat) ^^^ b.toNat = ofA 0 (l ++ [b]) := by
  have h0 : mxk 8 0 = 0 := (mxk_lin 8).zero
  rw [ofA_cons, ofA_from, h, h0, Nat.zero_xor, ofA_append]
  show mxk 8 (mxk 120 g.toNat ^^^ ofA 0 l ^^^ mxk 120 g.toNat) ^^^ b.toNat = mxk 8 (ofA 0 l) ^^^ b.toNat
  rw [Nat.xor_comm (mxk 120 g.toNat) (ofA 0 l), Nat.xor_assoc, Nat.xor_self, Nat.xor_zero]
/-- P10 -/
def ofL (l : List UInt8) : Nat := ofA 0 (l.drop (l.length - 16))
theorem ofL_lt (l : List UInt8) : ofL l < 2147483648 := ofA_lt (by omega) _
/-- the sum of two texts' bits has the sum of both -/
theorem ofA_xor : ∀ (l m : List UInt8) (o p : Nat), l.length = m.length → ofA (o ^^^ p) (List.zipWith (fun a b => a ^^^ b) l m) = ofA o l ^^^ ofA p m
  | [], [], _, _, _ => rfl
  | a :: l, b :: m, o, p, h => by
    rw [List.zipWith_cons_cons, ofA_cons, ofA_cons, ofA_cons, mxk_lin, UInt8.toNat_xor, xor4]
    exact ofA_xor l m _ _ (by simpa using h)
theorem ofL_xor (l m : List UInt8) (h : l.length = m.length) : ofL (List.zipWith (fun a b => a ^^^ b) l m) = ofL l ^^^ ofL m := by
  have hz : (List.zipWith (fun a b => a ^^^ b) l m).length = l.length := by rw [List.length_zipWith]; omega
  rw [ofL, hz, List.drop_zipWith, ofL, ofL, ← h]
  exact ofA_xor _ _ 0 0 (by rw [List.length_drop, List.length_drop, h])
/-- the last sixteen bytes of what was pushed onto noughts -/
def lastL (l : List UInt8) : List UInt8 := (List.replicate 16 0 ++ l).drop l.length
theorem lastL_length (l : List UInt8) : (lastL l).length = 16 := by
  rw [lastL, List.length_drop, List.length_append, List.length_replicate]; omega
theorem lastL_sum (l : List UInt8) : ofA 0 (lastL l) = ofL l := by
  rw [lastL, ofL, List.drop_append, List.length_replicate, List.drop_replicate, ofA_zeros]
theorem lastL_snoc (l : List UInt8) (b : UInt8) : lastL (l ++ [b]) = (lastL l).tail ++ [b] := by
  rw [lastL, lastL, List.length_append, List.length_singleton, ← List.append_assoc, List.drop_append_of_le_length (by rw [List.length_append, List.length_replicate]; omega), List.tail_drop]
end Rl
end Go.Proofs.Ytdalpicpkandcab
