/-
  How many bits of a word are 1 (no Go in it), as math/bits counts them: pairs, fours, bytes side by side, then the bytes together.
-/
import Derived.Test.YtpagbihebahnnaaBmMath
namespace Go.Proofs.Ytpagbihebahnnaa
namespace Bm

/-- n bytes c -/
def rep (c : Nat) : Nat → Nat
  | 0 => 0
  | n + 1 => 256 * rep c n + c
theorem and_split {a b c d : Nat} (hb : b < 256) (hd : d < 256) : (256 * a + b) &&& (256 * c + d) = 256 * (a &&& c) + (b &&& d) := by
  have h1 : ((256 * a + b) &&& (256 * c + d)) / 2 ^ 8 = a &&& c := by
    rw [Nat.and_div_two_pow, show (256 * a + b) / 2 ^ 8 = a from by omega, show (256 * c + d) / 2 ^ 8 = c from by omega]
  have h2 : ((256 * a + b) &&& (256 * c + d)) % 2 ^ 8 = b &&& d := by
    rw [Nat.and_mod_two_pow, show (256 * a + b) % 2 ^ 8 = b from by omega, show (256 * c + d) % 2 ^ 8 = d from by omega]
  omega
def s1 (M x : Nat) : Nat := (x / 2 &&& M) + (x &&& M)
def s2 (M x : Nat) : Nat := (x / 4 &&& M) + (x &&& M)
def s3 (M x : Nat) : Nat := (x / 16 + x) &&& M
def t1 (c : Nat) : Nat := (c / 2 &&& 85) + (c &&& 85)
def t2 (c : Nat) : Nat := (c / 4 &&& 51) + (c &&& 51)
/-- how many bits of a byte are 1 -/
def pc (c : Nat) : Nat := (List.range 8).countP (c.testBit ·)
theorem top1 : ∀ e < 128, ∀ b < 2, (128 * b + e) &&& 85 = e &&& 85 := by decide
theorem top2 : ∀ e < 64, ∀ b < 4, (64 * b + e) &&& 51 = e &&& 51 := by decide
set_option maxRecDepth 20000 in
theorem byte_all : ∀ c < 256, t1 c < 256 ∧ t2 (t1 c) < 256 ∧ t2 (t1 c) % 16 ≤ 4 ∧ t2 (t1 c) / 16 ≤ 4 ∧ t2 (t1 c) / 16 + t2 (t1 c) % 16 = pc c ∧ pc c ≤ 8 := by decide
set_option maxRecDepth 20000 in
theorem low15 : ∀ u < 256, u &&& 15 = u % 16 := by decide
theorem s1_step (n h c : Nat) (hc : c < 256) : s1 (rep 85 (n + 1)) (256 * h + c) = 256 * s1 (rep 85 n) h + t1 c := by
  unfold s1 t1
  rw [rep, show (256 * h + c) / 2 = 256 * (h / 2) + (128 * (h % 2) + c / 2) from by omega, and_split (by omega) (by omega), and_split hc (by omega), top1 (c / 2) (by omega) (h % 2) (by omega)]
  omega
theorem s2_step (n h c : Nat) (hc : c < 256) : s2 (rep 51 (n + 1)) (256 * h + c) = 256 * s2 (rep 51 n) h + t2 c := by
  unfold s2 t2
  rw [rep, show (256 * h + c) / 4 = 256 * (h / 4) + (64 * (h % 4) + c / 4) from by omega, and_split (by omega) (by omega), and_split hc (by omega), top2 (c / 4) (by omega) (h % 4) (by omega)]
  omega
theorem s3_step (n h c : Nat) (hh : h % 16 ≤ 4) (h1 : c % 16 ≤ 4) (h2 : c / 16 ≤ 4) : s3 (rep 15 (n + 1)) (256 * h + c) = 256 * s3 (rep 15 n) h + (c / 16 + c % 16) := by
  unfold s3
  rw [rep, show (256 * h + c) / 16 + (256 * h + c) = 256 * (h / 16 + h) + (16 * (h % 16) + c / 16 + c) from by omega, and_split (by omega) (by omega), low15 _ (by omega)]
  omega
def g12 (n x : Nat) : Nat := s2 (rep 51 n) (s1 (rep 85 n) x)
def g (n x : Nat) : Nat := s3 (rep 15 n) (g12 n x)
theorem g12_step (n h c : Nat) (hc : c < 256) : g12 (n + 1) (256 * h + c) = 256 * g12 n h + t2 (t1 c) := by
  unfold g12
  rw [s1_step n h c hc, s2_step n _ _ (byte_all c hc).1]
theorem g12_low (n x : Nat) : g12 n x % 16 ≤ 4 := by
  cases n with
  | zero => unfold g12 rep s2; simp
  | succ n =>
    have e : x = 256 * (x / 256) + x % 256 := by omega
    have h := byte_all (x % 256) (by omega)
    rw [e, g12_step n _ _ (by omega)]
    omega
theorem g_step (n h c : Nat) (hc : c < 256) : g (n + 1) (256 * h + c) = 256 * g n h + pc c := by
  have h1 := byte_all c hc
  unfold g
  rw [g12_step n h c hc, s3_step n _ _ (g12_low n h) h1.2.2.1 h1.2.2.2.1, h1.2.2.2.2.1]
theorem g_zero (x : Nat) : g 0 x = 0 := by unfold g s3 rep; simp
/-- the bits of n bytes -/
def onesN (n x : Nat) : Nat := (List.range (8 * n)).countP (x.testBit ·)
theorem onesN_step (n h c : Nat) (hc : c < 256) : onesN (n + 1) (256 * h + c) = pc c + onesN n h := by
  unfold onesN pc
  rw [show 8 * (n + 1) = 8 + 8 * n from by omega, List.range_add, List.countP_append, List.countP_map]
  have e := Nat.testBit_two_pow_mul_add (i := 8) h (show c < 2 ^ 8 from hc)
  congr 1
  · refine List.countP_congr fun j hj => ?_
    have := List.mem_range.mp hj
    rw [show 256 * h + c = 2 ^ 8 * h + c from rfl, e, if_pos this]
  · refine List.countP_congr fun j _ => ?_
    show (256 * h + c).testBit (8 + j) = true ↔ _
    rw [show 256 * h + c = 2 ^ 8 * h + c from rfl, e, if_neg (by omega), show 8 + j - 8 = j from by omega]
theorem pc_le (c : Nat) (hc : c < 256) : pc c ≤ 8 := (byte_all c hc).2.2.2.2.2
/-- the last steps: the bytes together -/
theorem dv (a q r k : Nat) (h : a = k * q + r) (hr : r < k) : a / k = q := by
  rw [h, Nat.mul_add_div (by omega), Nat.div_eq_of_lt hr, Nat.add_zero]
theorem fold8 (p0 p1 p2 p3 p4 p5 p6 p7 y y1 y2 y3 : Nat) (h0 : p0 ≤ 8) (h1 : p1 ≤ 8) (h2 : p2 ≤ 8) (h3 : p3 ≤ 8) (h4 : p4 ≤ 8) (h5 : p5 ≤ 8) (h6 : p6 ≤ 8) (h7 : p7 ≤ 8)
    (hy : y = 256 * (256 * (256 * (256 * (256 * (256 * (256 * p7 + p6) + p5) + p4) + p3) + p2) + p1) + p0)
    (e1 : y1 = y + y / 256) (e2 : y2 = y1 + y1 / 65536) (e3 : y3 = y2 + y2 / 4294967296) :
    y < 18446744073709551616 ∧ y1 < 18446744073709551616 ∧ y2 < 18446744073709551616 ∧ y3 < 18446744073709551616 ∧ y3 % 128 = p0 + p1 + p2 + p3 + p4 + p5 + p6 + p7 := by
  have d1 := dv y (256 * (256 * (256 * (256 * (256 * (256 * p7 + p6) + p5) + p4) + p3) + p2) + p1) p0 256 hy (by omega)
  rw [d1, hy] at e1
  have d2 := dv y1 (256 * (256 * (256 * (256 * (256 * p7 + (p6 + p7)) + (p5 + p6)) + (p4 + p5)) + (p3 + p4)) + (p2 + p3)) (256 * (p1 + p2) + (p0 + p1)) 65536 (by rw [e1]; clear e1 hy d1; omega) (by omega)
  rw [d2, e1] at e2
  have d3 := dv y2 (256 * (256 * (256 * p7 + (p6 + p7)) + (p5 + p6 + p7)) + (p4 + p5 + p6 + p7)) (256 * (256 * (256 * (p3 + p4 + p5 + p6) + (p2 + p3 + p4 + p5)) + (p1 + p2 + p3 + p4)) + (p0 + p1 + p2 + p3)) 4294967296 (by rw [e2]; clear e1 e2 hy d1 d2; omega) (by clear e1 e2 e3 hy d1 d2; omega)
  rw [d3, e2] at e3
  have m : y3 = 128 * (2 * (256 * (256 * (256 * (256 * (256 * (256 * p7 + (p6 + p7)) + (p5 + p6 + p7)) + (p4 + p5 + p6 + p7)) + (p3 + p4 + p5 + p6 + p7)) + (p2 + p3 + p4 + p5 + p6 + p7)) + (p1 + p2 + p3 + p4 + p5 + p6 + p7))) + (p0 + p1 + p2 + p3 + p4 + p5 + p6 + p7) := by rw [e3]; clear e1 e2 e3 hy d1 d2 d3; omega
  refine ⟨by rw [hy]; clear e1 e2 e3 hy d1 d2 d3 m; omega, by rw [e1]; clear e1 e2 e3 hy d1 d2 d3 m; omega, by rw [e2]; clear e1 e2 e3 hy d1 d2 d3 m; omega, by rw [m]; clear e1 e2 e3 hy d1 d2 d3 m; omega, ?_⟩
  rw [m, Nat.mul_add_mod]
  exact Nat.mod_eq_of_lt (by clear e1 e2 e3 hy d1 d2 d3 m; omega)
/-- how math/bits counts -/
theorem swar (x : Nat) (y1 y2 y3 : Nat) (e1 : y1 = g 8 x + g 8 x / 256) (e2 : y2 = y1 + y1 / 65536) (e3 : y3 = y2 + y2 / 4294967296) :
    g 8 x < 18446744073709551616 ∧ y1 < 18446744073709551616 ∧ y2 < 18446744073709551616 ∧ y3 < 18446744073709551616 ∧ y3 % 128 = ones x ∧ ones x ≤ 64 := by
  obtain ⟨c0, x0, k0, q0⟩ : ∃ c z, c < 256 ∧ x = 256 * z + c := ⟨x % 256, x / 256, by omega, by omega⟩
  obtain ⟨c1, x1, k1, q1⟩ : ∃ c z, c < 256 ∧ x0 = 256 * z + c := ⟨x0 % 256, x0 / 256, by omega, by omega⟩
  obtain ⟨c2, x2, k2, q2⟩ : ∃ c z, c < 256 ∧ x1 = 256 * z + c := ⟨x1 % 256, x1 / 256, by omega, by omega⟩
  obtain ⟨c3, x3, k3, q3⟩ : ∃ c z, c < 256 ∧ x2 = 256 * z + c := ⟨x2 % 256, x2 / 256, by omega, by omega⟩
  obtain ⟨c4, x4, k4, q4⟩ : ∃ c z, c < 256 ∧ x3 = 256 * z + c := ⟨x3 % 256, x3 / 256, by omega, by omega⟩
  obtain ⟨c5, x5, k5, q5⟩ : ∃ c z, c < 256 ∧ x4 = 256 * z + c := ⟨x4 % 256, x4 / 256, by omega, by omega⟩
  obtain ⟨c6, x6, k6, q6⟩ : ∃ c z, c < 256 ∧ x5 = 256 * z + c := ⟨x5 % 256, x5 / 256, by omega, by omega⟩
  obtain ⟨c7, x7, k7, q7⟩ : ∃ c z, c < 256 ∧ x6 = 256 * z + c := ⟨x6 % 256, x6 / 256, by omega, by omega⟩
  have eg : g 8 x = 256 * (256 * (256 * (256 * (256 * (256 * (256 * pc c7 + pc c6) + pc c5) + pc c4) + pc c3) + pc c2) + pc c1) + pc c0 := by
    rw [q0, g_step 7 _ _ k0, q1, g_step 6 _ _ k1, q2, g_step 5 _ _ k2, q3, g_step 4 _ _ k3, q4, g_step 3 _ _ k4, q5, g_step 2 _ _ k5, q6, g_step 1 _ _ k6, q7, g_step 0 _ _ k7, g_zero, Nat.mul_zero, Nat.zero_add]
  have eo : ones x = pc c0 + (pc c1 + (pc c2 + (pc c3 + (pc c4 + (pc c5 + (pc c6 + (pc c7 + 0))))))) := by
    show onesN 8 x = _
    rw [q0, onesN_step 7 _ _ k0, q1, onesN_step 6 _ _ k1, q2, onesN_step 5 _ _ k2, q3, onesN_step 4 _ _ k3, q4, onesN_step 3 _ _ k4, q5, onesN_step 2 _ _ k5, q6, onesN_step 1 _ _ k6, q7, onesN_step 0 _ _ k7]
    rfl
  have b0 := pc_le c0 k0
  have b1 := pc_le c1 k1
  have b2 := pc_le c2 k2
  have b3 := pc_le c3 k3
  have b4 := pc_le c4 k4
  have b5 := pc_le c5 k5
  have b6 := pc_le c6 k6
  have b7 := pc_le c7 k7
  obtain ⟨f0, f1, f2, f3, f4⟩ := fold8 _ _ _ _ _ _ _ _ _ _ _ _ b0 b1 b2 b3 b4 b5 b6 b7 eg e1 e2 e3
  refine ⟨f0, f1, f2, f3, ?_, ?_⟩
  · rw [f4, eo]; simp only [Nat.add_zero, Nat.add_assoc]
  · rw [eo]; clear f0 f1 f2 f3 f4 eg eo e1 e2 e3; omega
theorem rep85 : rep 85 8 = 6148914691236517205 := by decide
theorem rep51 : rep 51 8 = 3689348814741910323 := by decide
theorem rep15 : rep 15 8 = 1085102592571150095 := by decide
end Bm
end Go.Proofs.Ytpagbihebahnnaa
