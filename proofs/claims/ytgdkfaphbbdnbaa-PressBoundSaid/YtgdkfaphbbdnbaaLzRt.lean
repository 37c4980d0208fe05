/-
  What readToken of package lz answers.
-/
import Derived.Test.YtgdkfaphbbdnbaaLzBox
import Derived.Laws.BitsAllLaws
namespace Go.Proofs.Ytgdkfaphbbdnbaa
open Go.RowKit
set_option maxRecDepth 4000

namespace Lz
/-- the first token: what it is, how many bytes it took, what is wrong with it -/
def rt : Bs → Tr × Nat × Nat
  | [] => (⟨0, 0, 0⟩, 0, 3)
  | [_] => (⟨0, 0, 0⟩, 0, 3)
  | [a, x] => if a = 0 then (⟨x, 0, 0⟩, 2, 0) else (⟨0, 0, 0⟩, 0, 3)
  | a :: x :: y :: _ => if a = 0 then (⟨x, 0, 0⟩, 2, 0) else
      if 1 ≤ x.toNat + 256 * y.toNat ∧ x.toNat + 256 * y.toNat ≤ 1024 then (⟨0, a.toNat, (x.toNat + 256 * y.toNat : Nat)⟩, 3, 0) else (⟨0, 0, 0⟩, 0, 4)
end Lz

theorem or_lo (x y : Nat) (hx : x < 256) : x ||| y * 256 = x + 256 * y := by
  have := Nat.two_pow_add_eq_or_of_lt (i := 8) (b := x) (by omega) y
  rw [Nat.or_comm, Nat.mul_comm y 256, Nat.add_comm x]
  exact this.symm
theorem i64_or_lo (x y : Nat) (hx : x < 256) (hy : y < 256) : bits .or .i64 (x : Int) ((y : Int) * 256) = ((x + 256 * y : Nat) : Int) := by
  rw [show (y : Int) * 256 = ((y * 256 : Nat) : Int) from by omega]
  show IntKind.i64.wrap ((BitVec.ofInt 64 (x : Int) ||| BitVec.ofInt 64 ((y * 256 : Nat) : Int)).toNat : Int) = _
  rw [BitVec.toNat_or, ofInt_u64 x (by omega), ofInt_u64 (y * 256) (by omega), or_lo x y hx]
  simp [IntKind.wrap, IntKind.bits, IntKind.signed]
  omega

set_option maxHeartbeats 1000000 in
theorem rt_letter (s : ByteArray) (x : UInt8) (w : World) (h : 2 ≤ s.size) (h0 : s[0] = 0) (h1 : s[1] = x) (hs : s.size ≤ 140737488351232) :
    Calls Try.prog 73 #[.string s] w fun e w' => e = .returned (.tuple #[tokV ⟨x, 0, 0⟩, .int .i64 2, .int .i64 0]) ∧ Below w.heap.size w w' := by
  go_enter Try.func73, Try.ntmps73
  go_wp2_with fail
  refine bodyPost_ret (v := .tuple #[tokV ⟨x, 0, 0⟩, .int .i64 2, .int .i64 0]) ?_ rfl ⟨rfl, (Below.refl _ w).alloc (Nat.le_refl _) _⟩
  simp [results, asAddr, go_sem, tokV]

set_option maxHeartbeats 1000000 in
theorem rt_short (s : ByteArray) (w : World) (h : 1 ≤ s.size) (hx : (s[0] = 0 ∧ s.size < 2) ∨ (¬ s[0] = 0 ∧ s.size < 3)) :
    Calls Try.prog 73 #[.string s] w fun e w' => e = .returned (.tuple #[tokV ⟨0, 0, 0⟩, .int .i64 0, .int .i64 3]) ∧ Below w.heap.size w w' := by
  rcases hx with ⟨h0, hx⟩ | ⟨h0, hx⟩
  · go_enter Try.func73, Try.ntmps73
    go_wp2_with fail
    refine bodyPost_ret (v := .tuple #[tokV ⟨0, 0, 0⟩, .int .i64 0, .int .i64 3]) ?_ rfl ⟨rfl, (Below.refl _ w).alloc (Nat.le_refl _) _⟩
    simp [results, asAddr, go_sem, tokV]
  · have hq : ((s[0].toNat : Int) == 0) = false := by rw [beq_eq_false_iff_ne]; intro e; exact h0 ((lit_nat _).2 e)
    go_enter Try.func73, Try.ntmps73
    go_wp2_with fail
    refine bodyPost_ret (v := .tuple #[tokV ⟨0, 0, 0⟩, .int .i64 0, .int .i64 3]) ?_ rfl ⟨rfl, (Below.refl _ w).alloc (Nat.le_refl _) _⟩
    simp [results, asAddr, go_sem, tokV]

set_option maxHeartbeats 1000000 in
theorem rt_copy (s : ByteArray) (d : Nat) (w : World) (h : 3 ≤ s.size) (hs : s.size ≤ 140737488351232) (h0 : ¬ s[0] = 0) (hd : s[1].toNat + 256 * s[2].toNat = d) (h1 : 1 ≤ d) (h2 : d ≤ 1024) :
    Calls Try.prog 73 #[.string s] w fun e w' => e = .returned (.tuple #[tokV ⟨0, s[0].toNat, d⟩, .int .i64 3, .int .i64 0]) ∧ Below w.heap.size w w' := by
  have hq : ((s[0].toNat : Int) == 0) = false := by rw [beq_eq_false_iff_ne]; intro e; exact h0 ((lit_nat _).2 e)
  have hor : bits .or .i64 (s[1].toNat : Int) ((s[2].toNat : Int) * 256) = (d : Int) := by
    rw [i64_or_lo _ _ s[1].toNat_lt s[2].toNat_lt, hd]
  have J1 : (1 : Int) < (s.size : Int) := by omega
  have J2 : (2 : Int) < (s.size : Int) := by omega
  have b0 := s[0].toNat_lt
  have b1 := s[1].toNat_lt
  have b2 := s[2].toNat_lt
  have hb := dist_any d
  rw [show Lz.dOK d = true from decide_eq_true ⟨by omega, by omega⟩] at hb
  clear hd
  go_enter Try.func73, Try.ntmps73
  go_wp2_with fail
  go_region
  all_goals go_wp2_with fail
  all_goals refine (hb _).mono ?_
  all_goals rintro e w2 ⟨rfl, rfl⟩
  all_goals go_wp2_with fail
  all_goals refine bodyPost_ret (v := .tuple #[tokV ⟨0, s[0].toNat, d⟩, .int .i64 3, .int .i64 0]) ?_ rfl ⟨rfl, ((Below.refl _ w).alloc (Nat.le_refl _) _).drew⟩
  all_goals simp [results, asAddr, go_sem, tokV]

set_option maxHeartbeats 1000000 in
theorem rt_form (s : ByteArray) (d : Nat) (w : World) (h : 3 ≤ s.size) (hs : s.size ≤ 140737488351232) (h0 : ¬ s[0] = 0) (hd : s[1].toNat + 256 * s[2].toNat = d) (h1 : ¬ (1 ≤ d ∧ d ≤ 1024)) :
    Calls Try.prog 73 #[.string s] w fun e w' => e = .returned (.tuple #[tokV ⟨0, 0, 0⟩, .int .i64 0, .int .i64 4]) ∧ Below w.heap.size w w' := by
  have hq : ((s[0].toNat : Int) == 0) = false := by rw [beq_eq_false_iff_ne]; intro e; exact h0 ((lit_nat _).2 e)
  have hor : bits .or .i64 (s[1].toNat : Int) ((s[2].toNat : Int) * 256) = (d : Int) := by
    rw [i64_or_lo _ _ s[1].toNat_lt s[2].toNat_lt, hd]
  have J1 : (1 : Int) < (s.size : Int) := by omega
  have J2 : (2 : Int) < (s.size : Int) := by omega
  have b0 := s[0].toNat_lt
  have b1 := s[1].toNat_lt
  have b2 := s[2].toNat_lt
  have hb := dist_any d
  rw [show Lz.dOK d = false from decide_eq_false (by omega)] at hb
  clear hd h1
  go_enter Try.func73, Try.ntmps73
  go_wp2_with fail
  go_region
  all_goals go_wp2_with fail
  all_goals refine (hb _).mono ?_
  all_goals rintro e w2 ⟨rfl, rfl⟩
  all_goals go_wp2_with fail
  all_goals refine bodyPost_ret (v := .tuple #[tokV ⟨0, 0, 0⟩, .int .i64 0, .int .i64 4]) ?_ rfl ⟨rfl, ((Below.refl _ w).alloc (Nat.le_refl _) _).drew⟩
  all_goals simp [results, asAddr, go_sem, tokV]

theorem rt_any (s : ByteArray) (w : World) (h : 1 ≤ s.size) (hs : s.size ≤ 140737488351232) :
    Calls Try.prog 73 #[.string s] w fun e w' => e = .returned (.tuple #[tokV (Lz.rt s.data.toList).1, .int .i64 (Lz.rt s.data.toList).2.1, .int .i64 (Lz.rt s.data.toList).2.2]) ∧ Below w.heap.size w w' := by
  have hl : s.data.toList.length = s.size := (Lib.size_eq s).symm
  have hg := byte_get s
  generalize s.data.toList = L at hl hg ⊢
  match L, hl with
  | [], hl => simp at hl; omega
  | [a], hl =>
    have hl : 1 = s.size := hl
    refine rt_short s w h ?_
    by_cases h0 : s[0] = 0
    · exact .inl ⟨h0, by omega⟩
    · exact .inr ⟨h0, by omega⟩
  | [a, x], hl =>
    have hl : 2 = s.size := hl
    have g0 : some a = some s[0] := hg 0 (by omega)
    have g1 : some x = some s[1] := hg 1 (by omega)
    have g0 : a = s[0] := by simpa using g0
    have g1 : x = s[1] := by simpa using g1
    by_cases h0 : a = 0
    · rw [show Lz.rt [a, x] = (⟨x, 0, 0⟩, 2, 0) from if_pos h0]
      exact rt_letter s x w (by omega) (by rw [← g0]; exact h0) g1.symm hs
    · rw [show Lz.rt [a, x] = (⟨0, 0, 0⟩, 0, 3) from if_neg h0]
      exact rt_short s w h (.inr ⟨by rw [← g0]; exact h0, by omega⟩)
  | a :: x :: y :: r, hl =>
    have hl : r.length + 3 = s.size := hl
    have g0 : some a = some s[0] := hg 0 (by omega)
    have g1 : some x = some s[1] := hg 1 (by omega)
    have g2 : some y = some s[2] := hg 2 (by omega)
    have g0 : a = s[0] := by simpa using g0
    have g1 : x = s[1] := by simpa using g1
    have g2 : y = s[2] := by simpa using g2
    by_cases h0 : a = 0
    · rw [show Lz.rt (a :: x :: y :: r) = (⟨x, 0, 0⟩, 2, 0) from if_pos h0]
      exact rt_letter s x w (by omega) (by rw [← g0]; exact h0) g1.symm hs
    · by_cases hd : 1 ≤ x.toNat + 256 * y.toNat ∧ x.toNat + 256 * y.toNat ≤ 1024
      · rw [show Lz.rt (a :: x :: y :: r) = (⟨0, a.toNat, (x.toNat + 256 * y.toNat : Nat)⟩, 3, 0) from (if_neg h0).trans (if_pos hd), g0]
        exact rt_copy s _ w (by omega) hs (by rw [← g0]; exact h0) (by rw [g1, g2]) hd.1 hd.2
      · rw [show Lz.rt (a :: x :: y :: r) = (⟨0, 0, 0⟩, 0, 4) from (if_neg h0).trans (if_neg hd)]
        exact rt_form s _ w (by omega) hs (by rw [← g0]; exact h0) (by rw [g1, g2]) hd
end Go.Proofs.Ytgdkfaphbbdnbaa
