/-
  The walk of lumkeep.FieldPowers: it returns true.
-/
import Derived.Test.YtcnepdmeanldaaaFdPow
import Derived.Test.YtcnepdmeanldaaaWf32
namespace Go.Proofs.Ytcnepdmeanldaaa
open Go.RowKit
set_option maxRecDepth 4000

set_option maxHeartbeats 1000000 in
theorem fieldPowers_of (a b p s t u : Nat) (n m : Int) (x y z : Nat) (ha : a < 256) (hb : b < 256) (ht : t < 256) (hu : u < 256) (hs : s = t ^^^ u) (w : World) (hp : p = 1 ∨ a = 0)
    (c0 : ∀ W, Calls Try.prog 8 #[.int .u8 a, .int .i64 255] W fun e w' => e = .returned (.tuple #[.int .u8 p, .int .i64 0]) ∧ w' = W)
    (c1 : ∀ W, Calls Try.prog 13 #[.int .u8 ((a ^^^ b : Nat) : Int), .int .u8 ((a ^^^ b : Nat) : Int)] W fun e w' => e = .returned (.int .u8 s) ∧ w' = W)
    (c2 : ∀ W, Calls Try.prog 13 #[.int .u8 a, .int .u8 a] W fun e w' => e = .returned (.int .u8 t) ∧ w' = W)
    (c3 : ∀ W, Calls Try.prog 13 #[.int .u8 b, .int .u8 b] W fun e w' => e = .returned (.int .u8 u) ∧ w' = W)
    (c4 : 0 ≤ n → n ≤ 4611686018427387904 → ∀ W, Calls Try.prog 8 #[.int .u8 a, .int .i64 n] W fun e w' => e = .returned (.tuple #[.int .u8 x, .int .i64 0]) ∧ w' = W)
    (c5 : 0 ≤ m → m ≤ 4611686018427387903 → ∀ W, Calls Try.prog 8 #[.int .u8 a, .int .i64 m] W fun e w' => e = .returned (.tuple #[.int .u8 y, .int .i64 0]) ∧ w' = W)
    (c6 : 0 ≤ n → n ≤ 4611686018427387904 → 0 ≤ m → m ≤ 4611686018427387903 → ∀ W, Calls Try.prog 8 #[.int .u8 a, .int .i64 (n + m)] W fun e w' => e = .returned (.tuple #[.int .u8 z, .int .i64 0]) ∧ w' = W)
    (c7 : ∀ W, Calls Try.prog 13 #[.int .u8 x, .int .u8 y] W fun e w' => e = .returned (.int .u8 z) ∧ w' = W) :
    Calls Try.prog 5 #[.int .u8 a, .int .u8 b, .int .i64 n, .int .i64 m] w fun e w' => e = .returned (.bool true) ∧ Below w.heap.size w w' := by
  have hx := u8_xor_nat a b ha hb
  have hx2 : bits .xor .u8 (t : Int) (u : Int) = (s : Int) := by rw [u8_xor_nat t u (by omega) (by omega), hs]
  have HP : Hid (((p : Int) != 1) = false ∨ (((p : Int) != 1) = true ∧ ((a : Int) != 0) = false)) := by
    by_cases h : p = 1
    · exact .inl (by rw [h]; rfl)
    · refine .inr ⟨by rw [bne_iff_ne]; omega, ?_⟩
      obtain rfl : a = 0 := by omega
      rfl
  clear hp hs ht hu hb
  rcases HP.out with hq | ⟨hq, hq2⟩
  · clear HP
    by_cases h1 : n < 0
    · clear c4 c5 c6 c7
      go_enter Try.func5, Try.ntmps5
      go_wp2_with fail
      refine (c0 _).mono ?_
      rintro e u ⟨rfl, rfl⟩
      go_wp2_with fail
      refine (c1 _).mono ?_
      rintro e u ⟨rfl, rfl⟩
      go_wp2_with fail
      refine (c2 _).mono ?_
      rintro e u ⟨rfl, rfl⟩
      go_wp2_with fail
      refine (c3 _).mono ?_
      rintro e u ⟨rfl, rfl⟩
      go_wp2_with fail
      go_ret
      exact ⟨rfl, Below.refl _ _⟩
    by_cases h2 : m < 0
    · clear c4 c5 c6 c7
      go_enter Try.func5, Try.ntmps5
      go_wp2_with fail
      refine (c0 _).mono ?_
      rintro e u ⟨rfl, rfl⟩
      go_wp2_with fail
      refine (c1 _).mono ?_
      rintro e u ⟨rfl, rfl⟩
      go_wp2_with fail
      refine (c2 _).mono ?_
      rintro e u ⟨rfl, rfl⟩
      go_wp2_with fail
      refine (c3 _).mono ?_
      rintro e u ⟨rfl, rfl⟩
      go_wp2_with fail
      go_ret
      exact ⟨rfl, Below.refl _ _⟩
    by_cases h3 : 4611686018427387904 < n
    · clear c4 c5 c6 c7
      go_enter Try.func5, Try.ntmps5
      go_wp2_with fail
      refine (c0 _).mono ?_
      rintro e u ⟨rfl, rfl⟩
      go_wp2_with fail
      refine (c1 _).mono ?_
      rintro e u ⟨rfl, rfl⟩
      go_wp2_with fail
      refine (c2 _).mono ?_
      rintro e u ⟨rfl, rfl⟩
      go_wp2_with fail
      refine (c3 _).mono ?_
      rintro e u ⟨rfl, rfl⟩
      go_wp2_with fail
      go_ret
      exact ⟨rfl, Below.refl _ _⟩
    by_cases h4 : 4611686018427387903 < m
    · clear c4 c5 c6 c7
      go_enter Try.func5, Try.ntmps5
      go_wp2_with fail
      refine (c0 _).mono ?_
      rintro e u ⟨rfl, rfl⟩
      go_wp2_with fail
      refine (c1 _).mono ?_
      rintro e u ⟨rfl, rfl⟩
      go_wp2_with fail
      refine (c2 _).mono ?_
      rintro e u ⟨rfl, rfl⟩
      go_wp2_with fail
      refine (c3 _).mono ?_
      rintro e u ⟨rfl, rfl⟩
      go_wp2_with fail
      go_ret
      exact ⟨rfl, Below.refl _ _⟩
    have d4 := c4 (by omega) (by omega)
    have d5 := c5 (by omega) (by omega)
    have d6 := c6 (by omega) (by omega) (by omega) (by omega)
    clear c4 c5 c6
    go_enter Try.func5, Try.ntmps5
    go_wp2_with fail
    refine (c0 _).mono ?_
    rintro e u ⟨rfl, rfl⟩
    go_wp2_with fail
    refine (c1 _).mono ?_
    rintro e u ⟨rfl, rfl⟩
    go_wp2_with fail
    refine (c2 _).mono ?_
    rintro e u ⟨rfl, rfl⟩
    go_wp2_with fail
    refine (c3 _).mono ?_
    rintro e u ⟨rfl, rfl⟩
    go_wp2_with fail
    refine (d4 _).mono ?_
    rintro e u ⟨rfl, rfl⟩
    go_wp2_with fail
    refine (d5 _).mono ?_
    rintro e u ⟨rfl, rfl⟩
    go_wp2_with fail
    refine (d6 _).mono ?_
    rintro e u ⟨rfl, rfl⟩
    go_wp2_with fail
    refine (c7 _).mono ?_
    rintro e u ⟨rfl, rfl⟩
    go_wp2_with fail
    go_ret
    exact ⟨rfl, Below.refl _ _⟩
  · clear HP
    by_cases h1 : n < 0
    · clear c4 c5 c6 c7
      go_enter Try.func5, Try.ntmps5
      go_wp2_with fail
      refine (c0 _).mono ?_
      rintro e u ⟨rfl, rfl⟩
      go_wp2_with fail
      refine (c1 _).mono ?_
      rintro e u ⟨rfl, rfl⟩
      go_wp2_with fail
      refine (c2 _).mono ?_
      rintro e u ⟨rfl, rfl⟩
      go_wp2_with fail
      refine (c3 _).mono ?_
      rintro e u ⟨rfl, rfl⟩
      go_wp2_with fail
      go_ret
      exact ⟨rfl, Below.refl _ _⟩
    by_cases h2 : m < 0
    · clear c4 c5 c6 c7
      go_enter Try.func5, Try.ntmps5
      go_wp2_with fail
      refine (c0 _).mono ?_
      rintro e u ⟨rfl, rfl⟩
      go_wp2_with fail
      refine (c1 _).mono ?_
      rintro e u ⟨rfl, rfl⟩
      go_wp2_with fail
      refine (c2 _).mono ?_
      rintro e u ⟨rfl, rfl⟩
      go_wp2_with fail
      refine (c3 _).mono ?_
      rintro e u ⟨rfl, rfl⟩
      go_wp2_with fail
      go_ret
      exact ⟨rfl, Below.refl _ _⟩
    by_cases h3 : 4611686018427387904 < n
    · clear c4 c5 c6 c7
      go_enter Try.func5, Try.ntmps5
      go_wp2_with fail
      refine (c0 _).mono ?_
      rintro e u ⟨rfl, rfl⟩
      go_wp2_with fail
      refine (c1 _).mono ?_
      rintro e u ⟨rfl, rfl⟩
      go_wp2_with fail
      refine (c2 _).mono ?_
      rintro e u ⟨rfl, rfl⟩
      go_wp2_with fail
      refine (c3 _).mono ?_
      rintro e u ⟨rfl, rfl⟩
      go_wp2_with fail
      go_ret
      exact ⟨rfl, Below.refl _ _⟩
    by_cases h4 : 4611686018427387903 < m
    · clear c4 c5 c6 c7
      go_enter Try.func5, Try.ntmps5
      go_wp2_with fail
      refine (c0 _).mono ?_
      rintro e u ⟨rfl, rfl⟩
      go_wp2_with fail
      refine (c1 _).mono ?_
      rintro e u ⟨rfl, rfl⟩
      go_wp2_with fail
      refine (c2 _).mono ?_
      rintro e u ⟨rfl, rfl⟩
      go_wp2_with fail
      refine (c3 _).mono ?_
      rintro e u ⟨rfl, rfl⟩
      go_wp2_with fail
      go_ret
      exact ⟨rfl, Below.refl _ _⟩
    have d4 := c4 (by omega) (by omega)
    have d5 := c5 (by omega) (by omega)
    have d6 := c6 (by omega) (by omega) (by omega) (by omega)
    clear c4 c5 c6
    go_enter Try.func5, Try.ntmps5
    go_wp2_with fail
    refine (c0 _).mono ?_
    rintro e u ⟨rfl, rfl⟩
    go_wp2_with fail
    refine (c1 _).mono ?_
    rintro e u ⟨rfl, rfl⟩
    go_wp2_with fail
    refine (c2 _).mono ?_
    rintro e u ⟨rfl, rfl⟩
    go_wp2_with fail
    refine (c3 _).mono ?_
    rintro e u ⟨rfl, rfl⟩
    go_wp2_with fail
    refine (d4 _).mono ?_
    rintro e u ⟨rfl, rfl⟩
    go_wp2_with fail
    refine (d5 _).mono ?_
    rintro e u ⟨rfl, rfl⟩
    go_wp2_with fail
    refine (d6 _).mono ?_
    rintro e u ⟨rfl, rfl⟩
    go_wp2_with fail
    refine (c7 _).mono ?_
    rintro e u ⟨rfl, rfl⟩
    go_wp2_with fail
    go_ret
    exact ⟨rfl, Below.refl _ _⟩

theorem fieldPowers_walk (a0 : Int) (a1 : Int) (a2 : Int) (a3 : Int) (w0 : (Lit.int .u8 a0).wf = true) (w1 : (Lit.int .u8 a1).wf = true) (w2 : (Lit.int .i64 a2).wf = true) (w3 : (Lit.int .i64 a3).wf = true) (w : World) :
    Calls Try.prog 5 #[.int .u8 a0, .int .u8 a1, .int .i64 a2, .int .i64 a3] w fun e w' => e = .returned (.bool true) ∧ Below w.heap.size w w' := by
  obtain ⟨a, rfl, ha⟩ := wf_byte w0
  obtain ⟨b, rfl, hb⟩ := wf_byte w1
  have k2 := wf_i64 w2
  have k3 := wf_i64 w3
  have hab : a ^^^ b < 256 := Nat.xor_lt_two_pow (n := 8) ha hb
  have hp : Fd.P a 255 = 1 ∨ a = 0 := by
    by_cases h : a = 0
    · exact .inr h
    · exact .inl (Fd.P_255 ha h)
  have c7 := fun W => mul_any (Fd.P a a2.toNat) (Fd.P a a3.toNat) W (Fd.P_lt ha _) (Fd.P_lt ha _)
  rw [← Fd.P_add ha] at c7
  refine fieldPowers_of a b _ _ _ _ a2 a3 _ _ _ ha hb (Fd.M_lt ha a) (Fd.M_lt hb b) (Fd.sq_xor ha hb) w hp (fun W => pow_any a 255 W ha (by omega)) (fun W => mul_any _ _ W hab hab) (fun W => mul_any a a W ha ha) (fun W => mul_any b b W hb hb) ?_ ?_ ?_ c7
  · intro h1 h2 W
    have := pow_any a a2.toNat W ha (by omega)
    rw [show ((a2.toNat : Nat) : Int) = a2 from by omega] at this
    exact this
  · intro h1 h2 W
    have := pow_any a a3.toNat W ha (by omega)
    rw [show ((a3.toNat : Nat) : Int) = a3 from by omega] at this
    exact this
  · intro h1 h2 h3 h4 W
    have := pow_any a (a2.toNat + a3.toNat) W ha (by omega)
    rw [show ((a2.toNat + a3.toNat : Nat) : Int) = a2 + a3 from by omega] at this
    exact this
end Go.Proofs.Ytcnepdmeanldaaa
