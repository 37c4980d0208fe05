/-
  The walk of lumkeep.RollField: it returns true.
-/
import Derived.Test.YtipoponlfedplaaRollT
import Derived.Test.YtipoponlfedplaaWf32
namespace Go.Proofs.Ytipoponlfedplaa
open Go.RowKit

theorem times_3 : Rl.times 3 1073741824 = 1073741833 := by decide +kernel

set_option maxHeartbeats 1000000 in
theorem rollField_of (a b c one p q r s t : Nat) (ha : a < 4294967296) (hb : b < 4294967296) (hc : c < 4294967296) (h1 : one < 2147483648) (hp : p < 2147483648) (ht : t < 2147483648) (hs : s = p ^^^ t) (ho : one = a ∨ a / 2147483648 = 1) (w : World)
    (c0 : ∀ W, Calls Try.prog 10 #[.int .u32 a, .int .u32 1] W fun e w' => e = .returned (.int .u32 one) ∧ w' = W)
    (c1 : ∀ W, Calls Try.prog 10 #[.int .u32 3, .int .u32 1073741824] W fun e w' => e = .returned (.int .u32 1073741833) ∧ w' = W)
    (c2 : ∀ W, Calls Try.prog 10 #[.int .u32 a, .int .u32 b] W fun e w' => e = .returned (.int .u32 p) ∧ w' = W)
    (c3 : ∀ W, Calls Try.prog 10 #[.int .u32 b, .int .u32 a] W fun e w' => e = .returned (.int .u32 p) ∧ w' = W)
    (c4 : ∀ W, Calls Try.prog 10 #[.int .u32 p, .int .u32 c] W fun e w' => e = .returned (.int .u32 q) ∧ w' = W)
    (c5 : ∀ W, Calls Try.prog 10 #[.int .u32 b, .int .u32 c] W fun e w' => e = .returned (.int .u32 r) ∧ w' = W)
    (c6 : ∀ W, Calls Try.prog 10 #[.int .u32 a, .int .u32 r] W fun e w' => e = .returned (.int .u32 q) ∧ w' = W)
    (c7 : ∀ W, Calls Try.prog 10 #[.int .u32 a, .int .u32 ((b ^^^ c : Nat) : Int)] W fun e w' => e = .returned (.int .u32 s) ∧ w' = W)
    (c8 : ∀ W, Calls Try.prog 10 #[.int .u32 a, .int .u32 c] W fun e w' => e = .returned (.int .u32 t) ∧ w' = W)
    (c9 : ∀ W, Calls Try.prog 10 #[.int .u32 one, .int .u32 b] W fun e w' => e = .returned (.int .u32 p) ∧ w' = W) :
    Calls Try.prog 4 #[.int .u32 a, .int .u32 b, .int .u32 c] w fun e w' => e = .returned (.bool true) ∧ Below w.heap.size w w' := by
  have hx := u32_xor_nat b c hb hc
  have hx2 : bits .xor .u32 (p : Int) (t : Int) = (s : Int) := by rw [u32_xor_nat p t (by omega) (by omega), hs]
  have hz : ((one : Int) / 2147483648 == 0) = true := by rw [beq_iff_eq]; omega
  have HO : Hid (((one : Int) == (a : Int)) = true ∨ (((one : Int) == (a : Int)) = false ∧ ((a : Int) / 2147483648 == 1) = true)) := by
    by_cases h : one = a
    · exact .inl (by rw [beq_iff_eq, h])
    · exact .inr ⟨by rw [beq_eq_false_iff_ne]; omega, by rw [beq_iff_eq]; omega⟩
  clear ho hs h1 hp ht
  go_enter Try.func4, Try.ntmps4
  go_wp2_with fail
  refine (c0 _).mono ?_
  rintro e w1 ⟨rfl, rfl⟩
  rcases HO.out with h | ⟨h, h'⟩
  · clear HO
    go_wp2_with fail
    refine (c1 _).mono ?_
    rintro e u0 ⟨rfl, rfl⟩
    go_wp2_with fail
    refine (c2 _).mono ?_
    rintro e u1 ⟨rfl, rfl⟩
    go_wp2_with fail
    refine (c3 _).mono ?_
    rintro e u2 ⟨rfl, rfl⟩
    go_wp2_with fail
    refine (c2 _).mono ?_
    rintro e u3 ⟨rfl, rfl⟩
    go_wp2_with fail
    refine (c4 _).mono ?_
    rintro e u4 ⟨rfl, rfl⟩
    go_wp2_with fail
    refine (c5 _).mono ?_
    rintro e u5 ⟨rfl, rfl⟩
    go_wp2_with fail
    refine (c6 _).mono ?_
    rintro e u6 ⟨rfl, rfl⟩
    go_wp2_with fail
    refine (c7 _).mono ?_
    rintro e u7 ⟨rfl, rfl⟩
    go_wp2_with fail
    refine (c2 _).mono ?_
    rintro e u8 ⟨rfl, rfl⟩
    go_wp2_with fail
    refine (c8 _).mono ?_
    rintro e u9 ⟨rfl, rfl⟩
    go_wp2_with fail
    refine (c9 _).mono ?_
    rintro e u10 ⟨rfl, rfl⟩
    go_wp2_with fail
    refine (c2 _).mono ?_
    rintro e u11 ⟨rfl, rfl⟩
    go_wp2_with fail
    go_ret
    exact ⟨rfl, Below.refl _ _⟩
  · clear HO
    go_wp2_with fail
    refine (c1 _).mono ?_
    rintro e u0 ⟨rfl, rfl⟩
    go_wp2_with fail
    refine (c2 _).mono ?_
    rintro e u1 ⟨rfl, rfl⟩
    go_wp2_with fail
    refine (c3 _).mono ?_
    rintro e u2 ⟨rfl, rfl⟩
    go_wp2_with fail
    refine (c2 _).mono ?_
    rintro e u3 ⟨rfl, rfl⟩
    go_wp2_with fail
    refine (c4 _).mono ?_
    rintro e u4 ⟨rfl, rfl⟩
    go_wp2_with fail
    refine (c5 _).mono ?_
    rintro e u5 ⟨rfl, rfl⟩
    go_wp2_with fail
    refine (c6 _).mono ?_
    rintro e u6 ⟨rfl, rfl⟩
    go_wp2_with fail
    refine (c7 _).mono ?_
    rintro e u7 ⟨rfl, rfl⟩
    go_wp2_with fail
    refine (c2 _).mono ?_
    rintro e u8 ⟨rfl, rfl⟩
    go_wp2_with fail
    refine (c8 _).mono ?_
    rintro e u9 ⟨rfl, rfl⟩
    go_wp2_with fail
    refine (c9 _).mono ?_
    rintro e u10 ⟨rfl, rfl⟩
    go_wp2_with fail
    refine (c2 _).mono ?_
    rintro e u11 ⟨rfl, rfl⟩
    go_wp2_with fail
    go_ret
    exact ⟨rfl, Below.refl _ _⟩

theorem rollField_walk (a0 : Int) (a1 : Int) (a2 : Int) (w0 : (Lit.int .u32 a0).wf = true) (w1 : (Lit.int .u32 a1).wf = true) (w2 : (Lit.int .u32 a2).wf = true) (w : World) :
    Calls Try.prog 4 #[.int .u32 a0, .int .u32 a1, .int .u32 a2] w fun e w' => e = .returned (.bool true) ∧ Below w.heap.size w w' := by
  obtain ⟨a, rfl, ha⟩ := wf_u32 w0
  obtain ⟨b, rfl, hb⟩ := wf_u32 w1
  obtain ⟨c, rfl, hc⟩ := wf_u32 w2
  have l := Rl.times_lt
  have c1 := fun W => times_any 3 1073741824 W (by omega) (by omega)
  rw [times_3] at c1
  have c3 := fun W => times_any b a W hb ha
  rw [Rl.times_comm hb ha] at c3
  have c4 := fun W => times_any (Rl.times a b) c W (by have := l a b; omega) hc
  rw [Rl.times_assoc ha hb hc] at c4
  have c0 := fun W => times_any a 1 W ha (by omega)
  rw [Rl.times_one ha] at c0
  have c9 := fun W => times_any (Rl.rem a) b W (by have := Rl.rem_lt a; omega) hb
  rw [Rl.times_rem ha hb] at c9
  exact rollField_of a b c _ _ _ _ _ _ ha hb hc (Rl.rem_lt a) (l a b) (l a c) (Rl.times_xor ha hb hc) (Rl.rem_or ha) w c0 c1 (fun W => times_any a b W ha hb) c3 c4 (fun W => times_any b c W hb hc)
    (fun W => times_any a (Rl.times b c) W ha (by have := l b c; omega)) (fun W => times_any a (b ^^^ c) W ha (Rl.xor_lt32 hb hc)) (fun W => times_any a c W ha hc) c9
end Go.Proofs.Ytipoponlfedplaa
