/-
  The walk of lumkeep.FieldAxioms: it returns true.
-/
import Derived.Test.YtcnepdmeanldaaaFdPow
namespace Go.Proofs.Ytcnepdmeanldaaa
open Go.RowKit
set_option maxRecDepth 4000

set_option maxHeartbeats 1000000 in
theorem fieldAxioms_of (a b c i p q r s t : Nat) (er : Int) (hb : b < 256) (hc : c < 256) (hp : p < 256) (ht : t < 256) (hs : s = p ^^^ t) (w : World)
    (hi : a = 0 ∧ er = 1 ∨ a ≠ 0 ∧ er = 0) (hz : p = 0 ↔ a = 0 ∨ b = 0)
    (c0 : ∀ W, Calls Try.prog 10 #[.int .u8 a] W fun e w' => e = .returned (.tuple #[.int .u8 i, .int .i64 er]) ∧ w' = W)
    (c1 : a ≠ 0 → ∀ W, Calls Try.prog 13 #[.int .u8 a, .int .u8 i] W fun e w' => e = .returned (.int .u8 1) ∧ w' = W)
    (c2 : ∀ W, Calls Try.prog 13 #[.int .u8 a, .int .u8 1] W fun e w' => e = .returned (.int .u8 a) ∧ w' = W)
    (c3 : ∀ W, Calls Try.prog 13 #[.int .u8 a, .int .u8 b] W fun e w' => e = .returned (.int .u8 p) ∧ w' = W)
    (c4 : ∀ W, Calls Try.prog 13 #[.int .u8 b, .int .u8 a] W fun e w' => e = .returned (.int .u8 p) ∧ w' = W)
    (c5 : ∀ W, Calls Try.prog 13 #[.int .u8 p, .int .u8 c] W fun e w' => e = .returned (.int .u8 q) ∧ w' = W)
    (c6 : ∀ W, Calls Try.prog 13 #[.int .u8 b, .int .u8 c] W fun e w' => e = .returned (.int .u8 r) ∧ w' = W)
    (c7 : ∀ W, Calls Try.prog 13 #[.int .u8 a, .int .u8 r] W fun e w' => e = .returned (.int .u8 q) ∧ w' = W)
    (c8 : ∀ W, Calls Try.prog 13 #[.int .u8 a, .int .u8 ((b ^^^ c : Nat) : Int)] W fun e w' => e = .returned (.int .u8 s) ∧ w' = W)
    (c9 : ∀ W, Calls Try.prog 13 #[.int .u8 a, .int .u8 c] W fun e w' => e = .returned (.int .u8 t) ∧ w' = W) :
    Calls Try.prog 4 #[.int .u8 a, .int .u8 b, .int .u8 c] w fun e w' => e = .returned (.bool true) ∧ Below w.heap.size w w' := by
  have hx := u8_xor_nat b c hb hc
  have hx2 : bits .xor .u8 (p : Int) (t : Int) = (s : Int) := by rw [u8_xor_nat p t (by omega) (by omega), hs]
  have HZ : Hid (p = 0 ↔ a = 0 ∨ b = 0) := hz
  clear hs hp ht hz
  rcases hi with ⟨h0, rfl⟩ | ⟨h0, rfl⟩
  · have hpz : p = 0 := HZ.out.2 (.inl h0)
    have hq : ((a : Int) == 0) = true := by rw [beq_iff_eq]; omega
    have hqp : ((p : Int) == 0) = true := by rw [beq_iff_eq]; omega
    clear HZ c1 h0 hpz hb hc
    go_enter Try.func4, Try.ntmps4
    go_wp2_with fail
    refine (c0 _).mono ?_
    rintro e u ⟨rfl, rfl⟩
    go_wp2_with fail
    refine (c2 _).mono ?_
    rintro e u ⟨rfl, rfl⟩
    go_wp2_with fail
    refine (c3 _).mono ?_
    rintro e u ⟨rfl, rfl⟩
    go_wp2_with fail
    refine (c4 _).mono ?_
    rintro e u ⟨rfl, rfl⟩
    go_wp2_with fail
    refine (c3 _).mono ?_
    rintro e u ⟨rfl, rfl⟩
    go_wp2_with fail
    refine (c5 _).mono ?_
    rintro e u ⟨rfl, rfl⟩
    go_wp2_with fail
    refine (c6 _).mono ?_
    rintro e u ⟨rfl, rfl⟩
    go_wp2_with fail
    refine (c7 _).mono ?_
    rintro e u ⟨rfl, rfl⟩
    go_wp2_with fail
    refine (c8 _).mono ?_
    rintro e u ⟨rfl, rfl⟩
    go_wp2_with fail
    refine (c3 _).mono ?_
    rintro e u ⟨rfl, rfl⟩
    go_wp2_with fail
    refine (c9 _).mono ?_
    rintro e u ⟨rfl, rfl⟩
    go_wp2_with fail
    refine (c3 _).mono ?_
    rintro e u ⟨rfl, rfl⟩
    go_wp2_with fail
    go_ret
    exact ⟨rfl, Below.refl _ _⟩
  · have c1' := c1 h0
    have hq : ((a : Int) == 0) = false := by rw [beq_eq_false_iff_ne]; omega
    clear c1 hc
    by_cases hb0 : b = 0
    · have hpz : p = 0 := HZ.out.2 (.inr hb0)
      have hqb : ((b : Int) == 0) = true := by rw [beq_iff_eq]; omega
      have hqp : ((p : Int) == 0) = true := by rw [beq_iff_eq]; omega
      clear HZ h0 hb0 hpz hb
      go_enter Try.func4, Try.ntmps4
      go_wp2_with fail
      refine (c0 _).mono ?_
      rintro e u ⟨rfl, rfl⟩
      go_wp2_with fail
      refine (c1' _).mono ?_
      rintro e u ⟨rfl, rfl⟩
      go_wp2_with fail
      refine (c2 _).mono ?_
      rintro e u ⟨rfl, rfl⟩
      go_wp2_with fail
      refine (c3 _).mono ?_
      rintro e u ⟨rfl, rfl⟩
      go_wp2_with fail
      refine (c4 _).mono ?_
      rintro e u ⟨rfl, rfl⟩
      go_wp2_with fail
      refine (c3 _).mono ?_
      rintro e u ⟨rfl, rfl⟩
      go_wp2_with fail
      refine (c5 _).mono ?_
      rintro e u ⟨rfl, rfl⟩
      go_wp2_with fail
      refine (c6 _).mono ?_
      rintro e u ⟨rfl, rfl⟩
      go_wp2_with fail
      refine (c7 _).mono ?_
      rintro e u ⟨rfl, rfl⟩
      go_wp2_with fail
      refine (c8 _).mono ?_
      rintro e u ⟨rfl, rfl⟩
      go_wp2_with fail
      refine (c3 _).mono ?_
      rintro e u ⟨rfl, rfl⟩
      go_wp2_with fail
      refine (c9 _).mono ?_
      rintro e u ⟨rfl, rfl⟩
      go_wp2_with fail
      refine (c3 _).mono ?_
      rintro e u ⟨rfl, rfl⟩
      go_wp2_with fail
      go_ret
      exact ⟨rfl, Below.refl _ _⟩
    · have hqb : ((b : Int) == 0) = false := by rw [beq_eq_false_iff_ne]; omega
      have hqp : ((p : Int) == 0) = false := by
        rw [beq_eq_false_iff_ne]
        intro h
        rcases HZ.out.1 (by omega) with h | h <;> omega
      clear HZ h0 hb0 hb
      go_enter Try.func4, Try.ntmps4
      go_wp2_with fail
      refine (c0 _).mono ?_
      rintro e u ⟨rfl, rfl⟩
      go_wp2_with fail
      refine (c1' _).mono ?_
      rintro e u ⟨rfl, rfl⟩
      go_wp2_with fail
      refine (c2 _).mono ?_
      rintro e u ⟨rfl, rfl⟩
      go_wp2_with fail
      refine (c3 _).mono ?_
      rintro e u ⟨rfl, rfl⟩
      go_wp2_with fail
      refine (c4 _).mono ?_
      rintro e u ⟨rfl, rfl⟩
      go_wp2_with fail
      refine (c3 _).mono ?_
      rintro e u ⟨rfl, rfl⟩
      go_wp2_with fail
      refine (c5 _).mono ?_
      rintro e u ⟨rfl, rfl⟩
      go_wp2_with fail
      refine (c6 _).mono ?_
      rintro e u ⟨rfl, rfl⟩
      go_wp2_with fail
      refine (c7 _).mono ?_
      rintro e u ⟨rfl, rfl⟩
      go_wp2_with fail
      refine (c8 _).mono ?_
      rintro e u ⟨rfl, rfl⟩
      go_wp2_with fail
      refine (c3 _).mono ?_
      rintro e u ⟨rfl, rfl⟩
      go_wp2_with fail
      refine (c9 _).mono ?_
      rintro e u ⟨rfl, rfl⟩
      go_wp2_with fail
      refine (c3 _).mono ?_
      rintro e u ⟨rfl, rfl⟩
      go_wp2_with fail
      go_ret
      exact ⟨rfl, Below.refl _ _⟩

theorem fieldAxioms_walk (a0 : Int) (a1 : Int) (a2 : Int) (w0 : (Lit.int .u8 a0).wf = true) (w1 : (Lit.int .u8 a1).wf = true) (w2 : (Lit.int .u8 a2).wf = true) (w : World) :
    Calls Try.prog 4 #[.int .u8 a0, .int .u8 a1, .int .u8 a2] w fun e w' => e = .returned (.bool true) ∧ Below w.heap.size w w' := by
  obtain ⟨a, rfl, ha⟩ := wf_byte w0
  obtain ⟨b, rfl, hb⟩ := wf_byte w1
  obtain ⟨c, rfl, hc⟩ := wf_byte w2
  have c2 := fun W => mul_any a 1 W ha (by omega)
  rw [Fd.M_one ha] at c2
  have c4 := fun W => mul_any b a W hb ha
  rw [Fd.M_comm hb ha] at c4
  have c5 := fun W => mul_any (Fd.M a b) c W (Fd.M_lt ha b) hc
  rw [Fd.M_assoc ha hb hc] at c5
  have hbc : b ^^^ c < 256 := Nat.xor_lt_two_pow (n := 8) hb hc
  by_cases h0 : a = 0
  · have c0 := fun W => inv_bad W
    exact fieldAxioms_of a b c 0 _ _ _ _ _ 1 hb hc (Fd.M_lt ha b) (Fd.M_lt ha c) (Fd.M_xor a b c) w (.inl ⟨h0, rfl⟩) (Fd.M_eq_zero ha hb) (by rw [h0]; exact c0) (fun h => absurd h0 h) c2 (fun W => mul_any a b W ha hb) c4 c5 (fun W => mul_any b c W hb hc)
      (fun W => mul_any a (Fd.M b c) W ha (Fd.M_lt hb c)) (fun W => mul_any a (b ^^^ c) W ha hbc) (fun W => mul_any a c W ha hc)
  · have c1 := fun W => mul_any a (Fd.inv a) W ha (Fd.inv_ok ha h0).1
    rw [(Fd.inv_ok ha h0).2] at c1
    exact fieldAxioms_of a b c _ _ _ _ _ _ 0 hb hc (Fd.M_lt ha b) (Fd.M_lt ha c) (Fd.M_xor a b c) w (.inr ⟨h0, rfl⟩) (Fd.M_eq_zero ha hb) (fun W => inv_any a W ha h0) (fun _ => c1) c2 (fun W => mul_any a b W ha hb) c4 c5 (fun W => mul_any b c W hb hc)
      (fun W => mul_any a (Fd.M b c) W ha (Fd.M_lt hb c)) (fun W => mul_any a (b ^^^ c) W ha hbc) (fun W => mul_any a c W ha hc)
end Go.Proofs.Ytcnepdmeanldaaa
