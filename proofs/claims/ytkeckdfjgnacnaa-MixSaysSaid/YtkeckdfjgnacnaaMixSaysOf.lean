/-
  The walk of lumlaw.MixSays over what the calls answer: it returns true.
-/
import Derived.Test.YtkeckdfjgnacnaaMix
import Derived.Test.YtkeckdfjgnacnaaRefID
import Derived.Test.YtkeckdfjgnacnaaArrEq
namespace Go.Proofs.Ytkeckdfjgnacnaa
open Go.RowKit

theorem rstep_nat (x b : Nat) (w : World) (hx : x < 18446744073709551616) (hb : b < 18446744073709551616) :
    Calls Try.prog 10 #[.int .u64 x, .int .u64 b] w fun e w' => e = .returned (.int .u64 (Mx.step x b : Nat)) ∧ Below w.heap.size w w' := by
  have h := rstep_any x b w (by omega) (by omega) (by omega) (by omega)
  rw [Int.toNat_natCast, Int.toNat_natCast] at h
  exact h.mono fun e w' ⟨he, hw⟩ => ⟨he, hw ▸ Below.refl _ _⟩

set_option maxHeartbeats 1000000 in
theorem mixSays_in (x b y z n n64 : Nat) (D : Array Value) (W : Nat) (s : ByteArray) (h1 : 1 ≤ W) (h64 : W ≤ 64) (w : World)
    (hnar : ∀ V, Calls Try.prog 7 #[.int .i64 W, .string s] V fun e w' => e = .returned (.tuple #[.int .u64 n, .int .i64 0]) ∧ Below V.heap.size V w')
    (hr : ∀ V, Calls Try.prog 8 #[.int .i64 W, .string s] V fun e w' => e = .returned (.int .u64 n) ∧ Below V.heap.size V w')
    (e1 : ∀ V, Calls Try.prog 9 #[.int .u64 x, .int .u64 b] V fun e w' => e = .returned (.int .u64 y) ∧ Below V.heap.size V w')
    (e2 : ∀ V, Calls Try.prog 10 #[.int .u64 x, .int .u64 b] V fun e w' => e = .returned (.int .u64 y) ∧ Below V.heap.size V w')
    (e3 : ∀ V, Calls Try.prog 11 #[.int .u64 x, .int .u64 b] V fun e w' => e = .returned (.int .u64 z) ∧ Below V.heap.size V w')
    (e4 : ∀ V, Calls Try.prog 10 #[.int .u64 z, .int .u64 b] V fun e w' => e = .returned (.int .u64 x) ∧ Below V.heap.size V w')
    (hsum : ∀ V, Calls Try.prog 12 #[.string s] V fun e w' => e = .returned (.int .u64 n64) ∧ Below V.heap.size V w')
    (hr64 : ∀ V, Calls Try.prog 8 #[.int .i64 64, .string s] V fun e w' => e = .returned (.int .u64 n64) ∧ Below V.heap.size V w')
    (hid : ∀ V, Calls Try.prog 13 #[.string s] V fun e w' => e = .returned (.agg D) ∧ Below V.heap.size V w')
    (hrid : ∀ V, Calls Try.prog 14 #[.string s] V fun e w' => e = .returned (.agg D) ∧ Below V.heap.size V w')
    (heq : ∀ V, (Op.equalIn 10000 30 (.agg D) (.agg D)).run Try.prog V = .ok true V) :
    Calls Try.prog 3 #[.int .u64 x, .int .u64 b, .int .i64 W, .string s] w fun e w' => e = .returned (.bool true) ∧ Below w.heap.size w w' := by
  go_enter Try.func3, Try.ntmps3
  go_wp2_with fail
  refine (hnar _).mono ?_
  rintro e w1 ⟨rfl, hb1⟩
  have hB1 := hb1
  clear hb1
  go_wp2_with fail
  refine (hr _).mono ?_
  rintro e w2 ⟨rfl, hb2⟩
  have hB2 := hB1.trans (hb2.mono hB1.size)
  clear hb2 hB1
  go_wp2_with fail
  refine (e1 _).mono ?_
  rintro e w3 ⟨rfl, hb3⟩
  have hB3 := hB2.trans (hb3.mono hB2.size)
  clear hb3 hB2
  go_wp2_with fail
  refine (e2 _).mono ?_
  rintro e w4 ⟨rfl, hb4⟩
  have hB4 := hB3.trans (hb4.mono hB3.size)
  clear hb4 hB3
  go_wp2_with fail
  refine (e3 _).mono ?_
  rintro e w5 ⟨rfl, hb5⟩
  have hB5 := hB4.trans (hb5.mono hB4.size)
  clear hb5 hB4
  go_wp2_with fail
  refine (e4 _).mono ?_
  rintro e w6 ⟨rfl, hb6⟩
  have hB6 := hB5.trans (hb6.mono hB5.size)
  clear hb6 hB5
  go_wp2_with fail
  refine (hsum _).mono ?_
  rintro e w7 ⟨rfl, hb7⟩
  have hB7 := hB6.trans (hb7.mono hB6.size)
  clear hb7 hB6
  go_wp2_with fail
  refine (hr64 _).mono ?_
  rintro e w8 ⟨rfl, hb8⟩
  have hB8 := hB7.trans (hb8.mono hB7.size)
  clear hb8 hB7
  go_wp2_with fail
  refine (hid _).mono ?_
  rintro e w9 ⟨rfl, hb9⟩
  have hB9 := hB8.trans (hb9.mono hB8.size)
  clear hb9 hB8
  go_wp2_with fail
  refine (hrid _).mono ?_
  rintro e w10 ⟨rfl, hb10⟩
  have hB10 := hB9.trans (hb10.mono hB9.size)
  clear hb10 hB9
  go_wp2_with fail
  go_ret
  exact ⟨rfl, hB10⟩

set_option maxHeartbeats 1000000 in
theorem mixSays_low (x b y z n64 : Nat) (D : Array Value) (W : Int) (s : ByteArray) (ho : W < 1) (w : World)
    (hnar : ∀ V, Calls Try.prog 7 #[.int .i64 W, .string s] V fun e w' => e = .returned (.tuple #[.int .u64 0, .int .i64 1]) ∧ Below V.heap.size V w')
    (e1 : ∀ V, Calls Try.prog 9 #[.int .u64 x, .int .u64 b] V fun e w' => e = .returned (.int .u64 y) ∧ Below V.heap.size V w')
    (e2 : ∀ V, Calls Try.prog 10 #[.int .u64 x, .int .u64 b] V fun e w' => e = .returned (.int .u64 y) ∧ Below V.heap.size V w')
    (e3 : ∀ V, Calls Try.prog 11 #[.int .u64 x, .int .u64 b] V fun e w' => e = .returned (.int .u64 z) ∧ Below V.heap.size V w')
    (e4 : ∀ V, Calls Try.prog 10 #[.int .u64 z, .int .u64 b] V fun e w' => e = .returned (.int .u64 x) ∧ Below V.heap.size V w')
    (hsum : ∀ V, Calls Try.prog 12 #[.string s] V fun e w' => e = .returned (.int .u64 n64) ∧ Below V.heap.size V w')
    (hr64 : ∀ V, Calls Try.prog 8 #[.int .i64 64, .string s] V fun e w' => e = .returned (.int .u64 n64) ∧ Below V.heap.size V w')
    (hid : ∀ V, Calls Try.prog 13 #[.string s] V fun e w' => e = .returned (.agg D) ∧ Below V.heap.size V w')
    (hrid : ∀ V, Calls Try.prog 14 #[.string s] V fun e w' => e = .returned (.agg D) ∧ Below V.heap.size V w')
    (heq : ∀ V, (Op.equalIn 10000 30 (.agg D) (.agg D)).run Try.prog V = .ok true V) :
    Calls Try.prog 3 #[.int .u64 x, .int .u64 b, .int .i64 W, .string s] w fun e w' => e = .returned (.bool true) ∧ Below w.heap.size w w' := by
  go_enter Try.func3, Try.ntmps3
  go_wp2_with fail
  refine (hnar _).mono ?_
  rintro e w1 ⟨rfl, hb1⟩
  have hB1 := hb1
  clear hb1
  go_wp2_with fail
  refine (e1 _).mono ?_
  rintro e w2 ⟨rfl, hb2⟩
  have hB2 := hB1.trans (hb2.mono hB1.size)
  clear hb2 hB1
  go_wp2_with fail
  refine (e2 _).mono ?_
  rintro e w3 ⟨rfl, hb3⟩
  have hB3 := hB2.trans (hb3.mono hB2.size)
  clear hb3 hB2
  go_wp2_with fail
  refine (e3 _).mono ?_
  rintro e w4 ⟨rfl, hb4⟩
  have hB4 := hB3.trans (hb4.mono hB3.size)
  clear hb4 hB3
  go_wp2_with fail
  refine (e4 _).mono ?_
  rintro e w5 ⟨rfl, hb5⟩
  have hB5 := hB4.trans (hb5.mono hB4.size)
  clear hb5 hB4
  go_wp2_with fail
  refine (hsum _).mono ?_
  rintro e w6 ⟨rfl, hb6⟩
  have hB6 := hB5.trans (hb6.mono hB5.size)
  clear hb6 hB5
  go_wp2_with fail
  refine (hr64 _).mono ?_
  rintro e w7 ⟨rfl, hb7⟩
  have hB7 := hB6.trans (hb7.mono hB6.size)
  clear hb7 hB6
  go_wp2_with fail
  refine (hid _).mono ?_
  rintro e w8 ⟨rfl, hb8⟩
  have hB8 := hB7.trans (hb8.mono hB7.size)
  clear hb8 hB7
  go_wp2_with fail
  refine (hrid _).mono ?_
  rintro e w9 ⟨rfl, hb9⟩
  have hB9 := hB8.trans (hb9.mono hB8.size)
  clear hb9 hB8
  go_wp2_with fail
  go_ret
  exact ⟨rfl, hB9⟩

set_option maxHeartbeats 1000000 in
theorem mixSays_high (x b y z n64 : Nat) (D : Array Value) (W : Int) (s : ByteArray) (ho : 64 < W) (w : World)
    (hnar : ∀ V, Calls Try.prog 7 #[.int .i64 W, .string s] V fun e w' => e = .returned (.tuple #[.int .u64 0, .int .i64 1]) ∧ Below V.heap.size V w')
    (e1 : ∀ V, Calls Try.prog 9 #[.int .u64 x, .int .u64 b] V fun e w' => e = .returned (.int .u64 y) ∧ Below V.heap.size V w')
    (e2 : ∀ V, Calls Try.prog 10 #[.int .u64 x, .int .u64 b] V fun e w' => e = .returned (.int .u64 y) ∧ Below V.heap.size V w')
    (e3 : ∀ V, Calls Try.prog 11 #[.int .u64 x, .int .u64 b] V fun e w' => e = .returned (.int .u64 z) ∧ Below V.heap.size V w')
    (e4 : ∀ V, Calls Try.prog 10 #[.int .u64 z, .int .u64 b] V fun e w' => e = .returned (.int .u64 x) ∧ Below V.heap.size V w')
    (hsum : ∀ V, Calls Try.prog 12 #[.string s] V fun e w' => e = .returned (.int .u64 n64) ∧ Below V.heap.size V w')
    (hr64 : ∀ V, Calls Try.prog 8 #[.int .i64 64, .string s] V fun e w' => e = .returned (.int .u64 n64) ∧ Below V.heap.size V w')
    (hid : ∀ V, Calls Try.prog 13 #[.string s] V fun e w' => e = .returned (.agg D) ∧ Below V.heap.size V w')
    (hrid : ∀ V, Calls Try.prog 14 #[.string s] V fun e w' => e = .returned (.agg D) ∧ Below V.heap.size V w')
    (heq : ∀ V, (Op.equalIn 10000 30 (.agg D) (.agg D)).run Try.prog V = .ok true V) :
    Calls Try.prog 3 #[.int .u64 x, .int .u64 b, .int .i64 W, .string s] w fun e w' => e = .returned (.bool true) ∧ Below w.heap.size w w' := by
  go_enter Try.func3, Try.ntmps3
  go_wp2_with fail
  refine (hnar _).mono ?_
  rintro e w1 ⟨rfl, hb1⟩
  have hB1 := hb1
  clear hb1
  go_wp2_with fail
  refine (e1 _).mono ?_
  rintro e w2 ⟨rfl, hb2⟩
  have hB2 := hB1.trans (hb2.mono hB1.size)
  clear hb2 hB1
  go_wp2_with fail
  refine (e2 _).mono ?_
  rintro e w3 ⟨rfl, hb3⟩
  have hB3 := hB2.trans (hb3.mono hB2.size)
  clear hb3 hB2
  go_wp2_with fail
  refine (e3 _).mono ?_
  rintro e w4 ⟨rfl, hb4⟩
  have hB4 := hB3.trans (hb4.mono hB3.size)
  clear hb4 hB3
  go_wp2_with fail
  refine (e4 _).mono ?_
  rintro e w5 ⟨rfl, hb5⟩
  have hB5 := hB4.trans (hb5.mono hB4.size)
  clear hb5 hB4
  go_wp2_with fail
  refine (hsum _).mono ?_
  rintro e w6 ⟨rfl, hb6⟩
  have hB6 := hB5.trans (hb6.mono hB5.size)
  clear hb6 hB5
  go_wp2_with fail
  refine (hr64 _).mono ?_
  rintro e w7 ⟨rfl, hb7⟩
  have hB7 := hB6.trans (hb7.mono hB6.size)
  clear hb7 hB6
  go_wp2_with fail
  refine (hid _).mono ?_
  rintro e w8 ⟨rfl, hb8⟩
  have hB8 := hB7.trans (hb8.mono hB7.size)
  clear hb8 hB7
  go_wp2_with fail
  refine (hrid _).mono ?_
  rintro e w9 ⟨rfl, hb9⟩
  have hB9 := hB8.trans (hb9.mono hB8.size)
  clear hb9 hB8
  go_wp2_with fail
  go_ret
  exact ⟨rfl, hB9⟩
end Go.Proofs.Ytkeckdfjgnacnaa
