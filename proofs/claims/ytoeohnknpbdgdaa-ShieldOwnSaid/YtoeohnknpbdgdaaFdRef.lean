/-
  What Mul, Pow and Inv of the document's answer (package lumref) answer.
-/
import Derived.Test.YtoeohnknpbdgdaaFdPow
namespace Go.Proofs.Ytoeohnknpbdgdaa
open Go.RowKit
set_option maxRecDepth 4000

theorem xor_i64 (a b : Nat) (ha : a < 9223372036854775808) (hb : b < 9223372036854775808) : bits .xor .i64 (a : Int) (b : Int) = ((a ^^^ b : Nat) : Int) := by
  have hx : a ^^^ b < 2 ^ 63 := Nat.xor_lt_two_pow (by omega) (by omega)
  have e : ∀ c : Nat, c < 9223372036854775808 → (BitVec.ofInt 64 (c : Int)).toNat = c := fun c hc => by
    rw [BitVec.ofInt_natCast, BitVec.toNat_ofNat]; exact Nat.mod_eq_of_lt (by omega)
  show IntKind.i64.wrap ((BitVec.ofInt 64 (a : Int) ^^^ BitVec.ofInt 64 (b : Int)).toNat : Int) = _
  rw [BitVec.toNat_xor, e a ha, e b hb, IntKind.wrap_i64]
  omega
theorem bit_u8 (b k : Nat) (h : b < 256) : bits BinOp.and IntKind.u8 ((b : Int) / 2 ^ k) 1 = ((b / 2 ^ k % 2 : Nat) : Int) := by
  have hl := Nat.div_le_self b (2 ^ k)
  rw [show (b : Int) / 2 ^ k = ((b / 2 ^ k : Nat) : Int) from by simp, and1_u8 _ (by omega)]
theorem bit_i64 (b k : Nat) (h : b < 9223372036854775808) : bits BinOp.and IntKind.i64 ((b : Int) / 2 ^ k) 1 = ((b / 2 ^ k % 2 : Nat) : Int) := by
  have hl := Nat.div_le_self b (2 ^ k)
  rw [show (b : Int) / 2 ^ k = ((b / 2 ^ k : Nat) : Int) from by simp, and1_i64 _ (by omega)]
theorem shl_i64 (a k : Nat) (h : a * 2 ^ k < 9223372036854775808) : wrap64 ((a : Int) * 2 ^ k) = ((a * 2 ^ k : Nat) : Int) := by
  rw [show (a : Int) * 2 ^ k = ((a * 2 ^ k : Nat) : Int) from by simp, wrap64]
  omega
namespace Fd
theorem cl_in {a b k : Nat} (hb : b / 2 ^ k % 2 = 1) : cl (k + 1) a b = cl k a b ^^^ a * 2 ^ k := by
  rw [cl, Nat.testBit_eq_decide_div_mod_eq, if_pos (by simpa using hb)]
theorem cl_out {a b k : Nat} (hb : ¬ b / 2 ^ k % 2 = 1) : cl (k + 1) a b = cl k a b := by
  rw [cl, Nat.testBit_eq_decide_div_mod_eq, if_neg (by simpa using hb), Nat.xor_zero]
theorem sh_lt {a n k m : Nat} (ha : a < 2 ^ n) (hk : n + k ≤ m) : a * 2 ^ k < 2 ^ m := by
  have h1 : a * 2 ^ k < 2 ^ n * 2 ^ k := (Nat.mul_lt_mul_right (Nat.two_pow_pos k)).2 ha
  rw [← Nat.pow_add] at h1
  exact Nat.lt_of_lt_of_le h1 (Nat.pow_le_pow_right (by omega) hk)
theorem cl_lt {a b : Nat} (ha : a < 256) : ∀ k, k ≤ 8 → cl k a b < 65536
  | 0, _ => by show (0 : Nat) < _; omega
  | k + 1, h => by
    rw [cl]
    refine Nat.xor_lt_two_pow (n := 16) (cl_lt ha k (by omega)) ?_
    split
    · exact sh_lt (n := 8) ha (by omega)
    · omega
theorem rs_in {i x : Nat} (h : x / 2 ^ i % 2 = 1) : rs i x = x ^^^ 285 * 2 ^ (i - 8) := by
  rw [rs, Nat.testBit_eq_decide_div_mod_eq, if_pos (by simpa using h)]
theorem rs_out {i x : Nat} (h : ¬ x / 2 ^ i % 2 = 1) : rs i x = x := by
  rw [rs, Nat.testBit_eq_decide_div_mod_eq, if_neg (by simpa using h)]
theorem rs_lt {k x : Nat} (hk : k < 8) (h : x < 65536) : rs (k + 8) x < 65536 := by
  by_cases hb : x / 2 ^ (k + 8) % 2 = 1
  · rw [rs_in hb]
    refine Nat.xor_lt_two_pow (n := 16) h ?_
    exact sh_lt (n := 9) (by omega) (by omega)
  · rw [rs_out hb]; exact h
end Fd

set_option maxHeartbeats 1000000 in
theorem rmul_any (a b : Nat) (w : World) (ha : a < 256) (hb : b < 256) :
    Calls Try.prog 28 #[.int .u8 a, .int .u8 b] w fun e w' => e = .returned (.int .u8 (Fd.M a b : Nat)) ∧ w' = w := by
  have HC : Hid (∀ k, k ≤ 8 → Fd.cl k a b < 65536) := fun k hk => Fd.cl_lt ha k hk
  have HM : Hid (Fd.rem 8 (Fd.cl 8 a b) = Fd.M a b) := Fd.M_rem ha hb
  go_enter Try.func28, Try.ntmps28
  go_wp2_with fail
  go_loop [5, 8] (fun p i => ∃ k : Nat, k ≤ 8 ∧ i = .int .i64 k ∧ p = .int .i64 (Fd.cl k a b : Nat)) (fun _ i => 8 - (intOf i).toNat)
  case atStart => exact ⟨0, by omega, rfl, rfl⟩
  case round =>
    obtain ⟨k, hk, rfl, rfl⟩ := hrel
    by_cases hlt : k < 8
    · have hcl := HC.out k hk
      have hb1 := bit_u8 b k hb
      by_cases hc : b / 2 ^ k % 2 = 1
      · have hq : (bits BinOp.and IntKind.u8 ((b : Int) / 2 ^ k) 1 == 1) = true := by rw [hb1, hc]; rfl
        have hal : a * 2 ^ k < 65536 := Fd.sh_lt (n := 8) (m := 16) ha (by omega)
        have hs := shl_i64 a k (by omega)
        have hx := xor_i64 (Fd.cl k a b) (a * 2 ^ k) (by omega) (by omega)
        have HI : Hid (Fd.cl (k + 1) a b = Fd.cl k a b ^^^ a * 2 ^ k) := Fd.cl_in hc
        have HX : Hid (bits .xor .i64 (Fd.cl k a b : Int) (wrap64 ((a : Int) * 2 ^ k)) = ((Fd.cl (k + 1) a b : Nat) : Int)) := by show _ = _; rw [hs, hx, HI.out]
        clear hs hx hc HI hal hb1
        go_wp2_with fail
        go_round
        case rel => exact ⟨k + 1, by omega, by go_num, int_eq HX.out⟩
        case measure => simp [intOf]; omega
      · have hq : (bits BinOp.and IntKind.u8 ((b : Int) / 2 ^ k) 1 == 1) = false := by rw [hb1, show b / 2 ^ k % 2 = 0 from by omega]; rfl
        have HI : Hid (Fd.cl (k + 1) a b = Fd.cl k a b) := Fd.cl_out hc
        clear hc hb1
        go_wp2_with fail
        go_round
        case rel => exact ⟨k + 1, by omega, by go_num, by rw [HI.out]⟩
        case measure => simp [intOf]; omega
    · obtain rfl : k = 8 := by omega
      have hcl := HC.out 8 (by omega)
      clear HC
      generalize Fd.cl 8 a b = C at *
      go_wp2_with fail
      go_loop [5, 7] (fun p i => ∃ k x : Nat, k ≤ 8 ∧ i = .int .i64 ((k : Int) + 7) ∧ x < 65536 ∧ Hid (Fd.rem k x = Fd.M a b) ∧ p = .int .i64 (x : Nat)) (fun _ i => (intOf i).toNat)
      case atStart => exact ⟨8, C, by omega, rfl, hcl, HM, rfl⟩
      case round =>
        obtain ⟨k, x, hk, rfl, hx, HR, rfl⟩ := hrel
        by_cases hk0 : k = 0
        · subst hk0
          have HE : Hid (Fd.M a b = x) := HR.out.symm
          have hl := Fd.M_lt ha b
          rw [HE.out] at hl
          go_wp2_with fail
          go_ret
          exact ⟨ret_int (by rw [HE.out]), rfl⟩
        · obtain ⟨j, rfl⟩ : ∃ j, k = j + 1 := ⟨k - 1, by omega⟩
          have hi : ((j + 1 : Nat) : Int) + 7 = ((j + 8 : Nat) : Int) := by omega
          rw [hi]
          have hb1 := bit_i64 x (j + 8) (by omega)
          have HN : Hid (Fd.rem j (Fd.rs (j + 8) x) = Fd.M a b) := HR.out
          have hrl := Fd.rs_lt (k := j) (by omega) hx
          by_cases hc : x / 2 ^ (j + 8) % 2 = 1
          · have hq : (bits BinOp.and IntKind.i64 ((x : Int) / 2 ^ (j + 8)) 1 == 1) = true := by rw [hb1, hc]; rfl
            have hal : 285 * 2 ^ j < 131072 := Fd.sh_lt (n := 9) (m := 17) (by omega) (by omega)
            have hs := shl_i64 285 j (by omega)
            have hxx := xor_i64 x (285 * 2 ^ j) (by omega) (by omega)
            have HX : Hid (bits .xor .i64 (x : Int) (wrap64 (285 * 2 ^ j)) = ((Fd.rs (j + 8) x : Nat) : Int)) := by
              show _ = _
              rw [Fd.rs_in hc, show (285 : Int) = ((285 : Nat) : Int) from rfl, hs, hxx, show j + 8 - 8 = j from by omega]
            generalize Fd.rs (j + 8) x = y at *
            clear hs hxx hc hal hb1 HR
            have e8 : ((j + 8 : Nat) : Int) - 8 = (j : Int) := by omega
            go_wp2_with fail
            go_round
            case rel => exact ⟨j, y, by omega, int_eq (by omega), hrl, HN, int_eq HX.out⟩
            case measure => simp only [intOf]; omega
          · have hq : (bits BinOp.and IntKind.i64 ((x : Int) / 2 ^ (j + 8)) 1 == 1) = false := by rw [hb1, show x / 2 ^ (j + 8) % 2 = 0 from by omega]; rfl
            have HN2 : Hid (Fd.rem j x = Fd.M a b) := by
              have := HN.out
              rw [Fd.rs_out hc] at this
              exact this
            clear hc hb1 HR HN hrl
            go_wp2_with fail
            go_round
            case rel => exact ⟨j, x, by omega, int_eq (by omega), hx, HN2, rfl⟩
            case measure => simp only [intOf]; omega

set_option maxHeartbeats 1000000 in
theorem rinv_any (a : Nat) (w : World) (ha : a < 256) :
    Calls Try.prog 27 #[.int .u8 a] w fun e w' => e = .returned (.int .u8 (Fd.inv a : Nat)) ∧ w' = w := by
  have HN : Hid (a ≠ 0 → Fd.inv a < 256 ∧ Fd.M a (Fd.inv a) = 1) := fun h => Fd.inv_ok ha h
  have HZ : Hid (a = 0 → Fd.inv a = 0) := fun h => by rw [h]; exact Fd.inv_zero
  go_enter Try.func27, Try.ntmps27
  go_wp2_with fail
  go_loop [4] (fun i => ∃ k : Nat, k ≤ 256 ∧ i = .int .i64 k ∧ Hid (∀ j, j < k → Fd.M a j ≠ 1)) (fun i => 256 - (intOf i).toNat)
  case atStart => exact ⟨0, by omega, rfl, fun j h => by omega⟩
  case round =>
    obtain ⟨k, hk, rfl, HA⟩ := hrel
    by_cases hlt : k < 256
    · have hm := fun W => rmul_any a k W ha hlt
      by_cases he : Fd.M a k = 1
      · rw [he] at hm
        have HE : Hid (Fd.inv a = k) := (Fd.inv_only ha hlt he).symm
        clear he
        go_wp2_with fail
        refine (hm _).mono ?_
        rintro e w1 ⟨rfl, rfl⟩
        go_wp2_with fail
        go_ret
        exact ⟨ret_int (by rw [HE.out]), rfl⟩
      · have hq : ((Fd.M a k : Int) == 1) = false := by rw [beq_eq_false_iff_ne]; omega
        have HA2 : Hid (∀ j, j < k + 1 → Fd.M a j ≠ 1) := fun j hj => by
          by_cases h : j = k
          · subst h; exact he
          · exact HA.out j (by omega)
        generalize Fd.M a k = p at *
        clear he
        go_wp2_with fail
        refine (hm _).mono ?_
        rintro e w1 ⟨rfl, rfl⟩
        go_wp2_with fail
        go_round
        case rel => exact ⟨k + 1, by omega, by go_num, HA2⟩
        case measure => simp only [intOf]; omega
    · obtain rfl : k = 256 := by omega
      have HE : Hid (Fd.inv a = 0) := by
        by_cases h : a = 0
        · exact HZ.out h
        · obtain ⟨h1, h2⟩ := HN.out h
          exact absurd h2 (HA.out _ h1)
      go_wp2_with fail
      go_ret
      exact ⟨ret_int (by rw [HE.out]; rfl), rfl⟩
end Go.Proofs.Ytoeohnknpbdgdaa
