/-
  What readBlock, digest, Sum and Narrow of package mix answer.
-/
import Derived.Test.YtkeckdfjgnacnaaMix
import Derived.Test.YtkeckdfjgnacnaaRefNarrow
namespace Go.Proofs.Ytkeckdfjgnacnaa
open Go.RowKit

theorem or_hi (a b : Nat) (hb : b < 256) : 256 * a ||| b = 256 * a + b := by
  have h := Nat.two_pow_add_eq_or_of_lt (i := 8) (b := b) (by simpa using hb) a
  simpa using h.symm
theorem hi_or (l : List UInt8) (i c b : Nat) (hc : c < 8) (hb : b = Mx.byteAt l (8 * i + (7 - c))) :
    bits .or .u64 (IntKind.u64.wrap ((Mx.hi l i c : Int) * 256)) (IntKind.u64.wrap (b : Int)) = (Mx.hi l i (c + 1) : Nat) := by
  have h1 := Mx.hi_lt l i (c + 1)
  have h2 : 256 ^ (c + 1) ≤ 256 ^ 8 := Nat.pow_le_pow_right (by omega) (by omega)
  have h3 : (256 : Nat) ^ 8 = 18446744073709551616 := by decide
  have h4 := Mx.byteAt_lt l (8 * i + (7 - c))
  rw [Mx.hi] at *
  rw [← hb] at *
  rw [show (Mx.hi l i c : Int) * 256 = ((256 * Mx.hi l i c : Nat) : Int) from by omega, wrap_u64 _ (by omega) (by omega), wrap_u64 _ (by omega) (by omega), u64_or_nat _ _ (by omega) (by omega), or_hi _ _ (by omega)]
theorem hi_past (l : List UInt8) : ∀ c, c + l.length ≤ 8 → Mx.hi l 0 c = 0
  | 0, _ => rfl
  | c + 1, h => by rw [Mx.hi, hi_past l c (by omega), Mx.byteAt_past (by omega)]
theorem byte_get (t : ByteArray) (k : Nat) (h : k < t.size) : t[k].toNat = Mx.byteAt t.data.toList k := by
  rw [Mx.byteAt, List.getD_eq_getElem?_getD, List.getElem?_eq_getElem (by simpa using h)]
  rfl

set_option maxHeartbeats 400000 in
theorem read_any (t : ByteArray) (w : World) (ht : t.size ≤ 8) :
    Calls Try.prog 23 #[.string t] w fun e w' => e = .returned (.int .u64 (Mx.blk t.data.toList 0 : Nat)) ∧ w' = w := by
  have hl : t.data.toList.length = t.size := by rw [← Lib.size_eq]
  have H0 : Hid (Mx.hi t.data.toList 0 (8 - t.size) = 0) := hi_past _ _ (by omega)
  have HB : Hid (∀ k (h : k < t.size), t[k].toNat = Mx.byteAt t.data.toList k) := byte_get t
  clear hl
  go_enter Try.func23, Try.ntmps23
  go_wp2
  go_loop [3, 4] (fun b i => ∃ d : Nat, d ≤ t.size ∧ i = .int .i64 ((t.size : Int) - 1 - (d : Int)) ∧ b = .int .u64 (Mx.hi t.data.toList 0 (8 - t.size + d) : Nat)) (fun _ i => (intOf i + 1).toNat)
  case atStart => exact ⟨0, by omega, int_eq (by omega), by rw [Nat.add_zero, H0.out]; rfl⟩
  case round =>
    obtain ⟨d, hd, rfl, rfl⟩ := hrel
    by_cases hlt : d < t.size
    · obtain ⟨k, hk⟩ : ∃ k, k = t.size - 1 - d := ⟨_, rfl⟩
      have hkI : (t.size : Int) - 1 - (d : Int) = (k : Int) := by omega
      have hkl : k < t.size := by omega
      have HO : Hid (bits .or .u64 (IntKind.u64.wrap ((Mx.hi t.data.toList 0 (8 - t.size + d) : Int) * 256)) (IntKind.u64.wrap (t[k].toNat : Int)) = (Mx.hi t.data.toList 0 (8 - t.size + d + 1) : Nat)) :=
        hi_or _ 0 _ _ (by omega) (by rw [HB.out k hkl, show 8 * 0 + (7 - (8 - t.size + d)) = k from by omega])
      go_wp2
      go_round
      case rel => subst hk; exact ⟨d + 1, by omega, int_eq (by omega), int_eq HO.out⟩
      case measure => simp only [intOf]; omega
    · obtain rfl : d = t.size := by omega
      go_wp2
      go_ret
      exact ⟨rfl, rfl⟩

theorem blk_of {l l' : List UInt8} {i i' : Nat} (h : ∀ j, j < 8 → Mx.byteAt l (8 * i + j) = Mx.byteAt l' (8 * i' + j)) : Mx.blk l i = Mx.blk l' i' := by
  have key : ∀ c, c ≤ 8 → Mx.hi l i c = Mx.hi l' i' c := by
    intro c
    induction c with
    | zero => intro _; rfl
    | succ c ih => intro hc; rw [Mx.hi, Mx.hi, ih (by omega), h (7 - c) (by omega)]
  exact key 8 (Nat.le_refl _)
theorem blk_extract (s : ByteArray) (i e : Nat) (he : e = min (8 * i + 8) s.size) : Mx.blk (s.extract (8 * i) e).data.toList 0 = Mx.blk s.data.toList i := by
  apply blk_of
  intro j hj
  have hl : s.data.toList.length = s.size := by rw [← Lib.size_eq]
  rw [Lib.extract_data, Nat.mul_zero, Nat.zero_add]
  unfold Mx.byteAt
  rw [List.getD_eq_getElem?_getD, List.getD_eq_getElem?_getD]
  by_cases h : 8 * i + j < s.size
  · rw [List.getElem?_take_of_lt (by omega), List.getElem?_drop]
  · rw [List.getElem?_eq_none (l := s.data.toList) (by omega), List.getElem?_eq_none (by rw [List.length_take]; omega)]
theorem kept_nat (W : Nat) (hW : W ≤ 64) : (18446744073709551615 : Int) / 2 ^ (64 - W) = ((2 ^ W - 1 : Nat) : Int) := by
  have h : (18446744073709551616 : Nat) = 2 ^ W * 2 ^ (64 - W) := by rw [← Nat.pow_add, show W + (64 - W) = 64 from by omega]
  have hp := Nat.two_pow_pos (64 - W)
  have hq := Nat.two_pow_pos W
  rw [show (2 : Int) ^ (64 - W) = ((2 ^ (64 - W) : Nat) : Int) from by simp, show (18446744073709551615 : Int) = ((18446744073709551615 : Nat) : Int) from rfl, ← Int.natCast_ediv]
  congr 1
  generalize 2 ^ (64 - W) = p at *
  generalize 2 ^ W = q at *
  apply Nat.div_eq_of_lt_le
  · rw [Nat.sub_mul, ← h, Nat.one_mul]; omega
  · rw [show q - 1 + 1 = q from by omega, ← h]; omega
theorem and_cut (W y : Nat) (hW : W ≤ 64) (hy : y < 18446744073709551616) : bits .and .u64 (y : Int) ((2 ^ W - 1 : Nat) : Int) = (Mx.cut W y : Nat) := by
  have hq : 2 ^ W ≤ 2 ^ 64 := Nat.pow_le_pow_right (by omega) hW
  have h64 : (2 : Nat) ^ 64 = 18446744073709551616 := by decide
  have hp := Nat.two_pow_pos W
  rw [u64_and_nat _ _ hy (by omega), Nat.and_two_pow_sub_one_eq_mod, Mx.cut]

set_option maxHeartbeats 1000000 in
theorem digest_any (W : Nat) (s : ByteArray) (w : World) (h1 : 1 ≤ W) (hW : W ≤ 64) (hs : s.size ≤ 140737488351232) :
    Calls Try.prog 17 #[.string s, .int .i64 W] w fun e w' => e = .returned (.int .u64 (Mx.narrow W s.data.toList : Nat)) ∧ Below w.heap.size w w' := by
  obtain ⟨n, hn⟩ : ∃ n, n = (s.size + 7) / 8 := ⟨_, rfl⟩
  have HN : Hid (Mx.narrow W s.data.toList = Mx.cut W (Mx.step (Mx.chain W s.data.toList n) s.size)) := by show _ = _; rw [Mx.narrow, hn, ← Lib.size_eq]
  have hk := kept_nat W hW
  have HAC : Hid (∀ y : Nat, y < 18446744073709551616 → bits .and .u64 (y : Int) ((2 ^ W - 1 : Nat) : Int) = (Mx.cut W y : Nat)) := fun y hy => and_cut W y hW hy
  generalize hK : 2 ^ W - 1 = K at *
  clear hK
  go_enter Try.func17, Try.ntmps17
  go_wp2_with fail
  go_loopw [6, 7] (fun x a wr => ∃ i : Nat, i ≤ n ∧ a = .int .i64 (8 * (i : Int)) ∧ x = .int .u64 (Mx.chain W s.data.toList i : Nat) ∧ Below w.heap.size w wr) (fun _ a _ => 8 * n - (intOf a).toNat)
  case atStart => exact ⟨0, by omega, rfl, rfl, Below.refl _ _⟩
  case round =>
    obtain ⟨i, hi, rfl, rfl, hbel⟩ := hrel
    have hX := Mx.chain_lt W s.data.toList i
    by_cases hlt : i < n
    · have hlI : 8 * (i : Int) < (s.size : Int) := by omega
      have hex : (s.extract (8 * i) (min (8 * (i : Int) + 8) (s.size : Int)).toNat).size ≤ 8 := by rw [ByteArray.size_extract]; omega
      have hbk := blk_extract s i (min (8 * (i : Int) + 8) (s.size : Int)).toNat (by omega)
      have hbl := Mx.blk_lt s.data.toList i
      have hac := HAC.out _ (Mx.step_lt (Mx.chain W s.data.toList i) (Mx.blk s.data.toList i))
      rw [← Mx.chain] at hac
      go_wp2_with fail
      refine (read_any _ _ hex).mono ?_
      rintro e w1 ⟨rfl, rfl⟩
      rw [hbk]
      go_wp2_with fail
      refine (step_any _ _ _ hX hbl).mono ?_
      rintro e w2 ⟨rfl, hb2⟩
      have hB2 := hbel.trans (hb2.mono hbel.size)
      clear hb2 hbel
      go_wp2_with fail
      go_round
      case rel => exact ⟨i + 1, by omega, int_eq (by omega), rfl, hB2⟩
      case measure => simp only [intOf]; omega
    · have hac := HAC.out _ (Mx.step_lt (Mx.chain W s.data.toList i) s.size)
      rw [← show Mx.narrow W s.data.toList = Mx.cut W (Mx.step (Mx.chain W s.data.toList i) s.size) from by rw [HN.out, show n = i from by omega]] at hac
      have h8 : (s.size : Int) ≤ 8 * (i : Int) := by omega
      clear hn hlt hi
      have hsl : s.size < 18446744073709551616 := by omega
      go_wp2_with fail
      refine (step_any (Mx.chain W s.data.toList i) s.size wr hX hsl).mono ?_
      rintro e w2 ⟨rfl, hb2⟩
      have hB2 := hbel.trans (hb2.mono hbel.size)
      clear hb2 hbel
      go_wp2_with fail
      go_ret
      exact ⟨rfl, hB2⟩

set_option maxHeartbeats 400000 in
theorem sum_any (s : ByteArray) (w : World) (hs : s.size ≤ 140737488351232) :
    Calls Try.prog 12 #[.string s] w fun e w' => e = .returned (.int .u64 (Mx.narrow 64 s.data.toList : Nat)) ∧ Below w.heap.size w w' := by
  go_enter Try.func12, Try.ntmps12
  go_wp2_with fail
  refine (digest_any 64 s _ (by omega) (by omega) hs).mono ?_
  rintro e w2 ⟨rfl, hb2⟩
  go_wp2_with fail
  go_ret
  exact ⟨rfl, hb2⟩

set_option maxHeartbeats 400000 in
theorem narrow_in (W : Nat) (s : ByteArray) (w : World) (h1 : 1 ≤ W) (hW : W ≤ 64) (hs : s.size ≤ 140737488351232) :
    Calls Try.prog 7 #[.int .i64 W, .string s] w fun e w' => e = .returned (.tuple #[.int .u64 (Mx.narrow W s.data.toList : Nat), .int .i64 0]) ∧ Below w.heap.size w w' := by
  go_enter Try.func7, Try.ntmps7
  go_wp2_with fail
  refine (digest_any W s _ h1 hW hs).mono ?_
  rintro e w2 ⟨rfl, hb2⟩
  go_wp2_with fail
  go_ret2
  exact ⟨rfl, hb2⟩

set_option maxHeartbeats 400000 in
theorem narrow_out (W : Int) (s : ByteArray) (w : World) (ho : W < 1 ∨ 64 < W) :
    Calls Try.prog 7 #[.int .i64 W, .string s] w fun e w' => e = .returned (.tuple #[.int .u64 0, .int .i64 1]) ∧ Below w.heap.size w w' := by
  rcases ho with ho | ho
  · go_enter Try.func7, Try.ntmps7
    go_wp2_with fail
    go_ret2
    exact ⟨rfl, Below.refl _ _⟩
  · go_enter Try.func7, Try.ntmps7
    go_wp2_with fail
    go_ret2
    exact ⟨rfl, Below.refl _ _⟩
end Go.Proofs.Ytkeckdfjgnacnaa
