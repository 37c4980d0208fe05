/-
  What Narrow of the document's answer (package lumref) answers.
-/
import Derived.Test.YtkeckdfjgnacnaaRefStep
import Derived.Test.YtkeckdfjgnacnaaMixSpec
import Derived.Test.YtkeckdfjgnacnaaRefWide
namespace Go.Proofs.Ytkeckdfjgnacnaa
open Go.RowKit

theorem pow_lt_64 {w : Nat} (h : w < 64) : 2 ^ w < 18446744073709551616 :=
  Nat.lt_of_lt_of_le (Nat.pow_lt_pow_right (a := 2) (by omega) h) (by decide)

set_option maxHeartbeats 400000 in
/-- the closure that keeps the lowest bits -/
theorem cut_any (y : Nat) (W : Nat) (p : Addr) (w : World) (hp : w.cell? p = some (.int .i64 W)) (hW : W ≤ 64) (hy : y < 18446744073709551616) (ha : p.spot = none) :
    Calls Try.prog 18 #[.int .u64 y, .pointer (some p)] w fun e w' => e = .returned (.int .u64 (Mx.cut W y)) ∧ w' = w := by
  obtain ⟨b, o, q⟩ := p
  simp only at ha
  subst ha
  by_cases h64 : W = 64
  · have hq : ((W : Int) == 64) = true := by rw [beq_iff_eq]; omega
    have HC : Hid (y = Mx.cut W y) := by show _ = _; rw [h64, Mx.cut_64 hy]
    clear h64
    go_enter Try.func18, Try.ntmps18
    go_wp2
    go_ret
    exact ⟨ret_int (by rw [← HC.out]), rfl⟩
  · have hq : ((W : Int) == 64) = false := by rw [beq_eq_false_iff_ne]; omega
    have hpow := pow_lt_64 (w := W) (by omega)
    have hpos := Nat.two_pow_pos W
    have hw : IntKind.u64.wrap (2 ^ W) = ((2 ^ W : Nat) : Int) := by
      rw [show (2 : Int) ^ W = ((2 ^ W : Nat) : Int) from by simp, wrap_u64_mod, Nat.mod_eq_of_lt hpow]
    have hn : ¬ (IntKind.u64.wrap (2 ^ W) = 0) := by rw [hw]; omega
    have HC : Hid ((y : Int) % IntKind.u64.wrap (2 ^ W) = (Mx.cut W y : Nat)) := by
      show _ = _
      rw [hw, Mx.cut, Int.natCast_emod]
    clear h64 hpow hpos hw
    go_enter Try.func18, Try.ntmps18
    go_wp2
    go_ret
    exact ⟨ret_int HC.out, rfl⟩

theorem hi_wrap (l : List UInt8) (i d b : Nat) (hd : d < 8) (hb : b = Mx.byteAt l (8 * i + (7 - d))) :
    IntKind.u64.wrap (IntKind.u64.wrap (256 * (Mx.hi l i d : Int)) + IntKind.u64.wrap (b : Int)) = (Mx.hi l i (d + 1) : Nat) := by
  have h1 := Mx.hi_lt l i (d + 1)
  have h2 : 256 ^ (d + 1) ≤ 256 ^ 8 := Nat.pow_le_pow_right (by omega) (by omega)
  rw [Mx.hi] at *
  rw [← hb] at *
  have h3 : (256 : Nat) ^ 8 = 18446744073709551616 := by decide
  rw [wrap_u64 (256 * (Mx.hi l i d : Int)) (by omega) (by omega), wrap_u64 (b : Int) (by omega) (by omega), wrap_u64 _ (by omega) (by omega)]
  omega

def textSize : Value → Nat | .string t => t.size | _ => 0

set_option maxHeartbeats 400000 in
theorem rnarrow_any (W : Nat) (s : ByteArray) (w : World) (hW : W ≤ 64) (hs : s.size ≤ 140737488351232) :
    Calls Try.prog 8 #[.int .i64 W, .string s] w fun e w' => e = .returned (.int .u64 (Mx.narrow W s.data.toList)) ∧ Below w.heap.size w w' := by
  obtain ⟨c, hc⟩ : ∃ c, c = (8 - s.size % 8) % 8 := ⟨_, rfl⟩
  have hc1 : -((s.size : Int) % 8) % 8 = (c : Int) := by omega
  have hc2 : (8 - (s.size : Int) % 8) % 8 = (c : Int) := by omega
  obtain ⟨z, hz⟩ : ∃ z : List UInt8, z = List.replicate c 0 := ⟨_, rfl⟩
  obtain ⟨f, hf⟩ : ∃ f : ByteArray, f = ⟨(s.data.toList ++ z).toArray⟩ := ⟨_, rfl⟩
  have hzl : z.length = c := by rw [hz]; simp
  have hcat : ∀ V : World, (Op.stringOp .add s ⟨z.toArray⟩).run Try.prog V = .ok (.string f) V := fun V => by
    rw [hf]
    have := run_string_add_sum (P := Try.prog) (w := V) s ⟨z.toArray⟩ (by show s.size + z.toArray.size ≤ _; rw [List.size_toArray]; omega)
    rw [this, show s ++ (⟨z.toArray⟩ : ByteArray) = ⟨(s.data.toList ++ z).toArray⟩ from ByteArray.ext (by rw [ByteArray.data_append]; simp)]
  have hfl : f.data.toList = s.data.toList ++ z := by rw [hf]
  have hfs : f.size = s.size + c := by rw [Lib.size_eq, hfl, List.length_append, ← Lib.size_eq, hzl]
  have HZ : Hid (Lib.repeatL ({ data := #[0] } : ByteArray).data.toList c = z) := by show _ = z; rw [hz]; exact repeat_nought c
  have HB : Hid (∀ k, Mx.byteAt f.data.toList k = Mx.byteAt s.data.toList k) := fun k => by rw [hfl, hz, Mx.byteAt_pad]
  obtain ⟨n, hn⟩ : ∃ n, n = (s.size + 7) / 8 := ⟨_, rfl⟩
  have hfn : f.size = 8 * n := by omega
  have HN : Hid (Mx.narrow W s.data.toList = Mx.cut W (Mx.step (Mx.chain W s.data.toList n) s.size)) := by show _ = _; rw [Mx.narrow, hn, ← Lib.size_eq]
  have hc8 : c ≤ 7 := by omega
  clear hz hf hfl hn hzl hc
  go_enter Try.func8, Try.ntmps8
  go_wp2_with fail
  refine (Try.strings_Repeat _ c _ (by omega) (by simp [ByteArray.size]; omega)).mono ?_
  rintro e w2 ⟨rfl, hb2⟩
  rw [HZ.out]
  have hcell : w2.cell? ⟨w.heap.size, 0, none⟩ = some (.int .i64 W) := (hb2.cell (p := ⟨w.heap.size, 0, none⟩) (by simp)).trans (by simp)
  have HBel : Hid (Below w.heap.size w w2) := ((Below.refl _ w).alloc (Nat.le_refl _) _).trans (hb2.mono (by simp))
  clear hb2
  go_wp2_with fail
  clear HZ
  go_loop [5, 7] (fun x g => ∃ i : Nat, ∃ t : ByteArray, i ≤ n ∧ x = .int .u64 (Mx.chain W s.data.toList i) ∧ g = .string t ∧ t.data.toList = f.data.toList.drop (8 * i) ∧ t.size = 8 * (n - i)) (fun _ g => textSize g)
  case atStart => exact ⟨0, f, by omega, rfl, rfl, by simp, by omega⟩
  case round =>
    obtain ⟨i, t, hi, rfl, rfl, htl, hts⟩ := hrel
    have hlen : t.data.toList.length = 8 * (n - i) := by rw [← Lib.size_eq]; exact hts
    have hX := Mx.chain_lt W s.data.toList i
    by_cases hlt : i < n
    · have hq : t.toList.isEmpty = false := by
        rw [Lib.toList_data, List.isEmpty_eq_false_iff]; intro e; rw [e] at hlen; simp only [List.length_nil] at hlen; omega
      have HA : Hid (∀ k (h : k < t.size), t[k].toNat = Mx.byteAt s.data.toList (8 * i + k)) := fun k h => by
        rw [← HB.out, ← Mx.byteAt_drop, ← htl, Mx.byteAt, List.getD_eq_getElem?_getD, List.getElem?_eq_getElem (by omega)]
        rfl
      clear hlen
      go_wp2_with fail
      go_loop [8, 9] (fun b j => ∃ c : Nat, c ≤ 8 ∧ j = .int .i64 (7 - (c : Int)) ∧ b = .int .u64 (Mx.hi s.data.toList i c)) (fun _ j => (intOf j + 1).toNat)
      case atStart => exact ⟨0, by omega, rfl, rfl⟩
      case round =>
        obtain ⟨d, hd, rfl, rfl⟩ := hrel
        have hh := Mx.hi_lt s.data.toList i d
        by_cases hd8 : d < 8
        · clear hh hc1 hc2
          go_wp2_with fail
          go_round
          case rel => exact ⟨d + 1, by omega, by go_num, int_eq (hi_wrap _ _ _ _ hd8 (HA.out (7 - d) (by omega)))⟩
          case measure => simp only [intOf]; omega
        · obtain rfl : d = 8 := by omega
          clear hc1 hc2 hd hd8
          go_wp2_with fail
          refine (rstep_any _ _ _ (by omega) (by omega) (by omega) (by omega)).mono ?_
          rintro e w3 ⟨rfl, rfl⟩
          rw [Int.toNat_natCast, Int.toNat_natCast]
          go_wp2_with fail
          refine (cut_any _ W _ _ hcell hW (Mx.step_lt _ _) rfl).mono ?_
          rintro e w3 ⟨rfl, rfl⟩
          go_wp2_with fail
          go_round
          case rel =>
            refine ⟨i + 1, _, by omega, rfl, rfl, ?_, ?_⟩
            · rw [Lib.extract_data, htl, List.drop_drop, List.take_of_length_le (by rw [List.length_drop, ← Lib.size_eq]; omega)]
              rfl
            · rw [ByteArray.size_extract]; omega
          case measure => simp only [textSize, ByteArray.size_extract]; omega
    · have hq : t.toList.isEmpty = true := by
        rw [Lib.toList_data, List.isEmpty_iff_length_eq_zero]; omega
      clear hlen
      go_wp2_with fail
      refine (rstep_any _ _ _ (by omega) (by omega) (by omega) (by omega)).mono ?_
      rintro e w3 ⟨rfl, rfl⟩
      rw [Int.toNat_natCast, Int.toNat_natCast]
      go_wp2_with fail
      refine (cut_any _ W _ _ hcell hW (Mx.step_lt _ _) rfl).mono ?_
      rintro e w3 ⟨rfl, rfl⟩
      go_wp2_with fail
      go_ret
      refine ⟨?_, HBel.out⟩
      rw [HN.out, show n = i from by omega]
      rfl
end Go.Proofs.Ytkeckdfjgnacnaa
