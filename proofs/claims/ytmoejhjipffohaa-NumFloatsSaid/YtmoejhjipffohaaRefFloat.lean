/-
  What wide, PutFloat, GetFloat of the document's answer (package lumref) answer.
-/
import Derived.Test.YtmoejhjipffohaaRefDig
import Derived.Test.YtmoejhjipffohaaRefNum
import Derived.Test.YtmoejhjipffohaaRefTurn
import Derived.Test.YtmoejhjipffohaaFloat
import Derived.Test.YtmoejhjipffohaaShelfRep
namespace Go.Proofs.Ytmoejhjipffohaa
open Go.RowKit

theorem repeat_nought (c : Nat) : Lib.repeatL [0] c = List.replicate c 0 := by
  induction c with
  | zero => rfl
  | succ c ih => rw [Lib.repeatL, ih, List.replicate_succ]; rfl

set_option maxHeartbeats 400000 in
theorem wide_any (n : Int) (w : World) (n0 : 0 ≤ n) (n1 : n ≤ 18446744073709551615) :
    Calls Try.prog 34 #[.int .u64 n] w fun e w' => e = .returned (.string ⟨(Nm.low 8 n.toNat).toArray⟩) ∧ Below w.heap.size w w' := by
  have hl := Nm.dig_length_le n.toNat
  obtain ⟨c, hc⟩ : ∃ c, c = 8 - (Nm.dig n.toNat).length := ⟨_, rfl⟩
  have hcI : 8 - ((Nm.dig n.toNat).length : Int) = (c : Int) := by omega
  obtain ⟨z, hz⟩ : ∃ z : List UInt8, z = List.replicate c 0 := ⟨_, rfl⟩
  have hcat : ∀ W : World, (Op.stringOp .add ⟨z.toArray⟩ ⟨(Nm.dig n.toNat).toArray⟩).run Try.prog W = .ok (.string ⟨(Nm.low 8 n.toNat).toArray⟩) W := fun W => by
    have := run_string_add_lists (P := Try.prog) W z (Nm.dig n.toNat) (by rw [hz]; simp; omega) (by omega)
    rw [show z ++ Nm.dig n.toNat = Nm.low 8 n.toNat from by rw [hz, hc]; exact Nm.low_pad n.toNat (by omega)] at this
    exact this
  have HZ : Hid (Lib.repeatL ({ data := #[0] } : ByteArray).data.toList c = z) := by show _ = z; rw [hz]; exact repeat_nought c
  clear hz
  have HC : Hid (c = 8 - (Nm.dig n.toNat).length) := hc
  have hc8 : c ≤ 8 := by omega
  clear hc
  go_enter Try.func34, Try.ntmps34
  go_wp2_with fail
  refine (digits_any 8 n _ n0 (by omega) (by omega)).mono ?_
  rintro e w1 ⟨rfl, hb⟩
  rw [show Nm.digF 8 n.toNat = Nm.dig n.toNat from rfl]
  go_wp2_with fail
  refine (Try.strings_Repeat _ c _ (by omega) (by simp [ByteArray.size]; omega)).mono ?_
  rintro e w2 ⟨rfl, hb2⟩
  rw [HZ.out]
  go_wp2_with fail
  go_ret
  exact ⟨rfl, hb.trans (hb2.mono hb.size)⟩

set_option maxHeartbeats 400000 in
theorem rputF_pos (b c : Nat) (w : World) (hn : Nm.nanB b = false) (hc : c = b + 9223372036854775808) (h : b < 9223372036854775808) :
    Calls Try.prog 20 #[.float .f64 b] w fun e w' => e = .returned (.string ⟨(Nm.low 8 c).toArray⟩) ∧ Below w.heap.size w w' := by
  have hb := run_bits b
  have hd : decide ((b : Int) < 9223372036854775808) = true := decide_eq_true (by omega)
  have hw : IntKind.u64.wrap ((b : Int) + 9223372036854775808) = (c : Int) := by rw [wrap_u64 _ (by omega) (by omega)]; omega
  have hlt : c ≤ 18446744073709551615 := by omega
  have HC : Hid (c = b + 9223372036854775808) := hc
  clear hc
  go_enter Try.func20, Try.ntmps20
  go_wp2_with (go_at_call 33; refine (isnan_any _ _).mono ?_; rintro e w' ⟨rfl, rfl⟩; rw [hn])
  refine (wide_any _ _ (by omega) (by omega)).mono ?_
  rintro e w1 ⟨rfl, hb1⟩
  go_wp2_with fail
  go_ret
  exact ⟨rfl, hb1⟩

set_option maxHeartbeats 400000 in
theorem rputF_nan (b : Nat) (w : World) (hn : Nm.nanB b = true) :
    Calls Try.prog 20 #[.float .f64 b] w fun e w' => e = .returned (.string ⟨(Nm.low 8 18444492273895866369).toArray⟩) ∧ Below w.heap.size w w' := by
  have hb := run_bits b
  go_enter Try.func20, Try.ntmps20
  go_wp2_with (go_at_call 33; refine (isnan_any _ _).mono ?_; rintro e w' ⟨rfl, rfl⟩; rw [hn])
  refine (wide_any 18444492273895866369 _ (by omega) (by omega)).mono ?_
  rintro e w1 ⟨rfl, hb1⟩
  go_wp2_with fail
  go_ret
  exact ⟨rfl, hb1⟩

set_option maxHeartbeats 400000 in
theorem rputF_neg (b : Nat) (w : World) (hn : Nm.nanB b = false) (h : 9223372036854775808 ≤ b) (h' : b < 18446744073709551616) :
    Calls Try.prog 20 #[.float .f64 b] w fun e w' => e = .returned (.string ⟨(Nm.tn 255 (Nm.low 8 b)).toArray⟩) ∧ Below w.heap.size w w' := by
  have hb := run_bits b
  have hd : decide ((b : Int) < 9223372036854775808) = false := decide_eq_false (by omega)
  go_enter Try.func20, Try.ntmps20
  go_wp2_with (go_at_call 33; refine (isnan_any _ _).mono ?_; rintro e w' ⟨rfl, rfl⟩; rw [hn])
  refine (wide_any _ _ (by omega) (by omega)).mono ?_
  rintro e w1 ⟨rfl, hb1⟩
  rw [Int.toNat_natCast]
  have hl := Nm.low_length 8 b
  go_wp2_with fail
  refine (turned_any _ _ (by rw [Lib.size_eq]; simp only [hl]; omega)).mono ?_
  rintro e w2 ⟨rfl, hb2⟩
  go_wp2_with fail
  go_ret
  exact ⟨rfl, hb1.trans (hb2.mono hb1.size)⟩

theorem rputF_any (b : Nat) (w : World) (h' : b < 18446744073709551616) :
    Calls Try.prog 20 #[.float .f64 b] w fun e w' => e = .returned (.string ⟨(Nm.putF b).toArray⟩) ∧ Below w.heap.size w w' := by
  cases hn : Nm.nanB b
  · have h1 : Nm.oneNaN b = b := by rw [Nm.oneNaN, if_neg (by rw [hn]; decide)]
    by_cases h : b < 9223372036854775808
    · have h2 : Nm.putF b = Nm.low 8 (b + 9223372036854775808) := by rw [Nm.putF, h1, Nm.flip, if_pos h]
      rw [h2]
      exact rputF_pos b _ w hn rfl h
    · have h2 : Nm.putF b = Nm.tn 255 (Nm.low 8 b) := by rw [Nm.putF, h1, Nm.flip, if_neg h, Nm.low_not b h']
      rw [h2]
      exact rputF_neg b w hn (by omega) h'
  · have h2 : Nm.putF b = Nm.low 8 18444492273895866369 := by rw [Nm.putF, flip_nan hn]; rfl
    rw [h2]
    exact rputF_nan b w hn
end Go.Proofs.Ytmoejhjipffohaa
