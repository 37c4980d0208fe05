/-
  What wide of the document's answer (package lumref) answers: the eight digits of a number.
-/
import Derived.Test.YtkeckdfjgnacnaaRefDig
import Derived.Test.YtkeckdfjgnacnaaShelfRep
namespace Go.Proofs.Ytkeckdfjgnacnaa
open Go.RowKit

theorem repeat_nought (c : Nat) : Lib.repeatL [0] c = List.replicate c 0 := by
  induction c with
  | zero => rfl
  | succ c ih => rw [Lib.repeatL, ih, List.replicate_succ]; rfl

set_option maxHeartbeats 400000 in
theorem wide_any (n : Int) (w : World) (n0 : 0 ≤ n) (n1 : n ≤ 18446744073709551615) :
    Calls Try.prog 22 #[.int .u64 n] w fun e w' => e = .returned (.string ⟨(Nm.low 8 n.toNat).toArray⟩) ∧ Below w.heap.size w w' := by
  have hl := Nm.dig_length_le n.toNat
  obtain ⟨c, hc⟩ : ∃ c, c = 8 - (Nm.dig n.toNat).length := ⟨_, rfl⟩
  have hcI : 8 - ((Nm.dig n.toNat).length : Int) = (c : Int) := by omega
  obtain ⟨z, hz⟩ : ∃ z : List UInt8, z = List.replicate c 0 := ⟨_, rfl⟩
  have hcat : ∀ W : World, (Op.stringOp .add ⟨z.toArray⟩ ⟨(Nm.dig n.toNat).toArray⟩).run Try.prog W = .ok (.string ⟨(Nm.low 8 n.toNat).toArray⟩) W := fun W => by
    have := run_string_add_lists (P := Try.prog) W z (Nm.dig n.toNat) (by rw [hz]; simp; omega) (by omega)
    rw [show z ++ Nm.dig n.toNat = Nm.low 8 n.toNat from by rw [hz, hc]; exact Nm.low_pad n.toNat (by omega)] at this
    exact this
  have HZ : Hid (Lib.repeatL ({ data := #[0] } : ByteArray).data.toList c = z) := by show _ = z; rw [hz]; exact repeat_nought c
  clear hz
  have HC : Hid (c = 8 - (Nm.dig n.toNat).length) := hc
  have hc8 : c ≤ 8 := by omega
  clear hc
  go_enter Try.func22, Try.ntmps22
  go_wp2_with fail
  refine (digits_any 8 n _ n0 (by omega) (by omega)).mono ?_
  rintro e w1 ⟨rfl, hb⟩
  rw [show Nm.digF 8 n.toNat = Nm.dig n.toNat from rfl]
  go_wp2_with fail
  refine (Try.strings_Repeat _ c _ (by omega) (by simp [ByteArray.size]; omega)).mono ?_
  rintro e w2 ⟨rfl, hb2⟩
  rw [HZ.out]
  go_wp2_with fail
  go_ret
  exact ⟨rfl, hb.trans (hb2.mono hb.size)⟩

theorem wide_nat (N : Nat) (w : World) (h : N < 18446744073709551616) :
    Calls Try.prog 22 #[.int .u64 N] w fun e w' => e = .returned (.string ⟨(Nm.low 8 N).toArray⟩) ∧ Below w.heap.size w w' := by
  have := wide_any N w (by omega) (by omega)
  rwa [Int.toNat_natCast] at this
end Go.Proofs.Ytkeckdfjgnacnaa
