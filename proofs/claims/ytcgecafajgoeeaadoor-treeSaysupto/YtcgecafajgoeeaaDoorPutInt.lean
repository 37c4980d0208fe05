/-
  What PutInt of package num answers.
-/
import Derived.Test.YtcgecafajgoeeaaDoorPut
namespace Go.Proofs.YtcgecafajgoeeaaDoor
open Go.RowKit
set_option maxRecDepth 4000

set_option maxHeartbeats 400000 in
theorem putI_any (n : Int) (w : World) (n0 : -9223372036854775808 ≤ n) (n1 : n ≤ 9223372036854775807) :
    Calls Tryd.prog 33 #[.int .i64 n] w fun e w' => e = .returned (.string ⟨(Nm.putI n).toArray⟩) ∧ Below w.heap.size w w' := by
  by_cases h : n < 0
  · have hl := Nm.dig_length_le (-1 - n).toNat
    have hp : Hid (Nm.putI n = [UInt8.ofNat (127 - ((Nm.dig (-1 - n).toNat).length : Int)).toNat] ++ Nm.tn (255 : Int).toNat (Nm.low ((Nm.dig (-1 - n).toNat).length : Int).toNat (-1 - n).toNat)) := by
      show _ = _
      rw [Nm.putI, if_pos h, Int.toNat_natCast, Nm.dig_low, show (127 - ((Nm.dig (-1 - n).toNat).length : Int)).toNat = 127 - (Nm.dig (-1 - n).toNat).length from by omega]
      rfl
    go_enter Tryd.func33, Tryd.ntmps33
    go_wp2_with (go_at_call 48; refine (count_any (-1 - n) _ (by omega) (by omega)).mono ?_; rintro e w' ⟨rfl, rfl⟩)
    refine (digits_app w'.heap.size _ [UInt8.ofNat (127 - ((Nm.dig (-1 - n).toNat).length : Int)).toNat] _ _ 255 _ (owns_one _ _ (by omega) (by omega)) (by simp) (by simp) (by omega) (by omega) (by omega) (by omega) (by omega) (by omega)).mono ?_
    rintro e w2 ⟨v, rfl, hown, hbel⟩
    rw [← hp.out] at hown
    have hcv := run_str hown
    have hb : Below w'.heap.size w' w2 := ((Below.refl _ _).alloc (Nat.le_refl _) _).trans hbel
    clear hown hbel
    go_wp2
    go_ret
    exact ⟨rfl, hb⟩
  · have hl := Nm.dig_length_le n.toNat
    have hp : Hid (Nm.putI n = [UInt8.ofNat (128 + ((Nm.dig n.toNat).length : Int)).toNat] ++ Nm.tn (0 : Int).toNat (Nm.low ((Nm.dig n.toNat).length : Int).toNat n.toNat)) := by
      show _ = _
      rw [Nm.putI, if_neg h, Int.toNat_natCast, Nm.dig_low, show (128 + ((Nm.dig n.toNat).length : Int)).toNat = 128 + (Nm.dig n.toNat).length from by omega]
      rw [show (0 : Int).toNat = 0 from rfl, Nm.tn_zero]
      rfl
    go_enter Tryd.func33, Tryd.ntmps33
    go_wp2_with (go_at_call 48; refine (count_any n _ (by omega) (by omega)).mono ?_; rintro e w' ⟨rfl, rfl⟩)
    refine (digits_app w'.heap.size _ [UInt8.ofNat (128 + ((Nm.dig n.toNat).length : Int)).toNat] _ _ 0 _ (owns_one _ _ (by omega) (by omega)) (by simp) (by simp) (by omega) (by omega) (by omega) (by omega) (by omega) (by omega)).mono ?_
    rintro e w2 ⟨v, rfl, hown, hbel⟩
    rw [← hp.out] at hown
    have hcv := run_str hown
    have hb : Below w'.heap.size w' w2 := ((Below.refl _ _).alloc (Nat.le_refl _) _).trans hbel
    clear hown hbel
    go_wp2
    go_ret
    exact ⟨rfl, hb⟩
end Go.Proofs.YtcgecafajgoeeaaDoor
