/-
  What Put, PutInt, PutFloat of package num answer.
-/
import Derived.Test.YtcgecafajgoeeaaDoorLow
namespace Go.Proofs.YtcgecafajgoeeaaDoor
open Go.RowKit
set_option maxRecDepth 4000

set_option maxHeartbeats 400000 in
theorem num_put (n : Int) (w : World) (n0 : 0 ≤ n) (n1 : n ≤ 18446744073709551615) :
    Calls Tryd.prog 31 #[.int .u64 n] w fun e w' => e = .returned (.string ⟨(Nm.put n.toNat).toArray⟩) ∧ Below w.heap.size w w' := by
  have hl := Nm.dig_length_le n.toNat
  go_enter Tryd.func31, Tryd.ntmps31
  go_wp2_with (go_at_call 48; refine (count_any _ _ n0 n1).mono ?_; rintro e w' ⟨rfl, rfl⟩)
  refine (digits_app w'.heap.size _ [UInt8.ofNat ((Nm.dig n.toNat).length : Int).toNat] n _ 0 _ (owns_one _ _ (by omega) (by omega)) (by simp) (by simp) n0 n1 (by omega) (by omega) (by omega) (by omega)).mono ?_
  rintro e w2 ⟨v, rfl, hown, hbel⟩
  have hcv := run_str hown
  have hb : Below w'.heap.size w' w2 := ((Below.refl _ _).alloc (Nat.le_refl _) _).trans hbel
  clear hown hbel
  go_wp2
  go_ret
  exact ⟨by simp [Nm.put, Nm.tn_zero, Nm.dig_low], hb⟩
end Go.Proofs.YtcgecafajgoeeaaDoor
