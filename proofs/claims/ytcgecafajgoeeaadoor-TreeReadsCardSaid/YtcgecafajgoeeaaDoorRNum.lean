/-
  What number, turned of the document's answer (package lumref) answer.
-/
import Derived.Test.YtcgecafajgoeeaaDoorBase
import Derived.Deep.QuietTactic
import Derived.BigQuiet
import Derived.WalkSmall
namespace Go.Proofs.YtcgecafajgoeeaaDoor
open Go.RowKit
set_option maxRecDepth 4000

theorem number_step (s : ByteArray) (q : Nat) (hq : s.size = q + 1) (h8 : s.size ≤ 8) :
    IntKind.u64.wrap (256 * (Nm.val (s.data.toList.take q) : Int)) = 256 * (Nm.val (s.data.toList.take q) : Int) ∧
    256 * Nm.val (s.data.toList.take q) + (s[q]'(by omega)).toNat = Nm.val s.data.toList ∧ Nm.val s.data.toList < 18446744073709551616 := by
  have h1 := take_snoc s q (by omega)
  rw [List.take_of_length_le (by rw [← Lib.size_eq]; omega)] at h1
  have hlt := Nm.val_lt s.data.toList
  have hp : 256 ^ s.data.toList.length ≤ 256 ^ 8 := Nat.pow_le_pow_right (by omega) (by rw [← Lib.size_eq]; exact h8)
  have h2 : Nm.val s.data.toList = 256 * Nm.val (s.data.toList.take q) + (s[q]'(by omega)).toNat := by rw [← Nm.val_snoc, ← h1]
  exact ⟨wrap_u64 _ (by omega) (by omega), by omega, by omega⟩

set_option maxHeartbeats 400000 in
theorem number_any (k : Nat) : ∀ (s : ByteArray) (w : World), s.size ≤ k → k ≤ 8 →
    Calls Tryd.prog 61 #[.string s] w fun e w' => e = .returned (.int .u64 (Nm.val s.data.toList)) ∧ ∃ m, w' = w.drewN m := by
  induction k with
  | zero =>
    intro s w h0 _
    have hs : s.data.toList = [] := List.length_eq_zero_iff.1 (by rw [← Lib.size_eq]; omega)
    have hq : s.toList.isEmpty = true := by rw [Lib.toList_data, hs]; rfl
    have e : Nm.val s.data.toList = 0 := by rw [hs]; rfl
    rw [e]
    clear hs e
    go_enter Tryd.func61, Tryd.ntmps61
    go_wp2_with fail
    go_ret
    exact ⟨rfl, 0, rfl⟩
  | succ k ih =>
    intro s w h1 h8
    by_cases h0 : s.size = 0
    · exact ih s w (by omega) (by omega)
    · obtain ⟨q, hq1⟩ : ∃ q, s.size = q + 1 := ⟨s.size - 1, by omega⟩
      obtain ⟨e1, e2, e3⟩ := number_step s q hq1 (by omega)
      have hlt : q < s.size := by omega
      have hb := s[q].toNat_lt
      have hp : 0 < s.size := by omega
      have hw1 : IntKind.i64.wrap ((s.size : Int) - 1) = (q : Int) := by rw [IntKind.wrap_i64]; omega
      have hq : s.toList.isEmpty = false := by
        rw [Lib.toList_data]
        cases hl : s.data.toList with
        | nil => have := Lib.size_eq s; rw [hl, List.length_nil] at this; omega
        | cons => rfl
      have HE : Hid (256 * Nm.val (s.data.toList.take q) + s[q].toNat = Nm.val s.data.toList) := e2
      have HQ : Hid (s.size = q + 1) := hq1
      clear e2 hq1
      go_enter Tryd.func61, Tryd.ntmps61
      go_wp2_with fail
      go_quiet ((go_at_call 61; refine Calls.quiet_of (ih _ _ (by simp only [ByteArray.size_extract]; omega) (by omega))))
      go_wp2_with fail
      go_ret
      refine ⟨ret_int ?_, _, rfl⟩
      have := HE.out
      rw [wrap_u64 _ (by omega) (by omega)]
      omega
end Go.Proofs.YtcgecafajgoeeaaDoor
