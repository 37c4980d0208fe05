/-
  What has of package lumref answers, over numbers.
-/
import Derived.Test.YtoibiaikbgkbpaaHfInts
namespace Go.Proofs.Ytoibiaikbgkbpaa
open Go.RowKit
set_option maxRecDepth 4000

set_option maxHeartbeats 1000000 in
theorem rhas_int (v : Value) (s : List Int) (n : Int) (w : World) (h : Ints w v s) (hs : s.length ≤ 1000000) :
    Calls Try.prog 22 #[v, .int .i64 n] w fun e w' => e = .returned (.bool (decide (n ∈ s))) ∧ w' = w := by
  obtain ⟨a, c, rfl⟩ := h.slice
  go_enter Try.func22, Try.ntmps22
  go_wp2_with fail
  go_loop [9] (fun i => ∃ k : Nat, k ≤ s.length ∧ i = .int .i64 k ∧ Hid (n ∉ s.take k)) (fun i => s.length - (intOf i).toNat)
  case atStart => exact ⟨0, by omega, rfl, (show n ∉ s.take 0 from by simp)⟩
  case round =>
    obtain ⟨k, hk, rfl, hno⟩ := hrel
    by_cases hlt : k < s.length
    · obtain ⟨bk, o, rfl, _, hbk, c0⟩ := h.get k hlt
      by_cases he : s[k] = n
      · have HD : Hid (decide (n ∈ s) = true) := decide_eq_true (by rw [← he]; exact List.getElem_mem hlt)
        clear h hno
        generalize s[k] = x at *
        subst he
        go_wp2_with fail
        go_ret
        exact ⟨by rw [HD.out]; rfl, rfl⟩
      · have HN : Hid (n ∉ s.take (k + 1)) := by
          rw [List.take_succ_eq_append_getElem hlt]
          intro hm
          rcases List.mem_append.1 hm with hm | hm
          · exact hno.out hm
          · exact he (List.mem_singleton.1 hm).symm
        clear h hno
        generalize s[k] = x at *
        go_wp2_with fail
        go_round
        case rel => exact ⟨k + 1, by omega, by go_num, HN⟩
        case measure => simp only [intOf]; omega
    · have HD : Hid (decide (n ∈ s) = false) := decide_eq_false (by have := hno.out; rwa [List.take_of_length_le (by omega)] at this)
      go_wp2_with fail
      go_ret
      exact ⟨by rw [HD.out]; rfl, rfl⟩

end Go.Proofs.Ytoibiaikbgkbpaa
