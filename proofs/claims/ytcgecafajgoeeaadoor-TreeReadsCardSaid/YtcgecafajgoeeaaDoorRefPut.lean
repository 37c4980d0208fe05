/-
  What Put and Get of the document's answer (package lumref) answer.
-/
import Derived.Test.YtcgecafajgoeeaaDoorRefDig
import Derived.Test.YtcgecafajgoeeaaDoorRefNum
import Derived.Test.YtcgecafajgoeeaaDoorShelfPre
namespace Go.Proofs.YtcgecafajgoeeaaDoor
open Go.RowKit
set_option maxRecDepth 4000

set_option maxHeartbeats 400000 in
theorem rput_any (n : Int) (w : World) (n0 : 0 ≤ n) (n1 : n ≤ 18446744073709551615) :
    Calls Tryd.prog 20 #[.int .u64 n] w fun e w' => e = .returned (.string ⟨(Nm.put n.toNat).toArray⟩) ∧ Below w.heap.size w w' := by
  have hl := Nm.dig_length_le n.toNat
  have hr1 := str_new ((Nm.dig n.toNat).length : Int) (by omega) (by omega)
  have hcat : ∀ W : World, (Op.stringOp .add ⟨#[UInt8.ofNat ((Nm.dig n.toNat).length : Int).toNat]⟩ ⟨(Nm.dig n.toNat).toArray⟩).run Tryd.prog W = .ok (.string ⟨(Nm.put n.toNat).toArray⟩) W := fun W =>
    run_string_add_lists W [UInt8.ofNat ((Nm.dig n.toNat).length : Int).toNat] _ (by simp) (by omega)
  rw [Int.toNat_natCast] at hcat
  simp only [Int.toNat_natCast] at hr1
  go_enter Tryd.func20, Tryd.ntmps20
  go_wp2_with fail
  refine (digits_any 8 n _ n0 (by omega) (by omega)).mono ?_
  rintro e w1 ⟨rfl, hb⟩
  rw [show Nm.digF 8 n.toNat = Nm.dig n.toNat from rfl]
  have hbs := hb.size
  go_wp2_with fail
  go_ret
  exact ⟨rfl, hb.alloc hbs _⟩

theorem pre_zero (l : List UInt8) (k : Nat) (h : k ≤ l.length) (z : UInt8) : Lib.hasPrefix (l.take k) [z] = decide (0 < k ∧ l.headD 0 = z) := by
  cases k with
  | zero => simp [Lib.hasPrefix]
  | succ k =>
    cases l with
    | nil => simp at h
    | cons b l =>
      have e : Lib.hasPrefix (List.take (k + 1) (b :: l)) [z] = (z == b) := by simp [Lib.hasPrefix, List.isPrefixOf]
      rw [e, Bool.eq_iff_iff, beq_iff_eq, decide_eq_true_eq]
      exact ⟨fun h => ⟨by omega, h.symm⟩, fun h => h.2.symm⟩
theorem mid_data (s : ByteArray) (k : Nat) : (s.extract 1 (1 + k)).data.toList = s.data.toList.tail.take k := by
  rw [Lib.extract_data, List.drop_one, Nat.add_sub_cancel_left]
theorem tail_length (s : ByteArray) : s.data.toList.tail.length = s.size - 1 := by rw [List.length_tail, ← Lib.size_eq]
theorem list_ne' (s : ByteArray) (h : 0 < s.size) : s.data.toList ≠ [] := by
  intro e; have := Lib.size_eq s; rw [e] at this; simp only [List.length_nil] at this; omega

set_option maxHeartbeats 400000 in
theorem rget_any (s : ByteArray) (w : World) (hs : s.size ≤ 9223372036854775807) :
    Calls Tryd.prog 43 #[.string s] w fun e w' =>
      e = .returned (.tuple #[.int .u64 (Nm.getN s.data.toList).1, .int .i64 (Nm.getN s.data.toList).2.1, .int .i64 (Nm.getN s.data.toList).2.2]) ∧ ∃ m, w' = w.drewN m := by
  by_cases h0 : s.size = 0
  · have hr : Nm.getN s.data.toList = (0, 0, 3) := by rw [Nm.getN, if_pos (List.length_eq_zero_iff.1 (by simpa using h0))]
    rw [hr]
    go_enter Tryd.func43, Tryd.ntmps43
    go_wp2_with fail
    go_ret3
    exact ⟨rfl, 0, rfl⟩
  · have hp : 0 < s.size := by omega
    have hne := list_ne' s hp
    have hb := s[0].toNat_lt
    have hh := head_byte s hp
    have hz : ((s.size : Int) == 0) = false := beq_eq_false_iff_ne.2 (by omega)
    have hg : Nm.getN s.data.toList = if (Nm.readN s.data.toList.tail s[0].toNat 0).2 = 0 then ((Nm.readN s.data.toList.tail s[0].toNat 0).1, 1 + s[0].toNat, (0 : Int)) else ((0 : Nat), (0 : Nat), (Nm.readN s.data.toList.tail s[0].toNat 0).2) := by
      rw [Nm.getN, if_neg hne]; simp only [hh]
    have htl := tail_length s
    rw [hg]
    clear hg hh hne h0
    generalize hc : s[0] = c at *
    by_cases h8 : 8 < c.toNat
    · have hr : Nm.readN s.data.toList.tail c.toNat 0 = (0, 4) := by rw [Nm.readN, if_pos h8]
      rw [hr, if_neg (by decide)]
      clear htl
      go_enter Tryd.func43, Tryd.ntmps43
      go_wp2_with fail
      go_ret3
      exact ⟨rfl, 0, rfl⟩
    by_cases hk : s.size < 1 + c.toNat
    · have hr : Nm.readN s.data.toList.tail c.toNat 0 = (0, 3) := by rw [Nm.readN, if_neg h8, if_pos (by omega)]
      rw [hr, if_neg (by decide)]
      clear htl
      go_enter Tryd.func43, Tryd.ntmps43
      go_wp2_with fail
      go_ret3
      exact ⟨rfl, 0, rfl⟩
    have hpre := pre_zero s.data.toList.tail c.toNat (by omega) 0
    rw [← mid_data] at hpre
    by_cases hd : 0 < c.toNat ∧ s.data.toList.tail.headD 0 = 0
    · have hr : Nm.readN s.data.toList.tail c.toNat 0 = (0, 4) := by rw [Nm.readN, if_neg h8, if_neg (by omega), if_pos (by simpa using hd)]
      rw [hr, if_neg (by decide)]
      rw [decide_eq_true hd] at hpre
      have HP : Hid (Lib.hasPrefix (s.extract 1 (1 + c.toNat)).data.toList [0] = true) := hpre
      clear htl hpre hd hr
      go_enter Tryd.func43, Tryd.ntmps43
      go_wp2_with fail
      refine (Tryd.strings_HasPrefix _ _ _).mono ?_
      rintro e w' ⟨rfl, rfl⟩
      rw [show ({ data := #[0] } : ByteArray).data.toList = [0] from rfl, HP.out]
      go_wp2_with fail
      go_ret3
      exact ⟨rfl, 0, rfl⟩
    · have hr : Nm.readN s.data.toList.tail c.toNat 0 = (Nm.val (s.data.toList.tail.take c.toNat), 0) := by
        rw [Nm.readN, if_neg h8, if_neg (by omega), if_neg (by simpa using hd), Nm.tn_zero]
      rw [hr, if_pos rfl]
      rw [decide_eq_false hd] at hpre
      have HP : Hid (Lib.hasPrefix (s.extract 1 (1 + c.toNat)).data.toList [0] = false) := hpre
      clear htl hpre hd hr
      go_enter Tryd.func43, Tryd.ntmps43
      go_wp2_with fail
      refine (Tryd.strings_HasPrefix _ _ _).mono ?_
      rintro e w' ⟨rfl, rfl⟩
      rw [show ({ data := #[0] } : ByteArray).data.toList = [0] from rfl, HP.out]
      go_wp2_with fail
      refine (number_any 8 _ _ (by simp only [ByteArray.size_extract]; omega) (by omega)).mono ?_
      rintro e w1 ⟨rfl, m, rfl⟩
      rw [mid_data]
      go_wp2_with fail
      go_ret3
      exact ⟨rfl, m, rfl⟩
end Go.Proofs.YtcgecafajgoeeaaDoor
