/-
  lumref: what numberAt answers.
-/
import Derived.Test.YtcgecafajgoeeaaDoorRefPut
import Derived.Test.YtcgecafajgoeeaaDoorTrMath
import Derived.Test.YtcgecafajgoeeaaDoorRnName
import Derived.BigQuiet
namespace Go.Proofs.YtcgecafajgoeeaaDoor
open Go.RowKit
set_option maxRecDepth 4000

set_option maxHeartbeats 1000000 in
set_option maxRecDepth 10000 in
theorem numAt_any (s : ByteArray) (most : Nat) (w : World) (hs : s.size ≤ 4194304) (hm : most ≤ 4194304) :
    Calls Tryd.prog 26 #[.string s, .int .u64 most] w fun e w' =>
      e = .returned (.tuple #[.int .i64 (Td.num most s.data.toList).1, .string ⟨(Td.num most s.data.toList).2.1.toArray⟩, .int .i64 (Td.num most s.data.toList).2.2]) ∧ Below w.heap.size w w' := by
  have hg := rget_any s w (by omega)
  have HT : Hid (Td.num most s.data.toList = if (Nm.getN s.data.toList).2.2 ≠ 0 then (0, [], (Nm.getN s.data.toList).2.2) else if most < (Nm.getN s.data.toList).1 then (0, [], 2) else ((Nm.getN s.data.toList).1, s.data.toList.drop (Nm.getN s.data.toList).2.1, 0)) := rfl
  have HK : Hid ((Nm.getN s.data.toList).2.2 = 0 → (Nm.getN s.data.toList).2.1 ≤ s.size) := fun h => by
    have := (Nm.get_one (l := s.data.toList) (n := (Nm.getN s.data.toList).1) (k := (Nm.getN s.data.toList).2.1) (by rw [← h])).1
    rwa [← Lib.size_eq] at this
  generalize Td.num most s.data.toList = R at *
  generalize (Nm.getN s.data.toList).1 = n at *
  generalize (Nm.getN s.data.toList).2.1 = k at *
  generalize (Nm.getN s.data.toList).2.2 = E at *
  go_enter Tryd.func26, Tryd.ntmps26
  go_wp2_with fail
  refine hg.mono ?_
  rintro e w1 ⟨rfl, m, rfl⟩
  have HB : Hid (Below w.heap.size w (w.drewN m)) := ⟨rfl, rfl, rfl, Nat.le_refl _, fun _ _ => rfl⟩
  generalize w.drewN m = w1 at *
  clear hg
  by_cases hE : E = 0
  · subst hE
    have hk := HK.out rfl
    by_cases hmn : most < n
    · have HR : Hid (R = (0, [], 2)) := by
        have := HT.out
        rwa [if_neg (by simp), if_pos hmn] at this
      have hq : (most : Int) < (n : Int) := by omega
      clear HT HK
      go_wp2_with fail
      go_ret3
      exact ⟨by rw [HR.out]; rfl, HB.out⟩
    · have HR : Hid (R = (n, s.data.toList.drop k, 0)) := by
        have := HT.out
        rwa [if_neg (by simp), if_neg hmn] at this
      have hq : ¬ (most : Int) < (n : Int) := by omega
      have hn : (n : Int) ≤ 9223372036854775807 := by omega
      have hk0 : (k : Int) ≤ (s.size : Int) := by omega
      have HD : Hid ((⟨(s.data.toList.drop k).toArray⟩ : ByteArray) = s.extract k s.size) := by
        apply ByteArray.ext
        apply Array.toList_inj.1
        rw [Nn.ext_drop']
      clear HT HK
      go_wp2_with fail
      go_quiet (fail)
      go_wp2_with fail
      go_ret3
      exact ⟨by rw [HR.out, HD.out]; rfl, below_drewN HB.out _⟩
  · have hqn : (E != 0) = true := by rw [bne_iff_ne]; exact hE
    have hqe : (E == 0) = false := by rw [beq_eq_false_iff_ne]; exact hE
    have HR : Hid (R = (0, [], E)) := by
      have := HT.out
      rwa [if_pos hE] at this
    clear HT HK
    go_wp2_with fail
    go_ret3
    exact ⟨by rw [HR.out]; rfl, HB.out⟩
end Go.Proofs.YtcgecafajgoeeaaDoor
