/-
  What readNumber of package press answers.
-/
import Derived.Test.YtgdkfaphbbdnbaaGet
import Derived.Test.YtgdkfaphbbdnbaaMathOne
import Derived.Test.YtgdkfaphbbdnbaaPrSpec
import Derived.Test.YtgdkfaphbbdnbaaLzRead
namespace Go.Proofs.Ytgdkfaphbbdnbaa
open Go.RowKit
set_option maxRecDepth 4000

namespace Pr
/-- a number up to most, what is left, and the error -/
def num1 (most : Nat) (s : Bs) : Nat × Bs × Int := if (Nm.getN s).2.2 ≠ 0 then (0, [], (Nm.getN s).2.2) else if most < (Nm.getN s).1 then (0, [], 2) else ((Nm.getN s).1, s.drop (Nm.getN s).2.1, 0)
theorem num1_le (most : Nat) (s : Bs) : (num1 most s).1 ≤ most ∧ (num1 most s).2.1.length ≤ s.length := by
  unfold num1
  split
  · exact ⟨Nat.zero_le _, Nat.zero_le _⟩
  split
  · exact ⟨Nat.zero_le _, Nat.zero_le _⟩
  · rename_i h
    refine ⟨Nat.not_lt.1 h, ?_⟩
    show (s.drop (Nm.getN s).2.1).length ≤ _
    rw [List.length_drop]
    omega
theorem nums_cons (m : Nat) (ms : List Nat) (s : Bs) : nums (m :: ms) s = if (num1 m s).2.2 ≠ 0 then ([], [], (num1 m s).2.2) else
    if (nums ms (num1 m s).2.1).2.2 ≠ 0 then ([], [], (nums ms (num1 m s).2.1).2.2) else ((num1 m s).1 :: (nums ms (num1 m s).2.1).1, (nums ms (num1 m s).2.1).2.1, 0) := by
  unfold num1
  rw [nums]
  by_cases h1 : (Nm.getN s).2.2 ≠ 0
  · rw [if_pos h1, if_pos h1]
    rw [if_pos h1]
  · rw [if_neg h1, if_neg h1]
    by_cases h2 : m < (Nm.getN s).1
    · rw [if_pos h2, if_pos h2]
      rfl
    · rw [if_neg h2, if_neg h2]
      rfl
end Pr

set_option maxHeartbeats 1000000 in
theorem rnum_any (s : ByteArray) (m : Int) (w : World) (hs : s.size ≤ 140737488351232) (h0 : 0 ≤ m) (h1 : m ≤ 65536) :
    Calls Try.prog 69 #[.string s, .int .u64 m] w fun e w' => ∃ s' : ByteArray, e = .returned (.tuple #[.int .i64 (Pr.num1 m.toNat s.data.toList).1, .string s', .int .i64 (Pr.num1 m.toNat s.data.toList).2.2]) ∧
      s'.data.toList = (Pr.num1 m.toNat s.data.toList).2.1 ∧ Below w.heap.size w w' := by
  have hg := get_any s w (by omega)
  obtain ⟨M, rfl⟩ := Int.eq_ofNat_of_zero_le h0
  rw [Int.toNat_natCast]
  obtain ⟨n, k, q, hR⟩ : ∃ n k q, Nm.getN s.data.toList = (n, k, q) := ⟨_, _, _, rfl⟩
  unfold Pr.num1
  rw [hR] at hg ⊢
  dsimp only at hg ⊢
  by_cases he : q = 0
  · subst he
    obtain ⟨hk, hn, _⟩ := Nm.get_one hR
    have hk2 : k ≤ s.size := by rw [Lib.size_eq]; exact hk
    have HE : Hid ((s.extract k s.size).data.toList = s.data.toList.drop k) := ext_toList s k
    clear hR hk
    rw [if_neg (by simp)]
    by_cases hm : M < n
    · rw [if_pos hm]
      dsimp only
      go_enter Try.func69, Try.ntmps69
      go_wp2_with fail
      refine hg.mono ?_
      rintro e w' ⟨rfl, rfl⟩
      go_wp2_with fail
      go_ret3
      exact ⟨⟨#[]⟩, rfl, rfl, Below.refl _ _⟩
    · rw [if_neg hm]
      dsimp only
      have hn2 : n ≤ 65536 := by omega
      have hm2 : n ≤ M := by omega
      clear hn hm
      go_enter Try.func69, Try.ntmps69
      go_wp2_with fail
      refine hg.mono ?_
      rintro e w' ⟨rfl, rfl⟩
      clear hg
      go_wp2_with fail
      go_region
      all_goals go_wp2_with fail
      all_goals go_ret3
      all_goals exact ⟨s.extract k s.size, rfl, HE.out, (Below.refl _ _).drew⟩
  · have hq : (q != 0) = true := by simpa using he
    rw [if_pos he]
    dsimp only
    clear hR he
    go_enter Try.func69, Try.ntmps69
    go_wp2_with fail
    refine hg.mono ?_
    rintro e w' ⟨rfl, rfl⟩
    go_wp2_with fail
    go_ret3
    exact ⟨⟨#[]⟩, rfl, rfl, Below.refl _ _⟩
end Go.Proofs.Ytgdkfaphbbdnbaa
