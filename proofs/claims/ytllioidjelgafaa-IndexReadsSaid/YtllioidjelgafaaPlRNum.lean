/-
  What readNumber of package index answers.
-/
import Derived.Test.YtllioidjelgafaaPlChk
import Derived.Test.YtllioidjelgafaaGet
namespace Go.Proofs.Ytllioidjelgafaa
open Go.RowKit
set_option maxRecDepth 4000

theorem ixext_toList (s : ByteArray) (k : Nat) : (s.extract k s.size).data.toList = s.data.toList.drop k := by
  rw [Lib.extract_data, List.take_of_length_le]
  rw [List.length_drop, ← Lib.size_eq]
  exact Nat.le_refl _
/-- a number that may not be above m -/
def rnum (m : Nat) (s : List UInt8) : Nat × List UInt8 × Int :=
  if (Nm.getN s).2.2 ≠ 0 then (0, [], (Nm.getN s).2.2) else if m < (Nm.getN s).1 then (0, [], 2) else ((Nm.getN s).1, s.drop (Nm.getN s).2.1, 0)
theorem rnum_ix (s : List UInt8) : rnum 1099511627776 s = Ix.num s := rfl

set_option maxHeartbeats 1000000 in
theorem ixrnum_any (s : ByteArray) (M : Nat) (w : World) (hs : s.size ≤ 140737488351232) (h1 : M ≤ 1099511627776) :
    Calls Try.prog 40 #[.string s, .int .u64 M] w fun e w' => ∃ s' : ByteArray, e = .returned (.tuple #[.int .i64 (rnum M s.data.toList).1, .string s', .int .i64 (rnum M s.data.toList).2.2]) ∧
      s'.data.toList = (rnum M s.data.toList).2.1 ∧ s'.size ≤ s.size ∧ Below w.heap.size w w' := by
  have hg := get_any s w (by omega)
  obtain ⟨n, k, q, hR⟩ : ∃ n k q, Nm.getN s.data.toList = (n, k, q) := ⟨_, _, _, rfl⟩
  unfold rnum
  rw [hR] at hg ⊢
  dsimp only at hg ⊢
  by_cases he : q = 0
  · subst he
    obtain ⟨hk, hn, _⟩ := Nm.get_one hR
    have hk2 : k ≤ s.size := by rw [Lib.size_eq]; exact hk
    have HE : Hid ((s.extract k s.size).data.toList = s.data.toList.drop k) := ixext_toList s k
    have HZ : Hid ((s.extract k s.size).size ≤ s.size) := by show (s.extract k s.size).size ≤ _; rw [ByteArray.size_extract]; omega
    clear hR hk
    rw [if_neg (by simp)]
    by_cases hm : M < n
    · rw [if_pos hm]
      dsimp only
      go_enter Try.func40, Try.ntmps40
      go_wp2_with fail
      refine hg.mono ?_
      rintro e w' ⟨rfl, rfl⟩
      go_wp2_with fail
      go_ret3
      exact ⟨⟨#[]⟩, rfl, rfl, Nat.zero_le _, Below.refl _ _⟩
    · rw [if_neg hm]
      dsimp only
      have hn2 : n ≤ 1099511627776 := by omega
      have hm2 : n ≤ M := by omega
      clear hn hm
      go_enter Try.func40, Try.ntmps40
      go_wp2_with fail
      refine hg.mono ?_
      rintro e w' ⟨rfl, rfl⟩
      clear hg
      go_wp2_with fail
      go_region
      all_goals go_wp2_with fail
      all_goals go_ret3
      all_goals exact ⟨s.extract k s.size, rfl, HE.out, HZ.out, (Below.refl _ _).drew⟩
  · have hq : (q != 0) = true := by simpa using he
    rw [if_pos he]
    dsimp only
    clear hR he
    go_enter Try.func40, Try.ntmps40
    go_wp2_with fail
    refine hg.mono ?_
    rintro e w' ⟨rfl, rfl⟩
    go_wp2_with fail
    go_ret3
    exact ⟨⟨#[]⟩, rfl, rfl, Nat.zero_le _, Below.refl _ _⟩
end Go.Proofs.Ytllioidjelgafaa
