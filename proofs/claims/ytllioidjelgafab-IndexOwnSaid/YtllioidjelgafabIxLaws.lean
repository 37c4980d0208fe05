/-
  P31, P32 (no Go in it): indices merge as sets do; of rows in any order the same index comes, and of two lists what the merge of both is.
-/
import Derived.Test.YtllioidjelgafabIxWays
namespace Go.Proofs.Ytllioidjelgafab
namespace Ix

theorem merge_bad {a b : List Pl} (h : (merge a b).2 ≠ 0) : (merge a b).1 = [] := by
  unfold merge at h ⊢
  split
  · rfl
  · split
    · rfl
    · split
      · rfl
      · rename_i x y z; rw [if_neg x, if_neg y, if_neg z] at h; exact absurd rfl h
theorem merge_ok {a b : List Pl} (h : (merge a b).2 = 0) : check a = 0 ∧ check b = 0 ∧ (puts a b).length ≤ 400 ∧ merge a b = (puts a b, 0) := by
  unfold merge at h ⊢
  split at h
  · rename_i k; exact absurd h k
  · rename_i k1
    split at h
    · rename_i k; exact absurd h k
    · rename_i k2
      split at h
      · exact absurd h (by decide)
      · rename_i k3
        rw [if_neg k1, if_neg k2, if_neg k3]
        exact ⟨Decidable.not_not.mp k1, Decidable.not_not.mp k2, by omega, rfl⟩
theorem merge_is {a b : List Pl} (ha : check a = 0) (hb : check b = 0) : merge a b = if 400 < (puts a b).length then ([], 2) else (puts a b, 0) := by
  unfold merge
  rw [if_neg (fun k => k ha), if_neg (fun k => k hb)]
theorem merge_self {a : List Pl} (hi : Ids a) (h : check a = 0) : merge a a = (a, 0) := by
  obtain ⟨h1, _, h3⟩ := check_ok.mp h
  unfold merge
  rw [if_neg (fun k => k h), if_neg (fun k => k h), puts_self h3 hi, if_neg (by omega)]
/-- of one that is not right nothing comes -/
theorem merge_left {a b : List Pl} (h : check a ≠ 0) : merge a b = ([], check a) := by unfold merge; rw [if_pos h]
theorem merge_comm {a b : List Pl} (ia : Ids a) (ib : Ids b) (ha : check a = 0) (hb : check b = 0) : merge a b = merge b a := by
  rw [merge_is ha hb, merge_is hb ha, puts_comm (check_ok.mp ha).2.2 (check_ok.mp hb).2.2 ia ib]
theorem merge_check {a b : List Pl} (ia : Ids a) (ib : Ids b) (h : (merge a b).2 = 0) : check (merge a b).1 = 0 ∧ Ids (merge a b).1 := by
  obtain ⟨ha, hb, hl, e⟩ := merge_ok h
  have hs := puts_is (check_ok.mp ha).2.2 (ia.append ib)
  rw [e]
  refine ⟨hs.check (fun p hp => ?_) hl, hs.ids (ia.append ib)⟩
  rcases List.mem_append.mp hp with k | k
  · exact (check_ok.mp ha).2.1 p k
  · exact (check_ok.mp hb).2.1 p k
theorem merge_assoc {a b c : List Pl} (ia : Ids a) (ib : Ids b) (ic : Ids c) (h : (merge a b).2 = 0) (k : (merge b c).2 = 0) : merge (merge a b).1 c = merge a (merge b c).1 := by
  have c1 := (merge_check ia ib h).1
  have c2 := (merge_check ib ic k).1
  obtain ⟨ha, hb, _, e1⟩ := merge_ok h
  obtain ⟨_, hc, _, e2⟩ := merge_ok k
  rw [e1] at c1 ⊢
  rw [e2] at c2 ⊢
  rw [merge_is c1 hc, merge_is ha c2, puts_assoc (check_ok.mp ha).2.2 (check_ok.mp hb).2.2 (check_ok.mp hc).2.2 ia ib ic]

theorem of_bad {n : Int} {l : List Pl} (h : (of n l).2 ≠ 0) : (of n l).1 = [] := by
  unfold of at h ⊢
  split
  · rfl
  · split
    · rfl
    · split
      · rfl
      · rename_i x y z; rw [if_neg x, if_neg y, if_neg z] at h; exact absurd rfl h
theorem of_ok {n : Int} {l : List Pl} (h : (of n l).2 = 0) : (0 ≤ n ∧ n ≤ 1099511627776) ∧ l.length ≤ 400 ∧ (∀ p ∈ l, plErr p = 0) ∧ of n l = (puts [] l, 0) := by
  unfold of at h ⊢
  split at h
  · exact absurd h (by decide)
  · rename_i k1
    split at h
    · exact absurd h (by decide)
    · rename_i k2
      split at h
      · rename_i k; exact absurd h k
      · rename_i k3
        rw [if_neg k1, if_neg k2, if_neg k3]
        exact ⟨by omega, by omega, ofErr_ok.mp (Decidable.not_not.mp k3), rfl⟩
theorem of_is {n : Int} {l : List Pl} (hn : 0 ≤ n ∧ n ≤ 1099511627776) (hl : l.length ≤ 400) (h : ∀ p ∈ l, plErr p = 0) : of n l = (puts [] l, 0) := by
  unfold of
  rw [if_neg (by omega), if_neg (by omega), if_neg (fun k => k (ofErr_ok.mpr h))]
theorem of_check {n : Int} {l : List Pl} (hi : Ids l) (h : (of n l).2 = 0) : check (of n l).1 = 0 ∧ Ids (of n l).1 := by
  obtain ⟨_, hl, hp, e⟩ := of_ok h
  have hs := puts_nil_is hi
  have := puts_length l []
  rw [List.length_nil] at this
  rw [e]
  exact ⟨hs.check hp (by omega), hs.ids hi⟩
/-- in the other order -/
theorem of_turned {n : Int} {l : List Pl} (hi : Ids l) (h : (of n l).2 = 0) : of n l.reverse = of n l := by
  obtain ⟨hn, hl, hp, e⟩ := of_ok h
  have hi' : Ids l.reverse := hi.sub fun p hp => List.mem_reverse.mp hp
  rw [e, of_is hn (by rw [List.length_reverse]; exact hl) (fun p hq => hp p (List.mem_reverse.mp hq)), puts_mem hi' hi fun p => List.mem_reverse]
/-- of two lists what the merge of both is -/
theorem of_two {n : Int} {l m : List Pl} (il : Ids l) (im : Ids m) (h : (of n l).2 = 0) (k : (of n m).2 = 0) (j : (of n (l ++ m)).2 = 0) : merge (of n l).1 (of n m).1 = of n (l ++ m) := by
  have c1 := (of_check il h).1
  have c2 := (of_check im k).1
  obtain ⟨_, _, _, e1⟩ := of_ok h
  obtain ⟨_, _, _, e2⟩ := of_ok k
  obtain ⟨_, hl, _, e3⟩ := of_ok j
  have hn := puts_length (l ++ m) []
  rw [List.length_nil] at hn
  rw [e1] at c1 ⊢
  rw [e2] at c2 ⊢
  rw [e3]
  rw [puts_two il im] at hn ⊢
  rw [merge_is c1 c2]
  show (if 400 < (puts (puts [] l) (puts [] m)).length then _ else _) = _
  rw [if_neg (by omega)]
end Ix
end Go.Proofs.Ytllioidjelgafab
