/-
  What the statements' own less and beneath answer.
-/
import Derived.Test.YtjjpabcoifcbdaaDoorNnLess
namespace Go.Proofs.YtjjpabcoifcbdaaDoor
open Go.RowKit
set_option maxRecDepth 4000

theorem Nn.less_err (a b : List UInt8) (h : (Nn.less a b).2 ≠ 0) : (Nn.less a b).1 = false := by
  unfold Nn.less at h ⊢
  split
  · rfl
  · rename_i q
    rw [if_neg q] at h
    split
    · rfl
    · rename_i r; rw [if_neg r] at h; exact absurd rfl h

theorem lt_any (a b : ByteArray) (w : World) (ha : a.size ≤ 140737488351232) (hb : b.size ≤ 140737488351232) (hT : Tabs w) :
    Calls Tryd.prog 19 #[.string a, .string b] w fun e w' => e = .returned (.bool (Nn.less a.data.toList b.data.toList).1) ∧ Below w.heap.size w w' := by
  have h := less_any a b w ha hb hT
  have HE : Hid ((Nn.less a.data.toList b.data.toList).2 ≠ 0 → (Nn.less a.data.toList b.data.toList).1 = false) := Nn.less_err _ _
  generalize Nn.less a.data.toList b.data.toList = L at *
  obtain ⟨X, E⟩ := L
  dsimp only at *
  by_cases h0 : E = 0
  · subst h0
    cases X
    all_goals
      go_enter Tryd.func19, Tryd.ntmps19
      go_wp2_with fail
      refine h.mono ?_
      rintro e w1 ⟨rfl, b1⟩
      go_wp2_with fail
      go_ret
      exact ⟨rfl, b1⟩
  · obtain rfl := HE.out h0
    go_enter Tryd.func19, Tryd.ntmps19
    go_wp2_with fail
    refine h.mono ?_
    rintro e w1 ⟨rfl, b1⟩
    go_wp2_with fail
    go_ret
    exact ⟨rfl, b1⟩

/-- is a path another one's, or in it? -/
def Nn.ben (p d : List UInt8) : Bool := decide (p = d) || (decide (d = [47]) || Lib.hasPrefix p (d ++ [47]))
theorem Nn.ben_iff (p d : List UInt8) : Nn.ben p d = true ↔ (p = d ∨ d = [47] ∨ ∃ x, p = d ++ 47 :: x) := by
  unfold Nn.ben
  rw [Bool.or_eq_true, Bool.or_eq_true, decide_eq_true_iff, decide_eq_true_iff]
  refine or_congr Iff.rfl (or_congr Iff.rfl ?_)
  show (d ++ [47]).isPrefixOf p = true ↔ _
  rw [List.isPrefixOf_iff_prefix]
  exact ⟨fun ⟨x, hx⟩ => ⟨x, by rw [← hx]; simp⟩, fun ⟨x, hx⟩ => ⟨x, by rw [hx]; simp⟩⟩
theorem app_data (d : ByteArray) : (d ++ (⟨#[47]⟩ : ByteArray)).data.toList = d.data.toList ++ [47] := by simp

set_option maxHeartbeats 1000000 in
theorem ben_any (p d : ByteArray) (w : World) (hd : d.size ≤ 140737488351232) :
    Calls Tryd.prog 20 #[.string p, .string d] w fun e w' => e = .returned (.bool (Nn.ben p.data.toList d.data.toList)) ∧ w' = w := by
  have hq := fun u => Tryd.strings_HasPrefix p (d ++ ⟨#[47]⟩) u
  rw [app_data] at hq
  have hz : ¬ 9223372036854775807 < d.size + 1 := by omega
  by_cases h1 : p.data.toList = d.data.toList
  · have HE : Hid (Nn.ben p.data.toList d.data.toList = true) := (Nn.ben_iff _ _).2 (.inl h1)
    have e1 : (p.toList == d.toList) = true := by rw [Lib.toList_data, Lib.toList_data, h1, beq_self_eq_true]
    clear h1 hq
    go_enter Tryd.func20, Tryd.ntmps20
    go_wp2_with fail
    go_ret
    exact ⟨by rw [HE.out]; rfl, rfl⟩
  have e1 : (p.toList == d.toList) = false := by rw [Lib.toList_data, Lib.toList_data, beq_eq_false_iff_ne]; exact h1
  by_cases h2 : d.data.toList = [47]
  · have HE : Hid (Nn.ben p.data.toList d.data.toList = true) := (Nn.ben_iff _ _).2 (.inr (.inl h2))
    have e2 : (d.toList == [47]) = true := by rw [Lib.toList_data, h2]; rfl
    clear h1 h2 hq
    go_enter Tryd.func20, Tryd.ntmps20
    go_wp2_with fail
    go_ret
    exact ⟨by rw [HE.out]; rfl, rfl⟩
  have e2 : (d.toList == [47]) = false := by rw [Lib.toList_data, beq_eq_false_iff_ne]; exact h2
  have HE : Hid (Nn.ben p.data.toList d.data.toList = Lib.hasPrefix p.data.toList (d.data.toList ++ [47])) := by
    show _ = _
    unfold Nn.ben
    rw [decide_eq_false h1, decide_eq_false h2, Bool.false_or, Bool.false_or]
  generalize Lib.hasPrefix p.data.toList (d.data.toList ++ [47]) = X at *
  clear h1 h2
  go_enter Tryd.func20, Tryd.ntmps20
  go_wp2_with fail
  refine (hq _).mono ?_
  rintro e u ⟨rfl, hu⟩
  obtain rfl := hu.symm
  go_wp2_with fail
  go_ret
  exact ⟨by rw [HE.out]; rfl, rfl⟩
end Go.Proofs.YtjjpabcoifcbdaaDoor
