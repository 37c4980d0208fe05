/-
  Plain facts (no Go in here): a date's text, cut at its dashes.
-/
import Derived.Test.YtlglkfnihjfnoaaDoorCvText
import Derived.Lib.Split
import Derived.Lib.IndexMore
namespace Go.Proofs.YtlglkfnihjfnoaaDoor
open Go.RowKit
namespace Cv

theorem occ_one (s : List UInt8) (c : UInt8) (i : Nat) : Lib.occAt s [c] i = (s[i]? == some c) := by
  unfold Lib.occAt
  rw [← List.head?_drop]
  cases s.drop i with
  | nil => rfl
  | cons b l =>
    show ([c].isPrefixOf (b :: l)) = (some b == some c)
    have e : [c].isPrefixOf (b :: l) = (c == b) := by simp [List.isPrefixOf]
    rw [e, Bool.eq_iff_iff, beq_iff_eq, beq_iff_eq, Option.some.injEq]
    exact ⟨Eq.symm, Eq.symm⟩

theorem index_at {a r : List UInt8} {c : UInt8} (h : c ∉ a) : Lib.index (a ++ c :: r) [c] = (a.length : Int) := by
  refine Lib.index_first (by simp) ?_ fun j hj => ?_
  · rw [occ_one, List.getElem?_append_right (Nat.le_refl _), Nat.sub_self]
    simp
  · rw [occ_one, List.getElem?_append_left hj, List.getElem?_eq_getElem hj]
    rw [beq_eq_false_iff_ne]
    intro e
    exact h (Option.some.inj e ▸ List.getElem_mem hj)

theorem index_no {a : List UInt8} {c : UInt8} (h : c ∉ a) : Lib.index a [c] = -1 := by
  refine Lib.index_none fun j _ => ?_
  rw [occ_one, beq_eq_false_iff_ne]
  intro e
  exact h (List.mem_of_getElem? e)

theorem split_no {a : List UInt8} {c : UInt8} (h : c ∉ a) : Lib.split a [c] = [a] := by
  have := index_no h
  unfold Lib.split
  rw [Lib.count_miss this]
  rfl

theorem split_cons {a r : List UInt8} {c : UInt8} (h : c ∉ a) : Lib.split (a ++ c :: r) [c] = a :: Lib.split r [c] := by
  have hi := index_at (r := r) h
  have hd : (a ++ c :: r).drop (a.length + [c].length) = r := by
    rw [List.drop_append]
    simp
  unfold Lib.split
  rw [Lib.count_hit (by simp) hi, hd, Nat.add_comm, Lib.splitK, hi]
  have hn : ¬ ((a.length : Int) == -1) = true := fun e => by have := beq_iff_eq.1 e; omega
  rw [if_neg hn, Int.toNat_natCast, hd, Nat.add_zero, List.take_append_of_le_length (Nat.le_refl _), List.take_length]

/-- pieces put together -/
def glue (c : UInt8) : List (List UInt8) → List UInt8
  | [] => []
  | [x] => x
  | x :: y :: l => x ++ c :: glue c (y :: l)

theorem splitK_ne (sep : List UInt8) (save k : Nat) (s : List UInt8) : Lib.splitK sep save k s ≠ [] := by
  cases k with
  | zero => simp [Lib.splitK]
  | succ k => unfold Lib.splitK; split <;> simp

theorem glue_split (c : UInt8) : ∀ (k : Nat) (s : List UInt8), glue c (Lib.splitK [c] 0 k s) = s := by
  intro k
  induction k with
  | zero => intro s; rfl
  | succ k ih =>
    intro s
    unfold Lib.splitK
    split
    · rfl
    · rename_i hn
      rcases Lib.index_spec s [c] with ⟨h, _⟩ | ⟨i, h, hi, ho, _⟩
      · exact absurd (by rw [h]; rfl) hn
      · rw [h, Int.toNat_natCast, Nat.add_zero]
        rw [occ_one, beq_iff_eq] at ho
        have h1 := ih (s.drop (i + [c].length))
        cases hp : Lib.splitK [c] 0 k (s.drop (i + [c].length)) with
        | nil => exact absurd hp (splitK_ne _ _ _ _)
        | cons x l =>
          rw [hp] at h1
          rw [glue, h1]
          have hl : i < s.length := (List.getElem?_eq_some_iff.1 ho).1
          have he : s[i] = c := (List.getElem?_eq_some_iff.1 ho).2
          have : s.drop i = c :: s.drop (i + 1) := by rw [List.drop_eq_getElem_cons hl, he]
          show s.take i ++ c :: s.drop (i + 1) = s
          rw [← this, List.take_append_drop]

theorem no45 {a : List UInt8} (h : ∀ x ∈ a, isDig x = true) : (45 : UInt8) ∉ a := fun k => absurd (h _ k) (by decide)

/-- the document's conditions are the form -/
theorem form_split (s : List UInt8) : form s = true ↔ s.length = 10 ∧ ∃ a b c, Lib.split s [45] = [a, b, c] ∧ a.length = 4 ∧ b.length = 2 ∧ (∀ x ∈ a, isDig x = true) ∧ (∀ x ∈ b, isDig x = true) ∧ (∀ x ∈ c, isDig x = true) := by
  rw [form_iff]
  constructor
  · rintro ⟨a, b, c, rfl, h1, h2, h3, h4, h5, h6⟩
    refine ⟨by simp; omega, a, b, c, ?_, h1, h2, h4, h5, h6⟩
    rw [split_cons (no45 h4), split_cons (no45 h5), split_no (no45 h6)]
  · rintro ⟨h0, a, b, c, hs, h1, h2, h4, h5, h6⟩
    have hg := glue_split 45 (Lib.count s [45]) s
    have : Lib.splitK [45] 0 (Lib.count s [45]) s = [a, b, c] := hs
    rw [this] at hg
    simp only [glue] at hg
    refine ⟨a, b, c, hg.symm, h1, h2, ?_, h4, h5, h6⟩
    rw [← hg] at h0
    simp at h0
    omega

theorem read_split {s a b c : List UInt8} (h : form s = true) (hs : Lib.split s [45] = [a, b, c]) : read s = Days (num a) (num b) (num c) := by
  obtain ⟨a', b', c', rfl, h1, h2, h3, h4, h5, h6⟩ := (form_iff s).1 h
  rw [split_cons (no45 h4), split_cons (no45 h5), split_no (no45 h6)] at hs
  cases hs
  exact read_parts h1 h2 h3 h4 h5 h6

end Cv
end Go.Proofs.YtlglkfnihjfnoaaDoor
