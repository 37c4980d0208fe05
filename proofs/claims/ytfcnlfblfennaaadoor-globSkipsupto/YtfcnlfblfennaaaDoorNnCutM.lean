/-
  P37, P38 (no Go in it): texts cut at each slash by its first place; cut at most so often.
-/
import Derived.Test.YtfcnlfblfennaaaDoorNnPath
import Derived.Lib.Strings
import Derived.Lib.Bytealg
import Derived.Lib.Split
namespace Go.Proofs.YtfcnlfblfennaaaDoor
namespace Nn
open Go.Lib

theorem ix_cases (c : UInt8) : ∀ l : List UInt8, (indexByte l c = -1 ∧ c ∉ l) ∨ ∃ i : Nat, indexByte l c = i ∧ i < l.length ∧ l = l.take i ++ c :: l.drop (i + 1) ∧ c ∉ l.take i
  | [] => .inl ⟨rfl, by simp⟩
  | b :: l => by
    by_cases h : b = c
    · subst h
      exact .inr ⟨0, by simp [indexByte], by simp, by simp, by simp⟩
    · have hb : (b == c) = false := beq_eq_false_iff_ne.2 h
      rcases ix_cases c l with ⟨e, hn⟩ | ⟨i, e, h1, h2, h3⟩
      · exact .inl ⟨by rw [indexByte, hb, e]; rfl, by simp [hn, Ne.symm h]⟩
      · refine .inr ⟨i + 1, ?_, by simp; omega, by rw [List.take_succ_cons, List.drop_succ_cons, List.cons_append, ← h2], by simp [h3, Ne.symm h]⟩
        rw [indexByte, hb, e, if_neg (by simp), if_neg (by rw [beq_iff_eq]; omega)]
        omega
theorem cut_none {l : List UInt8} (h : indexByte l 47 = -1) : cut l = [l] := by
  rcases ix_cases 47 l with ⟨_, hn⟩ | ⟨i, e, _⟩
  · exact cut_plain hn
  · rw [h] at e; omega
theorem cut_at {l : List UInt8} {i : Nat} (h : indexByte l 47 = i) : cut l = l.take i :: cut (l.drop (i + 1)) := by
  rcases ix_cases 47 l with ⟨e, _⟩ | ⟨j, e, _, h2, h3⟩
  · rw [h] at e; omega
  · obtain rfl : i = j := by rw [h] at e; omega
    conv => lhs; rw [h2]
    rw [cut_slash, cut_plain h3]
    rfl
/-- cut at most k times -/
def spn : Nat → List UInt8 → List Name
  | 0, l => [l]
  | k + 1, l => if indexByte l 47 = -1 then [l] else l.take (indexByte l 47).toNat :: spn k (l.drop ((indexByte l 47).toNat + 1))
theorem spn_none {k : Nat} {l : List UInt8} (h : indexByte l 47 = -1) : spn k l = [l] := by
  cases k with
  | zero => rfl
  | succ k => rw [spn, if_pos h]
theorem spn_at {k i : Nat} {l : List UInt8} (h : indexByte l 47 = i) : spn (k + 1) l = l.take i :: spn k (l.drop (i + 1)) := by
  rw [spn, if_neg (by omega), h]
  rfl
theorem spn_more : ∀ (k m : Nat) (l : List UInt8), l.length ≤ k → l.length ≤ m → spn k l = spn m l := by
  intro k
  induction k with
  | zero =>
    intro m l h1 h2
    have hl := List.length_eq_zero_iff.1 (Nat.le_zero.1 h1)
    subst hl
    rw [spn_none (by rfl), spn_none (by rfl)]
  | succ k ih =>
    intro m l h1 h2
    rcases ix_cases 47 l with ⟨e, _⟩ | ⟨i, e, hi, _⟩
    · rw [spn_none e, spn_none e]
    · obtain ⟨m, rfl⟩ : ∃ m', m = m' + 1 := ⟨m - 1, by omega⟩
      rw [spn_at e, spn_at e, ih m _ (by rw [List.length_drop]; omega) (by rw [List.length_drop]; omega)]
theorem errs_spn : ∀ (k i : Nat) (l : List UInt8), i + k = 8 → errsF i (spn k l) = errsF i (cut l) := by
  intro k
  induction k with
  | zero =>
    intro i l h
    obtain rfl : i = 8 := by omega
    have hc := cut_ne l
    cases hx : cut l with
    | nil => exact absurd hx hc
    | cons a b => rfl
  | succ k ih =>
    intro i l h
    rcases ix_cases 47 l with ⟨e, _⟩ | ⟨j, e, _⟩
    · rw [spn_none e, cut_none e]
    · rw [spn_at e, cut_at e, errsF, errsF, ih (i + 1) _ (by omega)]
theorem spn_cut : ∀ (k i : Nat) (l : List UInt8), i + k = 8 → errsF i (cut l) = 0 → spn k l = cut l := by
  intro k
  induction k with
  | zero =>
    intro i l h h0
    obtain rfl : i = 8 := by omega
    have hc := cut_ne l
    cases hx : cut l with
    | nil => exact absurd hx hc
    | cons a b => rw [hx, errsF] at h0; simp at h0
  | succ k ih =>
    intro i l h h0
    rcases ix_cases 47 l with ⟨e, _⟩ | ⟨j, e, _⟩
    · rw [spn_none e, cut_none e]
    · rw [cut_at e, errsF, if_neg (by omega)] at h0
      rw [spn_at e, cut_at e]
      split at h0
      · rename_i q; exact absurd h0 q
      · rw [ih (i + 1) _ (by omega) h0]
/-- the same of texts -/
def spB : Nat → ByteArray → List ByteArray
  | 0, s => [s]
  | k + 1, s => if indexByte s.data.toList 47 = -1 then [s] else s.extract 0 (indexByte s.data.toList 47).toNat :: spB k (s.extract ((indexByte s.data.toList 47).toNat + 1) s.size)
theorem spB_none {k : Nat} {s : ByteArray} (h : indexByte s.data.toList 47 = -1) : spB k s = [s] := by
  cases k with
  | zero => rfl
  | succ k => rw [spB, if_pos h]
theorem spB_at {k i : Nat} {s : ByteArray} (h : indexByte s.data.toList 47 = i) : spB (k + 1) s = s.extract 0 i :: spB k (s.extract (i + 1) s.size) := by
  rw [spB, if_neg (by omega), h]
  rfl
theorem ext_drop (s : ByteArray) (i : Nat) : (s.extract i s.size).data.toList = s.data.toList.drop i := by
  rw [ByteArray.data_extract, Array.toList_extract, List.extract_eq_take_drop]
  exact List.take_of_length_le (by rw [List.length_drop, ← Lib.size_eq]; omega)
theorem spB_spn : ∀ (k : Nat) (s : ByteArray), (spB k s).map (·.data.toList) = spn k s.data.toList := by
  intro k
  induction k with
  | zero => intro s; rfl
  | succ k ih =>
    intro s
    rcases ix_cases 47 s.data.toList with ⟨e, _⟩ | ⟨i, e, _⟩
    · rw [spB_none e, spn_none e]; rfl
    · rw [spB_at e, spn_at e, List.map_cons, ih, Lib.extract_from_zero, ext_drop]
theorem spB_len : ∀ (k : Nat) (s : ByteArray), 1 ≤ (spB k s).length ∧ (spB k s).length ≤ k + 1 := by
  intro k
  induction k with
  | zero => intro s; exact ⟨Nat.le_refl _, Nat.le_refl _⟩
  | succ k ih =>
    intro s
    rcases ix_cases 47 s.data.toList with ⟨e, _⟩ | ⟨i, e, _⟩
    · rw [spB_none e]; exact ⟨Nat.le_refl _, by simp⟩
    · rw [spB_at e]
      have := (ih (s.extract (i + 1) s.size)).2
      simp only [List.length_cons]
      omega
theorem spB_size : ∀ (k : Nat) (s t : ByteArray), t ∈ spB k s → t.size ≤ s.size := by
  intro k
  induction k with
  | zero => intro s t h; rw [List.mem_singleton.1 h]; exact Nat.le_refl _
  | succ k ih =>
    intro s t h
    rcases ix_cases 47 s.data.toList with ⟨e, _⟩ | ⟨i, e, _⟩
    · rw [spB_none e] at h; rw [List.mem_singleton.1 h]; exact Nat.le_refl _
    · rw [spB_at e] at h
      rcases List.mem_cons.1 h with rfl | h
      · rw [ByteArray.size_extract]; omega
      · have := ih _ _ h
        rw [ByteArray.size_extract] at this
        omega
end Nn
end Go.Proofs.YtfcnlfblfennaaaDoor
