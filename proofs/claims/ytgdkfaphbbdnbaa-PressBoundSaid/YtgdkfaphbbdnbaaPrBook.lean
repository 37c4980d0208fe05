/-
  Codes (no Go in it): signs of one length on a shelf, each code the one ahead plus 1; bits of bytes one by one.
-/
import Derived.Test.YtgdkfaphbbdnbaaPrBound
import Derived.Test.YtgdkfaphbbdnbaaHuffMath5
namespace Go.Proofs.Ytgdkfaphbbdnbaa
namespace Pr

/-- the signs below k whose codes have n bits -/
def shelf (l : List Nat) (n k : Nat) : List Nat := (List.range k).filter fun i => decide (0 < n) && (l.getD i 0 == n)
theorem shelf_nought (l : List Nat) (k : Nat) : shelf l 0 k = [] := by
  unfold shelf
  exact List.filter_eq_nil_iff.2 fun _ _ => by simp
theorem shelf_zero (l : List Nat) (n : Nat) : shelf l n 0 = [] := rfl
theorem shelf_hit {l : List Nat} {n k : Nat} (hn : 0 < n) (h : l.getD k 0 = n) : shelf l n (k + 1) = shelf l n k ++ [k] := by
  unfold shelf
  rw [List.range_succ, List.filter_append]
  simp only [List.filter_cons, h, hn, decide_true, Bool.true_and, beq_self_eq_true, if_true, List.filter_nil]
theorem shelf_miss {l : List Nat} {n k : Nat} (h : l.getD k 0 ≠ n) : shelf l n (k + 1) = shelf l n k := by
  unfold shelf
  rw [List.range_succ, List.filter_append]
  simp only [List.filter_cons, beq_eq_false_iff_ne.2 h, Bool.and_false, Bool.false_eq_true, if_false, List.filter_nil, List.append_nil]
theorem shelf_len (l : List Nat) (n k : Nat) : (shelf l n k).length ≤ k := by
  have := List.length_filter_le (fun i => decide (0 < n) && (l.getD i 0 == n)) (List.range k)
  rw [List.length_range] at this
  exact this
theorem shelf_lt {l : List Nat} {n k : Nat} : ∀ i ∈ shelf l n k, i < k := by
  intro i hi
  exact List.mem_range.1 (List.mem_filter.1 hi).1
theorem nxt_shelf {l : List Nat} {n k : Nat} (hn : 0 < n) (hk : k ≤ l.length) : Hf.nxt l n k = Hf.nxt l n 0 + (shelf l n k).length := by
  induction k with
  | zero => rfl
  | succ k ih =>
    have ih := ih (by omega)
    by_cases h : l.getD k 0 = n
    · rw [Hf.nxt_hit (by omega) hn h, shelf_hit hn h, List.length_append, List.length_singleton, ih]
      omega
    · rw [Hf.nxt_miss h, shelf_miss h, ih]
theorem shelf_code {l : List Nat} {n k : Nat} (hn : 0 < n) (hk : k ≤ l.length) {t i : Nat} (ht : (shelf l n k)[t]? = some i) : i < k ∧ l.getD i 0 = n ∧ Hf.code l i = Hf.nxt l n 0 + t := by
  induction k with
  | zero => simp [shelf_zero] at ht
  | succ k ih =>
    have ih := ih (by omega)
    by_cases h : l.getD k 0 = n
    · rw [shelf_hit hn h] at ht
      by_cases hlt : t < (shelf l n k).length
      · rw [List.getElem?_append_left hlt] at ht
        have := ih ht
        exact ⟨by omega, this.2⟩
      · rw [List.getElem?_append_right (by omega)] at ht
        have h0 : t - (shelf l n k).length = 0 := by
          have := (List.getElem?_eq_some_iff.1 ht).1
          rw [List.length_singleton] at this
          omega
        rw [h0] at ht
        obtain rfl : k = i := by simpa using ht
        refine ⟨by omega, h, ?_⟩
        rw [Hf.code_nxt, h, nxt_shelf hn (by omega)]
        omega
    · rw [shelf_miss h] at ht
      have := ih ht
      exact ⟨by omega, this.2⟩
theorem shelf_there {l : List Nat} {n i : Nat} (hn : 0 < n) (hi : i < l.length) (h : l.getD i 0 = n) : ∃ t, (shelf l n l.length)[t]? = some i ∧ Hf.code l i = Hf.nxt l n 0 + t := by
  have hm : i ∈ shelf l n l.length := List.mem_filter.2 ⟨List.mem_range.2 hi, by rw [h]; simp [hn]⟩
  obtain ⟨t, ht⟩ := List.getElem?_of_mem hm
  exact ⟨t, ht, (shelf_code hn (Nat.le_refl _) ht).2.2⟩
/-- the sign of n bits with this code -/
def fnd (l : List Nat) (n c : Nat) : Option Nat := if Hf.nxt l n 0 ≤ c then (shelf l n l.length)[c - Hf.nxt l n 0]? else none
theorem fnd_some {l : List Nat} {n c i : Nat} (hn : 0 < n) (h : fnd l n c = some i) : i < l.length ∧ l.getD i 0 = n ∧ c = Hf.code l i := by
  unfold fnd at h
  split at h
  · have := shelf_code hn (Nat.le_refl _) h
    exact ⟨this.1, this.2.1, by omega⟩
  · simp at h
theorem fnd_none {l : List Nat} {n c : Nat} (hn : 0 < n) (h : fnd l n c = none) : ∀ i, i < l.length → l.getD i 0 = n → c ≠ Hf.code l i := by
  intro i hi e hc
  obtain ⟨t, h1, h2⟩ := shelf_there hn hi e
  unfold fnd at h
  rw [if_pos (by omega), show c - Hf.nxt l n 0 = t by omega, h1] at h
  simp at h
/-- what stands first on a shelf -/
def fst (l : List Nat) (n k : Nat) : Nat := if (shelf l n k).length = 0 then 0 else Hf.nxt l n 0
theorem fst_le {l : List Nat} (g : Good l) {n : Nat} (hn : n ≤ 48) (k : Nat) : fst l n k ≤ 281474976710656 := by
  unfold fst
  split
  · omega
  · exact Hf.nxt_bound hn g.sum
theorem fst_first {l : List Nat} {n k : Nat} (hn : 0 < n) (hk : k < l.length) (h : l.getD k 0 = n) : fst l n (k + 1) = if (shelf l n k).length = 0 then Hf.code l k else fst l n k := by
  unfold fst
  rw [shelf_hit hn h, List.length_append, List.length_singleton, if_neg (by omega)]
  split
  · rename_i h0
    have e := nxt_shelf hn (Nat.le_of_lt hk)
    rw [h0] at e
    rw [Hf.code_nxt, h, e]
    rfl
  · rfl
theorem fst_miss {l : List Nat} {n k : Nat} (h : l.getD k 0 ≠ n) : fst l n (k + 1) = fst l n k := by
  unfold fst
  rw [shelf_miss h]
/-- finding by what stands first -/
theorem fnd_first (l : List Nat) (n c : Nat) : fnd l n c = if fst l n l.length ≤ c then (shelf l n l.length)[c - fst l n l.length]? else none := by
  unfold fnd fst
  split
  · split
    · rename_i h
      rw [List.length_eq_zero_iff.1 h]
      simp
    · rfl
  · split
    · rename_i h
      rw [List.length_eq_zero_iff.1 h]
      simp
    · rfl
theorem wd_get {c n k : Nat} (h : k < n) : (wd c n)[k]? = some (decide (c / 2 ^ (n - 1 - k) % 2 = 1)) := by
  induction n generalizing c with
  | zero => omega
  | succ n ih =>
    rw [wd]
    by_cases hk : k < n
    · rw [List.getElem?_append_left (by rw [wd_length]; exact hk), ih hk, Nat.div_div_eq_div_mul, ← Nat.pow_succ', show n + 1 - 1 - k = n - 1 - k + 1 by omega]
    · obtain rfl : k = n := by omega
      rw [List.getElem?_append_right (by rw [wd_length]; exact Nat.le_refl _), wd_length, Nat.sub_self, show k + 1 - 1 - k = 0 by omega]
      simp
theorem bitsB_get {L : List Nat} {k : Nat} (h : k < 8 * L.length) : (bitsB L)[k]? = some (decide (L.getD (k / 8) 0 / 2 ^ (7 - k % 8) % 2 = 1)) := by
  induction L generalizing k with
  | nil => simp at h
  | cons b L ih =>
    rw [bitsB_cons]
    by_cases hk : k < 8
    · rw [List.getElem?_append_left (by rw [wd_length]; exact hk), wd_get hk, show k / 8 = 0 by omega, show k % 8 = k by omega]
      rfl
    · rw [List.length_cons] at h
      rw [List.getElem?_append_right (by rw [wd_length]; omega), wd_length, ih (by omega), show k / 8 = (k - 8) / 8 + 1 by omega, show k % 8 = (k - 8) % 8 by omega]
      rfl
end Pr
end Go.Proofs.Ytgdkfaphbbdnbaa
