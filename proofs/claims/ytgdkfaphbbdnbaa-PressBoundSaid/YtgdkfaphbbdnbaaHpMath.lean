/-
  Heaps of signs kept in a list as a binary tree (no program in it): putting one in, taking the least out.
-/
import Derived.Test.YtgdkfaphbbdnbaaHuffMath4
import Derived.WalkKit
namespace Go.Proofs.Ytgdkfaphbbdnbaa
namespace Hf

/-- a heap of signs, with the value that its list of signs is -/
structure G where
  wt : Nat
  low : Nat
  sg : List Nat
  sv : Value
def G.z : G := ⟨0, 0, [], .slice none 0 0⟩
def ltG (a b : G) : Bool := decide (a.wt < b.wt ∨ (a.wt = b.wt ∧ a.low < b.low))
theorem ltG_iff {a b : G} : ltG a b = true ↔ (a.wt < b.wt ∨ (a.wt = b.wt ∧ a.low < b.low)) := by unfold ltG; exact decide_eq_true_iff
theorem ltG_not {a b : G} : ltG a b = false ↔ (b.wt < a.wt ∨ (b.wt = a.wt ∧ b.low ≤ a.low)) := by
  rw [← Bool.not_eq_true, ltG_iff]
  omega
theorem ge_trans {a b c : G} (h1 : ltG b a = false) (h2 : ltG c b = false) : ltG c a = false := by
  rw [ltG_not] at *
  omega
theorem lt_ge {a b : G} (h : ltG a b = true) : ltG b a = false := by
  rw [ltG_iff] at h
  rw [ltG_not]
  omega
theorem ge_refl (a : G) : ltG a a = false := by rw [ltG_not]; omega
def nth (l : List G) (i : Nat) : G := l.getD i G.z
theorem nth_get {l : List G} {i : Nat} (h : i < l.length) : nth l i = l[i] := by
  unfold nth
  rw [List.getD_eq_getElem?_getD, List.getElem?_eq_getElem h]
  rfl
theorem nth_mem {l : List G} {i : Nat} (h : i < l.length) : nth l i ∈ l := by
  rw [nth_get h]
  exact List.getElem_mem h
theorem nth_set {l : List G} {i j : Nat} {x : G} (hi : i < l.length) : nth (l.set i x) j = if i = j then x else nth l j := by
  unfold nth
  rw [List.getD_eq_getElem?_getD, List.getD_eq_getElem?_getD, List.getElem?_set]
  by_cases h : i = j
  · rw [if_pos h, if_pos h, if_pos (by omega)]
    rfl
  · rw [if_neg h, if_neg h]
def swp (l : List G) (i j : Nat) : List G := (l.set i (nth l j)).set j (nth l i)
theorem swp_length (l : List G) (i j : Nat) : (swp l i j).length = l.length := by simp [swp]
theorem nth_swp {l : List G} {i j k : Nat} (hi : i < l.length) (hj : j < l.length) : nth (swp l i j) k = if j = k then nth l i else if i = k then nth l j else nth l k := by
  unfold swp
  rw [nth_set (by simpa using hj), nth_set hi]
theorem swp_perm {l : List G} {i j : Nat} (hi : i < l.length) (hj : j < l.length) : (swp l i j).Perm l := by
  have := Array.swap_perm (xs := l.toArray) (i := i) (j := j) (by simpa using hi) (by simpa using hj)
  have h := this.toList
  unfold swp
  rw [nth_get hi, nth_get hj]
  simpa [Array.swap] using h
/-- each is not before the one above it -/
def Ord (l : List G) : Prop := ∀ i, 0 < i → i < l.length → ltG (nth l i) (nth l ((i - 1) / 2)) = false
/-- so, but for the one at p, which may be before those above it -/
structure Up (l : List G) (p : Nat) : Prop where
  other : ∀ i, 0 < i → i < l.length → i ≠ p → ltG (nth l i) (nth l ((i - 1) / 2)) = false
  kids : ∀ i, 0 < i → i < l.length → (i - 1) / 2 = p → 0 < p → ltG (nth l i) (nth l ((p - 1) / 2)) = false
theorem Up.done {l : List G} {p : Nat} (h : Up l p) (hp : p = 0 ∨ ltG (nth l p) (nth l ((p - 1) / 2)) = false) : Ord l := by
  intro i h0 hi
  by_cases e : i = p
  · subst e
    rcases hp with hp | hp
    · omega
    · exact hp
  · exact h.other i h0 hi e
theorem Up.step {l : List G} {p : Nat} (h : Up l p) (hp : 0 < p) (hl : p < l.length) (hlt : ltG (nth l p) (nth l ((p - 1) / 2)) = true) : Up (swp l p ((p - 1) / 2)) ((p - 1) / 2) := by
  have hq : (p - 1) / 2 < l.length := by omega
  have hqp : (p - 1) / 2 < p := by omega
  obtain ⟨q, eq⟩ : ∃ q, q = (p - 1) / 2 := ⟨_, rfl⟩
  rw [← eq] at hlt hq hqp ⊢
  constructor
  · intro i h0 hi hne
    rw [swp_length] at hi
    rw [nth_swp hl hq, nth_swp hl hq]
    by_cases e1 : i = p
    · subst e1
      rw [if_neg (by omega), if_pos rfl, ← eq, if_pos rfl]
      exact lt_ge hlt
    · rw [if_neg (fun e => hne e.symm), if_neg (fun e => e1 e.symm)]
      by_cases e2 : q = (i - 1) / 2
      · rw [if_pos e2]
        have h1 := h.other i h0 hi e1
        rw [← e2] at h1
        exact ge_trans (lt_ge hlt) h1
      · rw [if_neg e2]
        by_cases e3 : p = (i - 1) / 2
        · rw [if_pos e3]
          have := h.kids i h0 hi e3.symm hp
          rw [← eq] at this
          exact this
        · rw [if_neg e3]
          exact h.other i h0 hi e1
  · intro i h0 hi hiq hq0
    rw [swp_length] at hi
    rw [nth_swp hl hq, nth_swp hl hq]
    have hqq := h.other q hq0 hq (by omega)
    rw [if_neg (show q ≠ (q - 1) / 2 by omega), if_neg (show p ≠ (q - 1) / 2 by omega)]
    by_cases e1 : i = p
    · subst e1
      rw [if_neg (by omega), if_pos rfl]
      exact hqq
    · rw [if_neg (by omega), if_neg (fun e => e1 e.symm)]
      have h1 := h.other i h0 hi e1
      rw [hiq] at h1
      exact ge_trans hqq h1
theorem Up.start {l : List G} (h : Ord l) (x : G) : Up (l ++ [x]) l.length := by
  have e : ∀ i, i < l.length → nth (l ++ [x]) i = nth l i := fun i hi => by
    unfold nth
    rw [List.getD_eq_getElem?_getD, List.getD_eq_getElem?_getD, List.getElem?_append_left hi]
  constructor
  · intro i h0 hi hne
    have hi : i < l.length := by simp at hi; omega
    rw [e i hi, e _ (by omega)]
    exact h i h0 hi
  · intro i h0 hi hp _
    simp at hi
    omega
/-- so, but for the one at p, which may be behind those below it -/
structure Dn (l : List G) (p : Nat) : Prop where
  other : ∀ i, 0 < i → i < l.length → (i - 1) / 2 ≠ p → ltG (nth l i) (nth l ((i - 1) / 2)) = false
  kids : ∀ i, 0 < i → i < l.length → (i - 1) / 2 = p → 0 < p → ltG (nth l i) (nth l ((p - 1) / 2)) = false
/-- of the one at p and its kids the first -/
def one (l : List G) (p : Nat) : Nat := if 2 * p + 1 < l.length ∧ ltG (nth l (2 * p + 1)) (nth l p) = true then 2 * p + 1 else p
def least (l : List G) (p : Nat) : Nat := if 2 * p + 2 < l.length ∧ ltG (nth l (2 * p + 2)) (nth l (one l p)) = true then 2 * p + 2 else one l p
theorem one_le {l : List G} {p : Nat} : ltG (nth l p) (nth l (one l p)) = false ∧ (2 * p + 1 < l.length → ltG (nth l (2 * p + 1)) (nth l (one l p)) = false) ∧ (one l p = p ∨ (one l p = 2 * p + 1 ∧ 2 * p + 1 < l.length ∧ ltG (nth l (one l p)) (nth l p) = true)) := by
  unfold one
  by_cases h : 2 * p + 1 < l.length ∧ ltG (nth l (2 * p + 1)) (nth l p) = true
  · rw [if_pos h]
    exact ⟨lt_ge h.2, fun _ => ge_refl _, .inr ⟨rfl, h.1, h.2⟩⟩
  · rw [if_neg h]
    exact ⟨ge_refl _, fun h1 => Bool.eq_false_iff.2 fun e => h ⟨h1, e⟩, .inl rfl⟩
theorem least_le {l : List G} {p : Nat} : ltG (nth l p) (nth l (least l p)) = false ∧ (2 * p + 1 < l.length → ltG (nth l (2 * p + 1)) (nth l (least l p)) = false) ∧ (2 * p + 2 < l.length → ltG (nth l (2 * p + 2)) (nth l (least l p)) = false) ∧
    (least l p = p ∨ ((least l p = 2 * p + 1 ∨ least l p = 2 * p + 2) ∧ least l p < l.length)) := by
  obtain ⟨h1, h2, h3⟩ := one_le (l := l) (p := p)
  unfold least
  by_cases h : 2 * p + 2 < l.length ∧ ltG (nth l (2 * p + 2)) (nth l (one l p)) = true
  · rw [if_pos h]
    have := lt_ge h.2
    exact ⟨ge_trans this h1, fun e => ge_trans this (h2 e), fun _ => ge_refl _, .inr ⟨.inr rfl, h.1⟩⟩
  · rw [if_neg h]
    refine ⟨h1, h2, fun e => Bool.eq_false_iff.2 fun e' => h ⟨e, e'⟩, ?_⟩
    rcases h3 with h3 | ⟨h3, h4, _⟩
    · exact .inl h3
    · exact .inr ⟨.inl h3, by omega⟩
theorem Dn.done {l : List G} {p : Nat} (h : Dn l p) (hp : least l p = p) : Ord l := by
  obtain ⟨_, h1, h2, _⟩ := least_le (l := l) (p := p)
  rw [hp] at h1 h2
  intro i h0 hi
  by_cases e : (i - 1) / 2 = p
  · rw [e]
    rcases (show i = 2 * p + 1 ∨ i = 2 * p + 2 by omega) with rfl | rfl
    · exact h1 hi
    · exact h2 hi
  · exact h.other i h0 hi e
theorem Dn.step {l : List G} {p m : Nat} (h : Dn l p) (hp : p < l.length) (hm : least l p = m) (hne : m ≠ p) : Dn (swp l p m) m ∧ p < m ∧ m < l.length := by
  obtain ⟨h0, h1, h2, h3⟩ := least_le (l := l) (p := p)
  rw [hm] at h0 h1 h2 h3
  obtain ⟨hc, hml⟩ : (m = 2 * p + 1 ∨ m = 2 * p + 2) ∧ m < l.length := by
    rcases h3 with h3 | h3
    · exact absurd h3 hne
    · exact h3
  have hpm : (m - 1) / 2 = p := by omega
  refine ⟨⟨fun i i0 hi hq => ?_, fun i i0 hi hq m0 => ?_⟩, by omega, hml⟩
  · rw [swp_length] at hi
    rw [nth_swp hp hml, nth_swp hp hml]
    rw [if_neg (show m ≠ (i - 1) / 2 from fun e => hq e.symm)]
    by_cases e1 : i = m
    · subst e1
      rw [if_pos rfl, hpm, if_pos rfl]
      exact h0
    · rw [if_neg (fun e => e1 e.symm)]
      by_cases e2 : p = i
      · subst e2
        rw [if_pos rfl, if_neg (show p ≠ (p - 1) / 2 by omega)]
        exact h.kids m (by omega) hml hpm i0
      · rw [if_neg e2]
        by_cases e3 : p = (i - 1) / 2
        · rw [if_pos e3]
          rcases (show i = 2 * p + 1 ∨ i = 2 * p + 2 by omega) with rfl | rfl
          · exact h1 hi
          · exact h2 hi
        · rw [if_neg e3]
          exact h.other i i0 hi (fun e => e3 e.symm)
  · rw [swp_length] at hi
    rw [nth_swp hp hml, nth_swp hp hml, hpm, if_neg hne, if_pos rfl, if_neg (show m ≠ i by omega), if_neg (show p ≠ i by omega)]
    have := h.other i i0 hi (by omega)
    rw [hq] at this
    exact this
theorem nth_dropLast {l : List G} {i : Nat} (h : i < l.length - 1) : nth l.dropLast i = nth l i := by
  rw [nth_get (by simpa using h), nth_get (by omega)]
  simp
/-- the first and the last changed, the last one off -/
theorem Dn.start {l : List G} (h : Ord l) : Dn (swp l 0 (l.length - 1)).dropLast 0 := by
  constructor
  · intro i i0 hi hq
    have hl : i < l.length - 1 := by simpa [swp_length] using hi
    rw [nth_dropLast (by rw [swp_length]; exact hl), nth_dropLast (by rw [swp_length]; omega), nth_swp (by omega) (by omega), nth_swp (by omega) (by omega)]
    rw [if_neg (by omega), if_neg (by omega), if_neg (by omega), if_neg (by omega)]
    exact h i i0 (by omega)
  · intro i _ _ _ h0
    omega
theorem start_perm {l : List G} (h : 0 < l.length) : l.Perm (nth l 0 :: (swp l 0 (l.length - 1)).dropLast) := by
  have hp := swp_perm (l := l) (i := 0) (j := l.length - 1) h (by omega)
  have hne : swp l 0 (l.length - 1) ≠ [] := by
    intro e
    have := swp_length l 0 (l.length - 1)
    rw [e] at this
    simp at this
    omega
  have hl : (swp l 0 (l.length - 1)).getLast hne = nth l 0 := by
    rw [List.getLast_eq_getElem, ← nth_get (by rw [swp_length]; omega), nth_swp h (by omega), swp_length, if_pos rfl]
  have := List.dropLast_concat_getLast hne
  rw [hl] at this
  refine hp.symm.trans ?_
  conv => lhs; rw [← this]
  exact List.perm_append_comm
/-- the first one is before all -/
theorem Ord.first {l : List G} (h : Ord l) : ∀ i, i < l.length → ltG (nth l i) (nth l 0) = false := by
  intro i
  induction i using Nat.strongRecOn with
  | _ i ih =>
    intro hi
    by_cases h0 : i = 0
    · subst h0
      exact ge_refl _
    · exact ge_trans (ih ((i - 1) / 2) (by omega) (by omega)) (h i (by omega) hi)
theorem Ord.first_mem {l : List G} (h : Ord l) : ∀ c ∈ l, ltG c (nth l 0) = false := by
  intro c hc
  obtain ⟨i, hi, rfl⟩ := List.getElem_of_mem hc
  rw [← nth_get hi]
  exact h.first i hi
theorem Ord.nil : Ord [] := fun i _ hi => by simp at hi
end Hf
end Go.Proofs.Ytgdkfaphbbdnbaa
