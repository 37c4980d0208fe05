/-
  Codes (no Go in it): bits of numbers, bytes of bits, words that are free of each other and the signs that are read by them.
-/
import Derived.Test.YtgdkfaphbbdnbaaHuffMath3
namespace Go.Proofs.Ytgdkfaphbbdnbaa
namespace Pr

/-- n bits of c, the highest first -/
def wd (c : Nat) : Nat → List Bool
  | 0 => []
  | n + 1 => wd (c / 2) n ++ [decide (c % 2 = 1)]
def val (l : List Bool) : Nat := l.foldl (fun n b => 2 * n + (if b then 1 else 0)) 0
theorem snoc_ind {M : List Bool → Prop} (nil : M []) (snoc : ∀ l b, M l → M (l ++ [b])) (l : List Bool) : M l := by
  have : ∀ n (l : List Bool), l.length = n → M l := by
    intro n
    induction n with
    | zero => intro l h; rw [List.length_eq_zero_iff.1 h]; exact nil
    | succ n ih =>
      intro l h
      have hne : l ≠ [] := fun e => by rw [e] at h; simp at h
      rw [← List.dropLast_concat_getLast hne]
      exact snoc _ _ (ih _ (by rw [List.length_dropLast, h]; rfl))
  exact this _ l rfl
theorem wd_length (c n : Nat) : (wd c n).length = n := by
  induction n generalizing c with
  | zero => rfl
  | succ n ih => simp [wd, ih]
theorem val_snoc (l : List Bool) (b : Bool) : val (l ++ [b]) = 2 * val l + (if b then 1 else 0) := by simp [val]
theorem val_wd {c n : Nat} (h : c < 2 ^ n) : val (wd c n) = c := by
  induction n generalizing c with
  | zero =>
    have : c = 0 := by simpa using h
    rw [this]; rfl
  | succ n ih =>
    rw [wd, val_snoc, ih (by rw [Nat.pow_succ] at h; omega)]
    by_cases e : c % 2 = 1
    · simp only [e, decide_true, if_true]; omega
    · simp only [e, decide_false, Bool.false_eq_true, if_false]; omega
theorem val_lt (l : List Bool) : val l < 2 ^ l.length := by
  induction l using snoc_ind with
  | nil => decide
  | snoc l b ih =>
    rw [val_snoc, List.length_append, List.length_singleton, Nat.pow_succ]
    split <;> omega
theorem wd_val (l : List Bool) : wd (val l) l.length = l := by
  induction l using snoc_ind with
  | nil => rfl
  | snoc l b ih =>
    rw [List.length_append, List.length_singleton, wd, val_snoc]
    cases b
    · rw [show (2 * val l + (if false = true then 1 else 0)) / 2 = val l by simp, ih]
      simp
    · rw [show (2 * val l + (if true = true then 1 else 0)) / 2 = val l by simp; omega, ih]
      simp
theorem wd_inj {c d n : Nat} (hc : c < 2 ^ n) (hd : d < 2 ^ n) (h : wd c n = wd d n) : c = d := by
  rw [← val_wd hc, ← val_wd hd, h]
theorem wd_add (c m k : Nat) : wd c (m + k) = wd (c / 2 ^ k) m ++ wd c k := by
  induction k generalizing c with
  | zero => simp [wd]
  | succ k ih =>
    rw [show m + (k + 1) = (m + k) + 1 by omega, wd, ih, wd, List.append_assoc, Nat.div_div_eq_div_mul, Nat.pow_succ, Nat.mul_comm 2]
theorem wd_take {c m n : Nat} (h : m ≤ n) : (wd c n).take m = wd (c / 2 ^ (n - m)) m := by
  obtain ⟨k, rfl⟩ := Nat.le.dest h
  rw [wd_add, Nat.add_sub_cancel_left, List.take_left' (wd_length _ _)]
/-- a sign's word -/
def W (l : List Nat) (i : Nat) : List Bool := wd (Hf.code l i) (l.getD i 0)
theorem W_length (l : List Nat) (i : Nat) : (W l i).length = l.getD i 0 := wd_length _ _
/-- lengths that have codes -/
structure Good (l : List Nat) : Prop where
  le : ∀ i, l.getD i 0 ≤ 48
  sum : Hf.ksum l ≤ 2 ^ 48
def fits (l : List Nat) (b : List Bool) (i : Nat) : Bool := decide (i < l.length) && decide (0 < l.getD i 0) && decide (b.take (l.getD i 0) = W l i)
theorem fits_iff {l : List Nat} {b : List Bool} {i : Nat} : fits l b i = true ↔ i < l.length ∧ 0 < l.getD i 0 ∧ b.take (l.getD i 0) = W l i := by
  simp [fits, and_assoc]
theorem Good.lt {l : List Nat} (g : Good l) {i : Nat} (hi : i < l.length) (h0 : 0 < l.getD i 0) : Hf.code l i < 2 ^ l.getD i 0 := Hf.code_lt hi h0 (g.le i) g.sum
theorem fits_one {l : List Nat} (g : Good l) {b : List Bool} {i j : Nat} (hi : fits l b i = true) (hj : fits l b j = true) : i = j := by
  obtain ⟨i1, i2, i3⟩ := fits_iff.1 hi
  obtain ⟨j1, j2, j3⟩ := fits_iff.1 hj
  have key : ∀ i j, i < l.length → j < l.length → 0 < l.getD i 0 → l.getD i 0 ≤ l.getD j 0 → 0 < l.getD j 0 → b.take (l.getD i 0) = W l i → b.take (l.getD j 0) = W l j → i = j := by
    intro i j hi hj h0 hle h0' e1 e2
    apply Classical.byContradiction
    intro hij
    refine Hf.code_free hi hj hij h0 hle (g.le j) ?_
    have e : W l i = (W l j).take (l.getD i 0) := by
      rw [← e1, ← e2, List.take_take, Nat.min_eq_left hle]
    unfold W at e
    rw [wd_take hle] at e
    refine (wd_inj (g.lt hi h0) ?_ e).symm
    have := g.lt hj h0'
    rw [Nat.div_lt_iff_lt_mul (Nat.two_pow_pos _), ← Nat.pow_add]
    rwa [show l.getD i 0 + (l.getD j 0 - l.getD i 0) = l.getD j 0 by omega]
  rcases Nat.le_total (l.getD i 0) (l.getD j 0) with h | h
  · exact key i j i1 j1 i2 h j2 i3 j3
  · exact (key j i j1 i1 j2 h i2 j3 i3).symm
/-- the sign whose word stands in front -/
def front (l : List Nat) (b : List Bool) : Option Nat := (List.range l.length).find? (fits l b)
theorem front_some {l : List Nat} (g : Good l) {b : List Bool} {i : Nat} : front l b = some i ↔ fits l b i = true := by
  constructor
  · exact fun h => List.find?_some h
  · intro h
    cases e : front l b with
    | none => exact absurd h (List.find?_eq_none.1 e i (List.mem_range.2 (fits_iff.1 h).1))
    | some j => rw [fits_one g (List.find?_some e) h]
theorem front_none {l : List Nat} {b : List Bool} : front l b = none ↔ ∀ i, fits l b i = false := by
  constructor
  · intro h i
    cases e : fits l b i with
    | false => rfl
    | true => exact absurd e (List.find?_eq_none.1 h i (List.mem_range.2 (fits_iff.1 e).1))
  · exact fun h => List.find?_eq_none.2 fun i _ => by rw [h i]; simp
/-- so many signs; else whether 48 bits are no code -/
def signs (l : List Nat) : Nat → List Bool → Sum Bool (List Nat × List Bool)
  | 0, b => .inr ([], b)
  | n + 1, b => match front l b with
    | none => .inl (decide (48 ≤ b.length))
    | some i => match signs l n (b.drop (l.getD i 0)) with
      | .inl e => .inl e
      | .inr (t, r) => .inr (i :: t, r)
def words (l : List Nat) (t : List Nat) : List Bool := t.flatMap (W l)
theorem words_cons (l : List Nat) (i : Nat) (t : List Nat) : words l (i :: t) = W l i ++ words l t := by simp [words]
theorem words_snoc (l : List Nat) (t : List Nat) (i : Nat) : words l (t ++ [i]) = words l t ++ W l i := by simp [words]
theorem front_word {l : List Nat} (g : Good l) {i : Nat} (hi : i < l.length) (h0 : 0 < l.getD i 0) (r : List Bool) : front l (W l i ++ r) = some i :=
  (front_some g).2 (fits_iff.2 ⟨hi, h0, List.take_left' (W_length l i)⟩)
/-- what was laid by words is read again -/
theorem signs_words {l : List Nat} (g : Good l) {t : List Nat} (ht : ∀ i ∈ t, i < l.length ∧ 0 < l.getD i 0) (r : List Bool) : signs l t.length (words l t ++ r) = .inr (t, r) := by
  induction t with
  | nil => rfl
  | cons i t ih =>
    obtain ⟨h1, h2⟩ := ht i List.mem_cons_self
    rw [List.length_cons, words_cons, List.append_assoc, signs, front_word g h1 h2]
    simp only []
    rw [List.drop_left' (W_length l i), ih fun j hj => ht j (List.mem_cons_of_mem _ hj)]
theorem signs_of {l : List Nat} {n : Nat} {b : List Bool} {t : List Nat} {r : List Bool} (h : signs l n b = .inr (t, r)) : t.length = n ∧ b = words l t ++ r ∧ ∀ i ∈ t, i < l.length ∧ 0 < l.getD i 0 := by
  induction n generalizing b t with
  | zero =>
    simp only [signs, Sum.inr.injEq, Prod.mk.injEq] at h
    obtain ⟨rfl, rfl⟩ := h
    exact ⟨rfl, rfl, fun _ h => absurd h List.not_mem_nil⟩
  | succ n ih =>
    rw [signs] at h
    cases e : front l b with
    | none => rw [e] at h; simp at h
    | some i =>
      rw [e] at h
      simp only [] at h
      cases e2 : signs l n (b.drop (l.getD i 0)) with
      | inl q => rw [e2] at h; simp at h
      | inr q =>
        obtain ⟨t', r'⟩ := q
        rw [e2] at h
        simp only [Sum.inr.injEq, Prod.mk.injEq] at h
        obtain ⟨rfl, rfl⟩ := h
        obtain ⟨k1, k2, k3⟩ := ih e2
        obtain ⟨f1, f2, f3⟩ := fits_iff.1 (List.find?_some e)
        refine ⟨by simp [k1], ?_, fun j hj => ?_⟩
        · rw [words_cons, List.append_assoc, ← k2, ← f3, List.take_append_drop]
        · rcases List.mem_cons.1 hj with rfl | hj
          · exact ⟨f1, f2⟩
          · exact k3 j hj
end Pr
end Go.Proofs.Ytgdkfaphbbdnbaa
