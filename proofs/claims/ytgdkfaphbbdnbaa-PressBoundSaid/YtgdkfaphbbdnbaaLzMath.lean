/-
  Letters and copies (no Go in it): what tokens make, the longest copies, and that no tokens are fewer.
-/
import Derived.WalkKit
namespace Go.Proofs.Ytgdkfaphbbdnbaa
namespace Lz

abbrev Bs := List UInt8
/-- a letter (len 0), or a copy -/
structure Tk where
  lit : UInt8
  len : Nat
  dist : Nat
def Tk.size (t : Tk) : Nat := if t.len = 0 then 1 else t.len
def cpy (out : Bs) (d : Nat) : Nat → Bs
  | 0 => out
  | n + 1 => cpy out d n ++ [(cpy out d n).getD ((cpy out d n).length - d) 0]
/-- what has been made, and this token's bytes -/
def Tk.make (t : Tk) (out : Bs) : Bs := if t.len = 0 then out ++ [t.lit] else cpy out t.dist t.len
theorem Tk.size_pos (t : Tk) : 1 ≤ t.size := by unfold Tk.size; split <;> omega

theorem cpy_length (out : Bs) (d n : Nat) : (cpy out d n).length = out.length + n := by
  induction n with
  | zero => rfl
  | succ n ih => rw [cpy, List.length_append, ih]; rfl
theorem make_length (t : Tk) (out : Bs) : (t.make out).length = out.length + t.size := by
  unfold Tk.make Tk.size
  split
  · simp
  · rw [cpy_length]
theorem cpy_old (out : Bs) (d n j : Nat) (h : j < out.length) : (cpy out d n)[j]? = out[j]? := by
  induction n with
  | zero => rfl
  | succ n ih => rw [cpy, List.getElem?_append_left (by rw [cpy_length]; omega), ih]
theorem cpy_new (out : Bs) (d : Nat) (h1 : 1 ≤ d) (hd : d ≤ out.length) (n j : Nat) (h : j < n) : (cpy out d n)[out.length + j]? = (cpy out d n)[out.length + j - d]? := by
  induction n with
  | zero => omega
  | succ n ih =>
    have hl := cpy_length out d n
    rw [cpy, List.getElem?_append_left (i := out.length + j - d) (by omega)]
    by_cases hj : j < n
    · rw [List.getElem?_append_left (by omega), ih hj]
    · obtain rfl : j = n := by omega
      have hlt : out.length + j - d < (cpy out d j).length := by omega
      rw [List.getElem?_append_right (by omega), hl, Nat.sub_self, List.getElem?_eq_getElem hlt, List.getElem?_cons_zero, List.getD_eq_getElem?_getD, List.getElem?_eq_getElem hlt, Option.getD_some]
/-- what comes behind the old bytes goes round them, d by d -/
theorem cpy_mod (out : Bs) (d : Nat) (h1 : 1 ≤ d) (hd : d ≤ out.length) (n j : Nat) (h : j < n) : (cpy out d n)[out.length + j]? = out[out.length - d + j % d]? := by
  induction j using Nat.strongRecOn with
  | ind j ih =>
    rw [cpy_new out d h1 hd n j h]
    by_cases hj : j < d
    · rw [Nat.mod_eq_of_lt hj, show out.length + j - d = out.length - d + j from by omega, cpy_old _ _ _ _ (by omega)]
    · rw [show out.length + j - d = out.length + (j - d) from by omega, ih (j - d) (by omega) (by omega), ← Nat.mod_eq_sub_mod (by omega)]

/-! ### a copy's bytes stand d bytes ahead -/
def M (s : Bs) (p d n : Nat) : Prop := p + n ≤ s.length ∧ ∀ j, j < n → s[p + j]? = s[p + j - d]?
theorem M.none {s : Bs} {p d : Nat} (h : p ≤ s.length) : M s p d 0 := ⟨by omega, fun j hj => absurd hj (Nat.not_lt_zero _)⟩
theorem M.succ {s : Bs} {p d n : Nat} (h : M s p d n) (h1 : p + n < s.length) (h2 : s[p + n]? = s[p + n - d]?) : M s p d (n + 1) :=
  ⟨by omega, fun j hj => by
    by_cases e : j < n
    · exact h.2 j e
    · obtain rfl : j = n := by omega
      exact h2⟩
theorem M.less {s : Bs} {p d n m : Nat} (h : M s p d n) (hm : m ≤ n) : M s p d m := ⟨by have := h.1; omega, fun j hj => h.2 j (by omega)⟩
theorem M.tail {s : Bs} {q d n p : Nat} (h : M s q d n) (h1 : q ≤ p) (h2 : p ≤ q + n) : M s p d (q + n - p) :=
  ⟨by have := h.1; omega, fun j hj => by
    have := h.2 (p - q + j) (by omega)
    rwa [show q + (p - q + j) = p + j from by omega] at this⟩
theorem cpy_of {s : Bs} {p d n : Nat} (h1 : 1 ≤ d) (hd : d ≤ p) (h : M s p d n) : cpy (s.take p) d n = s.take (p + n) := by
  induction n with
  | zero => rfl
  | succ n ih =>
    have hs := h.1
    have e := h.2 n (Nat.lt_succ_self n)
    rw [cpy, ih (h.less (Nat.le_succ n)), List.length_take, Nat.min_eq_left (by omega), List.getD_eq_getElem?_getD, List.getElem?_take_of_lt (by omega), ← e, List.getElem?_eq_getElem (by omega), Option.getD_some,
      show p + (n + 1) = (p + n) + 1 from rfl, List.take_succ_eq_append_getElem (by omega)]
theorem M.of_cpy {s : Bs} {p d n : Nat} (h1 : 1 ≤ d) (hd : d ≤ p) (hs : p + n ≤ s.length) (h : cpy (s.take p) d n = s.take (p + n)) : M s p d n := by
  refine ⟨hs, fun j hj => ?_⟩
  have hp : (s.take p).length = p := by rw [List.length_take]; omega
  have := cpy_new (s.take p) d h1 (by omega) n j hj
  rw [hp, h, List.getElem?_take_of_lt (by omega), List.getElem?_take_of_lt (by omega)] at this
  exact this

/-! ### the longest copy at a place -/
def ml (s : Bs) (p d : Nat) : Nat → Nat
  | 0 => 0
  | k + 1 => if ml s p d k = k ∧ p + k < s.length ∧ s[p + k]? = s[p + k - d]? then k + 1 else ml s p d k
theorem ml_le (s : Bs) (p d k : Nat) : ml s p d k ≤ k := by
  induction k with
  | zero => exact Nat.le_refl _
  | succ k ih => rw [ml]; split <;> omega
theorem ml_M {s : Bs} {p : Nat} (hp : p ≤ s.length) (d k : Nat) : M s p d (ml s p d k) := by
  induction k with
  | zero => exact M.none hp
  | succ k ih =>
    rw [ml]
    split
    · rename_i h
      rw [h.1] at ih
      exact ih.succ h.2.1 h.2.2
    · exact ih
theorem ml_full {s : Bs} {p d k : Nat} (h : M s p d k) : ml s p d k = k := by
  induction k with
  | zero => rfl
  | succ k ih => rw [ml, if_pos ⟨ih (h.less (Nat.le_succ k)), by have := h.1; omega, h.2 k (Nat.lt_succ_self k)⟩]
theorem ml_max {s : Bs} {p d k m : Nat} (hm : m ≤ k) (h : M s p d m) : m ≤ ml s p d k := by
  induction k with
  | zero => omega
  | succ k ih =>
    by_cases e : m ≤ k
    · have := ih e
      have := ml_le s p d k
      rw [ml]
      split <;> omega
    · obtain rfl : m = k + 1 := by omega
      rw [ml_full h]
      exact Nat.le_refl _
/-- where the count stops it is the longest -/
theorem ml_stop {s : Bs} {p d k n : Nat} (hp : p ≤ s.length) (hn : n ≤ k) (h : M s p d n) (hs : ¬ (n < k ∧ p + n < s.length ∧ s[p + n]? = s[p + n - d]?)) : n = ml s p d k := by
  have h1 := ml_max hn h
  have h2 := ml_M hp d k
  have h3 := ml_le s p d k
  apply Classical.byContradiction
  intro e
  exact hs ⟨by omega, by have := h2.1; omega, h2.2 n (by omega)⟩
/-- of the distances up to D the first with the longest copy -/
def bst (s : Bs) (p : Nat) : Nat → Nat × Nat
  | 0 => (0, 0)
  | d + 1 => if (bst s p d).1 < ml s p (d + 1) 255 then (ml s p (d + 1) 255, d + 1) else bst s p d
theorem bst_max (s : Bs) (p D d : Nat) (h1 : 1 ≤ d) (hd : d ≤ D) : ml s p d 255 ≤ (bst s p D).1 := by
  induction D with
  | zero => omega
  | succ D ih =>
    rw [bst]
    by_cases e : d ≤ D
    · have := ih e
      split <;> omega
    · obtain rfl : d = D + 1 := by omega
      split <;> omega
theorem bst_is (s : Bs) (p D : Nat) : bst s p D = (0, 0) ∨ (1 ≤ (bst s p D).2 ∧ (bst s p D).2 ≤ D ∧ (bst s p D).1 = ml s p (bst s p D).2 255 ∧ 1 ≤ (bst s p D).1) := by
  induction D with
  | zero => exact .inl rfl
  | succ D ih =>
    rw [bst]
    split
    · exact .inr ⟨by dsimp only; omega, by dsimp only; omega, by dsimp only, by dsimp only; omega⟩
    · rcases ih with h | ⟨h1, h2, h3, h4⟩
      · exact .inl h
      · exact .inr ⟨h1, by omega, h3, h4⟩
def bestAt (s : Bs) (p : Nat) : Nat × Nat := bst s p (min 1024 p)
def tokAt (s : Bs) (p : Nat) : Tk := if (bestAt s p).1 = 0 then ⟨s.getD p 0, 0, 0⟩ else ⟨0, (bestAt s p).1, (bestAt s p).2⟩

/-! ### tokens that make a text from a place on -/
/-- at place q of s this token makes what stands there -/
def Fits (s : Bs) (q : Nat) (t : Tk) : Prop :=
  (t.len = 0 ∧ t.dist = 0 ∧ s[q]? = some t.lit) ∨ (t.lit = 0 ∧ 1 ≤ t.len ∧ t.len ≤ 255 ∧ 1 ≤ t.dist ∧ t.dist ≤ 1024 ∧ t.dist ≤ q ∧ M s q t.dist t.len)
theorem Fits.size {s : Bs} {q : Nat} {t : Tk} (h : Fits s q t) : q + t.size ≤ s.length := by
  unfold Tk.size
  rcases h with ⟨h1, _, h2⟩ | ⟨_, h1, _, _, _, _, h2⟩
  · rw [if_pos h1]
    have := (List.getElem?_eq_some_iff.1 h2).1
    omega
  · rw [if_neg (by omega)]
    exact h2.1
theorem Fits.make {s : Bs} {q : Nat} {t : Tk} (h : Fits s q t) : t.make (s.take q) = s.take (q + t.size) := by
  unfold Tk.make Tk.size
  rcases h with ⟨h1, _, h2⟩ | ⟨_, h1, _, h3, _, h4, h2⟩
  · rw [if_pos h1, if_pos h1]
    obtain ⟨hq, e⟩ := List.getElem?_eq_some_iff.1 h2
    rw [List.take_succ_eq_append_getElem hq, e]
  · rw [if_neg (by omega), if_neg (by omega)]
    exact cpy_of h3 h4 h2
theorem fits_tokAt {s : Bs} {p : Nat} (hp : p < s.length) : Fits s p (tokAt s p) := by
  unfold tokAt
  have hb := bst_is s p (min 1024 p)
  split
  · refine .inl ⟨rfl, rfl, ?_⟩
    rw [List.getD_eq_getElem?_getD, List.getElem?_eq_getElem hp, Option.getD_some]
  · rename_i h
    rcases hb with e | ⟨h1, h2, h3, h4⟩
    · exact absurd (by unfold bestAt; rw [e]) h
    · refine .inr ⟨rfl, h4, ?_, h1, ?_, ?_, ?_⟩
      · show (bst s p (min 1024 p)).1 ≤ 255
        rw [h3]; exact ml_le _ _ _ _
      · show (bst s p (min 1024 p)).2 ≤ 1024
        omega
      · show (bst s p (min 1024 p)).2 ≤ p
        omega
      · show M s p (bst s p (min 1024 p)).2 (bst s p (min 1024 p)).1
        rw [h3]
        exact ml_M (by omega) _ _
/-- a token that begins no later reaches no further than the longest copy does -/
theorem reach {s : Bs} {q p : Nat} {t : Tk} (h : Fits s q t) (h1 : q ≤ p) (h2 : p < q + t.size) : q + t.size ≤ p + (tokAt s p).size := by
  have hz := (tokAt s p).size_pos
  rcases h with ⟨e, _, _⟩ | ⟨_, e1, e2, e3, e4, e5, hM⟩
  · unfold Tk.size at h2 ⊢
    rw [if_pos e] at h2 ⊢
    unfold Tk.size at hz
    omega
  · have hsz : t.size = t.len := by unfold Tk.size; rw [if_neg (by omega)]
    rw [hsz] at h2 ⊢
    have hm := ml_max (k := 255) (by omega) (hM.tail h1 (by omega))
    have hb := bst_max s p (min 1024 p) t.dist e3 (by omega)
    have : t.len + q - p ≤ (tokAt s p).size := by
      unfold tokAt Tk.size
      have : ¬ (bestAt s p).1 = 0 := by
        show ¬ (bst s p (min 1024 p)).1 = 0
        omega
      rw [if_neg this, if_neg this]
      show _ ≤ (bst s p (min 1024 p)).1
      omega
    omega
def Makes (s : Bs) : Nat → List Tk → Prop
  | q, [] => q = s.length
  | q, t :: l => Fits s q t ∧ Makes s (q + t.size) l
def gr (s : Bs) : Nat → Nat → List Tk
  | 0, _ => []
  | f + 1, p => if p < s.length then tokAt s p :: gr s f (p + (tokAt s p).size) else []
theorem gr_fuel (s : Bs) (f g p : Nat) (hf : s.length ≤ p + f) (hg : s.length ≤ p + g) : gr s f p = gr s g p := by
  induction f generalizing g p with
  | zero =>
    cases g with
    | zero => rfl
    | succ g => rw [gr, gr, if_neg (by omega)]
  | succ f ih =>
    have hz := (tokAt s p).size_pos
    cases g with
    | zero => rw [gr, gr, if_neg (by omega)]
    | succ g =>
      rw [gr, gr]
      split
      · rw [ih g _ (by omega) (by omega)]
      · rfl
/-- the longest copies' tokens -/
def greedy (s : Bs) : List Tk := gr s s.length 0
def rest (s : Bs) (p : Nat) : List Tk := gr s (s.length - p) p
theorem rest_zero (s : Bs) : rest s 0 = greedy s := rfl
theorem rest_end (s : Bs) (p : Nat) (h : s.length ≤ p) : rest s p = [] := by
  unfold rest
  rw [show s.length - p = 0 from by omega]
  rfl
theorem rest_step (s : Bs) (p : Nat) (h : p < s.length) : rest s p = tokAt s p :: rest s (p + (tokAt s p).size) := by
  have hz := (tokAt s p).size_pos
  unfold rest
  rw [show s.length - p = (s.length - p - 1) + 1 from by omega, gr, if_pos h, gr_fuel s (s.length - p - 1) (s.length - (p + (tokAt s p).size)) _ (by omega) (by omega)]
theorem makes_rest (s : Bs) (n p : Nat) (hn : s.length - p = n) (hp : p ≤ s.length) : Makes s p (rest s p) := by
  induction n using Nat.strongRecOn generalizing p with
  | ind n ih =>
    by_cases h : p < s.length
    · have hF := fits_tokAt h
      have hz := (tokAt s p).size_pos
      have hs := hF.size
      rw [rest_step s p h]
      exact ⟨hF, ih (s.length - (p + (tokAt s p).size)) (by omega) _ rfl hs⟩
    · rw [rest_end s p (by omega)]
      show p = s.length
      omega
theorem makes_greedy (s : Bs) : Makes s 0 (greedy s) := makes_rest s _ 0 rfl (Nat.zero_le _)
/-- STORER, SZYMANSKI -/
theorem least (s : Bs) (l : List Tk) (q p : Nat) (h : Makes s q l) (h1 : q ≤ p) (h2 : p ≤ s.length) : (rest s p).length ≤ l.length := by
  induction l generalizing q p with
  | nil =>
    have : q = s.length := h
    rw [rest_end s p (by omega)]
    exact Nat.le_refl _
  | cons t l ih =>
    obtain ⟨hF, hM⟩ := h
    by_cases e : q + t.size ≤ p
    · have := ih _ _ hM e h2
      rw [List.length_cons]
      omega
    · have hs := hF.size
      have hp : p < s.length := by omega
      have hr := reach hF h1 (by omega)
      have hs2 := (fits_tokAt hp).size
      have := ih _ _ hM hr hs2
      rw [rest_step s p hp, List.length_cons, List.length_cons]
      omega
theorem greedy_least (s : Bs) (l : List Tk) (h : Makes s 0 l) : (greedy s).length ≤ l.length := least s l 0 0 h (Nat.le_refl _) (Nat.zero_le _)
theorem makes_length (s : Bs) (l : List Tk) (q : Nat) (h : Makes s q l) : l.length + q ≤ s.length := by
  induction l generalizing q with
  | nil =>
    have : q = s.length := h
    simp only [List.length_nil]; omega
  | cons t l ih =>
    have := ih _ h.2
    have := t.size_pos
    rw [List.length_cons]
    omega
end Lz
end Go.Proofs.Ytgdkfaphbbdnbaa
