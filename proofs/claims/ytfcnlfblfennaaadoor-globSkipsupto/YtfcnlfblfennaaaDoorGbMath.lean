/-
  Under P40, P41 (no Go in it): rows of tests, some of which take any number of things; the table of beginnings; two rows one behind the other.
-/
import Derived.Lib.Strings
namespace Go.Proofs.YtfcnlfblfennaaaDoor
namespace Gb

section
variable {α β : Type}
/-- do the tests (none: any number of things, also none) take all of these things, in order? -/
def fit (one : β → α → Bool) : List (Option β) → List α → Bool
  | [], l => l.isEmpty
  | some b :: p, l => match l with
    | [] => false
    | a :: t => one b a && fit one p t
  | none :: p, l => (List.range (l.length + 1)).any fun k => fit one p (l.drop k)
theorem fit_nil (one : β → α → Bool) (l : List α) : fit one [] l = l.isEmpty := by rw [fit]
theorem fit_one_nil (one : β → α → Bool) (b : β) (p : List (Option β)) : fit one (some b :: p) [] = false := by rw [fit]
theorem fit_one_cons (one : β → α → Bool) (b : β) (p : List (Option β)) (a : α) (t : List α) : fit one (some b :: p) (a :: t) = (one b a && fit one p t) := by rw [fit]
/-- the same by the ends that a row may be cut at -/
theorem fit_any_iff (one : β → α → Bool) (p : List (Option β)) (l : List α) : fit one (none :: p) l = true ↔ ∃ k, k ≤ l.length ∧ fit one p (l.drop k) = true := by
  rw [fit, List.any_eq_true]
  constructor
  · rintro ⟨k, hk, h⟩
    exact ⟨k, by have := List.mem_range.1 hk; omega, h⟩
  · rintro ⟨k, hk, h⟩
    exact ⟨k, List.mem_range.2 (by omega), h⟩
/-- the first thing is taken, or not -/
theorem fit_any_nil (one : β → α → Bool) (p : List (Option β)) : fit one (none :: p) [] = fit one p [] := by
  rw [Bool.eq_iff_iff, fit_any_iff]
  exact ⟨fun ⟨k, _, h⟩ => by simpa using h, fun h => ⟨0, Nat.le_refl _, h⟩⟩
theorem fit_any_cons (one : β → α → Bool) (p : List (Option β)) (a : α) (t : List α) : fit one (none :: p) (a :: t) = (fit one p (a :: t) || fit one (none :: p) t) := by
  rw [Bool.eq_iff_iff, Bool.or_eq_true, fit_any_iff, fit_any_iff]
  constructor
  · rintro ⟨k, hk, h⟩
    cases k with
    | zero => exact .inl h
    | succ k => exact .inr ⟨k, by rw [List.length_cons] at hk; omega, h⟩
  · rintro (h | ⟨k, hk, h⟩)
    · exact ⟨0, Nat.zero_le _, h⟩
    · exact ⟨k + 1, by rw [List.length_cons]; omega, h⟩
/-- two rows, one behind the other -/
theorem fit_append (one : β → α → Bool) (q : List (Option β)) : ∀ (p : List (Option β)) (l : List α), fit one (p ++ q) l = true ↔ ∃ k, k ≤ l.length ∧ fit one p (l.take k) = true ∧ fit one q (l.drop k) = true
  | [], l => by
    constructor
    · intro h
      exact ⟨0, Nat.zero_le _, by rw [fit_nil]; simp, h⟩
    · rintro ⟨k, hk, h1, h2⟩
      rw [fit_nil, List.isEmpty_iff] at h1
      have : k = 0 ∨ l = [] := by
        rcases List.take_eq_nil_iff.1 h1 with e | e
        · exact .inl e
        · exact .inr e
      rcases this with e | e
      · rw [e] at h2; exact h2
      · subst e; simpa using h2
  | some b :: p, l => by
    cases l with
    | nil =>
      rw [List.cons_append, fit_one_nil]
      constructor
      · intro h; cases h
      · rintro ⟨k, hk, h1, _⟩
        rw [List.take_nil, fit_one_nil] at h1; cases h1
    | cons a t =>
      rw [List.cons_append, fit_one_cons, Bool.and_eq_true, fit_append one q p t]
      constructor
      · rintro ⟨h1, k, hk, h2, h3⟩
        exact ⟨k + 1, by rw [List.length_cons]; omega, by rw [List.take_succ_cons, fit_one_cons, h1, h2]; rfl, h3⟩
      · rintro ⟨k, hk, h1, h2⟩
        cases k with
        | zero => rw [List.take_zero, fit_one_nil] at h1; cases h1
        | succ k =>
          rw [List.take_succ_cons, fit_one_cons, Bool.and_eq_true] at h1
          exact ⟨h1.1, k, by rw [List.length_cons] at hk; omega, h1.2, h2⟩
  | none :: p, l => by
    rw [List.cons_append, fit_any_iff]
    constructor
    · rintro ⟨i, hi, h⟩
      obtain ⟨k, hk, h1, h2⟩ := (fit_append one q p (l.drop i)).1 h
      rw [List.length_drop] at hk
      refine ⟨i + k, by omega, ?_, by rw [List.drop_drop] at h2; exact h2⟩
      rw [fit_any_iff]
      refine ⟨i, by rw [List.length_take]; omega, ?_⟩
      rw [List.drop_take, show i + k - i = k from by omega]
      exact h1
    · rintro ⟨k, hk, h1, h2⟩
      obtain ⟨i, hi, h3⟩ := (fit_any_iff one p _).1 h1
      rw [List.length_take] at hi
      refine ⟨i, by omega, (fit_append one q p (l.drop i)).2 ⟨k - i, by rw [List.length_drop]; omega, ?_, ?_⟩⟩
      · rw [List.drop_take] at h3; exact h3
      · rw [List.drop_drop, show i + (k - i) = k from by omega]; exact h2
/-- step by step, which beginnings are taken -/
def tb (one : β → α → Bool) (l : List α) : List (Option β) → Nat → Bool
  | p, k => fit one p (l.take k)
theorem tb_zero (one : β → α → Bool) (l : List α) (k : Nat) (hk : k ≤ l.length) : tb one l [] k = decide (k = 0) := by
  rw [tb, fit_nil, Bool.eq_iff_iff, List.isEmpty_iff, decide_eq_true_eq, List.take_eq_nil_iff]
  constructor
  · rintro (h | h)
    · exact h
    · subst h; simpa using hk
  · exact .inl
/-- a step that takes any number -/
theorem tb_any (one : β → α → Bool) (l : List α) (p : List (Option β)) (k : Nat) (hk : k ≤ l.length) : tb one l (p ++ [none]) k = (tb one l p k || (decide (0 < k) && tb one l (p ++ [none]) (k - 1))) := by
  have key : ∀ j, j ≤ l.length → (tb one l (p ++ [none]) j = true ↔ ∃ i, i ≤ j ∧ tb one l p i = true) := fun j hj => by
    rw [tb, fit_append]
    constructor
    · rintro ⟨i, hi, h1, _⟩
      rw [List.length_take] at hi
      refine ⟨i, by omega, ?_⟩
      rw [List.take_take, Nat.min_eq_left (by omega)] at h1
      exact h1
    · rintro ⟨i, hi, h⟩
      refine ⟨i, by rw [List.length_take]; omega, ?_, ?_⟩
      · rw [List.take_take, Nat.min_eq_left hi]; exact h
      · rw [fit_any_iff]
        exact ⟨_, Nat.le_refl _, by rw [List.drop_length, fit_nil]; rfl⟩
  rw [Bool.eq_iff_iff, Bool.or_eq_true, Bool.and_eq_true, decide_eq_true_eq, key k hk, key (k - 1) (by omega)]
  constructor
  · rintro ⟨i, hi, h⟩
    by_cases e : i = k
    · subst e; exact .inl h
    · exact .inr ⟨by omega, i, by omega, h⟩
  · rintro (h | ⟨_, i, hi, h⟩)
    · exact ⟨k, Nat.le_refl _, h⟩
    · exact ⟨i, by omega, h⟩
/-- a step that takes one -/
theorem tb_one (one : β → α → Bool) (l : List α) (p : List (Option β)) (b : β) (k : Nat) (hk : k ≤ l.length) :
    tb one l (p ++ [some b]) k = match l[k - 1]? with | none => false | some a => decide (0 < k) && (tb one l p (k - 1) && one b a) := by
  have h1 : tb one l (p ++ [some b]) k = true ↔ 0 < k ∧ ∃ a, l[k - 1]? = some a ∧ tb one l p (k - 1) = true ∧ one b a = true := by
    rw [tb, fit_append]
    constructor
    · rintro ⟨i, hi, h1, h2⟩
      rw [List.length_take, Nat.min_eq_left hk] at hi
      rw [List.take_take, Nat.min_eq_left hi] at h1
      have e : i + 1 = k ∧ ∃ a, (l.take k).drop i = [a] ∧ one b a = true := by
        cases hd : (l.take k).drop i with
        | nil => rw [hd, fit_one_nil] at h2; cases h2
        | cons a t =>
          rw [hd, fit_one_cons, fit_nil, Bool.and_eq_true, List.isEmpty_iff] at h2
          have hl := congrArg List.length hd
          rw [List.length_drop, List.length_take, List.length_cons, h2.2, Nat.min_eq_left hk] at hl
          exact ⟨by simp at hl; omega, a, by rw [h2.2], h2.1⟩
      obtain ⟨e1, a, e2, e3⟩ := e
      subst e1
      refine ⟨by omega, a, ?_, h1, e3⟩
      have := congrArg (·[0]?) e2
      simp only [List.getElem?_drop, Nat.add_zero, List.getElem?_cons_zero] at this
      rw [List.getElem?_take, if_pos (by omega)] at this
      simpa using this
    · rintro ⟨hk0, a, ha, h2, h3⟩
      have hlt : k - 1 < l.length := (List.getElem?_eq_some_iff.1 ha).1
      refine ⟨k - 1, by rw [List.length_take]; omega, by rw [List.take_take, Nat.min_eq_left (by omega)]; exact h2, ?_⟩
      have e : (l.take k).drop (k - 1) = [a] := by
        rw [List.drop_take, show k - (k - 1) = 1 from by omega, List.drop_eq_getElem_cons hlt]
        have := (List.getElem?_eq_some_iff.1 ha).2
        rw [this]
        rfl
      rw [e, fit_one_cons, h3, fit_nil]
      rfl
  cases hg : l[k - 1]? with
  | none =>
    rw [hg] at h1
    cases h : tb one l (p ++ [some b]) k with
    | false => rfl
    | true =>
      obtain ⟨_, a, q, _⟩ := h1.1 h
      cases q
  | some a =>
    rw [hg] at h1
    rw [Bool.eq_iff_iff, h1]
    simp only [Option.some.injEq, Bool.and_eq_true, decide_eq_true_eq]
    constructor
    · rintro ⟨h, a', rfl, h2, h3⟩
      exact ⟨h, h2, h3⟩
    · rintro ⟨h, h2, h3⟩
      exact ⟨h, a, rfl, h2, h3⟩
/-- tests that take just one thing each: all of them, in order -/
theorem fit_ones (one : β → α → Bool) : ∀ (p : List β) (l : List α), fit one (p.map some) l = true ↔ p.length = l.length ∧ ∀ (j : Nat) (b : β) (a : α), p[j]? = some b → l[j]? = some a → one b a = true
  | [], l => by
    rw [List.map_nil, fit_nil, List.isEmpty_iff]
    constructor
    · rintro rfl; exact ⟨rfl, fun j b a h => by simp at h⟩
    · rintro ⟨h, _⟩; exact List.length_eq_zero_iff.1 h.symm
  | b :: p, l => by
    cases l with
    | nil =>
      rw [List.map_cons, fit_one_nil]
      constructor
      · intro h; cases h
      · rintro ⟨h, _⟩; simp at h
    | cons a t =>
      rw [List.map_cons, fit_one_cons, Bool.and_eq_true, fit_ones one p t]
      constructor
      · rintro ⟨h1, h2, h3⟩
        refine ⟨by simp [h2], fun j b' a' hb ha => ?_⟩
        cases j with
        | zero =>
          obtain rfl : b = b' := by simpa using hb
          obtain rfl : a = a' := by simpa using ha
          exact h1
        | succ j => exact h3 j b' a' (by simpa using hb) (by simpa using ha)
      · rintro ⟨h1, h2⟩
        exact ⟨h2 0 b a rfl rfl, by simpa using h1, fun j b' a' hb ha => h2 (j + 1) b' a' (by simpa using hb) (by simpa using ha)⟩
/-- 'any' alone takes all -/
theorem fit_all (one : β → α → Bool) (l : List α) : fit one [none] l = true := by
  rw [fit_any_iff]
  exact ⟨_, Nat.le_refl _, by rw [List.drop_length, fit_nil]; rfl⟩
end
end Gb
end Go.Proofs.YtfcnlfblfennaaaDoor
