/-
  The first piece of a text, and pieces with their places (no Go in it).
-/
import Derived.Test.YtdalpicpkandcabChunkMath2
namespace Go.Proofs.Ytdalpicpkandcab
namespace Ck

/-- n is the length of the first piece, 0 if there is none -/
structure First (E : Bs → Bool) (t : Bs) (n : Nat) : Prop where
  hit : n = 0 ∨ (1 ≤ n ∧ n ≤ t.length ∧ E (t.take n) = true)
  miss : ∀ k, 1 ≤ k → k ≤ t.length → (n = 0 ∨ k < n) → E (t.take k) = false
theorem first_ex (E : Bs → Bool) (t : Bs) : ∃ n, First E t n := by
  have key : ∀ m, (∃ n, 1 ≤ n ∧ n ≤ m ∧ E (t.take n) = true ∧ ∀ k, 1 ≤ k → k < n → E (t.take k) = false) ∨ (∀ k, 1 ≤ k → k ≤ m → E (t.take k) = false) := by
    intro m
    induction m with
    | zero => exact .inr fun k h1 h2 => by omega
    | succ m ih =>
      rcases ih with ⟨n, h1, h2, h3, h4⟩ | h
      · exact .inl ⟨n, h1, by omega, h3, h4⟩
      · cases e : E (t.take (m + 1)) with
        | true => exact .inl ⟨m + 1, by omega, Nat.le_refl _, e, fun k h1 h2 => h k h1 (by omega)⟩
        | false =>
          refine .inr fun k h1 h2 => ?_
          by_cases hk : k = m + 1
          · rw [hk]; exact e
          · exact h k h1 (by omega)
  rcases key t.length with ⟨n, h1, h2, h3, h4⟩ | h
  · exact ⟨n, .inr ⟨h1, h2, h3⟩, fun k a _ c => h4 k a (by omega)⟩
  · exact ⟨0, .inl rfl, fun k a b _ => h k a b⟩
variable {E : Bs → Bool}
theorem run_before {t : Bs} {n : Nat} (h : First E t n) : ∀ k, k ≤ t.length → (n = 0 ∨ k < n) → run E ([], []) (t.take k) = ([], t.take k) := by
  intro k
  induction k with
  | zero => intro _ _; rfl
  | succ k ih =>
    intro h1 h2
    rw [List.take_succ_eq_append_getElem (by omega), run_snoc, ih (by omega) (by omega), step, ← List.take_succ_eq_append_getElem (by omega), h.miss (k + 1) (by omega) h1 h2]
    rfl
theorem pieces_first_none {t : Bs} (h : First E t 0) : pieces E t = ([], t) := by
  have := run_before h t.length (Nat.le_refl _) (.inl rfl)
  rw [List.take_length] at this
  exact this
theorem pieces_first {t : Bs} {n : Nat} (h : First E t n) (hn : 0 < n) : pieces E t = (t.take n :: (pieces E (t.drop n)).1, (pieces E (t.drop n)).2) := by
  rcases h.hit with h0 | ⟨h1, h2, h3⟩
  · omega
  · obtain ⟨m, rfl⟩ : ∃ m, n = m + 1 := ⟨n - 1, by omega⟩
    have hr : run E ([], []) (t.take (m + 1)) = ([t.take (m + 1)], []) := by
      rw [List.take_succ_eq_append_getElem (by omega), run_snoc, run_before h m (by omega) (.inr (by omega)), step, ← List.take_succ_eq_append_getElem (by omega), h3]
      rfl
    have : pieces E t = run E ([], []) (t.take (m + 1) ++ t.drop (m + 1)) := by rw [List.take_append_drop]; rfl
    rw [this, run_append, hr, run_from]
    rfl

/-- the pieces, with the places where they begin -/
def withAt (a : Nat) : List Bs → List (Nat × Bs)
  | [] => []
  | p :: ps => (a, p) :: withAt (a + p.length) ps
theorem withAt_append (l m : List Bs) : ∀ a, withAt a (l ++ m) = withAt a l ++ withAt (a + l.flatten.length) m := by
  induction l with
  | nil => intro a; simp [withAt]
  | cons p l ih =>
    intro a
    rw [List.cons_append, withAt, ih, withAt, List.cons_append, List.flatten_cons, List.length_append, Nat.add_assoc]
theorem withAt_snd (l : List Bs) : ∀ a, (withAt a l).map (·.2) = l := by
  induction l with
  | nil => intro a; rfl
  | cons p l ih => intro a; rw [withAt, List.map_cons, ih]
theorem withAt_length (l : List Bs) : ∀ a, (withAt a l).length = l.length := by
  intro a
  rw [← List.length_map (f := fun x : Nat × Bs => x.2), withAt_snd]
/-- where the next one begins -/
theorem withAt_next {l : List Bs} {a : Nat} {pre : List (Nat × Bs)} {x : Nat × Bs} {post : List (Nat × Bs)} (h : withAt a l = pre ++ x :: post) : x.1 = a + (pre.map (·.2)).flatten.length := by
  induction pre generalizing a l with
  | nil =>
    cases l with
    | nil => simp [withAt] at h
    | cons p l =>
      rw [withAt, List.nil_append, List.cons.injEq] at h
      rw [← h.1]; simp
  | cons y pre ih =>
    cases l with
    | nil => simp [withAt] at h
    | cons p l =>
      rw [withAt, List.cons_append, List.cons.injEq] at h
      have := ih h.2
      rw [this, ← h.1]
      simp only [List.map_cons, List.flatten_cons, List.length_append]
      omega
end Ck
end Go.Proofs.Ytdalpicpkandcab
