/-
  Pieces that end by a rule (no Go in it): E tells of a piece whether it ends.
-/
import Derived.WalkKit
namespace Go.Proofs.Ytdalpicpkandcab
namespace Ck

abbrev Bs := List UInt8
/-- one byte more: the pieces so far, and what is left -/
def step (E : Bs → Bool) (q : List Bs × Bs) (b : UInt8) : List Bs × Bs := if E (q.2 ++ [b]) then (q.1 ++ [q.2 ++ [b]], []) else (q.1, q.2 ++ [b])
def run (E : Bs → Bool) (q : List Bs × Bs) (s : Bs) : List Bs × Bs := s.foldl (step E) q
def pieces (E : Bs → Bool) (s : Bs) : List Bs × Bs := run E ([], []) s
def cut (E : Bs → Bool) (s : Bs) : List Bs := if (pieces E s).2 = [] then (pieces E s).1 else (pieces E s).1 ++ [(pieces E s).2]

variable {E : Bs → Bool}
theorem run_nil (q : List Bs × Bs) : run E q [] = q := rfl
theorem run_cons (q : List Bs × Bs) (b : UInt8) (s : Bs) : run E q (b :: s) = run E (step E q b) s := rfl
theorem run_append (q : List Bs × Bs) (s t : Bs) : run E q (s ++ t) = run E (run E q s) t := List.foldl_append
theorem run_snoc (q : List Bs × Bs) (s : Bs) (b : UInt8) : run E q (s ++ [b]) = step E (run E q s) b := by rw [run_append]; rfl
theorem run_from (s : Bs) : ∀ (l : List Bs) (r : Bs), run E (l, r) s = (l ++ (run E ([], r) s).1, (run E ([], r) s).2) := by
  induction s with
  | nil => intro l r; simp [run_nil]
  | cons b s ih =>
    intro l r
    rw [run_cons, run_cons]
    unfold step
    by_cases h : E (r ++ [b])
    · simp only [h, if_true, List.nil_append]
      rw [ih (l ++ [r ++ [b]]) [], ih [r ++ [b]] []]
      simp
    · simp only [h, Bool.false_eq_true, if_false]
      exact ih l (r ++ [b])
theorem run_join (s : Bs) : ∀ (l : List Bs) (r : Bs), (run E (l, r) s).1.flatten ++ (run E (l, r) s).2 = l.flatten ++ (r ++ s) := by
  induction s with
  | nil => intro l r; simp [run_nil]
  | cons b s ih =>
    intro l r
    rw [run_cons]
    unfold step
    by_cases h : E (r ++ [b])
    · simp only [h, if_true]
      rw [ih]; simp
    · simp only [h, Bool.false_eq_true, if_false]
      rw [ih]; simp
/-- the pieces joined, and what is left, are the text -/
theorem pieces_join (s : Bs) : (pieces E s).1.flatten ++ (pieces E s).2 = s := by
  have := run_join (E := E) s [] []
  rw [List.flatten_nil, List.nil_append, List.nil_append] at this
  exact this
theorem cut_join (s : Bs) : (cut E s).flatten = s := by
  have h := pieces_join (E := E) s
  unfold cut
  by_cases e : (pieces E s).2 = []
  · rw [if_pos e]
    rwa [e, List.append_nil] at h
  · rw [if_neg e, List.flatten_append]
    simpa using h
/-- of the first piece -/
theorem run_first (t : Bs) : ∀ (r p : Bs) (ps : List Bs) (q : Bs), run E ([], r) t = (p :: ps, q) → ∃ t1 t2, t = t1 ++ t2 ∧ p = r ++ t1 ∧ run E ([], r) t1 = ([p], []) ∧ run E ([], []) t2 = (ps, q) := by
  induction t with
  | nil => intro r p ps q h; simp [run_nil] at h
  | cons b t ih =>
    intro r p ps q h
    rw [run_cons] at h
    unfold step at h
    by_cases e : E (r ++ [b])
    · simp only [e, if_true, List.nil_append] at h
      rw [run_from] at h
      simp only [List.singleton_append, Prod.mk.injEq, List.cons.injEq] at h
      obtain ⟨⟨hp, hps⟩, hq⟩ := h
      refine ⟨[b], t, rfl, hp.symm, ?_, ?_⟩
      · rw [run_cons, run_nil, step]
        rw [hp] at e ⊢
        simp only [e, if_true, List.nil_append]
      · exact Prod.ext hps hq
    · simp only [e, Bool.false_eq_true, if_false] at h
      obtain ⟨t1, t2, ht, hp, h1, h2⟩ := ih (r ++ [b]) p ps q h
      refine ⟨b :: t1, t2, by rw [ht]; rfl, by rw [hp]; simp, ?_, h2⟩
      rw [run_cons, step]
      simp only [e, Bool.false_eq_true, if_false]
      exact h1
/-- behind the end of a piece it is all the same what came ahead -/
theorem pieces_tail {t p : Bs} {ps : List Bs} {q : Bs} (h : pieces E t = (p :: ps, q)) : pieces E (ps.flatten ++ q) = (ps, q) := by
  obtain ⟨t1, t2, _, _, _, h2⟩ := run_first t [] p ps q h
  have h3 := pieces_join (E := E) t2
  rw [show pieces E t2 = (ps, q) from h2] at h3
  rw [h3]
  exact h2
theorem pieces_drop (i : Nat) : ∀ (l : List Bs) (q : Bs), pieces E (l.flatten ++ q) = (l, q) → pieces E ((l.drop i).flatten ++ q) = (l.drop i, q) := by
  induction i with
  | zero => intro l q h; exact h
  | succ i ih =>
    intro l q h
    cases l with
    | nil => exact h
    | cons p ps => exact ih ps q (pieces_tail h)
theorem pieces_self (s : Bs) : pieces E ((pieces E s).1.flatten ++ (pieces E s).2) = ((pieces E s).1, (pieces E s).2) := by rw [pieces_join]
theorem cut_of {s : Bs} {l : List Bs} {q : Bs} (h : pieces E s = (l, q)) : cut E s = if q = [] then l else l ++ [q] := by
  unfold cut; rw [h]
theorem cut_nil : cut E [] = [] := rfl
/-- P12's last row: from a piece on, the pieces are those of what is left -/
theorem cut_local (s : Bs) (i : Nat) : cut E (((cut E s).drop i).flatten) = (cut E s).drop i := by
  obtain ⟨l, q, hp⟩ : ∃ l q, pieces E s = (l, q) := ⟨_, _, rfl⟩
  have hs := pieces_self (E := E) s
  rw [hp] at hs
  rw [cut_of hp]
  by_cases e : q = []
  · rw [if_pos e]
    have := pieces_drop i l q hs
    rw [e, List.append_nil] at this
    rw [cut_of this, if_pos rfl]
  · rw [if_neg e]
    by_cases hi : i ≤ l.length
    · rw [List.drop_append_of_le_length hi, List.flatten_append]
      have := pieces_drop i l q hs
      rw [show [q].flatten = q from by simp, cut_of this, if_neg e]
    · rw [List.drop_eq_nil_of_le (by simp; omega)]
      exact cut_nil
/-- two texts that end alike, and have an end of a piece at one place of that end, have the same pieces from there on -/
theorem cut_meets {a b e : Bs} {i j : Nat} (h : ((cut E (a ++ e)).drop i).flatten.length = ((cut E (b ++ e)).drop j).flatten.length) (he : ((cut E (a ++ e)).drop i).flatten.length ≤ e.length) :
    (cut E (a ++ e)).drop i = (cut E (b ++ e)).drop j := by
  have key : ∀ (x : Bs) (k : Nat), ((cut E (x ++ e)).drop k).flatten.length ≤ e.length → ((cut E (x ++ e)).drop k).flatten = e.drop (e.length - ((cut E (x ++ e)).drop k).flatten.length) := by
    intro x k hk
    have h1 : ((cut E (x ++ e)).take k).flatten ++ ((cut E (x ++ e)).drop k).flatten = x ++ e := by
      rw [← List.flatten_append, List.take_append_drop, cut_join]
    generalize ((cut E (x ++ e)).take k).flatten = u at *
    generalize ((cut E (x ++ e)).drop k).flatten = v at *
    have h2 : u.length + v.length = x.length + e.length := by
      have := congrArg List.length h1
      simpa using this
    have h3 : v = (x ++ e).drop u.length := by rw [← h1, List.drop_left]
    rw [List.drop_append, List.drop_eq_nil_of_le (by omega), List.nil_append] at h3
    rw [h3, List.length_drop]
    congr 1
    omega
  have hj : ((cut E (b ++ e)).drop j).flatten.length ≤ e.length := by omega
  rw [← cut_local (a ++ e) i, ← cut_local (b ++ e) j, key a i he, key b j hj, h]

/-! ### a text that comes in bit by bit -/
/-- what is left has no end of a piece in it -/
theorem rest_stays (s : Bs) : ∀ r, run E ([], []) r = ([], r) → run E ([], []) (run E ([], r) s).2 = ([], (run E ([], r) s).2) := by
  induction s with
  | nil => intro r h; exact h
  | cons b s ih =>
    intro r h
    rw [run_cons]
    unfold step
    by_cases e : E (r ++ [b])
    · simp only [e, if_true, List.nil_append]
      rw [show (run E ([r ++ [b]], []) s).2 = (run E ([], []) s).2 from by rw [run_from]]
      exact ih [] rfl
    · simp only [e, Bool.false_eq_true, if_false]
      apply ih
      rw [run_snoc, h, step]
      simp only [e, Bool.false_eq_true, if_false]
theorem pieces_rest (s : Bs) : pieces E (pieces E s).2 = ([], (pieces E s).2) := rest_stays s [] rfl
/-- the pieces of a text go on with what was left -/
theorem pieces_more (s t : Bs) : pieces E (s ++ t) = ((pieces E s).1 ++ (pieces E ((pieces E s).2 ++ t)).1, (pieces E ((pieces E s).2 ++ t)).2) := by
  have h1 : pieces E (s ++ t) = run E (pieces E s) t := run_append _ _ _
  have h2 : pieces E ((pieces E s).2 ++ t) = run E ([], (pieces E s).2) t := by
    rw [pieces, run_append, show run E ([], []) (pieces E s).2 = ([], (pieces E s).2) from pieces_rest s]
  rw [h1, h2]
  exact run_from t _ _

/-! ### how long the pieces are -/
theorem run_ends (s : Bs) : ∀ (l : List Bs) (r : Bs), (∀ p ∈ l, E p = true) → ∀ p ∈ (run E (l, r) s).1, E p = true := by
  induction s with
  | nil => intro l r h; exact h
  | cons b s ih =>
    intro l r h
    rw [run_cons]
    unfold step
    by_cases e : E (r ++ [b])
    · simp only [e, if_true]
      refine ih _ _ fun p hp => ?_
      rcases List.mem_append.1 hp with hp | hp
      · exact h p hp
      · rw [List.mem_singleton.1 hp]; exact e
    · simp only [e, Bool.false_eq_true, if_false]
      exact ih _ _ h
theorem pieces_ends (s : Bs) : ∀ p ∈ (pieces E s).1, E p = true := run_ends s [] [] (fun _ h => by cases h)
theorem run_short {M : Nat} (hE : ∀ p : Bs, p.length = M → E p = true) (s : Bs) : ∀ (l : List Bs) (r : Bs), r.length < M → 0 < M → (run E (l, r) s).2.length < M := by
  induction s with
  | nil => intro l r h _; exact h
  | cons b s ih =>
    intro l r h h0
    rw [run_cons]
    unfold step
    by_cases e : E (r ++ [b])
    · simp only [e, if_true]
      exact ih _ _ h0 h0
    · simp only [e, Bool.false_eq_true, if_false]
      refine ih _ _ ?_ h0
      rcases Nat.lt_or_ge (r ++ [b]).length M with h1 | h1
      · exact h1
      · exact absurd (hE (r ++ [b]) (by simp at h1 ⊢; omega)) e
/-- the rule of P12: a piece's length, and of its sum the lowest bits -/
def ends (mn mx bits : Nat) (sum : Bs → Nat) (p : Bs) : Bool := p.length == mx || (decide (mn ≤ p.length) && sum p % 2 ^ bits == 0)
theorem pieces_short (mn mx bits : Nat) (sum : Bs → Nat) (s : Bs) (h : 0 < mx) : (pieces (ends mn mx bits sum) s).2.length < mx :=
  run_short (fun p hp => by simp [ends, hp]) s [] [] h h
theorem ends_min {mn mx bits : Nat} {sum : Bs → Nat} {p : Bs} (h : ends mn mx bits sum p = true) (hm : mn ≤ mx) : mn ≤ p.length := by
  unfold ends at h
  rw [Bool.or_eq_true, Bool.and_eq_true, beq_iff_eq, decide_eq_true_eq] at h
  omega
end Ck
end Go.Proofs.Ytdalpicpkandcab
