/-
  P40 to P42 (no Go in it): two patterns one behind the other; what is out stays out beneath; a last rule that takes all, or takes all back.
-/
import Derived.Test.YtfcnlfblfennaaaDoorGbPat
import Derived.KernelRfl
namespace Go.Proofs.YtfcnlfblfennaaaDoor
namespace Gb
open Nn (Name chars cut split join joinB tails errs errsF nm)

theorem pat_ok {p : List UInt8} {P : List (Option (List (Option Tst)))} (h : pat p = (P, 0)) : p.length ≤ 60 ∧ (∃ x, chars p = some x) ∧ p.head? = some 47 ∧ parts (cut p.tail) = some P := by
  unfold pat at h
  split at h
  · simp at h
  split at h
  · simp at h
  rename_i h1 h2
  simp only [not_or, Classical.not_not] at h2
  cases hp : parts (cut p.tail) with
  | none => rw [hp] at h; simp at h
  | some Q =>
    rw [hp] at h
    simp only [Prod.mk.injEq, and_true] at h
    refine ⟨by omega, ?_, h2.2, by rw [h]⟩
    cases hc : chars p with
    | none => exact absurd hc h2.1
    | some x => exact ⟨x, rfl⟩
theorem pat_of {p : List UInt8} {P : List (Option (List (Option Tst)))} {x : List Nat} (h1 : p.length ≤ 60) (h2 : chars p = some x) (h3 : p.head? = some 47) (h4 : parts (cut p.tail) = some P) : pat p = (P, 0) := by
  unfold pat
  rw [if_neg (by omega), if_neg (by rw [h2, h3]; simp), h4]
theorem pat_bad {p : List UInt8} (h : (pat p).2 ≠ 0) : (pat p).1 = [] := by
  unfold pat at h ⊢
  split
  · rfl
  split
  · rfl
  · rename_i a b
    rw [if_neg a, if_neg b] at h
    cases hp : parts (cut p.tail) with
    | none => rfl
    | some Q => rw [hp] at h; exact absurd rfl h
theorem parts_app : ∀ (a b : List Name) (P Q : List (Option (List (Option Tst)))), parts a = some P → parts b = some Q → parts (a ++ b) = some (P ++ Q)
  | [], b, P, Q, h, g => by cases h; exact g
  | s :: a, b, P, Q, h, g => by
    rw [parts] at h
    rw [List.cons_append, parts]
    cases hp : part s with
    | none => rw [hp] at h; cases h
    | some x =>
      rw [hp] at h
      obtain ⟨P', h1, rfl⟩ := Option.map_eq_some_iff.1 h
      dsimp only
      rw [parts_app a b P' Q h1 g]
      rfl
theorem head_cons {p : List UInt8} (h : p.head? = some 47) : p = 47 :: p.tail := by
  cases p with
  | nil => cases h
  | cons b p => simp only [List.head?_cons, Option.some.injEq] at h; rw [h]; rfl
/-- two patterns one behind the other are the parts of both -/
theorem pat_two {p q : List UInt8} {P Q : List (Option (List (Option Tst)))} (hp : pat p = (P, 0)) (hq : pat q = (Q, 0)) (hl : p.length + q.length ≤ 60) : pat (p ++ q) = (P ++ Q, 0) := by
  obtain ⟨_, ⟨x, hx⟩, p1, p2⟩ := pat_ok hp
  obtain ⟨_, ⟨y, hy⟩, q1, q2⟩ := pat_ok hq
  have ep := head_cons p1
  have eq := head_cons q1
  refine pat_of (by rw [List.length_append]; exact hl) (x := x ++ y) (by rw [Nn.chars_app p q x hx, hy]; rfl) (by rw [ep]; rfl) ?_
  have e : (p ++ q).tail = p.tail ++ 47 :: q.tail := by
    rw [← eq]
    conv => lhs; rw [ep]
    rfl
  rw [e, Nn.cut_slash]
  exact parts_app _ _ P Q p2 q2
/-- and match just if the names can be cut so -/
theorem fits_two (P Q : List (Option (List (Option Tst)))) (l : List Name) : fits (P ++ Q) l = true ↔ ∃ k, k ≤ l.length ∧ fits P (l.take k) = true ∧ fits Q (l.drop k) = true := fit_append nameFit Q P l
theorem errsF_take : ∀ (l : List Name) (i k : Nat), errsF i l = 0 → errsF i (l.take k) = 0
  | [], i, k, _ => by simp [errsF]
  | s :: l, i, 0, _ => by simp [errsF]
  | s :: l, i, k + 1, h => by
    rw [errsF] at h
    rw [List.take_succ_cons, errsF]
    split at h
    · simp at h
    · rename_i a
      rw [if_neg a]
      split at h
      · rename_i b; exact absurd h b
      · rename_i b
        rw [if_neg b]
        exact errsF_take l (i + 1) k h
theorem errsF_low : ∀ (l : List Name) (i j : Nat), j ≤ i → errsF i l = 0 → errsF j l = 0
  | [], _, _, _, _ => by simp [errsF]
  | s :: l, i, j, hj, h => by
    rw [errsF] at h ⊢
    split at h
    · simp at h
    · rename_i a
      rw [if_neg (by omega)]
      split at h
      · rename_i b; exact absurd h b
      · rename_i b
        rw [if_neg b]
        exact errsF_low l (i + 1) (j + 1) (by omega) h
theorem errsF_drop : ∀ (l : List Name) (i k : Nat), errsF i l = 0 → errsF i (l.drop k) = 0
  | [], i, k, _ => by simp [errsF]
  | s :: l, i, 0, h => h
  | s :: l, i, k + 1, h => by
    rw [List.drop_succ_cons]
    rw [errsF] at h
    split at h
    · simp at h
    split at h
    · rename_i b; exact absurd h b
    · exact errsF_drop l i k (errsF_low l (i + 1) i (by omega) h)
/-- the path of a beginning, or of an end, of a path's names -/
theorem split_of_join {l : List Name} (h : errs l = 0) : split (joinB l) = (l, 0) := by
  refine Nn.join_split (q := joinB l) ?_
  unfold join
  rw [if_neg (by simpa using h)]
theorem errs_of_split {p : List UInt8} {l : List Name} (h : split p = (l, 0)) : errs l = 0 := (Nn.join_ok (Nn.split_join h)).1

/-- what is out stays out beneath -/
theorem out_more (R : List (List UInt8)) (l r : List Name) (h : out R l = true) : out R (l ++ r) = true := by
  unfold out at h ⊢
  rw [List.any_eq_true] at h ⊢
  obtain ⟨k, hk, hh⟩ := h
  have hk := List.mem_range.1 hk
  refine ⟨k, List.mem_range.2 (by rw [List.length_append]; omega), ?_⟩
  rw [List.take_append_of_le_length (by omega)]
  exact hh
theorem split_more {p name : List UInt8} {l m : List Name} (hp : split p = (l, 0)) (hl : l ≠ []) (h : split (p ++ 47 :: name) = (m, 0)) : ∃ r, m = l ++ r := by
  have hpl : p = tails l := by
    have := (Nn.join_ok (Nn.split_join hp)).2
    rw [this, joinB, if_neg hl]
  have e0 := errs_of_split hp
  have h2 := h
  unfold split at h2
  split at h2
  · simp at h2
  split at h2
  · rename_i q
    exfalso
    have := congrArg List.length q
    rw [List.length_append, List.length_cons, List.length_singleton] at this
    have : p = [] := List.length_eq_zero_iff.1 (by omega)
    rw [this] at hpl
    cases l with
    | nil => exact hl rfl
    | cons s l => simp [tails] at hpl
  split at h2
  · rename_i q; simp only [Prod.mk.injEq] at h2; exact absurd h2.2 q
  · simp only [Prod.mk.injEq, and_true] at h2
    have hc := Nn.cut_tails (l := l) (Nn.noslash e0)
    cases l with
    | nil => exact absurd rfl hl
    | cons s l =>
      have et : p = 47 :: p.tail := by rw [hpl]; rfl
      have hct : cut p.tail = s :: l := by
        have : cut p = [] :: cut p.tail := by
          conv => lhs; rw [et]
          rw [Nn.cut, if_pos rfl]
        rw [hpl] at this
        rw [hc] at this
        simp only [List.cons.injEq, true_and] at this
        rw [hpl]
        exact this.symm
      have e1 : (p ++ 47 :: name).tail = p.tail ++ 47 :: name := by
        conv => lhs; rw [et]
        rfl
      rw [e1, Nn.cut_slash, hct] at h2
      exact ⟨cut name, h2.symm⟩
theorem skips_ok {R : List (List UInt8)} {p : List UInt8} {b : Bool} (h : skips R p = (b, 0)) : split p = ((split p).1, 0) ∧ b = out R (split p).1 ∧ R.length ≤ 20 ∧ rerr R = 0 := by
  unfold skips at h
  split at h
  · simp at h
  split at h
  · rename_i q; simp only [Prod.mk.injEq] at h; exact absurd h.2 q
  split at h
  · rename_i q; simp only [Prod.mk.injEq] at h; exact absurd h.2 q
  · rename_i a b' c
    simp only [Prod.mk.injEq, and_true] at h
    exact ⟨Prod.ext rfl (by simpa using c), h.symm, by omega, by simpa using b'⟩
theorem skips_bad {R : List (List UInt8)} {p : List UInt8} (h : (skips R p).2 ≠ 0) : (skips R p).1 = false := by
  unfold skips at h ⊢
  split
  · rfl
  split
  · rfl
  split
  · rfl
  · rename_i a b c
    rw [if_neg a, if_neg b, if_neg c] at h
    exact absurd rfl h
theorem skips_beneath {R : List (List UInt8)} {p name : List UInt8} {b : Bool} (h : skips R p = (true, 0)) (g : skips R (p ++ 47 :: name) = (b, 0)) : b = true := by
  obtain ⟨h1, h2, _⟩ := skips_ok h
  obtain ⟨g1, g2, _⟩ := skips_ok g
  have hne : (split p).1 ≠ [] := fun e => by rw [e, out_nil] at h2; cases h2
  obtain ⟨r, hr⟩ := split_more h1 hne g1
  rw [g2, hr]
  exact out_more R _ r h2.symm
theorem skips_root (R : List (List UInt8)) : (skips R [47]).1 = false := by
  by_cases h : (skips R [47]).2 = 0
  · have e : skips R [47] = ((skips R [47]).1, 0) := Prod.ext rfl h
    obtain ⟨_, h2, _⟩ := skips_ok e
    rw [h2]
    rfl
  · exact skips_bad h
/-- the pattern of all paths -/
theorem pat_all : pat [47, 42, 42] = ([none], 0) := by kernel_rfl
theorem fits_all (l : List Name) : fits [none] l = true := fit_all nameFit l
theorem rerr_app : ∀ (R : List (List UInt8)) (s : List UInt8), (pat (rule s).2).2 = 0 → rerr (R ++ [s]) = rerr R
  | [], s, h => by show rerr [s] = 0; rw [rerr, if_neg (by simpa using h)]; rfl
  | t :: R, s, h => by
    rw [List.cons_append, rerr, rerr, rerr_app R s h]
theorem hit_last (R : List (List UInt8)) (s : List UInt8) (l : List Name) (h : fits (pat (rule s).2).1 l = true) : hit (R ++ [s]) l = !(rule s).1 := by
  unfold hit
  rw [List.reverse_append, List.reverse_singleton, List.singleton_append, List.find?_cons_of_pos (p := fun s => fits (pat (rule s).2).1 l) h]
/-- behind a rule that takes all back nothing is out -/
theorem last_none (R : List (List UInt8)) (p : List UInt8) : (skips (R ++ [[33, 47, 42, 42]]) p).1 = false := by
  by_cases h : (skips (R ++ [[33, 47, 42, 42]]) p).2 = 0
  · have e : skips (R ++ [[33, 47, 42, 42]]) p = ((skips (R ++ [[33, 47, 42, 42]]) p).1, 0) := Prod.ext rfl h
    obtain ⟨_, h2, _⟩ := skips_ok e
    rw [h2]
    unfold out
    rw [List.any_eq_false]
    intro k _
    rw [hit_last R _ _ (by show fits (pat [47, 42, 42]).1 _ = true; rw [pat_all]; exact fits_all _)]
    decide
  · exact skips_bad h
/-- behind one that takes all, all but the root is -/
theorem last_all (R : List (List UInt8)) (p : List UInt8) (h : (skips (R ++ [[47, 42, 42]]) p).2 = 0) : (skips (R ++ [[47, 42, 42]]) p).1 = decide (p ≠ [47]) := by
  have e : skips (R ++ [[47, 42, 42]]) p = ((skips (R ++ [[47, 42, 42]]) p).1, 0) := Prod.ext rfl h
  obtain ⟨h1, h2, _⟩ := skips_ok e
  rw [h2]
  have hhit : ∀ l, hit (R ++ [[47, 42, 42]]) l = true := fun l => by
    rw [hit_last R _ _ (by show fits (pat [47, 42, 42]).1 _ = true; rw [pat_all]; exact fits_all _)]
    decide
  by_cases hr : (split p).1 = []
  · have : p = [47] := by
      have := (Nn.join_ok (Nn.split_join h1)).2
      rw [hr] at this
      exact this
    rw [hr, out_nil, decide_eq_false (by simp [this])]
  · have hp : p ≠ [47] := fun e => hr (by rw [e]; rfl)
    rw [decide_eq_true hp]
    unfold out
    rw [List.any_eq_true]
    exact ⟨0, List.mem_range.2 (List.length_pos_iff.2 hr), hhit _⟩
/-- both tell one error -/
theorem last_err (R : List (List UInt8)) (p : List UInt8) : (skips (R ++ [[33, 47, 42, 42]]) p).2 = (skips (R ++ [[47, 42, 42]]) p).2 := by
  have e1 : rerr (R ++ [[33, 47, 42, 42]]) = rerr R := rerr_app R _ (by show (pat [47, 42, 42]).2 = 0; rw [pat_all])
  have e2 : rerr (R ++ [[47, 42, 42]]) = rerr R := rerr_app R _ (by show (pat [47, 42, 42]).2 = 0; rw [pat_all])
  unfold skips
  rw [e1, e2, List.length_append, List.length_append, List.length_singleton, List.length_singleton]
  split
  · rfl
  split
  · rfl
  split <;> rfl
end Gb
end Go.Proofs.YtfcnlfblfennaaaDoor
