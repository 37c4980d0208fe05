/-
  P40 to P42 (no Go in it): patterns, what they match, and what rules leave out.
-/
import Derived.Test.YtfcnlfblfennaaaDoorNnPath
import Derived.Test.YtfcnlfblfennaaaDoorNnInj
import Derived.Test.YtfcnlfblfennaaaDoorGbMath
namespace Go.Proofs.YtfcnlfblfennaaaDoor
namespace Gb
open Nn (Name chars cut split)

/-- a test of one character: turned round or not, by its items -/
abbrev Tst := Bool × List (Nat × Nat)
def one (t : Tst) (c : Nat) : Bool := (t.2.any fun i => decide (i.1 ≤ c ∧ c ≤ i.2)) != t.1
/-- just that character -/
def just (c : Nat) : Tst := (false, [(c, c)])
/-- any character -/
def anyc : Tst := (true, [])
theorem one_just (c d : Nat) : one (just c) d = decide (d = c) := by
  unfold one just
  simp only [List.any_cons, List.any_nil, Bool.or_false, Bool.bne_false]
  by_cases h : d = c
  · rw [decide_eq_true h, decide_eq_true (by omega)]
  · rw [decide_eq_false h, decide_eq_false (by omega)]
theorem one_anyc (d : Nat) : one anyc d = true := rfl
/-- a character of an item, and what is left -/
def pl : List Nat → Option (Nat × List Nat)
  | [] => none
  | c :: l => if c = 93 then none else if c = 92 then l.head?.map (fun d => (d, l.tail)) else some (c, l)
theorem pl_less {l r : List Nat} {c : Nat} (h : pl l = some (c, r)) : r.length < l.length := by
  cases l with
  | nil => cases h
  | cons a l =>
    rw [pl] at h
    split at h
    · cases h
    split at h
    · obtain ⟨d, hd, e⟩ := Option.map_eq_some_iff.1 h
      cases e
      rw [List.length_tail, List.length_cons]
      omega
    · cases h; simp
/-- an item, and what is left -/
def item (l : List Nat) : Option ((Nat × Nat) × List Nat) :=
  match pl l with
  | none => none
  | some (c, r) => if r.head? = some 45 then (match pl r.tail with | none => none | some (d, r') => if d < c then none else some ((c, d), r')) else some ((c, c), r)
theorem item_less {l r : List Nat} {i : Nat × Nat} (h : item l = some (i, r)) : r.length < l.length := by
  unfold item at h
  cases hp : pl l with
  | none => rw [hp] at h; cases h
  | some x =>
    obtain ⟨c, s⟩ := x
    rw [hp] at h
    dsimp only at h
    have h1 := pl_less hp
    split at h
    · cases hq : pl s.tail with
      | none => rw [hq] at h; cases h
      | some y =>
        obtain ⟨d, t⟩ := y
        rw [hq] at h
        dsimp only at h
        have h2 := pl_less hq
        split at h
        · cases h
        · cases h
          rw [List.length_tail] at h2
          omega
    · cases h; exact h1
/-- items up to the bracket that shuts them -/
def items : Nat → List Nat → Option (List (Nat × Nat) × List Nat)
  | 0, _ => none
  | k + 1, l => match item l with
    | none => none
    | some (i, r) => match r with
      | [] => none
      | c :: s => if c = 93 then some ([i], s) else (items k (c :: s)).map fun x => (i :: x.1, x.2)
theorem items_less : ∀ {k : Nat} {l r : List Nat} {x : List (Nat × Nat)}, items k l = some (x, r) → r.length < l.length
  | 0, _, _, _, h => by cases h
  | k + 1, l, r, x, h => by
    rw [items] at h
    cases hi : item l with
    | none => rw [hi] at h; cases h
    | some y =>
      obtain ⟨i, s⟩ := y
      rw [hi] at h
      have h1 := item_less hi
      cases s with
      | nil => cases h
      | cons c s =>
        dsimp only at h
        split at h
        · cases h
          simp only [List.length_cons] at h1
          omega
        · obtain ⟨z, hz, e⟩ := Option.map_eq_some_iff.1 h
          obtain ⟨z1, z2⟩ := z
          cases e
          have := items_less hz
          dsimp only
          omega
/-- how often is all the same, if it is enough -/
theorem items_more : ∀ (k m : Nat) (l : List Nat), l.length ≤ k → l.length ≤ m → items k l = items m l
  | 0, 0, _, _, _ => rfl
  | 0, m + 1, l, h, _ => by
    have : l = [] := List.length_eq_zero_iff.1 (Nat.le_zero.1 h)
    subst this; rfl
  | k + 1, 0, l, _, h => by
    have : l = [] := List.length_eq_zero_iff.1 (Nat.le_zero.1 h)
    subst this; rfl
  | k + 1, m + 1, l, h1, h2 => by
    rw [items, items]
    cases hi : item l with
    | none => rfl
    | some y =>
      obtain ⟨i, s⟩ := y
      have h3 := item_less hi
      cases s with
      | nil => rfl
      | cons c s =>
        dsimp only
        rw [items_more k m (c :: s) (by omega) (by omega)]
/-- a class behind its bracket, and what is left -/
def cls (l : List Nat) : Option (Tst × List Nat) :=
  (items l.length (if l.head? = some 94 then l.tail else l)).map fun x => ((decide (l.head? = some 94), x.1), x.2)
theorem cls_less {l r : List Nat} {t : Tst} (h : cls l = some (t, r)) : r.length < l.length := by
  unfold cls at h
  obtain ⟨⟨x, s⟩, hx, e⟩ := Option.map_eq_some_iff.1 h
  cases e
  have := items_less hx
  split at this
  · rw [List.length_tail] at this; dsimp only; omega
  · exact this
/-- the signs of a part (none: a star) -/
def signs : Nat → List Nat → Option (List (Option Tst))
  | _, [] => some []
  | 0, _ :: _ => none
  | k + 1, c :: l =>
    if c = 42 then (signs k l).map (none :: ·)
    else if c = 63 then (signs k l).map (some anyc :: ·)
    else if c = 91 then (cls l).bind fun x => (signs k x.2).map (some x.1 :: ·)
    else if c = 92 then l.head?.bind fun d => (signs k l.tail).map (some (just d) :: ·)
    else (signs k l).map (some (just c) :: ·)
theorem signs_more : ∀ (k m : Nat) (l : List Nat), l.length ≤ k → l.length ≤ m → signs k l = signs m l
  | k, m, [], _, _ => by cases k <;> cases m <;> rfl
  | 0, _, c :: l, h, _ => by simp at h
  | _, 0, c :: l, _, h => by simp at h
  | k + 1, m + 1, c :: l, h1, h2 => by
    simp only [List.length_cons] at h1 h2
    have e1 := signs_more k m l (by omega) (by omega)
    have e2 := signs_more k m l.tail (by rw [List.length_tail]; omega) (by rw [List.length_tail]; omega)
    have e3 : ((cls l).bind fun x => (signs k x.2).map (some x.1 :: ·)) = (cls l).bind fun x => (signs m x.2).map (some x.1 :: ·) := by
      cases hc : cls l with
      | none => rfl
      | some x =>
        obtain ⟨t, s⟩ := x
        have h3 := cls_less hc
        show (signs k s).map _ = (signs m s).map _
        rw [signs_more k m s (by omega) (by omega)]
    rw [signs, signs, e1, e2, e3]
/-- a part of a pattern (none: any names) -/
def part (s : Name) : Option (Option (List (Option Tst))) :=
  if s = [42, 42] then some none else match chars s with
  | none => none
  | some l => match signs l.length l with
    | none => none
    | some m => if m = [] then none else some (some m)
def parts : List Name → Option (List (Option (List (Option Tst))))
  | [] => some []
  | s :: l => match part s with
    | none => none
    | some x => (parts l).map (x :: ·)
/-- a pattern: its parts, and the error -/
def pat (p : List UInt8) : List (Option (List (Option Tst))) × Int :=
  if 60 < p.length then ([], 2) else if chars p = none ∨ p.head? ≠ some 47 then ([], 13) else match parts (cut p.tail) with
  | none => ([], 13)
  | some P => (P, 0)
/-- do the signs match a name? -/
def nameFit (m : List (Option Tst)) (s : Name) : Bool := fit one m ((chars s).getD [])
/-- do the parts match the names? -/
def fits (P : List (Option (List (Option Tst)))) (l : List Name) : Bool := fit nameFit P l
/-- P41 -/
def mtch (p path : List UInt8) : Bool × Int :=
  if (pat p).2 ≠ 0 then (false, (pat p).2) else if (split path).2 ≠ 0 then (false, (split path).2) else (fits (pat p).1 (split path).1, 0)
/-- a rule: does it take back? its pattern -/
def rule (s : List UInt8) : Bool × List UInt8 := if s.head? = some 33 then (true, s.tail) else (false, s)
/-- the first error of rules -/
def rerr : List (List UInt8) → Int
  | [] => 0
  | s :: l => if (pat (rule s).2).2 ≠ 0 then (pat (rule s).2).2 else rerr l
/-- what the last rule says that matches: is the path out by it? -/
def hit (R : List (List UInt8)) (l : List Name) : Bool :=
  match R.reverse.find? (fun s => fits (pat (rule s).2).1 l) with
  | none => false
  | some s => !(rule s).1
/-- is a path out, by any of its beginnings? -/
def out (R : List (List UInt8)) (l : List Name) : Bool := (List.range l.length).any fun k => hit R (l.take (k + 1))
/-- P42 -/
def skips (R : List (List UInt8)) (path : List UInt8) : Bool × Int :=
  if 20 < R.length then (false, 2) else if rerr R ≠ 0 then (false, rerr R) else if (split path).2 ≠ 0 then (false, (split path).2) else (out R (split path).1, 0)
theorem out_nil (R : List (List UInt8)) : out R [] = false := rfl
/-- out, if its parent is, or by the last rule that matches it -/
theorem out_snoc (R : List (List UInt8)) (l : List Name) (s : Name) : out R (l ++ [s]) = (out R l || hit R (l ++ [s])) := by
  unfold out
  rw [List.length_append, List.length_singleton, List.range_succ, List.any_append]
  congr 1
  · rw [Bool.eq_iff_iff, List.any_eq_true, List.any_eq_true]
    refine exists_congr fun k => and_congr_right fun hk => ?_
    have hk := List.mem_range.1 hk
    rw [List.take_append_of_le_length (by omega)]
  · simp only [List.any_cons, List.any_nil, Bool.or_false]
    rw [List.take_of_length_le (by simp)]
end Gb
end Go.Proofs.YtfcnlfblfennaaaDoor
