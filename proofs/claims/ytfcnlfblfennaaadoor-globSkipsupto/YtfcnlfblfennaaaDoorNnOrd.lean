/-
  P39 (no Go in it): paths have an order, in which all that is in a directory comes at once behind it.
-/
import Derived.Test.YtfcnlfblfennaaaDoorNnPath
import Derived.WalkKit
namespace Go.Proofs.YtfcnlfblfennaaaDoor
namespace Nn

theorem bl_nil (x : List UInt8) : Op.bytesLess x [] = false := by cases x <;> rfl
theorem bl_cons (a b : UInt8) (x y : List UInt8) : Op.bytesLess (a :: x) (b :: y) = (decide (a < b) || (a == b && Op.bytesLess x y)) := rfl
theorem bl_irr : ∀ x : List UInt8, Op.bytesLess x x = false
  | [] => rfl
  | a :: x => by
    rw [bl_cons, bl_irr x, decide_eq_false (by rw [UInt8.lt_iff_toNat_lt]; omega)]
    simp
theorem bl_tri : ∀ x y : List UInt8, x ≠ y → Op.bytesLess x y = !Op.bytesLess y x
  | [], [], h => absurd rfl h
  | [], b :: y, _ => by rw [bl_nil]; rfl
  | a :: x, [], _ => by rw [bl_nil]; rfl
  | a :: x, b :: y, h => by
    rw [bl_cons, bl_cons]
    by_cases e : a = b
    · subst e
      have hne : x ≠ y := fun q => h (by rw [q])
      rw [decide_eq_false (by rw [UInt8.lt_iff_toNat_lt]; omega), bl_tri x y hne]
      simp
    · have hn : a.toNat ≠ b.toNat := fun q => e (UInt8.toNat_inj.1 q)
      rw [show (a == b) = false from beq_eq_false_iff_ne.2 e, show (b == a) = false from beq_eq_false_iff_ne.2 (Ne.symm e)]
      simp only [Bool.false_and, Bool.or_false]
      by_cases c : a < b
      · have : ¬ b < a := by rw [UInt8.lt_iff_toNat_lt] at *; omega
        rw [decide_eq_true c, decide_eq_false this]; rfl
      · have : b < a := by rw [UInt8.lt_iff_toNat_lt] at *; omega
        rw [decide_eq_false c, decide_eq_true this]; rfl
theorem bl_trans : ∀ x y z : List UInt8, Op.bytesLess x y = true → Op.bytesLess y z = true → Op.bytesLess x z = true
  | _, [], _, h, _ => by rw [bl_nil] at h; cases h
  | _, _ :: _, [], _, h => by rw [bl_nil] at h; cases h
  | [], _ :: _, _ :: _, _, _ => rfl
  | a :: x, b :: y, c :: z, h1, h2 => by
    rw [bl_cons, Bool.or_eq_true, decide_eq_true_eq, Bool.and_eq_true, beq_iff_eq] at *
    rcases h1 with h1 | ⟨rfl, h1⟩
    · rcases h2 with h2 | ⟨rfl, _⟩
      · left; rw [UInt8.lt_iff_toNat_lt] at *; omega
      · exact .inl h1
    · rcases h2 with h2 | ⟨rfl, h2⟩
      · exact .inl h2
      · exact .inr ⟨rfl, bl_trans x y z h1 h2⟩
/-- do names come ahead of others? -/
def ahead : List Name → List Name → Bool
  | _, [] => false
  | [], _ :: _ => true
  | s :: l, t :: m => if s = t then ahead l m else Op.bytesLess s t
theorem ahead_irr : ∀ l : List Name, ahead l l = false
  | [] => rfl
  | s :: l => by rw [ahead, if_pos rfl]; exact ahead_irr l
theorem ahead_tri : ∀ l m : List Name, l ≠ m → ahead l m = !ahead m l
  | [], [], h => absurd rfl h
  | [], _ :: _, _ => rfl
  | _ :: _, [], _ => rfl
  | s :: l, t :: m, h => by
    rw [ahead, ahead]
    by_cases e : s = t
    · subst e
      rw [if_pos rfl, if_pos rfl]
      exact ahead_tri l m fun q => h (by rw [q])
    · rw [if_neg e, if_neg (Ne.symm e)]
      exact bl_tri s t e
theorem ahead_trans : ∀ l m n : List Name, ahead l m = true → ahead m n = true → ahead l n = true
  | l, [], _, h, _ => by cases l <;> cases h
  | _, m, [], _, h => by cases m <;> cases h
  | [], _ :: _, _ :: _, _, _ => rfl
  | s :: l, t :: m, u :: n, h1, h2 => by
    rw [ahead] at *
    by_cases e : s = t
    · subst e
      rw [if_pos rfl] at h1
      by_cases f : s = u
      · subst f
        rw [if_pos rfl] at h2 ⊢
        exact ahead_trans l m n h1 h2
      · rw [if_neg f] at h2 ⊢; exact h2
    · rw [if_neg e] at h1
      by_cases f : t = u
      · subst f
        rw [if_neg e]; exact h1
      · rw [if_neg f] at h2
        have h3 := bl_trans _ _ _ h1 h2
        by_cases g : s = u
        · subst g; rw [bl_irr] at h3; cases h3
        · rw [if_neg g]; exact h3
/-- a beginning comes ahead -/
theorem ahead_front : ∀ (l r : List Name), r ≠ [] → ahead l (l ++ r) = true
  | [], r, h => by
    cases r with
    | nil => exact absurd rfl h
    | cons _ _ => rfl
  | s :: l, r, h => by rw [List.cons_append, ahead, if_pos rfl]; exact ahead_front l r h
/-- between a directory and what is in it there is only what is in it -/
theorem ahead_mid : ∀ (l m r : List Name), ahead l m = true → ahead m (l ++ r) = true → ∃ r', m = l ++ r'
  | [], m, _, _, _ => ⟨m, rfl⟩
  | s :: l, [], _, h, _ => by cases h
  | s :: l, t :: m, r, h1, h2 => by
    rw [List.cons_append, ahead] at h2
    rw [ahead] at h1
    by_cases e : s = t
    · subst e
      rw [if_pos rfl] at h1 h2
      obtain ⟨r', e⟩ := ahead_mid l m r h1 h2
      exact ⟨r', by rw [e]; rfl⟩
    · rw [if_neg e] at h1
      rw [if_neg (Ne.symm e)] at h2
      rw [bl_tri s t e, h2] at h1
      cases h1
/-- P39 -/
def less (a b : List UInt8) : Bool × Int :=
  if (split a).2 ≠ 0 then (false, (split a).2) else if (split b).2 ≠ 0 then (false, (split b).2) else (ahead (split a).1 (split b).1, 0)
/-- a path of names begins with another one and a slash just if the names begin so -/
theorem tails_front {l m : List Name} (hl : ∀ s ∈ l, (47 : UInt8) ∉ s) (hm : ∀ s ∈ m, (47 : UInt8) ∉ s) : (∃ x, tails m = tails l ++ 47 :: x) ↔ ∃ r, r ≠ [] ∧ m = l ++ r := by
  constructor
  · rintro ⟨x, e⟩
    have h1 := cut_tails hm
    rw [e, cut_slash, cut_tails hl] at h1
    refine ⟨cut x, cut_ne x, ?_⟩
    exact (List.cons.inj h1).2.symm
  · rintro ⟨r, hr, rfl⟩
    cases r with
    | nil => exact absurd rfl hr
    | cons t r => exact ⟨t ++ tails r, by simp [tails]⟩
/-- is a path another one's, or in it? -/
theorem beneath_iff {p d : List UInt8} {m l : List Name} (hp : split p = (m, 0)) (hd : split d = (l, 0)) : (p = d ∨ d = [47] ∨ ∃ x, p = d ++ 47 :: x) ↔ ∃ r, m = l ++ r := by
  obtain ⟨ep, jp⟩ := join_ok (split_join hp)
  obtain ⟨ed, jd⟩ := join_ok (split_join hd)
  by_cases hl : l = []
  · subst hl
    have : d = [47] := jd
    exact ⟨fun _ => ⟨m, rfl⟩, fun _ => .inr (.inl this)⟩
  rw [joinB, if_neg hl] at jd
  constructor
  · rintro (e | e | ⟨x, e⟩)
    · refine ⟨[], ?_⟩
      rw [List.append_nil]
      subst e
      rw [hp] at hd
      exact (Prod.mk.inj hd).1
    · exfalso
      rw [e] at hd
      have : ([] : List Name) = l := (Prod.mk.inj (show (([] : List Name), (0 : Int)) = (l, 0) from hd)).1
      exact hl this.symm
    · by_cases hm : m = []
      · exfalso
        subst hm
        rw [jp, jd] at e
        have h2 := congrArg List.length e
        have hpos : 0 < (tails l).length := by
          cases l with
          | nil => exact absurd rfl hl
          | cons s l => simp [tails]
        simp [joinB] at h2
        omega
      · rw [joinB, if_neg hm] at jp
        rw [jp, jd] at e
        obtain ⟨r, _, q⟩ := (tails_front (noslash ed) (noslash ep)).1 ⟨x, e⟩
        exact ⟨r, q⟩
  · rintro ⟨r, rfl⟩
    by_cases hr : r = []
    · subst hr
      rw [List.append_nil] at hp
      exact .inl (split_inj hp hd)
    · have hm : l ++ r ≠ [] := fun q => hr (List.append_eq_nil_iff.1 q).2
      rw [joinB, if_neg hm] at jp
      obtain ⟨x, e⟩ := (tails_front (noslash ed) (noslash ep)).2 ⟨r, hr, rfl⟩
      exact .inr (.inr ⟨x, by rw [jp, jd]; exact e⟩)
end Nn
end Go.Proofs.YtfcnlfblfennaaaDoor
