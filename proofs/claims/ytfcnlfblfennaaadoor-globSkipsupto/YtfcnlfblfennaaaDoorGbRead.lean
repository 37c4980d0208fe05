/-
  Under P40 (no Go in it but the model's own runes of a text): signs read one by one; the runes of a text are its characters.
-/
import Derived.Test.YtfcnlfblfennaaaDoorRgItems
import Derived.Laws.IdiomStrings
namespace Go.Proofs.YtfcnlfblfennaaaDoor
open Go.RowKit

namespace Gb
open Nn (chars chr)
/-- a character, with its backslash if it has one, and what is left -/
def rc : List Nat → Option (Nat × List Nat)
  | [] => none
  | c :: l => if c = 92 then l.head?.map (fun d => (d, l.tail)) else some (c, l)
theorem pl_rc {l : List Nat} (h : l.head? ≠ some 93) : pl l = rc l := by
  cases l with
  | nil => rfl
  | cons c l =>
    rw [List.head?_cons] at h
    rw [pl, rc, if_neg (fun e => h (by rw [e]))]
theorem pl_shut {l : List Nat} (h : l.head? = some 93) : pl l = none := by
  cases l with
  | nil => rfl
  | cons c l =>
    rw [List.head?_cons] at h
    rw [pl, if_pos (by simpa using h)]
theorem rc_less {l r : List Nat} {c : Nat} (h : rc l = some (c, r)) : r.length < l.length := by
  cases l with
  | nil => cases h
  | cons a l =>
    rw [rc] at h
    split at h
    · obtain ⟨d, hd, e⟩ := Option.map_eq_some_iff.1 h
      cases e
      rw [List.length_tail, List.length_cons]
      omega
    · cases h; simp
/-- an item that does not begin with the bracket that shuts, read as the program reads it -/
theorem item_rc {l : List Nat} (h : l.head? ≠ some 93) : item l = (rc l).bind fun x => if x.2.head? = some 45 then (if x.2.tail.head? = some 93 then none else (rc x.2.tail).bind fun y => if y.1 < x.1 then none else some ((x.1, y.1), y.2)) else some ((x.1, x.1), x.2) := by
  unfold item
  rw [pl_rc h]
  cases rc l with
  | none => rfl
  | some x =>
    obtain ⟨c, r⟩ := x
    rw [Option.bind_some]
    dsimp only
    by_cases hd : r.head? = some 45
    · rw [if_pos hd, if_pos hd]
      by_cases hs : r.tail.head? = some 93
      · rw [if_pos hs, pl_shut hs]
      · rw [if_neg hs, pl_rc hs]
        cases rc r.tail <;> rfl
    · rw [if_neg hd, if_neg hd]
/-- a sign, and what is left -/
def sgn : List Nat → Option (Option Tst × List Nat)
  | [] => none
  | c :: l => if c = 42 then some (none, l) else if c = 63 then some (some anyc, l) else if c = 91 then (cls l).map fun x => (some x.1, x.2) else (rc (c :: l)).map fun x => (some (just x.1), x.2)
theorem sgn_less {l r : List Nat} {t : Option Tst} (h : sgn l = some (t, r)) : r.length < l.length := by
  cases l with
  | nil => cases h
  | cons c l =>
    rw [sgn] at h
    split at h
    · cases h; simp
    split at h
    · cases h; simp
    split at h
    · obtain ⟨⟨x, s⟩, hx, e⟩ := Option.map_eq_some_iff.1 h
      cases e
      have := cls_less hx
      rw [List.length_cons]; dsimp only; omega
    · obtain ⟨⟨x, s⟩, hx, e⟩ := Option.map_eq_some_iff.1 h
      cases e
      exact rc_less hx
/-- signs one by one -/
def sgs (l : List Nat) : Option (List (Option Tst)) := signs l.length l
theorem sgs_nil : sgs [] = some [] := rfl
theorem sgs_step {l : List Nat} (h : l ≠ []) : sgs l = (sgn l).bind fun x => (sgs x.2).map (x.1 :: ·) := by
  cases l with
  | nil => exact absurd rfl h
  | cons c l =>
    unfold sgs
    rw [List.length_cons, signs, sgn]
    by_cases h1 : c = 42
    · rw [if_pos h1, if_pos h1]; rfl
    rw [if_neg h1, if_neg h1]
    by_cases h2 : c = 63
    · rw [if_pos h2, if_pos h2]; rfl
    rw [if_neg h2, if_neg h2]
    by_cases h3 : c = 91
    · rw [if_pos h3, if_pos h3]
      cases hc : cls l with
      | none => rfl
      | some x =>
        obtain ⟨t, s⟩ := x
        have hl := cls_less hc
        show (signs l.length s).map _ = (signs s.length s).map _
        rw [signs_more l.length s.length s (by omega) (Nat.le_refl _)]
    rw [if_neg h3, if_neg h3, rc]
    by_cases h4 : c = 92
    · rw [if_pos h4, if_pos h4]
      cases l with
      | nil => rfl
      | cons d l =>
        show (signs (l.length + 1) l).map _ = (signs l.length l).map _
        rw [signs_more (l.length + 1) l.length l (by omega) (Nat.le_refl _)]
    · rw [if_neg h4, if_neg h4]; rfl
theorem part_sgs {s : Nn.Name} {cs : List Nat} (hc : chars s = some cs) : part s = if s = [42, 42] then some none else (sgs cs).bind fun m => if m = [] then none else some (some m) := by
  unfold part sgs
  rw [hc]
  dsimp only
  split
  · rfl
  · cases signs cs.length cs <;> rfl
end Gb

/-- a rune -/
def Rv (c : Nat) : Value := .int .i32 c
theorem runes_from (s : ByteArray) : ∀ (bound i : Nat) (acc : Array Value) (cs : List Nat), s.size - i ≤ bound → Nn.chars (s.data.toList.drop i) = some cs → Conv.runesFrom s bound i acc = acc ++ (cs.map Rv).toArray
  | 0, i, acc, cs, hb, h => by
    have : s.data.toList.drop i = [] := List.drop_eq_nil_of_le (by rw [← Lib.size_eq]; omega)
    rw [this, Nn.chars_nil] at h
    cases h
    simp [Conv.runesFrom]
  | bound + 1, i, acc, cs, hb, h => by
    unfold Conv.runesFrom
    by_cases hi : i < s.size
    · have hne : s.data.toList.drop i ≠ [] := fun e => by
        have := congrArg List.length e
        rw [List.length_drop, ← Lib.size_eq] at this
        simp at this
        omega
      rw [if_pos hi]
      rw [Nn.chars_step _ hne] at h
      by_cases c0 : (Nn.chr (s.data.toList.drop i)).2 = 0
      · rw [if_pos c0] at h; cases h
      rw [if_neg c0] at h
      obtain ⟨r, hr, rfl⟩ := Option.map_eq_some_iff.1 h
      have hd : Nn.chr (s.data.toList.drop i) = Utf8.decode s i := by
        have e := Lib.decodeL_drop s i
        unfold Nn.chr at c0 ⊢
        rw [if_neg hne] at c0 ⊢
        split at c0
        · exact absurd rfl c0
        · rename_i q
          rw [if_neg q, e]
      rw [hd] at hr ⊢
      have hw : 1 ≤ (Utf8.decode s i).2 := by rw [← hd]; omega
      have := runes_from s bound (i + (Utf8.decode s i).2) (acc.push (.int .i32 (Int.ofNat (Utf8.decode s i).1))) r (by omega) (by rw [← List.drop_drop]; exact hr)
      dsimp only
      rw [this]
      simp [Rv]
    · rw [if_neg hi]
      have : s.data.toList.drop i = [] := List.drop_eq_nil_of_le (by rw [← Lib.size_eq]; omega)
      rw [this, Nn.chars_nil] at h
      cases h
      simp
theorem runes_chars {s : ByteArray} {cs : List Nat} (h : Nn.chars s.data.toList = some cs) : Conv.runesFrom s s.size 0 #[] = (cs.map Rv).toArray := by
  rw [runes_from s s.size 0 #[] cs (by omega) (by rw [List.drop_zero]; exact h)]
  simp
end Go.Proofs.YtfcnlfblfennaaaDoor
