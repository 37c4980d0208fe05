/-
  The table says what fits.
-/
import Derived.Test.YtfcnlfblfennaaaDoorGbMath
namespace Go.Proofs.YtfcnlfblfennaaaDoor
namespace Gb
/-- a row of the table, out of the one before it -/
def row (any : Bool) (now one : Nat → Bool) : Nat → Bool
  | 0 => any && now 0
  | k + 1 => if any then now (k + 1) || row any now one k else now k && one k
/-- the table -/
def tab (any : Nat → Bool) (one : Nat → Nat → Bool) : Nat → Nat → Bool
  | 0 => fun k => k == 0
  | i + 1 => row (any i) (tab any one i) (one i)

theorem tab_tb {α β : Type} (f : β → α → Bool) (l : List α) (p : List (Option β)) (any : Nat → Bool) (one : Nat → Nat → Bool)
    (ha : ∀ i x, p[i]? = some x → any i = x.isNone) (ho : ∀ i k b a, p[i]? = some (some b) → l[k]? = some a → one i k = f b a) :
    ∀ i, i ≤ p.length → ∀ k, k ≤ l.length → tab any one i k = tb f l (p.take i) k := by
  intro i
  induction i with
  | zero =>
    intro _ k hk
    rw [List.take_zero, tb_zero f l k hk]
    show (k == 0) = _
    cases k <;> rfl
  | succ i ih =>
    intro hi k hk
    have hlt : i < p.length := hi
    have e : p.take (i + 1) = p.take i ++ [p[i]] := by rw [List.take_succ_eq_append_getElem hlt]
    have hx : p[i]? = some p[i] := List.getElem?_eq_getElem hlt
    have ih' := ih (Nat.le_of_lt hlt)
    rw [e]
    show row (any i) (tab any one i) (one i) k = _
    generalize p[i] = x at hx
    have hai := ha i x hx
    cases x with
    | none =>
      have hai : any i = true := hai
      rw [hai]
      induction k with
      | zero => rw [tb_any f l _ 0 hk, ← ih' 0 hk]; simp [row]
      | succ k ihk =>
        rw [tb_any f l _ (k + 1) hk, ← ih' (k + 1) hk, Nat.add_sub_cancel, ← ihk (Nat.le_of_succ_le hk)]
        simp [row]
    | some b =>
      have hai : any i = false := hai
      rw [hai, tb_one f l _ b k hk]
      cases k with
      | zero =>
        cases l[0 - 1]? <;> simp [row]
      | succ k =>
        have hkl : k < l.length := hk
        rw [Nat.add_sub_cancel, List.getElem?_eq_getElem hkl]
        simp only [row, Bool.false_eq_true, if_false]
        rw [ih' k (Nat.le_of_lt hkl), ho i k b l[k] hx (List.getElem?_eq_getElem hkl)]
        simp
/-- the table's last answer -/
theorem tab_fit {α β : Type} (f : β → α → Bool) (l : List α) (p : List (Option β)) (any : Nat → Bool) (one : Nat → Nat → Bool)
    (ha : ∀ i x, p[i]? = some x → any i = x.isNone) (ho : ∀ i k b a, p[i]? = some (some b) → l[k]? = some a → one i k = f b a) :
    tab any one p.length l.length = fit f p l := by
  rw [tab_tb f l p any one ha ho p.length (Nat.le_refl _) l.length (Nat.le_refl _), List.take_length, tb, List.take_length]
end Gb
end Go.Proofs.YtfcnlfblfennaaaDoor
