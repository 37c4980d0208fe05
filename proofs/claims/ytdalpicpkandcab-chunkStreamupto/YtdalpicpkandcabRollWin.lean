/-
  What has been pushed: the window holds the last sixteen bytes, and the sum is theirs.
-/
import Derived.Test.YtdalpicpkandcabRollRst
namespace Go.Proofs.Ytdalpicpkandcab
open Go.RowKit

theorem drop_past (l : List UInt8) {n : Nat} (h : l.length ≤ n) : l.drop n = [] := List.drop_eq_nil_of_le h
def Rst.zero : Rst := ⟨List.replicate 16 0, 0, 0⟩
/-- the window, the oldest byte first -/
def Rst.win (r : Rst) : List UInt8 := r.l.drop r.i ++ r.l.take r.i
theorem win_push {l : List UInt8} {i : Nat} (hl : l.length = 16) (hi : i < 16) (b : UInt8) :
    (l.set i b).drop ((i + 1) % 16) ++ (l.set i b).take ((i + 1) % 16) = (l.drop i ++ l.take i).tail ++ [b] := by
  have hd : l.drop i = l[i] :: l.drop (i + 1) := List.drop_eq_getElem_cons (by omega)
  rw [hd, List.cons_append, List.tail_cons]
  by_cases h : i = 15
  · subst h
    rw [show (15 + 1) % 16 = 0 from rfl, List.drop_zero, List.take_zero, List.append_nil, drop_past l (by omega), List.nil_append]
    rw [List.set_eq_take_append_cons_drop, if_pos (by omega), drop_past l (by omega)]
  · rw [Nat.mod_eq_of_lt (by omega), List.append_assoc]
    congr 1
    · rw [List.drop_set_of_lt (by omega)]
    · rw [List.take_succ_eq_append_getElem (by rw [List.length_set]; omega), List.take_set_of_le (by omega), List.getElem_set_self]
theorem win_head {l : List UInt8} {i : Nat} (hl : l.length = 16) (hi : i < 16) : l.drop i ++ l.take i = l.getD i 0 :: (l.drop i ++ l.take i).tail := by
  have hd : l.drop i = l[i] :: l.drop (i + 1) := List.drop_eq_getElem_cons (by omega)
  rw [hd, List.cons_append, List.tail_cons, List.getD_eq_getElem?_getD, List.getElem?_eq_getElem (by omega)]
  rfl
/-- of what was pushed -/
structure Rst.Of (r : Rst) (p : List UInt8) : Prop where
  ok : r.Ok
  win : r.win = Rl.lastL p
  sum : r.o = Rl.ofL p
theorem Rst.Of.zero : Rst.zero.Of [] := ⟨⟨rfl, by decide, by decide⟩, rfl, rfl⟩
theorem Rst.Of.push {r : Rst} {p : List UInt8} (h : r.Of p) (b : UInt8) : (r.push b).Of (p ++ [b]) := by
  have hw : (r.push b).win = Rl.lastL (p ++ [b]) := by
    rw [Rl.lastL_snoc, ← h.win]
    exact win_push h.ok.len h.ok.low b
  refine ⟨h.ok.push b, hw, ?_⟩
  have h1 : Rl.lastL p = (r.l.getD r.i 0) :: (Rl.lastL p).tail := by
    rw [← h.win]; exact win_head h.ok.len h.ok.low
  have h2 := Rl.lastL_length p
  show Rl.mxk 8 (r.o ^^^ Rl.mxk 120 (r.l.getD r.i 0).toNat) ^^^ b.toNat = _
  rw [h.sum, ← Rl.lastL_sum, ← Rl.lastL_sum, Rl.lastL_snoc]
  conv => lhs; rw [h1]
  exact Rl.ofA_push _ b _ (by rw [List.length_tail]; omega)
theorem Rst.Of.all {r : Rst} {p : List UInt8} (h : r.Of p) (s : List UInt8) : (r.all s).Of (p ++ s) := by
  induction s generalizing r p with
  | nil => rw [List.append_nil]; exact h
  | cons b s ih =>
    have := ih (h.push b)
    rw [List.append_assoc] at this
    exact this
theorem ofL_forgets (s t : List UInt8) (h : 16 ≤ t.length) : Rl.ofL (s ++ t) = Rl.ofL t := by
  rw [Rl.ofL, Rl.ofL, List.length_append, List.drop_append, drop_past s (by omega), List.nil_append, show s.length + t.length - 16 - s.length = t.length - 16 from by omega]
end Go.Proofs.Ytdalpicpkandcab
