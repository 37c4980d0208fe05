/-
  P32, before the walk of the reference's put: one more place among places, as a list of places as they lie in memory.
-/
import Derived.Test.YtllioidjelgafaaRSm
import Derived.Test.YtllioidjelgafaaPlRw
import Derived.Test.YtllioidjelgafaaPlOf
namespace Go.Proofs.Ytllioidjelgafaa
open Go.RowKit

/-- one more place -/
def pput : List Plc → Plc → List Plc
  | [], p => [p]
  | q :: x, p => if Ix.ky p.p < Ix.ky q.p then p :: q :: x else if p.id = q.id then (if Ix.sm q.p p.p then q else p) :: x else q :: pput x p
theorem ps_pput (x : List Plc) (p : Plc) : ps (pput x p) = Ix.put (ps x) p.p := by
  induction x with
  | nil => rfl
  | cons q x ih =>
    show ps (pput (q :: x) p) = Ix.put (q.p :: ps x) p.p
    rw [pput, Ix.put]
    by_cases h1 : Ix.ky p.p < Ix.ky q.p
    · rw [if_pos h1, if_pos h1]; rfl
    · rw [if_neg h1, if_neg h1]
      by_cases h2 : p.id = q.id
      · rw [if_pos h2, if_pos (show p.p.id = q.p.id from h2)]
        by_cases h3 : Ix.sm q.p p.p
        · rw [if_pos h3, if_pos h3]; rfl
        · rw [if_neg h3, if_neg h3]; rfl
      · rw [if_neg h2, if_neg (show ¬ p.p.id = q.p.id from h2)]
        show q.p :: ps (pput x p) = q.p :: Ix.put (ps x) p.p
        rw [ih]
theorem pput_len (x : List Plc) (p : Plc) : (pput x p).length ≤ x.length + 1 := by
  induction x with
  | nil => exact Nat.le_refl _
  | cons q x ih =>
    rw [pput]
    split
    · simp
    · split
      · simp
      · simp only [List.length_cons]; omega
/-- what is still to come of it: `d`, whether the place is in already -/
def pend (d : Bool) (x : List Plc) (p : Plc) : List Plc := if d then x else pput x p
theorem pend_done {x : List Plc} {q p : Plc} {k : Nat} (h : x[k]? = some q) : pend true (x.drop k) p = q :: pend true (x.drop (k + 1)) p := by
  obtain ⟨hk, rfl⟩ := List.getElem?_eq_some_iff.1 h
  exact List.drop_eq_getElem_cons hk
theorem pend_cons {x : List Plc} {q p : Plc} {k : Nat} (h : x[k]? = some q) : pend false (x.drop k) p = if Ix.ky p.p < Ix.ky q.p then p :: q :: x.drop (k + 1) else if p.id = q.id then (if Ix.sm q.p p.p then q else p) :: x.drop (k + 1) else q :: pput (x.drop (k + 1)) p := by
  obtain ⟨hk, rfl⟩ := List.getElem?_eq_some_iff.1 h
  show pput (x.drop k) p = _
  rw [List.drop_eq_getElem_cons hk, pput]
theorem pend_ahead {x : List Plc} {q p : Plc} {k : Nat} (h : x[k]? = some q) (hc : cId p.id q.id < 0) : pend false (x.drop k) p = p :: q :: pend true (x.drop (k + 1)) p := by
  rw [pend_cons h, if_pos (show Ix.ky p.p < Ix.ky q.p from cId_neg.1 hc)]; rfl
theorem pend_same {x : List Plc} {q p : Plc} {k : Nat} (h : x[k]? = some q) (hc : cId p.id q.id = 0) : pend false (x.drop k) p = (if Ix.sm q.p p.p then q else p) :: pend true (x.drop (k + 1)) p := by
  rw [pend_cons h, if_neg (show ¬ Ix.ky p.p < Ix.ky q.p from fun hh => by have : cId p.id q.id < 0 := cId_neg.2 hh; omega), if_pos ((cId_zero (p.hid.trans q.hid.symm)).1 hc)]; rfl
theorem pend_behind {x : List Plc} {q p : Plc} {k : Nat} (h : x[k]? = some q) (hc : 0 < cId p.id q.id) : pend false (x.drop k) p = q :: pend false (x.drop (k + 1)) p := by
  rw [pend_cons h, if_neg (show ¬ Ix.ky p.p < Ix.ky q.p from fun hh => by have : cId p.id q.id < 0 := cId_neg.2 hh; omega), if_neg (fun hh => by have := (cId_zero (p.hid.trans q.hid.symm)).2 hh; omega)]; rfl
theorem cId_flip (a b : List UInt8) : cId b a = - cId a b := by
  unfold cId
  repeat' split
  all_goals omega
theorem rown_kept {p : Nat → Prop} {A B : World} {base : Nat} {e : TypeId} {k : Nat} {v : Value} {n : Nat} {xs : List Value} (h : A.ownsRow base e k v n xs) (hk : Kept p A B) (hp : ∀ g, base ≤ g → p g) : B.ownsRow base e k v n xs := by
  refine ⟨h.1, ?_⟩
  rcases h.2 with h' | ⟨g, cap, cur, h1, h2, h3, h4⟩
  · exact .inl h'
  · exact .inr ⟨g, cap, cur, h1, h2, (hk.block g (Array.getElem?_eq_some_iff.1 h3).1 (hp g h2)).trans h3, h4⟩
theorem rown_lower {base base' : Nat} {e : TypeId} {k : Nat} {v : Value} {n : Nat} {xs : List Value} {w : World} (h : w.ownsRow base e k v n xs) (hb : base' ≤ base) : w.ownsRow base' e k v n xs := by
  refine ⟨h.1, ?_⟩
  rcases h.2 with h' | ⟨g, cap, cur, h1, h2, r⟩
  · exact .inl h'
  · exact .inr ⟨g, cap, cur, h1, Nat.le_trans hb h2, r⟩
theorem Rw.one (w : World) (t : Plc) (T : TypeId) : Rw (w.alloc (.cells (plC t).toArray T)) w.heap.size [t] := by
  have hh := heap_alloc_new w (.cells (plC t).toArray T)
  refine ⟨by show w.heap.size < (w.heap.push _).size; simp, fun j s hj r u hu => ?_, fun i hi => by simp only [World.frozen?, hh]; simp⟩
  have hj0 : j = 0 := by
    have := (List.getElem?_eq_some_iff.1 hj).1
    simpa using this
  subst hj0
  obtain rfl : t = s := by simpa using hj
  rw [show 0 * 12 + r = r from by omega, cell_of_row _ w.heap.size r _ _ _ hh]
  simpa using hu
theorem Rw.twelve {w : World} {g : Nat} {b0 b1 b2 b3 b4 b5 b6 b7 : UInt8} {k p a l : Int} (h : Rw w g [⟨[b0, b1, b2, b3, b4, b5, b6, b7], rfl, k, p, a, l⟩]) : At12 w g 0 b0 b1 b2 b3 b4 b5 b6 b7 k p a l :=
  At12.of fun r u hu => by
    have := h.at_ 0 _ rfl r u hu
    rwa [show 0 * 12 + r = 0 + r from by omega] at this
end Go.Proofs.Ytllioidjelgafaa
