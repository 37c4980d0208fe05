/-
  P32 (no Go in it): how two places are held against each other: by their digests, then by where they lie; what is sorted so and thinned is the index.
-/
import Derived.Test.YtllioidjelgafabIxCmpM
import Derived.Shelf.SlSortCmp.NoneTotal
namespace Go.Proofs.Ytllioidjelgafab
open Go.Sort

theorem lt_pl {a b : Plc} : ltOf cPl a b = true ↔ Ix.ky a.p < Ix.ky b.p ∨ (a.id = b.id ∧ Ix.sm a.p b.p) := by rw [ltOf, decide_eq_true_iff, cPl_neg]
theorem ky_eq {a b : Plc} (h : Ix.ky a.p = Ix.ky b.p) : a.id = b.id := Ix.val_inj (a.hid.trans b.hid.symm) h
theorem ky_of {a b : Plc} (h : a.id = b.id) : Ix.ky a.p = Ix.ky b.p := congrArg Nm.val h
theorem lt_not {a b : Plc} : ltOf cPl a b = false ↔ Ix.ky b.p < Ix.ky a.p ∨ (a.id = b.id ∧ ¬ Ix.sm a.p b.p) := by
  rw [← Bool.not_eq_true, lt_pl]
  constructor
  · intro h
    rcases Nat.lt_trichotomy (Ix.ky a.p) (Ix.ky b.p) with c | c | c
    · exact absurd (.inl c) h
    · exact .inr ⟨ky_eq c, fun k => h (.inr ⟨ky_eq c, k⟩)⟩
    · exact .inl c
  · rintro (h | h) (k | k)
    · omega
    · have := ky_of k.1; omega
    · have := ky_of h.1; omega
    · exact h.2 k.2
theorem swo_pl : SWO (ltOf cPl) where
  irrefl x := lt_not.2 (.inr ⟨rfl, Ix.sm_self _⟩)
  trans x y z h k := by
    rcases lt_pl.1 h with h | h <;> rcases lt_pl.1 k with k | k <;> refine lt_pl.2 ?_
    · exact .inl (Nat.lt_trans h k)
    · exact .inl (by rw [← ky_of k.1]; exact h)
    · exact .inl (by rw [ky_of h.1]; exact k)
    · exact .inr ⟨h.1.trans k.1, Ix.sm_trans h.2 k.2⟩
  ntrans x y z h k := by
    rcases lt_not.1 h with h | h <;> rcases lt_not.1 k with k | k <;> refine lt_not.2 ?_
    · exact .inl (Nat.lt_trans k h)
    · exact .inl (by rw [← ky_of k.1]; exact h)
    · exact .inl (by rw [ky_of h.1]; exact k)
    · exact .inr ⟨h.1.trans k.1, Ix.sm_not_trans h.2 k.2⟩
theorem tot_pl (x y : Plc) (h : ltOf cPl x y = false) (k : ltOf cPl y x = false) : x = y := by
  rcases lt_not.1 h with h | h <;> rcases lt_not.1 k with k | k
  · omega
  · have := ky_of k.1; omega
  · have := ky_of h.1; omega
  · exact Plc.p_inj (Ix.sm_eq h.1 h.2 k.2)
/-- the places sorted -/
def srt (l : List Plc) : List Plc := l.mergeSort fun x y => !(ltOf cPl) y x
theorem srt_perm (l : List Plc) : (srt l).Perm l := List.mergeSort_perm _ _
theorem srt_length (l : List Plc) : (srt l).length = l.length := (srt_perm l).length_eq
theorem srt_srt (l : List Plc) : Ix.Srt (ps (srt l)) := by
  have h : (srt l).Pairwise fun x y => (!(ltOf cPl) y x) = true := List.pairwise_mergeSort (le := fun x y => !(ltOf cPl) y x) (fun a b c h k => by
    rw [Bool.not_eq_true'] at h k ⊢
    exact swo_pl.ntrans c b a k h) (fun a b => by
    cases e : ltOf cPl b a with
    | false => rfl
    | true =>
      cases e2 : ltOf cPl a b with
      | false => rfl
      | true => have := swo_pl.trans a b a e2 e; rw [swo_pl.irrefl] at this; exact absurd this (by decide)) l
  refine List.pairwise_map.2 (h.imp fun {a b} hab => ?_)
  rw [Bool.not_eq_true'] at hab
  rcases lt_not.1 hab with k | k
  · exact .inl k
  · exact .inr ⟨k.1.symm, k.2⟩
/-- the first of each digest, behind one of that digest -/
def fsts : Option (List UInt8) → List Plc → List Plc
  | _, [] => []
  | none, p :: x => p :: fsts (some p.id) x
  | some b, p :: x => if p.id = b then fsts (some b) x else p :: fsts (some p.id) x
theorem ps_fsts : ∀ (o : Option (List UInt8)) (l : List Plc), ps (fsts o l) = Ix.firsts o (ps l)
  | none, [] => by rw [fsts, ps, List.map_nil, Ix.firsts]
  | some _, [] => by rw [fsts, ps, List.map_nil, Ix.firsts]
  | none, p :: x => by rw [fsts]; show p.p :: ps _ = Ix.firsts none (p.p :: ps x); rw [Ix.firsts, ps_fsts]; rfl
  | some b, p :: x => by
    rw [fsts]
    show ps _ = Ix.firsts (some b) (p.p :: ps x)
    rw [Ix.firsts]
    show _ = if p.id = b then _ else _
    split
    · exact ps_fsts _ _
    · show p.p :: ps _ = _; rw [ps_fsts]; rfl
theorem fsts_length : ∀ (o : Option (List UInt8)) (l : List Plc), (fsts o l).length ≤ l.length
  | none, [] => by rw [fsts]; exact Nat.le_refl _
  | some _, [] => by rw [fsts]; exact Nat.le_refl _
  | none, p :: x => by rw [fsts, List.length_cons, List.length_cons]; have := fsts_length (some p.id) x; omega
  | some b, p :: x => by
    rw [fsts]
    split
    · have := fsts_length (some b) x; rw [List.length_cons]; omega
    · rw [List.length_cons, List.length_cons]; have := fsts_length (some p.id) x; omega
/-- what settle makes -/
def stl (l : List Plc) : List Plc := fsts none (srt l)
theorem stl_length (l : List Plc) : (stl l).length ≤ l.length := by
  have := fsts_length none (srt l)
  rw [srt_length] at this
  exact this
theorem stl_puts (l : List Plc) : ps (stl l) = Ix.puts [] (ps l) := by
  rw [stl, ps_fsts]
  exact Ix.firsts_puts (srt_srt l) (fun p => ((srt_perm l).map Plc.p).mem_iff) (ps_ids l)
/-- of two rising lists one behind the other -/
theorem stl_two {a b : List Plc} (ha : Ix.Up (ps a)) : ps (stl (a ++ b)) = Ix.puts (ps a) (ps b) := by
  rw [stl_puts, ps, List.map_append]
  exact (Ix.puts_nil_is (l := ps a ++ ps b) (by rw [← List.map_append]; exact ps_ids _)).once (Ix.puts_is ha (by rw [← List.map_append]; exact ps_ids _))
end Go.Proofs.Ytllioidjelgafab
