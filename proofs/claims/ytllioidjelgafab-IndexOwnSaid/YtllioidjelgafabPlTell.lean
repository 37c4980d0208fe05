/-
  Merge, Of and Check of package index in the form in which the statements meet them; the statements' somePlace.
-/
import Derived.Test.YtllioidjelgafabPlOf
import Derived.Test.YtllioidjelgafabPlEq
namespace Go.Proofs.Ytllioidjelgafab
open Go.RowKit
set_option maxRecDepth 4000

theorem below_t {a b c : World} (h : Below a.heap.size a b) (k : Below b.heap.size b c) : Below a.heap.size a c := h.trans (k.mono h.size)
/-- an index in new memory -/
structure MgOut (w w' : World) (s : Option Addr) (c : Nat) (l : List Plc) (out : List Ix.Pl) : Prop where
  is : ps l = out
  px : Px w' (.slice s l.length c) l
  new : ∀ a, s = some a → w.heap.size ≤ a.block
  bel : Below w.heap.size w w'
theorem MgOut.of {w w' : World} {x : Value} {out : List Ix.Pl} (h : PlOut w w' x out) : ∃ s c l, x = .slice s l.length c ∧ MgOut w w' s c l out := by
  obtain ⟨l, h1, h2, h3, h4⟩ := h
  obtain ⟨s, c, rfl, _, _⟩ := h2.slice
  exact ⟨s, c, l, rfl, h1, h2, fun a e => h3 a _ _ (by rw [e]), h4⟩
theorem merge_tell {v u : Value} {a b : List Plc} {w : World} {out : List Ix.Pl} {er : Int} (he : Ix.merge (ps a) (ps b) = (out, er)) (hl : a.length ≤ 140737488351232) (hm : b.length ≤ 140737488351232) (h : Px w v a) (k : Px w u b) :
    Calls Try.prog 9 #[v, u] w fun e w' => ∃ s c l, e = .returned (.tuple #[.slice s l.length c, .int .i64 er]) ∧ MgOut w w' s c l out := by
  refine (merge_any v u a b w h k hl hm).mono fun e w' ⟨x, hx, ho⟩ => ?_
  rw [he] at hx ho
  obtain ⟨s, c, l, rfl, h2⟩ := MgOut.of ho
  exact ⟨s, c, l, hx, h2⟩

theorem of_tell {n : Int} {v : Value} {l : List Ent} {w : World} {out : List Ix.Pl} {er : Int} (he : Ix.of n (ps (esP n l)) = (out, er)) (hl : l.length ≤ 140737488351232) (h : Ex w v l) :
    Calls Try.prog 12 #[.int .i64 n, v] w fun e w' => ∃ s c l, e = .returned (.tuple #[.slice s l.length c, .int .i64 er]) ∧ MgOut w w' s c l out := by
  refine (of_any n v l w h hl).mono fun e w' ⟨x, hx, ho⟩ => ?_
  rw [he] at hx ho
  obtain ⟨s, c, l, rfl, h2⟩ := MgOut.of ho
  exact ⟨s, c, l, hx, h2⟩

theorem check_tell {v : Value} {l : List Plc} {w : World} {er : Int} (he : Ix.check (ps l) = er) (hl : l.length ≤ 140737488351232) (h : Px w v l) :
    Calls Try.prog 18 #[v] w fun e w' => e = .returned (.int .i64 er) ∧ Below w.heap.size w w' := by
  rw [← he]
  exact check_any v l w h hl

theorem equal_tell {u v : Value} {l m : List Plc} {w : World} (e : l = m) (hl : l.length ≤ 140737488351232) (h1 : Px w u l) (h2 : Px w v m) :
    Calls Try.prog 8 #[u, v] w fun e w' => e = .returned (.bool true) ∧ Below w.heap.size w w' := by
  subst e
  exact equal_pls u v l w h1 h2 hl

/-- the statements' somePlace -/
def sp1 : Plc := ⟨[1, 0, 0, 0, 0, 0, 0, 0], rfl, 1, 0, 0, 0⟩
theorem sp1_merge : Ix.merge (ps [sp1]) (ps []) = (ps [sp1], 0) := by rw [Ix.merge_is (by decide) (by decide)]; rfl

theorem some_place (w : World) : Calls Try.prog 6 #[] w fun e w' => e = .returned (.agg (pl12 1 0 0 0 0 0 0 0 1 0 0 0)) ∧ Below w.heap.size w w' := by
  have HB : Hid (∀ o, Below w.heap.size w (w.alloc o)) := fun o => (Below.refl _ w).alloc (Nat.le_refl _) o
  go_enter Try.func6, Try.ntmps6
  go_wp2_with fail
  refine bodyPost_ret (v := .agg (pl12 1 0 0 0 0 0 0 0 1 0 0 0)) ?_ rfl ⟨rfl, HB.out _⟩
  simp [results, asAddr, go_sem]

theorem one_px (w : World) : Px (w.alloc (.cells (pl12 1 0 0 0 0 0 0 0 1 0 0 0) 29)) (.slice (some ⟨w.heap.size, 0, none⟩) 1 1) [sp1] := by
  refine ⟨.inr ⟨w.heap.size, 0, 1, rfl, by show w.heap.size < (w.heap.push _).size; simp, fun j t hj r u hu => ?_⟩, _, _, _, rfl, by omega, by omega⟩
  have : j = 0 := by
    have := (List.getElem?_eq_some_iff.1 hj).1
    simpa using this
  subst this
  obtain rfl : sp1 = t := by simpa using hj
  rw [show 0 + 0 * 12 + r = r from by omega, cell_of_row _ w.heap.size r _ _ _ (heap_alloc_new w _)]
  show (plC sp1).toArray[r]? = some u
  simpa using hu
end Go.Proofs.Ytllioidjelgafab
