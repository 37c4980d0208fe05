/-
  Numbers handed in, read as data: opened.
-/
import Derived.Test.YtoibiaikbgkbpaaHfInts
import Derived.OpenShut
import Derived.Lib.SmallJoins
import Derived.DataShut
import Derived.WideShapes
import Derived.Deep.Strs
import Derived.Deep.Slices
import Derived.SizedLaws
namespace Go.Proofs.Ytoibiaikbgkbpaa
open Go.RowKit Go.ChangeShapes Go.WideShapes Go.Deep Go.Joins

section
variable {H : Type} {enc : TypeId × Value → H} {w : World} {base : Nat} {spare : Nat → Bool} {held : Bool}
theorem open_num {n : Nat} {cs : List Value} {x : DataW H × List MemPlace} (h : DataW.trod enc Try.prog w base spare held n 3 cs = some x) : ∃ b : Int, cs = [.int .i64 b] ∧ (Lit.int .i64 b).wf = true := by
  obtain ⟨b, hb, _, hw⟩ := DataW.trod_int Try.underlying3 h
  exact ⟨b, hb, hw⟩
theorem open_nums {fuel : Nat} {sa : Option Addr} {len cap : Nat} {x : DataW H × List MemPlace} (h : DataW.trod enc Try.prog w base spare held fuel 23 [.slice sa len cap] = some x) (hlt : ∀ y ∈ x.2, y.block < w.heap.size) :
    ∃ l : List Int, Ints w (.slice sa len cap) l ∧ (∀ n ∈ l, (Lit.int .i64 n).wf = true) ∧ (l.length = 0 ∨ ∃ elems sp, x.1 = .slice elems sp ∧ l.length = elems.length) := by
  rcases open_slice Try.underlying23 h with ⟨hcs, hx⟩ | ⟨a, len', cap', m, n, D, Pl, hcs, _, hl, hm, hmm, hx, hall⟩
  · simp at hcs
    obtain ⟨rfl, rfl, rfl⟩ := hcs
    exact ⟨[], ⟨.inl ⟨⟨_, _, rfl⟩, rfl⟩⟩, fun n hn => by simp at hn, .inl rfl⟩
  · simp at hcs
    obtain ⟨rfl, rfl, rfl⟩ := hcs
    have hlm : len ≤ m := by rw [hmm]; split <;> omega
    have k1 : Try.prog.cellsOf 3 = 1 := by kernel_rfl
    rw [k1] at hall
    have some_int : Inhabited Int := ⟨0⟩
    obtain ⟨T, hT⟩ := choose_lt (α := Int) (n := len) (p := fun i t => w.cells? base (a.add (i * 1)) 1 = some [.int .i64 t] ∧ (Lit.int .i64 t).wf = true) (fun i hi => by
      obtain ⟨cs', h1, h2⟩ := hall i (by omega)
      obtain ⟨t, rfl, hw⟩ := open_num h2
      exact ⟨t, h1, hw⟩)
    subst hx
    refine ⟨(List.range len).map T, ?_, fun n hn => ?_, .inr ⟨_, _, rfl, by simp⟩⟩
    · by_cases hc0 : len = 0
      · subst hc0
        exact ⟨.inl ⟨⟨_, _, rfl⟩, by simp⟩⟩
      · have hcell : ∀ j, j < len → w.cell? (a.add j) = some (.int .i64 (T j)) := fun j hj => by
          obtain ⟨_, hlen, hc⟩ := World.cells?_some (hT j hj).1
          have := hc 0 (by omega)
          rw [add_add] at this
          simpa using this
        obtain ⟨b, off, spot⟩ := a
        have hspot : spot = none := by simpa [Addr.add] using World.cell?_spot (hcell 0 (by omega))
        subst hspot
        have hbW : b < w.heap.size := hlt (.cell b off) (List.mem_append_left _ (MemPlace.mem_row.2 ⟨0, by rw [k1]; omega, by simp⟩))
        refine ⟨.inr ⟨b, off, cap, by simp, hbW, fun j hj => ?_⟩⟩
        have hj' : j < len := by simpa using hj
        have e := hcell j hj'
        rw [add_plain] at e
        simp only [List.getElem_map, List.getElem_range]
        exact e
    · obtain ⟨i, hi, rfl⟩ := List.mem_map.1 hn
      exact (hT i (List.mem_range.1 hi)).2
end
end Go.Proofs.Ytoibiaikbgkbpaa
