/-
  Bools handed in, read as data: opened; lists of lists of numbers with plain bounds.
-/
import Derived.Test.YtoibiaikbgkbpaaGrMem
namespace Go.Proofs.Ytoibiaikbgkbpaa
open Go.RowKit Go.ChangeShapes Go.WideShapes Go.Deep Go.Joins

section
variable {H : Type} {enc : TypeId × Value → H} {w : World} {base : Nat}

theorem open_kz2 {held : Bool} {fuel : Nat} {sa : Option Addr} {len cap : Nat} {x : DataW H × List MemPlace} (h : DataW.trod enc Try.prog w base (fun _ => true) held fuel 22 [.slice sa len cap] = some x) (hlt : ∀ y ∈ x.2, y.block < w.heap.size) :
    ∃ K : List (List Int), Kz w (.slice sa len cap) K ∧ K.length ≤ 9223372036854775807 ∧ ∀ i, (Gr.kd K i).length ≤ 9223372036854775807 := by
  obtain ⟨K, h1, h2, h3⟩ := open_kz h hlt
  refine ⟨K, h1, by unfold maxLen at h2; exact h2, fun i => ?_⟩
  unfold Gr.kd
  rw [List.getD_eq_getElem?_getD]
  by_cases hi : i < K.length
  · rw [List.getElem?_eq_getElem hi]
    have := h3 _ (List.getElem_mem hi)
    unfold maxLen at this
    exact this
  · rw [List.getElem?_eq_none (by omega)]
    exact Nat.zero_le _

theorem open_bls {held : Bool} {fuel : Nat} {sa : Option Addr} {len cap : Nat} {x : DataW H × List MemPlace} (h : DataW.trod enc Try.prog w base (fun _ => true) held fuel 24 [.slice sa len cap] = some x) (hlt : ∀ y ∈ x.2, y.block < w.heap.size) :
    ∃ l : List Bool, Bls w (.slice sa len cap) l := by
  rcases open_slice Try.underlying24 h with ⟨hcs, hx⟩ | ⟨a, len', cap', m, n, D, Pl, hcs, _, hl, hm, hmm, hx, hall⟩
  · simp at hcs
    obtain ⟨rfl, rfl, rfl⟩ := hcs
    exact ⟨[], ⟨.inl ⟨⟨_, _, rfl⟩, rfl⟩⟩⟩
  · simp at hcs
    obtain ⟨rfl, rfl, rfl⟩ := hcs
    have hlm : len ≤ m := by rw [hmm]; split <;> omega
    have k1 : Try.prog.cellsOf 4 = 1 := by kernel_rfl
    rw [k1] at hall
    obtain ⟨T, hT⟩ := choose_lt (α := Bool) (n := len) (p := fun i t => w.cells? base (a.add (i * 1)) 1 = some [.bool t]) (fun i hi => by
      obtain ⟨cs', h1, h2⟩ := hall i (by omega)
      obtain ⟨t, rfl, _⟩ := DataW.trod_bool Try.underlying4 h2
      exact ⟨t, h1⟩)
    subst hx
    refine ⟨(List.range len).map T, ?_⟩
    by_cases hc0 : len = 0
    · subst hc0
      exact ⟨.inl ⟨⟨_, _, rfl⟩, by simp⟩⟩
    · have hcell : ∀ j, j < len → w.cell? (a.add j) = some (.bool (T j)) := fun j hj => by
        obtain ⟨_, hlen, hc⟩ := World.cells?_some (hT j hj)
        have := hc 0 (by omega)
        rw [add_add] at this
        simpa using this
      obtain ⟨b, off, spot⟩ := a
      have hspot : spot = none := by simpa [Addr.add] using World.cell?_spot (hcell 0 (by omega))
      subst hspot
      have hbW : b < w.heap.size := hlt (.cell b off) (List.mem_append_left _ (MemPlace.mem_row.2 ⟨0, by rw [k1]; omega, by simp⟩))
      refine ⟨.inr ⟨b, off, cap, by simp, hbW, fun j hj => ?_⟩⟩
      have hj' : j < len := by simpa using hj
      have e := hcell j hj'
      rw [add_plain] at e
      simp only [List.getElem_map, List.getElem_range]
      exact e

end

end Go.Proofs.Ytoibiaikbgkbpaa
