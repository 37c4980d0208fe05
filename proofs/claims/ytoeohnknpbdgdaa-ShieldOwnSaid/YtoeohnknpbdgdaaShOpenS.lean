/-
  Shards handed in, read as data: opened.
-/
import Derived.Test.YtoeohnknpbdgdaaShSx
import Derived.Test.YtoeohnknpbdgdaaShOpen
namespace Go.Proofs.Ytoeohnknpbdgdaa
open Go.RowKit Go.ChangeShapes Go.WideShapes Go.Deep Go.Joins

section
variable {H : Type} {enc : TypeId × Value → H} {w : World} {base : Nat} {spare : Nat → Bool} {held : Bool}
theorem shd_fields : ∃ f0 f1, Try.prog.underlying 33 = some (.struct #[f0, f1]) ∧ f0.type = 4 ∧ f0.offset = 0 ∧ f1.type = 9 ∧ f1.offset = 1 :=
  ⟨_, _, Try.underlying33, rfl, rfl, rfl, rfl⟩
theorem open_shd {n : Nat} {cs : List Value} {x : DataW H × List MemPlace} (hc : cs.length = 2) (h : DataW.trod enc Try.prog w base spare held n 33 cs = some x) : ∃ t : Shd, cs = shdC t := by
  obtain ⟨f0, f1, hu, t0, o0, t1, o1⟩ := shd_fields
  have k0 : Try.prog.cellsOf 4 = 1 := by kernel_rfl
  have k1 : Try.prog.cellsOf 9 = 1 := by kernel_rfl
  obtain ⟨y0, y1, m, _, _, g0, g1⟩ := trod_struct2 hu h
  match cs, hc with
  | [v0, v1], _ =>
    simp only [t0, o0, k0, t1, o1, k1] at g0 g1
    obtain ⟨a, ha, _⟩ := DataW.trod_bool Try.underlying4 g0
    obtain ⟨b, hb, _⟩ := DataW.trod_string Try.underlying9 g1
    obtain rfl : v0 = .bool a := by simpa using ha
    obtain rfl : v1 = .string b := by simpa using hb
    exact ⟨⟨a, b⟩, rfl⟩
theorem open_shds {fuel : Nat} {sa : Option Addr} {len cap : Nat} {x : DataW H × List MemPlace} (h : DataW.trod enc Try.prog w base spare held fuel 29 [.slice sa len cap] = some x) (hlt : ∀ y ∈ x.2, y.block < w.heap.size) :
    ∃ l : List Shd, Sx w (.slice sa len cap) l ∧ (l.length = 0 ∨ ∃ elems sp, x.1 = .slice elems sp ∧ l.length = elems.length) := by
  rcases open_slice Try.underlying29 h with ⟨hcs, hx⟩ | ⟨a, len', cap', m, n, D, Pl, hcs, _, hl, hm, hmm, hx, hall⟩
  · simp at hcs
    obtain ⟨rfl, rfl, rfl⟩ := hcs
    exact ⟨[], ⟨.inl ⟨⟨_, _, rfl⟩, rfl⟩, _, _, _, rfl, Nat.le_refl _, by omega⟩, .inl rfl⟩
  · simp at hcs
    obtain ⟨rfl, rfl, rfl⟩ := hcs
    have hlm : len ≤ m := by rw [hmm]; split <;> omega
    have k3 : Try.prog.cellsOf 33 = 2 := by kernel_rfl
    rw [k3] at hall
    have some_tok : Inhabited Shd := ⟨Shd.none⟩
    obtain ⟨T, hT⟩ := choose_lt (α := Shd) (n := len) (p := fun i t => w.cells? base (a.add (i * 2)) 2 = some (shdC t)) (fun i hi => by
      obtain ⟨cs', h1, h2⟩ := hall i (by omega)
      obtain ⟨_, hlen, _⟩ := World.cells?_some h1
      obtain ⟨t, rfl⟩ := open_shd hlen h2
      exact ⟨t, h1⟩)
    subst hx
    have hm' : cap ≤ 9223372036854775807 := by unfold maxLen at hm; omega
    refine ⟨(List.range len).map T, ?_, .inr ⟨_, _, rfl, by simp⟩⟩
    by_cases hc0 : len = 0
    · subst hc0
      exact ⟨.inl ⟨⟨_, _, rfl⟩, by simp⟩, _, _, _, rfl, hl, hm'⟩
    · have hcell : ∀ j, j < len → ∀ r v, (shdC (T j))[r]? = some v → w.cell? (a.add (j * 2 + r)) = some v := fun j hj r v hv => by
        obtain ⟨_, hlen, hc⟩ := World.cells?_some (hT j hj)
        have hr : r < 2 := by
          have := (List.getElem?_eq_some_iff.1 hv).1
          simpa [shdC] using this
        have := hc r hr
        rw [add_add, hv] at this
        exact this
      obtain ⟨b, off, spot⟩ := a
      have hspot : spot = none := by simpa [Addr.add] using World.cell?_spot (hcell 0 (by omega) 0 _ rfl)
      subst hspot
      have hbW : b < w.heap.size := hlt (.cell b off) (List.mem_append_left _ (MemPlace.mem_row.2 ⟨0, by rw [k3]; omega, by simp⟩))
      refine ⟨.inr ⟨b, off, cap, by simp, hbW, fun j hj => ?_⟩, _, _, _, rfl, hl, hm'⟩
      have hj' : j < len := by simpa using hj
      have e := hcell j hj'
      have e0 := e 0 _ rfl
      have e1 := e 1 _ rfl
      rw [add_plain] at e0 e1
      rw [show ((List.range len).map T).getD j Shd.none = T j from by rw [List.getD_eq_getElem?_getD, List.getElem?_eq_getElem (by simpa using hj')]; simp]
      exact ⟨e0, e1⟩
end
end Go.Proofs.Ytoeohnknpbdgdaa
