/-
  Tokens handed in, read as data: opened.
-/
import Derived.Test.YtoohekdaihhflaaLzRow
import Derived.OpenShut
import Derived.Lib.SmallJoins
import Derived.DataShut
import Derived.WideShapes
import Derived.Deep.Strs
import Derived.Deep.Slices
import Derived.SizedLaws
namespace Go.Proofs.Ytoohekdaihhflaa
open Go.RowKit Go.ChangeShapes Go.WideShapes Go.Deep Go.Joins

section
variable {H : Type} {enc : TypeId × Value → H} {w : World} {base : Nat} {spare : Nat → Bool} {held : Bool}
theorem tok_fields : ∃ f0 f1 f2, Try.prog.underlying 36 = some (.struct #[f0, f1, f2]) ∧ f0.type = 5 ∧ f0.offset = 0 ∧ f1.type = 3 ∧ f1.offset = 1 ∧ f2.type = 3 ∧ f2.offset = 2 :=
  ⟨_, _, _, Try.underlying36, rfl, rfl, rfl, rfl, rfl, rfl⟩
/-- the cells of one token -/
theorem open_tok {n : Nat} {cs : List Value} {x : DataW H × List MemPlace} (hc : cs.length = 3) (h : DataW.trod enc Try.prog w base spare held n 36 cs = some x) : ∃ t : Lz.Tr, cs = tokC t := by
  obtain ⟨f0, f1, f2, hu, t0, o0, t1, o1, t2, o2⟩ := tok_fields
  have k0 : Try.prog.cellsOf 5 = 1 := by kernel_rfl
  have k1 : Try.prog.cellsOf 3 = 1 := by kernel_rfl
  obtain ⟨y0, y1, y2, m, _, _, g0, g1, g2⟩ := trod_struct3 hu h
  match cs, hc with
  | [v0, v1, v2], _ =>
    simp only [t0, o0, k0, t1, o1, k1, t2, o2] at g0 g1 g2
    obtain ⟨a, ha, _, w0⟩ := DataW.trod_int Try.underlying5 g0
    obtain ⟨b, hb, _, _⟩ := DataW.trod_int Try.underlying3 g1
    obtain ⟨c, hc, _, _⟩ := DataW.trod_int Try.underlying3 g2
    have w0' : 0 ≤ a ∧ a ≤ 255 := by simpa [Lit.wf, IntKind.min, IntKind.max, IntKind.signed, IntKind.bits] using w0
    obtain rfl : v0 = .int .u8 a := by simpa using ha
    obtain rfl : v1 = .int .i64 b := by simpa using hb
    obtain rfl : v2 = .int .i64 c := by simpa using hc
    refine ⟨⟨UInt8.ofNat a.toNat, b, c⟩, ?_⟩
    unfold tokC
    have : ((UInt8.ofNat a.toNat).toNat : Int) = a := by simp; omega
    rw [this]
theorem open_toks {fuel : Nat} {sa : Option Addr} {len cap : Nat} {x : DataW H × List MemPlace} (h : DataW.trod enc Try.prog w base spare held fuel 31 [.slice sa len cap] = some x) (hlt : ∀ y ∈ x.2, y.block < w.heap.size) :
    ∃ l : List Lz.Tr, Toks w (.slice sa len cap) l ∧ (l.length = 0 ∨ ∃ elems sp, x.1 = .slice elems sp ∧ l.length = elems.length) := by
  rcases open_slice Try.underlying31 h with ⟨hcs, hx⟩ | ⟨a, len', cap', m, n, D, Pl, hcs, _, hl, hm, hmm, hx, hall⟩
  · simp at hcs
    obtain ⟨rfl, rfl, rfl⟩ := hcs
    exact ⟨[], ⟨.inl ⟨⟨_, _, rfl⟩, rfl⟩⟩, .inl rfl⟩
  · simp at hcs
    obtain ⟨rfl, rfl, rfl⟩ := hcs
    have hlm : len ≤ m := by rw [hmm]; split <;> omega
    have k3 : Try.prog.cellsOf 36 = 3 := by kernel_rfl
    rw [k3] at hall
    have some_tok : Inhabited Lz.Tr := ⟨⟨0, 0, 0⟩⟩
    obtain ⟨T, hT⟩ := choose_lt (α := Lz.Tr) (n := len) (p := fun i t => w.cells? base (a.add (i * 3)) 3 = some (tokC t)) (fun i hi => by
      obtain ⟨cs', h1, h2⟩ := hall i (by omega)
      obtain ⟨_, hlen, _⟩ := World.cells?_some h1
      obtain ⟨t, rfl⟩ := open_tok hlen h2
      exact ⟨t, h1⟩)
    subst hx
    refine ⟨(List.range len).map T, ?_, .inr ⟨_, _, rfl, by simp⟩⟩
    by_cases hc0 : len = 0
    · subst hc0
      exact ⟨.inl ⟨⟨_, _, rfl⟩, by simp⟩⟩
    · have hcell : ∀ j, j < len → ∀ r v, (tokC (T j))[r]? = some v → w.cell? (a.add (j * 3 + r)) = some v := fun j hj r v hv => by
        obtain ⟨_, hlen, hc⟩ := World.cells?_some (hT j hj)
        have hr : r < 3 := by
          have := (List.getElem?_eq_some_iff.1 hv).1
          simpa [tokC] using this
        have := hc r hr
        rw [add_add, hv] at this
        exact this
      obtain ⟨b, off, spot⟩ := a
      have hspot : spot = none := by simpa [Addr.add] using World.cell?_spot (hcell 0 (by omega) 0 _ rfl)
      subst hspot
      have hbW : b < w.heap.size := hlt (.cell b off) (List.mem_append_left _ (MemPlace.mem_row.2 ⟨0, by rw [k3]; omega, by simp⟩))
      refine ⟨.inr ⟨b, off, cap, by simp, hbW, fun j hj => ?_⟩⟩
      have hj' : j < len := by simpa using hj
      have e := hcell j hj'
      have e0 := e 0 _ rfl
      have e1 := e 1 _ rfl
      have e2 := e 2 _ rfl
      rw [add_plain] at e0 e1 e2
      simp only [List.getElem_map, List.getElem_range]
      exact ⟨e0, e1, e2⟩
end
end Go.Proofs.Ytoohekdaihhflaa
