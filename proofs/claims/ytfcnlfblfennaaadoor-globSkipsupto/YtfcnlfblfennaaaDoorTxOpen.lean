/-
  Texts handed in, read as data: opened.
-/
import Derived.Test.YtfcnlfblfennaaaDoorTxMem
import Derived.OpenShut
import Derived.Lib.SmallJoins
import Derived.DataShut
import Derived.WideShapes
import Derived.Deep.Strs
import Derived.Deep.Slices
import Derived.SizedLaws
import Derived.SliceStrings
namespace Go.Proofs.YtfcnlfblfennaaaDoor
open Go.RowKit Go.ChangeShapes Go.WideShapes Go.Deep Go.Joins

section
variable {H : Type} {enc : TypeId × Value → H} {w : World} {base : Nat} {spare : Nat → Bool} {held : Bool}
theorem open_txs {fuel : Nat} {sa : Option Addr} {len cap : Nat} {x : DataW H × List MemPlace} (h : DataW.trod enc Tryd.prog w base spare held fuel 30 [.slice sa len cap] = some x) (hlt : ∀ y ∈ x.2, y.block < w.heap.size) :
    ∃ l : List ByteArray, Tx w (.slice sa len cap) l ∧ (l.length = 0 ∨ ∃ elems sp, x.1 = .slice elems sp ∧ l.length = elems.length) := by
  rcases open_strings Tryd.underlying30 Tryd.underlying9 (by kernel_rfl) h with ⟨hcs, hx⟩ | ⟨a, len', cap', ss, hcs, _, hl, hm, hz, hx, hcell, hws⟩
  · simp at hcs
    obtain ⟨rfl, rfl, rfl⟩ := hcs
    exact ⟨[], ⟨.inl ⟨⟨_, _, rfl⟩, rfl⟩⟩, .inl rfl⟩
  · simp at hcs
    obtain ⟨rfl, rfl, rfl⟩ := hcs
    subst hx
    have hlm : len ≤ ss.length := by rw [hz]; split <;> omega
    have htl : (ss.take len).length = len := by rw [List.length_take]; omega
    refine ⟨ss.take len, ?_, .inr ⟨_, _, rfl, by simp [strs]⟩⟩
    by_cases hc0 : len = 0
    · subst hc0
      exact ⟨.inl ⟨⟨_, _, rfl⟩, by simp⟩⟩
    · obtain ⟨b, off, spot⟩ := a
      have hspot : spot = none := by simpa [Addr.add] using World.cell?_spot (hcell 0 (by omega))
      subst hspot
      have hbW : b < w.heap.size := hlt (.cell b off) (MemPlace.mem_row.2 ⟨0, by omega, by simp⟩)
      refine ⟨.inr ⟨b, off, cap, by rw [htl], hbW, fun j hj => ?_⟩⟩
      have hj' : j < ss.length := by omega
      have := hcell j hj'
      rw [add_plain] at this
      rw [this, List.getD_eq_getElem?_getD, List.getD_eq_getElem?_getD, List.getElem?_take, if_pos (by omega)]
theorem open_txs2 {fuel : Nat} {sa : Option Addr} {len cap : Nat} {x : DataW H × List MemPlace} (h : DataW.trod enc Tryd.prog w base spare held fuel 30 [.slice sa len cap] = some x) (hlt : ∀ y ∈ x.2, y.block < w.heap.size) :
    ∃ l : List ByteArray, Tx w (.slice sa len cap) l ∧ (l = [] ∨ ∃ sp, x.1 = .slice (ChangeShapes.strs l) sp) ∧ (∀ s ∈ l, s.size ≤ 9223372036854775807) ∧ len ≤ cap := by
  obtain ⟨l, hl, hs⟩ := open_txs h hlt
  obtain ⟨a0, c0, hv⟩ := hl.slice
  simp at hv
  obtain ⟨rfl, rfl, rfl⟩ := hv
  rcases open_strings Tryd.underlying30 Tryd.underlying9 (by kernel_rfl) h with ⟨hcs, hx⟩ | ⟨a, len', cap', ss, hcs, _, hle, hm, hz, hx, hcell, hws⟩
  · simp at hcs
    obtain ⟨_, rfl, rfl⟩ := hcs
    exact ⟨[], hl, .inl rfl, fun s hm => (List.not_mem_nil hm).elim, Nat.le_refl _⟩
  · simp at hcs
    obtain ⟨rfl, rfl, rfl⟩ := hcs
    have hlm : l.length ≤ ss.length := by rw [hz]; split <;> omega
    have hlt : l = ss.take l.length := List.ext_getElem (by rw [List.length_take]; omega) fun j hj _ => by
      obtain ⟨bk, o, ha, _, hc⟩ := hl.get j hj
      cases ha
      have hjs : j < ss.length := by omega
      have h2 := hcell j hjs
      rw [add_plain, hc] at h2
      simp only [Option.some.injEq, Value.string.injEq] at h2
      rw [List.getD_eq_getElem?_getD, List.getElem?_eq_getElem hj, List.getD_eq_getElem?_getD, List.getElem?_eq_getElem hjs] at h2
      simp only [Option.getD_some] at h2
      rw [h2, List.getElem_take]
    refine ⟨l, hl, .inr ⟨strs (ss.drop l.length), ?_⟩, fun s hm => ?_, hle⟩
    · rw [hx, ← hlt]
    rw [hlt] at hm
    exact hws _ (List.mem_of_mem_take hm)
theorem strs_length (l : List ByteArray) : (ChangeShapes.strs l : List (DataW H)).length = l.length := by simp [ChangeShapes.strs]
end
end Go.Proofs.YtfcnlfblfennaaaDoor
