/-
  What slices.SortFunc makes of a row of places: the same places, sorted.
-/
import Derived.Test.YtllioidjelgafabIxOrd
import Derived.Test.YtllioidjelgafabIxCmp
import Derived.Test.YtllioidjelgafabPlRw
import Derived.Test.YtllioidjelgafabShelfSort
namespace Go.Proofs.Ytllioidjelgafab
open Go.RowKit Go.Sort Go.Lib

theorem cmpLays_pl [Inhabited Plc] (blk off size : Nat) (w : World) : CmpLays Try.prog 31 #[] plC 12 cPl blk off size w :=
  fun _ _ _ _ x y => cmpPl_any x y _
theorem holds_rw [Inhabited Plc] {W : World} {g : Nat} {L : List Plc} (h : Rw W g L) : HoldsK plC 12 W g 0 L.toArray := by
  intro t ht
  have hs : t < L.length * 12 := by simpa using ht
  have hj : t / 12 < L.length := by omega
  rw [get_flatK plC 12 L.toArray t (by simpa using hs)]
  have e : L.toArray[t / 12]! = L[t / 12] := by simp [hj]
  rw [e]
  have hr : t % 12 < (plC L[t / 12]).length := by rw [plC_length]; omega
  have := h.at_ (t / 12) L[t / 12] (List.getElem?_eq_getElem hj) (t % 12) _ (List.getElem?_eq_getElem hr)
  rw [show t / 12 * 12 + t % 12 = 0 + t from by omega] at this
  refine ⟨?_, by rw [Nat.zero_add]; exact h.free t hs⟩
  rw [this]
  simp [hr]
theorem rw_holds [Inhabited Plc] {W : World} {g : Nat} {L : List Plc} (hg : g < W.heap.size) (h : HoldsK plC 12 W g 0 L.toArray) : Rw W g L := by
  refine ⟨hg, fun j t hj r u hu => ?_, fun i hi => ?_⟩
  · obtain ⟨hjl, rfl⟩ := List.getElem?_eq_some_iff.1 hj
    have hr : r < 12 := by have := (List.getElem?_eq_some_iff.1 hu).1; rwa [plC_length] at this
    have := (HoldsK.cell h (i := j) (c := r) (by simpa using hjl) hr).1
    rw [Nat.zero_add] at this
    rw [this]
    have e : L.toArray[j]! = L[j] := by simp [hjl]
    rw [e]
    obtain ⟨hr', rfl⟩ := List.getElem?_eq_some_iff.1 hu
    simp [hr']
  · have := (h i (by simpa using hi)).2
    rwa [Nat.zero_add] at this
theorem kept_sort [Inhabited Plc] {W : World} {g n : Nat} {L : List Plc} {os : Array Obj} : Kept (fun b => b ≠ g) W (sortWorldK plC 12 W g 0 n L.toArray os) := by
  unfold sortWorldK putRowK putRow mapBlock grow Sort.ahead
  refine ⟨rfl, rfl, rfl, by simp, fun k hk hp => ?_⟩
  have hk2 : k < W.heap.size := hk
  show (W.heap.modify g _ ++ os)[k]? = _
  rw [Array.getElem?_append_left (by simpa using hk2), Array.getElem?_modify, if_neg (fun e => hp e.symm)]

theorem sort_any (g cap : Nat) (L : List Plc) (w : World) (h : Rw w g L) (hl : L.length ≤ 1000) :
    Calls Try.prog 30 #[.slice (some ⟨g, 0, none⟩) L.length cap, .func (.func 31) #[] #[]] w fun e w' => e = .returned (.tuple #[]) ∧ Rw w' g (srt L) ∧ Kept (fun b => b ≠ g) w w' := by
  haveI : Inhabited Plc := ⟨pl0⟩
  have eg : ∀ args w, (callFunc 31 args).run Try.prog w = .ok (.enter 31 args) w := enters_of Try.func31 (by kernel_rfl) rfl
  have hcon := AnyQ.slices_SortFunc_total Try.sortPl 12 Try.isAgg29 Try.sizeOf29 plC plC_length plC_one cPl swo_pl 31 #[] g 0 cap L.toArray w eg (cmpLays_pl g 0 L.toArray.size w) (holds_rw h) h.lt (by simp; omega) tot_pl
  rw [List.size_toArray] at hcon
  change Calls Try.prog 30 _ _ _ at hcon
  refine hcon.mono fun e w' ⟨he, n, os, hw⟩ => ⟨he, ?_, ?_⟩
  · have hh := holdsK_sortWorldK_c (enc := plC) (k := 12) (w := w) (blk := g) (off := 0) L.toArray (srt L).toArray n os (holds_rw h) h.lt (by simp [srt_length])
    have hs : g < w'.heap.size := Nat.lt_of_lt_of_le h.lt (by rw [hw]; exact (kept_sort (L := srt L)).size)
    rw [hw]
    rw [hw] at hs
    exact rw_holds hs hh
  · rw [hw]
    exact kept_sort (L := srt L)

theorem sort_none (p : Option Addr) (cap : Nat) (fv : Value) (w : World) :
    Calls Try.prog 30 #[.slice p 0 cap, fv] w fun e w' => e = .returned (.tuple #[]) ∧ w' = w :=
  AnyF.slices_SortFunc_none Try.sortPl p cap fv w

set_option maxHeartbeats 1000000 in
theorem same_any (s t : Plc) (w : World) : Calls Try.prog 33 #[plV s, plV t] w fun e w' => e = .returned (.bool (s.id == t.id)) ∧ Below w.heap.size w w' := by
  obtain ⟨b0, b1, b2, b3, b4, b5, b6, b7, k, p, a, l, rfl⟩ := s.as12
  obtain ⟨d0, d1, d2, d3, d4, d5, d6, d7, k', p', a', l', rfl⟩ := t.as12
  have heq := fun W => id_eq_at W 9998 [b0, b1, b2, b3, b4, b5, b6, b7] [d0, d1, d2, d3, d4, d5, d6, d7] rfl rfl
  have heq' : ∀ W, (Op.equalIn 10000 27 (.agg #[.int .u8 (b0.toNat : Int), .int .u8 (b1.toNat : Int), .int .u8 (b2.toNat : Int), .int .u8 (b3.toNat : Int), .int .u8 (b4.toNat : Int), .int .u8 (b5.toNat : Int), .int .u8 (b6.toNat : Int), .int .u8 (b7.toNat : Int)]) (.agg #[.int .u8 (d0.toNat : Int), .int .u8 (d1.toNat : Int), .int .u8 (d2.toNat : Int), .int .u8 (d3.toNat : Int), .int .u8 (d4.toNat : Int), .int .u8 (d5.toNat : Int), .int .u8 (d6.toNat : Int), .int .u8 (d7.toNat : Int)])).run Try.prog W = .ok ([b0, b1, b2, b3, b4, b5, b6, b7] == [d0, d1, d2, d3, d4, d5, d6, d7]) W := heq
  clear heq
  have HB : Hid (∀ o1 o2, Below w.heap.size w ((w.alloc o1).alloc o2)) := fun o1 o2 => ((Below.refl _ w).alloc (Nat.le_refl _) o1).alloc (by show w.heap.size ≤ (w.heap.push _).size; simp) o2
  show Calls Try.prog 33 #[.agg (pl12 b0 b1 b2 b3 b4 b5 b6 b7 k p a l), .agg (pl12 d0 d1 d2 d3 d4 d5 d6 d7 k' p' a' l')] w fun e w' => e = .returned (.bool ([b0, b1, b2, b3, b4, b5, b6, b7] == [d0, d1, d2, d3, d4, d5, d6, d7])) ∧ Below w.heap.size w w'
  generalize ([b0, b1, b2, b3, b4, b5, b6, b7] == [d0, d1, d2, d3, d4, d5, d6, d7]) = r at heq' ⊢
  go_enter Try.func33, Try.ntmps33
  go_wp2_with fail
  go_ret
  exact ⟨rfl, HB.out _ _⟩
end Go.Proofs.Ytllioidjelgafab
