/-
  A Roll handed in by value, read as data: opened, and shut.
-/
import Derived.Test.YtipoponlfedplaaRollCells
import Derived.Test.YtipoponlfedplaaWf32
import Derived.OpenShut
import Derived.DataShut
import Derived.WideShapes
import Derived.Deep.Strs
namespace Go.Proofs.Ytipoponlfedplaa
open Go.RowKit Go.ChangeShapes Go.WideShapes Go.Deep

section
variable {H : Type} {enc : TypeId × Value → H} {w : World} {base : Nat} {spare : Nat → Bool} {held : Bool}

theorem trod_array_mk {P : Program} {t e : TypeId} {n m : Nat} {cs : List Value} {xs : List (DataW H × List MemPlace)} (ht : P.underlying t = some (.array n e)) (hl : cs.length = P.cellsOf t) (hx : xs.length = n)
    (h : ∀ i, i < n → DataW.trod enc P w base spare held m e ((cs.drop (i * P.cellsOf e)).take (P.cellsOf e)) = xs[i]?) : DataW.trod enc P w base spare held (m + 1) t cs = some (.agg (xs.map (·.1)), xs.flatMap (·.2)) := by
  unfold DataW.trod
  rw [ht]
  simp only [hl, if_true]
  rw [mapM_some_of_get (List.range n) xs (by rw [List.length_range, hx]) (fun i x hix => by
    obtain ⟨hi, rfl⟩ := List.getElem?_eq_some_iff.1 hix
    rw [List.getElem_range]
    exact h i (by simpa using hi))]
  rfl
def byteD (H : Type) (b : UInt8) : DataW H := .lit (.int .u8 (b.toNat : Int))
def rollD (H : Type) (l : List UInt8) (i : Int) (o : Nat) : DataW H := .agg [.agg (l.map (byteD H)), .lit (.int .i64 i), .lit (.int .u32 (o : Int))]
theorem cells_roll : Try.prog.cellsOf 25 = 18 := by kernel_rfl
theorem cells_arr : Try.prog.cellsOf 23 = 16 := by kernel_rfl
theorem cells_u8 : Try.prog.cellsOf 5 = 1 := by kernel_rfl
theorem cells_int : Try.prog.cellsOf 3 = 1 := by kernel_rfl
theorem cells_u32 : Try.prog.cellsOf 22 = 1 := by kernel_rfl

theorem bytes_opened : ∀ (cs : List Value) (xs : List (DataW H × List MemPlace)), xs.length = cs.length →
    (∀ j, j < cs.length → ∃ m, DataW.trod enc Try.prog w base spare held m 5 ((cs.drop j).take 1) = xs[j]?) → ∃ l : List UInt8, cs = l.map B ∧ xs = l.map (fun b => (byteD H b, []))
  | [], [], _, _ => ⟨[], rfl, rfl⟩
  | c :: cs, x :: xs, hl, h => by
    obtain ⟨m, h0⟩ := h 0 (by simp)
    obtain ⟨n, hc, hx, hw⟩ := DataW.trod_int Try.underlying5 (show DataW.trod enc Try.prog w base spare held m 5 [c] = some x from by simpa using h0)
    obtain ⟨b, rfl⟩ := wf_u8 hw
    obtain ⟨l, hcs, hxs⟩ := bytes_opened cs xs (by simpa using hl) (fun j hj => by
      obtain ⟨m, hm⟩ := h (j + 1) (by simpa using hj)
      exact ⟨m, by simpa using hm⟩)
    refine ⟨b :: l, ?_, ?_⟩
    · rw [List.map_cons, ← hcs]
      have : c = .int .u8 (b.toNat : Int) := by simpa using hc
      rw [this]; rfl
    · rw [List.map_cons, ← hxs, hx]; rfl

theorem open_roll {r : Reach} {b0 : Nat} {v : Value} {d : DataW H} {p : List MemPlace} (hv : Value.okWide Try.prog w r b0 25 v) (h : DataW.Trod enc Try.prog w base spare held 25 v d p) :
    ∃ (l : List UInt8) (i : Int) (o : Nat), l.length = 16 ∧ v = .agg (rollCells l i o).toArray ∧ d = rollD H l i o ∧ p = [] ∧ (Lit.int .i64 i).wf = true ∧ (Lit.int .u32 (o : Int)).wf = true := by
  obtain ⟨cs, rfl, hsz⟩ := okWide_struct Try.underlying25 hv
  rw [cells_roll] at hsz
  obtain ⟨fuel, hf⟩ := h
  obtain ⟨y0, y1, y2, n, hx, hlen, h0, h1, h2⟩ := trod_struct3 Try.underlying25 hf
  simp only [Value.cells, cells_arr, cells_int, cells_u32, List.drop_zero] at h0 h1 h2
  obtain ⟨xs, m, rfl, hy0, _, hxl, hxs⟩ := DataW.trod_array (show Try.prog.underlying 23 = some (.array 16 5) from by kernel_rfl) h0
  simp only [cells_u8, Nat.mul_one] at hxs
  obtain ⟨l, hl, hxl2⟩ := bytes_opened (enc := enc) (w := w) (base := base) (spare := spare) (held := held) (cs.toList.take 16) xs (by rw [hxl, List.length_take, Array.length_toList, hsz]; rfl) (fun j hj => ⟨m, hxs j (by rw [List.length_take] at hj; omega)⟩)
  obtain ⟨i, hc1, hy1, hw1⟩ := DataW.trod_int Try.underlying3 h1
  obtain ⟨u, hc2, hy2, hw2⟩ := DataW.trod_int Try.underlying22 h2
  obtain ⟨o, rfl, _⟩ := wf_u32 hw2
  have hll : l.length = 16 := by
    have : (l.map B).length = 16 := by rw [← hl, List.length_take, Array.length_toList, hsz]; rfl
    simpa using this
  refine ⟨l, i, o, hll, ?_, ?_, ?_, hw1, hw2⟩
  · have hcs : cs.toList = rollCells l i o := by
      have e1 : cs.toList = cs.toList.take 16 ++ ((cs.toList.drop 16).take 1 ++ (cs.toList.drop 17).take 1) := by
        conv => lhs; rw [← List.take_append_drop 16 cs.toList]
        congr 1
        have : (cs.toList.drop 16).length = 2 := by rw [List.length_drop, Array.length_toList, hsz]
        rw [show cs.toList.drop 17 = (cs.toList.drop 16).drop 1 from by rw [List.drop_drop]]
        generalize cs.toList.drop 16 = q at this
        match q, this with
        | [a, b], _ => rfl
      rw [e1, hl, hc1, hc2]
      rfl
    rw [← hcs]
  · have := congrArg Prod.fst hx
    rw [show d = _ from this, hy0, hy1, hy2, hxl2]
    simp [rollD, List.map_map, Function.comp_def]
  · have := congrArg Prod.snd hx
    rw [show p = _ from this, hy0, hy1, hy2, hxl2]
    simp

theorem shut_roll {l : List UInt8} {i : Int} {o : Nat} (hl : l.length = 16) (hi : (Lit.int .i64 i).wf = true) (ho : (Lit.int .u32 (o : Int)).wf = true) :
    DataW.Trod enc Try.prog w base spare held 25 (.agg (rollCells l i o).toArray) (rollD H l i o) [] := by
  have hb : ∀ b : UInt8, (Lit.int .u8 (b.toNat : Int)).wf = true := fun b => by
    have := b.toNat_lt
    simp [Lit.wf, IntKind.min, IntKind.max, IntKind.signed, IntKind.bits]; omega
  have hlm : (l.map B).length = 16 := by rw [List.length_map, hl]
  have t0 : DataW.trod enc Try.prog w base spare held 2 23 (l.map B) = some (.agg (l.map (byteD H)), []) := by
    have := trod_array_mk (enc := enc) (w := w) (base := base) (spare := spare) (held := held) (m := 1) (xs := l.map (fun b => (byteD H b, ([] : List MemPlace)))) (show Try.prog.underlying 23 = some (.array 16 5) from by kernel_rfl) (by rw [cells_arr, hlm]) (by rw [List.length_map, hl]) (fun j hj => by
      rw [cells_u8, Nat.mul_one]
      have hjl : j < l.length := by omega
      rw [List.getElem?_map, List.getElem?_eq_getElem hjl]
      have hd : ((l.map B).drop j).take 1 = [B l[j]] := by
        rw [List.drop_eq_getElem_cons (by rw [List.length_map]; exact hjl), List.getElem_map]; rfl
      rw [hd]
      exact trod_int_mk 0 Try.underlying5 (hb l[j]))
    rw [this, List.map_map]
    simp [Function.comp_def]
  have d0 : ((rollCells l i o).drop 0).take 16 = l.map B := by
    rw [List.drop_zero, rollCells, List.take_append_of_le_length (by omega), List.take_of_length_le (by omega)]
  have d1 : ((rollCells l i o).drop 16).take 1 = [.int .i64 i] := by
    rw [rollCells, List.drop_append, hlm, List.drop_of_length_le (by omega)]; rfl
  have d2 : ((rollCells l i o).drop 17).take 1 = [.int .u32 (o : Int)] := by
    rw [rollCells, List.drop_append, hlm, List.drop_of_length_le (by omega)]; rfl
  refine ⟨3, ?_⟩
  have := trod_struct3_mk (enc := enc) (w := w) (base := base) (spare := spare) (held := held) (n := 2) (cs := rollCells l i o) (y0 := (.agg (l.map (byteD H)), [])) (y1 := (.lit (.int .i64 i), [])) (y2 := (.lit (.int .u32 (o : Int)), [])) Try.underlying25 (by rw [cells_roll, rollCells_length hl])
    (by rw [cells_arr]; show DataW.trod enc Try.prog w base spare held 2 23 (((rollCells l i o).drop 0).take 16) = _; rw [d0]; exact t0)
    (by rw [cells_int]; show DataW.trod enc Try.prog w base spare held 2 3 (((rollCells l i o).drop 16).take 1) = _; rw [d1]; exact trod_int_mk 1 Try.underlying3 hi)
    (by rw [cells_u32]; show DataW.trod enc Try.prog w base spare held 2 22 (((rollCells l i o).drop 17).take 1) = _; rw [d2]; exact trod_int_mk 1 Try.underlying22 ho)
  exact this
end
end Go.Proofs.Ytipoponlfedplaa
