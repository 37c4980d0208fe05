/-
  Blobs, and a row of a pack's list, handed in and read as data: opened, and shut.
-/
import Derived.Test.YtllioidjelgafabPkMem
import Derived.OpenShut
import Derived.DataShut
import Derived.WideShapes
import Derived.Deep.Strs
import Derived.Lib.SmallJoins
import Derived.Deep.Slices
import Derived.SizedLaws
namespace Go.Proofs.Ytllioidjelgafab
open Go.RowKit Go.ChangeShapes Go.WideShapes Go.Deep Go.Joins
set_option maxRecDepth 20000

/-- what is sure of blobs that come in -/
def BOk (l : List Blb) : Prop := ∀ b ∈ l, (Lit.int .i64 b.kind).wf = true ∧ b.bytes.size ≤ 9223372036854775807

def EOk (e : Ent) : Prop := (Lit.int .i64 e.kind).wf = true ∧ (Lit.int .i64 e.at_).wf = true ∧ (Lit.int .i64 e.len).wf = true

section
variable {H : Type} {enc : TypeId × Value → H} {w : World} {base : Nat} {spare : Nat → Bool} {held : Bool}

theorem choose_row {α : Type} {q : Nat → α → Prop} : ∀ (n : Nat), (∀ i, i < n → ∃ t, q i t) → ∃ l : List α, l.length = n ∧ ∀ i t, l[i]? = some t → q i t
  | 0, _ => ⟨[], rfl, fun i t h => by simp at h⟩
  | n + 1, h => by
    obtain ⟨l, hl, hq⟩ := choose_row n fun i hi => h i (by omega)
    obtain ⟨t, ht⟩ := h n (by omega)
    refine ⟨l ++ [t], by simp [hl], fun i u hu => ?_⟩
    by_cases hi : i < n
    · rw [List.getElem?_append_left (by omega)] at hu
      exact hq i u hu
    · have : i = n := by
        have := (List.getElem?_eq_some_iff.1 hu).1
        simp at this
        omega
      subst this
      rw [List.getElem?_append_right (by omega), hl] at hu
      obtain rfl : t = u := by simpa using hu
      exact ht

theorem trod_arr_mk {P : Program} {t e : TypeId} {n m : Nat} {cs : List Value} {xs : List (DataW H × List MemPlace)} (ht : P.underlying t = some (.array n e)) (hl : cs.length = P.cellsOf t) (hx : xs.length = n)
    (h : ∀ i, i < n → DataW.trod enc P w base spare held m e ((cs.drop (i * P.cellsOf e)).take (P.cellsOf e)) = xs[i]?) : DataW.trod enc P w base spare held (m + 1) t cs = some (.agg (xs.map (·.1)), xs.flatMap (·.2)) := by
  unfold DataW.trod
  rw [ht]
  simp only [hl, if_true]
  rw [mapM_some_of_get (List.range n) xs (by rw [List.length_range, hx]) (fun i x hix => by
    obtain ⟨hi, rfl⟩ := List.getElem?_eq_some_iff.1 hix
    rw [List.getElem_range]
    exact h i (by simpa using hi))]
  rfl

def byD (H : Type) (b : UInt8) : DataW H := .lit (.int .u8 (b.toNat : Int))

def entD (H : Type) (e : Ent) : DataW H := .agg [.agg (e.id.map (byD H)), .lit (.int .i64 e.kind), .lit (.int .i64 e.at_), .lit (.int .i64 e.len)]

theorem ce_ent : Try.prog.cellsOf 40 = 11 := by kernel_rfl

theorem ce_id : Try.prog.cellsOf 27 = 8 := by kernel_rfl

theorem ce_u8 : Try.prog.cellsOf 5 = 1 := by kernel_rfl

theorem ce_int : Try.prog.cellsOf 3 = 1 := by kernel_rfl

theorem wf_by {n : Int} (h : (Lit.int .u8 n).wf = true) : ∃ b : UInt8, n = (b.toNat : Int) := by
  simp [Lit.wf, IntKind.min, IntKind.max, IntKind.signed, IntKind.bits] at h
  refine ⟨UInt8.ofNat n.toNat, ?_⟩
  rw [UInt8.toNat_ofNat']
  omega

theorem by_opened : ∀ (cs : List Value) (xs : List (DataW H × List MemPlace)), xs.length = cs.length →
    (∀ j, j < cs.length → ∃ m, DataW.trod enc Try.prog w base spare held m 5 ((cs.drop j).take 1) = xs[j]?) → ∃ l : List UInt8, cs = l.map B ∧ xs = l.map (fun b => (byD H b, []))
  | [], [], _, _ => ⟨[], rfl, rfl⟩
  | c :: cs, x :: xs, hl, h => by
    obtain ⟨m, h0⟩ := h 0 (by simp)
    obtain ⟨n, hc, hx, hw⟩ := DataW.trod_int Try.underlying5 (show DataW.trod enc Try.prog w base spare held m 5 [c] = some x from by simpa using h0)
    obtain ⟨b, rfl⟩ := wf_by hw
    obtain ⟨l, hcs, hxs⟩ := by_opened cs xs (by simpa using hl) (fun j hj => by
      obtain ⟨m, hm⟩ := h (j + 1) (by simpa using hj)
      exact ⟨m, by simpa using hm⟩)
    refine ⟨b :: l, ?_, ?_⟩
    · rw [List.map_cons, ← hcs]
      have : c = .int .u8 (b.toNat : Int) := by simpa using hc
      rw [this]; rfl
    · rw [List.map_cons, ← hxs, hx]; rfl

theorem open_ent {r : Reach} {b0 : Nat} {v : Value} {d : DataW H} {p : List MemPlace} (hv : Value.okWide Try.prog w r b0 40 v) (h : DataW.Trod enc Try.prog w base spare held 40 v d p) :
    ∃ e : Ent, v = enV e ∧ d = entD H e ∧ p = [] ∧ EOk e := by
  obtain ⟨cs, rfl, hsz⟩ := okWide_struct Try.underlying40 hv
  rw [ce_ent] at hsz
  obtain ⟨fuel, hf⟩ := h
  obtain ⟨y0, y1, y2, y3, n, hx, hlen, h0, h1, h2, h3⟩ := trod_struct4 Try.underlying40 hf
  simp only [Value.cells, ce_id, ce_int, List.drop_zero] at h0 h1 h2 h3
  obtain ⟨xs, m, rfl, hy0, _, hxl, hxs⟩ := DataW.trod_array (show Try.prog.underlying 27 = some (.array 8 5) from by kernel_rfl) h0
  simp only [ce_u8, Nat.mul_one] at hxs
  obtain ⟨l, hl, hxl2⟩ := by_opened (enc := enc) (w := w) (base := base) (spare := spare) (held := held) (cs.toList.take 8) xs (by rw [hxl, List.length_take, Array.length_toList, hsz]; rfl) (fun j hj => ⟨m, hxs j (by rw [List.length_take] at hj; omega)⟩)
  obtain ⟨i, hc1, hy1, hw1⟩ := DataW.trod_int Try.underlying3 h1
  obtain ⟨u, hc2, hy2, hw2⟩ := DataW.trod_int Try.underlying3 h2
  obtain ⟨z, hc3, hy3, hw3⟩ := DataW.trod_int Try.underlying3 h3
  have hll : l.length = 8 := by
    have : (l.map B).length = 8 := by rw [← hl, List.length_take, Array.length_toList, hsz]; rfl
    simpa using this
  refine ⟨⟨l, hll, i, u, z⟩, ?_, ?_, ?_, hw1, hw2, hw3⟩
  · have hcs : cs.toList = l.map B ++ [.int .i64 i, .int .i64 u, .int .i64 z] := by
      have e1 : cs.toList = cs.toList.take 8 ++ ((cs.toList.drop 8).take 1 ++ ((cs.toList.drop 9).take 1 ++ (cs.toList.drop 10).take 1)) := by
        conv => lhs; rw [← List.take_append_drop 8 cs.toList]
        congr 1
        have : (cs.toList.drop 8).length = 3 := by rw [List.length_drop, Array.length_toList, hsz]
        rw [show cs.toList.drop 9 = (cs.toList.drop 8).drop 1 from by rw [List.drop_drop], show cs.toList.drop 10 = (cs.toList.drop 8).drop 2 from by rw [List.drop_drop]]
        generalize cs.toList.drop 8 = q at this
        match q, this with
        | [a, b, c], _ => rfl
      rw [e1, hl, hc1, hc2, hc3]
      rfl
    show Value.agg cs = .agg (l.map B ++ [Value.int .i64 i, Value.int .i64 u, Value.int .i64 z]).toArray
    rw [← hcs]
  · have := congrArg Prod.fst hx
    rw [show d = _ from this, hy0, hy1, hy2, hy3, hxl2]
    simp [entD, List.map_map, Function.comp_def]
  · have := congrArg Prod.snd hx
    rw [show p = _ from this, hy0, hy1, hy2, hy3, hxl2]
    simp

theorem trod_id {l : List UInt8} (hl : l.length = 8) : DataW.trod enc Try.prog w base spare held 2 27 (l.map B) = some (.agg (l.map (byD H)), []) := by
  have hb : ∀ b : UInt8, (Lit.int .u8 (b.toNat : Int)).wf = true := fun b => by
    have := b.toNat_lt
    simp [Lit.wf, IntKind.min, IntKind.max, IntKind.signed, IntKind.bits]; omega
  have hlm : (l.map B).length = 8 := by rw [List.length_map, hl]
  have := trod_arr_mk (enc := enc) (w := w) (base := base) (spare := spare) (held := held) (m := 1) (xs := l.map (fun b => (byD H b, ([] : List MemPlace)))) (show Try.prog.underlying 27 = some (.array 8 5) from by kernel_rfl) (by rw [ce_id, hlm]) (by rw [List.length_map, hl]) (fun j hj => by
    rw [ce_u8, Nat.mul_one]
    have hjl : j < l.length := by omega
    rw [List.getElem?_map, List.getElem?_eq_getElem hjl]
    have hd : ((l.map B).drop j).take 1 = [B l[j]] := by
      rw [List.drop_eq_getElem_cons (by rw [List.length_map]; exact hjl), List.getElem_map]; rfl
    rw [hd]
    exact trod_int_mk 0 Try.underlying5 (hb l[j]))
  rw [this, List.map_map]
  simp [Function.comp_def]

theorem shut_ent {e : Ent} (he : EOk e) : DataW.Trod enc Try.prog w base spare held 40 (enV e) (entD H e) [] := by
  obtain ⟨l, hl, i, u, z⟩ := e
  obtain ⟨hi, hu, hz⟩ := he
  have hlm : (l.map B).length = 8 := by rw [List.length_map, hl]
  have t0 := trod_id (enc := enc) (w := w) (base := base) (spare := spare) (held := held) hl
  have cs0 : enC ⟨l, hl, i, u, z⟩ = l.map B ++ [.int .i64 i, .int .i64 u, .int .i64 z] := rfl
  have d0 : ((enC ⟨l, hl, i, u, z⟩).drop 0).take 8 = l.map B := by
    rw [List.drop_zero, cs0, List.take_append_of_le_length (by omega), List.take_of_length_le (by omega)]
  have d1 : ((enC ⟨l, hl, i, u, z⟩).drop 8).take 1 = [.int .i64 i] := by
    rw [cs0, List.drop_append, hlm, List.drop_of_length_le (by omega)]; rfl
  have d2 : ((enC ⟨l, hl, i, u, z⟩).drop 9).take 1 = [.int .i64 u] := by
    rw [cs0, List.drop_append, hlm, List.drop_of_length_le (by omega)]; rfl
  have d3 : ((enC ⟨l, hl, i, u, z⟩).drop 10).take 1 = [.int .i64 z] := by
    rw [cs0, List.drop_append, hlm, List.drop_of_length_le (by omega)]; rfl
  refine ⟨3, ?_⟩
  have := trod_struct4_mk (enc := enc) (w := w) (base := base) (spare := spare) (held := held) (n := 2) (cs := enC ⟨l, hl, i, u, z⟩) (y0 := (.agg (l.map (byD H)), [])) (y1 := (.lit (.int .i64 i), [])) (y2 := (.lit (.int .i64 u), [])) (y3 := (.lit (.int .i64 z), [])) Try.underlying40 (by rw [ce_ent, enC_length])
    (by rw [ce_id]; show DataW.trod enc Try.prog w base spare held 2 27 (((enC ⟨l, hl, i, u, z⟩).drop 0).take 8) = _; rw [d0]; exact t0)
    (by rw [ce_int]; show DataW.trod enc Try.prog w base spare held 2 3 (((enC ⟨l, hl, i, u, z⟩).drop 8).take 1) = _; rw [d1]; exact trod_int_mk 1 Try.underlying3 hi)
    (by rw [ce_int]; show DataW.trod enc Try.prog w base spare held 2 3 (((enC ⟨l, hl, i, u, z⟩).drop 9).take 1) = _; rw [d2]; exact trod_int_mk 1 Try.underlying3 hu)
    (by rw [ce_int]; show DataW.trod enc Try.prog w base spare held 2 3 (((enC ⟨l, hl, i, u, z⟩).drop 10).take 1) = _; rw [d3]; exact trod_int_mk 1 Try.underlying3 hz)
  exact this

end

end Go.Proofs.Ytllioidjelgafab
