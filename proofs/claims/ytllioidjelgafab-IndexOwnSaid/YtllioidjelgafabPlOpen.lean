/-
  Places and rows of packs' lists handed in, an ID handed in: opened as data, and shut.
-/
import Derived.Test.YtllioidjelgafabPkOpen
import Derived.Test.YtllioidjelgafabPlMem
namespace Go.Proofs.Ytllioidjelgafab
open Go.RowKit Go.ChangeShapes Go.WideShapes Go.Deep Go.Joins
set_option maxRecDepth 20000

/-- what is sure of places that come in -/
def PlOk (e : Plc) : Prop := (Lit.int .i64 e.kind).wf = true ∧ (Lit.int .i64 e.pack).wf = true ∧ (Lit.int .i64 e.at_).wf = true ∧ (Lit.int .i64 e.len).wf = true
def PsOk (l : List Plc) : Prop := ∀ e ∈ l, PlOk e
def EsOk (l : List Ent) : Prop := ∀ e ∈ l, EOk e
section
variable {H : Type} {enc : TypeId × Value → H} {w : World} {base : Nat} {spare : Nat → Bool} {held : Bool}
theorem trod_struct5 {P : Program} {t : TypeId} {f0 f1 f2 f3 f4 : Field} {fuel : Nat} {cs : List Value} {x : DataW H × List MemPlace} (ht : P.underlying t = some (.struct #[f0, f1, f2, f3, f4])) (h : DataW.trod enc P w base spare held fuel t cs = some x) :
    ∃ y0 y1 y2 y3 y4 n, x = (.agg [y0.1, y1.1, y2.1, y3.1, y4.1], y0.2 ++ (y1.2 ++ (y2.2 ++ (y3.2 ++ y4.2)))) ∧ cs.length = P.cellsOf t ∧ DataW.trod enc P w base spare held n f0.type ((cs.drop f0.offset).take (P.cellsOf f0.type)) = some y0 ∧
      DataW.trod enc P w base spare held n f1.type ((cs.drop f1.offset).take (P.cellsOf f1.type)) = some y1 ∧ DataW.trod enc P w base spare held n f2.type ((cs.drop f2.offset).take (P.cellsOf f2.type)) = some y2 ∧
      DataW.trod enc P w base spare held n f3.type ((cs.drop f3.offset).take (P.cellsOf f3.type)) = some y3 ∧ DataW.trod enc P w base spare held n f4.type ((cs.drop f4.offset).take (P.cellsOf f4.type)) = some y4 := by
  obtain ⟨xs, n, _, rfl, hl, hlen, hf⟩ := DataW.trod_struct ht h
  match xs, hlen with
  | [y0, y1, y2, y3, y4], _ => exact ⟨y0, y1, y2, y3, y4, n, by simp, hl, by simpa using hf 0 f0 rfl, by simpa using hf 1 f1 rfl, by simpa using hf 2 f2 rfl, by simpa using hf 3 f3 rfl, by simpa using hf 4 f4 rfl⟩
theorem pl_fields : ∃ f0 f1 f2 f3 f4, Try.prog.underlying 29 = some (.struct #[f0, f1, f2, f3, f4]) ∧ f0.type = 27 ∧ f0.offset = 0 ∧ f1.type = 3 ∧ f1.offset = 8 ∧ f2.type = 3 ∧ f2.offset = 9 ∧ f3.type = 3 ∧ f3.offset = 10 ∧ f4.type = 3 ∧ f4.offset = 11 :=
  ⟨_, _, _, _, _, Try.underlying29, rfl, rfl, rfl, rfl, rfl, rfl, rfl, rfl, rfl, rfl⟩
theorem en_fields : ∃ f0 f1 f2 f3, Try.prog.underlying 40 = some (.struct #[f0, f1, f2, f3]) ∧ f0.type = 27 ∧ f0.offset = 0 ∧ f1.type = 3 ∧ f1.offset = 8 ∧ f2.type = 3 ∧ f2.offset = 9 ∧ f3.type = 3 ∧ f3.offset = 10 :=
  ⟨_, _, _, _, Try.underlying40, rfl, rfl, rfl, rfl, rfl, rfl, rfl, rfl⟩
/-- eight bytes of an ID -/
theorem open_id8 {n : Nat} {cs : List Value} {x : DataW H × List MemPlace} (hc : cs.length = 8) (h : DataW.trod enc Try.prog w base spare held n 27 cs = some x) :
    ∃ l : List UInt8, l.length = 8 ∧ cs = l.map B ∧ x = (.agg (l.map (byD H)), []) := by
  obtain ⟨xs, m, rfl, hx, _, hxl, hxs⟩ := DataW.trod_array (show Try.prog.underlying 27 = some (.array 8 5) from by kernel_rfl) h
  simp only [ce_u8, Nat.mul_one] at hxs
  obtain ⟨l, hl, hxl2⟩ := by_opened (enc := enc) (w := w) (base := base) (spare := spare) (held := held) cs xs (by rw [hxl, hc]) (fun j hj => ⟨m, hxs j (by omega)⟩)
  refine ⟨l, by rw [← List.length_map (f := B), ← hl]; exact hc, hl, ?_⟩
  rw [hx, hxl2]
  simp [List.map_map, Function.comp_def]
theorem open_place {n : Nat} {cs : List Value} {x : DataW H × List MemPlace} (hc : cs.length = 12) (h : DataW.trod enc Try.prog w base spare held n 29 cs = some x) : ∃ t : Plc, cs = plC t ∧ PlOk t := by
  obtain ⟨f0, f1, f2, f3, f4, hu, t0, o0, t1, o1, t2, o2, t3, o3, t4, o4⟩ := pl_fields
  obtain ⟨y0, y1, y2, y3, y4, m, _, _, g0, g1, g2, g3, g4⟩ := trod_struct5 hu h
  simp only [t0, o0, ce_id, t1, o1, ce_int, t2, o2, t3, o3, t4, o4, List.drop_zero] at g0 g1 g2 g3 g4
  obtain ⟨l, hl, hcs, _⟩ := open_id8 (by rw [List.length_take, hc]; rfl) g0
  obtain ⟨i1, hc1, _, hw1⟩ := DataW.trod_int Try.underlying3 g1
  obtain ⟨i2, hc2, _, hw2⟩ := DataW.trod_int Try.underlying3 g2
  obtain ⟨i3, hc3, _, hw3⟩ := DataW.trod_int Try.underlying3 g3
  obtain ⟨i4, hc4, _, hw4⟩ := DataW.trod_int Try.underlying3 g4
  refine ⟨⟨l, hl, i1, i2, i3, i4⟩, ?_, hw1, hw2, hw3, hw4⟩
  have e1 : cs = cs.take 8 ++ ((cs.drop 8).take 1 ++ ((cs.drop 9).take 1 ++ ((cs.drop 10).take 1 ++ (cs.drop 11).take 1))) := by
    conv => lhs; rw [← List.take_append_drop 8 cs]
    congr 1
    have : (cs.drop 8).length = 4 := by rw [List.length_drop, hc]
    rw [show cs.drop 9 = (cs.drop 8).drop 1 from by rw [List.drop_drop], show cs.drop 10 = (cs.drop 8).drop 2 from by rw [List.drop_drop], show cs.drop 11 = (cs.drop 8).drop 3 from by rw [List.drop_drop]]
    generalize cs.drop 8 = q at this
    match q, this with
    | [a, b, c, d], _ => rfl
  rw [e1, hcs, hc1, hc2, hc3, hc4]
  rfl
theorem open_entry {n : Nat} {cs : List Value} {x : DataW H × List MemPlace} (hc : cs.length = 11) (h : DataW.trod enc Try.prog w base spare held n 40 cs = some x) : ∃ t : Ent, cs = enC t ∧ EOk t := by
  obtain ⟨f0, f1, f2, f3, hu, t0, o0, t1, o1, t2, o2, t3, o3⟩ := en_fields
  obtain ⟨y0, y1, y2, y3, m, _, _, g0, g1, g2, g3⟩ := trod_struct4 hu h
  simp only [t0, o0, ce_id, t1, o1, ce_int, t2, o2, t3, o3, List.drop_zero] at g0 g1 g2 g3
  obtain ⟨l, hl, hcs, _⟩ := open_id8 (by rw [List.length_take, hc]; rfl) g0
  obtain ⟨i1, hc1, _, hw1⟩ := DataW.trod_int Try.underlying3 g1
  obtain ⟨i2, hc2, _, hw2⟩ := DataW.trod_int Try.underlying3 g2
  obtain ⟨i3, hc3, _, hw3⟩ := DataW.trod_int Try.underlying3 g3
  refine ⟨⟨l, hl, i1, i2, i3⟩, ?_, hw1, hw2, hw3⟩
  have e1 : cs = cs.take 8 ++ ((cs.drop 8).take 1 ++ ((cs.drop 9).take 1 ++ (cs.drop 10).take 1)) := by
    conv => lhs; rw [← List.take_append_drop 8 cs]
    congr 1
    have : (cs.drop 8).length = 3 := by rw [List.length_drop, hc]
    rw [show cs.drop 9 = (cs.drop 8).drop 1 from by rw [List.drop_drop], show cs.drop 10 = (cs.drop 8).drop 2 from by rw [List.drop_drop]]
    generalize cs.drop 8 = q at this
    match q, this with
    | [a, b, c], _ => rfl
  rw [e1, hcs, hc1, hc2, hc3]
  rfl
/-- rows of things of k cells each -/
theorem open_rows {α : Type} {k : Nat} {C : α → List Value} {q : α → Prop} {T E : TypeId} (hu : Try.prog.underlying T = some (.slice E)) (hk : Try.prog.cellsOf E = k) (hk0 : 0 < k) (hC : ∀ t, (C t).length = k)
    (ho : ∀ n cs (x : DataW H × List MemPlace), cs.length = k → DataW.trod enc Try.prog w base spare held n E cs = some x → ∃ t, cs = C t ∧ q t)
    {fuel : Nat} {sa : Option Addr} {len cap : Nat} {x : DataW H × List MemPlace} (h : DataW.trod enc Try.prog w base spare held fuel T [.slice sa len cap] = some x) (hlt : ∀ y ∈ x.2, y.block < w.heap.size) :
    ∃ l : List α, Rx k C w (.slice sa len cap) l ∧ (∀ b ∈ l, q b) ∧ (l.length = 0 ∨ ∃ elems sp, x.1 = .slice elems sp ∧ l.length = elems.length) := by
  rcases open_slice hu h with ⟨hcs, hx⟩ | ⟨a, len', cap', m, n, D, Pl, hcs, _, hl, hm, hmm, hx, hall⟩
  · simp at hcs
    obtain ⟨rfl, rfl, rfl⟩ := hcs
    exact ⟨[], ⟨.inl ⟨⟨_, _, rfl⟩, rfl⟩, _, _, _, rfl, Nat.le_refl _, by omega⟩, (fun b hb => by simp at hb), .inl rfl⟩
  · simp at hcs
    obtain ⟨rfl, rfl, rfl⟩ := hcs
    have hlm : len ≤ m := by rw [hmm]; split <;> omega
    rw [hk] at hall
    obtain ⟨L, hL, hT⟩ := choose_row (q := fun i t => w.cells? base (a.add (i * k)) k = some (C t) ∧ q t) len (fun i hi => by
      obtain ⟨cs', h1, h2⟩ := hall i (by omega)
      obtain ⟨_, hlen, _⟩ := World.cells?_some h1
      obtain ⟨t, rfl, h3⟩ := ho _ _ _ hlen h2
      exact ⟨t, h1, h3⟩)
    subst hx
    have hm' : cap ≤ 9223372036854775807 := by unfold maxLen at hm; omega
    have hok : ∀ b ∈ L, q b := fun b hb => by
      obtain ⟨i, hi, rfl⟩ := List.getElem_of_mem hb
      exact (hT i _ (List.getElem?_eq_getElem hi)).2
    refine ⟨L, ?_, hok, .inr ⟨_, _, rfl, by simp [hL]⟩⟩
    by_cases hc0 : len = 0
    · subst hc0
      exact ⟨.inl ⟨⟨_, _, rfl⟩, List.length_eq_zero_iff.1 hL⟩, _, _, _, rfl, hl, hm'⟩
    · have hcell : ∀ j t, L[j]? = some t → ∀ r v, (C t)[r]? = some v → w.cell? (a.add (j * k + r)) = some v := fun j t hj r v hv => by
        obtain ⟨_, hlen, hc⟩ := World.cells?_some (hT j t hj).1
        have hr : r < k := by
          have := (List.getElem?_eq_some_iff.1 hv).1
          rwa [hC] at this
        have := hc r hr
        rw [add_add, hv] at this
        exact this
      obtain ⟨b, off, spot⟩ := a
      have hspot : spot = none := by
        have h0 : ((C (L[0]'(by omega)))[0]?) = some ((C (L[0]'(by omega)))[0]'(by rw [hC]; exact hk0)) := List.getElem?_eq_getElem _
        simpa [Addr.add] using World.cell?_spot (hcell 0 _ (List.getElem?_eq_getElem (by omega)) 0 _ h0)
      subst hspot
      have hpos : 0 < m * k := Nat.mul_pos (by omega) hk0
      have hbW : b < w.heap.size := hlt (.cell b off) (List.mem_append_left _ (MemPlace.mem_row.2 ⟨0, by rw [hk]; exact hpos, by simp⟩))
      refine ⟨.inr ⟨b, off, cap, by rw [hL], hbW, fun j t hj r u hu => ?_⟩, _, _, _, rfl, hl, hm'⟩
      have e := hcell j t hj r u hu
      rw [add_plain] at e
      rw [Nat.add_assoc]
      exact e
theorem ce_pl : Try.prog.cellsOf 29 = 12 := by kernel_rfl
theorem open_pls {fuel : Nat} {sa : Option Addr} {len cap : Nat} {x : DataW H × List MemPlace} (h : DataW.trod enc Try.prog w base spare held fuel 22 [.slice sa len cap] = some x) (hlt : ∀ y ∈ x.2, y.block < w.heap.size) :
    ∃ l : List Plc, Px w (.slice sa len cap) l ∧ PsOk l ∧ (l.length = 0 ∨ ∃ elems sp, x.1 = .slice elems sp ∧ l.length = elems.length) :=
  open_rows Try.underlying22 ce_pl (by omega) plC_length (fun _ _ _ => open_place) h hlt
theorem open_ents {fuel : Nat} {sa : Option Addr} {len cap : Nat} {x : DataW H × List MemPlace} (h : DataW.trod enc Try.prog w base spare held fuel 35 [.slice sa len cap] = some x) (hlt : ∀ y ∈ x.2, y.block < w.heap.size) :
    ∃ l : List Ent, Ex w (.slice sa len cap) l ∧ EsOk l ∧ (l.length = 0 ∨ ∃ elems sp, x.1 = .slice elems sp ∧ l.length = elems.length) :=
  open_rows Try.underlying35 ce_ent (by omega) enC_length (fun _ _ _ => open_entry) h hlt
theorem okWide_arr {P : Program} {r : Reach} {b0 : Nat} {t e : TypeId} {n : Nat} {v : Value} (ht : P.underlying t = some (.array n e)) (h : Value.okWide P w r b0 t v) : ∃ cs, v = .agg cs ∧ cs.size = P.cellsOf t := by
  simp only [Value.okWide, ht] at h
  obtain ⟨cs, h1, h2, _⟩ := h
  exact ⟨cs, h1, h2⟩
theorem open_idv {r : Reach} {b0 : Nat} {v : Value} {d : DataW H} {p : List MemPlace} (hv : Value.okWide Try.prog w r b0 27 v) (h : DataW.Trod enc Try.prog w base spare held 27 v d p) :
    ∃ l : List UInt8, v = idV l ∧ d = .agg (l.map (byD H)) ∧ p = [] ∧ l.length = 8 := by
  obtain ⟨cs, rfl, hsz⟩ := okWide_arr (show Try.prog.underlying 27 = some (.array 8 5) from by kernel_rfl) hv
  rw [ce_id] at hsz
  obtain ⟨fuel, hf⟩ := h
  obtain ⟨l, hl, hcs, hx⟩ := open_id8 (cs := cs.toList) (by simpa using hsz) hf
  obtain ⟨rfl, rfl⟩ := Prod.mk.inj hx
  refine ⟨l, ?_, rfl, rfl, hl⟩
  have : cs.toList = l.map B := hcs
  rw [idV, ← this]
theorem shut_idv {l : List UInt8} (hl : l.length = 8) : DataW.Trod enc Try.prog w base spare held 27 (idV l) (.agg (l.map (byD H))) [] :=
  ⟨2, trod_id hl⟩
end
end Go.Proofs.Ytllioidjelgafab
