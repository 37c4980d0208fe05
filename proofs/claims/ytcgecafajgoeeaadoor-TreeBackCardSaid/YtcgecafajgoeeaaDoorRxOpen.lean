/-
  Rows of things of k cells each, and an ID, handed in and read as data: opened, and shut.
-/
import Derived.Test.YtcgecafajgoeeaaDoorRxMem
import Derived.OpenShut
import Derived.DataShut
import Derived.WideShapes
import Derived.Deep.Strs
import Derived.Lib.SmallJoins
import Derived.Deep.Slices
import Derived.SizedLaws
namespace Go.Proofs.YtcgecafajgoeeaaDoor
open Go.RowKit Go.ChangeShapes Go.WideShapes Go.Deep Go.Joins
set_option maxRecDepth 20000

section
variable {H : Type} {enc : TypeId × Value → H} {w : World} {base : Nat} {spare : Nat → Bool} {held : Bool}

theorem choose_row {α : Type} {q : Nat → α → Prop} : ∀ (n : Nat), (∀ i, i < n → ∃ t, q i t) → ∃ l : List α, l.length = n ∧ ∀ i t, l[i]? = some t → q i t
  | 0, _ => ⟨[], rfl, fun i t h => by simp at h⟩
  | n + 1, h => by
    obtain ⟨l, hl, hq⟩ := choose_row n fun i hi => h i (by omega)
    obtain ⟨t, ht⟩ := h n (by omega)
    refine ⟨l ++ [t], by simp [hl], fun i u hu => ?_⟩
    by_cases hi : i < n
    · rw [List.getElem?_append_left (by omega)] at hu
      exact hq i u hu
    · have : i = n := by
        have := (List.getElem?_eq_some_iff.1 hu).1
        simp at this
        omega
      subst this
      rw [List.getElem?_append_right (by omega), hl] at hu
      obtain rfl : t = u := by simpa using hu
      exact ht

theorem trod_arr_mk {P : Program} {t e : TypeId} {n m : Nat} {cs : List Value} {xs : List (DataW H × List MemPlace)} (ht : P.underlying t = some (.array n e)) (hl : cs.length = P.cellsOf t) (hx : xs.length = n)
    (h : ∀ i, i < n → DataW.trod enc P w base spare held m e ((cs.drop (i * P.cellsOf e)).take (P.cellsOf e)) = xs[i]?) : DataW.trod enc P w base spare held (m + 1) t cs = some (.agg (xs.map (·.1)), xs.flatMap (·.2)) := by
  unfold DataW.trod
  rw [ht]
  simp only [hl, if_true]
  rw [mapM_some_of_get (List.range n) xs (by rw [List.length_range, hx]) (fun i x hix => by
    obtain ⟨hi, rfl⟩ := List.getElem?_eq_some_iff.1 hix
    rw [List.getElem_range]
    exact h i (by simpa using hi))]
  rfl

def byD (H : Type) (b : UInt8) : DataW H := .lit (.int .u8 (b.toNat : Int))

theorem ce_id : Tryd.prog.cellsOf 49 = 8 := by kernel_rfl

theorem ce_u8 : Tryd.prog.cellsOf 5 = 1 := by kernel_rfl

theorem ce_int : Tryd.prog.cellsOf 3 = 1 := by kernel_rfl

theorem wf_by {n : Int} (h : (Lit.int .u8 n).wf = true) : ∃ b : UInt8, n = (b.toNat : Int) := by
  simp [Lit.wf, IntKind.min, IntKind.max, IntKind.signed, IntKind.bits] at h
  refine ⟨UInt8.ofNat n.toNat, ?_⟩
  rw [UInt8.toNat_ofNat']
  omega

theorem by_opened : ∀ (cs : List Value) (xs : List (DataW H × List MemPlace)), xs.length = cs.length →
    (∀ j, j < cs.length → ∃ m, DataW.trod enc Tryd.prog w base spare held m 5 ((cs.drop j).take 1) = xs[j]?) → ∃ l : List UInt8, cs = l.map B ∧ xs = l.map (fun b => (byD H b, []))
  | [], [], _, _ => ⟨[], rfl, rfl⟩
  | c :: cs, x :: xs, hl, h => by
    obtain ⟨m, h0⟩ := h 0 (by simp)
    obtain ⟨n, hc, hx, hw⟩ := DataW.trod_int Tryd.underlying5 (show DataW.trod enc Tryd.prog w base spare held m 5 [c] = some x from by simpa using h0)
    obtain ⟨b, rfl⟩ := wf_by hw
    obtain ⟨l, hcs, hxs⟩ := by_opened cs xs (by simpa using hl) (fun j hj => by
      obtain ⟨m, hm⟩ := h (j + 1) (by simpa using hj)
      exact ⟨m, by simpa using hm⟩)
    refine ⟨b :: l, ?_, ?_⟩
    · rw [List.map_cons, ← hcs]
      have : c = .int .u8 (b.toNat : Int) := by simpa using hc
      rw [this]; rfl
    · rw [List.map_cons, ← hxs, hx]; rfl

theorem trod_id {l : List UInt8} (hl : l.length = 8) : DataW.trod enc Tryd.prog w base spare held 2 49 (l.map B) = some (.agg (l.map (byD H)), []) := by
  have hb : ∀ b : UInt8, (Lit.int .u8 (b.toNat : Int)).wf = true := fun b => by
    have := b.toNat_lt
    simp [Lit.wf, IntKind.min, IntKind.max, IntKind.signed, IntKind.bits]; omega
  have hlm : (l.map B).length = 8 := by rw [List.length_map, hl]
  have := trod_arr_mk (enc := enc) (w := w) (base := base) (spare := spare) (held := held) (m := 1) (xs := l.map (fun b => (byD H b, ([] : List MemPlace)))) (show Tryd.prog.underlying 49 = some (.array 8 5) from by kernel_rfl) (by rw [ce_id, hlm]) (by rw [List.length_map, hl]) (fun j hj => by
    rw [ce_u8, Nat.mul_one]
    have hjl : j < l.length := by omega
    rw [List.getElem?_map, List.getElem?_eq_getElem hjl]
    have hd : ((l.map B).drop j).take 1 = [B l[j]] := by
      rw [List.drop_eq_getElem_cons (by rw [List.length_map]; exact hjl), List.getElem_map]; rfl
    rw [hd]
    exact trod_int_mk 0 Tryd.underlying5 (hb l[j]))
  rw [this, List.map_map]
  simp [Function.comp_def]

/-- eight bytes of an ID -/
theorem open_id8 {n : Nat} {cs : List Value} {x : DataW H × List MemPlace} (hc : cs.length = 8) (h : DataW.trod enc Tryd.prog w base spare held n 49 cs = some x) :
    ∃ l : List UInt8, l.length = 8 ∧ cs = l.map B ∧ x = (.agg (l.map (byD H)), []) := by
  obtain ⟨xs, m, rfl, hx, _, hxl, hxs⟩ := DataW.trod_array (show Tryd.prog.underlying 49 = some (.array 8 5) from by kernel_rfl) h
  simp only [ce_u8, Nat.mul_one] at hxs
  obtain ⟨l, hl, hxl2⟩ := by_opened (enc := enc) (w := w) (base := base) (spare := spare) (held := held) cs xs (by rw [hxl, hc]) (fun j hj => ⟨m, hxs j (by omega)⟩)
  refine ⟨l, by rw [← List.length_map (f := B), ← hl]; exact hc, hl, ?_⟩
  rw [hx, hxl2]
  simp [List.map_map, Function.comp_def]

/-- rows of things of k cells each -/
theorem open_rows {α : Type} {k : Nat} {C : α → List Value} {q : α → Prop} {T E : TypeId} (hu : Tryd.prog.underlying T = some (.slice E)) (hk : Tryd.prog.cellsOf E = k) (hk0 : 0 < k) (hC : ∀ t, (C t).length = k)
    (ho : ∀ n cs (x : DataW H × List MemPlace), cs.length = k → DataW.trod enc Tryd.prog w base spare held n E cs = some x → ∃ t, cs = C t ∧ q t)
    {fuel : Nat} {sa : Option Addr} {len cap : Nat} {x : DataW H × List MemPlace} (h : DataW.trod enc Tryd.prog w base spare held fuel T [.slice sa len cap] = some x) (hlt : ∀ y ∈ x.2, y.block < w.heap.size) :
    ∃ l : List α, Rx k C w (.slice sa len cap) l ∧ (∀ b ∈ l, q b) ∧ (l.length = 0 ∨ ∃ elems sp, x.1 = .slice elems sp ∧ l.length = elems.length) := by
  rcases open_slice hu h with ⟨hcs, hx⟩ | ⟨a, len', cap', m, n, D, Pl, hcs, _, hl, hm, hmm, hx, hall⟩
  · simp at hcs
    obtain ⟨rfl, rfl, rfl⟩ := hcs
    exact ⟨[], ⟨.inl ⟨⟨_, _, rfl⟩, rfl⟩, _, _, _, rfl, Nat.le_refl _, by omega⟩, (fun b hb => by simp at hb), .inl rfl⟩
  · simp at hcs
    obtain ⟨rfl, rfl, rfl⟩ := hcs
    have hlm : len ≤ m := by rw [hmm]; split <;> omega
    rw [hk] at hall
    obtain ⟨L, hL, hT⟩ := choose_row (q := fun i t => w.cells? base (a.add (i * k)) k = some (C t) ∧ q t) len (fun i hi => by
      obtain ⟨cs', h1, h2⟩ := hall i (by omega)
      obtain ⟨_, hlen, _⟩ := World.cells?_some h1
      obtain ⟨t, rfl, h3⟩ := ho _ _ _ hlen h2
      exact ⟨t, h1, h3⟩)
    subst hx
    have hm' : cap ≤ 9223372036854775807 := by unfold maxLen at hm; omega
    have hok : ∀ b ∈ L, q b := fun b hb => by
      obtain ⟨i, hi, rfl⟩ := List.getElem_of_mem hb
      exact (hT i _ (List.getElem?_eq_getElem hi)).2
    refine ⟨L, ?_, hok, .inr ⟨_, _, rfl, by simp [hL]⟩⟩
    by_cases hc0 : len = 0
    · subst hc0
      exact ⟨.inl ⟨⟨_, _, rfl⟩, List.length_eq_zero_iff.1 hL⟩, _, _, _, rfl, hl, hm'⟩
    · have hcell : ∀ j t, L[j]? = some t → ∀ r v, (C t)[r]? = some v → w.cell? (a.add (j * k + r)) = some v := fun j t hj r v hv => by
        obtain ⟨_, hlen, hc⟩ := World.cells?_some (hT j t hj).1
        have hr : r < k := by
          have := (List.getElem?_eq_some_iff.1 hv).1
          rwa [hC] at this
        have := hc r hr
        rw [add_add, hv] at this
        exact this
      obtain ⟨b, off, spot⟩ := a
      have hspot : spot = none := by
        have h0 : ((C (L[0]'(by omega)))[0]?) = some ((C (L[0]'(by omega)))[0]'(by rw [hC]; exact hk0)) := List.getElem?_eq_getElem _
        simpa [Addr.add] using World.cell?_spot (hcell 0 _ (List.getElem?_eq_getElem (by omega)) 0 _ h0)
      subst hspot
      have hpos : 0 < m * k := Nat.mul_pos (by omega) hk0
      have hbW : b < w.heap.size := hlt (.cell b off) (List.mem_append_left _ (MemPlace.mem_row.2 ⟨0, by rw [hk]; exact hpos, by simp⟩))
      refine ⟨.inr ⟨b, off, cap, by rw [hL], hbW, fun j t hj r u hu => ?_⟩, _, _, _, rfl, hl, hm'⟩
      have e := hcell j t hj r u hu
      rw [add_plain] at e
      rw [Nat.add_assoc]
      exact e

theorem okWide_arr {P : Program} {r : Reach} {b0 : Nat} {t e : TypeId} {n : Nat} {v : Value} (ht : P.underlying t = some (.array n e)) (h : Value.okWide P w r b0 t v) : ∃ cs, v = .agg cs ∧ cs.size = P.cellsOf t := by
  simp only [Value.okWide, ht] at h
  obtain ⟨cs, h1, h2, _⟩ := h
  exact ⟨cs, h1, h2⟩

theorem open_idv {r : Reach} {b0 : Nat} {v : Value} {d : DataW H} {p : List MemPlace} (hv : Value.okWide Tryd.prog w r b0 49 v) (h : DataW.Trod enc Tryd.prog w base spare held 49 v d p) :
    ∃ l : List UInt8, v = idV l ∧ d = .agg (l.map (byD H)) ∧ p = [] ∧ l.length = 8 := by
  obtain ⟨cs, rfl, hsz⟩ := okWide_arr (show Tryd.prog.underlying 49 = some (.array 8 5) from by kernel_rfl) hv
  rw [ce_id] at hsz
  obtain ⟨fuel, hf⟩ := h
  obtain ⟨l, hl, hcs, hx⟩ := open_id8 (cs := cs.toList) (by simpa using hsz) hf
  obtain ⟨rfl, rfl⟩ := Prod.mk.inj hx
  refine ⟨l, ?_, rfl, rfl, hl⟩
  have : cs.toList = l.map B := hcs
  rw [idV, ← this]

theorem shut_idv {l : List UInt8} (hl : l.length = 8) : DataW.Trod enc Tryd.prog w base spare held 49 (idV l) (.agg (l.map (byD H))) [] :=
  ⟨2, trod_id hl⟩

end

end Go.Proofs.YtcgecafajgoeeaaDoor
