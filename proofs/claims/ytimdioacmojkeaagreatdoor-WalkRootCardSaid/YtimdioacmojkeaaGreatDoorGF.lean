/-
  Blobs, ways and items handed in and read as data: opened, shut, and how great they may be.
  What the rows list of unicode/utf8's tables is what ValidString's contract asks.
-/
import Derived.Test.YtimdioacmojkeaaGreatDoorGB
import Derived.Test.YtimdioacmojkeaaGreatDoorGA
import Derived.Test.YtimdioacmojkeaaGreatDoorGE
import Derived.Test.YtimdioacmojkeaaGreatDoorRows
import Derived.Lib.SmallJoins
import Derived.Test.YtimdioacmojkeaaGreatDoorGD
import Derived.Lib.LaidU8T
import Derived.SliceStrings

namespace Go.Proofs.YtimdioacmojkeaaGreatDoor
open Go.RowKit Go.ChangeShapes Go.WideShapes Go.Deep Go.Joins
set_option maxRecDepth 20000

section
variable {H : Type} {enc : TypeId × Value → H} {w : World} {base : Nat} {spare : Nat → Bool} {held : Bool}

def blobD (H : Type) (b : Blb) : DataW H := .agg [.lit (.int .i64 b.kind), .lit (.string b.bytes.data.toList)]

theorem open_blobv {r : Reach} {b0 : Nat} {v : Value} {d : DataW H} {p : List MemPlace} (hv : Value.okWide Tryz.prog w r b0 37 v) (h : DataW.Trod enc Tryz.prog w base spare held 37 v d p) :
    ∃ b : Blb, v = blV b ∧ d = blobD H b ∧ p = [] ∧ (Lit.int .i64 b.kind).wf = true ∧ b.bytes.size ≤ 9223372036854775807 := by
  obtain ⟨v0, v1, y0, y1, n, rfl, rfl, rfl, h0, h1⟩ := open_agg2 Tryz.underlying37 (by kernel_rfl) (by kernel_rfl) hv h
  obtain ⟨a, ha, hy0, w0⟩ := DataW.trod_int Tryz.underlying3 h0
  obtain ⟨s, hs, hy1, w1⟩ := DataW.trod_string Tryz.underlying9 h1
  obtain rfl : v0 = .int .i64 a := by simpa using ha
  obtain rfl : v1 = .string s := by simpa using hs
  subst hy0 hy1
  exact ⟨⟨a, s⟩, rfl, rfl, rfl, w0, by unfold maxLen at w1; exact w1⟩

theorem shut_blobv {b : Blb} (h : (Lit.int .i64 b.kind).wf = true ∧ b.bytes.size ≤ 9223372036854775807) : DataW.Trod enc Tryz.prog w base spare held 37 (blV b) (blobD H b) [] :=
  shut_agg2 (y0 := (.lit (.int .i64 b.kind), [])) (y1 := (.lit (.string b.bytes.data.toList), [])) Tryz.underlying37 (by kernel_rfl) (by kernel_rfl) ⟨_, trod_int_mk 0 Tryz.underlying3 h.1⟩ ⟨1, by have : b.bytes.size ≤ maxLen := h.2; simp [DataW.trod, Tryz.underlying9, this]⟩

theorem sized_blobv {ts : List TypeId} {ds : List (DataW H)} (h : (DataW.weightsEach Tryz.prog ts ds).all (· ≤ reachBytes) = true) {j : Nat} {b : Blb} (ht : ts[j]? = some 37) (hd : ds[j]? = some (blobD H b)) : b.bytes.size ≤ 140737488351232 := by
  obtain ⟨f0, f1, hu, _⟩ := bl_fields
  have := of_decide_eq_true (List.all_eq_true.1 h _ (DataW.weights_mem_each ht hd b.bytes.data.toList.length (by simp [blobD, DataW.weights, DataW.weightsEach, hu])))
  simp only [reachBytes] at this
  rw [Lib.size_eq]; exact this

def wayD (H : Type) (fx mn mx bt : Int) : DataW H := .agg [.lit (.int .i64 fx), .agg [.lit (.int .i64 mn), .lit (.int .i64 mx), .lit (.int .i64 bt)]]

def WyOk (fx mn mx bt : Int) : Prop := (Lit.int .i64 fx).wf = true ∧ (Lit.int .i64 mn).wf = true ∧ (Lit.int .i64 mx).wf = true ∧ (Lit.int .i64 bt).wf = true

theorem wy_fields : ∃ f0 f1, Tryz.prog.underlying 25 = some (.struct #[f0, f1]) ∧ f0.type = 3 ∧ f0.offset = 0 ∧ f1.type = 23 ∧ f1.offset = 1 :=
  ⟨_, _, Tryz.underlying25, rfl, rfl, rfl, rfl⟩

theorem cu_fields : ∃ f0 f1 f2, Tryz.prog.underlying 23 = some (.struct #[f0, f1, f2]) ∧ f0.type = 3 ∧ f0.offset = 0 ∧ f1.type = 3 ∧ f1.offset = 1 ∧ f2.type = 3 ∧ f2.offset = 2 :=
  ⟨_, _, _, Tryz.underlying23, rfl, rfl, rfl, rfl, rfl, rfl⟩

theorem ce_way : Tryz.prog.cellsOf 25 = 4 := by kernel_rfl

theorem ce_cut : Tryz.prog.cellsOf 23 = 3 := by kernel_rfl

theorem wk_struct2 {P : Program} {t : TypeId} {f0 f1 : Field} {fuel : Nat} {cs : List Value} {x : DataW H × List MemPlace} (ht : P.underlying t = some (.struct #[f0, f1])) (h : DataW.trod enc P w base spare held fuel t cs = some x) :
    ∃ y0 y1 n, x = (.agg [y0.1, y1.1], y0.2 ++ y1.2) ∧ cs.length = P.cellsOf t ∧ DataW.trod enc P w base spare held n f0.type ((cs.drop f0.offset).take (P.cellsOf f0.type)) = some y0 ∧ DataW.trod enc P w base spare held n f1.type ((cs.drop f1.offset).take (P.cellsOf f1.type)) = some y1 := by
  obtain ⟨xs, n, _, rfl, hl, hlen, hf⟩ := DataW.trod_struct ht h
  match xs, hlen with
  | [y0, y1], _ => exact ⟨y0, y1, n, by simp, hl, by simpa using hf 0 f0 rfl, by simpa using hf 1 f1 rfl⟩

theorem wk_struct5 {P : Program} {t : TypeId} {f0 f1 f2 f3 f4 : Field} {fuel : Nat} {cs : List Value} {x : DataW H × List MemPlace} (ht : P.underlying t = some (.struct #[f0, f1, f2, f3, f4])) (h : DataW.trod enc P w base spare held fuel t cs = some x) :
    ∃ y0 y1 y2 y3 y4 n, x = (.agg [y0.1, y1.1, y2.1, y3.1, y4.1], y0.2 ++ (y1.2 ++ (y2.2 ++ (y3.2 ++ y4.2)))) ∧ cs.length = P.cellsOf t ∧ DataW.trod enc P w base spare held n f0.type ((cs.drop f0.offset).take (P.cellsOf f0.type)) = some y0 ∧
      DataW.trod enc P w base spare held n f1.type ((cs.drop f1.offset).take (P.cellsOf f1.type)) = some y1 ∧ DataW.trod enc P w base spare held n f2.type ((cs.drop f2.offset).take (P.cellsOf f2.type)) = some y2 ∧
      DataW.trod enc P w base spare held n f3.type ((cs.drop f3.offset).take (P.cellsOf f3.type)) = some y3 ∧ DataW.trod enc P w base spare held n f4.type ((cs.drop f4.offset).take (P.cellsOf f4.type)) = some y4 := by
  obtain ⟨xs, n, _, rfl, hl, hlen, hf⟩ := DataW.trod_struct ht h
  match xs, hlen with
  | [y0, y1, y2, y3, y4], _ => exact ⟨y0, y1, y2, y3, y4, n, by simp, hl, by simpa using hf 0 f0 rfl, by simpa using hf 1 f1 rfl, by simpa using hf 2 f2 rfl, by simpa using hf 3 f3 rfl, by simpa using hf 4 f4 rfl⟩

theorem open_way {r : Reach} {b0 : Nat} {v : Value} {d : DataW H} {p : List MemPlace} (hv : Value.okWide Tryz.prog w r b0 25 v) (h : DataW.Trod enc Tryz.prog w base spare held 25 v d p) :
    ∃ fx mn mx bt : Int, v = wayV fx mn mx bt ∧ d = wayD H fx mn mx bt ∧ p = [] ∧ WyOk fx mn mx bt := by
  obtain ⟨cs, rfl, hsz⟩ := okWide_struct Tryz.underlying25 hv
  rw [ce_way] at hsz
  obtain ⟨fuel, hf⟩ := h
  obtain ⟨f0, f1, hu, t0, o0, t1, o1⟩ := wy_fields
  obtain ⟨g0, g1, g2, hv2, s0, q0, s1, q1, s2, q2⟩ := cu_fields
  obtain ⟨y0, y1, n, hx, _, h0, h1⟩ := wk_struct2 hu hf
  obtain ⟨l, rfl⟩ : ∃ l : List Value, cs = l.toArray := ⟨cs.toList, rfl⟩
  have hl : l.length = 4 := by simpa using hsz
  match l, hl with
  | [v0, v1, v2, v3], _ =>
    simp only [t0, o0, t1, o1, ce_int, ce_cut, Value.cells] at h0 h1
    have h1 : DataW.trod enc Tryz.prog w base spare held n 23 [v1, v2, v3] = some y1 := h1
    obtain ⟨z0, z1, z2, m, hy1, _, k0, k1, k2⟩ := trod_struct3 hv2 h1
    simp only [s0, q0, s1, q1, s2, q2, ce_int] at k0 k1 k2
    have h0 : DataW.trod enc Tryz.prog w base spare held n 3 [v0] = some y0 := h0
    have k0 : DataW.trod enc Tryz.prog w base spare held m 3 [v1] = some z0 := k0
    have k1 : DataW.trod enc Tryz.prog w base spare held m 3 [v2] = some z1 := k1
    have k2 : DataW.trod enc Tryz.prog w base spare held m 3 [v3] = some z2 := k2
    obtain ⟨a, c0, x0, w0⟩ := DataW.trod_int Tryz.underlying3 h0
    obtain ⟨b, c1, x1, w1⟩ := DataW.trod_int Tryz.underlying3 k0
    obtain ⟨c, c2, x2, w2⟩ := DataW.trod_int Tryz.underlying3 k1
    obtain ⟨e, c3, x3, w3⟩ := DataW.trod_int Tryz.underlying3 k2
    obtain rfl : v0 = .int .i64 a := by simpa using c0
    obtain rfl : v1 = .int .i64 b := by simpa using c1
    obtain rfl : v2 = .int .i64 c := by simpa using c2
    obtain rfl : v3 = .int .i64 e := by simpa using c3
    refine ⟨a, b, c, e, rfl, ?_, ?_, w0, w1, w2, w3⟩
    · have := congrArg Prod.fst hx
      rw [show d = _ from this, hy1, x0, x1, x2, x3]; rfl
    · have := congrArg Prod.snd hx
      rw [show p = _ from this, hy1, x0, x1, x2, x3]; rfl

theorem shut_way {fx mn mx bt : Int} (h : WyOk fx mn mx bt) : DataW.Trod enc Tryz.prog w base spare held 25 (wayV fx mn mx bt) (wayD H fx mn mx bt) [] := by
  obtain ⟨h0, h1, h2, h3⟩ := h
  obtain ⟨f0, f1, hu, t0, o0, t1, o1⟩ := wy_fields
  obtain ⟨g0, g1, g2, hv2, s0, q0, s1, q1, s2, q2⟩ := cu_fields
  have hc : DataW.trod enc Tryz.prog w base spare held 2 23 [.int .i64 mn, .int .i64 mx, .int .i64 bt] = some (.agg [.lit (.int .i64 mn), .lit (.int .i64 mx), .lit (.int .i64 bt)], []) := by
    have := trod_struct3_mk (enc := enc) (w := w) (base := base) (spare := spare) (held := held) (n := 1) (cs := [.int .i64 mn, .int .i64 mx, .int .i64 bt]) (y0 := (.lit (.int .i64 mn), [])) (y1 := (.lit (.int .i64 mx), [])) (y2 := (.lit (.int .i64 bt), [])) hv2 (by rw [ce_cut]; rfl)
      (by rw [s0, q0, ce_int]; exact trod_int_mk 0 Tryz.underlying3 h1) (by rw [s1, q1, ce_int]; exact trod_int_mk 0 Tryz.underlying3 h2) (by rw [s2, q2, ce_int]; exact trod_int_mk 0 Tryz.underlying3 h3)
    exact this
  refine ⟨3, ?_⟩
  have := trod_struct_mk (enc := enc) (w := w) (base := base) (spare := spare) (held := held) (n := 2) (t := 25) (cs := [.int .i64 fx, .int .i64 mn, .int .i64 mx, .int .i64 bt]) (xs := [(.lit (.int .i64 fx), []), (.agg [.lit (.int .i64 mn), .lit (.int .i64 mx), .lit (.int .i64 bt)], [])]) hu (by rw [ce_way]; rfl)
    (by
      have e0 : DataW.trod enc Tryz.prog w base spare held 2 3 [.int .i64 fx] = some (.lit (.int .i64 fx), []) := trod_int_mk 1 Tryz.underlying3 h0
      simp [t0, o0, t1, o1, ce_int, ce_cut, e0, hc])
  exact this

def itD (H : Type) (x : Im) : DataW H := .agg [.lit (.string x.path.data.toList), .lit (.int .i64 x.kind), .lit (.int .i64 x.mode), .lit (.int .i64 x.time), .lit (.string x.bytes.data.toList)]

theorem it_fields : ∃ f0 f1 f2 f3 f4, Tryz.prog.underlying 46 = some (.struct #[f0, f1, f2, f3, f4]) ∧ f0.type = 9 ∧ f0.offset = 0 ∧ f1.type = 3 ∧ f1.offset = 1 ∧ f2.type = 3 ∧ f2.offset = 2 ∧ f3.type = 3 ∧ f3.offset = 3 ∧ f4.type = 9 ∧ f4.offset = 4 :=
  ⟨_, _, _, _, _, Tryz.underlying46, rfl, rfl, rfl, rfl, rfl, rfl, rfl, rfl, rfl, rfl⟩

theorem ce_it : Tryz.prog.cellsOf 46 = 5 := by kernel_rfl

/-- what is sure of an item that comes in -/
def ImIn (x : Im) : Prop := (Lit.int .i64 x.kind).wf = true ∧ (Lit.int .i64 x.mode).wf = true ∧ (Lit.int .i64 x.time).wf = true

theorem open_item {n : Nat} {cs : List Value} {x : DataW H × List MemPlace} (hc : cs.length = 5) (h : DataW.trod enc Tryz.prog w base spare held n 46 cs = some x) : ∃ t : Im, (cs = imC t ∧ ImIn t) ∧ x.1 = itD H t := by
  obtain ⟨f0, f1, f2, f3, f4, hu, t0, o0, t1, o1, t2, o2, t3, o3, t4, o4⟩ := it_fields
  obtain ⟨y0, y1, y2, y3, y4, m, hx, _, g0, g1, g2, g3, g4⟩ := wk_struct5 hu h
  have ks : Tryz.prog.cellsOf 9 = 1 := by kernel_rfl
  match cs, hc with
  | [v0, v1, v2, v3, v4], _ =>
    simp only [t0, o0, t1, o1, ce_int, t2, o2, t3, o3, t4, o4, ks] at g0 g1 g2 g3 g4
    obtain ⟨b0, c0, x0, s0⟩ := DataW.trod_string Tryz.underlying9 g0
    obtain ⟨i1, c1, x1, w1⟩ := DataW.trod_int Tryz.underlying3 g1
    obtain ⟨i2, c2, x2, w2⟩ := DataW.trod_int Tryz.underlying3 g2
    obtain ⟨i3, c3, x3, w3⟩ := DataW.trod_int Tryz.underlying3 g3
    obtain ⟨b4, c4, x4, s4⟩ := DataW.trod_string Tryz.underlying9 g4
    obtain rfl : v0 = .string b0 := by simpa using c0
    obtain rfl : v1 = .int .i64 i1 := by simpa using c1
    obtain rfl : v2 = .int .i64 i2 := by simpa using c2
    obtain rfl : v3 = .int .i64 i3 := by simpa using c3
    obtain rfl : v4 = .string b4 := by simpa using c4
    exact ⟨⟨b0, i1, i2, i3, b4⟩, ⟨rfl, w1, w2, w3⟩, by rw [hx, x0, x1, x2, x3, x4]; rfl⟩

theorem open_items {fuel : Nat} {sa : Option Addr} {len cap : Nat} {x : DataW H × List MemPlace} (h : DataW.trod enc Tryz.prog w base spare held fuel 26 [.slice sa len cap] = some x) (hlt : ∀ y ∈ x.2, y.block < w.heap.size) :
    ∃ l : List Im, Ims w (.slice sa len cap) l ∧ (∀ t ∈ l, ImIn t) ∧ (l = [] ∨ ∃ elems sp, x.1 = .slice elems sp ∧ l.length = elems.length ∧ ∀ t ∈ l, itD H t ∈ elems) := by
  obtain ⟨l, hl, h1, h2, h3⟩ := open_rw (R := fun _ (t : Im) c => c = imC t ∧ ImIn t) (q := fun t d => d = itD H t) Tryz.underlying26 ce_it (by omega) (fun n cs x hc hx _ => by
    obtain ⟨t, a, b⟩ := open_item hc hx
    exact ⟨t, a, b⟩) h hlt
  have hin : ∀ t ∈ l, ImIn t := by
    obtain ⟨hat⟩ := hl
    rcases hat with ⟨_, hn⟩ | ⟨bk, o, cp, _, _, _, hc⟩
    · rw [hn]; exact fun t ht => absurd ht List.not_mem_nil
    · intro t ht
      obtain ⟨j, hj, rfl⟩ := List.getElem_of_mem ht
      obtain ⟨c, _, ⟨_, q⟩, _⟩ := hc j _ (List.getElem?_eq_getElem hj)
      exact q
  refine ⟨l, ?_, hin, h3.imp id fun ⟨elems, sp, a, b, c⟩ => ⟨elems, sp, a, b, fun t ht => ?_⟩⟩
  · obtain ⟨hat⟩ := hl
    rcases hat with ⟨⟨a, c, e⟩, hn⟩ | ⟨bk, o, cp, e, hle, hbk, hc⟩
    · cases e
      exact ⟨.inl ⟨⟨_, _, rfl⟩, hn⟩, _, _, _, rfl, h1, h2⟩
    · cases e
      refine ⟨.inr ⟨bk, o, cap, rfl, hbk, fun j t hj r u hu => ?_⟩, _, _, _, rfl, h1, h2⟩
      obtain ⟨cs, _, ⟨rfl, _⟩, q⟩ := hc j t hj
      exact q r u hu
  · obtain ⟨d, hd, rfl⟩ := c t ht
    exact hd

theorem weights_all {P : Program} {e : TypeId} : ∀ {elems : List (DataW H)} {d : DataW H}, d ∈ elems → ∀ n ∈ d.weights P e, n ∈ DataW.weightsAll P e elems
  | [], d, h, _, _ => absurd h List.not_mem_nil
  | x :: l, d, h, n, hn => by
    rw [DataW.weightsAll, List.mem_append]
    rcases List.mem_cons.1 h with rfl | h
    · exact .inl hn
    · exact .inr (weights_all h n hn)

theorem sized_items {ts : List TypeId} {ds : List (DataW H)} (h : (DataW.weightsEach Tryz.prog ts ds).all (· ≤ reachBytes) = true) {j : Nat} {l : List Im} {elems sp : List (DataW H)} (ht : ts[j]? = some 26) (hd : ds[j]? = some (.slice elems sp)) (hm : ∀ t ∈ l, itD H t ∈ elems) (hin : ∀ t ∈ l, ImIn t) : ∀ t ∈ l, t.Ok := by
  intro t htl
  obtain ⟨f0, f1, f2, f3, f4, hu, e0, _, e1, _, e2, _, e3, _, e4, _⟩ := it_fields
  have hall : ∀ n ∈ (itD H t).weights Tryz.prog 46, n ≤ reachBytes := fun n hn => by
    have := List.all_eq_true.1 h n (DataW.weights_mem_each ht hd n (by
      rw [DataW.weights, Tryz.underlying26]
      exact List.mem_cons_of_mem _ (List.mem_append_left _ (weights_all (hm t htl) n hn))))
    simpa using this
  have hp := hall t.path.data.toList.length (by simp [itD, DataW.weights, DataW.weightsEach, hu])
  have hb := hall t.bytes.data.toList.length (by simp [itD, DataW.weights, DataW.weightsEach, hu])
  simp only [reachBytes] at hp hb
  exact ⟨by rw [Lib.size_eq]; exact hp, by rw [Lib.size_eq]; exact hb, (hin t htl).2.2⟩

theorem in_bulk {elems : List (DataW H)} {d : DataW H} (h : d ∈ elems) : Rows.uptoBulk d ≤ Rows.uptoBulkAll elems := by
  induction elems with
  | nil => exact (List.not_mem_nil h).elim
  | cons e l ih =>
    rw [Rows.uptoBulkAll]
    rcases List.mem_cons.1 h with rfl | h
    · omega
    · have := ih h; omega

theorem bulk_items {l : List Im} {elems : List (DataW H)} (h : ∀ t ∈ l, itD H t ∈ elems) : ∀ x ∈ l, x.path.size ≤ Rows.uptoBulkAll elems ∧ x.bytes.size ≤ Rows.uptoBulkAll elems := fun x hx => by
  have h1 := in_bulk (h x hx)
  have h2 : x.path.data.toList.length + x.bytes.data.toList.length ≤ Rows.uptoBulk (itD H x) := by
    simp only [itD, Rows.uptoBulk, Rows.uptoBulkAll]
    omega
  rw [Lib.size_eq, Lib.size_eq]
  omega

end

end Go.Proofs.YtimdioacmojkeaaGreatDoor

namespace Go.Proofs.YtimdioacmojkeaaGreatDoor
open Go.RowKit

theorem first_laid : Rows.laid_unicode_utf8_first = Lib.firstData := by kernel_rfl
theorem accept_laid : (Rows.laid_unicode_utf8_acceptRanges : DataW Unit) = Lib.acceptData := by kernel_rfl
theorem laid_plain {P : Program} {l : List (String × DataW Unit)} {W : World} (h : laidMetH P l W) (hp : (l.filter fun x => x.2.handleName?.isSome) = []) : laidMet P l W := by
  unfold laidMetH at h
  rw [hp] at h
  exact h

/-- the two tables, off what the rows list -/
theorem tabs_of {W : World} (hL : laidMetH Tryz.prog Rows.walkPlantsRow.laid W) : Tabs W := by
  have hM := laid_plain hL (by kernel_rfl)
  refine utf8Tabs_of_readsT (P := Tryz.prog) (ρ := Tryz.laysValid_ren) (U8Types.of196 Tryz.laysValid) ⟨by kernel_rfl, by kernel_rfl, by kernel_rfl, by kernel_rfl, by kernel_rfl, by kernel_rfl, by kernel_rfl⟩ ?_ ?_
  · rw [← first_laid]
    exact Lib.laidMet.reads hM (by simp [Rows.walkPlantsRow])
  · rw [← accept_laid]
    exact Lib.laidMet.reads hM (by simp [Rows.walkPlantsRow])
/-- a text of a list is no longer than the list's bulk -/
theorem bulk_strs {H : Type} : ∀ (l : List ByteArray), ∀ s ∈ l, s.size ≤ Rows.uptoBulkAll (ChangeShapes.strs l : List (DataW H))
  | [], s, hs => (List.not_mem_nil hs).elim
  | t :: l, s, hs => by
    show _ ≤ Rows.uptoBulkAll (DataW.lit (.string t.data.toList) :: (ChangeShapes.strs l : List (DataW H)))
    rw [Rows.uptoBulkAll, Rows.uptoBulk]
    rcases List.mem_cons.1 hs with rfl | hs
    · rw [Lib.size_eq]; omega
    · have := bulk_strs (H := H) l s hs; omega
end Go.Proofs.YtimdioacmojkeaaGreatDoor
