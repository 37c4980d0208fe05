/-
  A Bloom and a list of IDs handed in and read as data: opened, and shut.
-/
import Derived.Test.YtpagbihebahnnaaRxOpen
import Derived.Test.YtpagbihebahnnaaBlMem
namespace Go.Proofs.Ytpagbihebahnnaa
open Go.RowKit Go.ChangeShapes Go.WideShapes Go.Deep Go.Joins
set_option maxRecDepth 20000

section
variable {H : Type} {enc : TypeId × Value → H} {w : World} {base : Nat} {spare : Nat → Bool} {held : Bool}

def wdD (H : Type) (n : Nat) : DataW H := .lit (.int .u64 (n : Int))

theorem ce_blm : Try.prog.cellsOf 24 = 16 := by kernel_rfl

theorem ce_u64 : Try.prog.cellsOf 22 = 1 := by kernel_rfl

theorem wf_wd {n : Int} (h : (Lit.int .u64 n).wf = true) : ∃ m : Nat, n = (m : Int) ∧ m < 18446744073709551616 := by
  simp [Lit.wf, IntKind.min, IntKind.max, IntKind.signed, IntKind.bits] at h
  exact ⟨n.toNat, by omega, by omega⟩

theorem wd_opened : ∀ (cs : List Value) (xs : List (DataW H × List MemPlace)), xs.length = cs.length →
    (∀ j, j < cs.length → ∃ m, DataW.trod enc Try.prog w base spare held m 22 ((cs.drop j).take 1) = xs[j]?) → ∃ l : List Nat, cs = l.map U ∧ xs = l.map (fun b => (wdD H b, [])) ∧ ∀ n ∈ l, n < 18446744073709551616
  | [], [], _, _ => ⟨[], rfl, rfl, fun n hn => by simp at hn⟩
  | c :: cs, x :: xs, hl, h => by
    obtain ⟨m, h0⟩ := h 0 (by simp)
    obtain ⟨n, hc, hx, hw⟩ := DataW.trod_int Try.underlying22 (show DataW.trod enc Try.prog w base spare held m 22 [c] = some x from by simpa using h0)
    obtain ⟨b, rfl, hb⟩ := wf_wd hw
    obtain ⟨l, hcs, hxs, hlt⟩ := wd_opened cs xs (by simpa using hl) (fun j hj => by
      obtain ⟨m, hm⟩ := h (j + 1) (by simpa using hj)
      exact ⟨m, by simpa using hm⟩)
    refine ⟨b :: l, ?_, ?_, fun n hn => ?_⟩
    · rw [List.map_cons, ← hcs]
      have : c = .int .u64 (b : Int) := by simpa using hc
      rw [this]; rfl
    · rw [List.map_cons, ← hxs, hx]; rfl
    · rcases List.mem_cons.1 hn with e | e
      · rw [e]; exact hb
      · exact hlt n e

theorem open_blm {r : Reach} {b0 : Nat} {v : Value} {d : DataW H} {p : List MemPlace} (hv : Value.okWide Try.prog w r b0 24 v) (h : DataW.Trod enc Try.prog w base spare held 24 v d p) :
    ∃ l : List Nat, v = .agg (blmC l).toArray ∧ d = .agg (l.map (wdD H)) ∧ p = [] ∧ Bm.Ok l := by
  obtain ⟨cs, rfl, hsz⟩ := okWide_arr (show Try.prog.underlying 24 = some (.array 16 22) from by kernel_rfl) hv
  rw [ce_blm] at hsz
  obtain ⟨fuel, hf⟩ := h
  obtain ⟨xs, m, rfl, hx, _, hxl, hxs⟩ := DataW.trod_array (show Try.prog.underlying 24 = some (.array 16 22) from by kernel_rfl) hf
  simp only [ce_u64, Nat.mul_one] at hxs
  have hc : cs.toList.length = 16 := by simpa using hsz
  obtain ⟨l, hl, hxl2, hlt⟩ := wd_opened (enc := enc) (w := w) (base := base) (spare := spare) (held := held) cs.toList xs (by rw [hxl, hc]) (fun j hj => ⟨m, hxs j (by omega)⟩)
  obtain ⟨rfl, rfl⟩ := Prod.mk.inj hx
  refine ⟨l, ?_, ?_, ?_, ?_, hlt⟩
  · have : cs.toList = l.map U := hl
    rw [blmC, ← this]
  · rw [hxl2]; simp [List.map_map, Function.comp_def]
  · rw [hxl2]; simp
  · rw [← List.length_map (f := U), ← hl]; exact hc

theorem shut_blm {l : List Nat} (hl : Bm.Ok l) : DataW.Trod enc Try.prog w base spare held 24 (.agg (blmC l).toArray) (.agg (l.map (wdD H))) [] := by
  have hb : ∀ n ∈ l, (Lit.int .u64 (n : Int)).wf = true := fun n hn => by
    have := hl.lt n hn
    simp [Lit.wf, IntKind.min, IntKind.max, IntKind.signed, IntKind.bits]; omega
  refine ⟨2, ?_⟩
  have := trod_arr_mk (enc := enc) (w := w) (base := base) (spare := spare) (held := held) (m := 1) (cs := blmC l) (xs := l.map (fun b => (wdD H b, ([] : List MemPlace)))) (show Try.prog.underlying 24 = some (.array 16 22) from by kernel_rfl) (by rw [ce_blm, blmC_length hl]) (by rw [List.length_map, hl.len]) (fun j hj => by
    rw [ce_u64, Nat.mul_one]
    have hjl : j < l.length := by rw [hl.len]; exact hj
    rw [List.getElem?_map, List.getElem?_eq_getElem hjl]
    have hd : ((blmC l).drop j).take 1 = [U l[j]] := by
      rw [blmC, List.drop_eq_getElem_cons (by rw [List.length_map]; exact hjl), List.getElem_map]; rfl
    rw [hd]
    exact trod_int_mk 0 Try.underlying22 (hb _ (List.getElem_mem hjl)))
  have e : (l.map (fun b => (wdD H b, ([] : List MemPlace)))).flatMap (·.2) = [] := by
    rw [List.flatMap_map]; simp
  rw [e, List.map_map] at this
  exact this

/-- rows of IDs -/
theorem open_ids {fuel : Nat} {sa : Option Addr} {len cap : Nat} {x : DataW H × List MemPlace} (h : DataW.trod enc Try.prog w base spare held fuel 35 [.slice sa len cap] = some x) (hlt : ∀ y ∈ x.2, y.block < w.heap.size) :
    ∃ l : List (List UInt8), Rx 8 idC w (.slice sa len cap) l ∧ (∀ b ∈ l, b.length = 8) ∧ (l.length = 0 ∨ ∃ elems sp, x.1 = .slice elems sp ∧ l.length = elems.length) := by
  obtain ⟨l, hr, _, hs⟩ := open_rows (α := { x : List UInt8 // x.length = 8 }) (k := 8) (C := fun x => idC x.1) (q := fun _ => True) Try.underlying35 ce_id (by omega) (fun t => by rw [idC, List.length_map, t.2])
    (fun n cs x hc ho => by
      obtain ⟨l, hl, hcs, _⟩ := open_id8 hc ho
      exact ⟨⟨l, hl⟩, hcs, trivial⟩) h hlt
  refine ⟨l.map (·.1), ⟨?_, hr.room⟩, fun b hb => ?_, by rw [List.length_map]; exact hs⟩
  · rcases hr.at_ with ⟨h1, rfl⟩ | ⟨bk, o, cp, h1, h2, h3⟩
    · exact .inl ⟨h1, rfl⟩
    · refine .inr ⟨bk, o, cp, by rw [List.length_map]; exact h1, h2, fun j t hj r u hu => ?_⟩
      rw [List.getElem?_map] at hj
      cases e : l[j]? with
      | none => rw [e] at hj; simp at hj
      | some q =>
        rw [e] at hj
        obtain rfl : q.1 = t := by simpa using hj
        exact h3 j q e r u hu
  · obtain ⟨q, _, rfl⟩ := List.mem_map.1 hb
    exact q.2

end

end Go.Proofs.Ytpagbihebahnnaa
