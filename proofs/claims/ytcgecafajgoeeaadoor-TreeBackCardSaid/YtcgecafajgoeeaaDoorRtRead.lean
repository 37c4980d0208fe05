/-
  lumref: what nodeRead answers.
-/
import Derived.Test.YtcgecafajgoeeaaDoorRtNodes
import Derived.Test.YtcgecafajgoeeaaDoorRtNum
import Derived.Test.YtcgecafajgoeeaaDoorRefText
import Derived.Test.YtcgecafajgoeeaaDoorRefGetIntAny
import Derived.Deep.RegionLaw
import Derived.Deep.AppendLies
import Derived.Laws.Cover3
import Derived.Lib.SliceRun
namespace Go.Proofs.YtcgecafajgoeeaaDoor
open Go.RowKit
set_option maxRecDepth 4000

/-- two nodes in blocks of their own: the answer, and the one that is filled -/
structure R2 (w W : World) (b : Nat) (x0 x1 x2 x3 x4 x5 x6 : Value) : Prop where
  res : W.heap[b]? = some (.cells #[.string ⟨#[]⟩, .int .i64 0, .int .i64 0, .int .i64 0, .int .i64 0, .slice none 0 0, .string ⟨#[]⟩] 32 (0, 0))
  str : W.heap[b + 1]? = some (.cells #[x0, x1, x2, x3, x4, x5, x6] 32 (0, 0))
  bel : Below w.heap.size w W
  at_ : w.heap.size = b
section
variable {w W W' : World} {b : Nat} {x0 x1 x2 x3 x4 x5 x6 y : Value}
theorem R2.past (h : R2 w W b x0 x1 x2 x3 x4 x5 x6) (hb : Below W.heap.size W W') : R2 w W' b x0 x1 x2 x3 x4 x5 x6 :=
  ⟨(hb.block _ (Array.getElem?_eq_some_iff.1 h.res).1).trans h.res, (hb.block _ (Array.getElem?_eq_some_iff.1 h.str).1).trans h.str, h.bel.trans (hb.mono h.bel.size), h.at_⟩
theorem R2.setAt (h : R2 w W b x0 x1 x2 x3 x4 x5 x6) (j : Nat) (y : Value) {y0 y1 y2 y3 y4 y5 y6 : Value} (e : (#[x0, x1, x2, x3, x4, x5, x6] : Array Value).setIfInBounds j y = #[y0, y1, y2, y3, y4, y5, y6]) :
    R2 w (W.setCell ⟨b + 1, j, none⟩ y) b y0 y1 y2 y3 y4 y5 y6 := by
  refine ⟨?_, ?_, h.bel.setCell (p := ⟨b + 1, j, none⟩) (by have := h.at_; simp; omega) _, h.at_⟩
  · rw [Below.heap_setCell _ _ _ _ (by simp)]; exact h.res
  · rw [← e]
    simp [World.setCell, Array.getElem?_modify, h.str]
theorem seven_fz {b : Nat} {T : TypeId} (h : W.heap[b]? = some (.cells #[x0, x1, x2, x3, x4, x5, x6] T (0, 0))) :
    W.frozen? ⟨b, 0, none⟩ = false ∧ W.frozen? ⟨b, 1, none⟩ = false ∧ W.frozen? ⟨b, 2, none⟩ = false ∧ W.frozen? ⟨b, 3, none⟩ = false ∧ W.frozen? ⟨b, 4, none⟩ = false ∧ W.frozen? ⟨b, 5, none⟩ = false ∧ W.frozen? ⟨b, 6, none⟩ = false := by
  refine ⟨?_, ?_, ?_, ?_, ?_, ?_, ?_⟩ <;> simp [World.frozen?, h]
theorem below7 (h : Below w.heap.size w W) (hM : w.heap.size = b) (x0 x1 x2 x3 x4 x5 x6 : Value) :
    Below w.heap.size w (((((((W.setCell ⟨b, 0, none⟩ x0).setCell ⟨b, 1, none⟩ x1).setCell ⟨b, 2, none⟩ x2).setCell ⟨b, 3, none⟩ x3).setCell ⟨b, 4, none⟩ x4).setCell ⟨b, 5, none⟩ x5).setCell ⟨b, 6, none⟩ x6) :=
  ((((((h.setCell (p := ⟨b, 0, none⟩) (Nat.le_of_eq hM) x0).setCell (p := ⟨b, 1, none⟩) (Nat.le_of_eq hM) x1).setCell (p := ⟨b, 2, none⟩) (Nat.le_of_eq hM) x2).setCell (p := ⟨b, 3, none⟩) (Nat.le_of_eq hM) x3).setCell (p := ⟨b, 4, none⟩) (Nat.le_of_eq hM) x4).setCell (p := ⟨b, 5, none⟩) (Nat.le_of_eq hM) x5).setCell (p := ⟨b, 6, none⟩) (Nat.le_of_eq hM) x6
end
/-- what nodeRead answers -/
def RdOut (s : ByteArray) (w : World) (e : Ending) (w' : World) : Prop :=
  Below w.heap.size w w' ∧
  (((Td.rdOne s.data.toList).2.2 ≠ 0 ∧ ∃ (n : Nod) (a : Option Addr) (m c : Nat), e = .returned (.tuple #[ndV n (.slice a m c), .string ⟨#[]⟩, .int .i64 (Td.rdOne s.data.toList).2.2])) ∨
   ∃ (n : Nod) (v : Value), (Td.rdOne s.data.toList) = (n.nd, (Td.rdOne s.data.toList).2.1, 0) ∧ e = .returned (.tuple #[ndV n v, .string ⟨(Td.rdOne s.data.toList).2.1.toArray⟩, .int .i64 0]) ∧ Rx 8 idC w' v n.parts ∧
    (∀ a m c, v = .slice (some a) m c → ∃ cur fr, w'.heap[a.block]? = some (.cells cur 49 fr)) ∧ n.Ok ∧ n.name.size ≤ 1024)
theorem ext_str (s : ByteArray) (k : Nat) : s.extract k s.size = ⟨(s.data.toList.drop k).toArray⟩ := by
  apply ByteArray.ext
  apply Array.toList_inj.1
  rw [Nn.ext_drop']

/-! the reading in stages -/
namespace Td
def rdK (t : Bs) (kd md : Nat) (i : Int) (sz np : Nat) (l : Bs) : Nd × Bs × Int :=
  if l.length < 8 * np then (nd0, [], 3) else
  let k := Nm.getT (l.drop (8 * np))
  if k.2.2 ≠ 0 then (nd0, [], k.2.2) else
  (⟨t, kd, md, i, sz, eights np l, k.1⟩, (l.drop (8 * np)).drop k.2.1, 0)
def rdP (t : Bs) (kd md : Nat) (i : Int) (sz : Nat) (l : Bs) : Nd × Bs × Int := let p := num 300 l; if p.2.2 ≠ 0 then (nd0, [], p.2.2) else rdK t kd md i sz p.1 p.2.1
def rdZ (t : Bs) (kd md : Nat) (i : Int) (l : Bs) : Nd × Bs × Int := let z := num 4096 l; if z.2.2 ≠ 0 then (nd0, [], z.2.2) else rdP t kd md i z.1 z.2.1
def rdI (t : Bs) (kd md : Nat) (l : Bs) : Nd × Bs × Int := let i := Nm.getI l; if i.2.2 ≠ 0 then (nd0, [], i.2.2) else rdZ t kd md i.1 (l.drop i.2.1)
def rdM (t : Bs) (kd : Nat) (l : Bs) : Nd × Bs × Int := let m := num 511 l; if m.2.2 ≠ 0 then (nd0, [], m.2.2) else rdI t kd m.1 m.2.1
theorem rdOne_M {s t : Bs} {kt : Nat} (h1 : Nm.getT s = (t, kt, 0)) (h2 : s.drop kt ≠ []) : rdOne s = rdM t ((s.drop kt).headD 0).toNat (s.drop kt).tail := by
  unfold rdOne
  rw [h1]
  simp only [ne_eq, not_true, if_false, if_neg h2]
  rfl
theorem num_len (most : Nat) (s : Bs) : (num most s).2.1.length ≤ s.length := by
  unfold num
  simp only
  split
  · simp
  · split
    · simp
    · simp
theorem num_most {most : Nat} {s : Bs} {n : Nat} {r : Bs} {e : Int} (h : num most s = (n, r, e)) : n ≤ most := by
  unfold num at h
  simp only at h
  split at h
  · have := congrArg (fun q => q.1) h
    simp at this
    omega
  · split at h
    · have := congrArg (fun q => q.1) h
      simp at this
      omega
    · have := congrArg (fun q => q.1) h
      simp at this
      omega
theorem num_zero {most : Nat} {s : Bs} {n : Nat} {r : Bs} {e : Int} (h : num most s = (n, r, e)) (he : e ≠ 0) : r = [] := by
  unfold num at h
  simp only at h
  split at h
  · exact (congrArg (fun q => q.2.1) h).symm
  · split at h
    · exact (congrArg (fun q => q.2.1) h).symm
    · exact absurd (congrArg (fun q => q.2.2) h).symm he
theorem rdM_err {t l r : Bs} {kd n : Nat} {e : Int} (h : num 511 l = (n, r, e)) (he : e ≠ 0) : (rdM t kd l).2.2 = e := by unfold rdM; rw [h]; simp only [if_pos he]
theorem rdM_ok {t l r : Bs} {kd n : Nat} (h : num 511 l = (n, r, 0)) : rdM t kd l = rdI t kd n r := by unfold rdM; rw [h]; simp only [ne_eq, not_true, if_false]
theorem rdI_err {t l : Bs} {kd md k : Nat} {i e : Int} (h : Nm.getI l = (i, k, e)) (he : e ≠ 0) : (rdI t kd md l).2.2 = e := by unfold rdI; rw [h]; simp only [if_pos he]
theorem rdI_ok {t l : Bs} {kd md k : Nat} {i : Int} (h : Nm.getI l = (i, k, 0)) : rdI t kd md l = rdZ t kd md i (l.drop k) := by unfold rdI; rw [h]; simp only [ne_eq, not_true, if_false]
theorem rdZ_err {t l r : Bs} {kd md n : Nat} {i e : Int} (h : num 4096 l = (n, r, e)) (he : e ≠ 0) : (rdZ t kd md i l).2.2 = e := by unfold rdZ; rw [h]; simp only [if_pos he]
theorem rdZ_ok {t l r : Bs} {kd md n : Nat} {i : Int} (h : num 4096 l = (n, r, 0)) : rdZ t kd md i l = rdP t kd md i n r := by unfold rdZ; rw [h]; simp only [ne_eq, not_true, if_false]
theorem rdP_err {t l r : Bs} {kd md sz n : Nat} {i e : Int} (h : num 300 l = (n, r, e)) (he : e ≠ 0) : (rdP t kd md i sz l).2.2 = e := by unfold rdP; rw [h]; simp only [if_pos he]
theorem rdP_ok {t l r : Bs} {kd md sz n : Nat} {i : Int} (h : num 300 l = (n, r, 0)) : rdP t kd md i sz l = rdK t kd md i sz n r := by unfold rdP; rw [h]; simp only [ne_eq, not_true, if_false]
theorem rdK_short {t l : Bs} {kd md sz np : Nat} {i : Int} (h : l.length < 8 * np) : (rdK t kd md i sz np l).2.2 = 3 := by unfold rdK; rw [if_pos h]
theorem rdK_err {t l k : Bs} {kd md sz np kk : Nat} {i e : Int} (h : ¬ l.length < 8 * np) (hk : Nm.getT (l.drop (8 * np)) = (k, kk, e)) (he : e ≠ 0) : (rdK t kd md i sz np l).2.2 = e := by unfold rdK; rw [if_neg h, hk]; simp only [if_pos he]
theorem rdK_ok {t l k : Bs} {kd md sz np kk : Nat} {i : Int} (h : ¬ l.length < 8 * np) (hk : Nm.getT (l.drop (8 * np)) = (k, kk, 0)) : rdK t kd md i sz np l = (⟨t, kd, md, i, sz, eights np l, k⟩, (l.drop (8 * np)).drop kk, 0) := by
  unfold rdK; rw [if_neg h, hk]; simp only [ne_eq, not_true, if_false]
theorem eights_more : ∀ (j : Nat) (l : Bs), eights (j + 1) l = eights j l ++ [(l.drop (8 * j)).take 8]
  | 0, l => rfl
  | j + 1, l => by
    rw [eights, eights_more j (l.drop 8), List.drop_drop, show 8 + 8 * j = 8 * (j + 1) from by omega]
    rfl
end Td
theorem eight_of8 {t : List UInt8} (h : t.length = 8) : ∃ b0 b1 b2 b3 b4 b5 b6 b7, t = [b0, b1, b2, b3, b4, b5, b6, b7] := by
  match t, h with
  | [b0, b1, b2, b3, b4, b5, b6, b7], _ => exact ⟨b0, b1, b2, b3, b4, b5, b6, b7, rfl⟩
theorem own_ge {base : Nat} {e : TypeId} {k : Nat} {v : Value} {n : Nat} {xs : List Value} {w : World} (h : w.ownsRow base e k v n xs) {g : Nat} (hg : v.ownBlock = some g) : base ≤ g := by
  obtain ⟨_, _, q, _⟩ := own_block h hg
  exact q
theorem own_more8 {w : World} {b n : Nat} {v : Value} {es es' : List (List UInt8)} {x : List UInt8} (h : w.ownsRow (b + 2) 49 8 v n (rowR idC es ++ idC x)) (he : es' = es ++ [x]) (y : Value) :
    (w.setCell ⟨b + 1, 5, none⟩ y).ownsRow (b + 2) 49 8 v n (rowR idC es') := by
  subst he
  rw [rowR_more]
  exact own_kept h ((Kept.refl (fun k => k ≠ b + 1) w).setCell (by simp) _) fun g hg => by have := own_ge h hg; omega
theorem rx_sub {w : World} {v : Value} {L : List { x : List UInt8 // x.length = 8 }} (hr : Rx 8 (fun x : { x : List UInt8 // x.length = 8 } => idC x.1) w v L) : Rx 8 idC w v (L.map (·.1)) := by
  refine ⟨?_, hr.room⟩
  rcases hr.at_ with ⟨h1, rfl⟩ | ⟨bk, o, cp, h1, h2, h3⟩
  · exact .inl ⟨h1, rfl⟩
  · refine .inr ⟨bk, o, cp, by rw [List.length_map]; exact h1, h2, fun j t hj r u hu => ?_⟩
    rw [List.getElem?_map] at hj
    cases e : L[j]? with
    | none => rw [e] at hj; simp at hj
    | some q =>
      rw [e] at hj
      obtain rfl : q.1 = t := by simpa using hj
      exact h3 j q e r u hu
theorem rx_own {base : Nat} {w : World} {v : Value} {n : Nat} {l : List (List UInt8)} (h : w.ownsRow base 49 8 v n (rowR idC l)) (hn : l.length = n) (h8 : ∀ t ∈ l, t.length = 8) : Rx 8 idC w v l := by
  obtain ⟨L, rfl⟩ : ∃ L : List { x : List UInt8 // x.length = 8 }, l = L.map (·.1) := ⟨l.attach.map (fun x => ⟨x.1, h8 x.1 x.2⟩), by simp [List.map_map, Function.comp_def]⟩
  refine rx_sub (Rx.of_own (base := base) (T := 49) (fun t => by rw [idC, List.length_map, t.2]) ?_)
  have e : rowR (fun x : { x : List UInt8 // x.length = 8 } => idC x.1) L = rowR idC (L.map (·.1)) := by simp [rowR]
  rw [e]
  rw [List.length_map] at hn
  rw [hn]
  exact h
theorem own_type {base n k : Nat} {T : TypeId} {w : World} {v : Value} {xs : List Value} (h : w.ownsRow base T k v n xs) : ∀ a m c, v = .slice (some a) m c → ∃ cur fr, w.heap[a.block]? = some (.cells cur T fr) := by
  intro a m c e
  rcases h.2 with ⟨rfl, _⟩ | ⟨g, cap, cur, rfl, hg, hh, _⟩
  · cases e
  · cases e
    exact ⟨_, _, hh⟩
theorem kept7 (W : World) (b : Nat) (x0 x1 x2 x3 x4 x5 x6 : Value) : Kept (fun k => k ≠ b) W (((((((W.setCell ⟨b, 0, none⟩ x0).setCell ⟨b, 1, none⟩ x1).setCell ⟨b, 2, none⟩ x2).setCell ⟨b, 3, none⟩ x3).setCell ⟨b, 4, none⟩ x4).setCell ⟨b, 5, none⟩ x5).setCell ⟨b, 6, none⟩ x6) :=
  (((((((Kept.refl (fun k => k ≠ b) W).setCell (a := ⟨b, 0, none⟩) (by simp) x0).setCell (a := ⟨b, 1, none⟩) (by simp) x1).setCell (a := ⟨b, 2, none⟩) (by simp) x2).setCell (a := ⟨b, 3, none⟩) (by simp) x3).setCell (a := ⟨b, 4, none⟩) (by simp) x4).setCell (a := ⟨b, 5, none⟩) (by simp) x5).setCell (a := ⟨b, 6, none⟩) (by simp) x6
theorem wf_i {n : Int} (h0 : -9223372036854775808 ≤ n) (h1 : n ≤ 9223372036854775807) : (Lit.int .i64 n).wf = true := by
  simp [Lit.wf, IntKind.min, IntKind.max, IntKind.signed, IntKind.bits]
  omega
theorem R2.grown {w W W' : World} {b : Nat} {x0 x1 x2 x3 x4 x5 x6 : Value} {row : Option Nat} (h : R2 w W b x0 x1 x2 x3 x4 x5 x6) (hg : W.grownBy W' row) (hr : ∀ g, row = some g → b + 2 ≤ g) : R2 w W' b x0 x1 x2 x3 x4 x5 x6 :=
  ⟨(hg.block b (Array.getElem?_eq_some_iff.1 h.res).1 fun e => by have := hr b e.symm; omega).trans h.res, (hg.block (b + 1) (Array.getElem?_eq_some_iff.1 h.str).1 fun e => by have := hr (b + 1) e.symm; omega).trans h.str,
    h.bel.grown hg h.bel.size fun g hgb => by have := hr g hgb; have := h.at_; omega, h.at_⟩
theorem info_id : (Tryd.prog.info? 49).map (fun i => (i.zero, i.size, i.bytes)) = some (some (.agg #[.int .u8 0, .int .u8 0, .int .u8 0, .int .u8 0, .int .u8 0, .int .u8 0, .int .u8 0, .int .u8 0]), 8, 8) := by kernel_rfl
theorem eight_new (W : World) (v0 v1 v2 v3 v4 v5 v6 v7 : Value) {T : TypeId} : ∀ j u, [v0, v1, v2, v3, v4, v5, v6, v7][j]? = some u → (W.alloc (.cells #[v0, v1, v2, v3, v4, v5, v6, v7] T)).cell? ((⟨W.heap.size, 0, none⟩ : Addr).add j) = some u := by
  intro j u hj
  rw [show ((⟨W.heap.size, 0, none⟩ : Addr).add j) = ⟨W.heap.size, j, none⟩ from by unfold Addr.add; split <;> simp_all]
  match j, hj with
  | 0, hj => simp at hj; subst hj; simp
  | 1, hj => simp at hj; subst hj; simp
  | 2, hj => simp at hj; subst hj; simp
  | 3, hj => simp at hj; subst hj; simp
  | 4, hj => simp at hj; subst hj; simp
  | 5, hj => simp at hj; subst hj; simp
  | 6, hj => simp at hj; subst hj; simp
  | 7, hj => simp at hj; subst hj; simp
theorem R2.drew {w W : World} {b : Nat} {x0 x1 x2 x3 x4 x5 x6 : Value} (h : R2 w W b x0 x1 x2 x3 x4 x5 x6) : R2 w W.drew b x0 x1 x2 x3 x4 x5 x6 := ⟨h.res, h.str, h.bel.drew, h.at_⟩

set_option maxHeartbeats 8000000 in
set_option maxRecDepth 10000 in
theorem nodeRead_any (s : ByteArray) (w : World) (hs : s.size ≤ 4194304) : Calls Tryd.prog 27 #[.string s] w (RdOut s w) := by
  unfold RdOut
  obtain ⟨R, hR⟩ : ∃ R, Td.rdOne s.data.toList = R := ⟨_, rfl⟩
  have HR : Hid (Td.rdOne s.data.toList = R) := hR
  rw [hR]
  clear hR
  obtain ⟨W0, hW0⟩ : ∃ W0, W0 = (w.alloc (.cells #[.string ⟨#[]⟩, .int .i64 0, .int .i64 0, .int .i64 0, .int .i64 0, .slice none 0 0, .string ⟨#[]⟩] 32)).alloc (.cells #[.string ⟨#[]⟩, .int .i64 0, .int .i64 0, .int .i64 0, .int .i64 0, .slice none 0 0, .string ⟨#[]⟩] 32) := ⟨_, rfl⟩
  have HA : Hid (R2 w W0 w.heap.size (.string ⟨#[]⟩) (.int .i64 0) (.int .i64 0) (.int .i64 0) (.int .i64 0) (.slice none 0 0) (.string ⟨#[]⟩)) := by
    rw [hW0]
    refine ⟨?_, ?_, ((Below.refl _ w).alloc (Nat.le_refl _) _).alloc (by simp) _, rfl⟩
    · exact ((Below.refl _ (w.alloc (.cells #[.string ⟨#[]⟩, .int .i64 0, .int .i64 0, .int .i64 0, .int .i64 0, .slice none 0 0, .string ⟨#[]⟩] 32))).alloc (Nat.le_refl _) _).block w.heap.size (by simp) ▸ heap_alloc_new w _
    · have := heap_alloc_new (w.alloc (.cells #[.string ⟨#[]⟩, .int .i64 0, .int .i64 0, .int .i64 0, .int .i64 0, .slice none 0 0, .string ⟨#[]⟩] 32)) (.cells #[.string ⟨#[]⟩, .int .i64 0, .int .i64 0, .int .i64 0, .int .i64 0, .slice none 0 0, .string ⟨#[]⟩] 32)
      simpa using this
  have hgt := rgetT_any s W0 (by omega)
  rcases hT : Nm.getT s.data.toList with ⟨t, kt, et⟩
  rw [hT] at hgt
  have HT : Hid (Nm.getT s.data.toList = (t, kt, et)) := hT
  clear hT
  obtain ⟨b, hb⟩ : ∃ b, b = w.heap.size := ⟨_, rfl⟩
  rw [← hb] at HA
  go_enter Tryd.func27, Tryd.ntmps27
  go_upto_region 2 with fail
  rw [← hW0, ← hb]
  clear hW0 hb
  go_wp2_with fail
  refine hgt.mono ?_
  rintro e u ⟨rfl, hu⟩
  obtain rfl := hu.symm
  clear hgt hu
  by_cases h1 : et ≠ 0
  · have hqn : (et != 0) = true := by rw [bne_iff_ne]; exact h1
    have HE : Hid (R.2.2 = et) := by
      show _ = _
      rw [← HR.out, Td.rdOne, HT.out]
      simp only [if_pos h1]
    obtain ⟨m0, m1, m2, m3, m4, m5, m6⟩ := seven_at HA.out.str
    obtain ⟨r0, r1, r2, r3, r4, r5, r6⟩ := seven_at HA.out.res
    obtain ⟨f0, f1, f2, f3, f4, f5, f6⟩ := seven_fz HA.out.res
    go_wp2_with fail
    refine bodyPost_ret (v := .tuple #[.agg #[.string ⟨#[]⟩, .int .i64 0, .int .i64 0, .int .i64 0, .int .i64 0, .slice none 0 0, .string ⟨#[]⟩], .string ⟨#[]⟩, .int .i64 et]) ?_ rfl ⟨below7 HA.out.bel HA.out.at_ _ _ _ _ _ _ _, .inl ⟨by rw [HE.out]; exact h1, ⟨⟨#[]⟩, 0, 0, 0, 0, [], ⟨#[]⟩⟩, none, 0, 0, by rw [HE.out]⟩⟩
    simp [results, asAddr, go_sem, r0, r1, r2, r3, r4, r5, r6]
  obtain rfl := Decidable.not_not.mp h1
  clear h1
  have hkt : kt ≤ s.size := by
    have := (Nm.getT_one HT.out).1
    rwa [← Lib.size_eq] at this
  have htl : t.length ≤ 1024 := (Nm.getT_one HT.out).2.1
  obtain ⟨s1, hs1⟩ : ∃ s1, s1 = s.extract kt s.size := ⟨_, rfl⟩
  have HS1 : Hid (s1.data.toList = s.data.toList.drop kt) := by show _ = _; rw [hs1, Nn.ext_drop']
  have hs1z : s1.size ≤ 4194304 := by rw [hs1, ByteArray.size_extract]; omega
  have hkt' : (kt : Int) ≤ (s.size : Int) := by omega
  by_cases h2 : s1.data.toList = []
  · have h2' := of_data h2
    have HE : Hid (R.2.2 = 3) := by
      show _ = _
      rw [← HR.out, Td.rdOne, HT.out]
      simp only [ne_eq, not_true, if_false, ← HS1.out, if_pos h2]
    rw [hs1] at h2'
    clear h2
    obtain ⟨m0, m1, m2, m3, m4, m5, m6⟩ := seven_at HA.out.str
    obtain ⟨r0, r1, r2, r3, r4, r5, r6⟩ := seven_at HA.out.res
    obtain ⟨f0, f1, f2, f3, f4, f5, f6⟩ := seven_fz HA.out.res
    go_wp2_with fail
    refine bodyPost_ret (v := .tuple #[.agg #[.string ⟨#[]⟩, .int .i64 0, .int .i64 0, .int .i64 0, .int .i64 0, .slice none 0 0, .string ⟨#[]⟩], .string ⟨#[]⟩, .int .i64 3]) ?_ rfl ⟨below7 HA.out.bel HA.out.at_ _ _ _ _ _ _ _, .inl ⟨by rw [HE.out]; exact by decide, ⟨⟨#[]⟩, 0, 0, 0, 0, [], ⟨#[]⟩⟩, none, 0, 0, by rw [HE.out]⟩⟩
    simp [results, asAddr, go_sem, r0, r1, r2, r3, r4, r5, r6]
  have hs1' := hs1.symm
  clear hs1
  have e1 : (s1.toList == []) = false := data_ne h2
  have hp0 : 0 < s1.size := by rw [Lib.size_eq]; exact List.length_pos_iff.2 h2
  obtain ⟨c0, hc0⟩ : ∃ c0 : Nat, s1[0].toNat = c0 := ⟨_, rfl⟩
  have hc256 : c0 < 256 := by rw [← hc0]; exact s1[0].toNat_lt
  have hwc : wrap64 (c0 : Int) = (c0 : Int) := by unfold wrap64; omega
  obtain ⟨q1, hq1⟩ : ∃ q1, s1.extract 1 s1.size = q1 := ⟨_, rfl⟩
  have hq1z : q1.size ≤ 4194304 := by rw [← hq1, ByteArray.size_extract]; omega
  have HR1 : Hid (R = Td.rdM t c0 q1.data.toList) := by
    show _ = _
    rw [← HR.out, Td.rdOne_M HT.out (by rw [← HS1.out]; exact h2), ← HS1.out, ← hq1, Nn.ext_drop', List.drop_one, ← hc0]
    congr 2
    have : s1.data.toList[0]? = some s1[0] := Lib.data_getElem? s1 0 hp0
    rw [List.headD_eq_head?_getD, List.head?_eq_getElem?, this]; rfl
  obtain ⟨m0, m1, _, _, _, _, _⟩ := seven_at HA.out.str
  obtain ⟨f0, f1, _, _, _, _, _⟩ := seven_fz HA.out.str
  have HA1 := HA.out.setAt 0 (.string ⟨t.toArray⟩) rfl
  have HA1' := HA.out.setAt 1 (.int .i64 (c0 : Int)) rfl
  obtain ⟨_, n1, _, _, _, _, _⟩ := seven_at HA1.str
  obtain ⟨_, g1, _, _, _, _, _⟩ := seven_fz HA1.str
  obtain ⟨n0, _⟩ := seven_at HA1'.str
  obtain ⟨g0, _⟩ := seven_fz HA1'.str
  have HA2 : Hid (R2 w ((W0.setCell ⟨b + 1, 0, none⟩ (.string ⟨t.toArray⟩)).setCell ⟨b + 1, 1, none⟩ (.int .i64 (c0 : Int))).drew b (.string ⟨t.toArray⟩) (.int .i64 (c0 : Int)) (.int .i64 0) (.int .i64 0) (.int .i64 0) (.slice none 0 0) (.string ⟨#[]⟩)) := (HA1.setAt 1 _ rfl).drew
  clear HA1 HA1' HR HT HS1
  go_wp2_with fail
  go_region
  obtain ⟨W1, hW1⟩ : ∃ W1, W1 = ((W0.setCell ⟨b + 1, 0, none⟩ (.string ⟨t.toArray⟩)).setCell ⟨b + 1, 1, none⟩ (.int .i64 (c0 : Int))).drew := ⟨_, rfl⟩
  rw [← hW1] at HA2 ⊢
  clear hW1 m0 m1 f0 f1 n0 n1 g0 g1 HA
  have q1' : (1 : Int) ≤ (s1.size : Int) := by omega
  rcases hM : Td.num 511 q1.data.toList with ⟨md, l2, em⟩
  have hcall := numAt_any q1 511 W1 hq1z (by omega)
  rw [hM] at hcall
  have hmd : md ≤ 511 := Td.num_most hM
  have hl2 : l2.length ≤ 4194304 := by have := Td.num_len 511 q1.data.toList; rw [hM, ← Lib.size_eq] at this; simp only at this; omega
  have HM : Hid (Td.num 511 q1.data.toList = (md, l2, em)) := hM
  clear hM
  go_wp2_with fail
  refine hcall.mono ?_
  rintro e w2 ⟨rfl, b2⟩
  have HP := HA2.out.past b2
  have hmj := seven_at HP.str
  have hfj := seven_fz HP.str
  obtain ⟨c_0, c_1, c_2, c_3, c_4, c_5, c_6⟩ := hmj
  obtain ⟨z_0, z_1, z_2, z_3, z_4, z_5, z_6⟩ := hfj
  obtain ⟨WN, hWN⟩ : ∃ WN, WN = w2.setCell ⟨b + 1, 2, none⟩ (.int .i64 (md : Int)) := ⟨_, rfl⟩
  have HA : Hid (R2 w WN b (.string ⟨t.toArray⟩) (.int .i64 (c0 : Int)) (.int .i64 (md : Int)) (.int .i64 0) (.int .i64 0) (.slice none 0 0) (.string ⟨#[]⟩)) := by rw [hWN]; exact HP.setAt 2 _ rfl
  clear HP hcall b2 HA2
  go_upto_region 10 with fail
  rw [← hWN]
  clear hWN c_0 c_1 c_2 c_3 c_4 c_5 c_6 z_0 z_1 z_2 z_3 z_4 z_5 z_6 w2
  by_cases he : em ≠ 0
  · have hqn : (em != 0) = true := by rw [bne_iff_ne]; exact he
    have HE : Hid (R.2.2 = em) := by show _ = _; rw [HR1.out]; exact Td.rdM_err HM.out he
    obtain ⟨m0, m1, m2, m3, m4, m5, m6⟩ := seven_at HA.out.str
    obtain ⟨r0, r1, r2, r3, r4, r5, r6⟩ := seven_at HA.out.res
    obtain ⟨f0, f1, f2, f3, f4, f5, f6⟩ := seven_fz HA.out.res
    go_wp2_with fail
    refine bodyPost_ret (v := .tuple #[.agg #[.string ⟨t.toArray⟩, .int .i64 (c0 : Int), .int .i64 (md : Int), .int .i64 0, .int .i64 0, .slice none 0 0, .string ⟨#[]⟩], .string ⟨#[]⟩, .int .i64 em]) ?_ rfl ⟨below7 HA.out.bel HA.out.at_ _ _ _ _ _ _ _, .inl ⟨by rw [HE.out]; exact he, ⟨⟨t.toArray⟩, (c0 : Int), (md : Int), 0, 0, [], ⟨#[]⟩⟩, none, 0, 0, by rw [HE.out]⟩⟩
    simp [results, asAddr, go_sem, r0, r1, r2, r3, r4, r5, r6]
  obtain rfl := Decidable.not_not.mp he
  clear he
  have HR2 : Hid (R = Td.rdI t c0 md l2) := by show _ = _; rw [HR1.out]; exact Td.rdM_ok HM.out
  obtain ⟨s2, hs2⟩ : ∃ s2 : ByteArray, s2 = ⟨l2.toArray⟩ := ⟨_, rfl⟩
  have hd2 : s2.data.toList = l2 := by rw [hs2]
  have hs2z : s2.size ≤ 4194304 := by rw [Lib.size_eq, hd2]; exact hl2
  rw [← hs2]
  have HA2 := HA
  clear HM HR1 hq1 hq1z hs2 HA
  generalize WN = W1 at *
  rcases hI : Nm.getI s2.data.toList with ⟨tm, ki, ei⟩
  have hcall := rgetI_any s2 W1 (by omega)
  rw [hI] at hcall
  have HI : Hid (Nm.getI l2 = (tm, ki, ei)) := by show _ = _; rw [← hd2]; exact hI
  clear hI
  go_wp2_with fail
  refine hcall.mono ?_
  rintro e w2 ⟨rfl, b2⟩
  have HP := HA2.out.past b2
  have hmj := seven_at HP.str
  have hfj := seven_fz HP.str
  obtain ⟨c_0, c_1, c_2, c_3, c_4, c_5, c_6⟩ := hmj
  obtain ⟨z_0, z_1, z_2, z_3, z_4, z_5, z_6⟩ := hfj
  obtain ⟨WN, hWN⟩ : ∃ WN, WN = w2.setCell ⟨b + 1, 3, none⟩ (.int .i64 tm) := ⟨_, rfl⟩
  have HA : Hid (R2 w WN b (.string ⟨t.toArray⟩) (.int .i64 (c0 : Int)) (.int .i64 (md : Int)) (.int .i64 tm) (.int .i64 0) (.slice none 0 0) (.string ⟨#[]⟩)) := by rw [hWN]; exact HP.setAt 3 _ rfl
  clear HP hcall b2 HA2
  go_upto_region 13 with fail
  rw [← hWN]
  clear hWN c_0 c_1 c_2 c_3 c_4 c_5 c_6 z_0 z_1 z_2 z_3 z_4 z_5 z_6 w2
  by_cases he : ei ≠ 0
  · have hqn : (ei != 0) = true := by rw [bne_iff_ne]; exact he
    have HE : Hid (R.2.2 = ei) := by show _ = _; rw [HR2.out]; exact Td.rdI_err HI.out he
    obtain ⟨m0, m1, m2, m3, m4, m5, m6⟩ := seven_at HA.out.str
    obtain ⟨r0, r1, r2, r3, r4, r5, r6⟩ := seven_at HA.out.res
    obtain ⟨f0, f1, f2, f3, f4, f5, f6⟩ := seven_fz HA.out.res
    go_wp2_with fail
    refine bodyPost_ret (v := .tuple #[.agg #[.string ⟨t.toArray⟩, .int .i64 (c0 : Int), .int .i64 (md : Int), .int .i64 tm, .int .i64 0, .slice none 0 0, .string ⟨#[]⟩], .string ⟨#[]⟩, .int .i64 ei]) ?_ rfl ⟨below7 HA.out.bel HA.out.at_ _ _ _ _ _ _ _, .inl ⟨by rw [HE.out]; exact he, ⟨⟨t.toArray⟩, (c0 : Int), (md : Int), tm, 0, [], ⟨#[]⟩⟩, none, 0, 0, by rw [HE.out]⟩⟩
    simp [results, asAddr, go_sem, r0, r1, r2, r3, r4, r5, r6]
  obtain rfl := Decidable.not_not.mp he
  clear he
  have HR3 : Hid (R = Td.rdZ t c0 md tm (l2.drop ki)) := by show _ = _; rw [HR2.out]; exact Td.rdI_ok HI.out
  obtain ⟨hki, htm0, htm1, _⟩ := Nm.getI_one HI.out
  rw [← hd2, ← Lib.size_eq] at hki
  have hki' : (ki : Int) ≤ (s2.size : Int) := by omega
  obtain ⟨q3, hq3⟩ : ∃ q3, s2.extract ki s2.size = q3 := ⟨_, rfl⟩
  have hq3z : q3.size ≤ 4194304 := by rw [← hq3, ByteArray.size_extract]; omega
  have hd3 : q3.data.toList = l2.drop ki := by rw [← hq3, Nn.ext_drop', hd2]
  have HA2 := HA
  clear HI HR2 HA
  generalize WN = W1 at *
  rcases hZ : Td.num 4096 q3.data.toList with ⟨sz, l3, ez⟩
  have hcall := numAt_any q3 4096 W1 hq3z (by omega)
  rw [hZ] at hcall
  have hsz : sz ≤ 4096 := Td.num_most hZ
  have hl3 : l3.length ≤ 4194304 := by have := Td.num_len 4096 q3.data.toList; rw [hZ, ← Lib.size_eq] at this; simp only at this; omega
  have HZ : Hid (Td.num 4096 (l2.drop ki) = (sz, l3, ez)) := by show _ = _; rw [← hd3]; exact hZ
  clear hZ
  go_wp2_with fail
  refine hcall.mono ?_
  rintro e w2 ⟨rfl, b2⟩
  have HP := HA2.out.past b2
  have hmj := seven_at HP.str
  have hfj := seven_fz HP.str
  obtain ⟨c_0, c_1, c_2, c_3, c_4, c_5, c_6⟩ := hmj
  obtain ⟨z_0, z_1, z_2, z_3, z_4, z_5, z_6⟩ := hfj
  obtain ⟨WN, hWN⟩ : ∃ WN, WN = w2.setCell ⟨b + 1, 4, none⟩ (.int .i64 (sz : Int)) := ⟨_, rfl⟩
  have HA : Hid (R2 w WN b (.string ⟨t.toArray⟩) (.int .i64 (c0 : Int)) (.int .i64 (md : Int)) (.int .i64 tm) (.int .i64 (sz : Int)) (.slice none 0 0) (.string ⟨#[]⟩)) := by rw [hWN]; exact HP.setAt 4 _ rfl
  clear HP hcall b2 HA2
  go_upto_region 16 with fail
  rw [← hWN]
  clear hWN c_0 c_1 c_2 c_3 c_4 c_5 c_6 z_0 z_1 z_2 z_3 z_4 z_5 z_6 w2
  by_cases he : ez ≠ 0
  · have hqn : (ez != 0) = true := by rw [bne_iff_ne]; exact he
    have HE : Hid (R.2.2 = ez) := by show _ = _; rw [HR3.out]; exact Td.rdZ_err HZ.out he
    obtain ⟨m0, m1, m2, m3, m4, m5, m6⟩ := seven_at HA.out.str
    obtain ⟨r0, r1, r2, r3, r4, r5, r6⟩ := seven_at HA.out.res
    obtain ⟨f0, f1, f2, f3, f4, f5, f6⟩ := seven_fz HA.out.res
    go_wp2_with fail
    refine bodyPost_ret (v := .tuple #[.agg #[.string ⟨t.toArray⟩, .int .i64 (c0 : Int), .int .i64 (md : Int), .int .i64 tm, .int .i64 (sz : Int), .slice none 0 0, .string ⟨#[]⟩], .string ⟨#[]⟩, .int .i64 ez]) ?_ rfl ⟨below7 HA.out.bel HA.out.at_ _ _ _ _ _ _ _, .inl ⟨by rw [HE.out]; exact he, ⟨⟨t.toArray⟩, (c0 : Int), (md : Int), tm, (sz : Int), [], ⟨#[]⟩⟩, none, 0, 0, by rw [HE.out]⟩⟩
    simp [results, asAddr, go_sem, r0, r1, r2, r3, r4, r5, r6]
  obtain rfl := Decidable.not_not.mp he
  clear he
  have HR4 : Hid (R = Td.rdP t c0 md tm sz l3) := by show _ = _; rw [HR3.out]; exact Td.rdZ_ok HZ.out
  obtain ⟨s3, hs3⟩ : ∃ s3 : ByteArray, s3 = ⟨l3.toArray⟩ := ⟨_, rfl⟩
  have hd3' : s3.data.toList = l3 := by rw [hs3]
  have hs3z : s3.size ≤ 4194304 := by rw [Lib.size_eq, hd3']; exact hl3
  rw [← hs3]
  clear HZ HR3 hq3 hq3z hs3 hd3
  generalize WN = W1 at *
  rcases hP : Td.num 300 s3.data.toList with ⟨np, l4, ep⟩
  have hcall := numAt_any s3 300 W1 hs3z (by omega)
  rw [hP] at hcall
  have hnp : np ≤ 300 := Td.num_most hP
  have hl4 : l4.length ≤ 4194304 := by have := Td.num_len 300 s3.data.toList; rw [hP, ← Lib.size_eq] at this; simp only at this; omega
  have HP : Hid (Td.num 300 l3 = (np, l4, ep)) := by show _ = _; rw [← hd3']; exact hP
  clear hP
  go_wp2_with fail
  refine hcall.mono ?_
  rintro e w2 ⟨rfl, b2⟩
  have HA2 := HA
  have HA : Hid (R2 w w2 b (.string ⟨t.toArray⟩) (.int .i64 (c0 : Int)) (.int .i64 (md : Int)) (.int .i64 tm) (.int .i64 (sz : Int)) (.slice none 0 0) (.string ⟨#[]⟩)) := HA2.out.past b2
  clear HA2 hcall b2
  by_cases he : ep ≠ 0
  · have hqn : (ep != 0) = true := by rw [bne_iff_ne]; exact he
    have HE : Hid (R.2.2 = ep) := by show _ = _; rw [HR4.out]; exact Td.rdP_err HP.out he
    obtain ⟨m0, m1, m2, m3, m4, m5, m6⟩ := seven_at HA.out.str
    obtain ⟨r0, r1, r2, r3, r4, r5, r6⟩ := seven_at HA.out.res
    obtain ⟨f0, f1, f2, f3, f4, f5, f6⟩ := seven_fz HA.out.res
    go_wp2_with fail
    refine bodyPost_ret (v := .tuple #[.agg #[.string ⟨t.toArray⟩, .int .i64 (c0 : Int), .int .i64 (md : Int), .int .i64 tm, .int .i64 (sz : Int), .slice none 0 0, .string ⟨#[]⟩], .string ⟨#[]⟩, .int .i64 ep]) ?_ rfl ⟨below7 HA.out.bel HA.out.at_ _ _ _ _ _ _ _, .inl ⟨by rw [HE.out]; exact he, ⟨⟨t.toArray⟩, (c0 : Int), (md : Int), tm, (sz : Int), [], ⟨#[]⟩⟩, none, 0, 0, by rw [HE.out]⟩⟩
    simp [results, asAddr, go_sem, r0, r1, r2, r3, r4, r5, r6]
  obtain rfl := Decidable.not_not.mp he
  clear he
  have HR5 : Hid (R = Td.rdK t c0 md tm sz np l4) := by show _ = _; rw [HR4.out]; exact Td.rdP_ok HP.out
  obtain ⟨s4, hs4⟩ : ∃ s4 : ByteArray, s4 = ⟨l4.toArray⟩ := ⟨_, rfl⟩
  have hd4 : s4.data.toList = l4 := by rw [hs4]
  have hs4z : s4.size = l4.length := by rw [Lib.size_eq, hd4]
  rw [← hs4]
  clear HP HR4
  have hw8 : wrap64 (8 * (np : Int)) = 8 * (np : Int) := by unfold wrap64; omega
  by_cases h8 : l4.length < 8 * np
  · have g8 : (s4.size : Int) < 8 * (np : Int) := by omega
    have HE : Hid (R.2.2 = 3) := by show _ = _; rw [HR5.out]; exact Td.rdK_short h8
    obtain ⟨m0, m1, m2, m3, m4, m5, m6⟩ := seven_at HA.out.str
    obtain ⟨r0, r1, r2, r3, r4, r5, r6⟩ := seven_at HA.out.res
    obtain ⟨f0, f1, f2, f3, f4, f5, f6⟩ := seven_fz HA.out.res
    go_wp2_with fail
    refine bodyPost_ret (v := .tuple #[.agg #[.string ⟨t.toArray⟩, .int .i64 (c0 : Int), .int .i64 (md : Int), .int .i64 tm, .int .i64 (sz : Int), .slice none 0 0, .string ⟨#[]⟩], .string ⟨#[]⟩, .int .i64 3]) ?_ rfl ⟨below7 HA.out.bel HA.out.at_ _ _ _ _ _ _ _, .inl ⟨by rw [HE.out]; exact by decide, ⟨⟨t.toArray⟩, (c0 : Int), (md : Int), tm, (sz : Int), [], ⟨#[]⟩⟩, none, 0, 0, by rw [HE.out]⟩⟩
    simp [results, asAddr, go_sem, r0, r1, r2, r3, r4, r5, r6]
  have g8 : ¬ (s4.size : Int) < 8 * (np : Int) := by omega
  go_wp2_with fail
  clear hs4z hd4
  go_loopw [0, 85] (fun x i wr => ∃ (j : Nat) (av : Option Addr) (cv : Nat), j ≤ np ∧ i = .int .i64 j ∧ x = .string ⟨(l4.drop (8 * j)).toArray⟩ ∧ Hid (R2 w wr b (.string ⟨t.toArray⟩) (.int .i64 (c0 : Int)) (.int .i64 (md : Int)) (.int .i64 tm) (.int .i64 (sz : Int)) (.slice av j cv) (.string ⟨#[]⟩)) ∧ Hid (wr.ownsRow (b + 2) 49 8 (.slice av j cv) j (rowR idC (Td.eights j l4)))) (fun _ i _ => np - (intOf i).toNat)
  case atStart => exact ⟨0, none, 0, by omega, rfl, rfl, HA, World.ownsRow_nil _ _ _ _⟩
  case round =>
    clear HA
    obtain ⟨j, av, cv, hj, rfl, rfl, HA, HO⟩ := hrel
    by_cases hjl : j < np
    · have hlen : 8 ≤ (l4.drop (8 * j)).length := by rw [List.length_drop]; omega
      obtain ⟨b0, b1, b2, b3, b4, b5, b6, b7, ht8⟩ := eight_of8 (t := (l4.drop (8 * j)).take 8) (by rw [List.length_take]; omega)
      have HEi : Hid (Td.eights (j + 1) l4 = Td.eights j l4 ++ [[b0, b1, b2, b3, b4, b5, b6, b7]]) := by show _ = _; rw [Td.eights_more, ht8]
      obtain ⟨sj, hsj⟩ : ∃ sj : ByteArray, sj = ⟨(l4.drop (8 * j)).toArray⟩ := ⟨_, rfl⟩
      have hdj : sj.data.toList = l4.drop (8 * j) := by rw [hsj]
      have hx8 : sj.extract 0 8 = ⟨#[b0, b1, b2, b3, b4, b5, b6, b7]⟩ := by
        apply ByteArray.ext
        apply Array.toList_inj.1
        rw [Lib.extract_from_zero, hdj, ht8]
      have hxn : sj.extract 8 sj.size = ⟨(l4.drop (8 * (j + 1))).toArray⟩ := by
        apply ByteArray.ext
        apply Array.toList_inj.1
        rw [Nn.ext_drop', hdj, List.drop_drop]
        exact congrArg (fun q => List.drop q l4) (by omega)
      have hsz8 : (8 : Int) ≤ (sj.size : Int) := by rw [Lib.size_eq, hdj]; omega
      obtain ⟨sn, hsn⟩ : ∃ sn : ByteArray, sn = ⟨(l4.drop (8 * (j + 1))).toArray⟩ := ⟨_, rfl⟩
      rw [← hsn] at hxn
      rw [← hsj]
      have HSn : Hid (sn = ⟨(l4.drop (8 * (j + 1))).toArray⟩) := hsn
      clear hsj hsn
      obtain ⟨WB, cb, hcv, hcells, hB⟩ := conv_by wr.drew ⟨#[b0, b1, b2, b3, b4, b5, b6, b7]⟩
      have HAB : Hid (R2 w WB b (.string ⟨t.toArray⟩) (.int .i64 (c0 : Int)) (.int .i64 (md : Int)) (.int .i64 tm) (.int .i64 (sz : Int)) (.slice av j cv) (.string ⟨#[]⟩)) := HA.out.drew.past hB
      have HOB : Hid (WB.ownsRow (b + 2) 49 8 (.slice av j cv) j (rowR idC (Td.eights j l4))) := own_kept HO.out.drew (Kept.of_below (p := fun _ => True) hB) fun _ _ => trivial
      have c5 := (seven_at HA.out.str).2.2.2.2.2.1
      have c5' := (seven_at HAB.out.str).2.2.2.2.2.1
      have hl1 : b + 1 < WB.heap.size := (Array.getElem?_eq_some_iff.1 HAB.out.str).1
      have hzr : wr.drew.heap.size = wr.heap.size := rfl
      rw [hzr] at hcv hcells
      have hzB : wr.heap.size < WB.heap.size := by
        have := hcells 0 (by simp [ByteArray.size])
        exact World.block_lt_of_cell? WB _ this
      have k0 : WB.cell? ⟨wr.heap.size, 0, none⟩ = some (.int .u8 (b0.toNat : Int)) := hcells 0 (by simp [ByteArray.size])
      have k1 : WB.cell? ⟨wr.heap.size, 1, none⟩ = some (.int .u8 (b1.toNat : Int)) := hcells 1 (by simp [ByteArray.size])
      have k2 : WB.cell? ⟨wr.heap.size, 2, none⟩ = some (.int .u8 (b2.toNat : Int)) := hcells 2 (by simp [ByteArray.size])
      have k3 : WB.cell? ⟨wr.heap.size, 3, none⟩ = some (.int .u8 (b3.toNat : Int)) := hcells 3 (by simp [ByteArray.size])
      have k4 : WB.cell? ⟨wr.heap.size, 4, none⟩ = some (.int .u8 (b4.toNat : Int)) := hcells 4 (by simp [ByteArray.size])
      have k5 : WB.cell? ⟨wr.heap.size, 5, none⟩ = some (.int .u8 (b5.toNat : Int)) := hcells 5 (by simp [ByteArray.size])
      have k6 : WB.cell? ⟨wr.heap.size, 6, none⟩ = some (.int .u8 (b6.toNat : Int)) := hcells 6 (by simp [ByteArray.size])
      have k7 : WB.cell? ⟨wr.heap.size, 7, none⟩ = some (.int .u8 (b7.toNat : Int)) := hcells 7 (by simp [ByteArray.size])
      have hcv8 : (convert 9 41 (.string ⟨#[b0, b1, b2, b3, b4, b5, b6, b7]⟩)).run Tryd.prog wr.drew = .ok (.slice (some ⟨wr.heap.size, 0, none⟩) 8 cb) WB := hcv
      have hAt : (Instr.arrayAt 49 (.slice (some ⟨wr.heap.size, 0, none⟩) 8 cb)).run Tryd.prog WB = .ok (.pointer (some ⟨wr.heap.size, 0, none⟩)) WB := run_arrayAt WB 49 5 8 _ 8 cb (by kernel_rfl) (by omega)
      have hrow : ∀ o, (WB.alloc o).ownsRow (b + 2) 49 8 (.slice av j cv) j (rowR idC (Td.eights j l4)) := fun o => HOB.out.alloc o
      have HQ : Hid (∀ o w2, (WB.alloc o).grownBy w2 (Value.slice av j cv).ownBlock → w2.cell? ⟨b + 1, 5, none⟩ = some (.slice av j cv) ∧ w2.frozen? ⟨b + 1, 5, none⟩ = false) := fun o w2 hg => by
        have hs2 := R2.grown (HAB.out.past ((Below.refl _ WB).alloc (Nat.le_refl _) o)) hg fun g hgb => by
          obtain ⟨_, _, q, _⟩ := own_block (hrow o) hgb
          exact q
        exact ⟨(seven_at hs2.str).2.2.2.2.2.1, (seven_fz hs2.str).2.2.2.2.2.1⟩
      have hbW : b + 2 ≤ WB.heap.size := by omega
      obtain ⟨i0, hi, hz0, hz1, hz2⟩ := info_of' info_id
      clear hcells hcv hB hzr ht8 hdj hlen hs4 g8 hw8
      go_wp2_with fail
      go_region_law ((refine step_append_lies _ (by rfl) (.tmp 88) (.tmp 94) 30 (by rfl) (b + 2) 49 i0 (.agg #[.int .u8 0, .int .u8 0, .int .u8 0, .int .u8 0, .int .u8 0, .int .u8 0, .int .u8 0, .int .u8 0]) 8 8 Tryd.underlying30 hi hz0 hz1 hz2 rfl (by decide) (.slice av j cv) j (rowR idC (Td.eights j l4)) (by rfl) (hrow _) ⟨WB.heap.size, 0, none⟩ 1 1 [.int .u8 (b0.toNat : Int), .int .u8 (b1.toNat : Int), .int .u8 (b2.toNat : Int), .int .u8 (b3.toNat : Int), .int .u8 (b4.toNat : Int), .int .u8 (b5.toNat : Int), .int .u8 (b6.toNat : Int), .int .u8 (b7.toNat : Int)] (by rfl) (by rfl) (eight_new WB _ _ _ _ _ _ _ _) (by simp [Value.oneCell']) (by decide) (by unfold maxLen; omega) (by omega) (by simp; omega) (WB.heap.size + 1) (by simp) ?_; intro g cap w3 hown3 hgrow hat hlt3; obtain ⟨u1, u2⟩ := HQ.out _ _ hgrow))
      all_goals have HN : Hid (R2 w (w3.setCell ⟨b + 1, 5, none⟩ (.slice (some ⟨g, 0, none⟩) (j + 1) cap)) b (.string ⟨t.toArray⟩) (.int .i64 (c0 : Int)) (.int .i64 (md : Int)) (.int .i64 tm) (.int .i64 (sz : Int)) (.slice (some ⟨g, 0, none⟩) (j + 1) cap) (.string ⟨#[]⟩)) := (R2.grown (HAB.out.past ((Below.refl _ WB).alloc (Nat.le_refl _) _)) hgrow (fun g hgb => own_ge HOB.out hgb)).setAt 5 _ rfl
      all_goals have HON : Hid ((w3.setCell ⟨b + 1, 5, none⟩ (.slice (some ⟨g, 0, none⟩) (j + 1) cap)).ownsRow (b + 2) 49 8 (.slice (some ⟨g, 0, none⟩) (j + 1) cap) (j + 1) (rowR idC (Td.eights (j + 1) l4))) := own_more8 (x := [b0, b1, b2, b3, b4, b5, b6, b7]) hown3 HEi.out _
      all_goals clear hown3 hgrow hat hlt3 u1 u2 HQ hrow HAB HOB HEi hAt hcv8 k0 k1 k2 k3 k4 k5 k6 k7 c5 c5' hl1 hzB hbW HA HO
      all_goals go_wp2_with fail
      all_goals exact ⟨⟨j + 1, _, _, by omega, by go_num, by rw [HSn.out], HN, HON⟩, by simp only [intOf]; omega⟩
    · obtain rfl : j = np := by omega
      rcases hK : Nm.getT (l4.drop (8 * j)) with ⟨lk, kk, ek⟩
      obtain ⟨s5, hs5⟩ : ∃ s5 : ByteArray, s5 = ⟨(l4.drop (8 * j)).toArray⟩ := ⟨_, rfl⟩
      have hd5 : s5.data.toList = l4.drop (8 * j) := by rw [hs5]
      have hs5z : s5.size ≤ 4194304 := by rw [Lib.size_eq, hd5, List.length_drop]; omega
      have hcall := rgetT_any s5 wr (by omega)
      rw [hd5, hK] at hcall
      have HK : Hid (Nm.getT (l4.drop (8 * j)) = (lk, kk, ek)) := hK
      have HD5 : Hid (s5.data.toList = l4.drop (8 * j)) := hd5
      obtain ⟨c_0, c_1, c_2, c_3, c_4, c_5, c_6⟩ := seven_at HA.out.str
      obtain ⟨z_0, z_1, z_2, z_3, z_4, z_5, z_6⟩ := seven_fz HA.out.str
      obtain ⟨WN, hWN⟩ : ∃ WN, WN = wr.setCell ⟨b + 1, 6, none⟩ (.string ⟨lk.toArray⟩) := ⟨_, rfl⟩
      have HAo : Hid (R2 w WN b (.string ⟨t.toArray⟩) (.int .i64 (c0 : Int)) (.int .i64 (md : Int)) (.int .i64 tm) (.int .i64 (sz : Int)) (.slice av j cv) (.string ⟨lk.toArray⟩)) := by rw [hWN]; exact HA.out.setAt 6 _ rfl
      have HON : Hid (WN.ownsRow (b + 2) 49 8 (.slice av j cv) j (rowR idC (Td.eights j l4))) := by
        rw [hWN]
        exact own_kept HO.out ((Kept.refl (fun k => k ≠ b + 1) wr).setCell (by simp) _) fun g hg => by have := own_ge HO.out hg; omega
      rw [← hs5]
      clear hK hs5 hd5 HA HO hs4 g8 hw8
      go_wp2_with fail
      refine hcall.mono ?_
      rintro e u ⟨rfl, hu⟩
      obtain rfl := hu.symm
      clear hcall hu
      go_upto_region 29 with fail
      rw [← hWN]
      clear hWN c_0 c_1 c_2 c_3 c_4 c_5 c_6 z_0 z_1 z_2 z_3 z_4 z_5 z_6
      have HA := HAo
      clear HAo
      by_cases he : ek ≠ 0
      · have hqn : (ek != 0) = true := by rw [bne_iff_ne]; exact he
        have HE : Hid (R.2.2 = ek) := by show _ = _; rw [HR5.out]; exact Td.rdK_err h8 HK.out he
        obtain ⟨m0, m1, m2, m3, m4, m5, m6⟩ := seven_at HA.out.str
        obtain ⟨r0, r1, r2, r3, r4, r5, r6⟩ := seven_at HA.out.res
        obtain ⟨f0, f1, f2, f3, f4, f5, f6⟩ := seven_fz HA.out.res
        go_wp2_with fail
        refine bodyPost_ret (v := .tuple #[.agg #[.string ⟨t.toArray⟩, .int .i64 (c0 : Int), .int .i64 (md : Int), .int .i64 tm, .int .i64 (sz : Int), .slice av j cv, .string ⟨lk.toArray⟩], .string ⟨#[]⟩, .int .i64 ek]) ?_ rfl ⟨below7 HA.out.bel HA.out.at_ _ _ _ _ _ _ _, .inl ⟨by rw [HE.out]; exact he, ⟨⟨t.toArray⟩, (c0 : Int), (md : Int), tm, (sz : Int), [], ⟨lk.toArray⟩⟩, av, j, cv, by rw [HE.out]⟩⟩
        simp [results, asAddr, go_sem, r0, r1, r2, r3, r4, r5, r6]
      obtain rfl := Decidable.not_not.mp he
      clear he
      have HR6 : Hid (R = (⟨t, (c0 : Nat), (md : Nat), tm, (sz : Nat), Td.eights j l4, lk⟩, (l4.drop (8 * j)).drop kk, 0)) := by show _ = _; rw [HR5.out]; exact Td.rdK_ok h8 HK.out
      obtain ⟨hkk, hlk, _⟩ := Nm.getT_one HK.out
      rw [← HD5.out, ← Lib.size_eq] at hkk
      have hkk' : (kk : Int) ≤ (s5.size : Int) := by omega
      obtain ⟨sr, hsr⟩ : ∃ sr, s5.extract kk s5.size = sr := ⟨_, rfl⟩
      have HSr : Hid (sr = ⟨((l4.drop (8 * j)).drop kk).toArray⟩) := by show _ = _; rw [← hsr, ext_str, HD5.out]
      have HFl := Td.flat_eights (k := j) (s := l4) (by omega)
      have HIds : Hid ((Td.eights j l4).length = j ∧ ∀ p ∈ Td.eights j l4, p.length = 8) := HFl.2
      obtain ⟨m0, m1, m2, m3, m4, m5, m6⟩ := seven_at HA.out.str
      obtain ⟨r0, r1, r2, r3, r4, r5, r6⟩ := seven_at HA.out.res
      obtain ⟨f0, f1, f2, f3, f4, f5, f6⟩ := seven_fz HA.out.res
      clear HFl HR5 HK HD5
      go_wp2_with fail
      go_region
      go_wp2_with fail
      have HOF : Hid ((((((((WN.setCell ⟨b, 0, none⟩ (.string ⟨t.toArray⟩)).setCell ⟨b, 1, none⟩ (.int .i64 (c0 : Int))).setCell ⟨b, 2, none⟩ (.int .i64 (md : Int))).setCell ⟨b, 3, none⟩ (.int .i64 tm)).setCell ⟨b, 4, none⟩ (.int .i64 (sz : Int))).setCell ⟨b, 5, none⟩ (.slice av j cv)).setCell ⟨b, 6, none⟩ (.string ⟨lk.toArray⟩)).drew.ownsRow (b + 2) 49 8 (.slice av j cv) j (rowR idC (Td.eights j l4))) := (own_kept HON.out (kept7 WN b _ _ _ _ _ _ _) fun g hg => by have := own_ge HON.out hg; omega).drew
      refine bodyPost_ret (v := .tuple #[.agg #[.string ⟨t.toArray⟩, .int .i64 (c0 : Int), .int .i64 (md : Int), .int .i64 tm, .int .i64 (sz : Int), .slice av j cv, .string ⟨lk.toArray⟩], .string sr, .int .i64 0]) ?_ rfl ⟨(below7 HA.out.bel HA.out.at_ _ _ _ _ _ _ _).drew, .inr ⟨⟨⟨t.toArray⟩, (c0 : Int), (md : Int), tm, (sz : Int), Td.eights j l4, ⟨lk.toArray⟩⟩, .slice av j cv, ?_, ?_, ?_, ?_, ?_⟩⟩
      · simp [results, asAddr, go_sem, r0, r1, r2, r3, r4, r5, r6]
      · rw [HR6.out]; rfl
      · rw [HR6.out, HSr.out]
      · exact rx_own HOF.out HIds.out.1 HIds.out.2
      · exact own_type HOF.out
      · refine ⟨?_, show t.length ≤ 1024 from htl⟩
        exact ⟨wf_i (n := (c0 : Int)) (by omega) (by omega), wf_i (n := (md : Int)) (by omega) (by omega), wf_i htm0 htm1, wf_i (n := (sz : Int)) (by omega) (by omega), by show t.length ≤ _; omega, by show lk.length ≤ _; omega, HIds.out.2⟩
end Go.Proofs.YtcgecafajgoeeaaDoor
