/-
  What guardOf and Guard of package shield answer.
-/
import Derived.Test.YtoeohnknpbdgdaaDoorShTxt
namespace Go.Proofs.YtoeohnknpbdgdaaDoor
open Go.RowKit
set_option maxRecDepth 4000

namespace Fd
/-- guard j, up to part i -/
def gd (P : List ByteArray) (m j : Nat) : Nat → List Nat
  | 0 => List.replicate m 0
  | i + 1 => addL (gd P m j i) (nb (P.getD i ByteArray.empty)) (wt j i)
theorem gd_length {P : List ByteArray} {m : Nat} (h : ∀ s ∈ P, s.size = m) (j : Nat) : ∀ i, i ≤ P.length → (gd P m j i).length = m
  | 0, _ => by simp [gd]
  | i + 1, hi => by
    have ih := gd_length h j i (by omega)
    rw [gd, addL_length]
    · exact ih
    · rw [ih, nb_length, List.getD_eq_getElem?_getD, List.getElem?_eq_getElem (by omega)]
      exact (h _ (List.getElem_mem _)).symm
theorem gd_bs (P : List ByteArray) (m j : Nat) : ∀ i, Bs (gd P m j i)
  | 0 => fun c hc => by rw [(List.mem_replicate.mp hc).2]; omega
  | i + 1 => addL_bs (gd_bs P m j i) (nb_bs _) _
theorem gd_get {P : List ByteArray} {m : Nat} (h : ∀ s ∈ P, s.size = m) {j : Nat} (hj : j < 128) (hP : P.length ≤ 128) (a : Nat) : ∀ i, i ≤ P.length → (gd P m j i).getD a 0 = sm (fun q => M (wt j q) ((nb (P.getD q ByteArray.empty)).getD a 0)) i
  | 0, _ => by
    show (List.replicate m 0).getD a 0 = 0
    rw [List.getD_eq_getElem?_getD, List.getElem?_replicate]
    split <;> rfl
  | i + 1, hi => by
    rw [gd, addL_get, gd_get h hj hP a i (by omega), sm, M_comm (get_lt (nb_bs _) a) (wt_lt hj (by omega))]
    rw [gd_length h j i (by omega), nb_length, List.getD_eq_getElem?_getD, List.getElem?_eq_getElem (by omega)]
    exact (h _ (List.getElem_mem _)).symm
/-- guard j of the parts -/
def guard (P : List ByteArray) (j : Nat) : ByteArray := bn (gd P (P.getD 0 ByteArray.empty).size j P.length)
end Fd
theorem mem_getD {P : List ByteArray} {i : Nat} (h : i < P.length) : P.getD i ByteArray.empty ∈ P := by
  rw [List.getD_eq_getElem?_getD, List.getElem?_eq_getElem h]
  exact List.getElem_mem h
theorem made_ob {base g n : Nat} {w : World} (h : w.ownsRow base 5 1 (.slice (some ⟨g, 0, none⟩) n n) n (madeCells (Value.int .u8 0).cells (n * 1)).toList) : Ob w base (.slice (some ⟨g, 0, none⟩) n n) (List.replicate n 0) := by
  have e : (madeCells (Value.int .u8 0).cells (n * 1)).toList = (List.replicate n (0 : Nat)).map Bv := by
    rw [Nat.mul_one]
    refine List.ext_getElem (by simp [size_madeCells]) fun i h1 h2 => ?_
    simp [madeCells, Value.cells, Bv, Nat.mod_one]
  have h2 : w.ownsRow base 5 1 (.slice (some ⟨g, 0, none⟩) n n) (List.replicate n (0 : Nat)).length ((List.replicate n (0 : Nat)).map Bv) := by
    rw [← e, List.length_replicate]; exact h
  exact Ob.of_own h2

set_option maxHeartbeats 2000000 in
theorem guardOf_any (v : Value) (P : List ByteArray) (j m : Nat) (w : World) (h : Tx w v P) (hP : 1 ≤ P.length) (hP2 : P.length ≤ 16) (hj : j < 8) (hm : ∀ s ∈ P, s.size = m) (hm2 : m ≤ 4096) :
    Calls Tryd.prog 14 #[v, .int .i64 j] w fun e w' => e = .returned (.string (Fd.guard P j)) ∧ Below w.heap.size w w' := by
  obtain ⟨i0, hi, hz0, hz1, hz2⟩ := info_parts info_u8
  obtain ⟨a, c, rfl⟩ := h.slice
  have HG : Hid (Fd.guard P j = bn (Fd.gd P m j P.length)) := by
    show _ = _
    rw [Fd.guard, hm _ (mem_getD (i := 0) (by omega))]
  have HBs : Hid (Fd.Bs (Fd.gd P m j P.length)) := Fd.gd_bs P m j _
  have HM : Hid (∀ s ∈ P, s.size = m) := hm
  have HX : Hid (Tx w (.slice a P.length c) P) := h
  obtain ⟨bk, o, rfl, hbk, c0⟩ := h.zero (by omega)
  have hs0 := hm _ (mem_getD (P := P) (i := 0) (by omega))
  generalize P.getD 0 ByteArray.empty = s0 at *
  obtain ⟨N, hN⟩ : ∃ N, N = P.length := ⟨_, rfl⟩
  have HN : Hid (N = P.length) := hN
  rw [← hN] at HX HG HBs hP hP2 ⊢
  clear hN hm h
  subst hs0
  go_enter Tryd.func14, Tryd.ntmps14
  go_wp2_with (at_make; refine wpList_make_full _ rfl (.tmp 11) (.tmp 11) 34 rfl w.heap.size 5 i0 (.int .u8 0) 1 Tryd.underlying34 hi hz0 hz1 .i64 .i64 _ _ s0.size rfl rfl rfl rfl (by rw [hz2]; omega) (by unfold maxLen; omega) (Nat.le_refl _) ?_; intro w2 hown hgrow)
  have HB1 : Hid (Below w.heap.size w w2) := (Below.refl _ _).grown hgrow (Nat.le_refl _) (fun k hk => by cases hk)
  have HO : Hid (Ob w2 w.heap.size (.slice (some ⟨w.heap.size, 0, none⟩) s0.size s0.size) (Fd.gd P s0.size j 0)) := made_ob hown
  clear hown hgrow hi hz0 hz1 hz2 c0
  go_wp2_with fail
  go_loopw [15] (fun i wr => ∃ k : Nat, k ≤ N ∧ i = .int .i64 k ∧ Hid (Ob wr w.heap.size (.slice (some ⟨w.heap.size, 0, none⟩) s0.size s0.size) (Fd.gd P s0.size j k)) ∧ Hid (Below w.heap.size w wr)) (fun i _ => N - (intOf i).toNat)
  case atStart => exact ⟨0, by omega, rfl, HO, HB1⟩
  case round =>
    clear HO HB1
    obtain ⟨k, hk, rfl, HO, HB⟩ := hrel
    by_cases hlt : k < N
    · obtain ⟨bk2, o2, e2, hbk2, c0⟩ := (HX.out.below HB.out).get k (by rw [← HN.out]; omega)
      simp at e2
      obtain ⟨rfl, rfl⟩ := e2
      have hsz := HM.out _ (mem_getD (P := P) (i := k) (by rw [← HN.out]; omega))
      obtain ⟨W1, cap, hcv, hob, hbel, hltW⟩ := conv_ob wr (P.getD k ByteArray.empty)
      have HO1 := HO.out.below hbel
      have hwt := fun W => weight_any j k W hj (by omega)
      have hlen := Fd.gd_length HM.out j k (by rw [← HN.out]; omega)
      have hadd := addTimes_any w.heap.size wr.heap.size _ _ _ _ (Fd.wt j k) W1 HO1 hob (by rw [hlen, nb_length, hsz]) (fun g hg e => by
        simp [Value.ownBlock] at hg e
        have := HO.out.block (g := w.heap.size) rfl
        obtain ⟨_, _, _, _, this⟩ := this
        omega) (by rw [hlen]; exact hm2) (Fd.gd_bs P _ j k) (nb_bs _) (Fd.wt_lt (by omega) (by omega))
      have hadd' : Calls Tryd.prog 22 #[.slice (some ⟨w.heap.size, 0, none⟩) s0.size s0.size, .slice (some ⟨wr.heap.size, 0, none⟩) (P.getD k ByteArray.empty).size cap, .int .u8 (Fd.wt j k : Nat)] W1 fun e w' => e = .returned (.tuple #[]) ∧ Hid (Ob w' w.heap.size (.slice (some ⟨w.heap.size, 0, none⟩) s0.size s0.size) (Fd.gd P s0.size j (k + 1))) ∧ Hid (Below w.heap.size w w') := hadd.mono fun e w' ⟨h1, h2, h3⟩ => ⟨h1, h2, (HB.out.trans (hbel.mono HB.out.size)).trans (h3.below (by have := HB.out.size; omega) (fun q hq e => by simp [Value.ownBlock] at e; omega))⟩
      generalize Fd.wt j k = wv at *
      generalize P.getD k ByteArray.empty = sk at *
      clear hadd hob HO1 HO HB hbel hlen hsz
      go_wp2_with fail
      refine (hwt _).mono ?_
      rintro e u ⟨rfl, rfl⟩
      go_wp2_with fail
      refine hadd'.mono ?_
      rintro e u ⟨rfl, HO, HB⟩
      clear hadd' hcv
      go_wp2_with fail
      go_roundw
      case rel => exact ⟨k + 1, by omega, by go_num, HO, HB⟩
      case measure => simp only [intOf]; omega
    · obtain rfl : k = N := by omega
      have hstr := HO.out.str HBs.out
      go_wp2_with fail
      go_ret
      exact ⟨by rw [HG.out]; rfl, HB.out⟩

theorem info_str : (Tryd.prog.info? 9).map (fun i => (i.zero, i.size, i.bytes)) = some (some (.string ⟨#[]⟩), 1, 16) := by kernel_rfl
/-- the first k of p texts -/
def txTo (f : Nat → ByteArray) (p k : Nat) : List ByteArray := (List.range p).map fun j => if j < k then f j else ByteArray.empty
theorem txTo_length (f : Nat → ByteArray) (p k : Nat) : (txTo f p k).length = p := by simp [txTo]
theorem txTo_set (f : Nat → ByteArray) (p k : Nat) : txTo f p (k + 1) = (txTo f p k).set k (f k) := by
  refine List.ext_getElem (by simp [txTo]) fun i h1 h2 => ?_
  simp only [txTo, List.getElem_map, List.getElem_range, List.getElem_set]
  by_cases e : k = i
  · subst e; rw [if_pos (by omega), if_pos rfl]
  · rw [if_neg e]
    by_cases h : i < k
    · rw [if_pos h, if_pos (by omega)]
    · rw [if_neg h, if_neg (by omega)]
theorem txTo_all (f : Nat → ByteArray) (p : Nat) : txTo f p p = (List.range p).map f :=
  List.map_congr_left fun i hi => by rw [if_pos (List.mem_range.1 hi)]
theorem txTo_zero (f : Nat → ByteArray) (p : Nat) : txTo f p 0 = List.replicate p ByteArray.empty := by
  refine List.ext_getElem (by simp [txTo]) fun i h1 h2 => ?_
  simp [txTo]
theorem made_tx {base g n : Nat} {w : World} (h : w.ownsRow base 9 1 (.slice (some ⟨g, 0, none⟩) n n) n (madeCells (Value.string ⟨#[]⟩).cells (n * 1)).toList) :
    w.ownsRow base 9 1 (.slice (some ⟨g, 0, none⟩) n n) n ((List.replicate n ByteArray.empty).map Tv) := by
  have e : (madeCells (Value.string ⟨#[]⟩).cells (n * 1)).toList = (List.replicate n ByteArray.empty).map Tv := by
    rw [Nat.mul_one]
    refine List.ext_getElem (by simp [size_madeCells]) fun i h1 h2 => ?_
    simp [madeCells, Value.cells, Tv, Nat.mod_one]
    rfl
  rw [← e]
  exact h
/-- a text stored in a row of one's own -/
theorem tx_store {base g n cap : Nat} {w : World} {l : List ByteArray} (h : w.ownsRow base 9 1 (.slice (some ⟨g, 0, none⟩) n cap) n (l.map Tv)) (k : Nat) (x : ByteArray) :
    (w.setCell ⟨g, k, none⟩ (.string x)).ownsRow base 9 1 (.slice (some ⟨g, 0, none⟩) n cap) n ((l.set k x).map Tv) := by
  have := (h.stored k (.string x)).1
  rw [List.map_set]
  exact this
theorem tx_cell {base g n cap : Nat} {w : World} {l : List ByteArray} (h : w.ownsRow base 9 1 (.slice (some ⟨g, 0, none⟩) n cap) n (l.map Tv)) (k : Nat) (hk : k < n) :
    ∃ x, w.cell? ⟨g, k, none⟩ = some (.string x) := by
  have hn : l.length = n := by have := h.1; simpa using this
  rw [h.cellAt k (by omega), List.getElem?_map, List.getElem?_eq_getElem (by omega)]
  exact ⟨_, rfl⟩

/-- P25's error -/
def gErr (P : List ByteArray) (p : Int) : Nat := if wi P.length 16 && wi p 8 then sizes P else 1
theorem gErr_zero {P : List ByteArray} {p : Int} (h : gErr P p = 0) : 1 ≤ P.length ∧ P.length ≤ 16 ∧ 1 ≤ p ∧ p ≤ 8 ∧ sizes P = 0 := by
  unfold gErr wi at h
  split at h
  · next h1 =>
    simp at h1
    exact ⟨by omega, by omega, by omega, by omega, h⟩
  · omega
theorem sizes_zero {P : List ByteArray} (h : sizes P = 0) : ∀ s ∈ P, s.size = (P.getD 0 ByteArray.empty).size := fun s hs => (szs_zero h s hs).1
theorem sizes_le {P : List ByteArray} (h : sizes P = 0) : (P.getD 0 ByteArray.empty).size ≤ 4096 := by
  by_cases hP : 0 < P.length
  · exact (szs_zero h _ (mem_getD hP)).2
  · have : P = [] := List.length_eq_zero_iff.1 (by omega)
    subst this
    exact Nat.zero_le _
def gds (P : List ByteArray) (p : Nat) : List ByteArray := (List.range p).map (Fd.guard P)

set_option maxHeartbeats 1000000 in
theorem guard_bad (v : Value) (P : List ByteArray) (p : Int) (w : World) (h : Tx w v P) (hl : P.length ≤ 140737488351232) (he : gErr P p ≠ 0) :
    Calls Tryd.prog 10 #[v, .int .i64 p] w fun e w' => e = .returned (.tuple #[.slice none 0 0, .int .i64 (gErr P p : Nat)]) ∧ w' = w := by
  have hc := checkSizes_any v P w h hl
  obtain ⟨a, c, rfl⟩ := h.slice
  have h1 := within_any (P.length : Int) 16 w
  have h2 := within_any p 8 w
  cases hb1 : wi P.length 16 with
  | false =>
    have HE : Hid (gErr P p = 1) := by show _ = _; unfold gErr; rw [hb1]; rfl
    rw [hb1] at h1
    clear h2 hc
    go_enter Tryd.func10, Tryd.ntmps10
    go_wp2_with (refine h1.mono ?_; rintro e u ⟨rfl, rfl⟩)
    go_ret2
    exact ⟨by rw [HE.out]; rfl, rfl⟩
  | true =>
    rw [hb1] at h1
    cases hb2 : wi p 8 with
    | false =>
      have HE : Hid (gErr P p = 1) := by show _ = _; unfold gErr; rw [hb1, hb2]; rfl
      rw [hb2] at h2
      clear hc
      go_enter Tryd.func10, Tryd.ntmps10
      go_wp2_with fail
      refine h1.mono ?_
      rintro e u ⟨rfl, hu⟩
      obtain rfl := hu.symm
      clear hu
      go_wp2_with fail
      refine h2.mono ?_
      rintro e u ⟨rfl, hu⟩
      obtain rfl := hu.symm
      clear hu
      go_wp2_with fail
      go_ret2
      exact ⟨by rw [HE.out]; rfl, rfl⟩
    | true =>
      have HE : Hid (gErr P p = sizes P) := by show _ = _; unfold gErr; rw [hb1, hb2]; rfl
      rw [HE.out] at he
      rw [hb2] at h2
      generalize sizes P = Z at *
      have hq : ((Z : Int) != 0) = true := by rw [bne_iff_ne]; omega
      go_enter Tryd.func10, Tryd.ntmps10
      go_wp2_with fail
      refine h1.mono ?_
      rintro e u ⟨rfl, hu⟩
      obtain rfl := hu.symm
      clear hu
      go_wp2_with fail
      refine h2.mono ?_
      rintro e u ⟨rfl, hu⟩
      obtain rfl := hu.symm
      clear hu
      go_wp2_with fail
      refine hc.mono ?_
      rintro e u ⟨rfl, hu⟩
      obtain rfl := hu.symm
      clear hu
      go_wp2_with fail
      go_ret2
      exact ⟨by rw [HE.out]; rfl, rfl⟩

set_option maxHeartbeats 2000000 in
theorem guard_ok (v : Value) (P : List ByteArray) (p : Nat) (w : World) (h : Tx w v P) (he : gErr P p = 0) :
    Calls Tryd.prog 10 #[v, .int .i64 p] w fun e w' => ∃ u, e = .returned (.tuple #[u, .int .i64 0]) ∧ w'.ownsRow w.heap.size 9 1 u (gds P p).length ((gds P p).map Tv) ∧ Below w.heap.size w w' := by
  obtain ⟨hP, hP2, hp, hp2, hs⟩ := gErr_zero he
  obtain ⟨i0, hi, hz0, hz1, hz2⟩ := info_parts info_str
  have hc := checkSizes_any v P w h (by omega)
  rw [hs] at hc
  have hm := sizes_zero hs
  have hm2 := sizes_le hs
  have hg := fun (j : Nat) (hj : j < p) W (hW : Below w.heap.size w W) => guardOf_any v P j _ W (h.below hW) hP hP2 (by omega) hm hm2
  obtain ⟨a, c, rfl⟩ := h.slice
  have h1 := within_any (P.length : Int) 16 w
  have h2 := within_any (p : Int) 8 w
  rw [show wi P.length 16 = true from decide_eq_true (by omega)] at h1
  rw [show wi p 8 = true from decide_eq_true (by omega)] at h2
  have HL : Hid ((gds P p).length = p ∧ gds P p = txTo (Fd.guard P) p p) := ⟨by simp [gds], (txTo_all _ _).symm⟩
  have HG : Hid (∀ (j : Nat) (hj : j < p) W (hW : Below w.heap.size w W), Calls Tryd.prog 14 #[.slice a P.length c, .int .i64 j] W fun e w' => e = .returned (.string (Fd.guard P j)) ∧ Below W.heap.size W w') := hg
  clear hg hm hm2 hs he
  generalize Fd.guard P = G at *
  generalize gds P p = R at *
  clear h
  generalize P.length = N at *
  go_enter Tryd.func10, Tryd.ntmps10
  go_wp2_with fail
  refine h1.mono ?_
  rintro e u ⟨rfl, hu⟩
  obtain rfl := hu.symm
  clear hu
  go_wp2_with fail
  refine h2.mono ?_
  rintro e u ⟨rfl, hu⟩
  obtain rfl := hu.symm
  clear hu
  go_wp2_with fail
  refine hc.mono ?_
  rintro e u ⟨rfl, hu⟩
  obtain rfl := hu.symm
  clear hu h1 h2 hc
  go_wp2_with (at_make; refine wpList_make_full _ rfl (.tmp 23) (.tmp 23) 22 rfl w.heap.size 9 i0 (.string ⟨#[]⟩) 1 Tryd.underlying22 hi hz0 hz1 .i64 .i64 _ _ p rfl rfl rfl rfl (by rw [hz2]; omega) (by unfold maxLen; omega) (Nat.le_refl _) ?_; intro w2 hown hgrow)
  have HB1 : Hid (Below w.heap.size w w2) := (Below.refl _ _).grown hgrow (Nat.le_refl _) (fun k hk => by cases hk)
  have HO : Hid (w2.ownsRow w.heap.size 9 1 (.slice (some ⟨w.heap.size, 0, none⟩) p p) p ((txTo G p 0).map Tv)) := by
    rw [txTo_zero]; exact made_tx hown
  clear hown hgrow hi hz0 hz1 hz2
  go_wp2_with fail
  go_loopw [27] (fun i wr => ∃ k : Nat, k ≤ p ∧ i = .int .i64 k ∧ Hid (wr.ownsRow w.heap.size 9 1 (.slice (some ⟨w.heap.size, 0, none⟩) p p) p ((txTo G p k).map Tv)) ∧ Hid (Below w.heap.size w wr)) (fun i _ => p - (intOf i).toNat)
  case atStart => exact ⟨0, by omega, rfl, HO, HB1⟩
  case round =>
    clear HO HB1
    obtain ⟨k, hk, rfl, HO, HB⟩ := hrel
    by_cases hlt : k < p
    · have hcall := HG.out k hlt wr HB.out
      have hcall' : Calls Tryd.prog 14 #[.slice a N c, .int .i64 k] wr fun e w' => e = .returned (.string (G k)) ∧ (∃ x, w'.cell? ⟨w.heap.size, k, none⟩ = some (.string x)) ∧ w'.frozen? ⟨w.heap.size, k, none⟩ = false ∧ Hid ((w'.setCell ⟨w.heap.size, k, none⟩ (.string (G k))).ownsRow w.heap.size 9 1 (.slice (some ⟨w.heap.size, 0, none⟩) p p) p ((txTo G p (k + 1)).map Tv)) ∧ Hid (Below w.heap.size w (w'.setCell ⟨w.heap.size, k, none⟩ (.string (G k)))) := hcall.mono fun e w' ⟨h1, h2⟩ => by
        have ho := own_below HO.out h2
        refine ⟨h1, tx_cell ho k hlt, ho.frozenAt k, ?_, ?_⟩
        · rw [txTo_set]; exact tx_store ho k _
        · exact (HB.out.trans (h2.mono HB.out.size)).setCell (Nat.le_refl _) _
      clear hcall HO HB
      generalize G k = gk at *
      go_wp2_with fail
      refine hcall'.mono ?_
      rintro e u ⟨rfl, ⟨x, c0⟩, f0, HO, HB⟩
      clear hcall'
      go_wp2_with fail
      go_roundw
      case rel => exact ⟨k + 1, by omega, by go_num, HO, HB⟩
      case measure => simp only [intOf]; omega
    · obtain rfl : k = p := by omega
      go_wp2_with fail
      go_ret2
      exact ⟨_, rfl, by rw [HL.out.1, HL.out.2]; exact HO.out, HB.out⟩
end Go.Proofs.YtoeohnknpbdgdaaDoor
