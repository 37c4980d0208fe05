/-
  Items cloned; an item's bytes set.
  An ID by its eight bytes.
  slices.Index and slices.Contains over blobs: whether a blob is there.
  P47 (no Go in it): a world in which one file is other, as the world with that file's bytes changed; what is new counted blob by blob.
  What Rest of the document's answer (package lumref) answers: the remainder, never below nought.
  The walk of lumkeep.WalkPath: it returns true.
-/
import Derived.Test.YtimdioacmojkeabGreatDoorGE
import Derived.Lib.SliceRun
import Derived.Test.YtimdioacmojkeabGreatDoorGA
import Derived.Test.YtimdioacmojkeabGreatDoorGD
import Derived.Deep.AppendLies

namespace Go.Proofs.YtimdioacmojkeabGreatDoor
open Go.RowKit
set_option maxRecDepth 4000

/-- the item of nothing -/
def im0 : Im := ⟨⟨#[]⟩, 0, 0, 0, ⟨#[]⟩⟩

theorem info_i3 {P : Program} {e : TypeId} {z : Option Value} {s b : Nat} (h : (P.info? e).map (fun i => (i.zero, i.size, i.bytes)) = some (z, s, b)) : ∃ i, P.info? e = some i ∧ i.zero = z ∧ i.size = s ∧ i.bytes = b := by
  cases hi : P.info? e with
  | none => rw [hi] at h; cases h
  | some i =>
    rw [hi] at h
    simp only [Option.map_some, Option.some.injEq, Prod.mk.injEq] at h
    exact ⟨i, rfl, h.1, h.2.1, h.2.2⟩

theorem info_imz : (Tryz.prog.info? 36).map (fun i => (i.zero, i.size, i.bytes)) = some (some (imV im0), 5, 56) := by kernel_rfl

theorem Rx.srci {α : Type} {k : Nat} {C : α → List Value} {w : World} {a : Option Addr} {n c : Nat} {l : List α} (hC : ∀ t, (C t).length = k) (hk : 0 < k) (h : Rx k C w (.slice a n c) l) : (a = none → l.length = 0) ∧ ∀ ad, a = some ad → ∀ j u, (rowR C l)[j]? = some u → w.cell? (ad.add j) = some u := by
  rcases h.at_ with ⟨_, rfl⟩ | ⟨bk, o, cap, h1, h3, h4⟩
  · exact ⟨fun _ => rfl, fun ad _ j u hj => by simp [rowR] at hj⟩
  · rw [Value.slice.injEq] at h1
    obtain ⟨rfl, rfl, rfl⟩ := h1
    refine ⟨fun e => by simp at e, fun ad e j u hj => ?_⟩
    obtain rfl := Option.some.inj e
    have hjl : j < l.length * k := by
      have := (List.getElem?_eq_some_iff.1 hj).1
      rwa [rowR_length hC] at this
    have hr : j % k < k := Nat.mod_lt _ hk
    have hq : j / k < l.length := (Nat.div_lt_iff_lt_mul hk).2 hjl
    have ej : j / k * k + j % k = j := by have := Nat.div_add_mod j k; rw [Nat.mul_comm] at this; exact this
    rw [← ej, rowR_get hC l (j / k) (j % k) l[j / k] (List.getElem?_eq_getElem hq) hr] at hj
    have := h4 (j / k) _ (List.getElem?_eq_getElem hq) (j % k) u hj
    rw [Nat.add_assoc, ej] at this
    rw [show ((⟨bk, o, none⟩ : Addr).add j) = ⟨bk, o + j, none⟩ from by unfold Addr.add; split <;> simp_all]
    exact this

set_option maxHeartbeats 2000000 in
theorem clone_items (v : Value) (l : List Im) (w : World) (h : Ims w v l) (hl : l.length ≤ 1000) :
    Calls Tryz.prog 8 #[v] w fun e w' => ∃ v', e = .returned v' ∧ w'.ownsRow w.heap.size 36 5 v' l.length (rowR imC l) ∧ Below w.heap.size w w' := by
  obtain ⟨i0, hi, hz0, hz1, hz2⟩ := info_i3 info_imz
  obtain ⟨a, c, rfl, _, _⟩ := h.slice
  have qn : ∀ (w : World) (a : Option Addr) (n c n' c' : Nat), (binOp .eql 26 (.slice a n c) (.slice none n' c')).run Tryz.prog w = .ok (.bool a.isNone) w := fun w a n c n' c' => Lib.run_eql_slice_nil w _ _ a n c n' c' Tryz.underlying26
  obtain ⟨hs1, hs2⟩ := h.srci imC_length (by omega)
  cases a with
  | none =>
    have hln : l = [] := List.length_eq_zero_iff.1 (hs1 rfl)
    subst hln
    clear hs1 hs2 h
    go_enter Tryz.func8, Tryz.ntmps8
    go_wp2_with fail
    go_ret
    exact ⟨.slice none 0 0, rfl, World.ownsRow_nil _ _ _ _, Below.refl _ _⟩
  | some ad =>
    have hsp := (h.below ((Below.refl w.heap.size w).alloc (Nat.le_refl _) (.cells #[] 36))).srci imC_length (by omega)
    have hcell2 := hsp.2 ad rfl
    have hown0 : (w.alloc (.cells #[] 36)).ownsRow w.heap.size 36 5 (.slice (some ⟨w.heap.size, 0, none⟩) 0 0) 0 [] := World.ownsRow_lit w #[] 0 (Nat.le_refl _) (by unfold maxLen; omega) rfl
    clear h hs1 hs2 hsp
    go_enter Tryz.func8, Tryz.ntmps8
    go_wp2_with (at_builtin; refine wpList_append_own _ rfl (.tmp 5) (.tmp 6) 26 rfl w.heap.size 36 i0 (imV im0) 5 56 Tryz.underlying26 hi hz0 hz1 hz2 (by kernel_rfl) (by decide) _ _ _ rfl hown0 ad l.length _ (rowR imC l) rfl (rowR_length imC_length l) hcell2 (rowR_one imC_one l) (by unfold maxLen; omega) (by omega) (by simp) ?_; intro v1 w3 o3 g3 _)
    simp only [Nat.zero_add, List.nil_append] at o3
    have HO : Hid (w3.ownsRow w.heap.size 36 5 v1 l.length (rowR imC l)) := o3
    have HB : Hid (Below w.heap.size w w3) := ((Below.refl _ w).alloc (Nat.le_refl _) _).grown g3 (by simp) (fun k hk => by cases hk; exact Nat.le_refl _)
    clear o3 g3
    go_ret
    exact ⟨v1, rfl, HO.out, HB.out⟩

/-- an item's bytes set -/
theorem set_item {w : World} {g N c : Nat} {l : List Im} (h : Ims w (.slice (some ⟨g, 0, none⟩) N c) l) (a : Nat) (x : Im) (hx : l[a]? = some x) (s : ByteArray) :
    Ims (w.setCell ⟨g, a * 5 + 4, none⟩ (.string s)) (.slice (some ⟨g, 0, none⟩) N c) (l.set a ⟨x.path, x.kind, x.mode, x.time, s⟩) := by
  obtain ⟨hat, hsl⟩ := h
  rcases hat with ⟨⟨a', c', e⟩, hn⟩ | ⟨bk, o, cp, e, hbk, hc⟩
  · rw [hn] at hx; simp at hx
  · cases e
    have hold : w.cell? ⟨g, a * 5 + 4, none⟩ = some (.string x.bytes) := by
      have := hc a x hx 4 _ rfl
      rwa [Nat.zero_add] at this
    refine ⟨.inr ⟨g, 0, c, by rw [List.length_set], by simpa [World.setCell] using hbk, fun j t hj r u hu => ?_⟩, hsl⟩
    rw [Nat.zero_add]
    rw [List.getElem?_set] at hj
    have hr5 : r < 5 := by have := (List.getElem?_eq_some_iff.1 hu).1; simpa using this
    by_cases ha : a = j
    · subst ha
      rw [if_pos rfl] at hj
      split at hj
      · obtain rfl := Option.some.inj hj
        by_cases h4 : r = 4
        · subst h4
          have hu' : some (Value.string s) = some u := hu
          obtain rfl := Option.some.inj hu'
          exact World.cell?_setCell_same _ _ _ hold
        · have e2 : (imC x)[r]? = some u := by
            match r, hr5, h4, hu with
            | 0, _, _, hu => exact hu
            | 1, _, _, hu => exact hu
            | 2, _, _, hu => exact hu
            | 3, _, _, hu => exact hu
            | 4, _, h4, _ => exact absurd rfl h4
          rw [World.cell?_setCell_other _ _ _ _ (by intro e; simp only [Addr.mk.injEq] at e; omega)]
          have := hc a x hx r u e2
          rwa [Nat.zero_add] at this
      · cases hj
    · rw [if_neg ha] at hj
      rw [World.cell?_setCell_other _ _ _ _ (by intro e; simp only [Addr.mk.injEq] at e; omega)]
      have := hc j t hj r u hu
      rwa [Nat.zero_add] at this

end Go.Proofs.YtimdioacmojkeabGreatDoor

namespace Go.Proofs.YtimdioacmojkeabGreatDoor
open Go.RowKit

theorem oct8 {t : List UInt8} (h : t.length = 8) : ∃ b0 b1 b2 b3 b4 b5 b6 b7, t = [b0, b1, b2, b3, b4, b5, b6, b7] := by
  match t, h with
  | [b0, b1, b2, b3, b4, b5, b6, b7], _ => exact ⟨b0, b1, b2, b3, b4, b5, b6, b7, rfl⟩

end Go.Proofs.YtimdioacmojkeabGreatDoor

namespace Go.Proofs.YtimdioacmojkeabGreatDoor
open Go.RowKit
set_option maxRecDepth 4000

set_option maxHeartbeats 4000000 in
set_option maxRecDepth 10000 in
theorem ixBl_any (v : Value) (l : List Blb) (t : Blb) (w : World) (h : Bx w v l) :
    Calls Tryz.prog 24 #[v, blV t] w fun e w' => ∃ r : Int, e = .returned (.int .i64 r) ∧ (0 ≤ r ↔ t ∈ l) ∧ Below w.heap.size w w' := by
  obtain ⟨a1, c1, rfl, j1, j2⟩ := h.slice
  have HX : Hid (Bx w (.slice a1 l.length c1) l) := h
  obtain ⟨N, hN⟩ : ∃ N, N = l.length := ⟨_, rfl⟩
  have HN : Hid (N = l.length) := hN
  rw [← hN] at HX j1 ⊢
  clear h hN
  obtain ⟨W1, hW1⟩ : ∃ W1, W1 = w.alloc (.cells #[.int .i64 t.kind, .string t.bytes] 42) := ⟨_, rfl⟩
  have HW1 : Hid (Below w.heap.size w W1) := by rw [hW1]; exact (Below.refl _ w).alloc (Nat.le_refl _) _
  have HM1 : Hid (W1.heap[w.heap.size]? = some (.cells #[.int .i64 t.kind, .string t.bytes] 42 (0, 0))) := by rw [hW1]; exact heap_alloc_new w _
  unfold blV
  go_enter Tryz.func24, Tryz.ntmps24
  go_upto_region 1 with fail
  rw [← hW1]
  clear hW1
  go_wp2_with fail
  go_loopw [5, 8] (fun q i wr => ∃ k : Nat, k ≤ N ∧ i = .int .i64 k ∧ Hid (Below w.heap.size w wr ∧ wr.heap[w.heap.size]? = some (.cells #[.int .i64 t.kind, .string t.bytes] 42 (0, 0)) ∧ t ∉ l.take k)) (fun _ i _ => N - (intOf i).toNat)
  case atStart => exact ⟨0, by omega, rfl, HW1.out, HM1.out, by simp⟩
  case round =>
    clear HW1 HM1
    obtain ⟨k, hk, rfl, HB⟩ := hrel
    by_cases hlt : k < N
    · have hkl : k < l.length := by rw [← HN.out]; exact hlt
      obtain ⟨y, hy⟩ : ∃ y, l[k]? = some y := ⟨_, List.getElem?_eq_getElem hkl⟩
      have HY : Hid (l[k]? = some y) := hy
      obtain ⟨bk, o, rfl, hbk, c0, c1⟩ := (HX.out.below HB.out.1).blob k y hy
      have d0 : wr.cell? ⟨w.heap.size, 0, none⟩ = some (.int .i64 t.kind) := by rw [cell_of_row _ _ _ _ _ _ HB.out.2.1]; rfl
      have d1 : wr.cell? ⟨w.heap.size, 1, none⟩ = some (.string t.bytes) := by rw [cell_of_row _ _ _ _ _ _ HB.out.2.1]; rfl
      have heq := fun W => bl_cmp W t y
      have HS : Hid (blSame t y = true ↔ t = y) := blSame_iff
      generalize blSame t y = S at *
      clear hy hbk
      cases S with
      | true =>
        have HIN : Hid (t ∈ l) := by
          have e : t = y := HS.out.1 (by first | exact trivial | rfl)
          rw [e]; exact List.mem_of_getElem? HY.out
        go_wp2_with fail
        go_quiet (fail)
        clear c0 c1 d0 d1 heq
        go_wp2_with fail
        go_ret
        exact ⟨k, rfl, ⟨fun _ => HIN.out, fun _ => by omega⟩, Go.below_drewN HB.out.1 _⟩
      | false =>
        have HNO : Hid (t ∉ l.take (k + 1)) := by
          have e : t ≠ y := fun e => by have := HS.out.2 e; cases this
          show _ ∉ _
          rw [List.take_add_one, HY.out, Option.toList_some, List.mem_append, List.mem_singleton]
          rintro (q | q)
          · exact HB.out.2.2 q
          · exact e q
        go_wp2_with fail
        go_quiet (fail)
        clear c0 c1 d0 d1 heq
        go_wp2_with fail
        go_roundw
        case rel => exact ⟨k + 1, by omega, by go_num, Go.below_drewN HB.out.1 _, HB.out.2.1, HNO.out⟩
        case measure => simp only [intOf]; omega
    · have HNI : Hid (t ∉ l) := by
        have := HB.out.2.2
        rw [List.take_of_length_le (by rw [← HN.out]; omega)] at this
        exact this
      go_wp2_with fail
      go_ret
      exact ⟨-1, rfl, ⟨fun q => by omega, fun q => absurd q HNI.out⟩, HB.out.1⟩

set_option maxHeartbeats 2000000 in
theorem hasBl_any (v : Value) (l : List Blb) (t : Blb) (w : World) (h : Bx w v l) :
    Calls Tryz.prog 10 #[v, blV t] w fun e w' => ∃ b : Bool, e = .returned (.bool b) ∧ (b = true ↔ t.p ∈ pl l) ∧ Below w.heap.size w w' := by
  obtain ⟨W1, hW1⟩ : ∃ W1, W1 = w.alloc (.cells #[.int .i64 t.kind, .string t.bytes] 42) := ⟨_, rfl⟩
  have HB1 : Hid (Below w.heap.size w W1) := by rw [hW1]; exact (Below.refl _ w).alloc (Nat.le_refl _) _
  have d0 : W1.cell? ⟨w.heap.size, 0, none⟩ = some (.int .i64 t.kind) := by rw [hW1]; simp
  have d1 : W1.cell? ⟨w.heap.size, 1, none⟩ = some (.string t.bytes) := by rw [hW1]; simp
  have hix := ixBl_any v l t W1 (h.below HB1.out)
  have HI : Hid (t ∈ l ↔ t.p ∈ pl l) := by
    show _ ↔ _
    unfold pl
    rw [List.mem_map]
    exact ⟨fun q => ⟨t, q, rfl⟩, fun ⟨y, hy, e⟩ => by rw [← Blb.p_inj e]; exact hy⟩
  unfold blV at hix ⊢
  clear h
  go_enter Tryz.func10, Tryz.ntmps10
  go_upto_region 1 with fail
  rw [← hW1]
  clear hW1
  go_wp2_with fail
  refine hix.mono ?_
  rintro e w2 ⟨r, rfl, hr, b2⟩
  have HB2 : Hid (Below w.heap.size w w2) := HB1.out.trans (b2.mono HB1.out.size)
  have HR : Hid (0 ≤ r ↔ t ∈ l) := hr
  clear hix b2 hr d0 d1
  by_cases h0 : 0 ≤ r
  · have HT : Hid (t.p ∈ pl l) := HI.out.1 (HR.out.1 h0)
    go_wp2_with fail
    go_ret
    first | exact ⟨true, by simp, ⟨fun _ => HT.out, fun _ => rfl⟩, HB2.out⟩ | exact ⟨_, rfl, ⟨fun _ => HT.out, fun _ => by simp [h0]⟩, HB2.out⟩
  · have HT : Hid (t.p ∉ pl l) := fun q => h0 (HR.out.2 (HI.out.2 q))
    have hlt : r < 0 := by omega
    go_wp2_with fail
    go_ret
    first | exact ⟨false, by simp [hlt], ⟨fun q => absurd q (by decide), fun q => absurd q HT.out⟩, HB2.out⟩ | exact ⟨_, rfl, ⟨fun q => absurd (by simpa using q) h0, fun q => absurd q HT.out⟩, HB2.out⟩

end Go.Proofs.YtimdioacmojkeabGreatDoor

namespace Go.Proofs.YtimdioacmojkeabGreatDoor
namespace Wk
open Nn (Name)
open Pk (Bl)

theorem nms_apart {w : List It} (hs : Sorted It.nms w) {i j : Nat} {x y : It} (hx : w[i]? = some x) (hy : w[j]? = some y) (e : x.nms = y.nms) : i = j := by
  have key : ∀ (i j : Nat) (x y : It), w[i]? = some x → w[j]? = some y → i < j → x.nms ≠ y.nms := fun i j x y hx hy hij e => by
    obtain ⟨hi, rfl⟩ := List.getElem?_eq_some_iff.1 hx
    obtain ⟨hj, rfl⟩ := List.getElem?_eq_some_iff.1 hy
    have := List.pairwise_iff_getElem.1 hs i j hi hj hij
    rw [e, Nn.ahead_irr] at this
    cases this
  rcases Nat.lt_trichotomy i j with h | h | h
  · exact absurd e (key i j x y hx hy h)
  · exact h
  · exact absurd e.symm (key j i y x hy hx h)

/-- one item with other bytes, as the map -/
theorem set_chg {w : List It} (hs : Sorted It.nms w) {a : Nat} {x : It} (hx : w[a]? = some x) (s : Bs) : w.set a ⟨x.path, x.kind, x.mode, x.time, s⟩ = w.map (chg x.nms s) := by
  apply List.ext_getElem?
  intro i
  rw [List.getElem?_set, List.getElem?_map]
  by_cases h : a = i
  · subst h
    rw [if_pos rfl, hx]
    rw [if_pos (List.getElem?_eq_some_iff.1 hx).1]
    simp [chg]
  · rw [if_neg h]
    cases hi : w[i]? with
    | none => rfl
    | some y =>
      have : y.nms ≠ x.nms := fun e => h (nms_apart hs hx hi e.symm)
      rw [Option.map_some, chg_other this]

/-- how many of these are new and a directory, how many are new and none -/
def cntD (l : List Bl) (m : List Bl) : Nat := ((m.filter fun b => decide (b ∉ l)).filter fun b => decide (b.1 = 2)).length

def cntP (l : List Bl) (m : List Bl) : Nat := ((m.filter fun b => decide (b ∉ l)).filter fun b => decide (b.1 ≠ 2)).length

theorem cnt_nil (l : List Bl) : cntD l [] = 0 ∧ cntP l [] = 0 := ⟨rfl, rfl⟩

theorem cnt_snoc (l m : List Bl) (b : Bl) : cntD l (m ++ [b]) = (if b ∈ l then cntD l m else if b.1 = 2 then cntD l m + 1 else cntD l m) ∧ cntP l (m ++ [b]) = (if b ∈ l then cntP l m else if b.1 = 2 then cntP l m else cntP l m + 1) := by
  unfold cntD cntP
  rw [List.filter_append]
  by_cases h : b ∈ l
  · simp [h]
  · by_cases h2 : b.1 = 2
    · simp [h, h2, List.filter_append]
    · simp [h, h2, List.filter_append]

theorem cnt_few (l m : List Bl) (k : Nat) : cntD l (m.take k) ≤ m.length ∧ cntP l (m.take k) ≤ m.length := by
  have h : (m.take k).length ≤ m.length := by rw [List.length_take]; omega
  refine ⟨?_, ?_⟩
  · unfold cntD
    exact Nat.le_trans (List.length_filter_le _ _) (Nat.le_trans (List.length_filter_le _ _) h)
  · unfold cntP
    exact Nat.le_trans (List.length_filter_le _ _) (Nat.le_trans (List.length_filter_le _ _) h)

end Wk

end Go.Proofs.YtimdioacmojkeabGreatDoor

namespace Go.Proofs.YtimdioacmojkeabGreatDoor
open Go.RowKit
set_option maxRecDepth 4000

theorem tmod_bounds (a : Int) (n : Nat) (hn : 0 < n) : -(n : Int) < a.tmod n ∧ a.tmod n < n := by
  have h0 : (0 : Int) < n := by omega
  by_cases ha : 0 ≤ a
  · have h1 := Int.tmod_nonneg (n : Int) ha
    have h2 := Int.tmod_lt_of_pos a h0
    omega
  · have h1 := Int.tmod_nonneg (n : Int) (show 0 ≤ -a by omega)
    have h2 := Int.tmod_lt_of_pos (-a) h0
    rw [Int.neg_tmod] at h1 h2
    omega

set_option maxHeartbeats 400000 in
theorem rest_any (a : Int) (n : Nat) (w : World) (hn : 0 < n) (hb : n ≤ 1000000000000000) :
    Calls Tryz.prog 7 #[.int .i64 a, .int .i64 n] w fun e w' => (∃ r : Nat, r < n ∧ e = .returned (.int .i64 r)) ∧ w' = w := by
  obtain ⟨h1, h2⟩ := tmod_bounds a n hn
  have h3 : 0 ≤ a.tmod n + n := by omega
  have h4 := Int.emod_nonneg (a.tmod n + n) (show (n : Int) ≠ 0 by omega)
  have h5 := Int.emod_lt_of_pos (a.tmod n + n) (show (0 : Int) < n by omega)
  go_enter Tryz.func7, Tryz.ntmps7
  go_wp2_with fail
  go_ret
  exact ⟨⟨((a.tmod n + n) % n).toNat, by omega, ret_int (by omega)⟩, rfl⟩
end Go.Proofs.YtimdioacmojkeabGreatDoor

namespace Go.Proofs.YtimdioacmojkeabGreatDoor
open Go.RowKit
set_option maxRecDepth 4000

/-- Plant at a world that it refuses -/
theorem plant_bad2 {fx mn mx bt : Int} {v : Value} {l : List Im} {w : World} (h : Ims w v l) (hl : l.length ≤ 140737488351232) (hok : ∀ x ∈ l, x.Ok) (hT : Tabs w) {E : Int} (hE : E = (plantP fx mn mx bt (its l)).2.2) (h0 : E ≠ 0) :
    Calls Tryz.prog 6 #[wayV fx mn mx bt, v] w fun e w' => e = .returned (.tuple #[.slice none 0 0, .agg #[.int .u8 0, .int .u8 0, .int .u8 0, .int .u8 0, .int .u8 0, .int .u8 0, .int .u8 0, .int .u8 0], .int .i64 E]) ∧ Below w.heap.size w w' := by
  refine (plant_any fx mn mx bt v l w h hl hok hT).mono ?_
  rintro e w' ⟨v', id, he, h8, hb, hk, _⟩
  rw [← hE] at he hk
  obtain ⟨rfl, rfl⟩ := hk h0
  exact ⟨by rw [he]; rfl, hb⟩

set_option maxRecDepth 20000 in
set_option maxHeartbeats 4000000 in
theorem walkPath_walk (fx mn mx bt : Int) (v : Value) (l : List Im) (kk : Int) (s : ByteArray) (z : l.length ≤ 140737488351232) (f : ∀ x ∈ l, x.Ok) (_ : (Lit.int .i64 kk).wf = true) (zs : s.size ≤ 140737488351232) (w : World) (t : Ims w v l) (hT : Tabs w) :
    Calls Tryz.prog 3 #[wayV fx mn mx bt, v, .int .i64 kk, .string s] w fun e w' => e = .returned (.bool true) ∧ Below w.heap.size w w' := by
  obtain ⟨W1, hW1⟩ : ∃ W1, W1 = w.alloc (.cells #[.int .i64 fx, .int .i64 mn, .int .i64 mx, .int .i64 bt] 25) := ⟨_, rfl⟩
  have HB1 : Hid (Below w.heap.size w W1) := by rw [hW1]; exact (Below.refl _ w).alloc (Nat.le_refl _) _
  have c0 : W1.cell? ⟨w.heap.size, 0, none⟩ = some (.int .i64 fx) := by rw [hW1]; simp
  have c1 : W1.cell? ⟨w.heap.size, 1, none⟩ = some (.int .i64 mn) := by rw [hW1]; simp
  have c2 : W1.cell? ⟨w.heap.size, 2, none⟩ = some (.int .i64 mx) := by rw [hW1]; simp
  have c3 : W1.cell? ⟨w.heap.size, 3, none⟩ = some (.int .i64 bt) := by rw [hW1]; simp
  have hs1 : w.heap.size < W1.heap.size := by rw [hW1]; simp
  have HX : Hid (Ims w v l) := t
  have HT : Hid (Tabs w) := hT
  have HF : Hid (∀ x ∈ l, x.Ok) := f
  have HZ : Hid (l.length ≤ 140737488351232 ∧ s.size ≤ 140737488351232) := ⟨z, zs⟩
  have hwk := walked_any W1 (hT.below HB1.out)
  obtain ⟨P, hP⟩ : ∃ P, P = plantP fx mn mx bt (its l) := ⟨_, rfl⟩
  have HP : Hid (P = plantP fx mn mx bt (its l)) := hP
  obtain ⟨aa, ca, rfl, _, _⟩ := t.slice
  obtain ⟨N, hN⟩ : ∃ N, N = l.length := ⟨_, rfl⟩
  have HN : Hid (N = l.length) := hN
  rw [← hN] at HX ⊢
  clear t hT f z hP hN zs
  go_enter Tryz.func3, Tryz.ntmps3
  go_upto_region 1 with fail
  rw [← hW1]
  obtain ⟨p1, hp1⟩ : ∃ p1, p1 = w.heap.size := ⟨_, rfl⟩
  rw [← hp1] at c0 c1 c2 c3 hs1 ⊢
  clear hW1 hp1
  go_wp2_with fail
  refine hwk.mono ?_
  rintro e w2 ⟨rfl, b2⟩
  have HB2 : Hid (Below w.heap.size w w2) := HB1.out.trans (b2.mono HB1.out.size)
  have hs2 : p1 < w2.heap.size := Nat.lt_of_lt_of_le hs1 b2.size
  have d0 := (b2.cell (p := ⟨p1, 0, none⟩) hs1).trans c0
  have d1 := (b2.cell (p := ⟨p1, 1, none⟩) hs1).trans c1
  have d2 := (b2.cell (p := ⟨p1, 2, none⟩) hs1).trans c2
  have d3 := (b2.cell (p := ⟨p1, 3, none⟩) hs1).trans c3
  have HW : Hid (∀ W, Below w2.heap.size w2 W → W.cell? ⟨p1, 0, none⟩ = some (.int .i64 fx) ∧ W.cell? ⟨p1, 1, none⟩ = some (.int .i64 mn) ∧ W.cell? ⟨p1, 2, none⟩ = some (.int .i64 mx) ∧ W.cell? ⟨p1, 3, none⟩ = some (.int .i64 bt)) := fun W hW =>
    ⟨(hW.cell (p := ⟨p1, 0, none⟩) hs2).trans d0, (hW.cell (p := ⟨p1, 1, none⟩) hs2).trans d1, (hW.cell (p := ⟨p1, 2, none⟩) hs2).trans d2, (hW.cell (p := ⟨p1, 3, none⟩) hs2).trans d3⟩
  have HX2 : Hid (Ims w2 (.slice aa N ca) l) := HX.out.below HB2.out
  clear hwk b2 c0 c1 c2 c3 hs1 hs2
  by_cases hE : P.2.2 = 0
  case neg =>
    have hpl := plant_bad2 (fx := fx) (mn := mn) (mx := mx) (bt := bt) HX2.out HZ.out.1 HF.out (HT.out.below HB2.out) (E := P.2.2) (by rw [HP.out]) hE
    have hne : (P.2.2 != 0) = true := by rw [bne_iff_ne]; exact hE
    have hne2 : (P.2.2 == 0) = false := beq_eq_false_iff_ne.2 hE
    generalize P.2.2 = E at *
    clear hE
    go_wp2_with fail
    refine hpl.mono ?_
    rintro e w3 ⟨rfl, b3⟩
    have HB4 : Hid (∀ o, Below w.heap.size w (w3.alloc o)) := fun o => by
      have h := HB2.out.trans (b3.mono HB2.out.size)
      exact h.alloc h.size _
    clear hpl b3
    go_wp2_with fail
    go_ret
    exact ⟨rfl, HB4.out _⟩
  have hpl := plant_ok (fx := fx) (mn := mn) (mx := mx) (bt := bt) HX2.out HZ.out.1 HF.out (HT.out.below HB2.out) HP.out hE
  have HPl : Hid (Pld fx mn mx bt l P.1 P.2.1) := by
    show Pld _ _ _ _ _ _ _
    rw [HP.out]
    exact Pld.of HF.out (by rw [← HP.out]; exact hE)
  clear hE
  go_wp2_with fail
  refine hpl.mono ?_
  rintro e w3 ⟨v3, bs, rfl, hbs, h8, o3, x3, k3, n3, b3⟩
  have HB23 : Hid (Below w2.heap.size w2 w3) := b3
  have HBS : Hid (pl bs = P.1) := hbs
  obtain ⟨d0', d1', d2', d3', d4', d5', d6', d7', hid⟩ := eight _ h8
  have hag : idV [d0', d1', d2', d3', d4', d5', d6', d7'] = .agg #[.int .u8 (d0'.toNat : Int), .int .u8 (d1'.toNat : Int), .int .u8 (d2'.toNat : Int), .int .u8 (d3'.toNat : Int), .int .u8 (d4'.toNat : Int), .int .u8 (d5'.toNat : Int), .int .u8 (d6'.toNat : Int), .int .u8 (d7'.toNat : Int)] := rfl
  rw [hid, hag]
  obtain ⟨a3, c3, e3, _, _⟩ := x3.slice
  subst e3
  obtain ⟨K, hK⟩ : ∃ K, K = bs.length := ⟨_, rfl⟩
  have HK : Hid (K = bs.length) := hK
  rw [← hK] at x3 ⊢
  obtain ⟨W4, hW4⟩ : ∃ W4, W4 = w3.alloc (.cells #[.int .u8 (d0'.toNat : Int), .int .u8 (d1'.toNat : Int), .int .u8 (d2'.toNat : Int), .int .u8 (d3'.toNat : Int), .int .u8 (d4'.toNat : Int), .int .u8 (d5'.toNat : Int), .int .u8 (d6'.toNat : Int), .int .u8 (d7'.toNat : Int)] 30) := ⟨_, rfl⟩
  have h34 : Below w3.heap.size w3 W4 := by rw [hW4]; exact (Below.refl _ w3).alloc (Nat.le_refl _) _
  have HB24 : Hid (Below w2.heap.size w2 W4) := HB23.out.trans (h34.mono HB23.out.size)
  have HB4 : Hid (Below w.heap.size w W4) := HB2.out.trans (HB24.out.mono HB2.out.size)
  have HX4 : Hid (Bx W4 (.slice a3 K c3) bs) := x3.below h34
  have HI4 : Hid (Ims W4 (.slice aa N ca) l) := HX2.out.below HB24.out
  have HNL : Hid (N ≤ 100) := by have := HPl.out.few; rw [its_length, ← HN.out] at this; exact this
  clear hpl b3 h8 o3 hbs hid x3 k3 hag h34 hK d0 d1 d2 d3 n3
  go_upto_region 4 with fail
  rw [← hW4]
  obtain ⟨p2, hp2⟩ : ∃ p2, p2 = w3.heap.size := ⟨_, rfl⟩
  rw [← hp2]
  clear hW4 hp2
  by_cases hN0 : N = 0
  · subst hN0
    go_wp2_with fail
    go_ret
    exact ⟨rfl, HB4.out⟩
  have hNb : (((N : Nat) : Int) == 0) = false := by rw [beq_eq_false_iff_ne]; omega
  have hrs := fun W => rest_any kk N W (by omega) (by have := HNL.out; omega)
  go_wp2_with fail
  refine (hrs _).mono ?_
  rintro e u4 ⟨⟨r, hr, rfl⟩, hu⟩
  obtain rfl := hu.symm
  clear hrs hu hNb
  have hrl : r < l.length := by rw [← HN.out]; exact hr
  obtain ⟨x, hx⟩ : ∃ x, l[r]? = some x := ⟨_, List.getElem?_eq_getElem hrl⟩
  have HXR : Hid (l[r]? = some x) := hx
  have hxo := HF.out x (List.mem_of_getElem? hx)
  have HXO : Hid x.Ok := hxo
  obtain ⟨ib, io, rfl, hib, x0, x1, x2, x3, x4⟩ := HI4.out.item r x hx
  by_cases hk1 : x.kind = 1
  case neg =>
    have hkn : (x.kind != 1) = true := by rw [bne_iff_ne]; exact hk1
    clear hxo hx hk1
    go_wp2_with fail
    go_ret
    exact ⟨rfl, HB4.out⟩
  rw [hk1] at x1
  have HK1 : Hid (x.kind = 1) := hk1
  have hcl := clone_items (.slice (some ⟨ib, io, none⟩) N ca) l W4 HI4.out (by have := HNL.out; rw [← HN.out]; omega)
  clear hxo hx hk1 x0 x2 x3 x4
  go_wp2_with fail
  refine hcl.mono ?_
  rintro e w5 ⟨v5, rfl, o5, b5⟩
  have HB45 : Hid (Below W4.heap.size W4 w5) := b5
  have hx5 : Ims w5 v5 l := Rx.of_own imC_length o5
  obtain ⟨a5, c5, e5, hc51, hc52⟩ := hx5.slice
  subst e5
  rw [← HN.out] at o5 hx5 hc51 ⊢
  obtain ⟨g, cur, rfl, hg0, hg1⟩ : ∃ g cur, a5 = some ⟨g, 0, none⟩ ∧ W4.heap.size ≤ g ∧ w5.heap[g]? = some (.cells cur 36 (0, 0)) := by
    rcases o5.2 with ⟨_, h0⟩ | ⟨g, cap, cur, e, h1, h2, _⟩
    · exact absurd h0 hN0
    · cases e
      exact ⟨g, cur, rfl, h1, h2⟩
  have hfz : w5.frozen? ⟨g, r * 5 + 4, none⟩ = false := free_at hg1 _
  obtain ⟨gb, go, ge, hgl, g0, g1, g2, g3, g4⟩ := hx5.item r x HXR.out
  cases ge
  have g4' : w5.cell? ⟨g, r * 5 + 4, none⟩ = some (.string x.bytes) := by have := g4; rwa [Nat.zero_add] at this
  obtain ⟨W6, hW6⟩ : ∃ W6, W6 = w5.setCell ⟨g, r * 5 + 4, none⟩ (.string s) := ⟨_, rfl⟩
  obtain ⟨x', hx'⟩ : ∃ x' : Im, x' = ⟨x.path, x.kind, x.mode, x.time, s⟩ := ⟨_, rfl⟩
  have HX6 : Hid (Ims W6 (.slice (some ⟨g, 0, none⟩) N c5) (l.set r x')) := by rw [hW6, hx']; exact set_item hx5 r x HXR.out s
  have HB46 : Hid (Below W4.heap.size W4 W6) := by rw [hW6]; exact HB45.out.setCell hg0 _
  have HB6 : Hid (Below w.heap.size w W6) := HB4.out.trans (HB46.out.mono HB4.out.size)
  have HB26 : Hid (Below w2.heap.size w2 W6) := HB24.out.trans (HB46.out.mono HB24.out.size)
  have hok' : ∀ y ∈ l.set r x', y.Ok := fun y hy => by
    rcases List.mem_or_eq_of_mem_set hy with q | q
    · exact HF.out y q
    · rw [q, hx']
      exact ⟨HXO.out.path, HZ.out.2, HXO.out.time⟩
  have HOK' : Hid (∀ y ∈ l.set r x', y.Ok) := hok'
  obtain ⟨Q, hQ⟩ : ∃ Q, Q = plantP fx mn mx bt (its (l.set r x')) := ⟨_, rfl⟩
  have HQ : Hid (Q = plantP fx mn mx bt (its (l.set r x'))) := hQ
  have HZ' : Hid ((l.set r x').length ≤ 140737488351232) := by show _ ≤ _; rw [List.length_set]; exact HZ.out.1
  obtain ⟨e0, e1, e2, e3⟩ := HW.out W6 HB26.out
  clear hcl b5 o5 hx5 g0 g1 g2 g3 g4 hgl hok' hQ x1 hib
  go_upto_region 11 with fail
  rw [← hW6]
  clear hW6 g4' hfz hg1 hg0
  by_cases hE2 : Q.2.2 = 0
  case neg =>
    have hpl := plant_bad2 (fx := fx) (mn := mn) (mx := mx) (bt := bt) HX6.out HZ'.out HOK'.out (HT.out.below HB6.out) (E := Q.2.2) (by rw [HQ.out]) hE2
    have hne : (Q.2.2 != 0) = true := by rw [bne_iff_ne]; exact hE2
    generalize Q.2.2 = E at *
    clear hE2
    go_wp2_with fail
    refine hpl.mono ?_
    rintro e w7 ⟨rfl, b7⟩
    have HB8 : Hid (∀ o, Below w.heap.size w (w7.alloc o)) := fun o => by
      have h := HB6.out.trans (b7.mono HB6.out.size)
      exact h.alloc h.size _
    clear hpl b7
    go_wp2_with fail
    go_ret
    exact ⟨rfl, HB8.out _⟩
  have hpl := plant_ok (fx := fx) (mn := mn) (mx := mx) (bt := bt) HX6.out HZ'.out HOK'.out (HT.out.below HB6.out) HQ.out hE2
  have HQl : Hid (Pld fx mn mx bt (l.set r x') Q.1 Q.2.1) := by
    show Pld _ _ _ _ _ _ _
    rw [HQ.out]
    exact Pld.of HOK'.out (by rw [← HQ.out]; exact hE2)
  clear hE2
  go_wp2_with fail
  refine hpl.mono ?_
  rintro e w7 ⟨v7, cs, rfl, hcs, h8, o7, x7, k7, n7, b7⟩
  have HB67 : Hid (Below W6.heap.size W6 w7) := b7
  have HCS : Hid (pl cs = Q.1) := hcs
  have HCN : Hid (cs.length ≤ 1000000) := n7
  obtain ⟨q0, q1, q2, q3, q4, q5, q6, q7, hid⟩ := eight _ h8
  have hag : idV [q0, q1, q2, q3, q4, q5, q6, q7] = .agg #[.int .u8 (q0.toNat : Int), .int .u8 (q1.toNat : Int), .int .u8 (q2.toNat : Int), .int .u8 (q3.toNat : Int), .int .u8 (q4.toNat : Int), .int .u8 (q5.toNat : Int), .int .u8 (q6.toNat : Int), .int .u8 (q7.toNat : Int)] := rfl
  rw [hid, hag]
  obtain ⟨a7, c7, e7, _, _⟩ := x7.slice
  subst e7
  obtain ⟨M, hM⟩ : ∃ M, M = cs.length := ⟨_, rfl⟩
  have HM : Hid (M = cs.length) := hM
  rw [← hM] at x7 ⊢
  obtain ⟨W8, hW8⟩ : ∃ W8, W8 = w7.alloc (.cells #[.int .u8 (q0.toNat : Int), .int .u8 (q1.toNat : Int), .int .u8 (q2.toNat : Int), .int .u8 (q3.toNat : Int), .int .u8 (q4.toNat : Int), .int .u8 (q5.toNat : Int), .int .u8 (q6.toNat : Int), .int .u8 (q7.toNat : Int)] 30) := ⟨_, rfl⟩
  have h78 : Below w7.heap.size w7 W8 := by rw [hW8]; exact (Below.refl _ w7).alloc (Nat.le_refl _) _
  have HB68 : Hid (Below W6.heap.size W6 W8) := HB67.out.trans (h78.mono HB67.out.size)
  have HB48 : Hid (Below W4.heap.size W4 W8) := HB46.out.trans (HB68.out.mono HB46.out.size)
  have HB8 : Hid (Below w.heap.size w W8) := HB4.out.trans (HB48.out.mono HB4.out.size)
  have HC8 : Hid (Bx W8 (.slice a7 M c7) cs) := x7.below h78
  obtain ⟨ib2, io2, ie, hib, x0, _⟩ := (HI4.out.below HB48.out).item r x HXR.out
  cases ie
  have hsp := split_any x.path W8 (by have : x.path.size ≤ 140737488351232 := HXO.out.path; omega) (HT.out.below HB8.out)
  clear hpl b7 h8 o7 hcs hid x7 k7 n7 hag h78 hM e0 e1 e2 e3 hib
  go_upto_region 14 with fail
  rw [← hW8]
  generalize w7.heap.size = p3 at *
  clear hW8
  go_wp2_with fail
  refine hsp.mono ?_
  rintro e w9 ⟨v9, ps, rfl, hps, tx9, _, b9⟩
  have HB89 : Hid (Below W8.heap.size W8 w9) := b9
  have HB9 : Hid (Below w.heap.size w w9) := HB8.out.trans (b9.mono HB8.out.size)
  obtain ⟨a9, c9, rfl⟩ := tx9.slice
  have hpl9 : ps.length = x.it.nms.length := by rw [← dl_length, hps]; rfl
  have HPN : Hid (ps.length = x.it.nms.length) := hpl9
  have HC9 : Hid (Bx w9 (.slice a7 M c7) cs) := HC8.out.below b9
  have HL9 : Hid (Bx w9 (.slice a3 K c3) bs) := HX4.out.below (HB48.out.trans (b9.mono HB48.out.size))
  obtain ⟨PN, hPN⟩ : ∃ PN, PN = ps.length := ⟨_, rfl⟩
  have HPL : Hid (PN = ps.length) := hPN
  rw [← hPN]
  have HNEW : Hid (Wk.cntD (pl bs) (pl cs) ≤ PN ∧ Wk.cntP (pl bs) (pl cs) ≤ s.size / 16 + 1) := by
    show _ ∧ _
    have hitx : (its l)[r]? = some x.it := by rw [its, List.getElem?_map, HXR.out]; rfl
    have hset : its (l.set r x') = (its l).map (Wk.chg x.it.nms s.data.toList) := by
      rw [← Wk.set_chg HPl.out.good.right.sorted hitx s.data.toList, its, its, List.map_set, hx']
      rfl
    have hq1 : ∀ y ∈ its l, y.nms = x.it.nms → y.kind = 1 := fun y hy e => by
      obtain ⟨i, hi, ey⟩ := List.getElem_of_mem hy
      have hiy : (its l)[i]? = some y := by rw [← ey]; exact List.getElem?_eq_getElem hi
      have := Wk.nms_apart HPl.out.good.right.sorted hiy hitx e
      subst this
      rw [hitx] at hiy
      rw [← Option.some.inj hiy]
      exact HK1.out
    have hne : x.it.nms ≠ [] := (Wk.iErr_ok (HPl.out.good.right.each x.it (List.mem_of_getElem? hitx))).ne
    have hm := HQl.out.plant
    rw [hset] at hm
    have hf := Wk.new_few hq1 hne HPl.out.plant hm
    have hx'in : x'.it ∈ its (l.set r x') := by
      rw [its]
      refine List.mem_map_of_mem (List.mem_iff_getElem?.2 ⟨r, ?_⟩)
      rw [List.getElem?_set_self (by exact (List.getElem?_eq_some_iff.1 HXR.out).1)]
    have hs4 : s.data.toList.length ≤ 4096 := by
      have := (Wk.iErr_ok (HQl.out.good.right.each x'.it hx'in)).file (by rw [hx']; exact HK1.out)
      rw [hx'] at this
      exact this
    have hcf := cutF_few HPl.out.way s.data.toList hs4
    rw [HBS.out, HCS.out, HPL.out, HPN.out]
    unfold Wk.cntD Wk.cntP
    rw [Lib.size_eq]
    exact ⟨hf.1, Nat.le_trans hf.2 hcf⟩
  have hMb : M ≤ 1000000 := by rw [HM.out]; exact HCN.out
  clear hsp b9 tx9 hps hpl9 hPN x0
  go_upto_region 17 with fail
  go_loopw [18, 19, 82] (fun d p i wr => ∃ j : Nat, j ≤ M ∧ i = .int .i64 j ∧ d = .int .i64 (Wk.cntD (pl bs) (pl (cs.take j))) ∧ p = .int .i64 (Wk.cntP (pl bs) (pl (cs.take j))) ∧ Hid (Below w9.heap.size w9 wr)) (fun _ _ i _ => M - (intOf i).toNat)
  case atStart => exact ⟨0, by omega, rfl, rfl, rfl, Below.refl _ _⟩
  case round =>
    obtain ⟨j, hj, rfl, rfl, rfl, HB⟩ := hrel
    by_cases hlt : j < M
    · have hjl : j < cs.length := by rw [← HM.out]; exact hlt
      obtain ⟨y, hy⟩ : ∃ y, cs[j]? = some y := ⟨_, List.getElem?_eq_getElem hjl⟩
      have htk : pl (cs.take (j + 1)) = pl (cs.take j) ++ [y.p] := by rw [List.take_add_one, hy]; exact pl_snoc _ _
      obtain ⟨sd, sp⟩ := Wk.cnt_snoc (pl bs) (pl (cs.take j)) y.p
      rw [← htk] at sd sp
      have HSD : Hid (Wk.cntD (pl bs) (pl (cs.take (j + 1))) = (if y.p ∈ pl bs then Wk.cntD (pl bs) (pl (cs.take j)) else if y.kind = 2 then Wk.cntD (pl bs) (pl (cs.take j)) + 1 else Wk.cntD (pl bs) (pl (cs.take j)))) := sd
      have HSP : Hid (Wk.cntP (pl bs) (pl (cs.take (j + 1))) = (if y.p ∈ pl bs then Wk.cntP (pl bs) (pl (cs.take j)) else if y.kind = 2 then Wk.cntP (pl bs) (pl (cs.take j)) else Wk.cntP (pl bs) (pl (cs.take j)) + 1)) := sp
      have hfew : Wk.cntD (pl bs) (pl (cs.take j)) ≤ 1000000 ∧ Wk.cntP (pl bs) (pl (cs.take j)) ≤ 1000000 := by
        have h := Wk.cnt_few (pl bs) (pl cs) j
        rw [pl_length] at h
        have e : (pl cs).take j = pl (cs.take j) := by rw [pl, pl, List.map_take]
        rw [e] at h
        have := HCN.out
        omega
      obtain ⟨bk, o, rfl, hbk, f0, f1⟩ := (HC9.out.below HB.out).blob j y hy
      obtain ⟨WA, hWA⟩ : ∃ WA, WA = wr.alloc (.cells #[.int .i64 y.kind, .string y.bytes] 42) := ⟨_, rfl⟩
      have hbA : Below wr.heap.size wr WA := by rw [hWA]; exact (Below.refl _ wr).alloc (Nat.le_refl _) _
      have HBA : Hid (Below w9.heap.size w9 WA) := HB.out.trans (hbA.mono HB.out.size)
      have g0 : WA.cell? ⟨wr.heap.size, 0, none⟩ = some (.int .i64 y.kind) := by rw [hWA]; simp
      have g1 : WA.cell? ⟨wr.heap.size, 1, none⟩ = some (.string y.bytes) := by rw [hWA]; simp
      have hsA : wr.heap.size < WA.heap.size := by rw [hWA]; simp
      have hhas := hasBl_any (.slice a3 K c3) bs y WA (HL9.out.below HBA.out)
      unfold blV at hhas
      obtain ⟨CD, hCD⟩ : ∃ CD, CD = Wk.cntD (pl bs) (pl (cs.take j)) := ⟨_, rfl⟩
      obtain ⟨CP, hCP⟩ : ∃ CP, CP = Wk.cntP (pl bs) (pl (cs.take j)) := ⟨_, rfl⟩
      rw [← hCD] at HSD hfew ⊢
      rw [← hCP] at HSP hfew ⊢
      clear sd sp htk hy hbk hbA hCD hCP HB hjl
      go_upto_region 19 with fail
      rw [← hWA]
      generalize wr.heap.size = p4 at *
      clear hWA f0 f1
      go_wp2_with fail
      refine hhas.mono ?_
      rintro e w10 ⟨hb, rfl, hbi, b10⟩
      have HB10 : Hid (Below w9.heap.size w9 w10) := HBA.out.trans (b10.mono HBA.out.size)
      have HIN : Hid (hb = true ↔ y.p ∈ pl bs) := hbi
      have h0 := (b10.cell (p := ⟨p4, 0, none⟩) hsA).trans g0
      clear hhas b10 hbi g0 g1 hsA
      cases hb with
      | true =>
        have hin : y.p ∈ pl bs := HIN.out.1 (by first | exact trivial | rfl)
        have HR1 : Hid (Wk.cntD (pl bs) (pl (cs.take (j + 1))) = CD ∧ Wk.cntP (pl bs) (pl (cs.take (j + 1))) = CP) := by
          show _ ∧ _
          rw [HSD.out, HSP.out, if_pos hin, if_pos hin]; exact ⟨rfl, rfl⟩
        clear hin
        go_wp2_with fail
        go_roundw
        case rel => exact ⟨j + 1, by omega, by go_num, by rw [HR1.out.1], by rw [HR1.out.2], HB10.out⟩
        case measure => simp only [intOf]; omega
      | false =>
        have hin : ¬ y.p ∈ pl bs := fun q => by have := HIN.out.2 q; cases this
        by_cases hk2 : y.kind = 2
        · have HR1 : Hid (Wk.cntD (pl bs) (pl (cs.take (j + 1))) = CD + 1 ∧ Wk.cntP (pl bs) (pl (cs.take (j + 1))) = CP) := by
            show _ ∧ _
            rw [HSD.out, HSP.out, if_neg hin, if_neg hin, if_pos hk2, if_pos hk2]; exact ⟨rfl, rfl⟩
          rw [hk2] at h0
          clear hin hk2
          go_wp2_with fail
          go_roundw
          case rel => exact ⟨j + 1, by omega, by go_num, by rw [HR1.out.1]; go_num, by rw [HR1.out.2], HB10.out⟩
          case measure => simp only [intOf]; omega
        · have HR1 : Hid (Wk.cntD (pl bs) (pl (cs.take (j + 1))) = CD ∧ Wk.cntP (pl bs) (pl (cs.take (j + 1))) = CP + 1) := by
            show _ ∧ _
            rw [HSD.out, HSP.out, if_neg hin, if_neg hin, if_neg hk2, if_neg hk2]; exact ⟨rfl, rfl⟩
          have hkb : (y.kind == 2) = false := beq_eq_false_iff_ne.2 hk2
          clear hin hk2
          go_wp2_with fail
          go_roundw
          case rel => exact ⟨j + 1, by omega, by go_num, by rw [HR1.out.1], by rw [HR1.out.2]; go_num, HB10.out⟩
          case measure => simp only [intOf]; omega
    · have hjN : cs.take j = cs := List.take_of_length_le (by rw [← HM.out]; omega)
      rw [hjN]
      obtain ⟨n1, n2⟩ := HNEW.out
      have HBE : Hid (Below w.heap.size w wr) := HB9.out.trans (HB.out.mono HB9.out.size)
      generalize Wk.cntD (pl bs) (pl cs) = CD at *
      generalize Wk.cntP (pl bs) (pl cs) = CP at *
      have hzs : s.size ≤ 140737488351232 := HZ.out.2
      clear hjN HB
      by_cases hcd : CD ≤ PN
      case neg => exact absurd n1 hcd
      have hcdi : (CD : Int) ≤ (PN : Int) := by omega
      have hcp : decide ((CP : Int) ≤ (s.size : Int) / 16 + 1) = true := decide_eq_true (by omega)
      go_wp2_with fail
      go_ret
      first | exact ⟨rfl, HBE.out⟩ | exact ⟨by show Ending.returned (Value.bool (decide ((CP : Int) ≤ (s.size : Int) / 16 + 1))) = _; rw [hcp], HBE.out⟩
end Go.Proofs.YtimdioacmojkeabGreatDoor
