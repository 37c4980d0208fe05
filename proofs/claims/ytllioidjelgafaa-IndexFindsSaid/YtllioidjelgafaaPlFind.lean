/-
  What slices.BinarySearchFunc and Find of package index answer.
-/
import Derived.Test.YtllioidjelgafaaPlChk
namespace Go.Proofs.Ytllioidjelgafaa
open Go.RowKit
set_option maxRecDepth 4000

theorem findCmp_of (b0 b1 b2 b3 b4 b5 b6 b7 x0 x1 x2 x3 x4 x5 x6 x7 : UInt8) (k p a l : Int) (w : World) :
    Calls Try.prog 30 #[.agg (pl12 b0 b1 b2 b3 b4 b5 b6 b7 k p a l), .agg #[.int .u8 (x0.toNat : Int), .int .u8 (x1.toNat : Int), .int .u8 (x2.toNat : Int), .int .u8 (x3.toNat : Int), .int .u8 (x4.toNat : Int), .int .u8 (x5.toNat : Int), .int .u8 (x6.toNat : Int), .int .u8 (x7.toNat : Int)]] w fun e w' => e = .returned (.int .i64 (cId [b0, b1, b2, b3, b4, b5, b6, b7] [x0, x1, x2, x3, x4, x5, x6, x7])) ∧ Below w.heap.size w w' := by
  have hc : ∀ W, Calls Try.prog 31 #[.agg #[.int .u8 (b0.toNat : Int), .int .u8 (b1.toNat : Int), .int .u8 (b2.toNat : Int), .int .u8 (b3.toNat : Int), .int .u8 (b4.toNat : Int), .int .u8 (b5.toNat : Int), .int .u8 (b6.toNat : Int), .int .u8 (b7.toNat : Int)], .agg #[.int .u8 (x0.toNat : Int), .int .u8 (x1.toNat : Int), .int .u8 (x2.toNat : Int), .int .u8 (x3.toNat : Int), .int .u8 (x4.toNat : Int), .int .u8 (x5.toNat : Int), .int .u8 (x6.toNat : Int), .int .u8 (x7.toNat : Int)]] W fun e w' => e = .returned (.int .i64 (cId [b0, b1, b2, b3, b4, b5, b6, b7] [x0, x1, x2, x3, x4, x5, x6, x7])) ∧ Below W.heap.size W w' := fun W => cmpIds_below [b0, b1, b2, b3, b4, b5, b6, b7] [x0, x1, x2, x3, x4, x5, x6, x7] W rfl rfl
  have HB : Hid (∀ o1 o2, Below w.heap.size w ((w.alloc o1).alloc o2)) := fun o1 o2 => ((Below.refl _ w).alloc (Nat.le_refl _) o1).alloc (by show w.heap.size ≤ (w.heap.push _).size; simp) o2
  have HZ : Hid (∀ o1 o2, w.heap.size ≤ ((w.alloc o1).alloc o2).heap.size) := fun o1 o2 => by show _ ≤ ((w.heap.push _).push _).size; simp; omega
  generalize cId [b0, b1, b2, b3, b4, b5, b6, b7] [x0, x1, x2, x3, x4, x5, x6, x7] = r at hc ⊢
  go_enter Try.func30, Try.ntmps30
  go_wp2_with (go_at_call 31; refine (hc _).mono ?_; rintro e w1 ⟨rfl, b1⟩)
  go_ret
  exact ⟨rfl, (HB.out _ _).trans (b1.mono (HZ.out _ _))⟩
theorem below_t' {a b c : World} (h : Below a.heap.size a b) (k : Below b.heap.size b c) : Below a.heap.size a c := h.trans (k.mono h.size)
/-- place number j is ahead of the ID -/
def ahd (l : List Plc) (x : List UInt8) (j : Nat) : Prop := ∀ t, l[j]? = some t → cId t.id x < 0
def bhd (l : List Plc) (x : List UInt8) (j : Nat) : Prop := ∀ t, l[j]? = some t → ¬ cId t.id x < 0
theorem ahd_down {l : List Plc} {x : List UInt8} (hu : Ix.Up (ps l)) {i j : Nat} (hij : i ≤ j) (hj : j < l.length) (h : ahd l x j) : ahd l x i := fun t ht => by
  rcases Nat.lt_or_ge i j with c | c
  · have := hu.get (i := i) (j := j) (p := t.p) (q := l[j].p) (by rw [List.getElem?_map, ht]; rfl) (by rw [List.getElem?_map, List.getElem?_eq_getElem hj]; rfl) c
    have h2 := cId_neg.1 (h _ (List.getElem?_eq_getElem hj))
    exact cId_neg.2 (Nat.lt_trans this h2)
  · obtain rfl : i = j := by omega
    exact h t ht
theorem bhd_up {l : List Plc} {x : List UInt8} (hu : Ix.Up (ps l)) {i j : Nat} (hij : i ≤ j) (hi : i < l.length) (h : bhd l x i) : bhd l x j := fun t ht hc => by
  have hj : j < l.length := (List.getElem?_eq_some_iff.1 ht).1
  have := ahd_down hu hij hj (fun s hs => by rw [ht] at hs; obtain rfl := Option.some.inj hs; exact hc)
  exact h _ (List.getElem?_eq_getElem hi) (this _ (List.getElem?_eq_getElem hi))
/-- where the search ends -/
def BsOut (l : List Plc) (x : List UInt8) (i : Nat) (b : Bool) : Prop := i ≤ l.length ∧ (∀ j, j < i → ahd l x j) ∧ (∀ j, i ≤ j → bhd l x j) ∧ (b = true ↔ ∃ t, l[i]? = some t ∧ t.id = x)

set_option maxHeartbeats 4000000 in
theorem bsearch_any (v : Value) (l : List Plc) (x0 x1 x2 x3 x4 x5 x6 x7 : UInt8) (w : World) (h : Px w v l) (hu : Ix.Up (ps l)) (hl : l.length ≤ 400) :
    Calls Try.prog 29 #[v, .agg #[.int .u8 (x0.toNat : Int), .int .u8 (x1.toNat : Int), .int .u8 (x2.toNat : Int), .int .u8 (x3.toNat : Int), .int .u8 (x4.toNat : Int), .int .u8 (x5.toNat : Int), .int .u8 (x6.toNat : Int), .int .u8 (x7.toNat : Int)], .func (.func 30) #[] #[]] w fun e w' => ∃ (i : Nat) (b : Bool), e = .returned (.tuple #[.int .i64 i, .bool b]) ∧ BsOut l [x0, x1, x2, x3, x4, x5, x6, x7] i b ∧ Below w.heap.size w w' := by
  obtain ⟨a, c, rfl, hc1, hc2⟩ := h.slice
  have HU : Hid (Ix.Up (ps l)) := hu
  have hfc := fun b0 b1 b2 b3 b4 b5 b6 b7 k p a l W => findCmp_of b0 b1 b2 b3 b4 b5 b6 b7 x0 x1 x2 x3 x4 x5 x6 x7 k p a l W
  have HX : Hid (∀ j u, (#[.int .u8 (x0.toNat : Int), .int .u8 (x1.toNat : Int), .int .u8 (x2.toNat : Int), .int .u8 (x3.toNat : Int), .int .u8 (x4.toNat : Int), .int .u8 (x5.toNat : Int), .int .u8 (x6.toNat : Int), .int .u8 (x7.toNat : Int)] : Array Value)[j]? = some u → (w.alloc (.cells #[.int .u8 (x0.toNat : Int), .int .u8 (x1.toNat : Int), .int .u8 (x2.toNat : Int), .int .u8 (x3.toNat : Int), .int .u8 (x4.toNat : Int), .int .u8 (x5.toNat : Int), .int .u8 (x6.toNat : Int), .int .u8 (x7.toNat : Int)] 24)).cell? ⟨w.heap.size, j, none⟩ = some u) := fun j u hu => by
    rw [cell_of_row _ w.heap.size j _ _ _ (heap_alloc_new w _)]; exact hu
  have HB1 : Hid (Below w.heap.size w (w.alloc (.cells #[.int .u8 (x0.toNat : Int), .int .u8 (x1.toNat : Int), .int .u8 (x2.toNat : Int), .int .u8 (x3.toNat : Int), .int .u8 (x4.toNat : Int), .int .u8 (x5.toNat : Int), .int .u8 (x6.toNat : Int), .int .u8 (x7.toNat : Int)] 24))) := (Below.refl _ w).alloc (Nat.le_refl _) _
  have HZ1 : Hid ((w.alloc (.cells #[.int .u8 (x0.toNat : Int), .int .u8 (x1.toNat : Int), .int .u8 (x2.toNat : Int), .int .u8 (x3.toNat : Int), .int .u8 (x4.toNat : Int), .int .u8 (x5.toNat : Int), .int .u8 (x6.toNat : Int), .int .u8 (x7.toNat : Int)] 24)).heap.size = w.heap.size + 1) := by show (w.heap.push _).size = _; simp
  have HH : Hid (Px (w.alloc (.cells #[.int .u8 (x0.toNat : Int), .int .u8 (x1.toNat : Int), .int .u8 (x2.toNat : Int), .int .u8 (x3.toNat : Int), .int .u8 (x4.toNat : Int), .int .u8 (x5.toNat : Int), .int .u8 (x6.toNat : Int), .int .u8 (x7.toNat : Int)] 24)) (.slice a l.length c) l) := h.below HB1.out
  clear h hu
  go_enter Try.func29, Try.ntmps29
  go_wp2_with fail
  generalize w.alloc (.cells #[.int .u8 (x0.toNat : Int), .int .u8 (x1.toNat : Int), .int .u8 (x2.toNat : Int), .int .u8 (x3.toNat : Int), .int .u8 (x4.toNat : Int), .int .u8 (x5.toNat : Int), .int .u8 (x6.toNat : Int), .int .u8 (x7.toNat : Int)] 24) = W1 at *
  go_loopw [9, 10] (fun vi vj wr => ∃ i j : Nat, vi = .int .i64 i ∧ vj = .int .i64 j ∧ i ≤ j ∧ j ≤ l.length ∧ Hid (∀ t, t < i → ahd l [x0, x1, x2, x3, x4, x5, x6, x7] t) ∧ Hid (∀ t, j ≤ t → bhd l [x0, x1, x2, x3, x4, x5, x6, x7] t) ∧ Hid (Below W1.heap.size W1 wr)) (fun vi vj _ => (intOf vj).toNat - (intOf vi).toNat)
  case atStart => exact ⟨0, l.length, rfl, rfl, by omega, by omega, (fun t ht => by omega), (fun t ht s hs => by have := (List.getElem?_eq_some_iff.1 hs).1; omega), Below.refl _ _⟩
  case round =>
    obtain ⟨i, j, rfl, rfl, hij, hjl, hah, hbh, hbel⟩ := hrel
    have hxx := fun r u (hu : (#[.int .u8 (x0.toNat : Int), .int .u8 (x1.toNat : Int), .int .u8 (x2.toNat : Int), .int .u8 (x3.toNat : Int), .int .u8 (x4.toNat : Int), .int .u8 (x5.toNat : Int), .int .u8 (x6.toNat : Int), .int .u8 (x7.toNat : Int)] : Array Value)[r]? = some u) => (hbel.out.cell (p := ⟨w.heap.size, r, none⟩) (by rw [HZ1.out]; show w.heap.size < _; omega)).trans (HX.out r u hu)
    have hzw : w.heap.size < wr.heap.size := by have := hbel.out.size; rw [HZ1.out] at this; omega
    have xx0 : ∀ X : Since wr.heap.size wr, X.val.cell? ⟨w.heap.size, 0, none⟩ = some (.int .u8 (x0.toNat : Int)) := fun X => (X.property.cell (p := ⟨w.heap.size, 0, none⟩) hzw).trans (hxx 0 _ rfl)
    have xx1 : ∀ X : Since wr.heap.size wr, X.val.cell? ⟨w.heap.size, 1, none⟩ = some (.int .u8 (x1.toNat : Int)) := fun X => (X.property.cell (p := ⟨w.heap.size, 1, none⟩) hzw).trans (hxx 1 _ rfl)
    have xx2 : ∀ X : Since wr.heap.size wr, X.val.cell? ⟨w.heap.size, 2, none⟩ = some (.int .u8 (x2.toNat : Int)) := fun X => (X.property.cell (p := ⟨w.heap.size, 2, none⟩) hzw).trans (hxx 2 _ rfl)
    have xx3 : ∀ X : Since wr.heap.size wr, X.val.cell? ⟨w.heap.size, 3, none⟩ = some (.int .u8 (x3.toNat : Int)) := fun X => (X.property.cell (p := ⟨w.heap.size, 3, none⟩) hzw).trans (hxx 3 _ rfl)
    have xx4 : ∀ X : Since wr.heap.size wr, X.val.cell? ⟨w.heap.size, 4, none⟩ = some (.int .u8 (x4.toNat : Int)) := fun X => (X.property.cell (p := ⟨w.heap.size, 4, none⟩) hzw).trans (hxx 4 _ rfl)
    have xx5 : ∀ X : Since wr.heap.size wr, X.val.cell? ⟨w.heap.size, 5, none⟩ = some (.int .u8 (x5.toNat : Int)) := fun X => (X.property.cell (p := ⟨w.heap.size, 5, none⟩) hzw).trans (hxx 5 _ rfl)
    have xx6 : ∀ X : Since wr.heap.size wr, X.val.cell? ⟨w.heap.size, 6, none⟩ = some (.int .u8 (x6.toNat : Int)) := fun X => (X.property.cell (p := ⟨w.heap.size, 6, none⟩) hzw).trans (hxx 6 _ rfl)
    have xx7 : ∀ X : Since wr.heap.size wr, X.val.cell? ⟨w.heap.size, 7, none⟩ = some (.int .u8 (x7.toNat : Int)) := fun X => (X.property.cell (p := ⟨w.heap.size, 7, none⟩) hzw).trans (hxx 7 _ rfl)
    clear hxx
    by_cases hlt : i < j
    · obtain ⟨m, hm⟩ : ∃ m, (i + j) / 2 = m := ⟨_, rfl⟩
      have hm1 : i ≤ m := by omega
      have hm2 : m < j := by omega
      have hmm : ((i : Int) + (j : Int)) / 2 = (m : Int) := by omega
      have hml : m < l.length := by omega
      obtain ⟨t, ht⟩ : ∃ t, l[m]? = some t := ⟨_, List.getElem?_eq_getElem hml⟩
      obtain ⟨b0, b1, b2, b3, b4, b5, b6, b7, k1, p1, a1, l1, ht12⟩ := t.as12
      have HT : Hid (l[m]? = some t) := ht
      have HTI : Hid (t.id = [b0, b1, b2, b3, b4, b5, b6, b7]) := by show _ = _; rw [ht12]
      rw [ht12] at ht
      obtain ⟨bk, o, hao, hbk, hat⟩ := (HH.out.below hbel.out).twelve m ht
      subst hao
      have hfc1 := fun W => hfc b0 b1 b2 b3 b4 b5 b6 b7 k1 p1 a1 l1 W
      obtain ⟨cc, hcc⟩ : ∃ cc, cId [b0, b1, b2, b3, b4, b5, b6, b7] [x0, x1, x2, x3, x4, x5, x6, x7] = cc := ⟨_, rfl⟩
      have HCC : Hid (cId [b0, b1, b2, b3, b4, b5, b6, b7] [x0, x1, x2, x3, x4, x5, x6, x7] = cc) := hcc
      rw [hcc] at hfc1
      have y0 : ∀ X : Since wr.heap.size wr, X.val.cell? ⟨bk, o + m * 12, none⟩ = some (.int .u8 (b0.toNat : Int)) := fun X => (X.property.cell (p := ⟨bk, o + m * 12, none⟩) hbk).trans hat.c0
      have y1 : ∀ X : Since wr.heap.size wr, X.val.cell? ⟨bk, o + m * 12 + 1, none⟩ = some (.int .u8 (b1.toNat : Int)) := fun X => (X.property.cell (p := ⟨bk, o + m * 12 + 1, none⟩) hbk).trans hat.c1
      have y2 : ∀ X : Since wr.heap.size wr, X.val.cell? ⟨bk, o + m * 12 + 2, none⟩ = some (.int .u8 (b2.toNat : Int)) := fun X => (X.property.cell (p := ⟨bk, o + m * 12 + 2, none⟩) hbk).trans hat.c2
      have y3 : ∀ X : Since wr.heap.size wr, X.val.cell? ⟨bk, o + m * 12 + 3, none⟩ = some (.int .u8 (b3.toNat : Int)) := fun X => (X.property.cell (p := ⟨bk, o + m * 12 + 3, none⟩) hbk).trans hat.c3
      have y4 : ∀ X : Since wr.heap.size wr, X.val.cell? ⟨bk, o + m * 12 + 4, none⟩ = some (.int .u8 (b4.toNat : Int)) := fun X => (X.property.cell (p := ⟨bk, o + m * 12 + 4, none⟩) hbk).trans hat.c4
      have y5 : ∀ X : Since wr.heap.size wr, X.val.cell? ⟨bk, o + m * 12 + 5, none⟩ = some (.int .u8 (b5.toNat : Int)) := fun X => (X.property.cell (p := ⟨bk, o + m * 12 + 5, none⟩) hbk).trans hat.c5
      have y6 : ∀ X : Since wr.heap.size wr, X.val.cell? ⟨bk, o + m * 12 + 6, none⟩ = some (.int .u8 (b6.toNat : Int)) := fun X => (X.property.cell (p := ⟨bk, o + m * 12 + 6, none⟩) hbk).trans hat.c6
      have y7 : ∀ X : Since wr.heap.size wr, X.val.cell? ⟨bk, o + m * 12 + 7, none⟩ = some (.int .u8 (b7.toNat : Int)) := fun X => (X.property.cell (p := ⟨bk, o + m * 12 + 7, none⟩) hbk).trans hat.c7
      have y8 : ∀ X : Since wr.heap.size wr, X.val.cell? ⟨bk, o + m * 12 + 8, none⟩ = some (.int .i64 k1) := fun X => (X.property.cell (p := ⟨bk, o + m * 12 + 8, none⟩) hbk).trans hat.c8
      have y9 : ∀ X : Since wr.heap.size wr, X.val.cell? ⟨bk, o + m * 12 + 9, none⟩ = some (.int .i64 p1) := fun X => (X.property.cell (p := ⟨bk, o + m * 12 + 9, none⟩) hbk).trans hat.c9
      have y10 : ∀ X : Since wr.heap.size wr, X.val.cell? ⟨bk, o + m * 12 + 10, none⟩ = some (.int .i64 a1) := fun X => (X.property.cell (p := ⟨bk, o + m * 12 + 10, none⟩) hbk).trans hat.c10
      have y11 : ∀ X : Since wr.heap.size wr, X.val.cell? ⟨bk, o + m * 12 + 11, none⟩ = some (.int .i64 l1) := fun X => (X.property.cell (p := ⟨bk, o + m * 12 + 11, none⟩) hbk).trans hat.c11
      clear hat ht ht12 hcc hm hfc
      have hne : Nonempty (Since wr.heap.size wr) := ⟨⟨wr, Below.refl _ _⟩⟩
      go_upto_region 5 with fail
      clear hmm
      by_cases hneg : cc < 0
      · have HA : Hid (∀ t, t < m + 1 → ahd l [x0, x1, x2, x3, x4, x5, x6, x7] t) := fun q hq =>
          ahd_down HU.out (show q ≤ m by omega) hml (fun s hs => by rw [HT.out] at hs; obtain rfl := Option.some.inj hs; rw [HTI.out, HCC.out]; exact hneg)
        have hng : decide (cc < (0 : Int)) = true := decide_eq_true hneg
        clear hneg HCC hah
        refine wp_region_since (B := wr.heap.size) (W0 := wr) (by kernel_rfl) (by kernel_rfl) (Below.refl _ _) ?_
        repeat (go_big_quiet_step (exact quiet_since _ (hfc1 _)))
        refine wpQuiet_nil ?_
        rintro w7 ⟨U, rfl⟩
        have HB3 : Hid (Below W1.heap.size W1 U.val) := below_t' hbel.out U.property
        generalize U.val = w7 at *
        clear hne hfc1 y0 y1 y2 y3 y4 y5 y6 y7 y8 y9 y10 y11 xx0 xx1 xx2 xx3 xx4 xx5 xx6 xx7
        go_wp2_with fail
        go_roundw
        case rel => exact ⟨m + 1, j, by go_num, rfl, by omega, by omega, HA, hbh, HB3⟩
        case measure => simp only [intOf]; omega
      · have HA : Hid (∀ t, m ≤ t → bhd l [x0, x1, x2, x3, x4, x5, x6, x7] t) := fun q hq =>
          bhd_up HU.out hq hml (fun s hs => by rw [HT.out] at hs; obtain rfl := Option.some.inj hs; rw [HTI.out, HCC.out]; exact hneg)
        have hng : decide (cc < (0 : Int)) = false := decide_eq_false hneg
        clear hneg HCC hbh
        refine wp_region_since (B := wr.heap.size) (W0 := wr) (by kernel_rfl) (by kernel_rfl) (Below.refl _ _) ?_
        repeat (go_big_quiet_step (exact quiet_since _ (hfc1 _)))
        refine wpQuiet_nil ?_
        rintro w7 ⟨U, rfl⟩
        have HB3 : Hid (Below W1.heap.size W1 U.val) := below_t' hbel.out U.property
        generalize U.val = w7 at *
        clear hne hfc1 y0 y1 y2 y3 y4 y5 y6 y7 y8 y9 y10 y11 xx0 xx1 xx2 xx3 xx4 xx5 xx6 xx7
        go_wp2_with fail
        go_roundw
        case rel => exact ⟨i, m, rfl, by go_num, by omega, by omega, hah, HA, HB3⟩
        case measure => simp only [intOf]; omega
    · obtain rfl : i = j := by omega
      by_cases hil : i < l.length
      · obtain ⟨t, ht⟩ : ∃ t, l[i]? = some t := ⟨_, List.getElem?_eq_getElem hil⟩
        obtain ⟨b0, b1, b2, b3, b4, b5, b6, b7, k1, p1, a1, l1, ht12⟩ := t.as12
        have HT : Hid (l[i]? = some t) := ht
        have HTI : Hid (t.id = [b0, b1, b2, b3, b4, b5, b6, b7]) := by show _ = _; rw [ht12]
        rw [ht12] at ht
        obtain ⟨bk, o, hao, hbk, hat⟩ := (HH.out.below hbel.out).twelve i ht
        subst hao
        have hfc1 := fun W => hfc b0 b1 b2 b3 b4 b5 b6 b7 k1 p1 a1 l1 W
        obtain ⟨cc, hcc⟩ : ∃ cc, cId [b0, b1, b2, b3, b4, b5, b6, b7] [x0, x1, x2, x3, x4, x5, x6, x7] = cc := ⟨_, rfl⟩
        have HCC : Hid (cId [b0, b1, b2, b3, b4, b5, b6, b7] [x0, x1, x2, x3, x4, x5, x6, x7] = cc) := hcc
        rw [hcc] at hfc1
        have y0 : ∀ X : Since wr.heap.size wr, X.val.cell? ⟨bk, o + i * 12, none⟩ = some (.int .u8 (b0.toNat : Int)) := fun X => (X.property.cell (p := ⟨bk, o + i * 12, none⟩) hbk).trans hat.c0
        have y1 : ∀ X : Since wr.heap.size wr, X.val.cell? ⟨bk, o + i * 12 + 1, none⟩ = some (.int .u8 (b1.toNat : Int)) := fun X => (X.property.cell (p := ⟨bk, o + i * 12 + 1, none⟩) hbk).trans hat.c1
        have y2 : ∀ X : Since wr.heap.size wr, X.val.cell? ⟨bk, o + i * 12 + 2, none⟩ = some (.int .u8 (b2.toNat : Int)) := fun X => (X.property.cell (p := ⟨bk, o + i * 12 + 2, none⟩) hbk).trans hat.c2
        have y3 : ∀ X : Since wr.heap.size wr, X.val.cell? ⟨bk, o + i * 12 + 3, none⟩ = some (.int .u8 (b3.toNat : Int)) := fun X => (X.property.cell (p := ⟨bk, o + i * 12 + 3, none⟩) hbk).trans hat.c3
        have y4 : ∀ X : Since wr.heap.size wr, X.val.cell? ⟨bk, o + i * 12 + 4, none⟩ = some (.int .u8 (b4.toNat : Int)) := fun X => (X.property.cell (p := ⟨bk, o + i * 12 + 4, none⟩) hbk).trans hat.c4
        have y5 : ∀ X : Since wr.heap.size wr, X.val.cell? ⟨bk, o + i * 12 + 5, none⟩ = some (.int .u8 (b5.toNat : Int)) := fun X => (X.property.cell (p := ⟨bk, o + i * 12 + 5, none⟩) hbk).trans hat.c5
        have y6 : ∀ X : Since wr.heap.size wr, X.val.cell? ⟨bk, o + i * 12 + 6, none⟩ = some (.int .u8 (b6.toNat : Int)) := fun X => (X.property.cell (p := ⟨bk, o + i * 12 + 6, none⟩) hbk).trans hat.c6
        have y7 : ∀ X : Since wr.heap.size wr, X.val.cell? ⟨bk, o + i * 12 + 7, none⟩ = some (.int .u8 (b7.toNat : Int)) := fun X => (X.property.cell (p := ⟨bk, o + i * 12 + 7, none⟩) hbk).trans hat.c7
        have y8 : ∀ X : Since wr.heap.size wr, X.val.cell? ⟨bk, o + i * 12 + 8, none⟩ = some (.int .i64 k1) := fun X => (X.property.cell (p := ⟨bk, o + i * 12 + 8, none⟩) hbk).trans hat.c8
        have y9 : ∀ X : Since wr.heap.size wr, X.val.cell? ⟨bk, o + i * 12 + 9, none⟩ = some (.int .i64 p1) := fun X => (X.property.cell (p := ⟨bk, o + i * 12 + 9, none⟩) hbk).trans hat.c9
        have y10 : ∀ X : Since wr.heap.size wr, X.val.cell? ⟨bk, o + i * 12 + 10, none⟩ = some (.int .i64 a1) := fun X => (X.property.cell (p := ⟨bk, o + i * 12 + 10, none⟩) hbk).trans hat.c10
        have y11 : ∀ X : Since wr.heap.size wr, X.val.cell? ⟨bk, o + i * 12 + 11, none⟩ = some (.int .i64 l1) := fun X => (X.property.cell (p := ⟨bk, o + i * 12 + 11, none⟩) hbk).trans hat.c11
        clear hat ht ht12 hcc hfc hlt
        have hne : Nonempty (Since wr.heap.size wr) := ⟨⟨wr, Below.refl _ _⟩⟩
        have hd : decide (i < l.length) = true := decide_eq_true hil
        have HO : Hid (∀ b, (b = true ↔ cc = 0) → BsOut l [x0, x1, x2, x3, x4, x5, x6, x7] i b) := fun b hb => ⟨by omega, hah.out, hbh.out, by
          rw [hb, ← HCC.out, cId_zero (a := [b0, b1, b2, b3, b4, b5, b6, b7]) (b := [x0, x1, x2, x3, x4, x5, x6, x7]) rfl, ← HTI.out]
          exact ⟨fun e => ⟨t, HT.out, e⟩, fun ⟨s, h1, h2⟩ => by rw [HT.out] at h1; obtain rfl := Option.some.inj h1; exact h2⟩⟩
        clear HCC hah hbh
        go_upto_region 8 with fail
        refine wp_region_since (B := wr.heap.size) (W0 := wr) (by kernel_rfl) (by kernel_rfl) (Below.refl _ _) ?_
        repeat (go_big_quiet_step (exact quiet_since _ (hfc1 _)))
        refine wpQuiet_nil ?_
        rintro w7 ⟨U, rfl⟩
        have HB3 : Hid (Below W1.heap.size W1 U.val) := below_t' hbel.out U.property
        generalize U.val = w7 at *
        clear hne hfc1 y0 y1 y2 y3 y4 y5 y6 y7 y8 y9 y10 y11 xx0 xx1 xx2 xx3 xx4 xx5 xx6 xx7
        go_wp2_with fail
        go_ret2
        exact ⟨i, (cc == 0), rfl, HO.out _ beq_iff_eq, HB1.out.trans (HB3.out.mono HB1.out.size)⟩
      · have hd : decide (i < l.length) = false := decide_eq_false hil
        have HO : Hid (BsOut l [x0, x1, x2, x3, x4, x5, x6, x7] i false) := ⟨by omega, hah.out, hbh.out, by
          constructor
          · intro h; cases h
          · rintro ⟨t, ht, _⟩
            have := (List.getElem?_eq_some_iff.1 ht).1
            omega⟩
        have hne : Nonempty (Since wr.heap.size wr) := ⟨⟨wr, Below.refl _ _⟩⟩
        clear hah hbh hfc hlt
        go_upto_region 8 with fail
        refine wp_region_since (B := wr.heap.size) (W0 := wr) (by kernel_rfl) (by kernel_rfl) (Below.refl _ _) ?_
        repeat (go_big_quiet_step (fail))
        refine wpQuiet_nil ?_
        rintro w7 ⟨U, rfl⟩
        have HB3 : Hid (Below W1.heap.size W1 U.val) := below_t' hbel.out U.property
        generalize U.val = w7 at *
        clear hne xx0 xx1 xx2 xx3 xx4 xx5 xx6 xx7
        go_wp2_with fail
        go_ret2
        exact ⟨i, false, rfl, HO.out, HB1.out.trans (HB3.out.mono HB1.out.size)⟩

/-- what Find hands back -/
def fndP (l : List Plc) (x : List UInt8) : Plc := if Ix.check (ps l) = 0 then (l.find? fun p => p.id == x).getD pl0 else pl0
def fndE (l : List Plc) (x : List UInt8) : Int := if Ix.check (ps l) = 0 then (if (l.find? fun p => p.id == x).isSome then 0 else 9) else Ix.check (ps l)
theorem BsOut.yes {l : List Plc} {x : List UInt8} {i : Nat} (hu : Ix.Up (ps l)) (h : BsOut l x i true) : ∃ t, l[i]? = some t ∧ l.find? (fun p => p.id == x) = some t := by
  obtain ⟨_, h1, _, h3⟩ := h
  obtain ⟨t, ht, hx⟩ := h3.1 rfl
  refine ⟨t, ht, ?_⟩
  have hm : t ∈ l := List.mem_of_getElem? ht
  have hf : (l.find? fun p => p.id == x).isSome := List.find?_isSome.2 ⟨t, hm, by simpa using hx⟩
  obtain ⟨s, hs⟩ := Option.isSome_iff_exists.1 hf
  rw [hs]
  have hsm := List.mem_of_find?_eq_some hs
  have hsx : s.id = x := by have := List.find?_some hs; simpa using this
  congr 1
  exact Plc.p_inj (hu.same (List.mem_map_of_mem hsm) (List.mem_map_of_mem hm) (by show Nm.val s.id = Nm.val t.id; rw [hsx, hx]))
theorem BsOut.no {l : List Plc} {x : List UInt8} {i : Nat} (hu : Ix.Up (ps l)) (h : BsOut l x i false) : l.find? (fun p => p.id == x) = none := by
  obtain ⟨_, h1, h2, h3⟩ := h
  rw [List.find?_eq_none]
  intro t ht hx
  have hx' : t.id = x := by simpa using hx
  obtain ⟨j, hj, rfl⟩ := List.getElem_of_mem ht
  rcases Nat.lt_trichotomy j i with c | c | c
  · have := h1 j c _ (List.getElem?_eq_getElem hj)
    rw [hx', cId_neg] at this
    omega
  · subst c
    have := h3.2 ⟨_, List.getElem?_eq_getElem hj, hx'⟩
    cases this
  · have hi : i < l.length := by omega
    have hn := h2 i (Nat.le_refl _) _ (List.getElem?_eq_getElem hi)
    have := hu.get (i := i) (j := j) (p := l[i].p) (q := l[j].p) (by rw [List.getElem?_map, List.getElem?_eq_getElem hi]; rfl) (by rw [List.getElem?_map, List.getElem?_eq_getElem hj]; rfl) c
    rw [cId_neg, ← hx'] at hn
    exact hn this
end Go.Proofs.Ytllioidjelgafaa
