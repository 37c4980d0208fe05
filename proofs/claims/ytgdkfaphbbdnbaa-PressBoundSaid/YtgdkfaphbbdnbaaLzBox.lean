/-
  A token that lies in a block of its own.
-/
import Derived.Test.YtgdkfaphbbdnbaaLzSame
import Derived.Deep.CutRange
namespace Go.Proofs.Ytgdkfaphbbdnbaa
open Go.RowKit
set_option maxRecDepth 4000

structure Box (W : World) (G : Nat) (t : Lz.Tr) : Prop where
  c0 : W.cell? ⟨G, 0, none⟩ = some (.int .u8 t.lit.toNat)
  c1 : W.cell? ⟨G, 1, none⟩ = some (.int .i64 t.len)
  c2 : W.cell? ⟨G, 2, none⟩ = some (.int .i64 t.dist)
  f0 : W.frozen? ⟨G, 0, none⟩ = false
  f1 : W.frozen? ⟨G, 1, none⟩ = false
  f2 : W.frozen? ⟨G, 2, none⟩ = false
  lt : G < W.heap.size
theorem Box.new (w : World) (t : Lz.Tr) : Box (w.alloc (.cells #[.int .u8 t.lit.toNat, .int .i64 t.len, .int .i64 t.dist] 79)) w.heap.size t :=
  ⟨by simp, by simp, by simp, by simp, by simp, by simp, by simp⟩
theorem Box.below {W W' : World} {G B : Nat} {t : Lz.Tr} (h : Box W G t) (hb : Below B W W') (hg : G < B) : Box W' G t :=
  ⟨(hb.cell (p := ⟨G, 0, none⟩) hg).trans h.c0, (hb.cell (p := ⟨G, 1, none⟩) hg).trans h.c1, (hb.cell (p := ⟨G, 2, none⟩) hg).trans h.c2,
   (hb.frozen (p := ⟨G, 0, none⟩) hg).trans h.f0, (hb.frozen (p := ⟨G, 1, none⟩) hg).trans h.f1, (hb.frozen (p := ⟨G, 2, none⟩) hg).trans h.f2, Nat.lt_of_lt_of_le h.lt hb.size⟩
theorem Box.alloc {W : World} {G : Nat} {t : Lz.Tr} (h : Box W G t) (o : Obj) : Box (W.alloc o) G t := h.below ((Below.refl W.heap.size W).alloc (Nat.le_refl _) o) h.lt
theorem Box.other {W : World} {G : Nat} {t : Lz.Tr} (h : Box W G t) {p : Addr} (hp : p.block ≠ G) (u : Value) : Box (W.setCell p u) G t := by
  have e : ∀ k, (⟨G, k, none⟩ : Addr) ≠ p := fun k q => hp (by rw [← q])
  refine ⟨?_, ?_, ?_, ?_, ?_, ?_, ?_⟩
  · rw [World.cell?_setCell_other _ _ _ _ (e 0).symm]; exact h.c0
  · rw [World.cell?_setCell_other _ _ _ _ (e 1).symm]; exact h.c1
  · rw [World.cell?_setCell_other _ _ _ _ (e 2).symm]; exact h.c2
  · simpa using h.f0
  · simpa using h.f1
  · simpa using h.f2
  · simpa using h.lt
theorem Box.set0 {W : World} {G : Nat} {t : Lz.Tr} (h : Box W G t) (b : UInt8) : Box (W.setCell ⟨G, 0, none⟩ (.int .u8 b.toNat)) G ⟨b, t.len, t.dist⟩ :=
  ⟨World.cell?_setCell_same _ _ _ h.c0, by rw [World.cell?_setCell_other _ _ _ _ (by simp)]; exact h.c1, by rw [World.cell?_setCell_other _ _ _ _ (by simp)]; exact h.c2, by simpa using h.f0, by simpa using h.f1, by simpa using h.f2, by simpa using h.lt⟩
theorem Box.set1 {W : World} {G : Nat} {t : Lz.Tr} (h : Box W G t) (n : Int) : Box (W.setCell ⟨G, 1, none⟩ (.int .i64 n)) G ⟨t.lit, n, t.dist⟩ :=
  ⟨by rw [World.cell?_setCell_other _ _ _ _ (by simp)]; exact h.c0, World.cell?_setCell_same _ _ _ h.c1, by rw [World.cell?_setCell_other _ _ _ _ (by simp)]; exact h.c2, by simpa using h.f0, by simpa using h.f1, by simpa using h.f2, by simpa using h.lt⟩
theorem Box.set2 {W : World} {G : Nat} {t : Lz.Tr} (h : Box W G t) (n : Int) : Box (W.setCell ⟨G, 2, none⟩ (.int .i64 n)) G ⟨t.lit, t.len, n⟩ :=
  ⟨by rw [World.cell?_setCell_other _ _ _ _ (by simp)]; exact h.c0, by rw [World.cell?_setCell_other _ _ _ _ (by simp)]; exact h.c1, World.cell?_setCell_same _ _ _ h.c2, by simpa using h.f0, by simpa using h.f1, by simpa using h.f2, by simpa using h.lt⟩
theorem Box.store {W : World} {G : Nat} {t u : Lz.Tr} (h : Box W G t) : Box (((W.setCell ⟨G, 0, none⟩ (.int .u8 u.lit.toNat)).setCell ⟨G, 1, none⟩ (.int .i64 u.len)).setCell ⟨G, 2, none⟩ (.int .i64 u.dist)) G u :=
  ((h.set0 u.lit).set1 u.len).set2 u.dist

/-- the longest copy at p, as it is handed over -/
def Lz.best (s : Lz.Bs) (p : Nat) : Lz.Tr := ⟨0, (Lz.bestAt s p).1, (Lz.bestAt s p).2⟩
def Lz.found (s : Lz.Bs) (p : Nat) : Bool := decide (0 < (Lz.bestAt s p).1)

set_option maxHeartbeats 1000000 in
theorem longest_any (s : ByteArray) (p : Nat) (w : World) (hs : s.size ≤ 4096) (hp : p ≤ s.size) :
    Calls Try.prog 49 #[.string s, .int .i64 p] w fun e w' => e = .returned (.tuple #[tokV (Lz.best s.data.toList p), .bool (Lz.found s.data.toList p)]) ∧ Below w.heap.size w w' := by
  obtain ⟨q, hq⟩ : ∃ q : Nat, q = min 1024 p := ⟨_, rfl⟩
  have HQ : Hid (q = min 1024 p) := hq
  have hq1 : q ≤ p := by omega
  clear hq
  obtain ⟨L, hL⟩ : ∃ L, s.data.toList = L := ⟨_, rfl⟩
  have HS : Hid (∀ d V, 1 ≤ d → d ≤ p → Calls Try.prog 80 #[.string s, .int .i64 p, .int .i64 d] V fun e w' => e = .returned (.int .i64 (Lz.ml L p d 255)) ∧ Below V.heap.size V w') := fun d V h1 h2 => by
    rw [← hL]; exact same_any s p d V hs hp h1 h2
  rw [hL]
  clear hL
  obtain ⟨W4, hW4⟩ : ∃ W4, W4 = (w.alloc (.cells #[.int .u8 0, .int .i64 0, .int .i64 0] 79)).alloc (.cells #[.int .u8 0, .int .i64 0, .int .i64 0] 79) := ⟨_, rfl⟩
  have X1 : Hid (Box W4 w.heap.size ⟨0, 0, 0⟩) := by rw [hW4]; exact (Box.new w ⟨0, 0, 0⟩).alloc _
  have X2 : Hid (Box W4 (w.heap.size + 1) ⟨0, 0, 0⟩) := by
    rw [hW4]
    have := Box.new (w.alloc (.cells #[.int .u8 0, .int .i64 0, .int .i64 0] 79)) ⟨0, 0, 0⟩
    rwa [World.size_alloc] at this
  have XB : Hid (Below w.heap.size w W4) := by rw [hW4]; exact ((Below.refl _ w).alloc (Nat.le_refl _) _).alloc (by simp) _
  go_enter Try.func49, Try.ntmps49
  go_wp2_with fail
  rw [← hW4]
  clear hW4
  go_loopw [7] (fun i wr => ∃ D : Nat, D ≤ q ∧ i = .int .i64 ((D : Int) + 1) ∧ Hid (Box wr w.heap.size ⟨0, 0, 0⟩) ∧ Hid (Box wr (w.heap.size + 1) ⟨0, (Lz.bst L p D).1, (Lz.bst L p D).2⟩) ∧ Below w.heap.size w wr) (fun i _ => q + 1 - (intOf i).toNat)
  case atStart => exact ⟨0, by omega, rfl, X1, X2, XB.out⟩
  case round =>
    obtain ⟨D, hD, rfl, hx1, hx2, hbel⟩ := hrel
    obtain ⟨b, hb⟩ : ∃ b, b = decide (D < q) := ⟨_, rfl⟩
    have HB : Hid (b = decide (D < q)) := hb
    clear hb
    go_upto_region 3 with fail
    go_cut [12] from 9 to 25 (fun x wx => x = .bool b ∧ wx = wr)
    case first =>
      go_wp2_with fail
      all_goals go_meet
      all_goals exact ⟨by rw [HB.out]; exact congrArg Value.bool (decide_eq_decide.2 (by have := HQ.out; omega)), rfl⟩
    case rest =>
    obtain ⟨rfl, rfl⟩ := hcut
    have hg2 := hx2.out.lt
    cases b with
    | true =>
      have hlt := of_decide_eq_true HB.out.symm
      have hc := fun V => HS.out (D + 1) V (by omega) (by omega)
      have hm := Lz.ml_le L p (D + 1) 255
      have HBS : Hid (Lz.bst L p (D + 1) = if (Lz.bst L p D).1 < Lz.ml L p (D + 1) 255 then (Lz.ml L p (D + 1) 255, D + 1) else Lz.bst L p D) := rfl
      generalize Lz.ml L p (D + 1) 255 = m at *
      generalize hbd : Lz.bst L p D = bd at *
      go_wp2_with fail
      refine (hc _).mono ?_
      rintro e w2 ⟨rfl, hb2⟩
      have y1 := hx1.out.below hb2 hx1.out.lt
      have y2 := hx2.out.below hb2 hx2.out.lt
      have HB2 : Hid (Below w.heap.size w w2) := hbel.trans (hb2.mono hbel.size)
      clear hc hb2 hx1 hx2 hbel
      have HY1 : Hid (Box w2 w.heap.size ⟨0, 0, 0⟩) := y1
      have HY2 : Hid (Box w2 (w.heap.size + 1) ⟨0, bd.1, bd.2⟩) := y2
      have c0 := y2.c0
      have c1 := y2.c1
      have c2 := y2.c2
      have f0 := y2.f0
      have f1 := y2.f1
      have f2 := y2.f2
      clear y1 y2
      by_cases hgt : bd.1 < m
      · rw [if_pos hgt] at HBS
        have HN : Hid (Box (((w2.setCell ⟨w.heap.size + 1, 0, none⟩ (.int .u8 0)).setCell ⟨w.heap.size + 1, 1, none⟩ (.int .i64 m)).setCell ⟨w.heap.size + 1, 2, none⟩ (.int .i64 ((D : Int) + 1))) (w.heap.size + 1) ⟨0, (m : Int), (D : Int) + 1⟩) := HY2.out.store (u := ⟨0, (m : Int), (D : Int) + 1⟩)
        go_wp2_with fail
        refine ⟨⟨D + 1, by omega, int_eq (by omega), ?_, ?_, ?_⟩, by simp only [intOf]; omega⟩
        · exact ((HY1.out.other (by simp) _).other (by simp) _).other (by simp) _
        · rw [HBS.out]; exact HN.out
        · exact ((HB2.out.setCell (by simp) _).setCell (by simp) _).setCell (by simp) _
      · rw [if_neg hgt] at HBS
        go_wp2_with fail
        go_roundw
        case rel => exact ⟨D + 1, by omega, by go_num, HY1, by rw [HBS.out]; exact HY2, HB2.out⟩
        case measure => simp only [intOf]; omega
    | false =>
      have hlt := of_decide_eq_false HB.out.symm
      have hDq : D = q := by omega
      rw [hDq, HQ.out] at hx2
      have HX2 : Hid (Box wc (w.heap.size + 1) (Lz.best L p)) := hx2.out
      have HX1 : Hid (Box wc w.heap.size ⟨0, 0, 0⟩) := hx1.out
      have HBL : Hid (Below w.heap.size w wc) := hbel
      obtain ⟨t, ht⟩ : ∃ t, t = Lz.best L p := ⟨_, rfl⟩
      have HF : Hid (decide (0 < t.len) = Lz.found L p) := by
        rw [ht]
        show decide (0 < ((Lz.bestAt L p).1 : Int)) = decide (0 < (Lz.bestAt L p).1)
        exact decide_eq_decide.2 (by omega)
      have HT : Hid (t = Lz.best L p) := ht
      rw [← ht] at HX2
      clear ht hx1 hx2 hbel hDq
      have c0 := HX2.out.c0
      have c1 := HX2.out.c1
      have c2 := HX2.out.c2
      have d0 := HX1.out.c0
      have d1 := HX1.out.c1
      have d2 := HX1.out.c2
      have f0 := HX1.out.f0
      have f1 := HX1.out.f1
      have f2 := HX1.out.f2
      go_wp2_with fail
      go_region
      all_goals go_wp2_with fail
      all_goals refine bodyPost_ret (v := .tuple #[tokV t, .bool (decide (0 < t.len))]) ?_ rfl ⟨by rw [← HF.out, ← HT.out], (((HBL.out.setCell (Nat.le_refl _) _).setCell (Nat.le_refl _) _).setCell (Nat.le_refl _) _).drew⟩
      all_goals simp [results, asAddr, go_sem, d0, d1, d2, tokV]
end Go.Proofs.Ytgdkfaphbbdnbaa
