/-
  What readPlace of package index answers.
  What readPlace of package index answers where the text is too short, and whatever text it is.
  What Read of package index answers.
-/
import Derived.Test.YtllioidjelgafaaPlRNum
import Derived.Test.YtllioidjelgafaaPlRw
import Derived.Deep.Cut
import Derived.Deep.MidRow
import Derived.Test.YtllioidjelgafaaPlTell

namespace Go.Proofs.Ytllioidjelgafaa
open Go.RowKit
set_option maxRecDepth 4000

theorem rp_info : (Try.prog.info? 28).map (·.size) = some 12 := by kernel_rfl
theorem rp_all (t : Plc) : (plC t).toArray.all (·.oneCell') = true := by rw [Array.all_eq_true']; intro v hv; exact plC_one t v (by simpa using hv)
theorem rp_sz (t : Plc) : (plC t).toArray.size = 12 := by rw [List.size_toArray, plC_length]
theorem rp_res {W : World} {G : Nat} (h : W.there G 0 12) (t : Plc) : (loadVar 28 ⟨G, 0, none⟩).run Try.prog (W.setCells G 0 (plC t)) = .ok (plV t) (W.setCells G 0 (plC t)) :=
  run_loadVar_mid _ G 0 28 (plC t) _ (World.rangeAt_setCells_same W G 0 _ (by rw [plC_length]; exact h)) Try.underlying28 rfl (by rw [rp_info, plC_length])
theorem rp_there (W : World) (t : TypeId) (cs : Array Value) (n : Nat) (h : cs.size = n) : (W.alloc (.cells cs t)).there W.heap.size 0 n := fun j hj => by
  rw [Nat.zero_add, cell_of_row _ W.heap.size j _ _ _ (heap_alloc_new W _)]
  refine ⟨by simp [h, hj], frozen_of_row _ W.heap.size j cs t (heap_alloc_new W _)⟩
theorem rp_past {W W' : World} {B G n : Nat} (h : W.there G 0 n) (hb : Below B W W') (hg : G < B) : W'.there G 0 n := fun j hj => by
  have e := hb.block G hg
  have e1 : W'.cell? ⟨G, 0 + j, none⟩ = W.cell? ⟨G, 0 + j, none⟩ := by simp only [World.cell?, e]
  have e2 : W'.frozen? ⟨G, 0 + j, none⟩ = W.frozen? ⟨G, 0 + j, none⟩ := by simp only [World.frozen?, e]
  rw [e1, e2]
  exact h j hj
theorem rp_below {A G : Nat} (h : A ≤ G) {w : World} (o : Nat) (vs : List Value) {W : World} (hb : Below A w W) (hA : A ≤ w.heap.size) : Below A w (W.setCells G o vs) :=
  Kept.below (Kept.setCells (p := fun b => b < A) (Kept.of_below_at hb fun _ hk => hk) (g := G) (by show ¬ G < A; omega) o vs) hA fun _ hk => hk
theorem rp_copy {P : Program} (w : World) (dT sT ty elem : TypeId) (b dLen dCap : Nat) (t : ByteArray)
    (hu : P.underlying dT = some (.slice elem)) (hz : ∀ w, (Go.sizeOf elem).run P w = .ok 1 w) (hle : dLen ≤ t.size) (ht : w.there b 0 dLen) :
    (Builtin.copy_ #[dT, sT] ty #[.slice (some ⟨b, 0, none⟩) dLen dCap, .string t]).run P w = .ok (goInt dLen) (w.setCells b 0 ((t.data.toList.take dLen).map B)) := by
  have hmin : Nat.min t.size dLen = dLen := Nat.min_eq_right hle
  have hl : ((t.data.toList.take dLen).map B).length = dLen := by rw [List.length_map, List.length_take, ← Lib.size_eq, Nat.min_eq_left hle]
  have hst := run_storeCells_cells (P := P) b 0 ((t.data.toList.take dLen).map B) 0 w (by rw [hl]; exact fun j hj => (ht j hj).1) (by rw [hl]; exact fun j hj => (ht j hj).2) (by
    intro v hv
    obtain ⟨x, _, rfl⟩ := List.mem_map.1 hv
    rfl)
  simp [Builtin.copy_, run_underlying hu, Builtin.lenOf, Builtin.firstCells, hz, hmin]
  rw [show List.take dLen (List.map (fun b => Value.int IntKind.u8 (b.toNat : Int)) t.data.toList) = (t.data.toList.take dLen).map B from by rw [List.map_take]; rfl, hst]
  rw [← List.map_take]
  rfl
theorem rp_u8 (w : World) : (Go.sizeOf 5).run Try.prog w = .ok 1 w := by go_simp
/-- three numbers in a block of one's own, a place's room, an ID -/
structure R3 (w W : World) (l : List UInt8) (n0 n1 n2 : Int) : Prop where
  th : W.there w.heap.size 0 12
  id : W.rangeAt (w.heap.size + 1) 0 (l.map B)
  num : W.heap[w.heap.size + 2]? = some (.cells #[.int .i64 n0, .int .i64 n1, .int .i64 n2] 84 (0, 0))
  bel : Below w.heap.size w W
theorem R3.past {w W W' : World} {l : List UInt8} {n0 n1 n2 : Int} (h : R3 w W l n0 n1 n2) (hb : Below W.heap.size W W') : R3 w W' l n0 n1 n2 := by
  have hz : w.heap.size + 2 < W.heap.size := (Array.getElem?_eq_some_iff.1 h.num).1
  refine ⟨rp_past h.th hb (by omega), fun j v hv => ?_, (hb.block _ hz).trans h.num, h.bel.trans (hb.mono h.bel.size)⟩
  exact (hb.cell (p := ⟨w.heap.size + 1, 0 + j, none⟩) (by show w.heap.size + 1 < _; omega)).trans (h.id j v hv)
theorem R3.cell {w W : World} {l : List UInt8} {n0 n1 n2 : Int} (h : R3 w W l n0 n1 n2) (j : Nat) : W.cell? ⟨w.heap.size + 2, j, none⟩ = (#[.int .i64 n0, .int .i64 n1, .int .i64 n2] : Array Value)[j]? ∧ W.frozen? ⟨w.heap.size + 2, j, none⟩ = false :=
  ⟨cell_of_row _ _ j _ _ _ h.num, frozen_of_row _ _ j _ _ h.num⟩
theorem R3.set {w W : World} {l : List UInt8} {n0 n1 n2 : Int} (h : R3 w W l n0 n1 n2) (j : Nat) (m0 m1 m2 x : Int) (he : (#[.int .i64 n0, .int .i64 n1, .int .i64 n2] : Array Value).setIfInBounds j (.int .i64 x) = #[.int .i64 m0, .int .i64 m1, .int .i64 m2]) : R3 w (W.setCell ⟨w.heap.size + 2, j, none⟩ (.int .i64 x)) l m0 m1 m2 := by
  have hk : Kept (fun b => b ≠ w.heap.size + 2) W (W.setCell ⟨w.heap.size + 2, j, none⟩ (.int .i64 x)) := (Kept.refl _ W).setCell (a := ⟨w.heap.size + 2, j, none⟩) (fun e => e rfl) _
  have hz : w.heap.size + 2 < W.heap.size := (Array.getElem?_eq_some_iff.1 h.num).1
  have hb : Below (w.heap.size + 2) W (W.setCell ⟨w.heap.size + 2, j, none⟩ (.int .i64 x)) := hk.below (by omega) fun b hb => by show b ≠ _; omega
  refine ⟨rp_past h.th hb (by omega), fun q v hv => ?_, ?_, h.bel.trans (hb.mono (by omega))⟩
  · exact (hb.cell (p := ⟨w.heap.size + 1, 0 + q, none⟩) (by show w.heap.size + 1 < _; omega)).trans (h.id q v hv)
  · rw [heap_setCell_same W (w.heap.size + 2) j _ _ _ h.num, he]

set_option maxHeartbeats 8000000 in
theorem rplc_long (b0 b1 b2 b3 b4 b5 b6 b7 : UInt8) (s : ByteArray) (kd : Nat) (w : World) (h9 : 9 ≤ s.size) (hkd : s[8].toNat = kd) (hs : s.size ≤ 140737488351232) (hL : s.data.toList.take 8 = [b0, b1, b2, b3, b4, b5, b6, b7])
    (n0 n1 n2 : Nat) (e0 e1 e2 : Int) (s0 s1 s2 : ByteArray)
    (h0 : ∀ W, Calls Try.prog 40 #[.string (s.extract 9 s.size), .int .u64 1099511627776] W fun e w' => e = .returned (.tuple #[.int .i64 n0, .string s0, .int .i64 e0]) ∧ Below W.heap.size W w')
    (h1 : e0 = 0 → ∀ W, Calls Try.prog 40 #[.string s0, .int .u64 1099511627776] W fun e w' => e = .returned (.tuple #[.int .i64 n1, .string s1, .int .i64 e1]) ∧ Below W.heap.size W w')
    (h2 : e0 = 0 → e1 = 0 → ∀ W, Calls Try.prog 40 #[.string s1, .int .u64 1099511627776] W fun e w' => e = .returned (.tuple #[.int .i64 n2, .string s2, .int .i64 e2]) ∧ Below W.heap.size W w') :
    Calls Try.prog 41 #[.string s] w fun e w' => (e = .returned (if e0 ≠ 0 then .tuple #[plV pl0, .string ⟨#[]⟩, .int .i64 e0] else if e1 ≠ 0 then .tuple #[plV pl0, .string ⟨#[]⟩, .int .i64 e1] else if e2 ≠ 0 then .tuple #[plV pl0, .string ⟨#[]⟩, .int .i64 e2] else .tuple #[plV ⟨[b0, b1, b2, b3, b4, b5, b6, b7], rfl, (kd : Int), n0, n1, n2⟩, .string s2, .int .i64 0])) ∧ Below w.heap.size w w' := by
  obtain ⟨RV, hRV⟩ : ∃ RV, (if e0 ≠ 0 then Value.tuple #[plV pl0, .string ⟨#[]⟩, .int .i64 e0] else if e1 ≠ 0 then .tuple #[plV pl0, .string ⟨#[]⟩, .int .i64 e1] else if e2 ≠ 0 then .tuple #[plV pl0, .string ⟨#[]⟩, .int .i64 e2] else .tuple #[plV ⟨[b0, b1, b2, b3, b4, b5, b6, b7], rfl, (kd : Int), n0, n1, n2⟩, .string s2, .int .i64 0]) = RV := ⟨_, rfl⟩
  rw [hRV]
  have HRV : Hid ((if e0 ≠ 0 then Value.tuple #[plV pl0, .string ⟨#[]⟩, .int .i64 e0] else if e1 ≠ 0 then .tuple #[plV pl0, .string ⟨#[]⟩, .int .i64 e1] else if e2 ≠ 0 then .tuple #[plV pl0, .string ⟨#[]⟩, .int .i64 e2] else .tuple #[plV ⟨[b0, b1, b2, b3, b4, b5, b6, b7], rfl, (kd : Int), n0, n1, n2⟩, .string s2, .int .i64 0]) = RV) := hRV
  clear hRV
  obtain ⟨W1, hW1⟩ : ∃ W1, W1 = w.alloc (.cells (pl12 0 0 0 0 0 0 0 0 0 0 0 0) 28) := ⟨_, rfl⟩
  have z1 : W1.heap.size = w.heap.size + 1 := by rw [hW1]; show (w.heap.push _).size = _; simp
  obtain ⟨W2, hW2⟩ : ∃ W2, W2 = W1.alloc (.cells #[.int .u8 0, .int .u8 0, .int .u8 0, .int .u8 0, .int .u8 0, .int .u8 0, .int .u8 0, .int .u8 0] 24) := ⟨_, rfl⟩
  have z2 : W2.heap.size = w.heap.size + 2 := by rw [hW2]; show (W1.heap.push _).size = _; rw [Array.size_push, z1]
  have b1w : Below w.heap.size w W1 := by rw [hW1]; exact (Below.refl _ w).alloc (Nat.le_refl _) _
  have b2w : Below w.heap.size w W2 := by rw [hW2]; exact b1w.alloc (by omega) _
  have t1 : W1.there w.heap.size 0 12 := by rw [hW1]; exact rp_there w _ _ 12 rfl
  have t2 : W2.there w.heap.size 0 12 := rp_past t1 (by rw [hW2]; exact (Below.refl W1.heap.size W1).alloc (Nat.le_refl _) _) (by omega)
  have t2i : W2.there (w.heap.size + 1) 0 8 := by rw [hW2, ← z1]; exact rp_there W1 _ _ 8 rfl
  have hcp := fun ty => rp_copy (P := Try.prog) W2 56 9 ty 5 (w.heap.size + 1) 8 8 s Try.underlying56 rp_u8 (by omega) t2i
  rw [hL] at hcp
  obtain ⟨W3, hW3⟩ : ∃ W3, W2.setCells (w.heap.size + 1) 0 ([b0, b1, b2, b3, b4, b5, b6, b7].map B) = W3 := ⟨_, rfl⟩
  rw [hW3] at hcp
  have z3 : W3.heap.size = w.heap.size + 2 := by rw [← hW3, size_cells, z2]
  have k3 : Kept (fun b => b ≠ w.heap.size + 1) W2 W3 := by rw [← hW3]; exact (Kept.refl _ W2).setCells (fun e => e rfl) _ _
  have b23 : Below (w.heap.size + 1) W2 W3 := k3.below (by omega) fun b hb => by show b ≠ _; omega
  have t3 : W3.there w.heap.size 0 12 := rp_past t2 b23 (by omega)
  have i3 : W3.rangeAt (w.heap.size + 1) 0 ([b0, b1, b2, b3, b4, b5, b6, b7].map B) := by rw [← hW3]; exact World.rangeAt_setCells_same W2 _ 0 _ t2i
  have b3w : Below w.heap.size w W3 := b2w.trans (b23.mono (by omega))
  have HR : Hid (∀ W, Below (w.heap.size + 2) W3 W → R3 w (W.alloc (.cells #[.int .i64 0, .int .i64 0, .int .i64 0] 84)) [b0, b1, b2, b3, b4, b5, b6, b7] 0 0 0 ∨ W.heap.size ≠ w.heap.size + 2) := fun W hW => by
    by_cases hz : W.heap.size = w.heap.size + 2
    · left
      have hbx : Below (w.heap.size + 2) W3 (W.alloc (.cells #[.int .i64 0, .int .i64 0, .int .i64 0] 84)) := hW.alloc (by omega) _
      refine ⟨rp_past t3 hbx (by omega), fun j v hv => (hbx.cell (p := ⟨w.heap.size + 1, 0 + j, none⟩) (by show w.heap.size + 1 < _; omega)).trans (i3 j v hv), ?_, b3w.trans (hbx.mono (by omega))⟩
      rw [← hz]
      exact heap_alloc_new W _
    · exact .inr hz
  have HZ3 : Hid (W3.heap.size = w.heap.size + 2) := z3
  clear t1 t2 t2i z2 b1w b2w k3 b23 t3 i3 b3w hL hW3
  have hs8 := s[8].toNat_lt
  rw [hkd] at hs8
  go_enter Try.func41, Try.ntmps41
  go_upto_region 1 with fail
  have ea : w.alloc (.cells #[.int .u8 0, .int .u8 0, .int .u8 0, .int .u8 0, .int .u8 0, .int .u8 0, .int .u8 0, .int .u8 0, .int .i64 0, .int .i64 0, .int .i64 0, .int .i64 0] 28) = W1 := hW1.symm
  rw [ea]
  clear ea hW1
  go_upto_region 4 with fail
  rw [← hW2]
  clear hW2

  clear z1
  go_upto_region 5 with fail
  have h8 : 8 < s.size := by omega
  have hix : ∀ W : World, (Instr.index 9 (.string s) (.int .i64 8)).run Try.prog W = .ok (.int .u8 (kd : Int)) W := fun W => by
    rw [run_index_string W 9 s .i64 8 Try.underlying9, dif_pos ⟨by omega, by omega⟩, ← hkd]
    rfl
  go_quiet (fail)
  have HRn := (HR.out (W3.drewN nq) ⟨rfl, rfl, rfl, Nat.le_refl _, fun _ _ => rfl⟩).resolve_right (fun h => h HZ3.out)
  have zn : (W3.drewN nq).heap.size = w.heap.size + 2 := z3
  clear hix hcp HR hkd
  go_wp2_with fail
  generalize (W3.drewN nq).alloc (.cells #[.int .i64 0, .int .i64 0, .int .i64 0] 84) = W4 at *
  have R4 : Hid (R3 w W4 [b0, b1, b2, b3, b4, b5, b6, b7] 0 0 0) := HRn
  clear HRn zn z3
  refine wp_loop_rounds 4 ?_
  rw [rounds_succ]
  by_cases q0 : e0 = 0
  · subst q0
    have hA := h1 rfl
    have hB := h2 rfl
    clear h1 h2
    go_upto_region 13 with (go_at_call 40; refine (h0 _).mono ?_; rintro e w5 ⟨rfl, bw5⟩)
    have Rw5 := R4.out.past bw5
    have cc := (Rw5.cell 0).1
    have cf := (Rw5.cell 0).2
    have c' : w5.cell? ⟨w.heap.size + 2, 0, none⟩ = some (.int .i64 0) := cc
    have R5 : Hid (R3 w (w5.setCell ⟨w.heap.size + 2, 0, none⟩ (.int .i64 (n0 : Int))) [b0, b1, b2, b3, b4, b5, b6, b7] (n0 : Int) 0 0) := Rw5.set 0 _ _ _ _ rfl
    clear bw5 Rw5 cc R4
    go_wp2_with fail
    generalize w5.setCell ⟨w.heap.size + 2, 0, none⟩ (.int .i64 (n0 : Int)) = w5x at *
    clear c' cf
    rw [rounds_succ]
    by_cases q1 : e1 = 0
    · subst q1
      have hC1 := hB rfl
      clear hB
      go_upto_region 13 with (go_at_call 40; refine (hA _).mono ?_; rintro e w6 ⟨rfl, bw6⟩)
      have Rw6 := R5.out.past bw6
      have cc := (Rw6.cell 1).1
      have cf := (Rw6.cell 1).2
      have c' : w6.cell? ⟨w.heap.size + 2, 1, none⟩ = some (.int .i64 0) := cc
      have R6 : Hid (R3 w (w6.setCell ⟨w.heap.size + 2, 1, none⟩ (.int .i64 (n1 : Int))) [b0, b1, b2, b3, b4, b5, b6, b7] (n0 : Int) (n1 : Int) 0) := Rw6.set 1 _ _ _ _ rfl
      clear bw6 Rw6 cc R5
      go_wp2_with fail
      generalize w6.setCell ⟨w.heap.size + 2, 1, none⟩ (.int .i64 (n1 : Int)) = w6x at *
      clear c' cf
      rw [rounds_succ]
      by_cases q2 : e2 = 0
      · subst q2
        go_upto_region 13 with (go_at_call 40; refine (hC1 _).mono ?_; rintro e w7 ⟨rfl, bw7⟩)
        have Rw7 := R6.out.past bw7
        have cc := (Rw7.cell 2).1
        have cf := (Rw7.cell 2).2
        have c' : w7.cell? ⟨w.heap.size + 2, 2, none⟩ = some (.int .i64 0) := cc
        have R7 : Hid (R3 w (w7.setCell ⟨w.heap.size + 2, 2, none⟩ (.int .i64 (n2 : Int))) [b0, b1, b2, b3, b4, b5, b6, b7] (n0 : Int) (n1 : Int) (n2 : Int)) := Rw7.set 2 _ _ _ _ rfl
        clear bw7 Rw7 cc R6
        go_wp2_with fail
        generalize w7.setCell ⟨w.heap.size + 2, 2, none⟩ (.int .i64 (n2 : Int)) = w7x at *
        clear c' cf
        rw [rounds_succ]
        have hth := R7.out.th
        have i0 : w7x.cell? ⟨w.heap.size + 1, 0, none⟩ = some (.int .u8 (b0.toNat : Int)) := R7.out.id 0 _ rfl
        have i1 : w7x.cell? ⟨w.heap.size + 1, 1, none⟩ = some (.int .u8 (b1.toNat : Int)) := R7.out.id 1 _ rfl
        have i2 : w7x.cell? ⟨w.heap.size + 1, 2, none⟩ = some (.int .u8 (b2.toNat : Int)) := R7.out.id 2 _ rfl
        have i3 : w7x.cell? ⟨w.heap.size + 1, 3, none⟩ = some (.int .u8 (b3.toNat : Int)) := R7.out.id 3 _ rfl
        have i4 : w7x.cell? ⟨w.heap.size + 1, 4, none⟩ = some (.int .u8 (b4.toNat : Int)) := R7.out.id 4 _ rfl
        have i5 : w7x.cell? ⟨w.heap.size + 1, 5, none⟩ = some (.int .u8 (b5.toNat : Int)) := R7.out.id 5 _ rfl
        have i6 : w7x.cell? ⟨w.heap.size + 1, 6, none⟩ = some (.int .u8 (b6.toNat : Int)) := R7.out.id 6 _ rfl
        have i7 : w7x.cell? ⟨w.heap.size + 1, 7, none⟩ = some (.int .u8 (b7.toNat : Int)) := R7.out.id 7 _ rfl
        have m0 : w7x.cell? ⟨w.heap.size + 2, 0, none⟩ = some (.int .i64 (n0 : Int)) := (R7.out.cell 0).1
        have m1 : w7x.cell? ⟨w.heap.size + 2, 1, none⟩ = some (.int .i64 (n1 : Int)) := (R7.out.cell 1).1
        have m2 : w7x.cell? ⟨w.heap.size + 2, 2, none⟩ = some (.int .i64 (n2 : Int)) := (R7.out.cell 2).1
        have HV : Hid (RV = .tuple #[plV (⟨[b0, b1, b2, b3, b4, b5, b6, b7], rfl, (kd : Int), (n0 : Int), (n1 : Int), (n2 : Int)⟩ : Plc), .string s2, .int .i64 0]) := by show _ = _; rw [← HRV.out, if_neg (fun h => h rfl), if_neg (fun h => h rfl), if_neg (fun h => h rfl)]
        have HBE : Hid (Below w.heap.size w (w7x.setCells w.heap.size 0 (plC (⟨[b0, b1, b2, b3, b4, b5, b6, b7], rfl, (kd : Int), (n0 : Int), (n1 : Int), (n2 : Int)⟩ : Plc)))) := rp_below (Nat.le_refl _) _ _ R7.out.bel (Nat.le_refl _)
        have hres := rp_res hth (⟨[b0, b1, b2, b3, b4, b5, b6, b7], rfl, (kd : Int), (n0 : Int), (n1 : Int), (n2 : Int)⟩ : Plc)
        clear HRV R7
        go_upto_region 16 with fail
        refine wp_region_lit ?_
        refine wpList_plain rfl fun C hC => ?_
        go_simp
        refine hC _ _ ?_
        clear hC C
        refine wpList_plain rfl fun C hC => ?_
        go_simp
        refine hC _ _ ?_
        clear hC C
        refine wpList_plain rfl fun C hC => ?_
        go_simp
        refine hC _ _ ?_
        clear hC C
        refine wpList_plain rfl fun C hC => ?_
        go_simp
        refine hC _ _ ?_
        clear hC C
        refine wpList_plain rfl fun C hC => ?_
        go_simp
        refine hC _ _ ?_
        clear hC C
        refine wpList_plain rfl fun C hC => ?_
        go_simp
        refine hC _ _ ?_
        clear hC C
        refine wpList_plain rfl fun C hC => ?_
        go_simp
        refine hC _ _ ?_
        clear hC C
        refine wpList_plain rfl fun C hC => ?_
        go_simp
        refine hC _ _ ?_
        clear hC C
        refine wpList_plain rfl fun C hC => ?_
        go_simp
        refine hC _ _ ?_
        clear hC C
        refine wpList_plain rfl fun C hC => ?_
        go_simp
        refine hC _ _ ?_
        clear hC C
        refine wpList_store_mid rfl 28 (.tmp 2) (.tmp 51) rfl w.heap.size 0 (plC (⟨[b0, b1, b2, b3, b4, b5, b6, b7], rfl, (kd : Int), (n0 : Int), (n1 : Int), (n2 : Int)⟩ : Plc)).toArray rfl rfl (by rw [rp_sz]; exact hth) (by rw [rp_info, rp_sz]) (rp_all _) ?_
        rw [show (plC (⟨[b0, b1, b2, b3, b4, b5, b6, b7], rfl, (kd : Int), (n0 : Int), (n1 : Int), (n2 : Int)⟩ : Plc)).toArray.toList = plC (⟨[b0, b1, b2, b3, b4, b5, b6, b7], rfl, (kd : Int), (n0 : Int), (n1 : Int), (n2 : Int)⟩ : Plc) from rfl]
        generalize w7x.setCells w.heap.size 0 (plC (⟨[b0, b1, b2, b3, b4, b5, b6, b7], rfl, (kd : Int), (n0 : Int), (n1 : Int), (n2 : Int)⟩ : Plc)) = wF at *
        go_wp2_with fail
        refine bodyPost_ret (v := .tuple #[plV (⟨[b0, b1, b2, b3, b4, b5, b6, b7], rfl, (kd : Int), (n0 : Int), (n1 : Int), (n2 : Int)⟩ : Plc), .string s2, .int .i64 0]) ?_ rfl ⟨by rw [HV.out], HBE.out⟩
        simp [results, asAddr, hres]
      · have hq : (e2 == 0) = false := by simpa using q2
        have hq' : (e2 != 0) = true := by simpa using q2
        have HV : Hid (RV = .tuple #[plV pl0, .string ⟨#[]⟩, .int .i64 e2]) := by show _ = _; rw [← HRV.out, if_neg (fun h => h rfl), if_neg (fun h => h rfl), if_pos q2]
        clear q2 HRV
        go_upto_region 12 with (go_at_call 40; refine (hC1 _).mono ?_; rintro e wE ⟨rfl, bE⟩)
        have RE := R6.out.past bE
        have hth := RE.th
        have HBE : Hid (Below w.heap.size w (wE.setCells w.heap.size 0 (plC pl0))) := rp_below (Nat.le_refl _) _ _ RE.bel (Nat.le_refl _)
        have hres := rp_res hth pl0
        clear RE bE
        refine wp_region_lit ?_
        refine wpList_plain rfl fun C hC => ?_
        go_simp
        refine hC _ _ ?_
        clear hC C
        refine wpList_plain rfl fun C hC => ?_
        go_simp
        refine hC _ _ ?_
        clear hC C
        refine wpList_store_mid rfl 28 (.tmp 2) (.tmp 36) rfl w.heap.size 0 (plC pl0).toArray rfl rfl (by rw [rp_sz]; exact hth) (by rw [rp_info, rp_sz]) (rp_all pl0) ?_
        rw [show (plC pl0).toArray.toList = plC pl0 from rfl]
        generalize wE.setCells w.heap.size 0 (plC pl0) = wF at *
        go_wp2_with fail
        refine bodyPost_ret (v := .tuple #[plV pl0, .string ⟨#[]⟩, .int .i64 e2]) ?_ rfl ⟨by rw [HV.out], HBE.out⟩
        simp [results, asAddr, hres]
    · have hq : (e1 == 0) = false := by simpa using q1
      have hq' : (e1 != 0) = true := by simpa using q1
      have HV : Hid (RV = .tuple #[plV pl0, .string ⟨#[]⟩, .int .i64 e1]) := by show _ = _; rw [← HRV.out, if_neg (fun h => h rfl), if_pos q1]
      clear q1 HRV
      go_upto_region 12 with (go_at_call 40; refine (hA _).mono ?_; rintro e wE ⟨rfl, bE⟩)
      have RE := R5.out.past bE
      have hth := RE.th
      have HBE : Hid (Below w.heap.size w (wE.setCells w.heap.size 0 (plC pl0))) := rp_below (Nat.le_refl _) _ _ RE.bel (Nat.le_refl _)
      have hres := rp_res hth pl0
      clear RE bE
      refine wp_region_lit ?_
      refine wpList_plain rfl fun C hC => ?_
      go_simp
      refine hC _ _ ?_
      clear hC C
      refine wpList_plain rfl fun C hC => ?_
      go_simp
      refine hC _ _ ?_
      clear hC C
      refine wpList_store_mid rfl 28 (.tmp 2) (.tmp 36) rfl w.heap.size 0 (plC pl0).toArray rfl rfl (by rw [rp_sz]; exact hth) (by rw [rp_info, rp_sz]) (rp_all pl0) ?_
      rw [show (plC pl0).toArray.toList = plC pl0 from rfl]
      generalize wE.setCells w.heap.size 0 (plC pl0) = wF at *
      go_wp2_with fail
      refine bodyPost_ret (v := .tuple #[plV pl0, .string ⟨#[]⟩, .int .i64 e1]) ?_ rfl ⟨by rw [HV.out], HBE.out⟩
      simp [results, asAddr, hres]
  · have hq : (e0 == 0) = false := by simpa using q0
    have hq' : (e0 != 0) = true := by simpa using q0
    have HV : Hid (RV = .tuple #[plV pl0, .string ⟨#[]⟩, .int .i64 e0]) := by show _ = _; rw [← HRV.out, if_pos q0]
    clear q0 HRV
    go_upto_region 12 with (go_at_call 40; refine (h0 _).mono ?_; rintro e wE ⟨rfl, bE⟩)
    have RE := R4.out.past bE
    have hth := RE.th
    have HBE : Hid (Below w.heap.size w (wE.setCells w.heap.size 0 (plC pl0))) := rp_below (Nat.le_refl _) _ _ RE.bel (Nat.le_refl _)
    have hres := rp_res hth pl0
    clear RE bE
    refine wp_region_lit ?_
    refine wpList_plain rfl fun C hC => ?_
    go_simp
    refine hC _ _ ?_
    clear hC C
    refine wpList_plain rfl fun C hC => ?_
    go_simp
    refine hC _ _ ?_
    clear hC C
    refine wpList_store_mid rfl 28 (.tmp 2) (.tmp 36) rfl w.heap.size 0 (plC pl0).toArray rfl rfl (by rw [rp_sz]; exact hth) (by rw [rp_info, rp_sz]) (rp_all pl0) ?_
    rw [show (plC pl0).toArray.toList = plC pl0 from rfl]
    generalize wE.setCells w.heap.size 0 (plC pl0) = wF at *
    go_wp2_with fail
    refine bodyPost_ret (v := .tuple #[plV pl0, .string ⟨#[]⟩, .int .i64 e0]) ?_ rfl ⟨by rw [HV.out], HBE.out⟩
    simp [results, asAddr, hres]

end Go.Proofs.Ytllioidjelgafaa

namespace Go.Proofs.Ytllioidjelgafaa
open Go.RowKit
set_option maxRecDepth 4000

set_option maxHeartbeats 1000000 in
theorem rplc_short (s : ByteArray) (w : World) (h9 : s.size < 9) :
    Calls Try.prog 41 #[.string s] w fun e w' => e = .returned (.tuple #[plV pl0, .string ⟨#[]⟩, .int .i64 3]) ∧ Below w.heap.size w w' := by
  obtain ⟨W1, hW1⟩ : ∃ W1, W1 = w.alloc (.cells (pl12 0 0 0 0 0 0 0 0 0 0 0 0) 28) := ⟨_, rfl⟩
  have b1w : Below w.heap.size w W1 := by rw [hW1]; exact (Below.refl _ w).alloc (Nat.le_refl _) _
  have hth : W1.there w.heap.size 0 12 := by rw [hW1]; exact rp_there w _ _ 12 rfl
  have HBE : Hid (Below w.heap.size w (W1.setCells w.heap.size 0 (plC pl0))) := rp_below (Nat.le_refl _) _ _ b1w (Nat.le_refl _)
  have hres := rp_res hth pl0
  have hd : decide ((s.size : Int) < 9) = true := decide_eq_true (by omega)
  go_enter Try.func41, Try.ntmps41
  go_upto_region 1 with fail
  have ea : w.alloc (.cells #[.int .u8 0, .int .u8 0, .int .u8 0, .int .u8 0, .int .u8 0, .int .u8 0, .int .u8 0, .int .u8 0, .int .i64 0, .int .i64 0, .int .i64 0, .int .i64 0] 28) = W1 := hW1.symm
  rw [ea]
  clear ea hW1 b1w h9
  go_upto_region 2 with fail
  refine wp_region_lit ?_
  refine wpList_plain rfl fun C hC => ?_
  go_simp
  refine hC _ _ ?_
  clear hC C
  refine wpList_store_mid rfl 28 (.tmp 2) (.tmp 16) rfl w.heap.size 0 (plC pl0).toArray rfl rfl (by rw [rp_sz]; exact hth) (by rw [rp_info, rp_sz]) (rp_all pl0) ?_
  rw [show (plC pl0).toArray.toList = plC pl0 from rfl]
  generalize W1.setCells w.heap.size 0 (plC pl0) = wF at *
  go_wp2_with fail
  refine bodyPost_ret (v := .tuple #[plV pl0, .string ⟨#[]⟩, .int .i64 3]) ?_ rfl ⟨rfl, HBE.out⟩
  simp [results, asAddr, hres]

theorem rnum_fix (s : ByteArray) (hs : s.size ≤ 140737488351232) (W : World) :
    Calls Try.prog 40 #[.string s, .int .u64 1099511627776] W fun e w' => e = .returned (.tuple #[.int .i64 (Ix.num s.data.toList).1, .string ⟨(Ix.num s.data.toList).2.1.toArray⟩, .int .i64 (Ix.num s.data.toList).2.2]) ∧ Below W.heap.size W w' := by
  refine (ixrnum_any s 1099511627776 W hs (Nat.le_refl _)).mono fun e w' ⟨s', h1, h2, _, h4⟩ => ⟨?_, h4⟩
  have e2 : s' = ⟨(Ix.num s.data.toList).2.1.toArray⟩ := by
    have : s'.data.toList = (Ix.num s.data.toList).2.1 := h2
    obtain ⟨⟨l⟩⟩ := s'
    rw [← this]
  rw [e2] at h1
  exact h1
theorem num_len (s : List UInt8) : (Ix.num s).2.1.length ≤ s.length := by
  rw [← rnum_ix]
  unfold rnum
  split
  · exact Nat.zero_le _
  · split
    · exact Nat.zero_le _
    · rw [List.length_drop]; omega
/-- how a place is read, step by step -/
theorem rd_steps {s : List UInt8} (h : 9 ≤ s.length) : (Ix.rdOne s).2.2 = (if (Ix.num (s.drop 9)).2.2 ≠ 0 then (Ix.num (s.drop 9)).2.2 else if (Ix.num (Ix.num (s.drop 9)).2.1).2.2 ≠ 0 then (Ix.num (Ix.num (s.drop 9)).2.1).2.2 else if (Ix.num (Ix.num (Ix.num (s.drop 9)).2.1).2.1).2.2 ≠ 0 then (Ix.num (Ix.num (Ix.num (s.drop 9)).2.1).2.1).2.2 else 0) ∧
    ((Ix.num (s.drop 9)).2.2 = 0 → (Ix.num (Ix.num (s.drop 9)).2.1).2.2 = 0 → (Ix.num (Ix.num (Ix.num (s.drop 9)).2.1).2.1).2.2 = 0 → Ix.rdOne s = (⟨s.take 8, (s.getD 8 0).toNat, (Ix.num (s.drop 9)).1, (Ix.num (Ix.num (s.drop 9)).2.1).1, (Ix.num (Ix.num (Ix.num (s.drop 9)).2.1).2.1).1⟩, (Ix.num (Ix.num (Ix.num (s.drop 9)).2.1).2.1).2.1, 0)) := by
  unfold Ix.rdOne
  rw [if_neg (by omega)]
  dsimp only
  generalize Ix.num (s.drop 9) = a
  generalize Ix.num a.2.1 = b
  generalize Ix.num b.2.1 = c
  refine ⟨?_, fun h1 h2 h3 => by rw [if_neg (fun k => k h1), if_neg (fun k => k h2), if_neg (fun k => k h3)]⟩
  by_cases h1 : a.2.2 ≠ 0
  · rw [if_pos h1, if_pos h1]
  · rw [if_neg h1, if_neg h1]
    by_cases h2 : b.2.2 ≠ 0
    · rw [if_pos h2, if_pos h2]
    · rw [if_neg h2, if_neg h2]
      by_cases h3 : c.2.2 ≠ 0
      · rw [if_pos h3, if_pos h3]
      · rw [if_neg h3, if_neg h3]
theorem rd_short {s : List UInt8} (h : s.length < 9) : (Ix.rdOne s).2.2 = 3 := by
  unfold Ix.rdOne
  rw [if_pos h]
/-- what a place's reading leaves -/
def RpOut (s : List UInt8) (t : Plc) (s' : ByteArray) (er : Int) : Prop := (Ix.rdOne s).2.2 = er ∧ (er = 0 → t.p = (Ix.rdOne s).1 ∧ s'.data.toList = (Ix.rdOne s).2.1)
theorem ba_size (l : List UInt8) : (⟨l.toArray⟩ : ByteArray).size = l.length := by show l.toArray.size = _; rw [List.size_toArray]

theorem rplc_any (s : ByteArray) (w : World) (hs : s.size ≤ 140737488351232) :
    Calls Try.prog 41 #[.string s] w fun e w' => ∃ (t : Plc) (s' : ByteArray) (er : Int), e = .returned (.tuple #[plV t, .string s', .int .i64 er]) ∧ RpOut s.data.toList t s' er ∧ s'.size ≤ s.size ∧ Below w.heap.size w w' := by
  have hsz : s.data.toList.length = s.size := (Lib.size_eq s).symm
  by_cases h9 : s.size < 9
  · exact (rplc_short s w h9).mono fun e w' ⟨he, hb⟩ => ⟨pl0, ⟨#[]⟩, 3, he, ⟨rd_short (by omega), fun h => by omega⟩, Nat.zero_le _, hb⟩
  · have h9' : 9 ≤ s.size := by omega
    obtain ⟨b0, b1, b2, b3, b4, b5, b6, b7, hL⟩ := oct (s.data.toList.take 8) (by rw [List.length_take]; omega)
    have hx9 := ixext_toList s 9
    have hz9 : (s.extract 9 s.size).size ≤ 140737488351232 := by rw [ByteArray.size_extract]; omega
    have st := rd_steps (s := s.data.toList) (by omega)
    obtain ⟨A, hA⟩ : ∃ A, Ix.num (s.data.toList.drop 9) = A := ⟨_, rfl⟩
    obtain ⟨Bb, hB⟩ : ∃ Bb, Ix.num A.2.1 = Bb := ⟨_, rfl⟩
    obtain ⟨Cc, hC⟩ : ∃ Cc, Ix.num Bb.2.1 = Cc := ⟨_, rfl⟩
    have lA := num_len (s.data.toList.drop 9)
    have lB := num_len A.2.1
    have lC := num_len Bb.2.1
    rw [hA, hB, hC] at st
    rw [hA] at lA
    rw [hB] at lB
    rw [hC] at lC
    rw [List.length_drop] at lA
    have c0 := fun W => rnum_fix (s.extract 9 s.size) hz9 W
    rw [hx9, hA] at c0
    have c1 := fun W => rnum_fix ⟨A.2.1.toArray⟩ (by rw [ba_size]; omega) W
    rw [show (⟨A.2.1.toArray⟩ : ByteArray).data.toList = A.2.1 from rfl, hB] at c1
    have c2 := fun W => rnum_fix ⟨Bb.2.1.toArray⟩ (by rw [ba_size]; omega) W
    rw [show (⟨Bb.2.1.toArray⟩ : ByteArray).data.toList = Bb.2.1 from rfl, hC] at c2
    have hlong := rplc_long b0 b1 b2 b3 b4 b5 b6 b7 s s[8].toNat w h9' rfl hs hL A.1 Bb.1 Cc.1 A.2.2 Bb.2.2 Cc.2.2 ⟨A.2.1.toArray⟩ ⟨Bb.2.1.toArray⟩ ⟨Cc.2.1.toArray⟩ c0 (fun _ => c1) (fun _ _ => c2)
    refine hlong.mono fun e w' ⟨he, hb⟩ => ?_
    by_cases h1 : A.2.2 ≠ 0
    · rw [if_pos h1] at he
      refine ⟨pl0, ⟨#[]⟩, A.2.2, he, ⟨by rw [st.1, if_pos h1], fun h => absurd h h1⟩, Nat.zero_le _, hb⟩
    · rw [if_neg h1] at he
      by_cases h2 : Bb.2.2 ≠ 0
      · rw [if_pos h2] at he
        refine ⟨pl0, ⟨#[]⟩, Bb.2.2, he, ⟨by rw [st.1, if_neg h1, if_pos h2], fun h => absurd h h2⟩, Nat.zero_le _, hb⟩
      · rw [if_neg h2] at he
        by_cases h3 : Cc.2.2 ≠ 0
        · rw [if_pos h3] at he
          refine ⟨pl0, ⟨#[]⟩, Cc.2.2, he, ⟨by rw [st.1, if_neg h1, if_neg h2, if_pos h3], fun h => absurd h h3⟩, Nat.zero_le _, hb⟩
        · rw [if_neg h3] at he
          have hall := st.2 (Decidable.not_not.1 h1) (Decidable.not_not.1 h2) (Decidable.not_not.1 h3)
          refine ⟨_, _, 0, he, ⟨by rw [hall], fun _ => ⟨?_, ?_⟩⟩, by rw [ba_size]; omega, hb⟩
          · rw [hall]
            have e8 : s.data.toList.getD 8 0 = s[8] := by
              rw [List.getD_eq_getElem?_getD, List.getElem?_eq_getElem (by omega)]
              rfl
            simp only [Plc.p, hL, e8]
          · rw [hall]
end Go.Proofs.Ytllioidjelgafaa

namespace Go.Proofs.Ytllioidjelgafaa
open Go.RowKit
set_option maxRecDepth 4000

theorem rdAll_turn (m : Nat) (s : List UInt8) (out : List Ix.Pl) : Ix.rdAll (m + 1) s out = if (Ix.rdOne s).2.2 ≠ 0 then ([], (Ix.rdOne s).2.2) else Ix.rdAll m (Ix.rdOne s).2.1 (out ++ [(Ix.rdOne s).1]) := rfl
theorem rdAll_end (s : List UInt8) (out : List Ix.Pl) : Ix.rdAll 0 s out = if s ≠ [] then ([], 4) else if Ix.check out ≠ 0 then ([], Ix.check out) else (out, 0) := rfl
theorem read_rnum (s : List UInt8) : Ix.read s = if (rnum 400 s).2.2 ≠ 0 then ([], (rnum 400 s).2.2) else Ix.rdAll (rnum 400 s).1 (rnum 400 s).2.1 [] := by
  unfold Ix.read rnum
  dsimp only
  by_cases h : (Nm.getN s).2.2 ≠ 0
  · rw [if_pos h, if_pos h]; rw [if_pos h]
  · rw [if_neg h, if_neg h]
    by_cases h2 : 400 < (Nm.getN s).1
    · rw [if_pos h2, if_pos h2]; rfl
    · rw [if_neg h2, if_neg h2]; rfl
theorem rnum_le (s : List UInt8) : (rnum 400 s).1 ≤ 400 := by
  unfold rnum
  split
  · exact Nat.zero_le _
  · split
    · exact Nat.zero_le _
    · rename_i h; exact Nat.le_of_not_lt h
theorem ps_more (l : List Plc) (t : Plc) : ps (l ++ [t]) = ps l ++ [t.p] := by simp [ps]

set_option maxHeartbeats 8000000 in
theorem ixread_any (s : ByteArray) (w : World) (hs : s.size ≤ 140737488351232) :
    Calls Try.prog 21 #[.string s] w fun e w' => ∃ x, e = .returned (.tuple #[x, .int .i64 (Ix.read s.data.toList).2]) ∧ PlOut w w' x (Ix.read s.data.toList).1 := by
  obtain ⟨i0, hi, hz0, hz1, hz2⟩ := info_three info_plz
  obtain ⟨R, hR⟩ : ∃ R, Ix.read s.data.toList = R := ⟨_, rfl⟩
  have hrr := read_rnum s.data.toList
  rw [hR] at hrr ⊢
  have hn4 := rnum_le s.data.toList
  have hrn := ixrnum_any s 400 w hs (by omega)
  obtain ⟨n, r0, e0, h3⟩ : ∃ n r e, rnum 400 s.data.toList = (n, r, e) := ⟨_, _, _, rfl⟩
  rw [h3] at hrr hn4 hrn
  dsimp only at hrr hn4 hrn
  have hrp := fun q W h => rplc_any q W h
  clear h3 hR
  by_cases q0 : e0 = 0
  · subst q0
    rw [if_neg (fun h => h rfl)] at hrr
    go_enter Try.func21, Try.ntmps21
    go_upto_region 4 with (go_at_call 40; refine hrn.mono ?_; rintro e w1 ⟨s1, rfl, hs1, hz1', bw1⟩)
    have HB1 : Hid (Below w.heap.size w w1) := bw1
    have HR0 : Hid (R = Ix.rdAll (n - 0) s1.data.toList (ps [])) := by show _ = _; rw [hs1]; exact hrr
    have HS1 : Hid (s1.size ≤ 140737488351232) := Nat.le_trans hz1' hs
    clear hrn bw1 hs1 hz1' hrr
    go_wp2_with fail
    go_loopw [5, 7, 22] (fun vl vp i wr => ∃ (k : Nat) (q : ByteArray) (O : List Plc), k ≤ n ∧ i = .int .i64 k ∧ vl = .string q ∧ Hid (q.size ≤ 140737488351232) ∧ Hid (O.length = k) ∧ Hid (R = Ix.rdAll (n - k) q.data.toList (ps O)) ∧ Hid (wr.ownsRow w.heap.size 28 12 vp k (rowR plC O)) ∧ Hid (Below w.heap.size w wr)) (fun _ _ i _ => n - (intOf i).toNat)
    case atStart => exact ⟨0, s1, [], by omega, rfl, rfl, HS1, rfl, HR0, World.ownsRow_nil _ _ _ _, HB1⟩
    case round =>
      obtain ⟨k, q, O, hk, rfl, rfl, hq, hO, hr, hown, hbel⟩ := hrel
      clear HR0 HB1 HS1
      by_cases hlt : k < n
      · have hrp1 := hrp q wr hq.out
        clear hrp
        go_upto_region 7 with fail
        refine wp_region_lit ?_
        refine wpList_plain rfl fun C hC => ?_
        go_simp
        refine hC _ _ ?_
        clear hC C
        refine wpList_plain rfl fun C hC => ?_
        go_simp
        refine hrp1.mono ?_
        rintro e w2 ⟨t, q2, er, rfl, ho, hz, b2'⟩
        refine hC _ _ ?_
        clear hC C hrp1
        obtain ⟨b0, b1, b2, b3, b4, b5, b6, b7, k1, p1, a1, l1, ht12⟩ := t.as12
        have HT12 : Hid (t = ⟨[b0, b1, b2, b3, b4, b5, b6, b7], rfl, k1, p1, a1, l1⟩) := ht12
        rw [ht12, plV_12]
        have HB2 : Hid (Below w.heap.size w w2) := hbel.out.trans (b2'.mono hbel.out.size)
        have hown2 := ownp_below hown.out b2'
        have hown3 := hown2.alloc (.cells (pl12 b0 b1 b2 b3 b4 b5 b6 b7 k1 p1 a1 l1) 28)
        have HB3 : Hid (Below w.heap.size w (w2.alloc (.cells (pl12 b0 b1 b2 b3 b4 b5 b6 b7 k1 p1 a1 l1) 28))) := HB2.out.alloc HB2.out.size _
        have hat := At12.new w2 28 b0 b1 b2 b3 b4 b5 b6 b7 k1 p1 a1 l1
        by_cases qe : er = 0
        · subst qe
          obtain ⟨hr1, hr2⟩ := ho
          obtain ⟨hr3, hr4⟩ := hr2 rfl
          have HR2 : Hid (R = Ix.rdAll (n - (k + 1)) q2.data.toList (ps (O ++ [t]))) := by
            show _ = _
            rw [hr.out, show n - k = (n - (k + 1)) + 1 from by omega, rdAll_turn, if_neg (fun h => h hr1), hr4, ps_more, hr3]
          have HQ2 : Hid (q2.size ≤ 140737488351232) := Nat.le_trans hz hq.out
          clear ht12 hr1 hr2 hr3 hr4 hown hown2 hr b2' hz
          go_upto_region 10 with fail
          have e3 : w2.alloc (.cells #[.int .u8 (b0.toNat : Int), .int .u8 (b1.toNat : Int), .int .u8 (b2.toNat : Int), .int .u8 (b3.toNat : Int), .int .u8 (b4.toNat : Int), .int .u8 (b5.toNat : Int), .int .u8 (b6.toNat : Int), .int .u8 (b7.toNat : Int), .int .i64 k1, .int .i64 p1, .int .i64 a1, .int .i64 l1] 28) = w2.alloc (.cells (pl12 b0 b1 b2 b3 b4 b5 b6 b7 k1 p1 a1 l1) 28) := rfl
          rw [e3]
          clear e3
          generalize w2.alloc (.cells (pl12 b0 b1 b2 b3 b4 b5 b6 b7 k1 p1 a1 l1) 28) = w3 at *
          have y0 : w3.cell? ⟨w2.heap.size, 0, none⟩ = some (.int .u8 (b0.toNat : Int)) := hat.c0
          have y1 : w3.cell? ⟨w2.heap.size, 1, none⟩ = some (.int .u8 (b1.toNat : Int)) := hat.c1
          have y2 : w3.cell? ⟨w2.heap.size, 2, none⟩ = some (.int .u8 (b2.toNat : Int)) := hat.c2
          have y3 : w3.cell? ⟨w2.heap.size, 3, none⟩ = some (.int .u8 (b3.toNat : Int)) := hat.c3
          have y4 : w3.cell? ⟨w2.heap.size, 4, none⟩ = some (.int .u8 (b4.toNat : Int)) := hat.c4
          have y5 : w3.cell? ⟨w2.heap.size, 5, none⟩ = some (.int .u8 (b5.toNat : Int)) := hat.c5
          have y6 : w3.cell? ⟨w2.heap.size, 6, none⟩ = some (.int .u8 (b6.toNat : Int)) := hat.c6
          have y7 : w3.cell? ⟨w2.heap.size, 7, none⟩ = some (.int .u8 (b7.toNat : Int)) := hat.c7
          have y8 : w3.cell? ⟨w2.heap.size, 8, none⟩ = some (.int .i64 k1) := hat.c8
          have y9 : w3.cell? ⟨w2.heap.size, 9, none⟩ = some (.int .i64 p1) := hat.c9
          have y10 : w3.cell? ⟨w2.heap.size, 10, none⟩ = some (.int .i64 a1) := hat.c10
          have y11 : w3.cell? ⟨w2.heap.size, 11, none⟩ = some (.int .i64 l1) := hat.c11
          clear hat
          have hone := one_cells w3 (pl12 b0 b1 b2 b3 b4 b5 b6 b7 k1 p1 a1 l1).toList 28
          have hown4 := hown3.alloc (.cells (pl12 b0 b1 b2 b3 b4 b5 b6 b7 k1 p1 a1 l1) 28)
          have HB4 : Hid (Below w.heap.size w (w3.alloc (.cells (pl12 b0 b1 b2 b3 b4 b5 b6 b7 k1 p1 a1 l1) 28))) := HB3.out.alloc HB3.out.size _
          have hsa : w.heap.size ≤ (w3.alloc (.cells (pl12 b0 b1 b2 b3 b4 b5 b6 b7 k1 p1 a1 l1) 28)).heap.size := HB4.out.size
          have hsb : w.heap.size ≤ w3.heap.size + 1 := by have := HB3.out.size; omega
          have hk4 : k ≤ 400 := by omega
          go_wp2_with (at_builtin; refine wpList_append_own _ rfl (.tmp 33) (.tmp 35) 22 rfl w.heap.size 28 i0 (plV pl0) 12 40 Try.underlying22 hi hz0 hz1 hz2 (by kernel_rfl) (by decide) _ _ _ rfl hown4 ⟨w3.heap.size, 0, none⟩ 1 1 (pl12 b0 b1 b2 b3 b4 b5 b6 b7 k1 p1 a1 l1).toList rfl rfl hone ?c2 ?c3 ?c4 ?c5 ?_)
          case c2 => exact ⟨rfl, rfl, rfl, rfl, rfl, rfl, rfl, rfl, rfl, rfl, rfl, rfl⟩
          case c3 => unfold maxLen; omega
          case c4 => omega
          intro v5 w5 o5 g5 _
          have HO5 : Hid (w5.ownsRow w.heap.size 28 12 v5 (k + 1) (rowR plC (O ++ [t]))) := by
            rw [rowR_more, HT12.out]
            exact o5
          have HB5 : Hid (Below w.heap.size w w5) := HB4.out.grown g5 hsa fun j hj => (hown4.lt j hj).1
          have HL5 : Hid ((O ++ [t]).length = k + 1) := by show (O ++ [t]).length = _; rw [List.length_append, hO.out]; rfl
          clear o5 g5 hown4 hown3 hone HB4 HB3 hsa hsb y0 y1 y2 y3 y4 y5 y6 y7 y8 y9 y10 y11
          go_wp2_with fail
          go_roundw
          case rel => exact ⟨k + 1, q2, O ++ [t], by omega, by go_num, rfl, HQ2, HL5, HR2, HO5, HB5⟩
          case measure => simp only [intOf]; omega
        · have HR2 : Hid (R = ([], er)) := by
            show _ = _
            rw [hr.out, show n - k = (n - (k + 1)) + 1 from by omega, rdAll_turn, ho.1, if_pos qe]
          have hqe : (er == 0) = false := by simpa using qe
          have hqe' : (er != 0) = true := by simpa using qe
          clear ht12 ho hown hown2 hown3 hr b2' qe hat
          go_wp2_with fail
          go_ret2
          exact ⟨.slice none 0 0, by rw [HR2.out]; rfl, by rw [HR2.out]; exact PlOut.nil HB3.out⟩
      · obtain rfl : k = n := by omega
        rw [Nat.sub_self, rdAll_end] at hr
        have hown1 := hown.out
        rw [← hO.out] at hown1
        have hown' := hown1
        clear hown1
        have hP := Rx.of_own (l := O) plC_length hown'
        obtain ⟨so, co, hvo, _, _⟩ := hP.slice
        subst hvo
        have HNB : Hid (∀ a n c, (Value.slice so O.length co) = .slice (some a) n c → w.heap.size ≤ a.block) := fun a n c e => by
          rcases hown'.2 with ⟨e1, _⟩ | ⟨g, cap, cur, e1, hb, _⟩
          · rw [e1] at e; simp at e
          · rw [e1, Value.slice.injEq] at e
            obtain ⟨rfl, _⟩ := Option.some.inj e.1
            exact hb
        have HP : Hid (Px wr (.slice so O.length co) O) := hP
        have HBW : Hid (Below w.heap.size w wr) := hbel.out
        have hlq : q.data.toList.length = q.size := (Lib.size_eq q).symm
        have lO : O.length ≤ 140737488351232 := by rw [hO.out]; omega
        clear hP hown hown' hrp hbel
        by_cases qs : q.size = 0
        · have hqn : q.data.toList = [] := List.length_eq_zero_iff.1 (by omega)
          rw [hqn, if_neg (fun h => h rfl)] at hr
          have hck := check_any _ O wr HP.out lO
          obtain ⟨ec, hec⟩ : ∃ ec, Ix.check (ps O) = ec := ⟨_, rfl⟩
          rw [hec] at hck hr
          have hd : decide ((0 : Int) < (q.size : Int)) = false := decide_eq_false (by omega)
          have hd' : decide (0 < q.size) = false := decide_eq_false (by omega)
          have hd2 : (0 < q.size) = False := eq_false (by omega)
          by_cases qc : ec = 0
          · subst qc
            rw [if_neg (fun h => h rfl)] at hr
            clear hqn hec hlq qs
            go_wp2_with (go_at_call 13; refine hck.mono ?_; rintro e w6 ⟨rfl, b6⟩)
            go_ret2
            refine ⟨.slice so O.length co, by rw [hr.out]; rfl, ?_⟩
            rw [hr.out]
            exact ⟨O, rfl, HP.out.below b6, HNB.out, HBW.out.trans (b6.mono HBW.out.size)⟩
          · rw [if_pos qc] at hr
            have hqe : (ec == 0) = false := by simpa using qc
            have hqe' : (ec != 0) = true := by simpa using qc
            clear hqn hec hlq qs qc
            go_wp2_with (go_at_call 13; refine hck.mono ?_; rintro e w6 ⟨rfl, b6⟩)
            go_ret2
            exact ⟨.slice none 0 0, by rw [hr.out]; rfl, by rw [hr.out]; exact PlOut.nil (HBW.out.trans (b6.mono HBW.out.size))⟩
        · have hqn : q.data.toList ≠ [] := fun e => by rw [e] at hlq; simp at hlq; omega
          rw [if_pos hqn] at hr
          have hd : decide ((0 : Int) < (q.size : Int)) = true := decide_eq_true (by omega)
          have hd' : decide (0 < q.size) = true := decide_eq_true (by omega)
          clear hqn hlq qs
          go_wp2_with fail
          go_ret2
          exact ⟨.slice none 0 0, by rw [hr.out]; rfl, by rw [hr.out]; exact PlOut.nil HBW.out⟩
  · rw [if_pos q0] at hrr
    have HR2 : Hid (R = ([], e0)) := hrr
    have hqe : (e0 == 0) = false := by simpa using q0
    have hqe' : (e0 != 0) = true := by simpa using q0
    clear q0 hrr hrp
    go_enter Try.func21, Try.ntmps21
    go_wp2_with (go_at_call 40; refine hrn.mono ?_; rintro e w1 ⟨s1, rfl, hs1, hz1', bw1⟩)
    go_ret2
    exact ⟨.slice none 0 0, by rw [HR2.out]; rfl, by rw [HR2.out]; exact PlOut.nil bw1⟩

theorem read_tell {s : ByteArray} {w : World} {out : List Ix.Pl} {er : Int} (he : Ix.read s.data.toList = (out, er)) (hs : s.size ≤ 140737488351232) :
    Calls Try.prog 21 #[.string s] w fun e w' => ∃ s c l, e = .returned (.tuple #[.slice s l.length c, .int .i64 er]) ∧ MgOut w w' s c l out := by
  refine (ixread_any s w hs).mono fun e w' ⟨x, hx, ho⟩ => ?_
  rw [he] at hx ho
  obtain ⟨s, c, l, rfl, h2⟩ := MgOut.of ho
  exact ⟨s, c, l, hx, h2⟩
end Go.Proofs.Ytllioidjelgafaa
