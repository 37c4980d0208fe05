/-
  What readPlace of package index answers.
-/
import Derived.Test.YtllioidjelgafabPlRNum
import Derived.Test.YtllioidjelgafabPlRw
import Derived.Deep.Cut
import Derived.Deep.MidRow
namespace Go.Proofs.Ytllioidjelgafab
open Go.RowKit
set_option maxRecDepth 4000

theorem rp_info : (Try.prog.info? 29).map (·.size) = some 12 := by kernel_rfl
theorem rp_all (t : Plc) : (plC t).toArray.all (·.oneCell') = true := by rw [Array.all_eq_true']; intro v hv; exact plC_one t v (by simpa using hv)
theorem rp_sz (t : Plc) : (plC t).toArray.size = 12 := by rw [List.size_toArray, plC_length]
theorem rp_res {W : World} {G : Nat} (h : W.there G 0 12) (t : Plc) : (loadVar 29 ⟨G, 0, none⟩).run Try.prog (W.setCells G 0 (plC t)) = .ok (plV t) (W.setCells G 0 (plC t)) :=
  run_loadVar_mid _ G 0 29 (plC t) _ (World.rangeAt_setCells_same W G 0 _ (by rw [plC_length]; exact h)) Try.underlying29 rfl (by rw [rp_info, plC_length])
theorem rp_there (W : World) (t : TypeId) (cs : Array Value) (n : Nat) (h : cs.size = n) : (W.alloc (.cells cs t)).there W.heap.size 0 n := fun j hj => by
  rw [Nat.zero_add, cell_of_row _ W.heap.size j _ _ _ (heap_alloc_new W _)]
  refine ⟨by simp [h, hj], frozen_of_row _ W.heap.size j cs t (heap_alloc_new W _)⟩
theorem rp_past {W W' : World} {B G n : Nat} (h : W.there G 0 n) (hb : Below B W W') (hg : G < B) : W'.there G 0 n := fun j hj => by
  have e := hb.block G hg
  have e1 : W'.cell? ⟨G, 0 + j, none⟩ = W.cell? ⟨G, 0 + j, none⟩ := by simp only [World.cell?, e]
  have e2 : W'.frozen? ⟨G, 0 + j, none⟩ = W.frozen? ⟨G, 0 + j, none⟩ := by simp only [World.frozen?, e]
  rw [e1, e2]
  exact h j hj
theorem rp_below {A G : Nat} (h : A ≤ G) {w : World} (o : Nat) (vs : List Value) {W : World} (hb : Below A w W) (hA : A ≤ w.heap.size) : Below A w (W.setCells G o vs) :=
  Kept.below (Kept.setCells (p := fun b => b < A) (Kept.of_below_at hb fun _ hk => hk) (g := G) (by show ¬ G < A; omega) o vs) hA fun _ hk => hk
theorem rp_copy {P : Program} (w : World) (dT sT ty elem : TypeId) (b dLen dCap : Nat) (t : ByteArray)
    (hu : P.underlying dT = some (.slice elem)) (hz : ∀ w, (Go.sizeOf elem).run P w = .ok 1 w) (hle : dLen ≤ t.size) (ht : w.there b 0 dLen) :
    (Builtin.copy_ #[dT, sT] ty #[.slice (some ⟨b, 0, none⟩) dLen dCap, .string t]).run P w = .ok (goInt dLen) (w.setCells b 0 ((t.data.toList.take dLen).map B)) := by
  have hmin : Nat.min t.size dLen = dLen := Nat.min_eq_right hle
  have hl : ((t.data.toList.take dLen).map B).length = dLen := by rw [List.length_map, List.length_take, ← Lib.size_eq, Nat.min_eq_left hle]
  have hst := run_storeCells_cells (P := P) b 0 ((t.data.toList.take dLen).map B) 0 w (by rw [hl]; exact fun j hj => (ht j hj).1) (by rw [hl]; exact fun j hj => (ht j hj).2) (by
    intro v hv
    obtain ⟨x, _, rfl⟩ := List.mem_map.1 hv
    rfl)
  simp [Builtin.copy_, run_underlying hu, Builtin.lenOf, Builtin.firstCells, hz, hmin]
  rw [show List.take dLen (List.map (fun b => Value.int IntKind.u8 (b.toNat : Int)) t.data.toList) = (t.data.toList.take dLen).map B from by rw [List.map_take]; rfl, hst]
  rw [← List.map_take]
  rfl
theorem rp_u8 (w : World) : (Go.sizeOf 5).run Try.prog w = .ok 1 w := by go_simp
/-- three numbers in a block of one's own, a place's room, an ID -/
structure R3 (w W : World) (l : List UInt8) (n0 n1 n2 : Int) : Prop where
  th : W.there w.heap.size 0 12
  id : W.rangeAt (w.heap.size + 1) 0 (l.map B)
  num : W.heap[w.heap.size + 2]? = some (.cells #[.int .i64 n0, .int .i64 n1, .int .i64 n2] 64 (0, 0))
  bel : Below w.heap.size w W
theorem R3.past {w W W' : World} {l : List UInt8} {n0 n1 n2 : Int} (h : R3 w W l n0 n1 n2) (hb : Below W.heap.size W W') : R3 w W' l n0 n1 n2 := by
  have hz : w.heap.size + 2 < W.heap.size := (Array.getElem?_eq_some_iff.1 h.num).1
  refine ⟨rp_past h.th hb (by omega), fun j v hv => ?_, (hb.block _ hz).trans h.num, h.bel.trans (hb.mono h.bel.size)⟩
  exact (hb.cell (p := ⟨w.heap.size + 1, 0 + j, none⟩) (by show w.heap.size + 1 < _; omega)).trans (h.id j v hv)
theorem R3.cell {w W : World} {l : List UInt8} {n0 n1 n2 : Int} (h : R3 w W l n0 n1 n2) (j : Nat) : W.cell? ⟨w.heap.size + 2, j, none⟩ = (#[.int .i64 n0, .int .i64 n1, .int .i64 n2] : Array Value)[j]? ∧ W.frozen? ⟨w.heap.size + 2, j, none⟩ = false :=
  ⟨cell_of_row _ _ j _ _ _ h.num, frozen_of_row _ _ j _ _ h.num⟩
theorem R3.set {w W : World} {l : List UInt8} {n0 n1 n2 : Int} (h : R3 w W l n0 n1 n2) (j : Nat) (m0 m1 m2 x : Int) (he : (#[.int .i64 n0, .int .i64 n1, .int .i64 n2] : Array Value).setIfInBounds j (.int .i64 x) = #[.int .i64 m0, .int .i64 m1, .int .i64 m2]) : R3 w (W.setCell ⟨w.heap.size + 2, j, none⟩ (.int .i64 x)) l m0 m1 m2 := by
  have hk : Kept (fun b => b ≠ w.heap.size + 2) W (W.setCell ⟨w.heap.size + 2, j, none⟩ (.int .i64 x)) := (Kept.refl _ W).setCell (a := ⟨w.heap.size + 2, j, none⟩) (fun e => e rfl) _
  have hz : w.heap.size + 2 < W.heap.size := (Array.getElem?_eq_some_iff.1 h.num).1
  have hb : Below (w.heap.size + 2) W (W.setCell ⟨w.heap.size + 2, j, none⟩ (.int .i64 x)) := hk.below (by omega) fun b hb => by show b ≠ _; omega
  refine ⟨rp_past h.th hb (by omega), fun q v hv => ?_, ?_, h.bel.trans (hb.mono (by omega))⟩
  · exact (hb.cell (p := ⟨w.heap.size + 1, 0 + q, none⟩) (by show w.heap.size + 1 < _; omega)).trans (h.id q v hv)
  · rw [heap_setCell_same W (w.heap.size + 2) j _ _ _ h.num, he]

set_option maxHeartbeats 8000000 in
theorem rplc_long (b0 b1 b2 b3 b4 b5 b6 b7 : UInt8) (s : ByteArray) (kd : Nat) (w : World) (h9 : 9 ≤ s.size) (hkd : s[8].toNat = kd) (hs : s.size ≤ 140737488351232) (hL : s.data.toList.take 8 = [b0, b1, b2, b3, b4, b5, b6, b7])
    (n0 n1 n2 : Nat) (e0 e1 e2 : Int) (s0 s1 s2 : ByteArray)
    (h0 : ∀ W, Calls Try.prog 20 #[.string (s.extract 9 s.size), .int .u64 1099511627776] W fun e w' => e = .returned (.tuple #[.int .i64 n0, .string s0, .int .i64 e0]) ∧ Below W.heap.size W w')
    (h1 : e0 = 0 → ∀ W, Calls Try.prog 20 #[.string s0, .int .u64 1099511627776] W fun e w' => e = .returned (.tuple #[.int .i64 n1, .string s1, .int .i64 e1]) ∧ Below W.heap.size W w')
    (h2 : e0 = 0 → e1 = 0 → ∀ W, Calls Try.prog 20 #[.string s1, .int .u64 1099511627776] W fun e w' => e = .returned (.tuple #[.int .i64 n2, .string s2, .int .i64 e2]) ∧ Below W.heap.size W w') :
    Calls Try.prog 21 #[.string s] w fun e w' => (e = .returned (if e0 ≠ 0 then .tuple #[plV pl0, .string ⟨#[]⟩, .int .i64 e0] else if e1 ≠ 0 then .tuple #[plV pl0, .string ⟨#[]⟩, .int .i64 e1] else if e2 ≠ 0 then .tuple #[plV pl0, .string ⟨#[]⟩, .int .i64 e2] else .tuple #[plV ⟨[b0, b1, b2, b3, b4, b5, b6, b7], rfl, (kd : Int), n0, n1, n2⟩, .string s2, .int .i64 0])) ∧ Below w.heap.size w w' := by
  obtain ⟨RV, hRV⟩ : ∃ RV, (if e0 ≠ 0 then Value.tuple #[plV pl0, .string ⟨#[]⟩, .int .i64 e0] else if e1 ≠ 0 then .tuple #[plV pl0, .string ⟨#[]⟩, .int .i64 e1] else if e2 ≠ 0 then .tuple #[plV pl0, .string ⟨#[]⟩, .int .i64 e2] else .tuple #[plV ⟨[b0, b1, b2, b3, b4, b5, b6, b7], rfl, (kd : Int), n0, n1, n2⟩, .string s2, .int .i64 0]) = RV := ⟨_, rfl⟩
  rw [hRV]
  have HRV : Hid ((if e0 ≠ 0 then Value.tuple #[plV pl0, .string ⟨#[]⟩, .int .i64 e0] else if e1 ≠ 0 then .tuple #[plV pl0, .string ⟨#[]⟩, .int .i64 e1] else if e2 ≠ 0 then .tuple #[plV pl0, .string ⟨#[]⟩, .int .i64 e2] else .tuple #[plV ⟨[b0, b1, b2, b3, b4, b5, b6, b7], rfl, (kd : Int), n0, n1, n2⟩, .string s2, .int .i64 0]) = RV) := hRV
  clear hRV
  obtain ⟨W1, hW1⟩ : ∃ W1, W1 = w.alloc (.cells (pl12 0 0 0 0 0 0 0 0 0 0 0 0) 29) := ⟨_, rfl⟩
  have z1 : W1.heap.size = w.heap.size + 1 := by rw [hW1]; show (w.heap.push _).size = _; simp
  obtain ⟨W2, hW2⟩ : ∃ W2, W2 = W1.alloc (.cells #[.int .u8 0, .int .u8 0, .int .u8 0, .int .u8 0, .int .u8 0, .int .u8 0, .int .u8 0, .int .u8 0] 27) := ⟨_, rfl⟩
  have z2 : W2.heap.size = w.heap.size + 2 := by rw [hW2]; show (W1.heap.push _).size = _; rw [Array.size_push, z1]
  have b1w : Below w.heap.size w W1 := by rw [hW1]; exact (Below.refl _ w).alloc (Nat.le_refl _) _
  have b2w : Below w.heap.size w W2 := by rw [hW2]; exact b1w.alloc (by omega) _
  have t1 : W1.there w.heap.size 0 12 := by rw [hW1]; exact rp_there w _ _ 12 rfl
  have t2 : W2.there w.heap.size 0 12 := rp_past t1 (by rw [hW2]; exact (Below.refl W1.heap.size W1).alloc (Nat.le_refl _) _) (by omega)
  have t2i : W2.there (w.heap.size + 1) 0 8 := by rw [hW2, ← z1]; exact rp_there W1 _ _ 8 rfl
  have hcp := fun ty => rp_copy (P := Try.prog) W2 49 9 ty 5 (w.heap.size + 1) 8 8 s Try.underlying49 rp_u8 (by omega) t2i
  rw [hL] at hcp
  obtain ⟨W3, hW3⟩ : ∃ W3, W2.setCells (w.heap.size + 1) 0 ([b0, b1, b2, b3, b4, b5, b6, b7].map B) = W3 := ⟨_, rfl⟩
  rw [hW3] at hcp
  have z3 : W3.heap.size = w.heap.size + 2 := by rw [← hW3, size_cells, z2]
  have k3 : Kept (fun b => b ≠ w.heap.size + 1) W2 W3 := by rw [← hW3]; exact (Kept.refl _ W2).setCells (fun e => e rfl) _ _
  have b23 : Below (w.heap.size + 1) W2 W3 := k3.below (by omega) fun b hb => by show b ≠ _; omega
  have t3 : W3.there w.heap.size 0 12 := rp_past t2 b23 (by omega)
  have i3 : W3.rangeAt (w.heap.size + 1) 0 ([b0, b1, b2, b3, b4, b5, b6, b7].map B) := by rw [← hW3]; exact World.rangeAt_setCells_same W2 _ 0 _ t2i
  have b3w : Below w.heap.size w W3 := b2w.trans (b23.mono (by omega))
  have HR : Hid (∀ W, Below (w.heap.size + 2) W3 W → R3 w (W.alloc (.cells #[.int .i64 0, .int .i64 0, .int .i64 0] 64)) [b0, b1, b2, b3, b4, b5, b6, b7] 0 0 0 ∨ W.heap.size ≠ w.heap.size + 2) := fun W hW => by
    by_cases hz : W.heap.size = w.heap.size + 2
    · left
      have hbx : Below (w.heap.size + 2) W3 (W.alloc (.cells #[.int .i64 0, .int .i64 0, .int .i64 0] 64)) := hW.alloc (by omega) _
      refine ⟨rp_past t3 hbx (by omega), fun j v hv => (hbx.cell (p := ⟨w.heap.size + 1, 0 + j, none⟩) (by show w.heap.size + 1 < _; omega)).trans (i3 j v hv), ?_, b3w.trans (hbx.mono (by omega))⟩
      rw [← hz]
      exact heap_alloc_new W _
    · exact .inr hz
  have HZ3 : Hid (W3.heap.size = w.heap.size + 2) := z3
  clear t1 t2 t2i z2 b1w b2w k3 b23 t3 i3 b3w hL hW3
  have hs8 := s[8].toNat_lt
  rw [hkd] at hs8
  go_enter Try.func21, Try.ntmps21
  go_upto_region 1 with fail
  have ea : w.alloc (.cells #[.int .u8 0, .int .u8 0, .int .u8 0, .int .u8 0, .int .u8 0, .int .u8 0, .int .u8 0, .int .u8 0, .int .i64 0, .int .i64 0, .int .i64 0, .int .i64 0] 29) = W1 := hW1.symm
  rw [ea]
  clear ea hW1
  go_upto_region 4 with fail
  rw [← hW2]
  clear hW2

  clear z1
  go_upto_region 5 with fail
  have h8 : 8 < s.size := by omega
  have hix : ∀ W : World, (Instr.index 9 (.string s) (.int .i64 8)).run Try.prog W = .ok (.int .u8 (kd : Int)) W := fun W => by
    rw [run_index_string W 9 s .i64 8 Try.underlying9, dif_pos ⟨by omega, by omega⟩, ← hkd]
    rfl
  go_quiet (fail)
  have HRn := (HR.out (W3.drewN nq) ⟨rfl, rfl, rfl, Nat.le_refl _, fun _ _ => rfl⟩).resolve_right (fun h => h HZ3.out)
  have zn : (W3.drewN nq).heap.size = w.heap.size + 2 := z3
  clear hix hcp HR hkd
  go_wp2_with fail
  generalize (W3.drewN nq).alloc (.cells #[.int .i64 0, .int .i64 0, .int .i64 0] 64) = W4 at *
  have R4 : Hid (R3 w W4 [b0, b1, b2, b3, b4, b5, b6, b7] 0 0 0) := HRn
  clear HRn zn z3
  refine wp_loop_rounds 4 ?_
  rw [rounds_succ]
  by_cases q0 : e0 = 0
  · subst q0
    have hA := h1 rfl
    have hB := h2 rfl
    clear h1 h2
    go_upto_region 13 with (go_at_call 20; refine (h0 _).mono ?_; rintro e w5 ⟨rfl, bw5⟩)
    have Rw5 := R4.out.past bw5
    have cc := (Rw5.cell 0).1
    have cf := (Rw5.cell 0).2
    have c' : w5.cell? ⟨w.heap.size + 2, 0, none⟩ = some (.int .i64 0) := cc
    have R5 : Hid (R3 w (w5.setCell ⟨w.heap.size + 2, 0, none⟩ (.int .i64 (n0 : Int))) [b0, b1, b2, b3, b4, b5, b6, b7] (n0 : Int) 0 0) := Rw5.set 0 _ _ _ _ rfl
    clear bw5 Rw5 cc R4
    go_wp2_with fail
    generalize w5.setCell ⟨w.heap.size + 2, 0, none⟩ (.int .i64 (n0 : Int)) = w5x at *
    clear c' cf
    rw [rounds_succ]
    by_cases q1 : e1 = 0
    · subst q1
      have hC1 := hB rfl
      clear hB
      go_upto_region 13 with (go_at_call 20; refine (hA _).mono ?_; rintro e w6 ⟨rfl, bw6⟩)
      have Rw6 := R5.out.past bw6
      have cc := (Rw6.cell 1).1
      have cf := (Rw6.cell 1).2
      have c' : w6.cell? ⟨w.heap.size + 2, 1, none⟩ = some (.int .i64 0) := cc
      have R6 : Hid (R3 w (w6.setCell ⟨w.heap.size + 2, 1, none⟩ (.int .i64 (n1 : Int))) [b0, b1, b2, b3, b4, b5, b6, b7] (n0 : Int) (n1 : Int) 0) := Rw6.set 1 _ _ _ _ rfl
      clear bw6 Rw6 cc R5
      go_wp2_with fail
      generalize w6.setCell ⟨w.heap.size + 2, 1, none⟩ (.int .i64 (n1 : Int)) = w6x at *
      clear c' cf
      rw [rounds_succ]
      by_cases q2 : e2 = 0
      · subst q2
        go_upto_region 13 with (go_at_call 20; refine (hC1 _).mono ?_; rintro e w7 ⟨rfl, bw7⟩)
        have Rw7 := R6.out.past bw7
        have cc := (Rw7.cell 2).1
        have cf := (Rw7.cell 2).2
        have c' : w7.cell? ⟨w.heap.size + 2, 2, none⟩ = some (.int .i64 0) := cc
        have R7 : Hid (R3 w (w7.setCell ⟨w.heap.size + 2, 2, none⟩ (.int .i64 (n2 : Int))) [b0, b1, b2, b3, b4, b5, b6, b7] (n0 : Int) (n1 : Int) (n2 : Int)) := Rw7.set 2 _ _ _ _ rfl
        clear bw7 Rw7 cc R6
        go_wp2_with fail
        generalize w7.setCell ⟨w.heap.size + 2, 2, none⟩ (.int .i64 (n2 : Int)) = w7x at *
        clear c' cf
        rw [rounds_succ]
        have hth := R7.out.th
        have i0 : w7x.cell? ⟨w.heap.size + 1, 0, none⟩ = some (.int .u8 (b0.toNat : Int)) := R7.out.id 0 _ rfl
        have i1 : w7x.cell? ⟨w.heap.size + 1, 1, none⟩ = some (.int .u8 (b1.toNat : Int)) := R7.out.id 1 _ rfl
        have i2 : w7x.cell? ⟨w.heap.size + 1, 2, none⟩ = some (.int .u8 (b2.toNat : Int)) := R7.out.id 2 _ rfl
        have i3 : w7x.cell? ⟨w.heap.size + 1, 3, none⟩ = some (.int .u8 (b3.toNat : Int)) := R7.out.id 3 _ rfl
        have i4 : w7x.cell? ⟨w.heap.size + 1, 4, none⟩ = some (.int .u8 (b4.toNat : Int)) := R7.out.id 4 _ rfl
        have i5 : w7x.cell? ⟨w.heap.size + 1, 5, none⟩ = some (.int .u8 (b5.toNat : Int)) := R7.out.id 5 _ rfl
        have i6 : w7x.cell? ⟨w.heap.size + 1, 6, none⟩ = some (.int .u8 (b6.toNat : Int)) := R7.out.id 6 _ rfl
        have i7 : w7x.cell? ⟨w.heap.size + 1, 7, none⟩ = some (.int .u8 (b7.toNat : Int)) := R7.out.id 7 _ rfl
        have m0 : w7x.cell? ⟨w.heap.size + 2, 0, none⟩ = some (.int .i64 (n0 : Int)) := (R7.out.cell 0).1
        have m1 : w7x.cell? ⟨w.heap.size + 2, 1, none⟩ = some (.int .i64 (n1 : Int)) := (R7.out.cell 1).1
        have m2 : w7x.cell? ⟨w.heap.size + 2, 2, none⟩ = some (.int .i64 (n2 : Int)) := (R7.out.cell 2).1
        have HV : Hid (RV = .tuple #[plV (⟨[b0, b1, b2, b3, b4, b5, b6, b7], rfl, (kd : Int), (n0 : Int), (n1 : Int), (n2 : Int)⟩ : Plc), .string s2, .int .i64 0]) := by show _ = _; rw [← HRV.out, if_neg (fun h => h rfl), if_neg (fun h => h rfl), if_neg (fun h => h rfl)]
        have HBE : Hid (Below w.heap.size w (w7x.setCells w.heap.size 0 (plC (⟨[b0, b1, b2, b3, b4, b5, b6, b7], rfl, (kd : Int), (n0 : Int), (n1 : Int), (n2 : Int)⟩ : Plc)))) := rp_below (Nat.le_refl _) _ _ R7.out.bel (Nat.le_refl _)
        have hres := rp_res hth (⟨[b0, b1, b2, b3, b4, b5, b6, b7], rfl, (kd : Int), (n0 : Int), (n1 : Int), (n2 : Int)⟩ : Plc)
        clear HRV R7
        go_upto_region 16 with fail
        refine wp_region_lit ?_
        refine wpList_plain rfl fun C hC => ?_
        go_simp
        refine hC _ _ ?_
        clear hC C
        refine wpList_plain rfl fun C hC => ?_
        go_simp
        refine hC _ _ ?_
        clear hC C
        refine wpList_plain rfl fun C hC => ?_
        go_simp
        refine hC _ _ ?_
        clear hC C
        refine wpList_plain rfl fun C hC => ?_
        go_simp
        refine hC _ _ ?_
        clear hC C
        refine wpList_plain rfl fun C hC => ?_
        go_simp
        refine hC _ _ ?_
        clear hC C
        refine wpList_plain rfl fun C hC => ?_
        go_simp
        refine hC _ _ ?_
        clear hC C
        refine wpList_plain rfl fun C hC => ?_
        go_simp
        refine hC _ _ ?_
        clear hC C
        refine wpList_plain rfl fun C hC => ?_
        go_simp
        refine hC _ _ ?_
        clear hC C
        refine wpList_plain rfl fun C hC => ?_
        go_simp
        refine hC _ _ ?_
        clear hC C
        refine wpList_plain rfl fun C hC => ?_
        go_simp
        refine hC _ _ ?_
        clear hC C
        refine wpList_store_mid rfl 29 (.tmp 2) (.tmp 51) rfl w.heap.size 0 (plC (⟨[b0, b1, b2, b3, b4, b5, b6, b7], rfl, (kd : Int), (n0 : Int), (n1 : Int), (n2 : Int)⟩ : Plc)).toArray rfl rfl (by rw [rp_sz]; exact hth) (by rw [rp_info, rp_sz]) (rp_all _) ?_
        rw [show (plC (⟨[b0, b1, b2, b3, b4, b5, b6, b7], rfl, (kd : Int), (n0 : Int), (n1 : Int), (n2 : Int)⟩ : Plc)).toArray.toList = plC (⟨[b0, b1, b2, b3, b4, b5, b6, b7], rfl, (kd : Int), (n0 : Int), (n1 : Int), (n2 : Int)⟩ : Plc) from rfl]
        generalize w7x.setCells w.heap.size 0 (plC (⟨[b0, b1, b2, b3, b4, b5, b6, b7], rfl, (kd : Int), (n0 : Int), (n1 : Int), (n2 : Int)⟩ : Plc)) = wF at *
        go_wp2_with fail
        refine bodyPost_ret (v := .tuple #[plV (⟨[b0, b1, b2, b3, b4, b5, b6, b7], rfl, (kd : Int), (n0 : Int), (n1 : Int), (n2 : Int)⟩ : Plc), .string s2, .int .i64 0]) ?_ rfl ⟨by rw [HV.out], HBE.out⟩
        simp [results, asAddr, hres]
      · have hq : (e2 == 0) = false := by simpa using q2
        have hq' : (e2 != 0) = true := by simpa using q2
        have HV : Hid (RV = .tuple #[plV pl0, .string ⟨#[]⟩, .int .i64 e2]) := by show _ = _; rw [← HRV.out, if_neg (fun h => h rfl), if_neg (fun h => h rfl), if_pos q2]
        clear q2 HRV
        go_upto_region 12 with (go_at_call 20; refine (hC1 _).mono ?_; rintro e wE ⟨rfl, bE⟩)
        have RE := R6.out.past bE
        have hth := RE.th
        have HBE : Hid (Below w.heap.size w (wE.setCells w.heap.size 0 (plC pl0))) := rp_below (Nat.le_refl _) _ _ RE.bel (Nat.le_refl _)
        have hres := rp_res hth pl0
        clear RE bE
        refine wp_region_lit ?_
        refine wpList_plain rfl fun C hC => ?_
        go_simp
        refine hC _ _ ?_
        clear hC C
        refine wpList_plain rfl fun C hC => ?_
        go_simp
        refine hC _ _ ?_
        clear hC C
        refine wpList_store_mid rfl 29 (.tmp 2) (.tmp 36) rfl w.heap.size 0 (plC pl0).toArray rfl rfl (by rw [rp_sz]; exact hth) (by rw [rp_info, rp_sz]) (rp_all pl0) ?_
        rw [show (plC pl0).toArray.toList = plC pl0 from rfl]
        generalize wE.setCells w.heap.size 0 (plC pl0) = wF at *
        go_wp2_with fail
        refine bodyPost_ret (v := .tuple #[plV pl0, .string ⟨#[]⟩, .int .i64 e2]) ?_ rfl ⟨by rw [HV.out], HBE.out⟩
        simp [results, asAddr, hres]
    · have hq : (e1 == 0) = false := by simpa using q1
      have hq' : (e1 != 0) = true := by simpa using q1
      have HV : Hid (RV = .tuple #[plV pl0, .string ⟨#[]⟩, .int .i64 e1]) := by show _ = _; rw [← HRV.out, if_neg (fun h => h rfl), if_pos q1]
      clear q1 HRV
      go_upto_region 12 with (go_at_call 20; refine (hA _).mono ?_; rintro e wE ⟨rfl, bE⟩)
      have RE := R5.out.past bE
      have hth := RE.th
      have HBE : Hid (Below w.heap.size w (wE.setCells w.heap.size 0 (plC pl0))) := rp_below (Nat.le_refl _) _ _ RE.bel (Nat.le_refl _)
      have hres := rp_res hth pl0
      clear RE bE
      refine wp_region_lit ?_
      refine wpList_plain rfl fun C hC => ?_
      go_simp
      refine hC _ _ ?_
      clear hC C
      refine wpList_plain rfl fun C hC => ?_
      go_simp
      refine hC _ _ ?_
      clear hC C
      refine wpList_store_mid rfl 29 (.tmp 2) (.tmp 36) rfl w.heap.size 0 (plC pl0).toArray rfl rfl (by rw [rp_sz]; exact hth) (by rw [rp_info, rp_sz]) (rp_all pl0) ?_
      rw [show (plC pl0).toArray.toList = plC pl0 from rfl]
      generalize wE.setCells w.heap.size 0 (plC pl0) = wF at *
      go_wp2_with fail
      refine bodyPost_ret (v := .tuple #[plV pl0, .string ⟨#[]⟩, .int .i64 e1]) ?_ rfl ⟨by rw [HV.out], HBE.out⟩
      simp [results, asAddr, hres]
  · have hq : (e0 == 0) = false := by simpa using q0
    have hq' : (e0 != 0) = true := by simpa using q0
    have HV : Hid (RV = .tuple #[plV pl0, .string ⟨#[]⟩, .int .i64 e0]) := by show _ = _; rw [← HRV.out, if_pos q0]
    clear q0 HRV
    go_upto_region 12 with (go_at_call 20; refine (h0 _).mono ?_; rintro e wE ⟨rfl, bE⟩)
    have RE := R4.out.past bE
    have hth := RE.th
    have HBE : Hid (Below w.heap.size w (wE.setCells w.heap.size 0 (plC pl0))) := rp_below (Nat.le_refl _) _ _ RE.bel (Nat.le_refl _)
    have hres := rp_res hth pl0
    clear RE bE
    refine wp_region_lit ?_
    refine wpList_plain rfl fun C hC => ?_
    go_simp
    refine hC _ _ ?_
    clear hC C
    refine wpList_plain rfl fun C hC => ?_
    go_simp
    refine hC _ _ ?_
    clear hC C
    refine wpList_store_mid rfl 29 (.tmp 2) (.tmp 36) rfl w.heap.size 0 (plC pl0).toArray rfl rfl (by rw [rp_sz]; exact hth) (by rw [rp_info, rp_sz]) (rp_all pl0) ?_
    rw [show (plC pl0).toArray.toList = plC pl0 from rfl]
    generalize wE.setCells w.heap.size 0 (plC pl0) = wF at *
    go_wp2_with fail
    refine bodyPost_ret (v := .tuple #[plV pl0, .string ⟨#[]⟩, .int .i64 e0]) ?_ rfl ⟨by rw [HV.out], HBE.out⟩
    simp [results, asAddr, hres]

end Go.Proofs.Ytllioidjelgafab
