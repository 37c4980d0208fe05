/-
  P47: what lumref's Plant answers.
  slices.Equal over blobs.
  The walk of lumlaw.WalkPlants: it returns true.
  Nodes handed in, read as data: opened.
  Blobs, ways and items handed in and read as data: opened, shut, and how great they may be.
  What the rows list of unicode/utf8's tables is what ValidString's contract asks.
-/
import Derived.Test.YtimdioacmojkeaaGreatDoorXWalkPlants4
import Derived.Test.YtimdioacmojkeaaGreatDoorXWalkPlants1
import Derived.Test.YtimdioacmojkeaaGreatDoorXWalkPlants0
import Derived.Test.YtimdioacmojkeaaGreatDoorXWalkPlants2
import Derived.Test.YtimdioacmojkeaaGreatDoorRows
import Derived.Lib.SmallJoins
import Derived.Test.YtimdioacmojkeaaGreatDoorXWalkPlants3
import Derived.Lib.LaidU8T
import Derived.SliceStrings

namespace Go.Proofs.YtimdioacmojkeaaGreatDoor
open Go.RowKit
set_option maxRecDepth 4000
open Nn (Name)

set_option maxHeartbeats 4000000 in
set_option maxRecDepth 10000 in
theorem rplant_any (fx mn mx bt : Int) (v : Value) (l : List Im) (w : World) (h : Ims w v l) (hok : ∀ x ∈ l, x.Ok) (hs : ∀ x ∈ l, x.path.size ≤ 1048576 ∧ x.bytes.size ≤ 1048576) (hM : Ml w) :
    Calls Tryz.prog 8 #[wayV fx mn mx bt, v] w (PlOut fx mn mx bt l w) := by
  unfold PlOut
  obtain ⟨P, hP⟩ : ∃ P, P = plantP fx mn mx bt (its l) := ⟨_, rfl⟩
  rw [← hP]
  have HP : Hid (P = if wayN fx mn mx bt ≠ 0 then ([], [], wayN fx mn mx bt) else if Wk.world (its l) ≠ 0 then ([], [], Wk.world (its l)) else Wk.plantDir (cutF fx mn mx bt) (its l) 9 [] []) := hP
  obtain ⟨a, c, rfl, hlc1, hlc2⟩ := h.slice
  obtain ⟨W2, hW2⟩ : ∃ W2, W2 = (w.alloc (.cells #[.int .i64 fx, .int .i64 mn, .int .i64 mx, .int .i64 bt] 25)).alloc (.cells #[.int .u8 0, .int .u8 0, .int .u8 0, .int .u8 0, .int .u8 0, .int .u8 0, .int .u8 0, .int .u8 0] 29) := ⟨_, rfl⟩
  obtain ⟨t1, t2, t3, t4⟩ := two_new w (.cells #[.int .i64 fx, .int .i64 mn, .int .i64 mx, .int .i64 bt] 25) (.cells #[.int .u8 0, .int .u8 0, .int .u8 0, .int .u8 0, .int .u8 0, .int .u8 0, .int .u8 0, .int .u8 0] 29)
  rw [← hW2] at t1 t2 t3 t4
  have HB2 : Hid (Below w.heap.size w W2) := t4
  have HI2 : Hid (W2.heap[w.heap.size + 1]? = some (.cells Z8 29 (0, 0))) := t2
  have HY2 : Hid (W2.heap[w.heap.size]? = some (.cells #[.int .i64 fx, .int .i64 mn, .int .i64 mx, .int .i64 bt] 25 (0, 0))) := t1
  have HX : Hid (Ims w (.slice a l.length c) l) := h
  have HK : Hid ((∀ x ∈ l, x.Ok) ∧ ∀ x ∈ l, x.path.size ≤ 1048576) := ⟨hok, fun x hx => (hs x hx).1⟩
  have HM : Hid (Ml w) := hM
  have hway := rway_any fx mn mx bt W2
  have hchk := fun W (hW : Below w.heap.size w W) => rworld_any _ l W (HX.out.below hW) hs
  obtain ⟨c0, c1, c2, c3⟩ : W2.cell? ⟨w.heap.size, 0, none⟩ = some (.int .i64 fx) ∧ W2.cell? ⟨w.heap.size, 1, none⟩ = some (.int .i64 mn) ∧ W2.cell? ⟨w.heap.size, 2, none⟩ = some (.int .i64 mx) ∧ W2.cell? ⟨w.heap.size, 3, none⟩ = some (.int .i64 bt) := by
    refine ⟨?_, ?_, ?_, ?_⟩ <;> simp [World.cell?, t1]
  obtain ⟨LN, hLN⟩ : ∃ LN, LN = l.length := ⟨_, rfl⟩
  have HLN : Hid (LN = l.length) := hLN
  rw [← hLN] at HX hchk ⊢
  clear hP h hok hs hM t1 t2 t3 t4 hLN hlc1 hlc2
  go_enter Tryz.func8, Tryz.ntmps8
  go_upto_region 1 with fail
  rw [← hW2]
  clear hW2
  go_wp2_with fail
  refine hway.mono ?_
  rintro e w3 ⟨rfl, b3⟩
  have HB3 : Hid (Below w.heap.size w w3) := HB2.out.trans (b3.mono HB2.out.size)
  have hI3 : w3.heap[w.heap.size + 1]? = some (.cells Z8 29 (0, 0)) := (b3.block _ (Array.getElem?_eq_some_iff.1 HI2.out).1).trans HI2.out
  have HI3 : Hid (w3.heap[w.heap.size + 1]? = some (.cells Z8 29 (0, 0))) := hI3
  have HY3 : Hid (w3.heap[w.heap.size]? = some (.cells #[.int .i64 fx, .int .i64 mn, .int .i64 mx, .int .i64 bt] 25 (0, 0))) := (b3.block _ (Array.getElem?_eq_some_iff.1 HY2.out).1).trans HY2.out
  clear hway b3 c0 c1 c2 c3
  by_cases hE : wayN fx mn mx bt = 0
  case neg =>
    have hRe : P = ([], [], wayN fx mn mx bt) := by rw [HP.out, if_pos hE]
    obtain ⟨ER, hER⟩ : ∃ ER, wayN fx mn mx bt = ER := ⟨_, rfl⟩
    rw [hER] at hRe hE ⊢
    clear HP
    subst hRe
    have hne : (ER != 0) = true := by rw [bne_iff_ne]; exact hE
    have HE : Hid (ER ≠ 0) := hE
    obtain ⟨z0, z1, z2, z3, z4, z5, z6, z7⟩ := I8.cells (b0 := 0) (b1 := 0) (b2 := 0) (b3 := 0) (b4 := 0) (b5 := 0) (b6 := 0) (b7 := 0) (I8.zero hI3)
    obtain ⟨f0, f1, f2, f3, f4, f5, f6, f7⟩ := (I8.zero hI3).free
    have HB9 : Hid (Below w.heap.size w (set8 w3 (w.heap.size + 1) 0 0 0 0 0 0 0 0)) := below_set8 HB3.out (by omega) _ _ _ _ _ _ _ _
    clear hER hE hchk hI3
    go_wp2_with fail
    refine bodyPost_ret (v := .tuple #[.slice none 0 0, .agg #[B 0, B 0, B 0, B 0, B 0, B 0, B 0, B 0], .int .i64 ER]) ?_ rfl ⟨_, List.replicate 8 0, rfl, rfl, HB9.out, fun _ => ⟨rfl, rfl⟩, fun e => absurd e HE.out⟩
    have hres : Tryz.f8.results = #[.tmp 4, .cell 5 29, .tmp 6] := by kernel_rfl
    simp only [results, hres]
    go_simp
    rfl
  have HWy : Hid (wayN fx mn mx bt = 0) := hE
  have HP2 : Hid (P = if Wk.world (its l) ≠ 0 then ([], [], Wk.world (its l)) else Wk.plantDir (cutF fx mn mx bt) (its l) 9 [] []) := by show _ = _; rw [HP.out, if_neg (fun q => q hE)]
  rw [hE]
  clear HP hE hI3
  go_wp2_with fail
  refine (hchk w3 HB3.out).mono ?_
  rintro e w4 ⟨rfl, b4⟩
  have HB4 : Hid (Below w.heap.size w w4) := HB3.out.trans (b4.mono HB3.out.size)
  have hI4 : w4.heap[w.heap.size + 1]? = some (.cells Z8 29 (0, 0)) := (b4.block _ (Array.getElem?_eq_some_iff.1 HI3.out).1).trans HI3.out
  have HI4 : Hid (w4.heap[w.heap.size + 1]? = some (.cells Z8 29 (0, 0))) := hI4
  have hY4 : w4.heap[w.heap.size]? = some (.cells #[.int .i64 fx, .int .i64 mn, .int .i64 mx, .int .i64 bt] 25 (0, 0)) := (b4.block _ (Array.getElem?_eq_some_iff.1 HY3.out).1).trans HY3.out
  clear hchk b4
  by_cases hE : Wk.world (its l) = 0
  case neg =>
    have hRe : P = ([], [], Wk.world (its l)) := by rw [HP2.out, if_pos hE]
    obtain ⟨ER, hER⟩ : ∃ ER, Wk.world (its l) = ER := ⟨_, rfl⟩
    rw [hER] at hRe hE ⊢
    clear HP2
    subst hRe
    have hne : (ER != 0) = true := by rw [bne_iff_ne]; exact hE
    have HE : Hid (ER ≠ 0) := hE
    obtain ⟨z0, z1, z2, z3, z4, z5, z6, z7⟩ := I8.cells (b0 := 0) (b1 := 0) (b2 := 0) (b3 := 0) (b4 := 0) (b5 := 0) (b6 := 0) (b7 := 0) (I8.zero hI4)
    obtain ⟨f0, f1, f2, f3, f4, f5, f6, f7⟩ := (I8.zero hI4).free
    have HB9 : Hid (Below w.heap.size w (set8 w4 (w.heap.size + 1) 0 0 0 0 0 0 0 0)) := below_set8 HB4.out (by omega) _ _ _ _ _ _ _ _
    clear hER hE hI4
    go_wp2_with fail
    refine bodyPost_ret (v := .tuple #[.slice none 0 0, .agg #[B 0, B 0, B 0, B 0, B 0, B 0, B 0, B 0], .int .i64 ER]) ?_ rfl ⟨_, List.replicate 8 0, rfl, rfl, HB9.out, fun _ => ⟨rfl, rfl⟩, fun e => absurd e HE.out⟩
    have hres : Tryz.f8.results = #[.tmp 4, .cell 5 29, .tmp 6] := by kernel_rfl
    simp only [results, hres]
    go_simp
    rfl
  have HP3 : Hid (P = Wk.plantDir (cutF fx mn mx bt) (its l) 9 [] (pl [])) := by show _ = _; rw [HP2.out, if_neg (fun q => q hE)]; rfl
  obtain ⟨hw100, hright⟩ := Wk.world_ok hE
  rw [its_length] at hw100
  have HAll : Hid (dI l 9 [] = l) := dI_all hE
  have hgd : Gd fx mn mx bt l := ⟨hright, HK.out.1, HWy.out⟩
  have hws : w.heap.size ≤ w4.heap.size := HB4.out.size
  have hdir := rp_all (base := w4.heap.size) (v := .slice a LN c) hgd hw100 HK.out.2 9 (by omega) [] (.slice none 0 0) [] w4 rfl (fun _ q => absurd q List.not_mem_nil)
    ⟨World.ownsRow_nil _ _ _ _, fun _ q => absurd q List.not_mem_nil, fun _ q => absurd q List.not_mem_nil, by simp, Nat.le_refl _⟩ (by rw [HAll.out]; simp; omega)
    (fun W hW => ⟨HX.out.below (HB4.out.trans (hW.low.mono hws)), HM.out.below (HB4.out.trans (hW.low.mono hws))⟩) P HP3.out
  have hdir' : Calls Tryz.prog 23 #[.agg #[.int .i64 fx, .int .i64 mn, .int .i64 mx, .int .i64 bt], .slice a LN c, .string ⟨#[]⟩, .slice none 0 0] w4 fun e w' => ∃ bv' id, e = .returned (.tuple #[bv', idV id, .int .i64 P.2.2]) ∧ id.length = 8 ∧ Rk w4.heap.size w4 w' ∧
    (∃ a n c, bv' = .slice a n c) ∧ (P.2.2 = 0 → id = P.2.1 ∧ ∃ bs', pl bs' = P.1 ∧ Ow w4.heap.size w' bv' bs' ∧ bs'.length ≤ ([] : List Blb).length + 300 * (dI l 9 []).length + 1) := hdir
  obtain ⟨c0, c1, c2, c3⟩ : w4.cell? ⟨w.heap.size, 0, none⟩ = some (.int .i64 fx) ∧ w4.cell? ⟨w.heap.size, 1, none⟩ = some (.int .i64 mn) ∧ w4.cell? ⟨w.heap.size, 2, none⟩ = some (.int .i64 mx) ∧ w4.cell? ⟨w.heap.size, 3, none⟩ = some (.int .i64 bt) := by
    refine ⟨?_, ?_, ?_, ?_⟩ <;> simp [World.cell?, hY4]
  have HW100 : Hid (l.length ≤ 100) := hw100
  rw [hE]
  clear hdir hgd HP2 hright hw100 hE hI4 hY4
  go_wp2_with fail
  refine hdir'.mono ?_
  rintro e w7 ⟨bv', id, rfl, hid, f7, ⟨ba, bn, bc, rfl⟩, hz⟩
  obtain ⟨b0, b1, b2, b3, b4, b5, b6, b7, rfl⟩ := eight id hid
  have eV : idV [b0, b1, b2, b3, b4, b5, b6, b7] = .agg #[.int .u8 (b0.toNat : Int), .int .u8 (b1.toNat : Int), .int .u8 (b2.toNat : Int), .int .u8 (b3.toNat : Int), .int .u8 (b4.toNat : Int), .int .u8 (b5.toNat : Int), .int .u8 (b6.toNat : Int), .int .u8 (b7.toNat : Int)] := rfl
  rw [eV]
  have HZ : Hid (P.2.2 = 0 → [b0, b1, b2, b3, b4, b5, b6, b7] = P.2.1 ∧ ∃ bs', pl bs' = P.1 ∧ Ow w4.heap.size w7 (.slice ba bn bc) bs' ∧ bs'.length ≤ ([] : List Blb).length + 300 * (dI l 9 []).length + 1) := hz
  have hI7 : w7.heap[w.heap.size + 1]? = some (.cells Z8 29 (0, 0)) := f7.kt.cell HI4.out (by decide)
  have HB7 : Hid (Below w.heap.size w w7) := HB4.out.trans (f7.low.mono hws)
  have HI7 : Hid (w7.heap[w.heap.size + 1]? = some (.cells Z8 29 (0, 0))) := hI7
  have hw7 : w.heap.size + 1 < w7.heap.size := (Array.getElem?_eq_some_iff.1 hI7).1
  clear hdir' f7 eV hid c0 c1 c2 c3
  by_cases hE : P.2.2 = 0
  case neg =>
    obtain ⟨P1, P2, ER⟩ := P
    dsimp only at hE hz ⊢
    have hne : (ER != 0) = true := by rw [bne_iff_ne]; exact hE
    have HE : Hid (ER ≠ 0) := hE
    obtain ⟨z0, z1, z2, z3, z4, z5, z6, z7⟩ := I8.cells (b0 := 0) (b1 := 0) (b2 := 0) (b3 := 0) (b4 := 0) (b5 := 0) (b6 := 0) (b7 := 0) (I8.zero hI7)
    obtain ⟨f0, f1, f2, f3, f4, f5, f6, f7⟩ := (I8.zero hI7).free
    have HB9 : Hid (Below w.heap.size w ((set8 w7 (w.heap.size + 1) 0 0 0 0 0 0 0 0).alloc (.cells #[.int .u8 (b0.toNat : Int), .int .u8 (b1.toNat : Int), .int .u8 (b2.toNat : Int), .int .u8 (b3.toNat : Int), .int .u8 (b4.toNat : Int), .int .u8 (b5.toNat : Int), .int .u8 (b6.toNat : Int), .int .u8 (b7.toNat : Int)] 29))) := by
      have hb := below_set8 HB7.out (Nat.le_succ _) 0 0 0 0 0 0 0 0
      exact hb.alloc hb.size _
    clear hE hz hI7
    go_wp2_with fail
    refine bodyPost_ret (v := .tuple #[.slice none 0 0, .agg #[B 0, B 0, B 0, B 0, B 0, B 0, B 0, B 0], .int .i64 ER]) ?_ rfl ⟨_, List.replicate 8 0, rfl, rfl, HB9.out, fun _ => ⟨rfl, rfl⟩, fun e => absurd e HE.out⟩
    have hres : Tryz.f8.results = #[.tmp 4, .cell 5 29, .tmp 6] := by kernel_rfl
    simp only [results, hres]
    go_simp
    rfl
  obtain ⟨hid, bs', hb1, hb2, hb3⟩ := hz hE
  obtain ⟨z0, z1, z2, z3, z4, z5, z6, z7⟩ := I8.cells (b0 := 0) (b1 := 0) (b2 := 0) (b3 := 0) (b4 := 0) (b5 := 0) (b6 := 0) (b7 := 0) (I8.zero hI7)
  obtain ⟨f0, f1, f2, f3, f4, f5, f6, f7⟩ := (I8.zero hI7).free
  obtain ⟨ba', bc', ebv⟩ := own_form hb2.own
  cases ebv
  have HB9 : Hid (Below w.heap.size w (((set8 w7 (w.heap.size + 1) b0 b1 b2 b3 b4 b5 b6 b7).alloc (.cells #[.int .u8 (b0.toNat : Int), .int .u8 (b1.toNat : Int), .int .u8 (b2.toNat : Int), .int .u8 (b3.toNat : Int), .int .u8 (b4.toNat : Int), .int .u8 (b5.toNat : Int), .int .u8 (b6.toNat : Int), .int .u8 (b7.toNat : Int)] 29)).drew)) := by
    have hb := below_set8 HB7.out (Nat.le_succ _) b0 b1 b2 b3 b4 b5 b6 b7
    exact (hb.alloc hb.size _).drew
  have HO9 : Hid ((((set8 w7 (w.heap.size + 1) b0 b1 b2 b3 b4 b5 b6 b7).alloc (.cells #[.int .u8 (b0.toNat : Int), .int .u8 (b1.toNat : Int), .int .u8 (b2.toNat : Int), .int .u8 (b3.toNat : Int), .int .u8 (b4.toNat : Int), .int .u8 (b5.toNat : Int), .int .u8 (b6.toNat : Int), .int .u8 (b7.toNat : Int)] 29)).drew).ownsRow w.heap.size 37 2 (.slice ba bs'.length bc) bs'.length (rowR blC bs')) :=
    ((own_lower (own_kt hb2.own (I8.kt8 hI7 b0 b1 b2 b3 b4 b5 b6 b7) (by decide)) hws).alloc _).drew
  have HFin : Hid (P.2.2 = 0 ∧ pl bs' = P.1 ∧ [b0, b1, b2, b3, b4, b5, b6, b7] = P.2.1 ∧ bs'.length ≤ 1000000) := ⟨hE, hb1, hid, by rw [HAll.out] at hb3; have := HW100.out; simp at hb3; omega⟩
  obtain ⟨BN, hBN⟩ : ∃ BN, BN = bs'.length := ⟨_, rfl⟩
  rw [← hBN] at ⊢
  rw [hE]
  clear hz hI7 hb1 hb2 hb3 hid
  go_wp2_with fail
  go_region
  all_goals
    go_wp2_with fail
    subst hBN
    refine bodyPost_ret (v := .tuple #[.slice ba bs'.length bc, .agg #[B b0, B b1, B b2, B b3, B b4, B b5, B b6, B b7], .int .i64 0]) ?_ rfl ⟨_, [b0, b1, b2, b3, b4, b5, b6, b7], by rw [HFin.out.1]; rfl, rfl, HB9.out, fun e => absurd HFin.out.1 e, fun _ => ⟨bs', HFin.out.2.1, HFin.out.2.2.1, HO9.out, HFin.out.2.2.2⟩⟩
    have hres : Tryz.f8.results = #[.tmp 4, .cell 5 29, .tmp 6] := by kernel_rfl
    simp only [results, hres]
    go_simp
    try exact ⟨rfl, rfl, rfl, rfl, rfl, rfl, rfl, rfl⟩

end Go.Proofs.YtimdioacmojkeaaGreatDoor

namespace Go.Proofs.YtimdioacmojkeaaGreatDoor
open Go.RowKit
set_option maxRecDepth 4000

set_option maxHeartbeats 2000000 in
theorem equal_blobs (v1 v2 : Value) (l m : List Blb) (w : World) (h1 : Bx w v1 l) (h2 : Bx w v2 m) (hl : l.length ≤ 140737488351232) :
    Calls Tryz.prog 13 #[v1, v2] w fun e w' => ∃ b : Bool, e = .returned (.bool b) ∧ (b = true ↔ l = m) ∧ Below w.heap.size w w' := by
  obtain ⟨a1, c1, rfl, j1, j2⟩ := h1.slice
  obtain ⟨a2, c2, rfl, j3, j4⟩ := h2.slice
  clear j1 j2 j3 j4
  obtain ⟨n1, hn1⟩ : ∃ n, n = l.length := ⟨_, rfl⟩
  obtain ⟨n2, hn2⟩ : ∃ n, n = m.length := ⟨_, rfl⟩
  have HN1 : Hid (n1 = l.length) := hn1
  have HN2 : Hid (n2 = m.length) := hn2
  rw [← hn1] at h1 hl ⊢
  rw [← hn2] at h2 ⊢
  clear hn1 hn2
  by_cases hq : n1 = n2
  case neg =>
    have hb : ((n1 : Int) != (n2 : Int)) = true := by rw [bne_iff_ne]; omega
    have HF : Hid (l ≠ m) := by rintro rfl; exact hq (HN1.out.trans HN2.out.symm)
    clear hq h1 h2
    go_enter Tryz.func13, Tryz.ntmps13
    go_wp2_with fail
    go_ret
    exact ⟨false, rfl, ⟨fun q => absurd q (by decide), fun q => absurd q HF.out⟩, Below.refl _ _⟩
  subst hq
  have hb : ((n1 : Int) != (n1 : Int)) = false := by simp
  go_enter Tryz.func13, Tryz.ntmps13
  go_wp2_with fail
  clear hb
  go_loopw [13] (fun i wr => ∃ k : Nat, k ≤ n1 ∧ i = .int .i64 k ∧ l.take k = m.take k ∧ Below w.heap.size w wr) (fun i _ => n1 - (intOf i).toNat)
  case atStart => exact ⟨0, by omega, rfl, rfl, Below.refl _ _⟩
  case round =>
    obtain ⟨k, hk, rfl, hpre, hbel⟩ := hrel
    have HP : Hid (l.take k = m.take k) := hpre
    clear hpre
    by_cases hlt : k < n1
    · obtain ⟨t, ht⟩ : ∃ t, l[k]? = some t := ⟨_, List.getElem?_eq_getElem (by have := HN1.out; omega)⟩
      obtain ⟨u, hu⟩ : ∃ u, m[k]? = some u := ⟨_, List.getElem?_eq_getElem (by have := HN2.out; omega)⟩
      obtain ⟨bk, o, rfl, hbk, c0, c1⟩ := (h1.below hbel).blob k t ht
      obtain ⟨bk', o', rfl, hbk', d0, d1⟩ := (h2.below hbel).blob k u hu
      have HT : Hid (l[k]? = some t ∧ m[k]? = some u) := ⟨ht, hu⟩
      clear h1 h2 ht hu
      have x0 : ∀ X : Since wr.heap.size wr, X.val.cell? ⟨bk, o + k * 2, none⟩ = some (.int .i64 t.kind) := fun X => (X.property.cell (p := ⟨bk, o + k * 2, none⟩) hbk).trans c0
      have x1 : ∀ X : Since wr.heap.size wr, X.val.cell? ⟨bk, o + k * 2 + 1, none⟩ = some (.string t.bytes) := fun X => (X.property.cell (p := ⟨bk, o + k * 2 + 1, none⟩) hbk).trans c1
      have y0 : ∀ X : Since wr.heap.size wr, X.val.cell? ⟨bk', o' + k * 2, none⟩ = some (.int .i64 u.kind) := fun X => (X.property.cell (p := ⟨bk', o' + k * 2, none⟩) hbk').trans d0
      have y1 : ∀ X : Since wr.heap.size wr, X.val.cell? ⟨bk', o' + k * 2 + 1, none⟩ = some (.string u.bytes) := fun X => (X.property.cell (p := ⟨bk', o' + k * 2 + 1, none⟩) hbk').trans d1
      clear c0 c1 d0 d1
      have heq := fun W => bl_cmp W t u
      have HS : Hid (blSame t u = true ↔ t = u) := blSame_iff
      have hne : Nonempty (Since wr.heap.size wr) := ⟨⟨wr, Below.refl _ _⟩⟩
      generalize blSame t u = S at *
      cases S
      · go_wp2_with fail
        refine wp_region_since (B := wr.heap.size) (W0 := wr) (by kernel_rfl) (by kernel_rfl) (Below.refl _ _) ?_
        repeat (go_big_quiet_step (fail))
        refine wpQuiet_nil ?_
        rintro w7 ⟨U, rfl⟩
        have hU := U.property
        have HB3 : Hid (Below w.heap.size w U.val) := hbel.trans (hU.mono hbel.size)
        generalize U.val = w7 at *
        clear hU hbel x0 x1 y0 y1 heq hne
        go_wp2_with fail
        go_ret
        refine ⟨false, rfl, ⟨fun q => absurd q (by decide), ?_⟩, HB3.out⟩
        rintro rfl
        have := HT.out.1.symm.trans HT.out.2
        have := HS.out.2 (Option.some.inj this)
        cases this
      · go_wp2_with fail
        refine wp_region_since (B := wr.heap.size) (W0 := wr) (by kernel_rfl) (by kernel_rfl) (Below.refl _ _) ?_
        repeat (go_big_quiet_step (fail))
        refine wpQuiet_nil ?_
        rintro w7 ⟨U, rfl⟩
        have hU := U.property
        have HB3 : Hid (Below w.heap.size w U.val) := hbel.trans (hU.mono hbel.size)
        generalize U.val = w7 at *
        clear hU hbel x0 x1 y0 y1 heq hne
        go_wp2_with fail
        go_roundw
        case rel =>
          refine ⟨k + 1, by omega, by go_num, ?_, HB3.out⟩
          rw [List.take_add_one, List.take_add_one, HP.out, HT.out.1, HT.out.2, HS.out.1 (by first | exact trivial | rfl)]
        case measure => simp only [intOf]; omega
    · go_wp2_with fail
      go_ret
      refine ⟨true, rfl, ⟨fun _ => ?_, fun _ => rfl⟩, hbel⟩
      have h := HP.out
      have := HN1.out
      have := HN2.out
      rwa [List.take_of_length_le (by omega), List.take_of_length_le (by omega)] at h

end Go.Proofs.YtimdioacmojkeaaGreatDoor

namespace Go.Proofs.YtimdioacmojkeaaGreatDoor
open Go.RowKit
set_option maxRecDepth 4000

/-- both plantings answer the same -/
theorem pl_same {fx mn mx bt : Int} {l : List Im} {w W : World} {e e' : Ending} {w1 w2 : World} (h : PlOut fx mn mx bt l w e w1) (k : PlOut fx mn mx bt l W e' w2) :
    ∃ v v' id bs, e = .returned (.tuple #[v, idV id, .int .i64 (plantP fx mn mx bt (its l)).2.2]) ∧ e' = .returned (.tuple #[v', idV id, .int .i64 (plantP fx mn mx bt (its l)).2.2]) ∧ id.length = 8 ∧ bs.length ≤ 1000000 ∧ Bx w1 v bs ∧ Bx w2 v' bs ∧ Below w.heap.size w w1 ∧ Below W.heap.size W w2 := by
  obtain ⟨v, id, rfl, h8, hb, h1, h2⟩ := h
  obtain ⟨v', id', rfl, k8, kb, k1, k2⟩ := k
  by_cases hE : (plantP fx mn mx bt (its l)).2.2 = 0
  · obtain ⟨bs, p1, p2, p3, p4⟩ := h2 hE
    obtain ⟨bs', q1, q2, q3, q4⟩ := k2 hE
    obtain rfl : bs = bs' := (List.map_inj_right fun _ _ => Blb.p_inj).1 (p1.trans q1.symm)
    refine ⟨v, v', id, bs, rfl, by rw [p2, q2], h8, p4, Rx.of_own blC_length p3, Rx.of_own blC_length q3, hb, kb⟩
  · obtain ⟨rfl, rfl⟩ := h1 hE
    obtain ⟨rfl, rfl⟩ := k1 hE
    exact ⟨_, _, _, [], rfl, rfl, h8, by simp, ⟨.inl ⟨⟨_, _, rfl⟩, rfl⟩, ⟨_, _, _, rfl, Nat.le_refl _, by omega⟩⟩, ⟨.inl ⟨⟨_, _, rfl⟩, rfl⟩, ⟨_, _, _, rfl, Nat.le_refl _, by omega⟩⟩, hb, kb⟩

set_option maxRecDepth 10000 in
set_option maxHeartbeats 4000000 in
theorem walkPlants_walk (a0 b0' c0 e0 : Int) (v1 : Value) (l1 : List Im) (z1 : l1.length ≤ 140737488351232) (f1 : ∀ x ∈ l1, x.Ok) (y1 : ∀ x ∈ l1, x.path.size ≤ 1048576 ∧ x.bytes.size ≤ 1048576) (w : World) (t1 : Ims w v1 l1) (hT : Tabs w) (hM : Ml w) :
    Calls Tryz.prog 3 #[wayV a0 b0' c0 e0, v1] w fun e w' => e = .returned (.bool true) ∧ Below w.heap.size w w' := by
  obtain ⟨W1, hW1⟩ : ∃ W1, W1 = w.alloc (.cells #[.int .i64 a0, .int .i64 b0', .int .i64 c0, .int .i64 e0] 25) := ⟨_, rfl⟩
  have HB1 : Hid (Below w.heap.size w W1) := by rw [hW1]; exact (Below.refl _ w).alloc (Nat.le_refl _) _
  have HY1 : Hid (W1.heap[w.heap.size]? = some (.cells #[.int .i64 a0, .int .i64 b0', .int .i64 c0, .int .i64 e0] 25 (0, 0))) := by rw [hW1]; exact heap_alloc_new w _
  have h1 := plant_any a0 b0' c0 e0 v1 l1 W1 (t1.below HB1.out) z1 f1 (hT.below HB1.out)
  have h2 : ∀ W, Below w.heap.size w W → Calls Tryz.prog 8 #[wayV a0 b0' c0 e0, v1] W (PlOut a0 b0' c0 e0 l1 W) := fun W hW => rplant_any a0 b0' c0 e0 v1 l1 W (t1.below hW) f1 y1 (hM.below hW)
  have h3 : ∀ W, Below w.heap.size w W → Calls Tryz.prog 9 #[v1] W fun e w' => e = .returned (.int .i64 (Wk.world (its l1))) ∧ Below W.heap.size W w' := fun W hW => wcheck_any v1 l1 W (t1.below hW) z1 f1 (hT.below hW)
  have h4 : ∀ W, Below w.heap.size w W → Calls Tryz.prog 10 #[v1] W fun e w' => e = .returned (.int .i64 (Wk.world (its l1))) ∧ Below W.heap.size W w' := fun W hW => rworld_any v1 l1 W (t1.below hW) y1
  have h5 := fun W => wayok_any a0 b0' c0 e0 W
  have h6 := fun W => rway_any a0 b0' c0 e0 W
  obtain ⟨va, vc, rfl, _, _⟩ := t1.slice
  generalize l1.length = N0 at *
  generalize Wk.world (its l1) = E1 at *
  generalize wayN a0 b0' c0 e0 = E2 at *
  have HE : Hid (∀ W W' e e' w1 w2, PlOut a0 b0' c0 e0 l1 W e w1 → PlOut a0 b0' c0 e0 l1 W' e' w2 → ∃ v v' id bs, e = .returned (.tuple #[v, idV id, .int .i64 (plantP a0 b0' c0 e0 (its l1)).2.2]) ∧ e' = .returned (.tuple #[v', idV id, .int .i64 (plantP a0 b0' c0 e0 (its l1)).2.2]) ∧ id.length = 8 ∧ bs.length ≤ 1000000 ∧ Bx w1 v bs ∧ Bx w2 v' bs ∧ Below W.heap.size W w1 ∧ Below W'.heap.size W' w2) := fun W W' e e' w1 w2 h k => pl_same h k
  have HPO : Hid (∀ W e w1, PlOut a0 b0' c0 e0 l1 W e w1 → ∃ v id, e = .returned (.tuple #[v, idV id, .int .i64 (plantP a0 b0' c0 e0 (its l1)).2.2]) ∧ id.length = 8 ∧ (∃ a n c, v = .slice a n c) ∧ Below W.heap.size W w1) := fun W e w1 h => by
    obtain ⟨v, v', id, bs, q1, _, q3, _, q5, _, q7, _⟩ := pl_same h h
    obtain ⟨a, c, q9, _, _⟩ := q5.slice
    exact ⟨v, id, q1, q3, ⟨_, _, _, q9⟩, q7⟩
  generalize (plantP a0 b0' c0 e0 (its l1)).2.2 = E3 at *
  obtain ⟨c0', c1', c2', c3'⟩ : W1.cell? ⟨w.heap.size, 0, none⟩ = some (.int .i64 a0) ∧ W1.cell? ⟨w.heap.size, 1, none⟩ = some (.int .i64 b0') ∧ W1.cell? ⟨w.heap.size, 2, none⟩ = some (.int .i64 c0) ∧ W1.cell? ⟨w.heap.size, 3, none⟩ = some (.int .i64 e0) := by
    have := HY1.out
    refine ⟨?_, ?_, ?_, ?_⟩ <;> simp [World.cell?, this]
  clear t1 hT hM z1 f1 y1
  go_enter Tryz.func3, Tryz.ntmps3
  go_upto_region 1 with fail
  rw [← hW1]
  obtain ⟨p1, hp1⟩ : ∃ p1, p1 = w.heap.size := ⟨_, rfl⟩
  have HP1 : Hid (p1 = w.heap.size) := hp1
  rw [← hp1] at HY1 c0' c1' c2' c3' ⊢
  clear hW1 hp1
  go_wp2_with fail
  refine h1.mono ?_
  rintro e w2 hq
  have HQ2 : Hid (PlOut a0 b0' c0 e0 l1 W1 e w2) := hq
  obtain ⟨v2, id, rfl, h8, ⟨sa, sn, sc, rfl⟩, k2⟩ := HPO.out _ _ _ hq
  obtain ⟨b0, b1, b2, b3, b4, b5, b6, b7, rfl⟩ := eight id h8
  have eV : idV [b0, b1, b2, b3, b4, b5, b6, b7] = .agg #[.int .u8 (b0.toNat : Int), .int .u8 (b1.toNat : Int), .int .u8 (b2.toNat : Int), .int .u8 (b3.toNat : Int), .int .u8 (b4.toNat : Int), .int .u8 (b5.toNat : Int), .int .u8 (b6.toNat : Int), .int .u8 (b7.toNat : Int)] := rfl
  rw [eV]
  rw [eV] at HQ2
  have HB2 : Hid (Below w.heap.size w w2) := HB1.out.trans (k2.mono HB1.out.size)
  have hY2 := (k2.block _ (Array.getElem?_eq_some_iff.1 HY1.out).1).trans HY1.out
  have HK2 : Hid (Below W1.heap.size W1 w2) := k2
  obtain ⟨W3, hW3⟩ : ∃ W3, W3 = w2.alloc (.cells #[.int .u8 (b0.toNat : Int), .int .u8 (b1.toNat : Int), .int .u8 (b2.toNat : Int), .int .u8 (b3.toNat : Int), .int .u8 (b4.toNat : Int), .int .u8 (b5.toNat : Int), .int .u8 (b6.toNat : Int), .int .u8 (b7.toNat : Int)] 29) := ⟨_, rfl⟩
  have hb3 : Below w2.heap.size w2 W3 := by rw [hW3]; exact (Below.refl _ w2).alloc (Nat.le_refl _) _
  have HI3 : Hid (W3.heap[w2.heap.size]? = some (.cells #[.int .u8 (b0.toNat : Int), .int .u8 (b1.toNat : Int), .int .u8 (b2.toNat : Int), .int .u8 (b3.toNat : Int), .int .u8 (b4.toNat : Int), .int .u8 (b5.toNat : Int), .int .u8 (b6.toNat : Int), .int .u8 (b7.toNat : Int)] 29 (0, 0))) := by rw [hW3]; exact heap_alloc_new w2 _
  have HB3 : Hid (Below w.heap.size w W3) := HB2.out.trans (hb3.mono HB2.out.size)
  have HY3 : Hid (W3.heap[p1]? = some (.cells #[.int .i64 a0, .int .i64 b0', .int .i64 c0, .int .i64 e0] 25 (0, 0))) := (hb3.block _ (Array.getElem?_eq_some_iff.1 hY2).1).trans hY2
  have HK3 : Hid (Below w2.heap.size w2 W3) := hb3
  have hk2 := h2 W3 HB3.out
  clear h1 hq h8 eV k2 hY2 hb3 c0' c1' c2' c3' h2
  go_upto_region 2 with fail
  rw [← hW3]
  obtain ⟨p2, hp2⟩ : ∃ p2, p2 = w2.heap.size := ⟨_, rfl⟩
  rw [← hp2] at HI3 ⊢
  clear hW3 hp2
  obtain ⟨c0', c1', c2', c3'⟩ : W3.cell? ⟨p1, 0, none⟩ = some (.int .i64 a0) ∧ W3.cell? ⟨p1, 1, none⟩ = some (.int .i64 b0') ∧ W3.cell? ⟨p1, 2, none⟩ = some (.int .i64 c0) ∧ W3.cell? ⟨p1, 3, none⟩ = some (.int .i64 e0) := by
    have := HY3.out
    refine ⟨?_, ?_, ?_, ?_⟩ <;> simp [World.cell?, this]
  go_wp2_with fail
  refine hk2.mono ?_
  rintro e w4 hq
  obtain ⟨y1, y2, y3, bs, q1, q2, q3, q4, q5, q6, q7, q8⟩ := HE.out _ _ _ _ _ _ HQ2.out hq
  simp only [Ending.returned.injEq, Value.tuple.injEq, Array.mk.injEq, List.cons.injEq, and_true] at q1
  obtain ⟨q1a, q1b⟩ := q1
  subst q1a
  rw [← q1b] at q2
  subst q2
  obtain ⟨ta, tc, ety, _, _⟩ := q6.slice
  obtain ⟨ta2, tc2, ety2, _, _⟩ := q5.slice
  rw [Value.slice.injEq] at ety2
  obtain ⟨rfl, rfl, rfl⟩ := ety2
  subst ety
  have HB4 : Hid (Below w.heap.size w w4) := HB3.out.trans (q8.mono HB3.out.size)
  obtain ⟨W5, hW5⟩ : ∃ W5, W5 = w4.alloc (.cells #[.int .u8 (b0.toNat : Int), .int .u8 (b1.toNat : Int), .int .u8 (b2.toNat : Int), .int .u8 (b3.toNat : Int), .int .u8 (b4.toNat : Int), .int .u8 (b5.toNat : Int), .int .u8 (b6.toNat : Int), .int .u8 (b7.toNat : Int)] 29) := ⟨_, rfl⟩
  have hb5 : Below w4.heap.size w4 W5 := by rw [hW5]; exact (Below.refl _ w4).alloc (Nat.le_refl _) _
  have HB5 : Hid (Below w.heap.size w W5) := HB4.out.trans (hb5.mono HB4.out.size)
  have hI5 : W5.heap[w4.heap.size]? = some (.cells #[.int .u8 (b0.toNat : Int), .int .u8 (b1.toNat : Int), .int .u8 (b2.toNat : Int), .int .u8 (b3.toNat : Int), .int .u8 (b4.toNat : Int), .int .u8 (b5.toNat : Int), .int .u8 (b6.toNat : Int), .int .u8 (b7.toNat : Int)] 29 (0, 0)) := by rw [hW5]; exact heap_alloc_new w4 _
  have hI35 : W5.heap[p2]? = some (.cells #[.int .u8 (b0.toNat : Int), .int .u8 (b1.toNat : Int), .int .u8 (b2.toNat : Int), .int .u8 (b3.toNat : Int), .int .u8 (b4.toNat : Int), .int .u8 (b5.toNat : Int), .int .u8 (b6.toNat : Int), .int .u8 (b7.toNat : Int)] 29 (0, 0)) := by
    have g1 := (q8.block _ (Array.getElem?_eq_some_iff.1 HI3.out).1).trans HI3.out
    exact (hb5.block _ (Array.getElem?_eq_some_iff.1 g1).1).trans g1
  have hY5 : W5.heap[p1]? = some (.cells #[.int .i64 a0, .int .i64 b0', .int .i64 c0, .int .i64 e0] 25 (0, 0)) := by
    have g1 := (q8.block _ (Array.getElem?_eq_some_iff.1 HY3.out).1).trans HY3.out
    exact (hb5.block _ (Array.getElem?_eq_some_iff.1 g1).1).trans g1
  have HC : Hid (∀ W, Gw W5 W → W.cell? ⟨p1, 0, none⟩ = some (.int .i64 a0) ∧ W.cell? ⟨p1, 1, none⟩ = some (.int .i64 b0') ∧ W.cell? ⟨p1, 2, none⟩ = some (.int .i64 c0) ∧ W.cell? ⟨p1, 3, none⟩ = some (.int .i64 e0)) := fun W hW => by
    have := (Below.block hW _ (Array.getElem?_eq_some_iff.1 hY5).1).trans hY5
    refine ⟨?_, ?_, ?_, ?_⟩ <;> simp [World.cell?, this]
  have HI2 : Hid (∀ W, Gw W5 W → W.heap[p2]? = some (.cells #[.int .u8 (b0.toNat : Int), .int .u8 (b1.toNat : Int), .int .u8 (b2.toNat : Int), .int .u8 (b3.toNat : Int), .int .u8 (b4.toNat : Int), .int .u8 (b5.toNat : Int), .int .u8 (b6.toNat : Int), .int .u8 (b7.toNat : Int)] 29 (0, 0))) := fun W hW => (Below.block hW _ (Array.getElem?_eq_some_iff.1 hI35).1).trans hI35
  obtain ⟨p4, hp4⟩ : ∃ p4, p4 = w4.heap.size := ⟨_, rfl⟩
  rw [← hp4] at hI5
  have HI4 : Hid (∀ W, Gw W5 W → W.heap[p4]? = some (.cells #[.int .u8 (b0.toNat : Int), .int .u8 (b1.toNat : Int), .int .u8 (b2.toNat : Int), .int .u8 (b3.toNat : Int), .int .u8 (b4.toNat : Int), .int .u8 (b5.toNat : Int), .int .u8 (b6.toNat : Int), .int .u8 (b7.toNat : Int)] 29 (0, 0))) := fun W hW => (Below.block hW _ (Array.getElem?_eq_some_iff.1 hI5).1).trans hI5
  have HEq : ∀ W, Gw W5 W → Calls Tryz.prog 13 #[.slice sa bs.length sc, .slice ta bs.length tc] W fun e w' => e = .returned (.bool true) ∧ Below W.heap.size W w' := fun W hW => by
    refine (equal_blobs _ _ bs bs W ((((q5.below HK3.out).below q8).below hb5).below hW) (((q6).below hb5).below hW) (by omega)).mono ?_
    rintro e w' ⟨b, rfl, hb, hk⟩
    obtain rfl : b = true := by first | exact hb.2 rfl | exact hb.2 trivial | exact hb
    exact ⟨rfl, hk⟩
  have h3' := fun W (hW : Gw W5 W) => h3 W (HB5.out.trans (Below.mono hW HB5.out.size))
  have h4' := fun W (hW : Gw W5 W) => h4 W (HB5.out.trans (Below.mono hW HB5.out.size))
  have hide := fun W => id_eq W [b0, b1, b2, b3, b4, b5, b6, b7] [b0, b1, b2, b3, b4, b5, b6, b7] rfl rfl
  rw [beq_self_eq_true] at hide
  simp only [List.map_cons, List.map_nil, B] at hide
  generalize bs.length = bn at *
  clear h3 h4 hk2 hq q1b q3 q4 q5 q6 q7 q8 hb5 hI5 hI35 hY5 HQ2 HE HPO HK2 HK3 HI3 HY1 HY3 c0' c1' c2' c3' HB1 HB2 HB3 HB4
  go_upto_region 3 with fail
  rw [← hW5, ← hp4]
  clear hW5 hp4
  refine wp_region_rel (G := Gw) (W0 := W5) Gw.refl Gw.trans (by kernel_rfl) (by kernel_rfl) (by kernel_rfl) (Below.refl _ W5).drew ?_
  refine .inl ⟨.slice va N0 vc, fun v W hW hd => step_run (by first | rfl | (clear hd; simp [Region.wanted, yielded])) _ W (by clear hd; go_simp) rfl (Gw.refl _), ?_⟩
  simp only [Act.put, List.setIfInBounds_toArray, List.set_cons_zero, List.set_cons_succ]
  refine .inl ⟨.int .i64 E1, fun v W hW hd => step_call (by first | rfl | (clear hd; simp [Region.wanted, yielded])) 9 #[.slice va N0 vc] (by clear hd; go_simp) ((h3' W hW).mono fun e w' h => ⟨_, h.1, rfl, h.2⟩), ?_⟩
  simp only [Act.put, List.setIfInBounds_toArray, List.set_cons_zero, List.set_cons_succ]
  refine .inl ⟨.slice va N0 vc, fun v W hW hd => step_run (by first | rfl | (clear hd; simp [Region.wanted, yielded])) _ W (by clear hd; go_simp) rfl (Gw.refl _), ?_⟩
  simp only [Act.put, List.setIfInBounds_toArray, List.set_cons_zero, List.set_cons_succ]
  refine .inl ⟨.int .i64 E1, fun v W hW hd => step_call (by first | rfl | (clear hd; simp [Region.wanted, yielded])) 10 #[.slice va N0 vc] (by clear hd; go_simp) ((h4' W hW).mono fun e w' h => ⟨_, h.1, rfl, h.2⟩), ?_⟩
  simp only [Act.put, List.setIfInBounds_toArray, List.set_cons_zero, List.set_cons_succ]
  refine .inl ⟨.bool true, fun v W hW hd => step_run (by first | rfl | (clear hd; simp [Region.wanted, yielded])) _ W (by clear hd; go_simp) rfl (Gw.refl _), ?_⟩
  simp only [Act.put, List.setIfInBounds_toArray, List.set_cons_zero, List.set_cons_succ]
  refine .inl ⟨.bool true, fun v W hW hd => step_run (by first | rfl | (clear hd; simp [Region.wanted, yielded])) _ W (by clear hd; go_simp) rfl (Gw.refl _), ?_⟩
  simp only [Act.put, List.setIfInBounds_toArray, List.set_cons_zero, List.set_cons_succ]
  refine .inl ⟨.agg #[.int .i64 a0, .int .i64 b0', .int .i64 c0, .int .i64 e0], fun v W hW hd => step_run (by first | rfl | (clear hd; simp [Region.wanted, yielded])) _ W (by clear hd; obtain ⟨c0', c1', c2', c3'⟩ := HC.out W hW; go_simp) rfl (Gw.refl _), ?_⟩
  simp only [Act.put, List.setIfInBounds_toArray, List.set_cons_zero, List.set_cons_succ]
  refine .inl ⟨.int .i64 E2, fun v W hW hd => step_call (by first | rfl | (clear hd; simp [Region.wanted, yielded])) 11 #[.agg #[.int .i64 a0, .int .i64 b0', .int .i64 c0, .int .i64 e0]] (by clear hd; go_simp) ((h5 W).mono fun e w' h => ⟨_, h.1, rfl, h.2⟩), ?_⟩
  simp only [Act.put, List.setIfInBounds_toArray, List.set_cons_zero, List.set_cons_succ]
  refine .inl ⟨.agg #[.int .i64 a0, .int .i64 b0', .int .i64 c0, .int .i64 e0], fun v W hW hd => step_run (by first | rfl | (clear hd; simp [Region.wanted, yielded])) _ W (by clear hd; obtain ⟨c0', c1', c2', c3'⟩ := HC.out W hW; go_simp) rfl (Gw.refl _), ?_⟩
  simp only [Act.put, List.setIfInBounds_toArray, List.set_cons_zero, List.set_cons_succ]
  refine .inl ⟨.int .i64 E2, fun v W hW hd => step_call (by first | rfl | (clear hd; simp [Region.wanted, yielded])) 12 #[.agg #[.int .i64 a0, .int .i64 b0', .int .i64 c0, .int .i64 e0]] (by clear hd; go_simp) ((h6 W).mono fun e w' h => ⟨_, h.1, rfl, h.2⟩), ?_⟩
  simp only [Act.put, List.setIfInBounds_toArray, List.set_cons_zero, List.set_cons_succ]
  refine .inl ⟨.bool true, fun v W hW hd => step_run (by first | rfl | (clear hd; simp [Region.wanted, yielded])) _ W (by clear hd; go_simp) rfl (Gw.refl _), ?_⟩
  simp only [Act.put, List.setIfInBounds_toArray, List.set_cons_zero, List.set_cons_succ]
  refine .inl ⟨.bool true, fun v W hW hd => step_run (by first | rfl | (clear hd; simp [Region.wanted, yielded])) _ W (by clear hd; go_simp) rfl (Gw.refl _), ?_⟩
  simp only [Act.put, List.setIfInBounds_toArray, List.set_cons_zero, List.set_cons_succ]
  refine .inl ⟨.bool true, fun v W hW hd => step_run (by first | rfl | (clear hd; simp [Region.wanted, yielded])) _ W (by clear hd; go_simp) rfl (Gw.refl _), ?_⟩
  simp only [Act.put, List.setIfInBounds_toArray, List.set_cons_zero, List.set_cons_succ]
  refine .inl ⟨.slice sa bn sc, fun v W hW hd => step_run (by first | rfl | (clear hd; simp [Region.wanted, yielded])) _ W (by clear hd; go_simp) rfl (Gw.refl _), ?_⟩
  simp only [Act.put, List.setIfInBounds_toArray, List.set_cons_zero, List.set_cons_succ]
  refine .inl ⟨.slice ta bn tc, fun v W hW hd => step_run (by first | rfl | (clear hd; simp [Region.wanted, yielded])) _ W (by clear hd; go_simp) rfl (Gw.refl _), ?_⟩
  simp only [Act.put, List.setIfInBounds_toArray, List.set_cons_zero, List.set_cons_succ]
  refine .inl ⟨.bool true, fun v W hW hd => step_call (by first | rfl | (clear hd; simp [Region.wanted, yielded])) 13 #[.slice sa bn sc, .slice ta bn tc] (by clear hd; go_simp) ((HEq W hW).mono fun e w' h => ⟨_, h.1, rfl, h.2⟩), ?_⟩
  simp only [Act.put, List.setIfInBounds_toArray, List.set_cons_zero, List.set_cons_succ]
  refine .inl ⟨.bool true, fun v W hW hd => step_run (by first | rfl | (clear hd; simp [Region.wanted, yielded])) _ W (by clear hd; go_simp) rfl (Gw.refl _), ?_⟩
  simp only [Act.put, List.setIfInBounds_toArray, List.set_cons_zero, List.set_cons_succ]
  refine .inl ⟨.bool true, fun v W hW hd => step_run (by first | rfl | (clear hd; simp [Region.wanted, yielded])) _ W (by clear hd; go_simp) rfl (Gw.refl _), ?_⟩
  simp only [Act.put, List.setIfInBounds_toArray, List.set_cons_zero, List.set_cons_succ]
  refine .inl ⟨.agg #[.int .u8 (b0.toNat : Int), .int .u8 (b1.toNat : Int), .int .u8 (b2.toNat : Int), .int .u8 (b3.toNat : Int), .int .u8 (b4.toNat : Int), .int .u8 (b5.toNat : Int), .int .u8 (b6.toNat : Int), .int .u8 (b7.toNat : Int)], fun v W hW hd => step_run (by first | rfl | (clear hd; simp [Region.wanted, yielded])) _ W (by clear hd; have ce := HI2.out W hW; have cx := (I8.laid ce).cells; obtain ⟨x0, x1, x2, x3, x4, x5, x6, x7⟩ := cx; go_simp) rfl (Gw.refl _), ?_⟩
  simp only [Act.put, List.setIfInBounds_toArray, List.set_cons_zero, List.set_cons_succ]
  refine .inl ⟨.agg #[.int .u8 (b0.toNat : Int), .int .u8 (b1.toNat : Int), .int .u8 (b2.toNat : Int), .int .u8 (b3.toNat : Int), .int .u8 (b4.toNat : Int), .int .u8 (b5.toNat : Int), .int .u8 (b6.toNat : Int), .int .u8 (b7.toNat : Int)], fun v W hW hd => step_run (by first | rfl | (clear hd; simp [Region.wanted, yielded])) _ W (by clear hd; have ce := HI4.out W hW; have cx := (I8.laid ce).cells; obtain ⟨x0, x1, x2, x3, x4, x5, x6, x7⟩ := cx; go_simp) rfl (Gw.refl _), ?_⟩
  simp only [Act.put, List.setIfInBounds_toArray, List.set_cons_zero, List.set_cons_succ]
  refine .inl ⟨.bool true, fun v W hW hd => step_run (by first | rfl | (clear hd; simp [Region.wanted, yielded])) _ W (by clear hd; have he := hide W; go_simp) rfl (Gw.refl _), ?_⟩
  simp only [Act.put, List.setIfInBounds_toArray, List.set_cons_zero, List.set_cons_succ]
  refine .inl ⟨.bool true, fun v W hW hd => step_run (by first | rfl | (clear hd; simp [Region.wanted, yielded])) _ W (by clear hd; go_simp) rfl (Gw.refl _), ?_⟩
  simp only [Act.put, List.setIfInBounds_toArray, List.set_cons_zero, List.set_cons_succ]
  refine .inl ⟨.bool true, fun v W hW hd => step_run (by first | rfl | (clear hd; simp [Region.wanted, yielded])) _ W (by clear hd; go_simp) rfl (Gw.refl _), ?_⟩
  simp only [Act.put, List.setIfInBounds_toArray, List.set_cons_zero, List.set_cons_succ]
  refine .inl ⟨.int .i64 E3, fun v W hW hd => step_run (by first | rfl | (clear hd; simp [Region.wanted, yielded])) _ W (by clear hd; go_simp) rfl (Gw.refl _), ?_⟩
  simp only [Act.put, List.setIfInBounds_toArray, List.set_cons_zero, List.set_cons_succ]
  refine .inl ⟨.int .i64 E3, fun v W hW hd => step_run (by first | rfl | (clear hd; simp [Region.wanted, yielded])) _ W (by clear hd; go_simp) rfl (Gw.refl _), ?_⟩
  simp only [Act.put, List.setIfInBounds_toArray, List.set_cons_zero, List.set_cons_succ]
  refine .inl ⟨.bool true, fun v W hW hd => step_run (by first | rfl | (clear hd; simp [Region.wanted, yielded])) _ W (by clear hd; go_simp) rfl (Gw.refl _), ?_⟩
  simp only [Act.put, List.setIfInBounds_toArray, List.set_cons_zero, List.set_cons_succ]
  refine .inl ⟨.bool true, fun v W hW hd => step_run (by first | rfl | (clear hd; simp [Region.wanted, yielded])) _ W (by clear hd; go_simp) rfl (Gw.refl _), ?_⟩
  simp only [Act.put, List.setIfInBounds_toArray, List.set_cons_zero, List.set_cons_succ]
  refine .inl ⟨.bool true, fun v W hW hd => step_run (by first | rfl | (clear hd; simp [Region.wanted, yielded])) _ W (by clear hd; go_simp) rfl (Gw.refl _), ?_⟩
  simp only [Act.put, List.setIfInBounds_toArray, List.set_cons_zero, List.set_cons_succ]
  intro v W hW hV
  have HB6 : Hid (Below w.heap.size w W) := HB5.out.trans (Below.mono hW HB5.out.size)
  clear hV hW h3' h4' h5 h6 HEq hide
  go_wp2_with fail
  go_ret
  exact ⟨rfl, HB6.out⟩
end Go.Proofs.YtimdioacmojkeaaGreatDoor

namespace Go.Proofs.YtimdioacmojkeaaGreatDoor
open Go.RowKit Go.ChangeShapes Go.WideShapes Go.Deep Go.Joins
set_option maxRecDepth 20000

section
variable {H : Type} {enc : TypeId × Value → H} {w : World} {base : Nat} {spare : Nat → Bool} {held : Bool}
/-- rows of IDs -/
theorem open_idrow {fuel : Nat} {sa : Option Addr} {len cap : Nat} {x : DataW H × List MemPlace} (h : DataW.trod enc Tryz.prog w base spare held fuel 53 [.slice sa len cap] = some x) (hlt : ∀ y ∈ x.2, y.block < w.heap.size) :
    ∃ l : List (List UInt8), Rx 8 idC w (.slice sa len cap) l ∧ ∀ b ∈ l, b.length = 8 := by
  obtain ⟨l, hr, _, hs⟩ := open_rows (α := { x : List UInt8 // x.length = 8 }) (k := 8) (C := fun x => idC x.1) (q := fun _ => True) Tryz.underlying53 ce_id (by omega) (fun t => by rw [idC, List.length_map, t.2])
    (fun n cs x hc ho => by
      obtain ⟨l, hl, hcs, _⟩ := open_id8 hc ho
      exact ⟨⟨l, hl⟩, hcs, trivial⟩) h hlt
  refine ⟨l.map (·.1), ⟨?_, hr.room⟩, fun b hb => ?_⟩
  · rcases hr.at_ with ⟨h1, rfl⟩ | ⟨bk, o, cp, h1, h2, h3⟩
    · exact .inl ⟨h1, rfl⟩
    · refine .inr ⟨bk, o, cp, by rw [List.length_map]; exact h1, h2, fun j t hj r u hu => ?_⟩
      rw [List.getElem?_map] at hj
      cases e : l[j]? with
      | none => rw [e] at hj; simp at hj
      | some q =>
        rw [e] at hj
        obtain rfl : q.1 = t := by simpa using hj
        exact h3 j q e r u hu
  · obtain ⟨q, _, rfl⟩ := List.mem_map.1 hb
    exact q.2
/-- rows of things that have rows themselves -/
theorem open_rw {α : Type} {k : Nat} {R : World → α → List Value → Prop} {T E : TypeId} (hu : Tryz.prog.underlying T = some (.slice E)) (hk : Tryz.prog.cellsOf E = k) (hk0 : 0 < k)
    {q : α → DataW H → Prop} (ho : ∀ n cs (x : DataW H × List MemPlace), cs.length = k → DataW.trod enc Tryz.prog w base spare held n E cs = some x → (∀ y ∈ x.2, y.block < w.heap.size) → ∃ t, R w t cs ∧ q t x.1)
    {fuel : Nat} {sa : Option Addr} {len cap : Nat} {x : DataW H × List MemPlace} (h : DataW.trod enc Tryz.prog w base spare held fuel T [.slice sa len cap] = some x) (hlt : ∀ y ∈ x.2, y.block < w.heap.size) :
    ∃ l : List α, Rw k R w (.slice sa len cap) l ∧ len ≤ cap ∧ cap ≤ 9223372036854775807 ∧ (l = [] ∨ ∃ elems sp, x.1 = .slice elems sp ∧ l.length = elems.length ∧ ∀ t ∈ l, ∃ d ∈ elems, q t d) := by
  rcases open_slice hu h with ⟨hcs, hx⟩ | ⟨a, len', cap', m, n, D, Pl, hcs, _, hl, hm, hmm, hx, hall⟩
  · simp at hcs
    obtain ⟨rfl, rfl, rfl⟩ := hcs
    exact ⟨[], Rw.nil _ _, Nat.le_refl _, by omega, .inl rfl⟩
  · simp at hcs
    obtain ⟨rfl, rfl, rfl⟩ := hcs
    have hlm : len ≤ m := by rw [hmm]; split <;> omega
    rw [hk] at hall
    subst hx
    obtain ⟨L, hL, hT⟩ := choose_row (q := fun i t => ∃ cs, w.cells? base (a.add (i * k)) k = some cs ∧ R w t cs ∧ q t (D i)) len (fun i hi => by
      obtain ⟨cs', h1, h2⟩ := hall i (by omega)
      obtain ⟨_, hlen, _⟩ := World.cells?_some h1
      obtain ⟨t, h3⟩ := ho _ _ _ hlen h2 fun y hy => hlt y (List.mem_append_right _ (List.mem_flatMap.2 ⟨i, List.mem_range.2 (by omega), hy⟩))
      exact ⟨t, cs', h1, h3⟩)
    have hm' : cap ≤ 9223372036854775807 := by unfold maxLen at hm; omega
    refine ⟨L, ?_, hl, hm', .inr ⟨_, _, rfl, by simp [hL], fun t ht => ?_⟩⟩
    rotate_left
    · obtain ⟨i, hi, rfl⟩ := List.getElem_of_mem ht
      obtain ⟨_, _, _, h3⟩ := hT i _ (List.getElem?_eq_getElem hi)
      exact ⟨D i, List.mem_map_of_mem (List.mem_range.2 (by omega)), h3⟩
    by_cases hc0 : len = 0
    · subst hc0
      exact ⟨.inl ⟨⟨_, _, rfl⟩, List.length_eq_zero_iff.1 hL⟩⟩
    · have hcell : ∀ j t, L[j]? = some t → ∃ cs : List Value, cs.length = k ∧ R w t cs ∧ ∀ r v, cs[r]? = some v → w.cell? (a.add (j * k + r)) = some v := fun j t hj => by
        obtain ⟨cs, h1, h2, _⟩ := hT j t hj
        obtain ⟨_, hlen, hc⟩ := World.cells?_some h1
        refine ⟨cs, hlen, h2, fun r v hv => ?_⟩
        have hr : r < k := by
          have := (List.getElem?_eq_some_iff.1 hv).1
          omega
        have := hc r hr
        rw [add_add, hv] at this
        exact this
      obtain ⟨b, off, spot⟩ := a
      have hspot : spot = none := by
        obtain ⟨cs, c1, _, c3⟩ := hcell 0 _ (List.getElem?_eq_getElem (by omega))
        have h0 : cs[0]? = some (cs[0]'(by omega)) := List.getElem?_eq_getElem _
        simpa [Addr.add] using World.cell?_spot (c3 0 _ h0)
      subst hspot
      have hpos : 0 < m * k := Nat.mul_pos (by omega) hk0
      have hbW : b < w.heap.size := hlt (.cell b off) (List.mem_append_left _ (MemPlace.mem_row.2 ⟨0, by rw [hk]; exact hpos, by simp⟩))
      refine ⟨.inr ⟨b, off, cap, by rw [hL], by omega, hbW, fun j t hj => ?_⟩⟩
      obtain ⟨cs, c1, c2, c3⟩ := hcell j t hj
      refine ⟨cs, c1, c2, fun r u hu => ?_⟩
      have e := c3 r u hu
      rw [add_plain] at e
      rw [Nat.add_assoc]
      exact e
theorem trod_struct7 {P : Program} {t : TypeId} {f0 f1 f2 f3 f4 f5 f6 : Field} {fuel : Nat} {cs : List Value} {x : DataW H × List MemPlace} (ht : P.underlying t = some (.struct #[f0, f1, f2, f3, f4, f5, f6])) (h : DataW.trod enc P w base spare held fuel t cs = some x) :
    ∃ y0 y1 y2 y3 y4 y5 y6 n, x = (.agg [y0.1, y1.1, y2.1, y3.1, y4.1, y5.1, y6.1], y0.2 ++ (y1.2 ++ (y2.2 ++ (y3.2 ++ (y4.2 ++ (y5.2 ++ y6.2)))))) ∧ cs.length = P.cellsOf t ∧ DataW.trod enc P w base spare held n f0.type ((cs.drop f0.offset).take (P.cellsOf f0.type)) = some y0 ∧
      DataW.trod enc P w base spare held n f1.type ((cs.drop f1.offset).take (P.cellsOf f1.type)) = some y1 ∧ DataW.trod enc P w base spare held n f2.type ((cs.drop f2.offset).take (P.cellsOf f2.type)) = some y2 ∧
      DataW.trod enc P w base spare held n f3.type ((cs.drop f3.offset).take (P.cellsOf f3.type)) = some y3 ∧ DataW.trod enc P w base spare held n f4.type ((cs.drop f4.offset).take (P.cellsOf f4.type)) = some y4 ∧
      DataW.trod enc P w base spare held n f5.type ((cs.drop f5.offset).take (P.cellsOf f5.type)) = some y5 ∧ DataW.trod enc P w base spare held n f6.type ((cs.drop f6.offset).take (P.cellsOf f6.type)) = some y6 := by
  obtain ⟨xs, n, _, rfl, hl, hlen, hf⟩ := DataW.trod_struct ht h
  match xs, hlen with
  | [y0, y1, y2, y3, y4, y5, y6], _ => exact ⟨y0, y1, y2, y3, y4, y5, y6, n, by simp, hl, by simpa using hf 0 f0 rfl, by simpa using hf 1 f1 rfl, by simpa using hf 2 f2 rfl, by simpa using hf 3 f3 rfl, by simpa using hf 4 f4 rfl, by simpa using hf 5 f5 rfl, by simpa using hf 6 f6 rfl⟩
theorem nd_fields : ∃ f0 f1 f2 f3 f4 f5 f6, Tryz.prog.underlying 89 = some (.struct #[f0, f1, f2, f3, f4, f5, f6]) ∧ f0.type = 9 ∧ f0.offset = 0 ∧ f1.type = 3 ∧ f1.offset = 1 ∧ f2.type = 3 ∧ f2.offset = 2 ∧ f3.type = 3 ∧ f3.offset = 3 ∧ f4.type = 3 ∧ f4.offset = 4 ∧ f5.type = 53 ∧ f5.offset = 5 ∧ f6.type = 9 ∧ f6.offset = 6 :=
  ⟨_, _, _, _, _, _, _, Tryz.underlying89, rfl, rfl, rfl, rfl, rfl, rfl, rfl, rfl, rfl, rfl, rfl, rfl, rfl, rfl⟩
theorem open_node {n : Nat} {cs : List Value} {x : DataW H × List MemPlace} (hc : cs.length = 7) (h : DataW.trod enc Tryz.prog w base spare held n 89 cs = some x) (hlt : ∀ y ∈ x.2, y.block < w.heap.size) : ∃ t : Nod, NdR w t cs ∧ ∃ r, x.1 = .agg (.lit (.string t.name.data.toList) :: r) := by
  obtain ⟨f0, f1, f2, f3, f4, f5, f6, hu, t0, o0, t1, o1, t2, o2, t3, o3, t4, o4, t5, o5, t6, o6⟩ := nd_fields
  obtain ⟨y0, y1, y2, y3, y4, y5, y6, m, hx, _, g0, g1, g2, g3, g4, g5, g6⟩ := trod_struct7 hu h
  have ks : Tryz.prog.cellsOf 9 = 1 := by kernel_rfl
  have kr : Tryz.prog.cellsOf 53 = 1 := by kernel_rfl
  match cs, hc with
  | [v0, v1, v2, v3, v4, v5, v6], _ =>
    simp only [t0, o0, t1, o1, ce_int, t2, o2, t3, o3, t4, o4, t5, o5, t6, o6, ks, kr] at g0 g1 g2 g3 g4 g5 g6
    obtain ⟨b0, c0, x0, s0⟩ := DataW.trod_string Tryz.underlying9 g0
    obtain ⟨i1, c1, _, w1⟩ := DataW.trod_int Tryz.underlying3 g1
    obtain ⟨i2, c2, _, w2⟩ := DataW.trod_int Tryz.underlying3 g2
    obtain ⟨i3, c3, _, w3⟩ := DataW.trod_int Tryz.underlying3 g3
    obtain ⟨i4, c4, _, w4⟩ := DataW.trod_int Tryz.underlying3 g4
    obtain ⟨b6, c6, _, s6⟩ := DataW.trod_string Tryz.underlying9 g6
    obtain rfl : v0 = .string b0 := by simpa using c0
    obtain rfl : v1 = .int .i64 i1 := by simpa using c1
    obtain rfl : v2 = .int .i64 i2 := by simpa using c2
    obtain rfl : v3 = .int .i64 i3 := by simpa using c3
    obtain rfl : v4 = .int .i64 i4 := by simpa using c4
    obtain rfl : v6 = .string b6 := by simpa using c6
    have g5 : DataW.trod enc Tryz.prog w base spare held m 53 [v5] = some y5 := g5
    obtain ⟨sa, len, cap, rfl⟩ : ∃ sa len cap, v5 = .slice sa len cap := by
      rcases open_slice Tryz.underlying53 g5 with ⟨hcs, _⟩ | ⟨a, len', cap', _, _, _, _, hcs, _⟩
      · exact ⟨_, _, _, by simpa using hcs⟩
      · exact ⟨_, _, _, by simpa using hcs⟩
    obtain ⟨l, hl, h8⟩ := open_idrow g5 fun y hy => hlt y (by rw [hx]; simp [hy])
    unfold maxLen at s0 s6
    exact ⟨⟨b0, i1, i2, i3, i4, l, b6⟩, ⟨_, rfl, hl, w1, w2, w3, w4, s0, s6, h8⟩, _, by rw [hx, x0]⟩
theorem ce_nd : Tryz.prog.cellsOf 89 = 7 := by kernel_rfl
theorem open_nds {fuel : Nat} {sa : Option Addr} {len cap : Nat} {x : DataW H × List MemPlace} (h : DataW.trod enc Tryz.prog w base spare held fuel 85 [.slice sa len cap] = some x) (hlt : ∀ y ∈ x.2, y.block < w.heap.size) :
    ∃ l : List Nod, Nds w (.slice sa len cap) l ∧ len ≤ cap ∧ cap ≤ 9223372036854775807 ∧ (l = [] ∨ ∃ elems sp, x.1 = .slice elems sp ∧ l.length = elems.length ∧ ∀ t ∈ l, ∃ d ∈ elems, ∃ r, d = .agg (.lit (.string t.name.data.toList) :: r)) :=
  open_rw Tryz.underlying85 ce_nd (by omega) (fun _ _ _ => open_node) h hlt
end
end Go.Proofs.YtimdioacmojkeaaGreatDoor

namespace Go.Proofs.YtimdioacmojkeaaGreatDoor
open Go.RowKit Go.ChangeShapes Go.WideShapes Go.Deep Go.Joins
set_option maxRecDepth 20000

section
variable {H : Type} {enc : TypeId × Value → H} {w : World} {base : Nat} {spare : Nat → Bool} {held : Bool}

def blobD (H : Type) (b : Blb) : DataW H := .agg [.lit (.int .i64 b.kind), .lit (.string b.bytes.data.toList)]

theorem open_blobv {r : Reach} {b0 : Nat} {v : Value} {d : DataW H} {p : List MemPlace} (hv : Value.okWide Tryz.prog w r b0 37 v) (h : DataW.Trod enc Tryz.prog w base spare held 37 v d p) :
    ∃ b : Blb, v = blV b ∧ d = blobD H b ∧ p = [] ∧ (Lit.int .i64 b.kind).wf = true ∧ b.bytes.size ≤ 9223372036854775807 := by
  obtain ⟨v0, v1, y0, y1, n, rfl, rfl, rfl, h0, h1⟩ := open_agg2 Tryz.underlying37 (by kernel_rfl) (by kernel_rfl) hv h
  obtain ⟨a, ha, hy0, w0⟩ := DataW.trod_int Tryz.underlying3 h0
  obtain ⟨s, hs, hy1, w1⟩ := DataW.trod_string Tryz.underlying9 h1
  obtain rfl : v0 = .int .i64 a := by simpa using ha
  obtain rfl : v1 = .string s := by simpa using hs
  subst hy0 hy1
  exact ⟨⟨a, s⟩, rfl, rfl, rfl, w0, by unfold maxLen at w1; exact w1⟩

theorem shut_blobv {b : Blb} (h : (Lit.int .i64 b.kind).wf = true ∧ b.bytes.size ≤ 9223372036854775807) : DataW.Trod enc Tryz.prog w base spare held 37 (blV b) (blobD H b) [] :=
  shut_agg2 (y0 := (.lit (.int .i64 b.kind), [])) (y1 := (.lit (.string b.bytes.data.toList), [])) Tryz.underlying37 (by kernel_rfl) (by kernel_rfl) ⟨_, trod_int_mk 0 Tryz.underlying3 h.1⟩ ⟨1, by have : b.bytes.size ≤ maxLen := h.2; simp [DataW.trod, Tryz.underlying9, this]⟩

theorem sized_blobv {ts : List TypeId} {ds : List (DataW H)} (h : (DataW.weightsEach Tryz.prog ts ds).all (· ≤ reachBytes) = true) {j : Nat} {b : Blb} (ht : ts[j]? = some 37) (hd : ds[j]? = some (blobD H b)) : b.bytes.size ≤ 140737488351232 := by
  obtain ⟨f0, f1, hu, _⟩ := bl_fields
  have := of_decide_eq_true (List.all_eq_true.1 h _ (DataW.weights_mem_each ht hd b.bytes.data.toList.length (by simp [blobD, DataW.weights, DataW.weightsEach, hu])))
  simp only [reachBytes] at this
  rw [Lib.size_eq]; exact this

def wayD (H : Type) (fx mn mx bt : Int) : DataW H := .agg [.lit (.int .i64 fx), .agg [.lit (.int .i64 mn), .lit (.int .i64 mx), .lit (.int .i64 bt)]]

def WyOk (fx mn mx bt : Int) : Prop := (Lit.int .i64 fx).wf = true ∧ (Lit.int .i64 mn).wf = true ∧ (Lit.int .i64 mx).wf = true ∧ (Lit.int .i64 bt).wf = true

theorem wy_fields : ∃ f0 f1, Tryz.prog.underlying 25 = some (.struct #[f0, f1]) ∧ f0.type = 3 ∧ f0.offset = 0 ∧ f1.type = 23 ∧ f1.offset = 1 :=
  ⟨_, _, Tryz.underlying25, rfl, rfl, rfl, rfl⟩

theorem cu_fields : ∃ f0 f1 f2, Tryz.prog.underlying 23 = some (.struct #[f0, f1, f2]) ∧ f0.type = 3 ∧ f0.offset = 0 ∧ f1.type = 3 ∧ f1.offset = 1 ∧ f2.type = 3 ∧ f2.offset = 2 :=
  ⟨_, _, _, Tryz.underlying23, rfl, rfl, rfl, rfl, rfl, rfl⟩

theorem ce_way : Tryz.prog.cellsOf 25 = 4 := by kernel_rfl

theorem ce_cut : Tryz.prog.cellsOf 23 = 3 := by kernel_rfl

theorem wk_struct2 {P : Program} {t : TypeId} {f0 f1 : Field} {fuel : Nat} {cs : List Value} {x : DataW H × List MemPlace} (ht : P.underlying t = some (.struct #[f0, f1])) (h : DataW.trod enc P w base spare held fuel t cs = some x) :
    ∃ y0 y1 n, x = (.agg [y0.1, y1.1], y0.2 ++ y1.2) ∧ cs.length = P.cellsOf t ∧ DataW.trod enc P w base spare held n f0.type ((cs.drop f0.offset).take (P.cellsOf f0.type)) = some y0 ∧ DataW.trod enc P w base spare held n f1.type ((cs.drop f1.offset).take (P.cellsOf f1.type)) = some y1 := by
  obtain ⟨xs, n, _, rfl, hl, hlen, hf⟩ := DataW.trod_struct ht h
  match xs, hlen with
  | [y0, y1], _ => exact ⟨y0, y1, n, by simp, hl, by simpa using hf 0 f0 rfl, by simpa using hf 1 f1 rfl⟩

theorem wk_struct5 {P : Program} {t : TypeId} {f0 f1 f2 f3 f4 : Field} {fuel : Nat} {cs : List Value} {x : DataW H × List MemPlace} (ht : P.underlying t = some (.struct #[f0, f1, f2, f3, f4])) (h : DataW.trod enc P w base spare held fuel t cs = some x) :
    ∃ y0 y1 y2 y3 y4 n, x = (.agg [y0.1, y1.1, y2.1, y3.1, y4.1], y0.2 ++ (y1.2 ++ (y2.2 ++ (y3.2 ++ y4.2)))) ∧ cs.length = P.cellsOf t ∧ DataW.trod enc P w base spare held n f0.type ((cs.drop f0.offset).take (P.cellsOf f0.type)) = some y0 ∧
      DataW.trod enc P w base spare held n f1.type ((cs.drop f1.offset).take (P.cellsOf f1.type)) = some y1 ∧ DataW.trod enc P w base spare held n f2.type ((cs.drop f2.offset).take (P.cellsOf f2.type)) = some y2 ∧
      DataW.trod enc P w base spare held n f3.type ((cs.drop f3.offset).take (P.cellsOf f3.type)) = some y3 ∧ DataW.trod enc P w base spare held n f4.type ((cs.drop f4.offset).take (P.cellsOf f4.type)) = some y4 := by
  obtain ⟨xs, n, _, rfl, hl, hlen, hf⟩ := DataW.trod_struct ht h
  match xs, hlen with
  | [y0, y1, y2, y3, y4], _ => exact ⟨y0, y1, y2, y3, y4, n, by simp, hl, by simpa using hf 0 f0 rfl, by simpa using hf 1 f1 rfl, by simpa using hf 2 f2 rfl, by simpa using hf 3 f3 rfl, by simpa using hf 4 f4 rfl⟩

theorem open_way {r : Reach} {b0 : Nat} {v : Value} {d : DataW H} {p : List MemPlace} (hv : Value.okWide Tryz.prog w r b0 25 v) (h : DataW.Trod enc Tryz.prog w base spare held 25 v d p) :
    ∃ fx mn mx bt : Int, v = wayV fx mn mx bt ∧ d = wayD H fx mn mx bt ∧ p = [] ∧ WyOk fx mn mx bt := by
  obtain ⟨cs, rfl, hsz⟩ := okWide_struct Tryz.underlying25 hv
  rw [ce_way] at hsz
  obtain ⟨fuel, hf⟩ := h
  obtain ⟨f0, f1, hu, t0, o0, t1, o1⟩ := wy_fields
  obtain ⟨g0, g1, g2, hv2, s0, q0, s1, q1, s2, q2⟩ := cu_fields
  obtain ⟨y0, y1, n, hx, _, h0, h1⟩ := wk_struct2 hu hf
  obtain ⟨l, rfl⟩ : ∃ l : List Value, cs = l.toArray := ⟨cs.toList, rfl⟩
  have hl : l.length = 4 := by simpa using hsz
  match l, hl with
  | [v0, v1, v2, v3], _ =>
    simp only [t0, o0, t1, o1, ce_int, ce_cut, Value.cells] at h0 h1
    have h1 : DataW.trod enc Tryz.prog w base spare held n 23 [v1, v2, v3] = some y1 := h1
    obtain ⟨z0, z1, z2, m, hy1, _, k0, k1, k2⟩ := trod_struct3 hv2 h1
    simp only [s0, q0, s1, q1, s2, q2, ce_int] at k0 k1 k2
    have h0 : DataW.trod enc Tryz.prog w base spare held n 3 [v0] = some y0 := h0
    have k0 : DataW.trod enc Tryz.prog w base spare held m 3 [v1] = some z0 := k0
    have k1 : DataW.trod enc Tryz.prog w base spare held m 3 [v2] = some z1 := k1
    have k2 : DataW.trod enc Tryz.prog w base spare held m 3 [v3] = some z2 := k2
    obtain ⟨a, c0, x0, w0⟩ := DataW.trod_int Tryz.underlying3 h0
    obtain ⟨b, c1, x1, w1⟩ := DataW.trod_int Tryz.underlying3 k0
    obtain ⟨c, c2, x2, w2⟩ := DataW.trod_int Tryz.underlying3 k1
    obtain ⟨e, c3, x3, w3⟩ := DataW.trod_int Tryz.underlying3 k2
    obtain rfl : v0 = .int .i64 a := by simpa using c0
    obtain rfl : v1 = .int .i64 b := by simpa using c1
    obtain rfl : v2 = .int .i64 c := by simpa using c2
    obtain rfl : v3 = .int .i64 e := by simpa using c3
    refine ⟨a, b, c, e, rfl, ?_, ?_, w0, w1, w2, w3⟩
    · have := congrArg Prod.fst hx
      rw [show d = _ from this, hy1, x0, x1, x2, x3]; rfl
    · have := congrArg Prod.snd hx
      rw [show p = _ from this, hy1, x0, x1, x2, x3]; rfl

theorem shut_way {fx mn mx bt : Int} (h : WyOk fx mn mx bt) : DataW.Trod enc Tryz.prog w base spare held 25 (wayV fx mn mx bt) (wayD H fx mn mx bt) [] := by
  obtain ⟨h0, h1, h2, h3⟩ := h
  obtain ⟨f0, f1, hu, t0, o0, t1, o1⟩ := wy_fields
  obtain ⟨g0, g1, g2, hv2, s0, q0, s1, q1, s2, q2⟩ := cu_fields
  have hc : DataW.trod enc Tryz.prog w base spare held 2 23 [.int .i64 mn, .int .i64 mx, .int .i64 bt] = some (.agg [.lit (.int .i64 mn), .lit (.int .i64 mx), .lit (.int .i64 bt)], []) := by
    have := trod_struct3_mk (enc := enc) (w := w) (base := base) (spare := spare) (held := held) (n := 1) (cs := [.int .i64 mn, .int .i64 mx, .int .i64 bt]) (y0 := (.lit (.int .i64 mn), [])) (y1 := (.lit (.int .i64 mx), [])) (y2 := (.lit (.int .i64 bt), [])) hv2 (by rw [ce_cut]; rfl)
      (by rw [s0, q0, ce_int]; exact trod_int_mk 0 Tryz.underlying3 h1) (by rw [s1, q1, ce_int]; exact trod_int_mk 0 Tryz.underlying3 h2) (by rw [s2, q2, ce_int]; exact trod_int_mk 0 Tryz.underlying3 h3)
    exact this
  refine ⟨3, ?_⟩
  have := trod_struct_mk (enc := enc) (w := w) (base := base) (spare := spare) (held := held) (n := 2) (t := 25) (cs := [.int .i64 fx, .int .i64 mn, .int .i64 mx, .int .i64 bt]) (xs := [(.lit (.int .i64 fx), []), (.agg [.lit (.int .i64 mn), .lit (.int .i64 mx), .lit (.int .i64 bt)], [])]) hu (by rw [ce_way]; rfl)
    (by
      have e0 : DataW.trod enc Tryz.prog w base spare held 2 3 [.int .i64 fx] = some (.lit (.int .i64 fx), []) := trod_int_mk 1 Tryz.underlying3 h0
      simp [t0, o0, t1, o1, ce_int, ce_cut, e0, hc])
  exact this

def itD (H : Type) (x : Im) : DataW H := .agg [.lit (.string x.path.data.toList), .lit (.int .i64 x.kind), .lit (.int .i64 x.mode), .lit (.int .i64 x.time), .lit (.string x.bytes.data.toList)]

theorem it_fields : ∃ f0 f1 f2 f3 f4, Tryz.prog.underlying 46 = some (.struct #[f0, f1, f2, f3, f4]) ∧ f0.type = 9 ∧ f0.offset = 0 ∧ f1.type = 3 ∧ f1.offset = 1 ∧ f2.type = 3 ∧ f2.offset = 2 ∧ f3.type = 3 ∧ f3.offset = 3 ∧ f4.type = 9 ∧ f4.offset = 4 :=
  ⟨_, _, _, _, _, Tryz.underlying46, rfl, rfl, rfl, rfl, rfl, rfl, rfl, rfl, rfl, rfl⟩

theorem ce_it : Tryz.prog.cellsOf 46 = 5 := by kernel_rfl

/-- what is sure of an item that comes in -/
def ImIn (x : Im) : Prop := (Lit.int .i64 x.kind).wf = true ∧ (Lit.int .i64 x.mode).wf = true ∧ (Lit.int .i64 x.time).wf = true

theorem open_item {n : Nat} {cs : List Value} {x : DataW H × List MemPlace} (hc : cs.length = 5) (h : DataW.trod enc Tryz.prog w base spare held n 46 cs = some x) : ∃ t : Im, (cs = imC t ∧ ImIn t) ∧ x.1 = itD H t := by
  obtain ⟨f0, f1, f2, f3, f4, hu, t0, o0, t1, o1, t2, o2, t3, o3, t4, o4⟩ := it_fields
  obtain ⟨y0, y1, y2, y3, y4, m, hx, _, g0, g1, g2, g3, g4⟩ := wk_struct5 hu h
  have ks : Tryz.prog.cellsOf 9 = 1 := by kernel_rfl
  match cs, hc with
  | [v0, v1, v2, v3, v4], _ =>
    simp only [t0, o0, t1, o1, ce_int, t2, o2, t3, o3, t4, o4, ks] at g0 g1 g2 g3 g4
    obtain ⟨b0, c0, x0, s0⟩ := DataW.trod_string Tryz.underlying9 g0
    obtain ⟨i1, c1, x1, w1⟩ := DataW.trod_int Tryz.underlying3 g1
    obtain ⟨i2, c2, x2, w2⟩ := DataW.trod_int Tryz.underlying3 g2
    obtain ⟨i3, c3, x3, w3⟩ := DataW.trod_int Tryz.underlying3 g3
    obtain ⟨b4, c4, x4, s4⟩ := DataW.trod_string Tryz.underlying9 g4
    obtain rfl : v0 = .string b0 := by simpa using c0
    obtain rfl : v1 = .int .i64 i1 := by simpa using c1
    obtain rfl : v2 = .int .i64 i2 := by simpa using c2
    obtain rfl : v3 = .int .i64 i3 := by simpa using c3
    obtain rfl : v4 = .string b4 := by simpa using c4
    exact ⟨⟨b0, i1, i2, i3, b4⟩, ⟨rfl, w1, w2, w3⟩, by rw [hx, x0, x1, x2, x3, x4]; rfl⟩

theorem open_items {fuel : Nat} {sa : Option Addr} {len cap : Nat} {x : DataW H × List MemPlace} (h : DataW.trod enc Tryz.prog w base spare held fuel 26 [.slice sa len cap] = some x) (hlt : ∀ y ∈ x.2, y.block < w.heap.size) :
    ∃ l : List Im, Ims w (.slice sa len cap) l ∧ (∀ t ∈ l, ImIn t) ∧ (l = [] ∨ ∃ elems sp, x.1 = .slice elems sp ∧ l.length = elems.length ∧ ∀ t ∈ l, itD H t ∈ elems) := by
  obtain ⟨l, hl, h1, h2, h3⟩ := open_rw (R := fun _ (t : Im) c => c = imC t ∧ ImIn t) (q := fun t d => d = itD H t) Tryz.underlying26 ce_it (by omega) (fun n cs x hc hx _ => by
    obtain ⟨t, a, b⟩ := open_item hc hx
    exact ⟨t, a, b⟩) h hlt
  have hin : ∀ t ∈ l, ImIn t := by
    obtain ⟨hat⟩ := hl
    rcases hat with ⟨_, hn⟩ | ⟨bk, o, cp, _, _, _, hc⟩
    · rw [hn]; exact fun t ht => absurd ht List.not_mem_nil
    · intro t ht
      obtain ⟨j, hj, rfl⟩ := List.getElem_of_mem ht
      obtain ⟨c, _, ⟨_, q⟩, _⟩ := hc j _ (List.getElem?_eq_getElem hj)
      exact q
  refine ⟨l, ?_, hin, h3.imp id fun ⟨elems, sp, a, b, c⟩ => ⟨elems, sp, a, b, fun t ht => ?_⟩⟩
  · obtain ⟨hat⟩ := hl
    rcases hat with ⟨⟨a, c, e⟩, hn⟩ | ⟨bk, o, cp, e, hle, hbk, hc⟩
    · cases e
      exact ⟨.inl ⟨⟨_, _, rfl⟩, hn⟩, _, _, _, rfl, h1, h2⟩
    · cases e
      refine ⟨.inr ⟨bk, o, cap, rfl, hbk, fun j t hj r u hu => ?_⟩, _, _, _, rfl, h1, h2⟩
      obtain ⟨cs, _, ⟨rfl, _⟩, q⟩ := hc j t hj
      exact q r u hu
  · obtain ⟨d, hd, rfl⟩ := c t ht
    exact hd

theorem weights_all {P : Program} {e : TypeId} : ∀ {elems : List (DataW H)} {d : DataW H}, d ∈ elems → ∀ n ∈ d.weights P e, n ∈ DataW.weightsAll P e elems
  | [], d, h, _, _ => absurd h List.not_mem_nil
  | x :: l, d, h, n, hn => by
    rw [DataW.weightsAll, List.mem_append]
    rcases List.mem_cons.1 h with rfl | h
    · exact .inl hn
    · exact .inr (weights_all h n hn)

theorem sized_items {ts : List TypeId} {ds : List (DataW H)} (h : (DataW.weightsEach Tryz.prog ts ds).all (· ≤ reachBytes) = true) {j : Nat} {l : List Im} {elems sp : List (DataW H)} (ht : ts[j]? = some 26) (hd : ds[j]? = some (.slice elems sp)) (hm : ∀ t ∈ l, itD H t ∈ elems) (hin : ∀ t ∈ l, ImIn t) : ∀ t ∈ l, t.Ok := by
  intro t htl
  obtain ⟨f0, f1, f2, f3, f4, hu, e0, _, e1, _, e2, _, e3, _, e4, _⟩ := it_fields
  have hall : ∀ n ∈ (itD H t).weights Tryz.prog 46, n ≤ reachBytes := fun n hn => by
    have := List.all_eq_true.1 h n (DataW.weights_mem_each ht hd n (by
      rw [DataW.weights, Tryz.underlying26]
      exact List.mem_cons_of_mem _ (List.mem_append_left _ (weights_all (hm t htl) n hn))))
    simpa using this
  have hp := hall t.path.data.toList.length (by simp [itD, DataW.weights, DataW.weightsEach, hu])
  have hb := hall t.bytes.data.toList.length (by simp [itD, DataW.weights, DataW.weightsEach, hu])
  simp only [reachBytes] at hp hb
  exact ⟨by rw [Lib.size_eq]; exact hp, by rw [Lib.size_eq]; exact hb, (hin t htl).2.2⟩

theorem in_bulk {elems : List (DataW H)} {d : DataW H} (h : d ∈ elems) : Rows.uptoBulk d ≤ Rows.uptoBulkAll elems := by
  induction elems with
  | nil => exact (List.not_mem_nil h).elim
  | cons e l ih =>
    rw [Rows.uptoBulkAll]
    rcases List.mem_cons.1 h with rfl | h
    · omega
    · have := ih h; omega

theorem bulk_items {l : List Im} {elems : List (DataW H)} (h : ∀ t ∈ l, itD H t ∈ elems) : ∀ x ∈ l, x.path.size ≤ Rows.uptoBulkAll elems ∧ x.bytes.size ≤ Rows.uptoBulkAll elems := fun x hx => by
  have h1 := in_bulk (h x hx)
  have h2 : x.path.data.toList.length + x.bytes.data.toList.length ≤ Rows.uptoBulk (itD H x) := by
    simp only [itD, Rows.uptoBulk, Rows.uptoBulkAll]
    omega
  rw [Lib.size_eq, Lib.size_eq]
  omega

end

end Go.Proofs.YtimdioacmojkeaaGreatDoor

namespace Go.Proofs.YtimdioacmojkeaaGreatDoor
open Go.RowKit

theorem first_laid : Rows.laid_unicode_utf8_first = Lib.firstData := by kernel_rfl
theorem accept_laid : (Rows.laid_unicode_utf8_acceptRanges : DataW Unit) = Lib.acceptData := by kernel_rfl
theorem laid_plain {P : Program} {l : List (String × DataW Unit)} {W : World} (h : laidMetH P l W) (hp : (l.filter fun x => x.2.handleName?.isSome) = []) : laidMet P l W := by
  unfold laidMetH at h
  rw [hp] at h
  exact h

/-- the two tables, off what the rows list -/
theorem tabs_of {W : World} (hL : laidMetH Tryz.prog Rows.walkPlantsRow.laid W) : Tabs W := by
  have hM := laid_plain hL (by kernel_rfl)
  refine utf8Tabs_of_readsT (P := Tryz.prog) (ρ := Tryz.laysValid_ren) (U8Types.of196 Tryz.laysValid) ⟨by kernel_rfl, by kernel_rfl, by kernel_rfl, by kernel_rfl, by kernel_rfl, by kernel_rfl, by kernel_rfl⟩ ?_ ?_
  · rw [← first_laid]
    exact Lib.laidMet.reads hM (by simp [Rows.walkPlantsRow])
  · rw [← accept_laid]
    exact Lib.laidMet.reads hM (by simp [Rows.walkPlantsRow])
/-- a text of a list is no longer than the list's bulk -/
theorem bulk_strs {H : Type} : ∀ (l : List ByteArray), ∀ s ∈ l, s.size ≤ Rows.uptoBulkAll (ChangeShapes.strs l : List (DataW H))
  | [], s, hs => (List.not_mem_nil hs).elim
  | t :: l, s, hs => by
    show _ ≤ Rows.uptoBulkAll (DataW.lit (.string t.data.toList) :: (ChangeShapes.strs l : List (DataW H)))
    rw [Rows.uptoBulkAll, Rows.uptoBulk]
    rcases List.mem_cons.1 hs with rfl | hs
    · rw [Lib.size_eq]; omega
    · have := bulk_strs (H := H) l s hs; omega
end Go.Proofs.YtimdioacmojkeaaGreatDoor
