/-
  P47: what lumref's into answers.
  P45 (no Go in it): a reader that keeps its first error reads what Td.read says.
  slices.IndexFunc over nodes, by a name.
  A structure of the library's at this program (laid by the guide's own tools, written out in plain words).
  unicode/utf8.ValidString and Check of package names in any world in which unicode/utf8's tables are as they are laid.
  What Check and Find of package tree answer.
  What joinDigits and readDigits of package num answer.
  What Get, GetInt of package num answer.
  What GetInt of package num answers.
  What the reader of package tree answers: numbers, texts, bytes.
  What the reader of package tree answers: IDs.
  What the reader of package tree answers: nodes; what Read answers.
  What Put, PutInt, PutFloat of package num answer.
  What PutInt of package num answers.
  What appendNumber, appendText, appendNode and Write of package tree answer.
  What the reader of package tree answers: all nodes; what Read answers.
  P47: the planter's items, directory by directory; what one item makes.
  What PutInt of the document's answer (package lumref) answers.
  lumref: what TreeWrite answers.
  P47: what lumref's plantDir goes by: what stays while blobs are told; a blob told; what plantDir answers.
-/
import Derived.Test.YtimdioacmojkeaaGreatDoorXWalkPlants1
import Derived.Test.YtimdioacmojkeaaGreatDoorXWalkPlants2
import Derived.BigQuiet
import Derived.Deep.AppendLies
import Derived.Deep.RegionLaw
import Derived.Deep.RegionWith
import Derived.Test.YtimdioacmojkeaaGreatDoorXWalkPlants0
import Derived.Shelf.Unicode.ValidAny
import Derived.Test.YtimdioacmojkeaaGreatDoorProg
import Derived.Lib.LazyBuf
import Derived.Lib.AppendStr
import Derived.Deep.Cut
import Derived.Deep.MidRow
import Derived.WalkSmall

namespace Go.Proofs.YtimdioacmojkeaaGreatDoor
open Go.RowKit
set_option maxRecDepth 4000

theorem pair_in {w : World} {b : Nat} {T : TypeId} {fr : Nat × Nat} {x0 x1 : Value} (h : w.heap[b]? = some (.cells #[x0, x1] T fr)) : w.cell? ⟨b, 0, none⟩ = some x0 ∧ w.cell? ⟨b, 1, none⟩ = some x1 := by
  constructor <;> simp [World.cell?, h]

theorem into_bad {l : List Pk.Bl} {b : Pk.Bl} (h : Pk.bErr b ≠ 0) : Wk.into l b = (l, [], Pk.bErr b) := by unfold Wk.into; rw [if_pos h]

theorem into_at {l : List Blb} {b x : Blb} {j : Nat} (hb : Pk.bErr b.p = 0) (hx : l[j]? = some x) (he : Pk.bid x.p = Pk.bid b.p) (hno : ∀ i q, i < j → l[i]? = some q → Pk.bid q.p ≠ Pk.bid b.p) : Wk.into (pl l) b.p = if x.p = b.p then (pl l, Pk.bid b.p, 0) else (pl l, Pk.bid b.p, 11) := by
  have hf : (pl l).find? (fun z => Pk.bid z == Pk.bid b.p) = some x.p := by
    have hxp : (pl l)[j]? = some x.p := by rw [pl, List.getElem?_map, hx]; rfl
    obtain ⟨hk, e⟩ := List.getElem?_eq_some_iff.1 hxp
    rw [List.find?_eq_some_iff_append]
    refine ⟨by rw [beq_iff_eq]; exact he, (pl l).take j, (pl l).drop (j + 1), ?_, fun a ha => ?_⟩
    · conv => lhs; rw [← List.take_append_drop j (pl l)]
      rw [List.drop_eq_getElem_cons hk, e]
    · rw [Bool.not_eq_true', beq_eq_false_iff_ne]
      obtain ⟨i, hi⟩ := List.getElem?_of_mem ha
      rw [List.getElem?_take] at hi
      split at hi
      · rename_i hlt
        rw [pl, List.getElem?_map] at hi
        obtain ⟨q, hq, rfl⟩ := Option.map_eq_some_iff.1 hi
        exact hno i q hlt hq
      · cases hi
  unfold Wk.into
  rw [if_neg (fun q => q hb), hf]

theorem into_new {l : List Blb} {b : Blb} (hb : Pk.bErr b.p = 0) (hno : ∀ i q, i < l.length → l[i]? = some q → Pk.bid q.p ≠ Pk.bid b.p) : Wk.into (pl l) b.p = (pl (l ++ [b]), Pk.bid b.p, 0) := by
  have hf : (pl l).find? (fun z => Pk.bid z == Pk.bid b.p) = none := by
    rw [List.find?_eq_none]
    intro z hz
    obtain ⟨q, hq, rfl⟩ := List.mem_map.1 hz
    obtain ⟨i, hi⟩ := List.getElem?_of_mem hq
    simpa using hno i q (List.getElem?_eq_some_iff.1 hi).1 hi
  unfold Wk.into
  rw [if_neg (fun q => q hb), hf, pl_snoc]

theorem twob_at {W : World} {B : Nat} {v0 v1 : Value} (h0 : W.cell? ⟨B, 0, none⟩ = some v0) (h1 : W.cell? ⟨B, 1, none⟩ = some v1) :
    ∀ j u, [v0, v1][j]? = some u → W.cell? ((⟨B, 0, none⟩ : Addr).add j) = some u := by
  intro j u hj
  rw [Addr.add_mid, Nat.zero_add]
  match j, hj with
  | 0, hj => rw [h0]; exact hj
  | 1, hj => rw [h1]; exact hj

theorem kt_cell {T : TypeId} {A B : World} (h : Kt T A B) {p : Addr} (hp : A.heap.size ≤ p.block) (v : Value) : Kt T A (B.setCell p v) :=
  ⟨h.os, h.tape, h.output, by simpa [World.setCell] using h.size, fun k o ho hn => (Below.heap_setCell _ _ _ _ (fun e => by
    have := (Array.getElem?_eq_some_iff.1 ho).1
    omega)).trans (h.obj k o ho hn)⟩

theorem kt_set8 {T : TypeId} {A B : World} (h : Kt T A B) {p : Nat} (hp : A.heap.size ≤ p) (b0 b1 b2 b3 b4 b5 b6 b7 : UInt8) : Kt T A (set8 B p b0 b1 b2 b3 b4 b5 b6 b7) :=
  kt_cell (kt_cell (kt_cell (kt_cell (kt_cell (kt_cell (kt_cell (kt_cell h hp _) hp _) hp _) hp _) hp _) hp _) hp _) hp _

theorem kept_into8 (B : World) (p : Nat) (b0 b1 b2 b3 b4 b5 b6 b7 : UInt8) : Kept (fun q => q ≠ p) B (set8 B p b0 b1 b2 b3 b4 b5 b6 b7) :=
  (((((((((Kept.refl (fun q => q ≠ p) B).setCell (by simp) _).setCell (by simp) _).setCell (by simp) _).setCell (by simp) _).setCell (by simp) _).setCell (by simp) _).setCell (by simp) _).setCell (by simp) _)

/-- blobs of their own in memory, all right -/
structure Ow (base : Nat) (w : World) (v : Value) (l : List Blb) : Prop where
  own : w.ownsRow base 37 2 v l.length (rowR blC l)
  ok : ∀ b ∈ l, Pk.bErr b.p = 0
  wf : BOk l
  few : l.length ≤ 900000000
  base : base ≤ w.heap.size

set_option maxHeartbeats 8000000 in
set_option maxRecDepth 20000 in
theorem rinto_any (base : Nat) (v : Value) (l : List Blb) (b : Blb) (w : World) (h : Ow base w v l) (hbk : BOk [b]) (R : List Pk.Bl × Wk.Bs × Int) (hR : R = Wk.into (pl l) b.p) :
    Calls Tryz.prog 47 #[v, blV b] w fun e w' => ∃ v' l' id, e = .returned (.tuple #[v', idV id, .int .i64 R.2.2]) ∧ id.length = 8 ∧ Below base w w' ∧ Kt 37 w w' ∧ w'.ownsRow base 37 2 v' l'.length (rowR blC l') ∧ pl l' = R.1 ∧ (R.2.2 = 0 → id = R.2.1) := by
  obtain ⟨ia, ic, rfl⟩ := own_form h.own
  obtain ⟨c0', c1', c2', c3', c4', c5', c6', c7', hL⟩ := eight _ (idOr_length b)
  have HL : Hid (idOr b = [c0', c1', c2', c3', c4', c5', c6', c7']) := hL
  have hid := fun W => rpid_any b W (hbk b List.mem_cons_self).2
  rw [hL] at hid
  have hid' : ∀ W, Calls Tryz.prog 71 #[.agg #[.int .i64 b.kind, .string b.bytes]] W fun e w' => e = .returned (.tuple #[.agg #[.int .u8 (c0'.toNat : Int), .int .u8 (c1'.toNat : Int), .int .u8 (c2'.toNat : Int), .int .u8 (c3'.toNat : Int), .int .u8 (c4'.toNat : Int), .int .u8 (c5'.toNat : Int), .int .u8 (c6'.toNat : Int), .int .u8 (c7'.toNat : Int)], .int .i64 (Pk.bErr b.p)]) ∧ Below W.heap.size W w' := hid
  obtain ⟨W1, hW1⟩ : ∃ W1, W1 = (w.alloc (.cells #[.int .i64 b.kind, .string b.bytes] 37)).alloc (.cells #[.int .u8 0, .int .u8 0, .int .u8 0, .int .u8 0, .int .u8 0, .int .u8 0, .int .u8 0, .int .u8 0] 29) := ⟨_, rfl⟩
  have HO : Hid (Ow base w (.slice ia l.length ic) l) := h
  have HR : Hid (R = Wk.into (pl l) b.p) := hR
  obtain ⟨N, hN⟩ : ∃ N, N = l.length := ⟨_, rfl⟩
  have HN : Hid (N = l.length) := hN
  rw [← hN] at HO ⊢
  have HB1 : Hid (Below w.heap.size w W1) := by rw [hW1]; exact ((Below.refl _ w).alloc (Nat.le_refl _) _).alloc (by simp) _
  have HM1 : Hid (W1.heap[w.heap.size]? = some (.cells #[.int .i64 b.kind, .string b.bytes] 37 (0, 0)) ∧ I8 W1 (w.heap.size + 1) [0, 0, 0, 0, 0, 0, 0, 0] ∧ W1.heap.size = w.heap.size + 2) := by
    have t2 := (two_new w (.cells #[.int .i64 b.kind, .string b.bytes] 37) (.cells #[.int .u8 0, .int .u8 0, .int .u8 0, .int .u8 0, .int .u8 0, .int .u8 0, .int .u8 0, .int .u8 0] 29))
    rw [hW1]
    exact ⟨t2.1, I8.laid (b0 := 0) (b1 := 0) (b2 := 0) (b3 := 0) (b4 := 0) (b5 := 0) (b6 := 0) (b7 := 0) t2.2.1, t2.2.2.1⟩
  obtain ⟨y0, y1⟩ := pair_in HM1.out.1
  have HFin : Hid (∀ W', Below w.heap.size w W' → Below base w W' ∧ Kt 37 w W' ∧ W'.ownsRow base 37 2 (.slice ia N ic) l.length (rowR blC l)) := fun W' hW => ⟨hW.mono HO.out.base, Kt.of_below hW, by
    have := own_below HO.out.own hW
    rw [← HN.out] at this ⊢
    exact this⟩
  obtain ⟨p5, hp5⟩ : ∃ p5, p5 = w.heap.size + 1 := ⟨_, rfl⟩
  have HP5 : Hid (p5 = w.heap.size + 1) := hp5
  clear h hR hL hid hN
  unfold blV
  go_enter Tryz.func47, Tryz.ntmps47
  go_upto_region 1 with fail
  rw [← hW1, ← hp5]
  clear hW1 hp5
  go_wp2_with fail
  refine (hid' _).mono ?_
  rintro e w2 ⟨rfl, b2⟩
  obtain ⟨W3, hW3⟩ : ∃ W3, W3 = w2.alloc (.cells #[.int .u8 (c0'.toNat : Int), .int .u8 (c1'.toNat : Int), .int .u8 (c2'.toNat : Int), .int .u8 (c3'.toNat : Int), .int .u8 (c4'.toNat : Int), .int .u8 (c5'.toNat : Int), .int .u8 (c6'.toNat : Int), .int .u8 (c7'.toNat : Int)] 29) := ⟨_, rfl⟩
  have hb23 : Below w2.heap.size w2 W3 := by rw [hW3]; exact (Below.refl _ w2).alloc (Nat.le_refl _) _
  have HB13 : Hid (Below W1.heap.size W1 W3) := b2.trans (hb23.mono b2.size)
  have HB3 : Hid (Below w.heap.size w W3) := HB1.out.trans (HB13.out.mono HB1.out.size)
  have HI7 : Hid (I8 W3 w2.heap.size [c0', c1', c2', c3', c4', c5', c6', c7']) := by rw [hW3]; exact I8.laid (heap_alloc_new w2 _)
  have HI5 : Hid (I8 W3 p5 [0, 0, 0, 0, 0, 0, 0, 0]) := by
    rw [HP5.out]
    exact HM1.out.2.1.below HB13.out HM1.out.2.1.lt
  have HM3 : Hid (W3.heap[w.heap.size]? = some (.cells #[.int .i64 b.kind, .string b.bytes] 37 (0, 0))) := (HB13.out.block _ (Array.getElem?_eq_some_iff.1 HM1.out.1).1).trans HM1.out.1
  have HP7 : Hid (w2.heap.size ≠ p5 ∧ w.heap.size ≠ p5 ∧ w.heap.size ≤ p5) := by
    have h1 := b2.size
    have h2 := HM1.out.2.2
    have h3 := HP5.out
    exact ⟨by omega, by omega, by omega⟩
  have HP77 : Hid (w.heap.size ≤ w2.heap.size) := by
    have h1 := b2.size
    have h2 := HM1.out.2.2
    show _ ≤ _
    omega
  clear b2 hb23 y0 y1
  go_upto_region 2 with fail
  rw [← hW3]
  obtain ⟨p7, hp7⟩ : ∃ p7, p7 = w2.heap.size := ⟨_, rfl⟩
  rw [← hp7] at HI7 HP7 HP77 ⊢
  clear hW3 hp7 hid'
  by_cases hE : Pk.bErr b.p = 0
  case neg =>
    have HRe : Hid (R = (pl l, [], Pk.bErr b.p)) := by show _ = _; rw [HR.out, into_bad hE]
    have hne : (Pk.bErr b.p != 0) = true := by rw [bne_iff_ne]; exact hE
    have HEr : Hid (Pk.bErr b.p ≠ 0) := hE
    obtain ⟨z0, z1, z2, z3, z4, z5, z6, z7⟩ := HI7.out.cells
    obtain ⟨e0, e1, e2, e3, e4, e5, e6, e7⟩ := I8.cells (b0 := 0) (b1 := 0) (b2 := 0) (b3 := 0) (b4 := 0) (b5 := 0) (b6 := 0) (b7 := 0) HI5.out
    obtain ⟨f0, f1, f2, f3, f4, f5, f6, f7⟩ := HI5.out.free
    have HB9 : Hid (Below w.heap.size w (set8 W3 p5 c0' c1' c2' c3' c4' c5' c6' c7')) := below_set8 HB3.out HP7.out.2.2 _ _ _ _ _ _ _ _
    obtain ⟨W9, hW9⟩ : ∃ W9, W9 = set8 W3 p5 c0' c1' c2' c3' c4' c5' c6' c7' := ⟨_, rfl⟩
    have HI9 : Hid (I8 W9 p5 [c0', c1', c2', c3', c4', c5', c6', c7']) := by rw [hW9]; exact HI5.out.store _ _ _ _ _ _ _ _
    rw [← hW9] at HB9
    simp only [set8, B] at hW9
    generalize Pk.bErr b.p = E at *
    clear hE HR
    go_upto_region 3 with fail
    go_region
    all_goals
      rw [← hW9]
      obtain ⟨g0, g1, g2, g3, g4, g5, g6, g7⟩ := HI9.out.cells
      clear hW9 z0 z1 z2 z3 z4 z5 z6 z7 e0 e1 e2 e3 e4 e5 e6 e7 f0 f1 f2 f3 f4 f5 f6 f7
      go_wp2_with fail
      refine bodyPost_ret (v := .tuple #[.slice ia N ic, .agg #[.int .u8 (c0'.toNat : Int), .int .u8 (c1'.toNat : Int), .int .u8 (c2'.toNat : Int), .int .u8 (c3'.toNat : Int), .int .u8 (c4'.toNat : Int), .int .u8 (c5'.toNat : Int), .int .u8 (c6'.toNat : Int), .int .u8 (c7'.toNat : Int)], .int .i64 E]) ?_ rfl ⟨_, l, [c0', c1', c2', c3', c4', c5', c6', c7'], by rw [HRe.out]; rfl, rfl, ?_⟩
      · have hres : Tryz.f47.results = #[.tmp 4, .cell 5 29, .tmp 6] := by kernel_rfl
        simp only [results, hres]
        go_simp
      · have hq := HFin.out _ HB9.out.drew
        exact ⟨hq.1, hq.2.1, hq.2.2, by rw [HRe.out], fun e => by rw [HRe.out] at e; exact absurd e HEr.out⟩
  have HIE : Hid (Pk.bid b.p = [c0', c1', c2', c3', c4', c5', c6', c7']) := by
    have e : idOr b = Pk.bid b.p := by unfold idOr; rw [if_pos hE]
    show _ = _
    rw [← e, HL.out]
  have HE : Hid (Pk.bErr b.p = 0) := hE
  rw [hE]
  clear hE
  go_wp2_with fail
  have hNf : N ≤ 900000000 := by rw [HN.out]; exact HO.out.few
  obtain ⟨i0, hi, hz0, hz1, hz2⟩ := info_parts info_blb
  go_loopw [25] (fun i wr => ∃ j : Nat, j ≤ N ∧ i = .int .i64 j ∧ Hid (∀ i q, i < j → l[i]? = some q → Pk.bid q.p ≠ Pk.bid b.p) ∧ Hid (Below W3.heap.size W3 wr)) (fun i _ => N - (intOf i).toNat)
  case atStart => exact ⟨0, by omega, rfl, fun i q hi => absurd hi (by omega), Below.refl _ _⟩
  case round =>
    obtain ⟨j, hj, rfl, HNo, HB⟩ := hrel
    have HBw : Hid (Below w.heap.size w wr) := HB3.out.trans (HB.out.mono HB3.out.size)
    have HI7r : Hid (I8 wr p7 [c0', c1', c2', c3', c4', c5', c6', c7']) := HI7.out.below HB.out HI7.out.lt
    have HI5r : Hid (I8 wr p5 [0, 0, 0, 0, 0, 0, 0, 0]) := HI5.out.below HB.out HI5.out.lt
    have hM := (HB.out.block _ (Array.getElem?_eq_some_iff.1 HM3.out).1).trans HM3.out
    obtain ⟨y0, y1⟩ := pair_in hM
    by_cases hlt : j < N
    · have hjl : j < l.length := by rw [← HN.out]; exact hlt
      obtain ⟨x, hx⟩ : ∃ x, l[j]? = some x := ⟨_, List.getElem?_eq_getElem hjl⟩
      have HXJ : Hid (l[j]? = some x) := hx
      have hxe := HO.out.ok x (List.mem_of_getElem? hx)
      have hxw := HO.out.wf x (List.mem_of_getElem? hx)
      have hrx : Bx wr (.slice ia N ic) l := Rx.of_own blC_length (own_below HO.out.own HBw.out)
      obtain ⟨kb, ko, rfl, hkb, u0, u1⟩ := hrx.blob j x hx
      obtain ⟨W4, hW4⟩ : ∃ W4, W4 = wr.alloc (.cells #[.int .i64 x.kind, .string x.bytes] 37) := ⟨_, rfl⟩
      have HB4 : Hid (Below wr.heap.size wr W4) := by rw [hW4]; exact (Below.refl _ wr).alloc (Nat.le_refl _) _
      have HM4 : Hid (W4.heap[wr.heap.size]? = some (.cells #[.int .i64 x.kind, .string x.bytes] 37 (0, 0))) := by rw [hW4]; exact heap_alloc_new wr _
      have HB34 : Hid (Below W3.heap.size W3 W4) := HB.out.trans (HB4.out.mono HB.out.size)
      have HBw4 : Hid (Below w.heap.size w W4) := HB3.out.trans (HB34.out.mono HB3.out.size)
      have HXE : Hid (Pk.bErr x.p = 0) := hxe
      have HXW : Hid ((Lit.int .i64 x.kind).wf = true ∧ x.bytes.size ≤ 9223372036854775807) := hxw
      clear hx hxe hxw hrx hM y0 y1
      go_upto_region 7 with fail
      rw [← hW4]
      obtain ⟨p4, hp4⟩ : ∃ p4, p4 = wr.heap.size := ⟨_, rfl⟩
      rw [← hp4] at HM4 ⊢
      clear hW4 hp4 u0 u1 hkb
      have hI7 := HI7.out.below HB34.out HI7.out.lt
      have hI5 := HI5.out.below HB34.out HI5.out.lt
      have HI54 : Hid (I8 W4 p5 [0, 0, 0, 0, 0, 0, 0, 0]) := hI5
      have HI74 : Hid (I8 W4 p7 [c0', c1', c2', c3', c4', c5', c6', c7']) := hI7
      obtain ⟨z0, z1, z2, z3, z4, z5, z6, z7⟩ := HI74.out.cells
      obtain ⟨x0, x1⟩ := pair_in HM4.out
      obtain ⟨y0, y1⟩ := pair_in ((HB34.out.block _ (Array.getElem?_eq_some_iff.1 HM3.out).1).trans HM3.out)
      have hcmp := fun W => bl_cmp W x b
      have HS : Hid (blSame x b = true ↔ x = b) := blSame_iff
      clear hI5 hI7
      generalize blSame x b = SM at *
      cases SM with
      | true =>
        have HRe : Hid (R = (pl l, [c0', c1', c2', c3', c4', c5', c6', c7'], 0)) := by
          have e : x = b := HS.out.1 (by first | exact trivial | rfl)
          have := into_at HE.out HXJ.out (by rw [e]) HNo.out
          show _ = _
          rw [HR.out, this, if_pos (by rw [e]), HIE.out]
        clear HS HR
        go_wp2_with fail
        obtain ⟨W9, hW9⟩ : ∃ W9, W9 = set8 W4 p5 c0' c1' c2' c3' c4' c5' c6' c7' := ⟨_, rfl⟩
        have HI9 : Hid (I8 W9 p5 [c0', c1', c2', c3', c4', c5', c6', c7']) := by rw [hW9]; exact HI54.out.store _ _ _ _ _ _ _ _
        have HB9 : Hid (Below w.heap.size w W9) := by rw [hW9]; exact below_set8 HBw4.out HP7.out.2.2 _ _ _ _ _ _ _ _
        simp only [set8, B] at hW9
        obtain ⟨e0, e1, e2, e3, e4, e5, e6, e7⟩ := I8.cells (b0 := 0) (b1 := 0) (b2 := 0) (b3 := 0) (b4 := 0) (b5 := 0) (b6 := 0) (b7 := 0) HI54.out
        obtain ⟨f0, f1, f2, f3, f4, f5, f6, f7⟩ := (HI54.out).free
        go_upto_region 8 with fail
        go_region
        all_goals
          rw [← hW9]
          obtain ⟨g0, g1, g2, g3, g4, g5, g6, g7⟩ := HI9.out.cells
          clear hW9 z0 z1 z2 z3 z4 z5 z6 z7 e0 e1 e2 e3 e4 e5 e6 e7 f0 f1 f2 f3 f4 f5 f6 f7
          go_wp2_with fail
          refine bodyPost_ret (v := .tuple #[.slice (some ⟨kb, ko, none⟩) N ic, .agg #[.int .u8 (c0'.toNat : Int), .int .u8 (c1'.toNat : Int), .int .u8 (c2'.toNat : Int), .int .u8 (c3'.toNat : Int), .int .u8 (c4'.toNat : Int), .int .u8 (c5'.toNat : Int), .int .u8 (c6'.toNat : Int), .int .u8 (c7'.toNat : Int)], .int .i64 0]) ?_ rfl ⟨_, l, [c0', c1', c2', c3', c4', c5', c6', c7'], by rw [HRe.out]; rfl, rfl, ?_⟩
          · have hres : Tryz.f47.results = #[.tmp 4, .cell 5 29, .tmp 6] := by kernel_rfl
            simp only [results, hres]
            go_simp
          · have hq := HFin.out _ HB9.out.drew
            exact ⟨hq.1, hq.2.1, hq.2.2, by rw [HRe.out], fun e => by rw [HRe.out]⟩
      | false =>
        have HNe : Hid (x ≠ b) := fun e => by have := HS.out.2 e; cases this
        obtain ⟨d0', d1', d2', d3', d4', d5', d6', d7', hd⟩ := eight _ (Pk.bid_length x.p)
        have HXI : Hid (Pk.bid x.p = [d0', d1', d2', d3', d4', d5', d6', d7']) := hd
        have hidx := fun W => rpid_any x W HXW.out.2
        rw [show idOr x = [d0', d1', d2', d3', d4', d5', d6', d7'] from by rw [← HXI.out]; unfold idOr; rw [if_pos HXE.out], HXE.out] at hidx
        have hidx' : ∀ W, Calls Tryz.prog 71 #[.agg #[.int .i64 x.kind, .string x.bytes]] W fun e w' => e = .returned (.tuple #[.agg #[.int .u8 (d0'.toNat : Int), .int .u8 (d1'.toNat : Int), .int .u8 (d2'.toNat : Int), .int .u8 (d3'.toNat : Int), .int .u8 (d4'.toNat : Int), .int .u8 (d5'.toNat : Int), .int .u8 (d6'.toNat : Int), .int .u8 (d7'.toNat : Int)], .int .i64 0]) ∧ Below W.heap.size W w' := hidx
        clear HS hd hidx
        go_wp2_with fail
        refine (hidx' _).mono ?_
        rintro e w5 ⟨rfl, b5⟩
        obtain ⟨W6, hW6⟩ : ∃ W6, W6 = w5.alloc (.cells #[.int .u8 (d0'.toNat : Int), .int .u8 (d1'.toNat : Int), .int .u8 (d2'.toNat : Int), .int .u8 (d3'.toNat : Int), .int .u8 (d4'.toNat : Int), .int .u8 (d5'.toNat : Int), .int .u8 (d6'.toNat : Int), .int .u8 (d7'.toNat : Int)] 29) := ⟨_, rfl⟩
        have hb56 : Below w5.heap.size w5 W6 := by rw [hW6]; exact (Below.refl _ w5).alloc (Nat.le_refl _) _
        have HB36 : Hid (Below W3.heap.size W3 W6) := HB34.out.trans ((b5.trans (hb56.mono b5.size)).mono HB34.out.size)
        have HBw6 : Hid (Below w.heap.size w W6) := HB3.out.trans (HB36.out.mono HB3.out.size)
        have HI6 : Hid (I8 W6 w5.heap.size [d0', d1', d2', d3', d4', d5', d6', d7']) := by rw [hW6]; exact I8.laid (heap_alloc_new w5 _)
        have HI56 : Hid (I8 W6 p5 [0, 0, 0, 0, 0, 0, 0, 0]) := HI5.out.below HB36.out HI5.out.lt
        have HI76 : Hid (I8 W6 p7 [c0', c1', c2', c3', c4', c5', c6', c7']) := HI7.out.below HB36.out HI7.out.lt
        clear b5 hb56 hidx' z0 z1 z2 z3 z4 z5 z6 z7 x0 x1 y0 y1 hcmp
        go_upto_region 10 with fail
        rw [← hW6]
        obtain ⟨p6, hp6⟩ : ∃ p6, p6 = w5.heap.size := ⟨_, rfl⟩
        rw [← hp6] at HI6 ⊢
        clear hW6 hp6
        obtain ⟨z0, z1, z2, z3, z4, z5, z6, z7⟩ := HI76.out.cells
        obtain ⟨x0, x1, x2, x3, x4, x5, x6, x7⟩ := HI6.out.cells
        have hqb : ∀ W, (Op.equalIn 10000 29 (.agg #[.int .u8 (d0'.toNat : Int), .int .u8 (d1'.toNat : Int), .int .u8 (d2'.toNat : Int), .int .u8 (d3'.toNat : Int), .int .u8 (d4'.toNat : Int), .int .u8 (d5'.toNat : Int), .int .u8 (d6'.toNat : Int), .int .u8 (d7'.toNat : Int)]) (.agg #[.int .u8 (c0'.toNat : Int), .int .u8 (c1'.toNat : Int), .int .u8 (c2'.toNat : Int), .int .u8 (c3'.toNat : Int), .int .u8 (c4'.toNat : Int), .int .u8 (c5'.toNat : Int), .int .u8 (c6'.toNat : Int), .int .u8 (c7'.toNat : Int)])).run Tryz.prog W = .ok ([d0', d1', d2', d3', d4', d5', d6', d7'] == [c0', c1', c2', c3', c4', c5', c6', c7']) W := fun W => id_eq W [d0', d1', d2', d3', d4', d5', d6', d7'] [c0', c1', c2', c3', c4', c5', c6', c7'] rfl rfl
        cases hb : ([d0', d1', d2', d3', d4', d5', d6', d7'] == [c0', c1', c2', c3', c4', c5', c6', c7']) with
        | true =>
          rw [hb] at hqb
          have hbi : Pk.bid x.p = Pk.bid b.p := by rw [HXI.out, HIE.out]; exact eq_of_beq hb
          have HRe : Hid (R = (pl l, [c0', c1', c2', c3', c4', c5', c6', c7'], 11)) := by
            have := into_at HE.out HXJ.out hbi HNo.out
            show _ = _
            rw [HR.out, this, if_neg (fun k => HNe.out (Blb.p_inj k)), HIE.out]
          clear hb HR hbi
          go_wp2_with fail
          obtain ⟨W9, hW9⟩ : ∃ W9, W9 = set8 W6 p5 c0' c1' c2' c3' c4' c5' c6' c7' := ⟨_, rfl⟩
          have HI9 : Hid (I8 W9 p5 [c0', c1', c2', c3', c4', c5', c6', c7']) := by rw [hW9]; exact HI56.out.store _ _ _ _ _ _ _ _
          have HB9 : Hid (Below w.heap.size w W9) := by rw [hW9]; exact below_set8 HBw6.out HP7.out.2.2 _ _ _ _ _ _ _ _
          simp only [set8, B] at hW9
          obtain ⟨e0, e1, e2, e3, e4, e5, e6, e7⟩ := I8.cells (b0 := 0) (b1 := 0) (b2 := 0) (b3 := 0) (b4 := 0) (b5 := 0) (b6 := 0) (b7 := 0) HI56.out
          obtain ⟨f0, f1, f2, f3, f4, f5, f6, f7⟩ := (HI56.out).free
          go_upto_region 11 with fail
          go_region
          all_goals
            rw [← hW9]
            obtain ⟨g0, g1, g2, g3, g4, g5, g6, g7⟩ := HI9.out.cells
            clear hW9 z0 z1 z2 z3 z4 z5 z6 z7 x0 x1 x2 x3 x4 x5 x6 x7 e0 e1 e2 e3 e4 e5 e6 e7 f0 f1 f2 f3 f4 f5 f6 f7
            go_wp2_with fail
            refine bodyPost_ret (v := .tuple #[.slice (some ⟨kb, ko, none⟩) N ic, .agg #[.int .u8 (c0'.toNat : Int), .int .u8 (c1'.toNat : Int), .int .u8 (c2'.toNat : Int), .int .u8 (c3'.toNat : Int), .int .u8 (c4'.toNat : Int), .int .u8 (c5'.toNat : Int), .int .u8 (c6'.toNat : Int), .int .u8 (c7'.toNat : Int)], .int .i64 11]) ?_ rfl ⟨_, l, [c0', c1', c2', c3', c4', c5', c6', c7'], by rw [HRe.out]; rfl, rfl, ?_⟩
            · have hres : Tryz.f47.results = #[.tmp 4, .cell 5 29, .tmp 6] := by kernel_rfl
              simp only [results, hres]
              go_simp
            · have hq := HFin.out _ HB9.out.drew
              exact ⟨hq.1, hq.2.1, hq.2.2, by rw [HRe.out], fun e => by rw [HRe.out] at e; cases e⟩
        | false =>
          rw [hb] at hqb
          have HNo2 : Hid (∀ i q, i < j + 1 → l[i]? = some q → Pk.bid q.p ≠ Pk.bid b.p) := fun i q hi hq => by
            by_cases e : i < j
            · exact HNo.out i q e hq
            · obtain rfl : i = j := by omega
              rw [HXJ.out] at hq
              cases hq
              rw [HXI.out, HIE.out]
              exact beq_eq_false_iff_ne.1 hb
          clear hb
          go_wp2_with fail
          go_roundw
          case measure => simp only [intOf]; omega
          case rel => exact ⟨j + 1, by omega, by go_num, HNo2, HB36⟩
    · obtain rfl : j = N := by omega
      have HRe : Hid (R = (pl (l ++ [b]), [c0', c1', c2', c3', c4', c5', c6', c7'], 0)) := by
        have := into_new HE.out fun i q hi hq => HNo.out i q (by rw [HN.out]; exact hi) hq
        show _ = _
        rw [HR.out, this, HIE.out]
      have hoc : wr.ownsRow base 37 2 (.slice ia j ic) j (rowR blC l) := by
        have := own_below HO.out.own HBw.out
        rw [← HN.out] at this
        exact this
      have hrow : ∀ o2, ((wr.alloc o2).drew).ownsRow base 37 2 (.slice ia j ic) j (rowR blC l) := fun o2 => (hoc.alloc o2).drew
      have hbw : base ≤ wr.heap.size := Nat.le_trans HO.out.base HBw.out.size
      have HQ : Hid (∀ o2 w1, ((wr.alloc o2).drew).grownBy w1 (Value.slice ia j ic).ownBlock → I8 w1 p7 [c0', c1', c2', c3', c4', c5', c6', c7'] ∧ I8 w1 p5 [0, 0, 0, 0, 0, 0, 0, 0] ∧ Below base w w1 ∧ Kt 37 w w1) := by
        intro o2 w1 hg
        have hk : Kept (fun k => (Value.slice ia j ic).ownBlock ≠ some k) wr w1 := Kept.grown ((Kept.refl _ wr).alloc o2).drew hg fun k hk hp => hp hk
        have hlt7 : ∀ g, (Value.slice ia j ic).ownBlock = some g → base ≤ g ∧ g < w.heap.size := fun g hg' => HO.out.own.lt g hg'
        refine ⟨HI7r.out.kept hk fun e => ?_, HI5r.out.kept hk fun e => ?_, ?_, ?_⟩
        · have := (hlt7 _ e).2; have := HP77.out; omega
        · have := (hlt7 _ e).2; have := HP7.out.2.2; omega
        · exact (((HBw.out.mono HO.out.base).alloc hbw o2).drew).grown hg (by simp; omega) fun g hg' => (hlt7 g hg').1
        · exact ((Kt.of_below HBw.out).alloc o2).drew.trans (Kt.of_grown hg fun g hg' => by
            obtain ⟨cur, q, _⟩ := own_block (hrow o2) hg'
            exact ⟨cur, _, q⟩)
      obtain ⟨z0, z1, z2, z3, z4, z5, z6, z7⟩ := HI7r.out.cells
      have HGn : Hid (∀ g (cap : Nat), (Value.slice ia j ic).ownBlock = some g ∨ g = wr.heap.size + 1 → ∀ g', (Value.slice (some ⟨g, 0, none⟩) (j + 1) cap).ownBlock = some g' → g' ≠ p5) := fun g cap hat g' hg' => by
        cases hg'
        show g ≠ p5
        rcases hat with e | e
        · have := (HO.out.own.lt g e).2; have := HP7.out.2.2; omega
        · have := HI5r.out.lt; omega
      have hp7l : p7 < wr.heap.size := HI7r.out.lt
      have hp7n : p7 ≠ wr.heap.size := by omega
      have hp7m : wr.heap.size ≠ p7 := by omega
      clear HR hM hoc
      go_upto_region 13 with fail
      go_region_law ((refine step_append_lies _ (by rfl) (.tmp 45) (.tmp 47) 27 (by rfl) base 37 i0 (.agg #[.int .i64 0, .string ⟨#[]⟩]) 2 24 Tryz.underlying27 hi hz0 hz1 hz2 rfl (by decide) (.slice ia j ic) j (rowR blC l) (by rfl) (hrow _) ⟨wr.heap.size, 0, none⟩ 1 1 [.int .i64 b.kind, .string b.bytes] (by rfl) (by rfl) (twob_at (by simp) (by simp)) (by simp [Value.oneCell']) (by decide) (by unfold maxLen; omega) (by omega) (by simp; omega) (wr.heap.size + 1) (by simp) ?_; intro g cap w1 hown1 hgrow hat hlt1; obtain ⟨q7, q5, qb, qk⟩ := HQ.out _ _ hgrow; obtain ⟨r0, r1, r2, r3, r4, r5, r6, r7⟩ := q7.cells; obtain ⟨e0, e1, e2, e3, e4, e5, e6, e7⟩ := I8.cells (b0 := 0) (b1 := 0) (b2 := 0) (b3 := 0) (b4 := 0) (b5 := 0) (b6 := 0) (b7 := 0) q5; obtain ⟨f0, f1, f2, f3, f4, f5, f6, f7⟩ := q5.free; obtain ⟨W9, hW9⟩ : ∃ W9, W9 = set8 w1 p5 c0' c1' c2' c3' c4' c5' c6' c7' := ⟨_, rfl⟩; have HI9 : Hid (I8 W9 p5 [c0', c1', c2', c3', c4', c5', c6', c7']) := (by show I8 _ _ _; rw [hW9]; exact q5.store _ _ _ _ _ _ _ _); have HB9 : Hid (Below base w W9 ∧ Kt 37 w W9) := (by show _ ∧ _; rw [hW9]; exact ⟨below_set8 qb (Nat.le_trans HO.out.base HP7.out.2.2) _ _ _ _ _ _ _ _, kt_set8 qk HP7.out.2.2 _ _ _ _ _ _ _ _⟩); have HO9 : Hid (W9.ownsRow base 37 2 (.slice (some ⟨g, 0, none⟩) (j + 1) cap) (j + 1) (rowR blC l ++ [.int .i64 b.kind, .string b.bytes])) := (by show _; rw [hW9]; exact own_kept hown1 (kept_into8 w1 p5 _ _ _ _ _ _ _ _) (HGn.out g cap hat)); simp only [set8, B] at hW9))
      all_goals
        rw [← hW9]
        obtain ⟨g0, g1, g2, g3, g4, g5, g6, g7⟩ := HI9.out.cells
        clear hW9 z0 z1 z2 z3 z4 z5 z6 z7 r0 r1 r2 r3 r4 r5 r6 r7 e0 e1 e2 e3 e4 e5 e6 e7 f0 f1 f2 f3 f4 f5 f6 f7
        go_wp2_with fail
        refine bodyPost_ret (v := .tuple #[.slice (some ⟨g, 0, none⟩) (j + 1) cap, .agg #[.int .u8 (c0'.toNat : Int), .int .u8 (c1'.toNat : Int), .int .u8 (c2'.toNat : Int), .int .u8 (c3'.toNat : Int), .int .u8 (c4'.toNat : Int), .int .u8 (c5'.toNat : Int), .int .u8 (c6'.toNat : Int), .int .u8 (c7'.toNat : Int)], .int .i64 0]) ?_ rfl ⟨_, l ++ [b], [c0', c1', c2', c3', c4', c5', c6', c7'], by rw [HRe.out]; rfl, rfl, HB9.out.1, HB9.out.2, ?_, by rw [HRe.out], fun _ => by rw [HRe.out]⟩
        · have hres : Tryz.f47.results = #[.tmp 4, .cell 5 29, .tmp 6] := by kernel_rfl
          simp only [results, hres]
          go_simp
        · rw [List.length_append, ← HN.out, rowR_more]
          exact HO9.out
end Go.Proofs.YtimdioacmojkeaaGreatDoor

namespace Go.Proofs.YtimdioacmojkeaaGreatDoor
namespace Td

/-- what is left, and the first error -/
abbrev St := Bs × Int

def tk (k : Nat) (e : Int) (x : St) : Bool × St := if x.2 ≠ 0 then (false, x) else if e ≠ 0 then (false, (x.1, e)) else (true, (x.1.drop k, 0))

def nuE (most : Nat) (s : Bs) : Int := if (Nm.getN s).2.2 = 0 ∧ most < (Nm.getN s).1 then 2 else (Nm.getN s).2.2

def sNum (most : Nat) (x : St) : Nat × St := (if (tk (Nm.getN x.1).2.1 (nuE most x.1) x).1 = true then (Nm.getN x.1).1 else 0, (tk (Nm.getN x.1).2.1 (nuE most x.1) x).2)

def sInt (x : St) : Int × St := (if (tk (Nm.getI x.1).2.1 (Nm.getI x.1).2.2 x).1 = true then (Nm.getI x.1).1 else 0, (tk (Nm.getI x.1).2.1 (Nm.getI x.1).2.2 x).2)

def sTxt (x : St) : Bs × St := (if (tk (Nm.getT x.1).2.1 (Nm.getT x.1).2.2 x).1 = true then (Nm.getT x.1).1 else [], (tk (Nm.getT x.1).2.1 (Nm.getT x.1).2.2 x).2)

def shE (k : Nat) (s : Bs) : Int := if s.length < k then 3 else 0

def sByt (k : Nat) (x : St) : Bs × St := (if (tk k (shE k x.1) x).1 = true then x.1.take k else [], (tk k (shE k x.1) x).2)

def sKind (x : St) : Nat × St := (((sByt 1 x).1.headD 0).toNat, (sByt 1 x).2)

def eight (s : Bs) : Bs := s ++ List.replicate (8 - s.length) 0

def sIds : Nat → St → List Bs × St
  | 0, x => ([], x)
  | j + 1, x => ((sIds j x).1 ++ [eight (sByt 8 (sIds j x).2).1], (sByt 8 (sIds j x).2).2)

def sParts (x : St) : List Bs × St := sIds (sNum 300 x).1 (sNum 300 x).2

def sNode (x : St) : Nd × St :=
  let a := sTxt x
  let b := sKind a.2
  let c := sNum 511 b.2
  let d := sInt c.2
  let e := sNum 4096 d.2
  let f := sParts e.2
  let g := sTxt f.2
  (⟨a.1, b.1, c.1, d.1, e.1, f.1, g.1⟩, g.2)

def sAll : Nat → St → List Nd × St
  | 0, x => ([], x)
  | j + 1, x => ((sAll j x).1 ++ [(sNode (sAll j x).2).1], (sNode (sAll j x).2).2)

/-! what has an error stays -/
theorem tk_stay {k : Nat} {e : Int} {x : St} (h : x.2 ≠ 0) : tk k e x = (false, x) := by unfold tk; rw [if_pos h]

theorem tk_err {k : Nat} {e : Int} {s : Bs} (h : e ≠ 0) : tk k e (s, 0) = (false, (s, e)) := by unfold tk; rw [if_neg (fun q => q rfl), if_pos h]

theorem tk_ok {k : Nat} {s : Bs} : tk k 0 (s, 0) = (true, (s.drop k, 0)) := by unfold tk; rw [if_neg (fun q => q rfl), if_neg (fun q => q rfl)]

theorem sNum_stay {m : Nat} {x : St} (h : x.2 ≠ 0) : sNum m x = (0, x) := by unfold sNum; rw [tk_stay h]; rfl

theorem sInt_stay {x : St} (h : x.2 ≠ 0) : sInt x = (0, x) := by unfold sInt; rw [tk_stay h]; rfl

theorem sTxt_stay {x : St} (h : x.2 ≠ 0) : sTxt x = ([], x) := by unfold sTxt; rw [tk_stay h]; rfl

theorem sByt_stay {k : Nat} {x : St} (h : x.2 ≠ 0) : sByt k x = ([], x) := by unfold sByt; rw [tk_stay h]; rfl

theorem sKind_stay {x : St} (h : x.2 ≠ 0) : sKind x = (0, x) := by unfold sKind; rw [sByt_stay h]; rfl

theorem sIds_stay {x : St} (h : x.2 ≠ 0) : ∀ j, (sIds j x).2 = x
  | 0 => rfl
  | j + 1 => by
    have i := sIds_stay h j
    show (sByt 8 (sIds j x).2).2 = x
    rw [i, sByt_stay h]

theorem sParts_stay {x : St} (h : x.2 ≠ 0) : (sParts x).2 = x := by unfold sParts; rw [sNum_stay h]; rfl

theorem sNode_stay {x : St} (h : x.2 ≠ 0) : (sNode x).2 = x := by
  unfold sNode
  simp only [sTxt_stay h, sKind_stay h, sNum_stay h, sInt_stay h, sParts_stay h]

theorem sAll_stay {x : St} (h : x.2 ≠ 0) : ∀ j, (sAll j x).2 = x
  | 0 => rfl
  | j + 1 => by
    have i := sAll_stay h j
    show (sNode (sAll j x).2).2 = x
    rw [i, sNode_stay h]

/-! as the plain reading says -/
theorem sNum_ok {m n : Nat} {s r : Bs} (h : num m s = (n, r, 0)) : sNum m (s, 0) = (n, (r, 0)) := by
  unfold num at h
  simp only at h
  split at h
  · rename_i q; exact absurd (congrArg (fun q => q.2.2) h) q
  · rename_i q
    split at h
    · exact absurd (congrArg (fun q => q.2.2) h) (by simp)
    · rename_i q2
      have e1 : (Nm.getN s).1 = n := congrArg (fun q => q.1) h
      have e2 : s.drop (Nm.getN s).2.1 = r := congrArg (fun q => q.2.1) h
      have e3 : nuE m s = 0 := by unfold nuE; rw [if_neg (fun k => q2 k.2)]; exact Decidable.not_not.mp q
      unfold sNum
      simp only [e3, tk_ok, e1, e2, if_true]

theorem sNum_err {m n : Nat} {s r : Bs} {e : Int} (h : num m s = (n, r, e)) (he : e ≠ 0) : (sNum m (s, 0)).2 = (s, e) := by
  have : nuE m s = e := by
    unfold num at h
    simp only at h
    split at h
    · rename_i q
      unfold nuE
      rw [if_neg (fun k => q k.1)]
      exact congrArg (fun q => q.2.2) h
    · rename_i q
      split at h
      · rename_i q2
        unfold nuE
        rw [if_pos ⟨Decidable.not_not.mp q, q2⟩]
        exact congrArg (fun q => q.2.2) h
      · exact absurd (congrArg (fun q => q.2.2) h).symm he
  unfold sNum
  simp only [this, tk_err he]

theorem sInt_ok {k : Nat} {i : Int} {s : Bs} (h : Nm.getI s = (i, k, 0)) : sInt (s, 0) = (i, (s.drop k, 0)) := by
  unfold sInt; simp only [h, tk_ok, if_true]

theorem sInt_err {k : Nat} {i e : Int} {s : Bs} (h : Nm.getI s = (i, k, e)) (he : e ≠ 0) : (sInt (s, 0)).2 = (s, e) := by
  unfold sInt; simp only [h, tk_err he]

theorem sTxt_ok {k : Nat} {t s : Bs} (h : Nm.getT s = (t, k, 0)) : sTxt (s, 0) = (t, (s.drop k, 0)) := by
  unfold sTxt; simp only [h, tk_ok, if_true]

theorem sTxt_err {k : Nat} {e : Int} {t s : Bs} (h : Nm.getT s = (t, k, e)) (he : e ≠ 0) : (sTxt (s, 0)).2 = (s, e) := by
  unfold sTxt; simp only [h, tk_err he]

theorem sByt_ok {k : Nat} {s : Bs} (h : k ≤ s.length) : sByt k (s, 0) = (s.take k, (s.drop k, 0)) := by
  have : shE k s = 0 := by unfold shE; rw [if_neg (by omega)]
  unfold sByt; simp only [this, tk_ok, if_true]

theorem sByt_err {k : Nat} {s : Bs} (h : s.length < k) : (sByt k (s, 0)).2 = (s, 3) := by
  have : shE k s = 3 := by unfold shE; rw [if_pos h]
  unfold sByt; simp only [this, tk_err (show (3 : Int) ≠ 0 by decide)]

theorem sKind_ok {s : Bs} (h : s ≠ []) : sKind (s, 0) = ((s.headD 0).toNat, (s.tail, 0)) := by
  unfold sKind
  cases s with
  | nil => exact absurd rfl h
  | cons a b => rw [sByt_ok (by simp)]; simp

theorem sKind_err : (sKind ([], 0)).2 = ([], 3) := by unfold sKind; rw [sByt_err (by simp)]

theorem eights_snoc : ∀ (j : Nat) (l : Bs), eights (j + 1) l = eights j l ++ [(l.drop (8 * j)).take 8]
  | 0, l => rfl
  | j + 1, l => by
    rw [eights, eights_snoc j (l.drop 8), List.drop_drop, show 8 + 8 * j = 8 * (j + 1) from by omega]
    rfl

theorem eight_id {s : Bs} (h : s.length = 8) : eight s = s := by unfold eight; rw [h]; simp

theorem sIds_ok {s : Bs} : ∀ {j : Nat}, 8 * j ≤ s.length → sIds j (s, 0) = (eights j s, (s.drop (8 * j), 0))
  | 0, _ => rfl
  | j + 1, h => by
    have i := sIds_ok (s := s) (j := j) (by omega)
    have l8 : 8 ≤ (s.drop (8 * j)).length := by rw [List.length_drop]; omega
    rw [sIds, i]
    simp only
    rw [sByt_ok l8, eights_snoc, eight_id (by rw [List.length_take]; omega), List.drop_drop, show 8 * j + 8 = 8 * (j + 1) from by omega]

theorem sIds_err {s : Bs} : ∀ {j : Nat}, s.length < 8 * j → (sIds j (s, 0)).2.2 = 3
  | 0, h => absurd h (by omega)
  | j + 1, h => by
    show (sByt 8 (sIds j (s, 0)).2).2.2 = 3
    by_cases q : s.length < 8 * j
    · have i := sIds_err q
      rw [sByt_stay (by rw [i]; decide)]
      exact i
    · rw [sIds_ok (by omega)]
      simp only
      rw [sByt_err (by rw [List.length_drop]; omega)]

theorem sNode_rd (s : Bs) : ((rdOne s).2.2 = 0 → sNode (s, 0) = ((rdOne s).1, ((rdOne s).2.1, 0))) ∧ ((rdOne s).2.2 ≠ 0 → (sNode (s, 0)).2.2 = (rdOne s).2.2) := by
  unfold rdOne sNode
  rcases ht : Nm.getT s with ⟨t, kt, et⟩
  simp only
  by_cases q1 : et ≠ 0
  · rw [if_pos q1]
    have k := sTxt_err ht q1
    have z : (sTxt (s, 0)).2.2 ≠ 0 := by rw [k]; exact q1
    simp only [sKind_stay z, sNum_stay z, sInt_stay z, sParts_stay z, sTxt_stay z]
    exact ⟨fun h => absurd h q1, fun _ => by rw [k]⟩
  obtain rfl := Decidable.not_not.mp q1
  rw [if_neg q1, sTxt_ok ht]
  simp only
  by_cases q2 : s.drop kt = []
  · rw [if_pos q2, q2]
    have k := sKind_err
    have z : (sKind ([], 0)).2.2 ≠ 0 := by rw [k]; decide
    simp only [sNum_stay z, sInt_stay z, sParts_stay z, sTxt_stay z]
    exact ⟨fun h => absurd h (by decide), fun _ => by rw [k]⟩
  rw [if_neg q2, sKind_ok q2]
  simp only
  rcases hm : num 511 (s.drop kt).tail with ⟨m, s2, em⟩
  simp only
  by_cases q3 : em ≠ 0
  · rw [if_pos q3]
    have k := sNum_err hm q3
    have z : (sNum 511 ((s.drop kt).tail, 0)).2.2 ≠ 0 := by rw [k]; exact q3
    simp only [sNum_stay z, sInt_stay z, sParts_stay z, sTxt_stay z]
    exact ⟨fun h => absurd h q3, fun _ => by rw [k]⟩
  obtain rfl := Decidable.not_not.mp q3
  rw [if_neg q3, sNum_ok hm]
  simp only
  rcases hi : Nm.getI s2 with ⟨i, ki, ei⟩
  simp only
  by_cases q4 : ei ≠ 0
  · rw [if_pos q4]
    have k := sInt_err hi q4
    have z : (sInt (s2, 0)).2.2 ≠ 0 := by rw [k]; exact q4
    simp only [sNum_stay z, sParts_stay z, sTxt_stay z]
    exact ⟨fun h => absurd h q4, fun _ => by rw [k]⟩
  obtain rfl := Decidable.not_not.mp q4
  rw [if_neg q4, sInt_ok hi]
  simp only
  rcases hz : num 4096 (s2.drop ki) with ⟨z, s3, ez⟩
  simp only
  by_cases q5 : ez ≠ 0
  · rw [if_pos q5]
    have k := sNum_err hz q5
    have z : (sNum 4096 (s2.drop ki, 0)).2.2 ≠ 0 := by rw [k]; exact q5
    simp only [sParts_stay z, sTxt_stay z]
    exact ⟨fun h => absurd h q5, fun _ => by rw [k]⟩
  obtain rfl := Decidable.not_not.mp q5
  rw [if_neg q5, sNum_ok hz]
  simp only
  rcases hp : num 300 s3 with ⟨p, s4, ep⟩
  simp only
  by_cases q6 : ep ≠ 0
  · rw [if_pos q6]
    have k := sNum_err hp q6
    have z : (sParts (s3, 0)).2 = (s3, ep) := by
      unfold sParts
      rw [sIds_stay (by rw [k]; exact q6), k]
    have z2 : (sParts (s3, 0)).2.2 ≠ 0 := by rw [z]; exact q6
    simp only [sTxt_stay z2]
    exact ⟨fun h => absurd h q6, fun _ => by rw [z]⟩
  obtain rfl := Decidable.not_not.mp q6
  rw [if_neg q6]
  have hsp : sParts (s3, 0) = sIds p (s4, 0) := by unfold sParts; rw [sNum_ok hp]
  rw [hsp]
  by_cases q7 : s4.length < 8 * p
  · rw [if_pos q7]
    have k := sIds_err q7
    have z : (sIds p (s4, 0)).2.2 ≠ 0 := by rw [k]; decide
    simp only [sTxt_stay z]
    exact ⟨fun h => absurd h (by decide), fun _ => k⟩
  rw [if_neg q7, sIds_ok (by omega)]
  simp only
  rcases hk : Nm.getT (s4.drop (8 * p)) with ⟨k, kk, ek⟩
  simp only
  by_cases q8 : ek ≠ 0
  · rw [if_pos q8]
    have k := sTxt_err hk q8
    exact ⟨fun h => absurd h q8, fun _ => by rw [k]⟩
  obtain rfl := Decidable.not_not.mp q8
  rw [if_neg q8, sTxt_ok hk]
  exact ⟨fun _ => rfl, fun h => absurd rfl h⟩

theorem sAll_rd (s : Bs) (m : Nat) : ∀ j, j ≤ m → ((sAll j (s, 0)).2.2 = 0 → rdAll m s [] = rdAll (m - j) (sAll j (s, 0)).2.1 (sAll j (s, 0)).1) ∧ ((sAll j (s, 0)).2.2 ≠ 0 → rdAll m s [] = ([], (sAll j (s, 0)).2.2))
  | 0, _ => ⟨fun _ => rfl, fun h => absurd rfl h⟩
  | j + 1, hj => by
    obtain ⟨i1, i2⟩ := sAll_rd s m j (by omega)
    have e2 : (sAll (j + 1) (s, 0)).2 = (sNode (sAll j (s, 0)).2).2 := rfl
    have e1 : (sAll (j + 1) (s, 0)).1 = (sAll j (s, 0)).1 ++ [(sNode (sAll j (s, 0)).2).1] := rfl
    rw [e2, e1]
    generalize sAll j (s, 0) = A at *
    obtain ⟨L, r, e⟩ := A
    simp only at i1 i2 ⊢
    by_cases he : e ≠ 0
    · rw [sNode_stay (x := (r, e)) he]
      exact ⟨fun h => absurd h he, fun _ => i2 he⟩
    obtain rfl := Decidable.not_not.mp he
    rw [i1 rfl, show m - j = (m - (j + 1)) + 1 from by omega, rdAll]
    obtain ⟨n1, n2⟩ := sNode_rd r
    by_cases h1 : (rdOne r).2.2 = 0
    · rw [n1 h1]
      simp only
      rw [if_neg (fun k => k h1)]
      exact ⟨fun _ => rfl, fun h => absurd rfl h⟩
    · rw [n2 h1]
      exact ⟨fun h => absurd h h1, fun _ => by rw [if_pos h1]⟩

/-- what Read says, by such a reader -/
theorem read_st {s : Bs} (h : ¬ 4096 < s.length) {L : List Nd} {r : Bs} {e : Int} (hA : sAll (sNum 64 (s, 0)).1 (sNum 64 (s, 0)).2 = (L, (r, e))) :
    read s = if e ≠ 0 then ([], e) else if r ≠ [] then ([], 4) else if check L ≠ 0 then ([], check L) else (L, 0) := by
  unfold read
  rw [if_neg h]
  rcases hg : num 64 s with ⟨n, k, eg⟩
  simp only
  by_cases hq : eg ≠ 0
  · rw [if_pos hq]
    have z := sNum_err hg hq
    have y := sAll_stay (x := (sNum 64 (s, 0)).2) (by rw [z]; exact hq) (sNum 64 (s, 0)).1
    rw [hA, z] at y
    obtain rfl : e = eg := congrArg (fun q => q.2) y
    rw [if_pos hq]
  · rw [if_neg hq]
    obtain rfl := Decidable.not_not.mp hq
    rw [sNum_ok hg] at hA
    obtain ⟨a1, a2⟩ := sAll_rd k n n (Nat.le_refl _)
    simp only at hA
    rw [hA] at a1 a2
    simp only at a1 a2
    by_cases he : e ≠ 0
    · rw [if_pos he, a2 he]
    · rw [if_neg he, a1 (Decidable.not_not.mp he), Nat.sub_self, rdAll]

/-! bounds -/
theorem tk_len (k : Nat) (e : Int) (x : St) : (tk k e x).2.1.length ≤ x.1.length := by
  unfold tk; split
  · exact Nat.le_refl _
  · split
    · exact Nat.le_refl _
    · simp

theorem tk_true {k : Nat} {e : Int} {x : St} (h : (tk k e x).1 = true) : x.2 = 0 ∧ e = 0 := by
  unfold tk at h
  split at h
  · cases h
  · rename_i q
    split at h
    · cases h
    · rename_i q2
      exact ⟨Decidable.not_not.mp q, Decidable.not_not.mp q2⟩

theorem sNum_most (m : Nat) (x : St) : (sNum m x).1 ≤ m := by
  unfold sNum
  simp only
  split
  · rename_i h
    have := (tk_true h).2
    unfold nuE at this
    split at this
    · cases this
    · rename_i q
      by_cases h2 : m < (Nm.getN x.1).1
      · exact absurd ⟨this, h2⟩ q
      · omega
  · exact Nat.zero_le _

theorem sNum_len (m : Nat) (x : St) : (sNum m x).2.1.length ≤ x.1.length := tk_len _ _ _

theorem sInt_len (x : St) : (sInt x).2.1.length ≤ x.1.length := tk_len _ _ _

theorem sTxt_len (x : St) : (sTxt x).2.1.length ≤ x.1.length := tk_len _ _ _

theorem sByt_len (k : Nat) (x : St) : (sByt k x).2.1.length ≤ x.1.length := tk_len _ _ _

theorem sKind_len (x : St) : (sKind x).2.1.length ≤ x.1.length := tk_len _ _ _

theorem sIds_len (x : St) : ∀ j, (sIds j x).2.1.length ≤ x.1.length
  | 0 => Nat.le_refl _
  | j + 1 => Nat.le_trans (sByt_len 8 _) (sIds_len x j)

theorem sParts_len (x : St) : (sParts x).2.1.length ≤ x.1.length := Nat.le_trans (sIds_len _ _) (sNum_len _ _)

theorem sInt_bd (x : St) : -9223372036854775808 ≤ (sInt x).1 ∧ (sInt x).1 ≤ 9223372036854775807 := by
  unfold sInt
  simp only
  split
  · rename_i h
    rcases hg : Nm.getI x.1 with ⟨i, k, e⟩
    rw [hg] at h
    have he := (tk_true h).2
    simp only at he
    subst he
    obtain ⟨_, a, b, _⟩ := Nm.getI_one hg
    exact ⟨a, b⟩
  · exact ⟨by decide, by decide⟩

theorem sTxt_bd (x : St) : (sTxt x).1.length ≤ 1024 := by
  unfold sTxt
  simp only
  split
  · rename_i h
    rcases hg : Nm.getT x.1 with ⟨t, k, e⟩
    rw [hg] at h
    have he := (tk_true h).2
    simp only at he
    subst he
    exact (Nm.getT_one hg).2.1
  · simp

theorem sByt_bd (k : Nat) (x : St) : (sByt k x).1.length ≤ k := by
  unfold sByt
  simp only
  split
  · rw [List.length_take]; omega
  · simp

theorem eight_len {s : Bs} (h : s.length ≤ 8) : (eight s).length = 8 := by unfold eight; rw [List.length_append, List.length_replicate]; omega

theorem sIds_bd (x : St) : ∀ j, (sIds j x).1.length = j ∧ ∀ p ∈ (sIds j x).1, p.length = 8
  | 0 => ⟨rfl, fun p h => absurd h List.not_mem_nil⟩
  | j + 1 => by
    obtain ⟨a, b⟩ := sIds_bd x j
    refine ⟨by show ((sIds j x).1 ++ [_]).length = _; rw [List.length_append, a]; rfl, fun p hp => ?_⟩
    rcases List.mem_append.1 (show p ∈ (sIds j x).1 ++ [eight (sByt 8 (sIds j x).2).1] from hp) with h | h
    · exact b p h
    · rw [List.mem_singleton.1 h]; exact eight_len (sByt_bd _ _)

theorem sParts_bd (x : St) : (sParts x).1.length ≤ 300 ∧ ∀ p ∈ (sParts x).1, p.length = 8 := by
  obtain ⟨a, b⟩ := sIds_bd (sNum 300 x).2 (sNum 300 x).1
  exact ⟨by show (sIds _ _).1.length ≤ _; rw [a]; exact sNum_most _ _, b⟩

theorem sKind_bd (x : St) : (sKind x).1 ≤ 255 := by
  unfold sKind
  simp only
  have := ((sByt 1 x).1.headD 0).toNat_lt
  omega

theorem sNode_len (x : St) : (sNode x).2.1.length ≤ x.1.length := by
  unfold sNode
  simp only
  exact Nat.le_trans (sTxt_len _) (Nat.le_trans (sParts_len _) (Nat.le_trans (sNum_len _ _) (Nat.le_trans (sInt_len _) (Nat.le_trans (sNum_len _ _) (Nat.le_trans (sKind_len _) (sTxt_len _))))))

theorem sAll_len (x : St) : ∀ j, (sAll j x).2.1.length ≤ x.1.length ∧ (sAll j x).1.length = j
  | 0 => ⟨Nat.le_refl _, rfl⟩
  | j + 1 => by
    obtain ⟨a, b⟩ := sAll_len x j
    refine ⟨Nat.le_trans (sNode_len _) a, ?_⟩
    show ((sAll j x).1 ++ [_]).length = _
    rw [List.length_append, b]
    rfl

end Td

end Go.Proofs.YtimdioacmojkeaaGreatDoor

namespace Go.Proofs.YtimdioacmojkeaaGreatDoor
open Go.RowKit

/-- where the first node of that name stands, or -1 -/
def ixOf (l : List Td.Nd) (s : List UInt8) : Int := match l.findIdx? (fun n => n.name == s) with
  | none => -1
  | some k => k

theorem ixOf_le (l : List Td.Nd) (s : List UInt8) {n : Nat} (h : l.length ≤ n) : ixOf l s ≤ n := by
  unfold ixOf
  cases hk : l.findIdx? fun n => n.name == s with
  | none => show (-1 : Int) ≤ n; omega
  | some k =>
    have := (List.findIdx?_eq_some_iff_getElem.1 hk).1
    show (k : Int) ≤ n
    omega

theorem findIdx_none {l : List Td.Nd} {s : List UInt8} (h : ∀ n ∈ l, (n.name == s) = false) : ixOf l s = -1 := by
  unfold ixOf
  rw [List.findIdx?_eq_none_iff.2 h]

theorem findIdx_at {l : List Td.Nd} {s : List UInt8} {k : Nat} (hk : k < l.length) (h : ∀ j (hj : j < k), (l[j].name == s) = false) (hs : (l[k].name == s) = true) : ixOf l s = k := by
  unfold ixOf
  rw [List.findIdx?_eq_some_iff_getElem.2 ⟨hk, hs, fun j hj => by rw [h j hj]; simp⟩]
end Go.Proofs.YtimdioacmojkeaaGreatDoor

namespace Go.Proofs
open Go.Shelf
def Tryz.laysValid_ren : Go.Shelf.Ren := ⟨fun | 196 => 132 | 259 => 153 | n => n, fun | 9 => 9 | 4 => 4 | 3 => 3 | 5 => 5 | 12 => 12 | 119 => 190 | 0 => 0 | 46 => 111 | 139 => 193 | 138 => 192 | 53 => 109 | n => n, fun | 3 => 1 | 4 => 2 | n => n⟩
theorem Tryz.laysValid : Go.Proofs.Lays.n196 Tryz.prog Tryz.laysValid_ren := {
  mixed := by kernel_rfl
  f196 := Tryz.func132.trans (congrArg some (by kernel_rfl))
  f259 := Tryz.func153.trans (congrArg some (by kernel_rfl))
  t0 := Tryz.underlying0
  a0 := Tryz.isAgg0
  z0 := Tryz.sizeOf0
  v0 := Tryz.zeroValue0
  t3 := Tryz.underlying3
  a3 := Tryz.isAgg3
  z3 := Tryz.sizeOf3
  v3 := Tryz.zeroValue3
  t4 := Tryz.underlying4
  a4 := Tryz.isAgg4
  z4 := Tryz.sizeOf4
  v4 := Tryz.zeroValue4
  t5 := Tryz.underlying5
  a5 := Tryz.isAgg5
  z5 := Tryz.sizeOf5
  v5 := Tryz.zeroValue5
  t9 := Tryz.underlying9
  a9 := Tryz.isAgg9
  z9 := Tryz.sizeOf9
  v9 := Tryz.zeroValue9
  t12 := Tryz.underlying12
  a12 := Tryz.isAgg12
  z12 := Tryz.sizeOf12
  v12 := Tryz.zeroValue12
  t46 := Tryz.underlying111
  a46 := Tryz.isAgg111
  z46 := Tryz.sizeOf111
  v46 := Tryz.zeroValue111
  t53 := Tryz.underlying109
  a53 := Tryz.isAgg109
  z53 := Tryz.sizeOf109
  v53 := Tryz.zeroValue109
  t119 := Tryz.underlying190
  a119 := Tryz.isAgg190
  z119 := Tryz.sizeOf190
  t138 := Tryz.underlying192
  a138 := Tryz.isAgg192
  z138 := Tryz.sizeOf192
  v138 := Tryz.zeroValue192
  t139 := Tryz.underlying193
  a139 := Tryz.isAgg193
  z139 := Tryz.sizeOf193
  v139 := Tryz.zeroValue193
  g3 := by kernel_rfl
  g4 := by kernel_rfl }
end Go.Proofs

namespace Go.Proofs.YtimdioacmojkeaaGreatDoor
open Go.RowKit

theorem valid_any (s : ByteArray) (w : World) (hs : s.size ≤ 9223372036854775807) (hT : Tabs w) :
    Calls Tryz.prog 132 #[.string s] w fun e w' => e = .returned (.bool (Lib.validD s.data.toList)) ∧ Below w.heap.size w w' :=
  Any.utf8_ValidString Tryz.laysValid s w hs hT
theorem check_any (s : ByteArray) (w : World) (hs : s.size ≤ 9223372036854775807) (hT : Tabs w) :
    Calls Tryz.prog 103 #[.string s] w fun e w' => e = .returned (.int .i64 (Nn.nm s.data.toList)) ∧ Below w.heap.size w w' :=
  check_of s w hs (valid_any s w hs hT)
end Go.Proofs.YtimdioacmojkeaaGreatDoor

namespace Go.Proofs.YtimdioacmojkeaaGreatDoor
open Go.RowKit
set_option maxRecDepth 4000

/-- a node that is not as its kind asks -/
def Td.Bad (n : Td.Nd) : Prop := (n.kind = 1 ∧ n.link ≠ []) ∨ (1 < n.kind ∧ n.size ≠ 0) ∨ (n.kind = 2 ∧ (n.parts.length ≠ 1 ∨ n.link ≠ [])) ∨ (n.kind = 3 ∧ (n.parts.length ≠ 0 ∨ n.link = []))

theorem upto_any (n m : Int) (b : Bool) (w : World) (hb : decide (0 ≤ n ∧ n ≤ m) = b) : Calls Tryz.prog 119 #[.int .i64 n, .int .i64 m] w fun e w' => e = .returned (.bool b) ∧ w' = w := by
  by_cases h0 : 0 ≤ n
  · by_cases h1 : n ≤ m
    · obtain rfl : b = true := by rw [← hb]; exact decide_eq_true ⟨h0, h1⟩
      clear hb
      go_enter Tryz.func119, Tryz.ntmps119
      go_wp2_with fail
      go_ret
      exact ⟨rfl, rfl⟩
    · obtain rfl : b = false := by rw [← hb]; exact decide_eq_false (fun q => h1 q.2)
      clear hb
      go_enter Tryz.func119, Tryz.ntmps119
      go_wp2_with fail
      go_ret
      exact ⟨rfl, rfl⟩
  · obtain rfl : b = false := by rw [← hb]; exact decide_eq_false (fun q => h0 q.1)
    clear hb
    go_enter Tryz.func119, Tryz.ntmps119
    go_wp2_with fail
    go_ret
    exact ⟨rfl, rfl⟩

theorem iskind_any (n : Int) (b : Bool) (w : World) (hb : decide (1 ≤ n ∧ n ≤ 3) = b) : Calls Tryz.prog 120 #[.int .i64 n] w fun e w' => e = .returned (.bool b) ∧ w' = w := by
  subst hb
  by_cases h1 : n = 1
  · subst h1
    go_enter Tryz.func120, Tryz.ntmps120
    go_wp2_with fail
    go_ret
    exact ⟨by simp, rfl⟩
  by_cases h2 : n = 2
  · subst h2
    go_enter Tryz.func120, Tryz.ntmps120
    go_wp2_with fail
    go_ret
    exact ⟨by simp, rfl⟩
  by_cases h3 : n = 3
  · subst h3
    go_enter Tryz.func120, Tryz.ntmps120
    go_wp2_with fail
    go_ret
    exact ⟨by simp, rfl⟩
  have q1 : (n == 1) = false := beq_eq_false_iff_ne.2 h1
  have q2 : (n == 2) = false := beq_eq_false_iff_ne.2 h2
  have q3 : (n == 3) = false := beq_eq_false_iff_ne.2 h3
  have hr : decide (1 ≤ n ∧ n ≤ 3) = false := decide_eq_false (by omega)
  rw [hr]
  clear hr h1 h2 h3
  go_enter Tryz.func120, Tryz.ntmps120
  go_wp2_with fail
  go_ret
  exact ⟨by simp, rfl⟩

set_option maxHeartbeats 2000000 in
set_option maxRecDepth 10000 in
theorem asks_any (n : Nod) (a : Option Addr) (c : Nat) (b : Bool) (w : World) (hk : n.kind = 1 ∨ n.kind = 2 ∨ n.kind = 3) (hb : b = true ↔ ¬ Td.Bad n.nd) :
    Calls Tryz.prog 121 #[ndV n (.slice a n.parts.length c)] w fun e w' => e = .returned (.bool b) ∧ Below w.heap.size w w' := by
  unfold Td.Bad at hb
  have HBd : Hid (b = true ↔ ¬ ((n.kind = 1 ∧ n.link.data.toList ≠ []) ∨ (1 < n.kind ∧ n.size ≠ 0) ∨ (n.kind = 2 ∧ (n.parts.length ≠ 1 ∨ n.link.data.toList ≠ [])) ∨ (n.kind = 3 ∧ (n.parts.length ≠ 0 ∨ n.link.data.toList = [])))) := hb
  have HF : ∀ {P : Prop}, (b = true ↔ ¬ P) → P → b = false := fun h p => by cases b with | false => rfl | true => exact absurd p (h.1 rfl)
  obtain ⟨W1, hW1⟩ : ∃ W1, W1 = w.alloc (.cells (ndC n (.slice a n.parts.length c)).toArray 89) := ⟨_, rfl⟩
  have HB : Hid (Below w.heap.size w W1) := by rw [hW1]; exact (Below.refl _ w).alloc (Nat.le_refl _) _
  have HM1 : Hid (W1.heap[w.heap.size]? = some (.cells (ndC n (.slice a n.parts.length c)).toArray 89 (0, 0))) := by rw [hW1]; exact heap_alloc_new w _
  clear hb
  generalize n.parts.length = P at *
  obtain ⟨name, kind, mode, time, size, parts, link⟩ := n
  dsimp only at *
  go_enter Tryz.func121, Tryz.ntmps121
  go_upto_region 1 with fail
  rw [← hW1]
  obtain ⟨m0, m1, m2, m3, m4, m5, m6⟩ := seven_at HM1.out
  clear hW1 HM1 m0 m2 m3
  obtain ⟨bk, hbk⟩ : ∃ bk, bk = w.heap.size := ⟨_, rfl⟩
  rw [← hbk] at m1 m4 m5 m6 ⊢
  clear hbk
  obtain rfl | rfl | rfl : kind = 1 ∨ kind = 2 ∨ kind = 3 := by omega
  · by_cases hl : link.data.toList = []
    · obtain rfl := of_data hl
      have HR : Hid (b = true) := HBd.out.2 (by simp)
      clear HBd HF
      go_wp2_with fail
      go_ret
      exact ⟨by rw [HR.out]; rfl, HB.out⟩
    · have e1 : (link.toList == []) = false := data_ne hl
      have HR : Hid (b = false) := HF HBd.out (.inl ⟨rfl, hl⟩)
      clear HBd HF
      go_wp2_with fail
      go_ret
      exact ⟨by rw [HR.out]; rfl, HB.out⟩
  · by_cases hz : size = 0
    · subst hz
      by_cases hp : P = 1
      · subst hp
        by_cases hl : link.data.toList = []
        · obtain rfl := of_data hl
          have HR : Hid (b = true) := HBd.out.2 (by simp)
          clear HBd HF
          go_wp2_with fail
          go_ret
          exact ⟨by rw [HR.out]; rfl, HB.out⟩
        · have e1 : (link.toList == []) = false := data_ne hl
          have HR : Hid (b = false) := HF HBd.out (.inr (.inr (.inl ⟨rfl, .inr hl⟩)))
          clear HBd HF
          go_wp2_with fail
          go_ret
          exact ⟨by rw [HR.out]; rfl, HB.out⟩
      · have gp : ((P : Int) == 1) = false := by rw [beq_eq_false_iff_ne]; omega
        have HR : Hid (b = false) := HF HBd.out (.inr (.inr (.inl ⟨rfl, .inl hp⟩)))
        clear HBd HF hp
        go_wp2_with fail
        go_ret
        exact ⟨by rw [HR.out]; rfl, HB.out⟩
    · have gz : (size == 0) = false := by rw [beq_eq_false_iff_ne]; exact hz
      have HR : Hid (b = false) := HF HBd.out (.inr (.inl ⟨by omega, hz⟩))
      clear HBd HF hz
      go_wp2_with fail
      go_ret
      exact ⟨by rw [HR.out]; rfl, HB.out⟩
  · by_cases hz : size = 0
    · subst hz
      by_cases hp : P = 0
      · subst hp
        by_cases hl : link.data.toList = []
        · obtain rfl := of_data hl
          have HR : Hid (b = false) := HF HBd.out (.inr (.inr (.inr ⟨rfl, .inr hl⟩)))
          clear HBd HF
          go_wp2_with fail
          go_ret
          exact ⟨by rw [HR.out]; rfl, HB.out⟩
        · have e1 : (link.toList == []) = false := data_ne hl
          have HR : Hid (b = true) := HBd.out.2 (by simp [hl])
          clear HBd HF
          go_wp2_with fail
          go_ret
          exact ⟨by rw [HR.out]; rfl, HB.out⟩
      · have gp : ((P : Int) == 0) = false := by rw [beq_eq_false_iff_ne]; omega
        have HR : Hid (b = false) := HF HBd.out (.inr (.inr (.inr ⟨rfl, .inl hp⟩)))
        clear HBd HF hp
        go_wp2_with fail
        go_ret
        exact ⟨by rw [HR.out]; rfl, HB.out⟩
    · have gz : (size == 0) = false := by rw [beq_eq_false_iff_ne]; exact hz
      have HR : Hid (b = false) := HF HBd.out (.inr (.inl ⟨by omega, hz⟩))
      clear HBd HF hz
      go_wp2_with fail
      go_ret
      exact ⟨by rw [HR.out]; rfl, HB.out⟩

set_option maxHeartbeats 2000000 in
set_option maxRecDepth 10000 in
theorem cnode_any (n : Nod) (a : Option Addr) (c : Nat) (w : World) (hn : n.name.size ≤ 9223372036854775807) (hl : n.link.size ≤ 9223372036854775807) (hT : Tabs w) :
    Calls Tryz.prog 88 #[ndV n (.slice a n.parts.length c)] w fun e w' => e = .returned (.int .i64 (Td.nErr n.nd)) ∧ Below w.heap.size w w' := by
  have HT : Hid (Td.nErr n.nd = if Nn.nm n.name.data.toList ≠ 0 then Nn.nm n.name.data.toList
    else if n.mode < 0 ∨ 511 < n.mode ∨ n.size < 0 ∨ 4096 < n.size ∨ 300 < n.parts.length then 1
    else if n.kind < 1 ∨ 3 < n.kind then 5
    else if (n.kind = 1 ∧ n.link.data.toList ≠ []) ∨ (1 < n.kind ∧ n.size ≠ 0) ∨ (n.kind = 2 ∧ (n.parts.length ≠ 1 ∨ n.link.data.toList ≠ [])) ∨ (n.kind = 3 ∧ (n.parts.length ≠ 0 ∨ n.link.data.toList = [])) then 4
    else if 1024 < n.link.data.toList.length then 2 else 0) := rfl
  obtain ⟨W1, hW1⟩ : ∃ W1, W1 = w.alloc (.cells (ndC n (.slice a n.parts.length c)).toArray 89) := ⟨_, rfl⟩
  have HB1 : Hid (Below w.heap.size w W1) := by rw [hW1]; exact (Below.refl _ w).alloc (Nat.le_refl _) _
  have HM1 : Hid (W1.heap[w.heap.size]? = some (.cells (ndC n (.slice a n.parts.length c)).toArray 89 (0, 0))) := by rw [hW1]; exact heap_alloc_new w _
  have hr := check_any n.name W1 hn (hT.below HB1.out)
  have HAs : Hid (∀ b W, (n.kind = 1 ∨ n.kind = 2 ∨ n.kind = 3) → (b = true ↔ ¬ Td.Bad n.nd) → Calls Tryz.prog 121 #[ndV n (.slice a n.parts.length c)] W fun e w' => e = .returned (.bool b) ∧ Below W.heap.size W w') := fun b W => asks_any n a c b W
  have HBd : Hid (Td.Bad n.nd ↔ ((n.kind = 1 ∧ n.link.data.toList ≠ []) ∨ (1 < n.kind ∧ n.size ≠ 0) ∨ (n.kind = 2 ∧ (n.parts.length ≠ 1 ∨ n.link.data.toList ≠ [])) ∨ (n.kind = 3 ∧ (n.parts.length ≠ 0 ∨ n.link.data.toList = [])))) := Iff.rfl
  generalize Td.nErr n.nd = R at *
  generalize Td.Bad n.nd = BAD at *
  generalize Nn.nm n.name.data.toList = E at *
  generalize n.parts.length = P at *
  obtain ⟨name, kind, mode, time, size, parts, link⟩ := n
  dsimp only at *
  clear hT
  go_enter Tryz.func88, Tryz.ntmps88
  go_upto_region 1 with fail
  rw [← hW1]
  obtain ⟨m0, _⟩ := seven_at HM1.out
  clear hW1
  go_wp2_with fail
  refine hr.mono ?_
  rintro e w2 ⟨rfl, b2⟩
  have HB : Hid (Below w.heap.size w w2) := HB1.out.trans (b2.mono HB1.out.size)
  obtain ⟨m0, m1, m2, m3, m4, m5, m6⟩ := seven_at ((b2.block _ (Array.getElem?_eq_some_iff.1 HM1.out).1).trans HM1.out)
  have HM2 : Hid (w2.heap[w.heap.size]? = some (.cells #[.string name, .int .i64 kind, .int .i64 mode, .int .i64 time, .int .i64 size, .slice a P c, .string link] 89 (0, 0))) := (b2.block _ (Array.getElem?_eq_some_iff.1 HM1.out).1).trans HM1.out
  clear HB1 HM1 hr b2 hn
  obtain ⟨bk, hbk⟩ : ∃ bk, bk = w.heap.size := ⟨_, rfl⟩
  rw [← hbk] at HM2 m0 m1 m2 m3 m4 m5 m6 ⊢
  clear hbk
  by_cases hE : ¬ E = 0
  · have hqn : (E != 0) = true := by rw [bne_iff_ne]; exact hE
    have HR : Hid (R = E) := by
      have := HT.out
      rwa [if_pos hE] at this
    clear HT HAs HBd
    go_wp2_with fail
    go_ret
    exact ⟨by rw [HR.out]; rfl, HB.out⟩
  obtain rfl := Decidable.not_not.mp hE
  clear hE
  rw [if_neg (by simp)] at HT
  by_cases h1 : ¬ (0 ≤ mode ∧ mode ≤ 511)
  · have HR : Hid (R = 1) := by
      have := HT.out
      rwa [if_pos (by omega)] at this
    have k1 : decide (0 ≤ mode ∧ mode ≤ 511) = false := decide_eq_false h1
    clear HT HAs HBd h1
    go_wp2_with (go_at_call 119; refine (upto_any mode 511 false _ k1).mono ?_; rintro e w3 ⟨rfl, rfl⟩)
    go_ret
    exact ⟨by rw [HR.out]; rfl, HB.out⟩
  replace h1 := Decidable.not_not.mp h1
  have k1 : decide (0 ≤ mode ∧ mode ≤ 511) = true := decide_eq_true h1
  by_cases h2 : ¬ (0 ≤ size ∧ size ≤ 4096)
  · have HR : Hid (R = 1) := by
      have := HT.out
      rwa [if_pos (by omega)] at this
    have k2 : decide (0 ≤ size ∧ size ≤ 4096) = false := decide_eq_false h2
    clear HT HAs HBd h1 h2
    go_wp2_with (first | (go_at_call 119; with_reducible refine (upto_any mode 511 true _ k1).mono ?_; rintro e w3 ⟨rfl, hw⟩; obtain rfl := hw.symm) | (go_at_call 119; with_reducible refine (upto_any size 4096 false _ k2).mono ?_; rintro e w3 ⟨rfl, hw⟩; obtain rfl := hw.symm))
    go_ret
    exact ⟨by rw [HR.out]; rfl, HB.out⟩
  replace h2 := Decidable.not_not.mp h2
  have k2 : decide (0 ≤ size ∧ size ≤ 4096) = true := decide_eq_true h2
  by_cases h5 : 300 < P
  · have g5 : (300 : Int) < (P : Int) := by omega
    have HR : Hid (R = 1) := by
      have := HT.out
      rwa [if_pos (by omega)] at this
    clear HT HAs HBd h1 h2
    go_wp2_with (first | (go_at_call 119; with_reducible refine (upto_any mode 511 true _ k1).mono ?_; rintro e w3 ⟨rfl, hw⟩; obtain rfl := hw.symm) | (go_at_call 119; with_reducible refine (upto_any size 4096 true _ k2).mono ?_; rintro e w3 ⟨rfl, hw⟩; obtain rfl := hw.symm))
    go_ret
    exact ⟨by rw [HR.out]; rfl, HB.out⟩
  have g5 : ¬ (300 : Int) < (P : Int) := by omega
  rw [if_neg (by omega)] at HT
  by_cases h3 : ¬ (1 ≤ kind ∧ kind ≤ 3)
  · have HR : Hid (R = 5) := by
      have := HT.out
      rwa [if_pos (by omega)] at this
    have k3 : decide (1 ≤ kind ∧ kind ≤ 3) = false := decide_eq_false h3
    clear HT HAs HBd h1 h2 h3
    go_wp2_with (first | (go_at_call 119; with_reducible refine (upto_any mode 511 true _ k1).mono ?_; rintro e w3 ⟨rfl, hw⟩; obtain rfl := hw.symm) | (go_at_call 119; with_reducible refine (upto_any size 4096 true _ k2).mono ?_; rintro e w3 ⟨rfl, hw⟩; obtain rfl := hw.symm) | (go_at_call 120; refine (iskind_any kind false _ k3).mono ?_; rintro e w3 ⟨rfl, hw⟩; obtain rfl := hw.symm))
    go_ret
    exact ⟨by rw [HR.out]; rfl, HB.out⟩
  replace h3 := Decidable.not_not.mp h3
  have k3 : decide (1 ≤ kind ∧ kind ≤ 3) = true := decide_eq_true h3
  rw [if_neg (by omega)] at HT
  have hk : kind = 1 ∨ kind = 2 ∨ kind = 3 := by omega
  by_cases hb : BAD
  · have HR : Hid (R = 4) := by
      have := HT.out
      rwa [if_pos (HBd.out.1 hb)] at this
    have has := HAs.out false w2 hk (by simp [hb])
    clear HT HAs HBd h1 h2 h3 hk
    go_wp2_with (first | (go_at_call 119; with_reducible refine (upto_any mode 511 true _ k1).mono ?_; rintro e w3 ⟨rfl, hw⟩; obtain rfl := hw.symm) | (go_at_call 119; with_reducible refine (upto_any size 4096 true _ k2).mono ?_; rintro e w3 ⟨rfl, hw⟩; obtain rfl := hw.symm) | (go_at_call 120; refine (iskind_any kind true _ k3).mono ?_; rintro e w3 ⟨rfl, hw⟩; obtain rfl := hw.symm))
    refine has.mono ?_
    rintro e w4 ⟨rfl, b4⟩
    have HB4 : Hid (Below w.heap.size w w4) := HB.out.trans (b4.mono HB.out.size)
    clear has b4
    go_wp2_with fail
    go_ret
    exact ⟨by rw [HR.out]; rfl, HB4.out⟩
  · have HR : Hid (R = if 1024 < link.size then 2 else 0) := by
      have := HT.out
      rwa [if_neg (fun q => hb (HBd.out.2 q)), ← Lib.size_eq] at this
    have has := HAs.out true w2 hk (by simp [hb])
    clear HT HAs HBd h1 h2 h3 hk
    go_wp2_with (first | (go_at_call 119; with_reducible refine (upto_any mode 511 true _ k1).mono ?_; rintro e w3 ⟨rfl, hw⟩; obtain rfl := hw.symm) | (go_at_call 119; with_reducible refine (upto_any size 4096 true _ k2).mono ?_; rintro e w3 ⟨rfl, hw⟩; obtain rfl := hw.symm) | (go_at_call 120; refine (iskind_any kind true _ k3).mono ?_; rintro e w3 ⟨rfl, hw⟩; obtain rfl := hw.symm))
    refine has.mono ?_
    rintro e w4 ⟨rfl, b4⟩
    have HB4 : Hid (Below w.heap.size w w4) := HB.out.trans (b4.mono HB.out.size)
    obtain ⟨_, _, _, _, _, _, n6⟩ := seven_at ((b4.block _ (Array.getElem?_eq_some_iff.1 HM2.out).1).trans HM2.out)
    clear has b4 m0 m1 m2 m3 m4 m5 m6 HM2
    by_cases hL : 1024 < link.size
    · have gL : (1024 : Int) < (link.size : Int) := by omega
      rw [if_pos hL] at HR
      go_wp2_with fail
      go_ret
      exact ⟨by rw [HR.out]; rfl, HB4.out⟩
    · have gL : ¬ (1024 : Int) < (link.size : Int) := by omega
      rw [if_neg hL] at HR
      go_wp2_with fail
      go_ret
      exact ⟨by rw [HR.out]; rfl, HB4.out⟩

theorem tg_irr : ∀ x : List UInt8, Op.bytesLess x x = false
  | [] => rfl
  | a :: x => by rw [Op.bytesLess, tg_irr x]; simp

theorem tg_tri : ∀ x y : List UInt8, Op.bytesLess x y = true → Op.bytesLess y x = false
  | [], [], _ => rfl
  | [], _ :: _, _ => rfl
  | _ :: _, [], h => by cases h
  | a :: x, b :: y, h => by
    rw [Op.bytesLess, Bool.or_eq_true, Bool.and_eq_true] at h
    rw [Op.bytesLess]
    rcases h with h | ⟨h1, h2⟩
    · have q : a < b := of_decide_eq_true h
      have q1 : a.toNat < b.toNat := q
      have q2 : ¬ b < a := fun k => by have k1 : b.toNat < a.toNat := k; omega
      have q3 : (b == a) = false := beq_eq_false_iff_ne.2 fun k => by rw [k] at q1; omega
      rw [q3, decide_eq_false q2]
      rfl
    · obtain rfl : a = b := eq_of_beq h1
      rw [tg_tri x y h2]
      simp

theorem tg_less {s t : ByteArray} (h : Op.bytesLess t.toList s.toList = true) : Op.bytesLess s.toList t.toList = false ∧ (s.toList == t.toList) = false :=
  ⟨tg_tri _ _ h, beq_eq_false_iff_ne.2 fun e => by rw [e, tg_irr] at h; cases h⟩

theorem tg_tot : ∀ x y : List UInt8, Op.bytesLess y x = false → x = y ∨ Op.bytesLess x y = true
  | [], [], _ => .inl rfl
  | [], _ :: _, _ => .inr rfl
  | _ :: _, [], h => by cases h
  | a :: x, b :: y, h => by
    rw [Op.bytesLess, Bool.or_eq_false_iff, Bool.and_eq_false_iff] at h
    rw [Op.bytesLess]
    have q : ¬ b < a := of_decide_eq_false h.1
    by_cases e : a = b
    · subst e
      rcases h.2 with k | k
      · simp at k
      · rcases tg_tot x y k with e | e
        · exact .inl (by rw [e])
        · exact .inr (by rw [e]; simp)
    · refine .inr ?_
      have q1 : ¬ b.toNat < a.toNat := q
      have q2 : a.toNat ≠ b.toNat := fun k => e (UInt8.toNat_inj.1 k)
      have q3 : a < b := show a.toNat < b.toNat by omega
      rw [decide_eq_true q3]
      rfl

theorem tg_more {s t : ByteArray} (h : Op.bytesLess t.toList s.toList = false) : Op.bytesLess s.toList t.toList = true ∨ (Op.bytesLess s.toList t.toList = false ∧ (s.toList == t.toList) = true) := by
  rcases tg_tot _ _ h with e | e
  · exact .inr ⟨by rw [e, tg_irr], by rw [e]; simp⟩
  · exact .inl e

set_option maxHeartbeats 2000000 in
set_option maxRecDepth 10000 in
theorem tcheck_any (v : Value) (l : List Nod) (w : World) (h : Nds w v l) (hl : l.length ≤ 9223372036854775807) (hT : Tabs w) :
    Calls Tryz.prog 61 #[v] w fun e w' => e = .returned (.int .i64 (Td.check (nds l))) ∧ Below w.heap.size w w' := by
  obtain ⟨a, c, rfl⟩ := h.slice
  have HX : Hid (Nds w (.slice a l.length c) l) := h
  have HS0 : Hid (Tabs w) := hT
  have HT : Hid (Td.check (nds l) = if 64 < l.length then 2 else Td.ckB none (nds l)) := by show _ = _; rw [← nds_length l]; rfl
  generalize Td.check (nds l) = R at *
  obtain ⟨N, hN⟩ : ∃ N, N = l.length := ⟨_, rfl⟩
  have HN : Hid (N = l.length) := hN
  rw [← hN] at HX HT hl ⊢
  clear h hT hN
  by_cases h64 : 64 < N
  · have HR : Hid (R = 2) := by
      have := HT.out
      rwa [if_pos h64] at this
    have g : (64 : Int) < (N : Int) := by omega
    clear HT
    go_enter Tryz.func61, Tryz.ntmps61
    go_wp2_with fail
    go_ret
    exact ⟨by rw [HR.out]; rfl, Below.refl _ _⟩
  have HC : Hid (Td.ckB (prv l 0) (nds (l.drop 0)) = R) := by
    have := HT.out
    rw [if_neg h64] at this
    exact this.symm
  have g : ¬ (64 : Int) < (N : Int) := by omega
  clear HT
  go_enter Tryz.func61, Tryz.ntmps61
  go_wp2_with fail
  go_loopw [11] (fun x wr => ∃ k : Nat, k ≤ N ∧ x = .int .i64 k ∧ Hid (Td.ckB (prv l k) (nds (l.drop k)) = R) ∧ Hid (Below w.heap.size w wr)) (fun x _ => N - (intOf x).toNat)
  case atStart => exact ⟨0, by omega, rfl, HC, Below.refl _ _⟩
  case round =>
    clear HC
    obtain ⟨k, hk, rfl, HC, HB⟩ := hrel
    by_cases hlt : k < N
    · have hkl : k < l.length := by rw [← HN.out]; exact hlt
      obtain ⟨bk, o, cs, rfl, hbk, hcl, ⟨v, rfl, hPs, hok⟩, hcell⟩ := (HX.out.below HB.out).get k l[k] (List.getElem?_eq_getElem hkl)
      have hSt := HC.out
      rw [nds_drop l k hkl, Td.ckB_cons] at hSt
      have HSt : Hid ((if Td.nErr l[k].nd ≠ 0 then Td.nErr l[k].nd else if Td.low (prv l k) l[k].name.data.toList = true then 4 else Td.ckB (some l[k].name.data.toList) (nds (l.drop (k + 1)))) = R) := hSt
      have HP1 : Hid (prv l (k + 1) = some l[k].name.data.toList) := by show _ = _; rw [prv, List.getElem?_eq_getElem hkl]; rfl
      have HPk : Hid (∀ j, k = j + 1 → ∃ t : ByteArray, prv l k = some t.data.toList ∧ wr.cell? ⟨bk, o + j * 7, none⟩ = some (.string t)) := fun j hj => by
        subst hj
        obtain ⟨bk', o', cs', e', _, _, ⟨v', rfl, _⟩, hc'⟩ := (HX.out.below HB.out).get j l[j] (List.getElem?_eq_getElem (by omega))
        cases e'
        exact ⟨l[j].name, by rw [prv, List.getElem?_eq_getElem (by omega)]; rfl, hc' 0 _ rfl⟩
      obtain ⟨av, cv, rfl, _⟩ := hPs.slice
      obtain ⟨W1, hW1⟩ : ∃ W1, W1 = wr.alloc (.cells (ndC l[k] (.slice av l[k].parts.length cv)).toArray 89) := ⟨_, rfl⟩
      have hB1 : Below wr.heap.size wr W1 := by rw [hW1]; exact (Below.refl _ wr).alloc (Nat.le_refl _) _
      have HB1 : Hid (Below w.heap.size w W1) := HB.out.trans (hB1.mono HB.out.size)
      have HM1 : Hid (W1.heap[wr.heap.size]? = some (.cells (ndC l[k] (.slice av l[k].parts.length cv)).toArray 89 (0, 0))) := by rw [hW1]; exact heap_alloc_new wr _
      have hne := cnode_any l[k] av cv W1 hok.name hok.link (HS0.out.below HB1.out)
      have c0 : wr.cell? ⟨bk, o + k * 7, none⟩ = some (.string l[k].name) := hcell 0 _ rfl
      have c1 := hcell 1 _ rfl
      have c2 := hcell 2 _ rfl
      have c3 := hcell 3 _ rfl
      have c4 := hcell 4 _ rfl
      have c5 := hcell 5 _ rfl
      have c6 := hcell 6 _ rfl
      generalize Td.nErr l[k].nd = E at *
      generalize l[k] = n at *
      generalize n.parts.length = np at *
      clear hcell hPs hok hcl HC hSt
      obtain ⟨name, kind, mode, time, size, parts, link⟩ := n
      dsimp only at *
      go_upto_region 6 with fail
      rw [← hW1]
      obtain ⟨b7, hb7⟩ : ∃ b7, b7 = wr.heap.size := ⟨_, rfl⟩
      rw [← hb7] at HM1 ⊢
      obtain ⟨m0, m1, m2, m3, m4, m5, m6⟩ := seven_at HM1.out
      clear hW1 c0 c1 c2 c3 c4 c5 c6 hb7
      go_wp2_with fail
      refine hne.mono ?_
      rintro e w3 ⟨rfl, b3⟩
      have HB3 : Hid (Below w.heap.size w w3) := HB1.out.trans (b3.mono HB1.out.size)
      have HP3 : Hid (∀ j, k = j + 1 → ∃ t : ByteArray, prv l k = some t.data.toList ∧ w3.cell? ⟨bk, o + j * 7, none⟩ = some (.string t)) := fun j hj => by
        obtain ⟨t, p1, p2⟩ := HPk.out j hj
        exact ⟨t, p1, (Below.cell (hB1.trans (b3.mono hB1.size)) (p := ⟨bk, o + j * 7, none⟩) hbk).trans p2⟩
      obtain ⟨n0, _⟩ := seven_at ((b3.block _ (Array.getElem?_eq_some_iff.1 HM1.out).1).trans HM1.out)
      clear hne b3 m0 m1 m2 m3 m4 m5 m6 HPk HM1 hB1 HB1
      by_cases hE : E = 0
      · subst hE
        rw [if_neg (by simp)] at HSt
        go_wp2_with fail
        rcases Nat.eq_zero_or_pos k with hk0 | hk0
        · have hd : decide ((0 : Int) < (k : Int)) = false := decide_eq_false (by omega)
          have HS2 : Hid (Td.ckB (prv l (k + 1)) (nds (l.drop (k + 1))) = R) := by
            have := HSt.out
            rw [hk0, prv, Td.low, if_neg (by simp)] at this
            show _ = _
            rw [HP1.out, hk0]
            exact this
          clear HSt HP3 HP1
          go_quiet (fail)
          go_wp2_with fail
          go_roundw
          case measure => simp only [intOf]; omega
          case rel => exact ⟨k + 1, by omega, by go_num, HS2, below_drewN HB3.out _⟩
        · obtain ⟨j, rfl⟩ : ∃ j, k = j + 1 := ⟨k - 1, by omega⟩
          obtain ⟨t, p1, p2⟩ := HP3.out j rfl
          have hd : decide ((0 : Int) < ((j + 1 : Nat) : Int)) = true := decide_eq_true (by omega)
          have hj : j < N := by omega
          have HL : Hid ((if (!Op.bytesLess t.data.toList name.data.toList) = true then 4 else Td.ckB (prv l (j + 1 + 1)) (nds (l.drop (j + 1 + 1)))) = R) := by
            have := HSt.out
            rw [p1, Td.low] at this
            rw [HP1.out]
            exact this
          clear HSt HP3 HP1 p1
          rw [← Lib.toList_data, ← Lib.toList_data] at HL
          cases hbl : Op.bytesLess t.toList name.toList with
          | true =>
            obtain ⟨x1, x2⟩ := tg_less hbl
            have HS2 : Hid (Td.ckB (prv l (j + 1 + 1)) (nds (l.drop (j + 1 + 1))) = R) := by
              have := HL.out
              rwa [hbl, if_neg (by simp)] at this
            clear HL hbl
            go_quiet (fail)
            go_wp2_with fail
            go_roundw
            case measure => simp only [intOf]; omega
            case rel => exact ⟨j + 1 + 1, by omega, by go_num, HS2, below_drewN HB3.out _⟩
          | false =>
            have HR : Hid (R = 4) := by
              have := HL.out
              rw [hbl, if_pos (by rfl)] at this
              exact this.symm
            have hz := tg_more hbl
            clear HL hbl
            rcases hz with hz | ⟨x1, x2⟩
            · go_quiet (fail)
              go_wp2_with fail
              go_ret
              exact ⟨by rw [HR.out]; rfl, below_drewN HB3.out _⟩
            · go_quiet (fail)
              go_wp2_with fail
              go_ret
              exact ⟨by rw [HR.out]; rfl, below_drewN HB3.out _⟩
      · have hqn : (E != 0) = true := by rw [bne_iff_ne]; exact hE
        have HR : Hid (R = E) := by
          have := HSt.out
          rw [if_pos hE] at this
          exact this.symm
        clear HSt
        go_wp2_with fail
        go_ret
        exact ⟨by rw [HR.out]; rfl, HB3.out⟩
    · obtain rfl : k = N := by omega
      have HE : Hid (0 = R) := by
        have := HC.out
        rwa [List.drop_eq_nil_of_le (by rw [HN.out]; exact Nat.le_refl _)] at this
      clear HC
      go_wp2_with fail
      go_ret
      exact ⟨by rw [← HE.out]; rfl, HB.out⟩

theorem find_bad {l : List Td.Nd} {s : List UInt8} (h : Td.check l ≠ 0) : Td.find l s = (0, Td.check l) := by unfold Td.find; rw [if_pos h]

theorem find_ok {l : List Td.Nd} {s : List UInt8} (h : Td.check l = 0) : (ixOf l s = -1 ∧ Td.find l s = (0, 9)) ∨ ∃ k : Nat, ixOf l s = k ∧ Td.find l s = (k, 0) := by
  unfold Td.find ixOf
  rw [if_neg (fun q => q h)]
  cases l.findIdx? fun n => n.name == s with
  | none => exact .inl ⟨rfl, rfl⟩
  | some k => exact .inr ⟨k, rfl, rfl⟩
end Go.Proofs.YtimdioacmojkeaaGreatDoor

namespace Go.Proofs.YtimdioacmojkeaaGreatDoor
open Go.RowKit
set_option maxRecDepth 4000

theorem or_byte (m b : Nat) (hb : b < 256) : m * 256 ||| b = m * 256 + b := by
  have := Nat.two_pow_add_eq_or_of_lt (i := 8) (b := b) hb m
  rw [Nat.mul_comm m 256]
  exact this.symm
theorem join_step (m : Nat) (b : UInt8) (t : Int) (hm : m < 72057594037927936) (h0 : 0 ≤ t) (h1 : t ≤ 255) :
    bits .or .u64 (IntKind.u64.wrap ((m : Int) * 256)) (IntKind.u64.wrap (bits .xor .u8 (b.toNat : Int) t)) = ((256 * m + (b ^^^ UInt8.ofNat t.toNat).toNat : Nat) : Int) := by
  obtain ⟨T, rfl⟩ := Int.eq_ofNat_of_zero_le h0
  have hb := b.toNat_lt
  rw [u8_xor_nat _ _ (by omega) (by omega), Int.toNat_natCast, xor_u8 _ _ (by omega)]
  have hx := (b ^^^ UInt8.ofNat T).toNat_lt
  rw [wrap_u64 _ (by omega) (by omega), wrap_u64 _ (by omega) (by omega)]
  rw [show ((m : Int) * 256) = ((m * 256 : Nat) : Int) from by omega, u64_or_nat _ _ (by omega) (by omega), or_byte _ _ (by omega)]
  omega

set_option maxHeartbeats 400000 in
theorem digits_join (s : ByteArray) (t : Int) (w : World) (hl : s.size ≤ 8) (h0 : 0 ≤ t) (h1 : t ≤ 255) :
    Calls Tryz.prog 157 #[.string s, .int .u8 t] w fun e w' => e = .returned (.int .u64 (Nm.val (Nm.tn t.toNat s.data.toList))) ∧ w' = w := by
  go_enter Tryz.func157, Tryz.ntmps157
  go_wp2
  go_loop [5, 6] (fun n i => ∃ k : Nat, k ≤ s.size ∧ i = .int .i64 k ∧ n = .int .u64 (Nm.val (Nm.tn t.toNat (s.data.toList.take k)))) (fun _ i => s.size - (intOf i).toNat)
  case atStart => exact ⟨0, Nat.zero_le _, rfl, by simp [Nm.tn, Nm.val_nil]⟩
  case round =>
    obtain ⟨k, hk, rfl, rfl⟩ := hrel
    by_cases hlt : k < s.size
    · go_wp2
      go_round
      case rel =>
        refine ⟨k + 1, by omega, by go_num, int_eq ?_⟩
        have hv := Nm.val_lt (Nm.tn t.toNat (s.data.toList.take k))
        have hle : (Nm.tn t.toNat (s.data.toList.take k)).length ≤ 7 := by rw [Nm.tn_length]; have := List.length_take_le k s.data.toList; omega
        have hp : 256 ^ (Nm.tn t.toNat (s.data.toList.take k)).length ≤ 256 ^ 7 := Nat.pow_le_pow_right (by omega) hle
        rw [take_snoc s k hlt, Nm.tn_append, Nm.tn, Nm.tn, List.map_cons, List.map_nil, Nm.val_snoc]
        exact join_step _ _ _ (by simp only [Nm.tn] at hv hp ⊢; omega) h0 h1
      case measure => simp [intOf]; omega
    · go_wp2
      go_ret
      exact ⟨ret_int (by rw [List.take_of_length_le (by simp; omega)]), rfl⟩

theorem xor_zero (s : ByteArray) (t : Int) (h : 0 < s.size) (h0 : 0 ≤ t) (h1 : t ≤ 255) : (bits BinOp.xor IntKind.u8 (s[0].toNat : Int) t == 0) = decide (s.data.toList.headD 0 ^^^ UInt8.ofNat t.toNat = 0) := by
  obtain ⟨T, rfl⟩ := Int.eq_ofNat_of_zero_le h0
  have hb := s[0].toNat_lt
  rw [u8_xor_nat _ _ (by omega) (by omega), Int.toNat_natCast, xor_u8 _ _ (by omega)]
  have e : s.data.toList.headD 0 = s[0] := head_byte s h
  rw [e, Bool.eq_iff_iff]
  simp only [beq_iff_eq, decide_eq_true_eq]
  constructor
  · intro h; exact UInt8.toNat_inj.1 (by simpa using h)
  · intro h; rw [h]; rfl

set_option maxHeartbeats 400000 in
theorem digits_read (s : ByteArray) (k t : Int) (w : World) (hs : s.size ≤ 9223372036854775807) (k0 : 0 ≤ k) (k1 : k ≤ 255) (h0 : 0 ≤ t) (h1 : t ≤ 255) :
    Calls Tryz.prog 138 #[.string s, .int .i64 k, .int .u8 t] w fun e w' =>
      e = .returned (.tuple #[.int .u64 (Nm.readN s.data.toList k.toNat t.toNat).1, .int .i64 (Nm.readN s.data.toList k.toNat t.toNat).2]) ∧ w' = w := by
  by_cases h8 : 8 < k
  · have hr : Nm.readN s.data.toList k.toNat t.toNat = (0, 4) := by rw [Nm.readN, if_pos (by omega)]
    rw [hr]
    go_enter Tryz.func138, Tryz.ntmps138
    go_wp2
    go_ret2
    exact ⟨rfl, rfl⟩
  by_cases hk : (s.size : Int) < k
  · have hr : Nm.readN s.data.toList k.toNat t.toNat = (0, 3) := by rw [Nm.readN, if_neg (by omega), if_pos (by simp; omega)]
    rw [hr]
    go_enter Tryz.func138, Tryz.ntmps138
    go_wp2
    go_ret2
    exact ⟨rfl, rfl⟩
  by_cases hz : 0 < k
  · have hp : 0 < s.size := by omega
    have hx := xor_zero s t hp h0 h1
    by_cases hd : s.data.toList.headD 0 ^^^ UInt8.ofNat t.toNat = 0
    · have hr : Nm.readN s.data.toList k.toNat t.toNat = (0, 4) := by rw [Nm.readN, if_neg (by omega), if_neg (by simp; omega), if_pos ⟨by omega, hd⟩]
      rw [hr]
      rw [decide_eq_true hd] at hx
      clear hd hr
      go_enter Tryz.func138, Tryz.ntmps138
      go_wp2
      go_ret2
      exact ⟨rfl, rfl⟩
    · have hr : Nm.readN s.data.toList k.toNat t.toNat = (Nm.val (Nm.tn t.toNat (s.data.toList.take k.toNat)), 0) := by rw [Nm.readN, if_neg (by omega), if_neg (by simp; omega), if_neg (by intro h; exact hd h.2)]
      rw [hr]
      rw [decide_eq_false hd] at hx
      clear hd hr
      go_enter Tryz.func138, Tryz.ntmps138
      go_wp2_with (go_at_call 157; refine (digits_join _ _ _ (by simp; omega) h0 h1).mono ?_; rintro e w' ⟨rfl, rfl⟩)
      go_ret2
      exact ⟨rfl, rfl⟩
  · have hr : Nm.readN s.data.toList k.toNat t.toNat = (Nm.val (Nm.tn t.toNat []), 0) := by rw [Nm.readN, if_neg (by omega), if_neg (by simp; omega), if_neg (by intro h; omega), show k.toNat = 0 from by omega, List.take_zero]
    rw [hr]
    clear hr
    go_enter Tryz.func138, Tryz.ntmps138
    go_wp2_with (go_at_call 157; refine (digits_join _ _ _ (by simp; omega) h0 h1).mono ?_; rintro e w' ⟨rfl, rfl⟩)
    go_ret2
    exact ⟨rfl, rfl⟩
end Go.Proofs.YtimdioacmojkeaaGreatDoor

namespace Go.Proofs.YtimdioacmojkeaaGreatDoor
open Go.RowKit
set_option maxRecDepth 4000

theorem list_ne (s : ByteArray) (h : 0 < s.size) : s.data.toList ≠ [] := by
  intro e; have := Lib.size_eq s; rw [e] at this; simp only [List.length_nil] at this; omega

theorem tail_data (s : ByteArray) : (s.extract 1 s.size).data.toList = s.data.toList.tail := by
  rw [Lib.extract_data, List.take_of_length_le, List.drop_one]
  rw [List.length_drop, ← Lib.size_eq]
  exact Nat.le_refl _

theorem read_tail (s : ByteArray) (c t : Int) (w : World) (hs : s.size ≤ 9223372036854775807) (k0 : 0 ≤ c) (k1 : c ≤ 255) (h0 : 0 ≤ t) (h1 : t ≤ 255) :
    Calls Tryz.prog 138 #[.string (s.extract 1 s.size), .int .i64 c, .int .u8 t] w fun e w' =>
      e = .returned (.tuple #[.int .u64 (Nm.readN s.data.toList.tail c.toNat t.toNat).1, .int .i64 (Nm.readN s.data.toList.tail c.toNat t.toNat).2]) ∧ w' = w := by
  have h := digits_read (s.extract 1 s.size) c t w (by simp; omega) k0 k1 h0 h1
  rw [tail_data] at h
  exact h

set_option maxHeartbeats 400000 in
theorem get_any (s : ByteArray) (w : World) (hs : s.size ≤ 9223372036854775807) :
    Calls Tryz.prog 113 #[.string s] w fun e w' =>
      e = .returned (.tuple #[.int .u64 (Nm.getN s.data.toList).1, .int .i64 (Nm.getN s.data.toList).2.1, .int .i64 (Nm.getN s.data.toList).2.2]) ∧ w' = w := by
  by_cases h0 : s.size = 0
  · have hr : Nm.getN s.data.toList = (0, 0, 3) := by rw [Nm.getN, if_pos (List.length_eq_zero_iff.1 (by simpa using h0))]
    rw [hr]
    go_enter Tryz.func113, Tryz.ntmps113
    go_wp2
    go_ret3
    exact ⟨rfl, rfl⟩
  · have hp : 0 < s.size := by omega
    have hne := list_ne s hp
    have hb := s[0].toNat_lt
    have hh := head_byte s hp
    have hz : ((s.size : Int) == 0) = false := beq_eq_false_iff_ne.2 (by omega)
    have hg : Nm.getN s.data.toList = if (Nm.readN s.data.toList.tail s[0].toNat 0).2 = 0 then ((Nm.readN s.data.toList.tail s[0].toNat 0).1, 1 + s[0].toNat, (0 : Int)) else ((0 : Nat), (0 : Nat), (Nm.readN s.data.toList.tail s[0].toNat 0).2) := by
      rw [Nm.getN, if_neg hne]; simp only [hh]
    rw [hg]
    clear hg hh hne h0
    generalize hc : s[0] = c at *
    generalize hR : Nm.readN s.data.toList.tail c.toNat 0 = r
    obtain ⟨r1, r2⟩ := r
    have HR : Hid (Nm.readN s.data.toList.tail c.toNat 0 = (r1, r2)) := hR
    clear hR
    by_cases hr : r2 = 0
    · subst hr
      rw [if_pos rfl]
      go_enter Tryz.func113, Tryz.ntmps113
      go_wp2_with fail
      refine (read_tail s _ 0 _ hs (by omega) (by omega) (by omega) (by omega)).mono ?_
      rintro e w' ⟨rfl, rfl⟩
      rw [Int.toNat_natCast, show (0 : Int).toNat = 0 from rfl, HR.out]
      go_wp2
      go_ret3
      exact ⟨rfl, rfl⟩
    · have hq : (r2 != 0) = true := by simpa using hr
      rw [if_neg hr]
      go_enter Tryz.func113, Tryz.ntmps113
      go_wp2_with fail
      refine (read_tail s _ 0 _ hs (by omega) (by omega) (by omega) (by omega)).mono ?_
      rintro e w' ⟨rfl, rfl⟩
      rw [Int.toNat_natCast, show (0 : Int).toNat = 0 from rfl, HR.out]
      go_wp2
      go_ret3
      exact ⟨rfl, rfl⟩
end Go.Proofs.YtimdioacmojkeaaGreatDoor

namespace Go.Proofs.YtimdioacmojkeaaGreatDoor
open Go.RowKit
set_option maxRecDepth 4000

theorem head_hi (c : Int) (w : World) (h0 : 128 ≤ c) (h1 : c ≤ 255) :
    Calls Tryz.prog 158 #[.int .u8 c] w fun e w' => e = .returned (.tuple #[.int .i64 (c - 128), .int .u8 0]) ∧ w' = w := by
  go_enter Tryz.func158, Tryz.ntmps158
  go_wp2
  go_ret2
  exact ⟨rfl, rfl⟩
theorem head_lo (c : Int) (w : World) (h0 : 0 ≤ c) (h1 : c ≤ 127) :
    Calls Tryz.prog 158 #[.int .u8 c] w fun e w' => e = .returned (.tuple #[.int .i64 (127 - c), .int .u8 255]) ∧ w' = w := by
  go_enter Tryz.func158, Tryz.ntmps158
  go_wp2
  go_ret2
  exact ⟨rfl, rfl⟩
theorem readN_lt (l : List UInt8) (k t : Nat) : (Nm.readN l k t).1 < 18446744073709551616 := by
  unfold Nm.readN
  split
  · simp
  split
  · simp
  split
  · simp
  · rename_i h8 _ _
    have h := Nm.val_lt (Nm.tn t (l.take k))
    have hle : (Nm.tn t (l.take k)).length ≤ 8 := by rw [Nm.tn_length]; have := List.length_take_le k l; omega
    have hp : 256 ^ (Nm.tn t (l.take k)).length ≤ 256 ^ 8 := Nat.pow_le_pow_right (by omega) hle
    show Nm.val (Nm.tn t (l.take k)) < 18446744073709551616
    omega

set_option maxHeartbeats 1000000 in
theorem getI_any (s : ByteArray) (w : World) (hs : s.size ≤ 9223372036854775807) :
    Calls Tryz.prog 141 #[.string s] w fun e w' =>
      e = .returned (.tuple #[.int .i64 (Nm.getI s.data.toList).1, .int .i64 (Nm.getI s.data.toList).2.1, .int .i64 (Nm.getI s.data.toList).2.2]) ∧ w' = w := by
  by_cases h0 : s.size = 0
  · have hr : Nm.getI s.data.toList = (0, 0, 3) := by rw [Nm.getI, if_pos (List.length_eq_zero_iff.1 (by simpa using h0))]
    rw [hr]
    go_enter Tryz.func141, Tryz.ntmps141
    go_wp2
    go_ret3
    exact ⟨rfl, rfl⟩
  · have hp : 0 < s.size := by omega
    have hne := list_ne s hp
    have hb := s[0].toNat_lt
    have hh := head_byte s hp
    have hz : ((s.size : Int) == 0) = false := beq_eq_false_iff_ne.2 (by omega)
    generalize hc : s[0] = c at *
    by_cases hc128 : 128 ≤ c.toNat
    · obtain ⟨kk, hkk⟩ : ∃ kk : Nat, kk = c.toNat - 128 := ⟨_, rfl⟩
      have hk255 : kk ≤ 255 := by omega
      have hg : Nm.getI s.data.toList = if (Nm.readN s.data.toList.tail kk 0).2 = 0 then (if 9223372036854775807 < (Nm.readN s.data.toList.tail kk 0).1 then ((0 : Int), (0 : Nat), (4 : Int)) else ( ((Nm.readN s.data.toList.tail kk 0).1 : Int), 1 + kk, (0 : Int))) else ((0 : Int), (0 : Nat), (Nm.readN s.data.toList.tail kk 0).2) := by
        rw [Nm.getI, if_neg hne]; simp only [hh]; rw [if_pos hc128, ← hkk]
      rw [hg]
      clear hg hh hne h0
      have hkI : (c.toNat : Int) - 128 = (kk : Int) := by omega
      have HK : Hid ((c.toNat : Int) - 128 = (kk : Int)) := hkI
      clear hkI hkk
      have hlt := readN_lt s.data.toList.tail kk 0
      generalize hR : Nm.readN s.data.toList.tail kk 0 = r at *
      obtain ⟨r1, r2⟩ := r
      simp only at hlt
      have HR : Hid (Nm.readN s.data.toList.tail kk 0 = (r1, r2)) := hR
      clear hR
      by_cases hr : r2 = 0
      · subst hr
        rw [if_pos rfl]
        by_cases hm : 9223372036854775807 < r1
        · rw [if_pos hm]
          go_enter Tryz.func141, Tryz.ntmps141
          go_wp2_with (go_at_call 158; refine (head_hi _ _ (by omega) (by omega)).mono ?_; rintro e w' ⟨rfl, rfl⟩; rw [HK.out])
          refine (read_tail s _ 0 _ hs (by omega) (by omega) (by omega) (by omega)).mono ?_
          rintro e w' ⟨rfl, rfl⟩
          rw [Int.toNat_natCast, show (0 : Int).toNat = 0 from rfl, HR.out]
          go_wp2
          go_ret3
          exact ⟨rfl, rfl⟩
        · rw [if_neg hm]
          go_enter Tryz.func141, Tryz.ntmps141
          go_wp2_with (go_at_call 158; refine (head_hi _ _ (by omega) (by omega)).mono ?_; rintro e w' ⟨rfl, rfl⟩; rw [HK.out])
          refine (read_tail s _ 0 _ hs (by omega) (by omega) (by omega) (by omega)).mono ?_
          rintro e w' ⟨rfl, rfl⟩
          rw [Int.toNat_natCast, show (0 : Int).toNat = 0 from rfl, HR.out]
          go_wp2
          go_ret3
          exact ⟨rfl, rfl⟩
      · have hq : (r2 != 0) = true := by simpa using hr
        rw [if_neg hr]
        go_enter Tryz.func141, Tryz.ntmps141
        go_wp2_with (go_at_call 158; refine (head_hi _ _ (by omega) (by omega)).mono ?_; rintro e w' ⟨rfl, rfl⟩; rw [HK.out])
        refine (read_tail s _ 0 _ hs (by omega) (by omega) (by omega) (by omega)).mono ?_
        rintro e w' ⟨rfl, rfl⟩
        rw [Int.toNat_natCast, show (0 : Int).toNat = 0 from rfl, HR.out]
        go_wp2
        go_ret3
        exact ⟨rfl, rfl⟩
    · obtain ⟨kk, hkk⟩ : ∃ kk : Nat, kk = 127 - c.toNat := ⟨_, rfl⟩
      have hk255 : kk ≤ 255 := by omega
      have hg : Nm.getI s.data.toList = if (Nm.readN s.data.toList.tail kk 255).2 = 0 then (if 9223372036854775807 < (Nm.readN s.data.toList.tail kk 255).1 then ((0 : Int), (0 : Nat), (4 : Int)) else (-1 - ((Nm.readN s.data.toList.tail kk 255).1 : Int), 1 + kk, (0 : Int))) else ((0 : Int), (0 : Nat), (Nm.readN s.data.toList.tail kk 255).2) := by
        rw [Nm.getI, if_neg hne]; simp only [hh]; rw [if_neg hc128, ← hkk]
      rw [hg]
      clear hg hh hne h0
      have hkI : 127 - (c.toNat : Int) = (kk : Int) := by omega
      have HK : Hid (127 - (c.toNat : Int) = (kk : Int)) := hkI
      clear hkI hkk
      have hlt := readN_lt s.data.toList.tail kk 255
      generalize hR : Nm.readN s.data.toList.tail kk 255 = r at *
      obtain ⟨r1, r2⟩ := r
      simp only at hlt
      have HR : Hid (Nm.readN s.data.toList.tail kk 255 = (r1, r2)) := hR
      clear hR
      by_cases hr : r2 = 0
      · subst hr
        rw [if_pos rfl]
        by_cases hm : 9223372036854775807 < r1
        · rw [if_pos hm]
          go_enter Tryz.func141, Tryz.ntmps141
          go_wp2_with (go_at_call 158; refine (head_lo _ _ (by omega) (by omega)).mono ?_; rintro e w' ⟨rfl, rfl⟩; rw [HK.out])
          refine (read_tail s _ 255 _ hs (by omega) (by omega) (by omega) (by omega)).mono ?_
          rintro e w' ⟨rfl, rfl⟩
          rw [Int.toNat_natCast, show (255 : Int).toNat = 255 from rfl, HR.out]
          go_wp2
          go_ret3
          exact ⟨rfl, rfl⟩
        · rw [if_neg hm]
          go_enter Tryz.func141, Tryz.ntmps141
          go_wp2_with (go_at_call 158; refine (head_lo _ _ (by omega) (by omega)).mono ?_; rintro e w' ⟨rfl, rfl⟩; rw [HK.out])
          refine (read_tail s _ 255 _ hs (by omega) (by omega) (by omega) (by omega)).mono ?_
          rintro e w' ⟨rfl, rfl⟩
          rw [Int.toNat_natCast, show (255 : Int).toNat = 255 from rfl, HR.out]
          go_wp2
          go_ret3
          exact ⟨rfl, rfl⟩
      · have hq : (r2 != 0) = true := by simpa using hr
        rw [if_neg hr]
        go_enter Tryz.func141, Tryz.ntmps141
        go_wp2_with (go_at_call 158; refine (head_lo _ _ (by omega) (by omega)).mono ?_; rintro e w' ⟨rfl, rfl⟩; rw [HK.out])
        refine (read_tail s _ 255 _ hs (by omega) (by omega) (by omega) (by omega)).mono ?_
        rintro e w' ⟨rfl, rfl⟩
        rw [Int.toNat_natCast, show (255 : Int).toNat = 255 from rfl, HR.out]
        go_wp2
        go_ret3
        exact ⟨rfl, rfl⟩
end Go.Proofs.YtimdioacmojkeaaGreatDoor

namespace Go.Proofs.YtimdioacmojkeaaGreatDoor
open Go.RowKit
set_option maxRecDepth 4000

/-- a reader in block b: what is left, and its error -/
def Rs (W : World) (b : Nat) (x : Td.St) : Prop := W.heap[b]? = some (.cells #[.string ⟨x.1.toArray⟩, .int .i64 x.2] 113 (0, 0))

section
variable {W W' : World} {b : Nat} {x : Td.St}
theorem Rs.cells (h : Rs W b x) : W.cell? ⟨b, 0, none⟩ = some (.string ⟨x.1.toArray⟩) ∧ W.cell? ⟨b, 1, none⟩ = some (.int .i64 x.2) ∧ W.frozen? ⟨b, 0, none⟩ = false ∧ W.frozen? ⟨b, 1, none⟩ = false := by
  unfold Rs at h
  refine ⟨?_, ?_, ?_, ?_⟩
  · simp only [World.cell?, h]; rfl
  · simp only [World.cell?, h]; rfl
  · simp [World.frozen?, h]
  · simp [World.frozen?, h]

theorem Rs.set0 (h : Rs W b x) (l : List UInt8) : Rs (W.setCell ⟨b, 0, none⟩ (.string ⟨l.toArray⟩)) b (l, x.2) := by
  unfold Rs at h ⊢
  simp [World.setCell, Array.getElem?_modify, h]

theorem Rs.set1 (h : Rs W b x) (e : Int) : Rs (W.setCell ⟨b, 1, none⟩ (.int .i64 e)) b (x.1, e) := by
  unfold Rs at h ⊢
  simp [World.setCell, Array.getElem?_modify, h]

theorem Rs.lt (h : Rs W b x) : b < W.heap.size := (Array.getElem?_eq_some_iff.1 h).1

theorem Rs.past (h : Rs W b x) (hb : Below W.heap.size W W') : Rs W' b x := (hb.block _ h.lt).trans h

end

/-- what a reader's call answers -/
def RsOut (b : Nat) (w : World) (v : Value) (x : Td.St) (e : Ending) (w' : World) : Prop := e = .returned v ∧ Rs w' b x ∧ Kept (fun j => j ≠ b) w w'

theorem tg_ext (l : List UInt8) (k : Nat) : (⟨l.toArray⟩ : ByteArray).extract k (⟨l.toArray⟩ : ByteArray).size = ⟨(l.drop k).toArray⟩ := by
  apply ByteArray.ext
  apply Array.toList_inj.1
  rw [Nn.ext_drop']

theorem tg_size (l : List UInt8) : (⟨l.toArray⟩ : ByteArray).size = l.length := by show l.toArray.size = _; rw [List.size_toArray]

set_option maxHeartbeats 1000000 in
theorem rdtake_any (b k : Nat) (e : Int) (x : Td.St) (w : World) (h : Rs w b x) (hk : e = 0 → k ≤ x.1.length) (hx : x.1.length ≤ 1048576) :
    Calls Tryz.prog 114 #[.pointer (some ⟨b, 0, none⟩), .int .i64 k, .int .i64 e] w (RsOut b w (.bool (Td.tk k e x).1) (Td.tk k e x).2) := by
  unfold RsOut
  obtain ⟨l, er⟩ := x
  obtain ⟨c0, c1, f0, f1⟩ := h.cells
  have H0 : Hid (Rs w b (l, er)) := h
  by_cases h1 : er ≠ 0
  · rw [Td.tk_stay h1]
    have q : (er != 0) = true := by rw [bne_iff_ne]; exact h1
    clear h
    go_enter Tryz.func114, Tryz.ntmps114
    go_wp2_with fail
    go_ret
    exact ⟨rfl, H0.out, Kept.refl _ _⟩
  obtain rfl := Decidable.not_not.mp h1
  by_cases h2 : e ≠ 0
  · rw [Td.tk_err h2]
    have q : (e != 0) = true := by rw [bne_iff_ne]; exact h2
    have H1 : Hid (Rs (w.setCell ⟨b, 1, none⟩ (.int .i64 e)) b (l, e)) := h.set1 e
    have HK : Hid (Kept (fun j => j ≠ b) w (w.setCell ⟨b, 1, none⟩ (.int .i64 e))) := (Kept.refl _ w).setCell (by simp) _
    clear h hk
    go_enter Tryz.func114, Tryz.ntmps114
    go_wp2_with fail
    go_ret
    exact ⟨rfl, H1.out, HK.out⟩
  obtain rfl := Decidable.not_not.mp h2
  rw [Td.tk_ok]
  have hkl : k ≤ l.length := hk rfl
  replace hx : l.length ≤ 1048576 := hx
  obtain ⟨s, hs⟩ : ∃ s : ByteArray, s = ⟨l.toArray⟩ := ⟨_, rfl⟩
  have hsz : s.size = l.length := by rw [hs]; exact tg_size l
  have hex : s.extract k s.size = ⟨(l.drop k).toArray⟩ := by rw [hs]; exact tg_ext l k
  have HE : Hid (s.extract k s.size = ⟨(l.drop k).toArray⟩) := hex
  have H1 : Hid (Rs (w.setCell ⟨b, 0, none⟩ (.string (s.extract k s.size))) b (l.drop k, 0)) := by rw [hex]; exact h.set0 _
  have HK : Hid (Kept (fun j => j ≠ b) w (w.setCell ⟨b, 0, none⟩ (.string (s.extract k s.size)))) := (Kept.refl _ w).setCell (by simp) _
  have hk1 : (k : Int) ≤ (s.size : Int) := by omega
  dsimp only at c0 c1
  rw [← hs] at c0
  have hsx : s.size ≤ 1048576 := by omega
  clear h hk hs hex h1 h2 hkl hsz
  go_enter Tryz.func114, Tryz.ntmps114
  go_wp2_with fail
  go_ret
  exact ⟨rfl, H1.out, HK.out⟩

set_option maxHeartbeats 1000000 in
theorem rdnumber_any (b most : Nat) (x : Td.St) (w : World) (h : Rs w b x) (hm : most ≤ 4096) (hx : x.1.length ≤ 1048576) :
    Calls Tryz.prog 86 #[.pointer (some ⟨b, 0, none⟩), .int .u64 most] w (RsOut b w (.int .i64 (Td.sNum most x).1) (Td.sNum most x).2) := by
  have hg := get_any ⟨x.1.toArray⟩ w (by rw [tg_size]; omega)
  rcases hG : Nm.getN x.1 with ⟨n, k, e0⟩
  have hG' : Nm.getN (⟨x.1.toArray⟩ : ByteArray).data.toList = (n, k, e0) := hG
  rw [hG'] at hg
  have hT : Td.sNum most x = (if (Td.tk k (Td.nuE most x.1) x).1 = true then n else 0, (Td.tk k (Td.nuE most x.1) x).2) := by unfold Td.sNum; rw [hG]
  have hE : Td.nuE most x.1 = if e0 = 0 ∧ most < n then 2 else e0 := by unfold Td.nuE; rw [hG]
  have hk : Td.nuE most x.1 = 0 → k ≤ x.1.length ∧ n ≤ most := fun q => by
    rw [hE] at q
    split at q
    · cases q
    · rename_i q2
      subst q
      exact ⟨(Nm.get_one hG).1, by
        by_cases z : most < n
        · exact absurd ⟨rfl, z⟩ q2
        · omega⟩
  have ht := rdtake_any b k (Td.nuE most x.1) x w h (fun q => (hk q).1) hx
  have HTr : Hid ((Td.tk k (Td.nuE most x.1) x).1 = true → n ≤ most) := fun q => (hk (Td.tk_true q).2).2
  rw [hT]
  obtain ⟨c0, c1, f0, f1⟩ := h.cells
  generalize Td.tk k (Td.nuE most x.1) x = T at *
  generalize Td.nuE most x.1 = E at *
  unfold RsOut at ht ⊢
  have hn0 : (0 : Int) ≤ (n : Int) := by omega
  clear h hk hT hG hG' hx
  go_enter Tryz.func86, Tryz.ntmps86
  go_wp2_with fail
  refine hg.mono ?_
  rintro e u ⟨rfl, hu⟩
  obtain rfl := hu.symm
  clear hg hu
  by_cases h1 : e0 ≠ 0
  · have q : (e0 == 0) = false := by rw [beq_eq_false_iff_ne]; exact h1
    rw [if_neg (fun z => h1 z.1)] at hE
    subst hE
    clear h1
    go_wp2_with fail
    refine ht.mono ?_
    rintro e w2 ⟨rfl, r2, k2⟩
    have HR : Hid (Rs w2 b T.2 ∧ Kept (fun j => j ≠ b) w w2) := ⟨r2, k2⟩
    clear ht r2 k2
    obtain ⟨tb, x2⟩ := T
    dsimp only at *
    cases tb with
    | true =>
      have hnm : n ≤ most := HTr.out rfl
      have hw64 : wrap64 (n : Int) = (n : Int) := by unfold wrap64; omega
      clear HTr
      go_wp2_with fail
      go_ret
      exact ⟨rfl, HR.out⟩
    | false =>
      clear HTr
      go_wp2_with fail
      go_ret
      exact ⟨rfl, HR.out⟩
  obtain rfl := Decidable.not_not.mp h1
  clear h1
  by_cases h2 : most < n
  · rw [if_pos ⟨rfl, h2⟩] at hE
    subst hE
    have q : (most : Int) < (n : Int) := by omega
    go_wp2_with fail
    refine ht.mono ?_
    rintro e w2 ⟨rfl, r2, k2⟩
    have HR : Hid (Rs w2 b T.2 ∧ Kept (fun j => j ≠ b) w w2) := ⟨r2, k2⟩
    clear ht r2 k2
    obtain ⟨tb, x2⟩ := T
    dsimp only at *
    cases tb with
    | true =>
      have hnm : n ≤ most := HTr.out rfl
      have hw64 : wrap64 (n : Int) = (n : Int) := by unfold wrap64; omega
      clear HTr
      go_wp2_with fail
      go_ret
      exact ⟨rfl, HR.out⟩
    | false =>
      clear HTr
      go_wp2_with fail
      go_ret
      exact ⟨rfl, HR.out⟩
  · rw [if_neg (fun z => h2 z.2)] at hE
    subst hE
    have q : ¬ (most : Int) < (n : Int) := by omega
    go_wp2_with fail
    refine ht.mono ?_
    rintro e w2 ⟨rfl, r2, k2⟩
    have HR : Hid (Rs w2 b T.2 ∧ Kept (fun j => j ≠ b) w w2) := ⟨r2, k2⟩
    clear ht r2 k2
    obtain ⟨tb, x2⟩ := T
    dsimp only at *
    cases tb with
    | true =>
      have hnm : n ≤ most := HTr.out rfl
      have hw64 : wrap64 (n : Int) = (n : Int) := by unfold wrap64; omega
      clear HTr
      go_wp2_with fail
      go_ret
      exact ⟨rfl, HR.out⟩
    | false =>
      clear HTr
      go_wp2_with fail
      go_ret
      exact ⟨rfl, HR.out⟩

set_option maxHeartbeats 1000000 in
theorem rdsigned_any (b : Nat) (x : Td.St) (w : World) (h : Rs w b x) (hx : x.1.length ≤ 1048576) :
    Calls Tryz.prog 117 #[.pointer (some ⟨b, 0, none⟩)] w (RsOut b w (.int .i64 (Td.sInt x).1) (Td.sInt x).2) := by
  have hg := getI_any ⟨x.1.toArray⟩ w (by rw [tg_size]; omega)
  rcases hG : Nm.getI x.1 with ⟨n, k, e0⟩
  have hG' : Nm.getI (⟨x.1.toArray⟩ : ByteArray).data.toList = (n, k, e0) := hG
  rw [hG'] at hg
  have hT : Td.sInt x = (if (Td.tk k e0 x).1 = true then n else 0, (Td.tk k e0 x).2) := by unfold Td.sInt; rw [hG]
  have ht := rdtake_any b k e0 x w h (fun q => by subst q; exact (Nm.getI_one hG).1) hx
  rw [hT]
  obtain ⟨c0, c1, f0, f1⟩ := h.cells
  generalize Td.tk k e0 x = T at *
  unfold RsOut at ht ⊢
  clear h hT hG hG' hx
  go_enter Tryz.func117, Tryz.ntmps117
  go_wp2_with fail
  refine hg.mono ?_
  rintro e u ⟨rfl, hu⟩
  obtain rfl := hu.symm
  clear hg hu
  go_wp2_with fail
  refine ht.mono ?_
  rintro e w2 ⟨rfl, r2, k2⟩
  have HR : Hid (Rs w2 b T.2 ∧ Kept (fun j => j ≠ b) w w2) := ⟨r2, k2⟩
  clear ht r2 k2
  obtain ⟨tb, x2⟩ := T
  dsimp only at *
  cases tb with
  | true =>
    go_wp2_with fail
    go_ret
    exact ⟨rfl, HR.out⟩
  | false =>
    go_wp2_with fail
    go_ret
    exact ⟨rfl, HR.out⟩

set_option maxHeartbeats 1000000 in
theorem rdtext_any (b : Nat) (x : Td.St) (w : World) (h : Rs w b x) (hx : x.1.length ≤ 1048576) :
    Calls Tryz.prog 115 #[.pointer (some ⟨b, 0, none⟩)] w (RsOut b w (.string ⟨(Td.sTxt x).1.toArray⟩) (Td.sTxt x).2) := by
  have hg := getT_any ⟨x.1.toArray⟩ w (by rw [tg_size]; omega)
  rcases hG : Nm.getT x.1 with ⟨n, k, e0⟩
  have hG' : Nm.getT (⟨x.1.toArray⟩ : ByteArray).data.toList = (n, k, e0) := hG
  rw [hG'] at hg
  have hT : Td.sTxt x = (if (Td.tk k e0 x).1 = true then n else [], (Td.tk k e0 x).2) := by unfold Td.sTxt; rw [hG]
  have ht := fun W (hW : Rs W b x) => rdtake_any b k e0 x W hW (fun q => by subst q; exact (Nm.getT_one hG).1) hx
  rw [hT]
  obtain ⟨c0, c1, f0, f1⟩ := h.cells
  generalize Td.tk k e0 x = T at *
  unfold RsOut at ht ⊢
  have H0 : Hid (Rs w b x) := h
  clear h hT hG hG' hx
  go_enter Tryz.func115, Tryz.ntmps115
  go_wp2_with fail
  refine hg.mono ?_
  rintro e w1 ⟨rfl, b1⟩
  have HK1 : Hid (Kept (fun j => j ≠ b) w w1) := Kept.of_below b1
  replace ht := ht w1 (H0.out.past b1)
  clear hg b1
  go_wp2_with fail
  refine ht.mono ?_
  rintro e w2 ⟨rfl, r2, k2⟩
  have HR : Hid (Rs w2 b T.2 ∧ Kept (fun j => j ≠ b) w w2) := ⟨r2, HK1.out.trans k2⟩
  clear ht r2 k2
  obtain ⟨tb, x2⟩ := T
  dsimp only at *
  cases tb with
  | true =>
    go_wp2_with fail
    go_ret
    exact ⟨rfl, HR.out⟩
  | false =>
    go_wp2_with fail
    go_ret
    exact ⟨rfl, HR.out⟩

theorem tg_take (l : List UInt8) (k : Nat) : (⟨l.toArray⟩ : ByteArray).extract 0 k = ⟨(l.take k).toArray⟩ := by
  apply ByteArray.ext
  apply Array.toList_inj.1
  rw [Lib.extract_data]
  simp

set_option maxHeartbeats 1000000 in
theorem rdbytes_any (b k : Nat) (x : Td.St) (w : World) (h : Rs w b x) (_hk : k ≤ 8) (hx : x.1.length ≤ 1048576) :
    Calls Tryz.prog 140 #[.pointer (some ⟨b, 0, none⟩), .int .i64 k] w (RsOut b w (.string ⟨(Td.sByt k x).1.toArray⟩) (Td.sByt k x).2) := by
  have hT : Td.sByt k x = (if (Td.tk k (Td.shE k x.1) x).1 = true then x.1.take k else [], (Td.tk k (Td.shE k x.1) x).2) := rfl
  have hE : Td.shE k x.1 = if x.1.length < k then 3 else 0 := rfl
  have hz : Td.shE k x.1 = 0 → k ≤ x.1.length := fun q => by
    rw [hE] at q
    split at q
    · cases q
    · omega
  have ht := rdtake_any b k (Td.shE k x.1) x w h hz hx
  have HTr : Hid ((Td.tk k (Td.shE k x.1) x).1 = true → k ≤ x.1.length) := fun q => hz (Td.tk_true q).2
  rw [hT]
  obtain ⟨c0, c1, f0, f1⟩ := h.cells
  generalize Td.tk k (Td.shE k x.1) x = T at *
  generalize Td.shE k x.1 = E at *
  obtain ⟨l, er⟩ := x
  dsimp only at *
  obtain ⟨s, hs⟩ : ∃ s : ByteArray, s = ⟨l.toArray⟩ := ⟨_, rfl⟩
  have hsz : s.size = l.length := by rw [hs]; exact tg_size l
  have HE : Hid (s.extract 0 k = ⟨(l.take k).toArray⟩) := by show _ = _; rw [hs]; exact tg_take l k
  rw [← hs] at c0
  rw [← hsz] at hE HTr hx
  unfold RsOut at ht ⊢
  clear h hT hs hsz hz
  go_enter Tryz.func140, Tryz.ntmps140
  by_cases h2 : s.size < k
  · rw [if_pos h2] at hE
    subst hE
    have q : (s.size : Int) < (k : Int) := by omega
    go_wp2_with fail
    refine ht.mono ?_
    rintro e w2 ⟨rfl, r2, k2⟩
    have HR : Hid (Rs w2 b T.2 ∧ Kept (fun j => j ≠ b) w w2) := ⟨r2, k2⟩
    clear ht r2 k2
    obtain ⟨tb, x2⟩ := T
    dsimp only at *
    cases tb with
    | true =>
      exact absurd (HTr.out rfl) (by omega)
    | false =>
      clear HTr
      go_wp2_with fail
      go_ret
      exact ⟨rfl, HR.out⟩
  · rw [if_neg h2] at hE
    subst hE
    have q : ¬ (s.size : Int) < (k : Int) := by omega
    go_wp2_with fail
    refine ht.mono ?_
    rintro e w2 ⟨rfl, r2, k2⟩
    have HR : Hid (Rs w2 b T.2 ∧ Kept (fun j => j ≠ b) w w2) := ⟨r2, k2⟩
    clear ht r2 k2
    obtain ⟨tb, x2⟩ := T
    dsimp only at *
    cases tb with
    | true =>
      have hks : (k : Int) ≤ (s.size : Int) := by have := HTr.out rfl; omega
      clear HTr
      go_wp2_with fail
      go_ret
      exact ⟨by rw [← HE.out]; rfl, HR.out⟩
    | false =>
      clear HTr
      go_wp2_with fail
      go_ret
      exact ⟨rfl, HR.out⟩

set_option maxHeartbeats 1000000 in
theorem rdkind_any (b : Nat) (x : Td.St) (w : World) (h : Rs w b x) (hx : x.1.length ≤ 1048576) :
    Calls Tryz.prog 116 #[.pointer (some ⟨b, 0, none⟩)] w (RsOut b w (.int .i64 (Td.sKind x).1) (Td.sKind x).2) := by
  have ht := rdbytes_any b 1 x w h (by omega) hx
  have hT : Td.sKind x = (((Td.sByt 1 x).1.headD 0).toNat, (Td.sByt 1 x).2) := rfl
  have hl := Td.sByt_bd 1 x
  rw [hT]
  generalize Td.sByt 1 x = T at *
  obtain ⟨y, x2⟩ := T
  unfold RsOut at ht ⊢
  dsimp only at *
  clear h hT hx
  match y, hl with
  | [], _ =>
    go_enter Tryz.func116, Tryz.ntmps116
    go_wp2_with fail
    refine ht.mono ?_
    rintro e w2 ⟨rfl, r2, k2⟩
    have HR : Hid (Rs w2 b x2 ∧ Kept (fun j => j ≠ b) w w2) := ⟨r2, k2⟩
    clear ht r2 k2
    go_wp2_with fail
    go_ret
    exact ⟨rfl, HR.out⟩
  | [c], _ =>
    obtain ⟨s, hs⟩ : ∃ s : ByteArray, s = ⟨[c].toArray⟩ := ⟨_, rfl⟩
    have hsz : 0 < s.size := by rw [hs, tg_size]; simp
    have e1 : (s.toList == []) = false := data_ne (by rw [hs]; simp)
    obtain ⟨c0, hc0⟩ : ∃ c0 : Nat, s[0].toNat = c0 := ⟨_, rfl⟩
    have HV : Hid (([c].headD 0).toNat = c0) := by show _ = _; rw [← hc0]; subst hs; rfl
    have hc : c0 < 256 := by rw [← hc0]; exact s[0].toNat_lt
    have hwc : wrap64 (c0 : Int) = (c0 : Int) := by unfold wrap64; omega
    rw [← hs] at ht
    clear hs
    go_enter Tryz.func116, Tryz.ntmps116
    go_wp2_with fail
    refine ht.mono ?_
    rintro e w2 ⟨rfl, r2, k2⟩
    have HR : Hid (Rs w2 b x2 ∧ Kept (fun j => j ≠ b) w w2) := ⟨r2, k2⟩
    clear ht r2 k2
    go_wp2_with fail
    go_ret
    exact ⟨by rw [HV.out]; rfl, HR.out⟩

end Go.Proofs.YtimdioacmojkeaaGreatDoor

namespace Go.Proofs.YtimdioacmojkeaaGreatDoor
open Go.RowKit
set_option maxRecDepth 4000

abbrev Tz8 : Array Value := #[.int .u8 0, .int .u8 0, .int .u8 0, .int .u8 0, .int .u8 0, .int .u8 0, .int .u8 0, .int .u8 0]

theorem Kept.then {p : Nat → Prop} {A B C : World} {n : Nat} (h : Kept p A B) (hb : Below n B C) (hn : A.heap.size ≤ n) : Kept p A C :=
  ⟨hb.os.trans h.os, hb.tape.trans h.tape, hb.output.trans h.output, Nat.le_trans h.size hb.size, fun k hk hp => (hb.block k (by omega)).trans (h.block k hk hp)⟩

theorem tid_info : (Tryz.prog.info? 29).map (fun i => (i.zero, i.size, i.bytes)) = some (some (.agg Tz8), 8, 8) := by kernel_rfl

/-- the world behind the copy of y into block M -/
def cpW (W : World) (M : Nat) (y : List UInt8) : World := W.setCells M 0 (y.map B)

theorem cpW_cells {W : World} {M : Nat} {y : List UInt8} (h : W.heap[M]? = some (.cells Tz8 29 (0, 0))) (hy : y = [] ∨ y.length = 8) : (cpW W M y).heap[M]? = some (.cells (idC (Td.eight y)).toArray 29 (0, 0)) := by
  rcases hy with rfl | hy
  · exact h
  · rw [Td.eight_id hy]
    match y, hy with
    | [b0, b1, b2, b3, b4, b5, b6, b7], _ => simp [cpW, World.setCells, World.setCell, Array.getElem?_modify, h, idC]

theorem cpW_below {W : World} {M : Nat} {y : List UInt8} (hy : y = [] ∨ y.length = 8) : Below M W (cpW W M y) := by
  rcases hy with rfl | hy
  · exact Below.refl _ _
  · match y, hy with
    | [b0, b1, b2, b3, b4, b5, b6, b7], _ =>
      exact ((((((((Below.refl M W).setCell (p := ⟨M, 0, none⟩) (Nat.le_refl _) _).setCell (p := ⟨M, 1, none⟩) (Nat.le_refl _) _).setCell (p := ⟨M, 2, none⟩) (Nat.le_refl _) _).setCell (p := ⟨M, 3, none⟩) (Nat.le_refl _) _).setCell (p := ⟨M, 4, none⟩) (Nat.le_refl _) _).setCell (p := ⟨M, 5, none⟩) (Nat.le_refl _) _).setCell (p := ⟨M, 6, none⟩) (Nat.le_refl _) _).setCell (p := ⟨M, 7, none⟩) (Nat.le_refl _) _

theorem cpW_run {W : World} {M : Nat} {y : List UInt8} (h : W.heap[M]? = some (.cells Tz8 29 (0, 0))) (hy : y.length ≤ 8) :
    (Builtin.copy_ #[84, 9] 3 #[.slice (some ⟨M, 0, none⟩) 8 8, .string ⟨y.toArray⟩]).run Tryz.prog W = .ok (.int .i64 y.length) (cpW W M y) := by
  have hz : ∀ w, (Go.sizeOf 5).run Tryz.prog w = .ok 1 w := fun w => by go_simp
  have hc : ∀ j, j < 8 → W.cell? ⟨M, j, none⟩ = some (.int .u8 0) := fun j hj => by
    rw [cell_of_row _ M j _ _ _ h, show Tz8 = Array.replicate 8 (Value.int .u8 0) from rfl, Array.getElem?_replicate, if_pos hj]
  have hr := run_copy_string (P := Tryz.prog) W 84 9 3 5 M 0 8 8 ⟨y.toArray⟩ (by kernel_rfl) hz (by rw [tg_size]; exact hy) (fun j hj => by rw [tg_size] at hj; rw [hc _ (by omega)]; rfl) (fun j _ => by simp [World.frozen?, h])
  rw [tg_size] at hr
  exact hr

theorem sByt_form (x : Td.St) (k : Nat) : (Td.sByt k x).1 = [] ∨ (Td.sByt k x).1.length = k := by
  unfold Td.sByt
  simp only
  split
  · rename_i h
    obtain ⟨_, h2⟩ := Td.tk_true h
    unfold Td.shE at h2
    split at h2
    · cases h2
    · refine .inr ?_
      rw [List.length_take]
      omega
  · exact .inl rfl

theorem tg_new8 (W : World) (v0 v1 v2 v3 v4 v5 v6 v7 : Value) {T : TypeId} : ∀ j u, [v0, v1, v2, v3, v4, v5, v6, v7][j]? = some u → (W.alloc (.cells #[v0, v1, v2, v3, v4, v5, v6, v7] T)).cell? ((⟨W.heap.size, 0, none⟩ : Addr).add j) = some u := by
  intro j u hj
  rw [show ((⟨W.heap.size, 0, none⟩ : Addr).add j) = ⟨W.heap.size, j, none⟩ from by unfold Addr.add; split <;> simp_all]
  match j, hj with
  | 0, hj => simp at hj; subst hj; simp
  | 1, hj => simp at hj; subst hj; simp
  | 2, hj => simp at hj; subst hj; simp
  | 3, hj => simp at hj; subst hj; simp
  | 4, hj => simp at hj; subst hj; simp
  | 5, hj => simp at hj; subst hj; simp
  | 6, hj => simp at hj; subst hj; simp
  | 7, hj => simp at hj; subst hj; simp

/-- what parts answers -/
def PtOut (b : Nat) (w : World) (x : Td.St) (e : Ending) (w' : World) : Prop :=
  ∃ v, e = .returned v ∧ w'.ownsRow w.heap.size 29 8 v (Td.sParts x).1.length (rowR idC (Td.sParts x).1) ∧ Rs w' b (Td.sParts x).2 ∧ Kept (fun j => j ≠ b) w w'

set_option maxHeartbeats 4000000 in
set_option maxRecDepth 10000 in
theorem rdparts_any (b : Nat) (x : Td.St) (w : World) (h : Rs w b x) (hx : x.1.length ≤ 1048576) :
    Calls Tryz.prog 118 #[.pointer (some ⟨b, 0, none⟩)] w (PtOut b w x) := by
  unfold PtOut
  obtain ⟨i0, hi, hz0, hz1, hz2⟩ := info_of' tid_info
  have hg := rdnumber_any b 300 x w h (by omega) hx
  have hS : Td.sParts x = Td.sIds (Td.sNum 300 x).1 (Td.sNum 300 x).2 := rfl
  have hnp := Td.sNum_most 300 x
  have hl1 := Td.sNum_len 300 x
  rw [hS]
  rcases hN : Td.sNum 300 x with ⟨np, x1⟩
  rw [hN] at hg hnp hl1
  dsimp only at *
  unfold RsOut at hg
  have HB : Hid (b < w.heap.size) := h.lt
  have HL : Hid (∀ k, (Td.sIds k x1).2.1.length ≤ 1048576) := fun k => by have := Td.sIds_len x1 k; omega
  have HSt : Hid (∀ k, Td.sIds (k + 1) x1 = ((Td.sIds k x1).1 ++ [Td.eight (Td.sByt 8 (Td.sIds k x1).2).1], (Td.sByt 8 (Td.sIds k x1).2).2)) := fun k => rfl
  have HLn : Hid (∀ k, (Td.sIds k x1).1.length = k) := fun k => (Td.sIds_bd x1 k).1
  have H0 : Hid (Td.sIds 0 x1 = ([], x1)) := rfl
  clear h hS hN hx hl1
  go_enter Tryz.func118, Tryz.ntmps118
  go_wp2_with fail
  refine hg.mono ?_
  rintro e w1 ⟨rfl, r1, k1⟩
  have HR1 : Hid (Rs w1 b x1) := r1
  have HK1 : Hid (Kept (fun j => j ≠ b) w w1) := k1
  clear hg r1 k1
  go_wp2_with fail
  go_loopw [3, 7] (fun vo i wr => ∃ k : Nat, k ≤ np ∧ i = .int .i64 k ∧ Hid (Rs wr b (Td.sIds k x1).2) ∧ Hid (wr.ownsRow w.heap.size 29 8 vo k (rowR idC (Td.sIds k x1).1)) ∧ Hid (Kept (fun j => j ≠ b) w wr)) (fun _ i _ => np - (intOf i).toNat)
  case atStart => exact ⟨0, by omega, rfl, HR1, World.ownsRow_nil _ _ _ _, HK1⟩
  case round =>
    clear HR1 HK1
    obtain ⟨k, hk, rfl, HR, HO, HK⟩ := hrel
    obtain ⟨so, co, hvo⟩ := own_len HO.out
    subst hvo
    by_cases hlt : k < np
    · have hst := HSt.out k
      have hlk := HL.out k
      have HLk : Hid ((Td.sIds k x1).1.length = k) := HLn.out k
      have hy8 := Td.sByt_bd 8 (Td.sIds k x1).2
      have hyf := sByt_form (Td.sIds k x1).2 8
      obtain ⟨W1, hW1⟩ : ∃ W1, W1 = wr.alloc (.cells Tz8 29) := ⟨_, rfl⟩
      have hB1 : Below wr.heap.size wr W1 := by rw [hW1]; exact (Below.refl _ wr).alloc (Nat.le_refl _) _
      have HM1 : Hid (W1.heap[wr.heap.size]? = some (.cells Tz8 29 (0, 0))) := by rw [hW1]; exact heap_alloc_new wr _
      have hby := fun W (hW : Rs W b (Td.sIds k x1).2) => rdbytes_any b 8 (Td.sIds k x1).2 W hW (by omega) hlk
      unfold RsOut at hby
      have HR1 : Hid (Rs W1 b (Td.sIds k x1).2) := HR.out.past hB1
      generalize Td.sByt 8 (Td.sIds k x1).2 = Y at *
      obtain ⟨y, x2⟩ := Y
      dsimp only at *
      obtain ⟨M, hM⟩ : ∃ M, M = wr.heap.size := ⟨_, rfl⟩
      go_upto_region 5 with fail
      rw [← hW1, ← hM]
      clear hW1
      have HB1 : Hid (Below wr.heap.size wr W1) := hB1
      have HMe : Hid (M = wr.heap.size) := hM
      rw [← hM] at HM1
      have HMb : Hid (M ≠ b) := by have h1 := HB.out; have h2 := HK.out.size; show _ ≠ _; omega
      clear hM hB1 HR
      have hcp := fun (W : World) (hW : W.heap[M]? = some (.cells Tz8 29 (0, 0))) => cpW_run (y := y) hW hy8
      have hby1 := hby W1.drew (show Rs W1.drew b (Td.sIds k x1).2 from HR1.out)
      clear hby
      go_region_with (go_at_call 140; refine hby1.mono ?_; rintro e w2 ⟨rfl, r2, k2⟩; have HK2 : Hid (Kept (fun j => j ≠ b) W1 w2) := ⟨k2.os, k2.tape, k2.output, k2.size, k2.block⟩; have HR2 : Hid (Rs w2 b x2) := r2; have hcp2 := hcp w2 (HK2.out.obj HMb.out HM1.out); clear r2 k2)
      obtain ⟨W3, hW3⟩ : ∃ W3, W3 = cpW w2 M y := ⟨_, rfl⟩
      have hB3 : Below M w2 W3 := by rw [hW3]; exact cpW_below hyf
      have HM3 : Hid (W3.heap[M]? = some (.cells (idC (Td.eight y)).toArray 29 (0, 0))) := by rw [hW3]; exact cpW_cells (HK2.out.obj HMb.out HM1.out) hyf
      have hbM : b < M := by have h1 := HB.out; have h2 := HK.out.size; have h3 := HMe.out; omega
      have HR3 : Hid (Rs W3 b (Td.sIds (k + 1) x1).2) := by rw [hst]; exact (hB3.block b hbM).trans HR2.out
      have o2 : w2.ownsRow w.heap.size 29 8 (.slice so k co) k (rowR idC (Td.sIds k x1).1) := own_kept (own_below HO.out HB1.out) HK2.out fun g hg => by have := (own_block HO.out hg).choose_spec.2.1; have := HB.out; omega
      have o3 : W3.ownsRow w.heap.size 29 8 (.slice so k co) k (rowR idC (Td.sIds k x1).1) := own_kept o2 (Kept.of_below_at (p := fun j => j < M) hB3 fun _ q => q) fun g hg => by have := (own_block HO.out hg).choose_spec.2.2; rw [HMe.out]; exact this
      have HK3 : Hid (Kept (fun j => j ≠ b) w W3) := ((HK.out.trans (Kept.of_below HB1.out)).trans HK2.out).then hB3 (by rw [HMe.out]; exact HK.out.size)
      have hsz3 : w.heap.size ≤ W3.heap.size := HK3.out.size
      obtain ⟨b0, b1, b2, b3, b4, b5, b6, b7, hE8⟩ : ∃ b0 b1 b2 b3 b4 b5 b6 b7, Td.eight y = [b0, b1, b2, b3, b4, b5, b6, b7] := by
        have h8 := Td.eight_len hy8
        match Td.eight y, h8 with
        | [b0, b1, b2, b3, b4, b5, b6, b7], _ => exact ⟨b0, b1, b2, b3, b4, b5, b6, b7, rfl⟩
      have HId : Hid ((Td.sIds (k + 1) x1).1 = (Td.sIds k x1).1 ++ [[b0, b1, b2, b3, b4, b5, b6, b7]]) := by show _ = _; rw [hst, hE8]
      rw [hE8] at HM3
      have z0 : W3.cell? ⟨M, 0, none⟩ = some (.int .u8 (b0.toNat : Int)) := by rw [cell_of_row _ M 0 _ _ _ HM3.out]; rfl
      have z1 : W3.cell? ⟨M, 1, none⟩ = some (.int .u8 (b1.toNat : Int)) := by rw [cell_of_row _ M 1 _ _ _ HM3.out]; rfl
      have z2 : W3.cell? ⟨M, 2, none⟩ = some (.int .u8 (b2.toNat : Int)) := by rw [cell_of_row _ M 2 _ _ _ HM3.out]; rfl
      have z3 : W3.cell? ⟨M, 3, none⟩ = some (.int .u8 (b3.toNat : Int)) := by rw [cell_of_row _ M 3 _ _ _ HM3.out]; rfl
      have z4 : W3.cell? ⟨M, 4, none⟩ = some (.int .u8 (b4.toNat : Int)) := by rw [cell_of_row _ M 4 _ _ _ HM3.out]; rfl
      have z5 : W3.cell? ⟨M, 5, none⟩ = some (.int .u8 (b5.toNat : Int)) := by rw [cell_of_row _ M 5 _ _ _ HM3.out]; rfl
      have z6 : W3.cell? ⟨M, 6, none⟩ = some (.int .u8 (b6.toNat : Int)) := by rw [cell_of_row _ M 6 _ _ _ HM3.out]; rfl
      have z7 : W3.cell? ⟨M, 7, none⟩ = some (.int .u8 (b7.toNat : Int)) := by rw [cell_of_row _ M 7 _ _ _ HM3.out]; rfl
      rw [← hW3]
      clear hW3 hB3 HM3 HR2 o2 hcp2 HK2 hby1 hcp hst hlk hy8 hyf hE8 HR1 HM1 HB1 HO HK HMe HMb hbM
      obtain ⟨RW, hr⟩ : ∃ RW, rowR idC (Td.sIds k x1).1 = RW := ⟨_, rfl⟩
      have HRW : Hid (rowR idC (Td.sIds k x1).1 = RW) := hr
      rw [hr] at o3
      clear hr
      go_wp2_with (at_builtin; refine wpList_append_own _ rfl (.tmp 13) (.tmp 15) 53 rfl w.heap.size 29 i0 (.agg Tz8) 8 8 Tryz.underlying53 hi hz0 hz1 hz2 rfl (by decide) _ _ _ rfl (o3.alloc _) ⟨W3.heap.size, 0, none⟩ 1 1 [.int .u8 (b0.toNat : Int), .int .u8 (b1.toNat : Int), .int .u8 (b2.toNat : Int), .int .u8 (b3.toNat : Int), .int .u8 (b4.toNat : Int), .int .u8 (b5.toNat : Int), .int .u8 (b6.toNat : Int), .int .u8 (b7.toNat : Int)] rfl rfl (tg_new8 W3 _ _ _ _ _ _ _ _) ?c2 ?c3 ?c4 ?c5 ?_)
      case c2 => simp [Value.oneCell']
      case c3 => unfold maxLen; omega
      case c4 => omega
      case c5 => first | omega | (simp; omega)
      intro v6 w5 o5 hgrow _
      have hb3 : Below W3.heap.size W3 (W3.alloc (.cells #[.int .u8 (b0.toNat : Int), .int .u8 (b1.toNat : Int), .int .u8 (b2.toNat : Int), .int .u8 (b3.toNat : Int), .int .u8 (b4.toNat : Int), .int .u8 (b5.toNat : Int), .int .u8 (b6.toNat : Int), .int .u8 (b7.toNat : Int)] 29)) := (Below.refl _ W3).alloc (Nat.le_refl _) _
      have hlt3 : ∀ g, (Value.slice so k co).ownBlock = some g → w.heap.size ≤ g := fun g hg => (own_block o3 hg).choose_spec.2.1
      have HO5 : Hid (w5.ownsRow w.heap.size 29 8 v6 (k + 1) (rowR idC (Td.sIds (k + 1) x1).1)) := by
        show World.ownsRow _ _ _ _ _ _ _
        rw [HId.out, rowR_more, HRW.out]
        exact o5
      have HR5 : Hid (Rs w5 b (Td.sIds (k + 1) x1).2) := by
        refine (hgrow.block b (Nat.lt_of_lt_of_le HR3.out.lt hb3.size) fun e => ?_).trans (HR3.out.past hb3)
        have := hlt3 b e.symm
        have := HB.out
        omega
      have HK5 : Hid (Kept (fun j => j ≠ b) w w5) := by
        have hz : Kept (fun j => j ≠ b) w (W3.alloc (.cells #[.int .u8 (b0.toNat : Int), .int .u8 (b1.toNat : Int), .int .u8 (b2.toNat : Int), .int .u8 (b3.toNat : Int), .int .u8 (b4.toNat : Int), .int .u8 (b5.toNat : Int), .int .u8 (b6.toNat : Int), .int .u8 (b7.toNat : Int)] 29)) := HK3.out.alloc _
        exact ⟨hgrow.os.trans hz.os, hgrow.tape.trans hz.tape, hgrow.output.trans hz.output, Nat.le_trans hz.size hgrow.size, fun j hj hp => (hgrow.block j (Nat.lt_of_lt_of_le hj hz.size) fun e => by have := hlt3 j e.symm; omega).trans (hz.block j hj hp)⟩
      clear o5 hgrow o3 hb3 hlt3 HR3 HK3 HId HRW z0 z1 z2 z3 z4 z5 z6 z7
      go_wp2_with fail
      go_roundw
      case measure => simp only [intOf]; omega
      case rel => exact ⟨k + 1, by omega, by go_num, HR5, HO5, HK5⟩
    · obtain rfl : k = np := by omega
      have HLk : Hid ((Td.sIds k x1).1.length = k) := HLn.out k
      go_wp2_with fail
      go_ret
      exact ⟨_, rfl, by rw [HLk.out]; exact HO.out, HR.out, HK.out⟩

end Go.Proofs.YtimdioacmojkeaaGreatDoor

namespace Go.Proofs.YtimdioacmojkeaaGreatDoor
open Go.RowKit
set_option maxRecDepth 4000

/-- two nodes in blocks of their own: the answer, and the one that is filled; a reader in block br -/
structure R3 (w W : World) (br b : Nat) (x0 x1 x2 x3 x4 x5 x6 : Value) : Prop where
  res : W.heap[b]? = some (.cells #[.string ⟨#[]⟩, .int .i64 0, .int .i64 0, .int .i64 0, .int .i64 0, .slice none 0 0, .string ⟨#[]⟩] 89 (0, 0))
  str : W.heap[b + 1]? = some (.cells #[x0, x1, x2, x3, x4, x5, x6] 89 (0, 0))
  kept : Kept (fun j => j ≠ br) w W
  at_ : w.heap.size = b
  lt : br < b

section
variable {w W W' : World} {br b : Nat} {x0 x1 x2 x3 x4 x5 x6 y : Value} {x : Td.St}
theorem R3.past (h : R3 w W br b x0 x1 x2 x3 x4 x5 x6) (hk : Kept (fun j => j ≠ br) W W') : R3 w W' br b x0 x1 x2 x3 x4 x5 x6 :=
  ⟨hk.obj (by have := h.lt; omega) h.res, hk.obj (by have := h.lt; omega) h.str, h.kept.trans hk, h.at_, h.lt⟩

theorem R3.setAt (h : R3 w W br b x0 x1 x2 x3 x4 x5 x6) (j : Nat) (y : Value) {y0 y1 y2 y3 y4 y5 y6 : Value} (e : (#[x0, x1, x2, x3, x4, x5, x6] : Array Value).setIfInBounds j y = #[y0, y1, y2, y3, y4, y5, y6]) :
    R3 w (W.setCell ⟨b + 1, j, none⟩ y) br b y0 y1 y2 y3 y4 y5 y6 := by
  refine ⟨?_, ?_, h.kept.then ((Below.refl (b + 1) W).setCell (p := ⟨b + 1, j, none⟩) (Nat.le_refl _) _) (by have := h.at_; omega), h.at_, h.lt⟩
  · rw [Below.heap_setCell _ _ _ _ (by simp)]; exact h.res
  · rw [← e]
    simp [World.setCell, Array.getElem?_modify, h.str]

theorem R3.rs (h : R3 w W br b x0 x1 x2 x3 x4 x5 x6) (hr : Rs W br x) (j : Nat) (y : Value) : Rs (W.setCell ⟨b + 1, j, none⟩ y) br x := by
  unfold Rs
  rw [Below.heap_setCell _ _ _ _ (by have := h.lt; simp; omega)]
  exact hr

end

/-- what node answers -/
def NoOut (br : Nat) (w : World) (x : Td.St) (e : Ending) (w' : World) : Prop :=
  ∃ (n : Nod) (v : Value), e = .returned (ndV n v) ∧ n.nd = (Td.sNode x).1 ∧ w'.ownsRow w.heap.size 29 8 v n.parts.length (rowR idC n.parts) ∧ n.Ok ∧ Rs w' br (Td.sNode x).2 ∧ Kept (fun j => j ≠ br) w w'

set_option maxHeartbeats 8000000 in
set_option maxRecDepth 10000 in
theorem rdnode_any (br : Nat) (x : Td.St) (w : World) (h : Rs w br x) (hx : x.1.length ≤ 1048576) :
    Calls Tryz.prog 87 #[.pointer (some ⟨br, 0, none⟩)] w (NoOut br w x) := by
  unfold NoOut
  obtain ⟨R, hR⟩ : ∃ R, Td.sNode x = R := ⟨_, rfl⟩
  have HR : Hid (Td.sNode x = R) := hR
  rw [hR]
  clear hR
  obtain ⟨W0, hW0⟩ : ∃ W0, W0 = (w.alloc (.cells #[.string ⟨#[]⟩, .int .i64 0, .int .i64 0, .int .i64 0, .int .i64 0, .slice none 0 0, .string ⟨#[]⟩] 89)).alloc (.cells #[.string ⟨#[]⟩, .int .i64 0, .int .i64 0, .int .i64 0, .int .i64 0, .slice none 0 0, .string ⟨#[]⟩] 89) := ⟨_, rfl⟩
  have hB0 : Below w.heap.size w W0 := by rw [hW0]; exact ((Below.refl _ w).alloc (Nat.le_refl _) _).alloc (by simp) _
  have HA : Hid (R3 w W0 br w.heap.size (.string ⟨#[]⟩) (.int .i64 0) (.int .i64 0) (.int .i64 0) (.int .i64 0) (.slice none 0 0) (.string ⟨#[]⟩)) := by
    refine ⟨?_, ?_, Kept.of_below hB0, rfl, h.lt⟩
    · rw [hW0]
      exact ((Below.refl _ (w.alloc (.cells #[.string ⟨#[]⟩, .int .i64 0, .int .i64 0, .int .i64 0, .int .i64 0, .slice none 0 0, .string ⟨#[]⟩] 89))).alloc (Nat.le_refl _) _).block w.heap.size (by simp) ▸ heap_alloc_new w _
    · rw [hW0]
      have := heap_alloc_new (w.alloc (.cells #[.string ⟨#[]⟩, .int .i64 0, .int .i64 0, .int .i64 0, .int .i64 0, .slice none 0 0, .string ⟨#[]⟩] 89)) (.cells #[.string ⟨#[]⟩, .int .i64 0, .int .i64 0, .int .i64 0, .int .i64 0, .slice none 0 0, .string ⟨#[]⟩] 89)
      simpa using this
  have HRs : Hid (Rs W0 br x) := h.past hB0
  clear hB0 h
  obtain ⟨b, hb⟩ : ∃ b, b = w.heap.size := ⟨_, rfl⟩
  have HWb : Hid (b = w.heap.size) := hb
  rw [← hb] at HA
  go_enter Tryz.func87, Tryz.ntmps87
  go_upto_region 2 with fail
  rw [← hW0, ← hb]
  clear hW0 hb
  have hcall := rdtext_any br x W0 HRs.out hx
  have hbd0 := Td.sTxt_bd x
  have hln := Td.sTxt_len x
  unfold RsOut at hcall
  rcases hE : Td.sTxt x with ⟨t0, x1⟩
  rw [hE] at hcall hbd0 hln
  have HE0 : Hid (Td.sTxt x = (t0, x1)) := hE
  replace hx : x1.1.length ≤ 1048576 := Nat.le_trans hln hx
  dsimp only at hcall hbd0
  clear hE hln
  go_wp2_with fail
  refine hcall.mono ?_
  rintro e w1 ⟨rfl, r0, k0⟩
  have HP := HA.out.past k0
  obtain ⟨c_0, c_1, c_2, c_3, c_4, c_5, c_6⟩ := seven_at HP.str
  obtain ⟨z_0, z_1, z_2, z_3, z_4, z_5, z_6⟩ := seven_fz HP.str
  obtain ⟨WN, hWN⟩ : ∃ WN, WN = w1.setCell ⟨b + 1, 0, none⟩ (.string ⟨t0.toArray⟩) := ⟨_, rfl⟩
  have HA' : Hid (R3 w WN br b (.string ⟨t0.toArray⟩) (.int .i64 0) (.int .i64 0) (.int .i64 0) (.int .i64 0) (.slice none 0 0) (.string ⟨#[]⟩)) := by rw [hWN]; exact HP.setAt 0 _ rfl
  have HRs' : Hid (Rs WN br x1) := by rw [hWN]; exact HP.rs r0 0 _
  clear HP hcall HA HRs r0 k0
  go_upto_region 3 with fail
  rw [← hWN]
  clear hWN c_0 c_1 c_2 c_3 c_4 c_5 c_6 z_0 z_1 z_2 z_3 z_4 z_5 z_6 w1
  have HA := HA'
  have HRs := HRs'
  clear HA' HRs'
  generalize WN = V1 at *
  have hcall := rdkind_any br x1 V1 HRs.out hx
  have hbd1 := Td.sKind_bd x1
  have hln := Td.sKind_len x1
  unfold RsOut at hcall
  rcases hE : Td.sKind x1 with ⟨t1, x2⟩
  rw [hE] at hcall hbd1 hln
  have HE1 : Hid (Td.sKind x1 = (t1, x2)) := hE
  replace hx : x2.1.length ≤ 1048576 := Nat.le_trans hln hx
  dsimp only at hcall hbd1
  clear hE hln
  go_wp2_with fail
  refine hcall.mono ?_
  rintro e w2 ⟨rfl, r1, k1⟩
  have HP := HA.out.past k1
  obtain ⟨c_0, c_1, c_2, c_3, c_4, c_5, c_6⟩ := seven_at HP.str
  obtain ⟨z_0, z_1, z_2, z_3, z_4, z_5, z_6⟩ := seven_fz HP.str
  obtain ⟨WN, hWN⟩ : ∃ WN, WN = w2.setCell ⟨b + 1, 1, none⟩ (.int .i64 (t1 : Nat)) := ⟨_, rfl⟩
  have HA' : Hid (R3 w WN br b (.string ⟨t0.toArray⟩) (.int .i64 (t1 : Nat)) (.int .i64 0) (.int .i64 0) (.int .i64 0) (.slice none 0 0) (.string ⟨#[]⟩)) := by rw [hWN]; exact HP.setAt 1 _ rfl
  have HRs' : Hid (Rs WN br x2) := by rw [hWN]; exact HP.rs r1 1 _
  clear HP hcall HA HRs r1 k1
  go_upto_region 4 with fail
  rw [← hWN]
  clear hWN c_0 c_1 c_2 c_3 c_4 c_5 c_6 z_0 z_1 z_2 z_3 z_4 z_5 z_6 w2
  have HA := HA'
  have HRs := HRs'
  clear HA' HRs'
  generalize WN = V2 at *
  have hcall := rdnumber_any br 511 x2 V2 HRs.out (by omega) hx
  have hbd2 := Td.sNum_most 511 x2
  have hln := Td.sNum_len 511 x2
  unfold RsOut at hcall
  rcases hE : Td.sNum 511 x2 with ⟨t2, x3⟩
  rw [hE] at hcall hbd2 hln
  have HE2 : Hid (Td.sNum 511 x2 = (t2, x3)) := hE
  replace hx : x3.1.length ≤ 1048576 := Nat.le_trans hln hx
  dsimp only at hcall hbd2
  clear hE hln
  go_wp2_with fail
  refine hcall.mono ?_
  rintro e w3 ⟨rfl, r2, k2⟩
  have HP := HA.out.past k2
  obtain ⟨c_0, c_1, c_2, c_3, c_4, c_5, c_6⟩ := seven_at HP.str
  obtain ⟨z_0, z_1, z_2, z_3, z_4, z_5, z_6⟩ := seven_fz HP.str
  obtain ⟨WN, hWN⟩ : ∃ WN, WN = w3.setCell ⟨b + 1, 2, none⟩ (.int .i64 (t2 : Nat)) := ⟨_, rfl⟩
  have HA' : Hid (R3 w WN br b (.string ⟨t0.toArray⟩) (.int .i64 (t1 : Nat)) (.int .i64 (t2 : Nat)) (.int .i64 0) (.int .i64 0) (.slice none 0 0) (.string ⟨#[]⟩)) := by rw [hWN]; exact HP.setAt 2 _ rfl
  have HRs' : Hid (Rs WN br x3) := by rw [hWN]; exact HP.rs r2 2 _
  clear HP hcall HA HRs r2 k2
  go_upto_region 5 with fail
  rw [← hWN]
  clear hWN c_0 c_1 c_2 c_3 c_4 c_5 c_6 z_0 z_1 z_2 z_3 z_4 z_5 z_6 w3
  have HA := HA'
  have HRs := HRs'
  clear HA' HRs'
  generalize WN = V3 at *
  have hcall := rdsigned_any br x3 V3 HRs.out hx
  have hbd3 := Td.sInt_bd x3
  have hln := Td.sInt_len x3
  unfold RsOut at hcall
  rcases hE : Td.sInt x3 with ⟨t3, x4⟩
  rw [hE] at hcall hbd3 hln
  have HE3 : Hid (Td.sInt x3 = (t3, x4)) := hE
  replace hx : x4.1.length ≤ 1048576 := Nat.le_trans hln hx
  dsimp only at hcall hbd3
  clear hE hln
  go_wp2_with fail
  refine hcall.mono ?_
  rintro e w4 ⟨rfl, r3, k3⟩
  have HP := HA.out.past k3
  obtain ⟨c_0, c_1, c_2, c_3, c_4, c_5, c_6⟩ := seven_at HP.str
  obtain ⟨z_0, z_1, z_2, z_3, z_4, z_5, z_6⟩ := seven_fz HP.str
  obtain ⟨WN, hWN⟩ : ∃ WN, WN = w4.setCell ⟨b + 1, 3, none⟩ (.int .i64 t3) := ⟨_, rfl⟩
  have HA' : Hid (R3 w WN br b (.string ⟨t0.toArray⟩) (.int .i64 (t1 : Nat)) (.int .i64 (t2 : Nat)) (.int .i64 t3) (.int .i64 0) (.slice none 0 0) (.string ⟨#[]⟩)) := by rw [hWN]; exact HP.setAt 3 _ rfl
  have HRs' : Hid (Rs WN br x4) := by rw [hWN]; exact HP.rs r3 3 _
  clear HP hcall HA HRs r3 k3
  go_upto_region 6 with fail
  rw [← hWN]
  clear hWN c_0 c_1 c_2 c_3 c_4 c_5 c_6 z_0 z_1 z_2 z_3 z_4 z_5 z_6 w4
  have HA := HA'
  have HRs := HRs'
  clear HA' HRs'
  generalize WN = V4 at *
  have hcall := rdnumber_any br 4096 x4 V4 HRs.out (by omega) hx
  have hbd4 := Td.sNum_most 4096 x4
  have hln := Td.sNum_len 4096 x4
  unfold RsOut at hcall
  rcases hE : Td.sNum 4096 x4 with ⟨t4, x5⟩
  rw [hE] at hcall hbd4 hln
  have HE4 : Hid (Td.sNum 4096 x4 = (t4, x5)) := hE
  replace hx : x5.1.length ≤ 1048576 := Nat.le_trans hln hx
  dsimp only at hcall hbd4
  clear hE hln
  go_wp2_with fail
  refine hcall.mono ?_
  rintro e w5 ⟨rfl, r4, k4⟩
  have HP := HA.out.past k4
  obtain ⟨c_0, c_1, c_2, c_3, c_4, c_5, c_6⟩ := seven_at HP.str
  obtain ⟨z_0, z_1, z_2, z_3, z_4, z_5, z_6⟩ := seven_fz HP.str
  obtain ⟨WN, hWN⟩ : ∃ WN, WN = w5.setCell ⟨b + 1, 4, none⟩ (.int .i64 (t4 : Nat)) := ⟨_, rfl⟩
  have HA' : Hid (R3 w WN br b (.string ⟨t0.toArray⟩) (.int .i64 (t1 : Nat)) (.int .i64 (t2 : Nat)) (.int .i64 t3) (.int .i64 (t4 : Nat)) (.slice none 0 0) (.string ⟨#[]⟩)) := by rw [hWN]; exact HP.setAt 4 _ rfl
  have HRs' : Hid (Rs WN br x5) := by rw [hWN]; exact HP.rs r4 4 _
  clear HP hcall HA HRs r4 k4
  go_upto_region 7 with fail
  rw [← hWN]
  clear hWN c_0 c_1 c_2 c_3 c_4 c_5 c_6 z_0 z_1 z_2 z_3 z_4 z_5 z_6 w5
  have HA := HA'
  have HRs := HRs'
  clear HA' HRs'
  generalize WN = V5 at *
  have hcall := rdparts_any br x5 V5 HRs.out hx
  have hbd5 := Td.sParts_bd x5
  have hln := Td.sParts_len x5
  unfold PtOut at hcall
  rcases hE : Td.sParts x5 with ⟨t5, x6⟩
  rw [hE] at hcall hbd5 hln
  have HE5 : Hid (Td.sParts x5 = (t5, x6)) := hE
  replace hx : x6.1.length ≤ 1048576 := Nat.le_trans hln hx
  dsimp only at hcall hbd5
  clear hE hln
  go_wp2_with fail
  refine hcall.mono ?_
  rintro e w6 ⟨v5, rfl, o5, r5, k5⟩
  obtain ⟨a5, c5, rfl⟩ := own_len o5
  have HO : Hid (w6.ownsRow (b + 2) 29 8 (.slice a5 t5.length c5) t5.length (rowR idC t5)) := own_lower o5 (Array.getElem?_eq_some_iff.1 HA.out.str).1
  have HP := HA.out.past k5
  obtain ⟨c_0, c_1, c_2, c_3, c_4, c_5, c_6⟩ := seven_at HP.str
  obtain ⟨z_0, z_1, z_2, z_3, z_4, z_5, z_6⟩ := seven_fz HP.str
  obtain ⟨WN, hWN⟩ : ∃ WN, WN = w6.setCell ⟨b + 1, 5, none⟩ (.slice a5 t5.length c5) := ⟨_, rfl⟩
  have HA' : Hid (R3 w WN br b (.string ⟨t0.toArray⟩) (.int .i64 (t1 : Nat)) (.int .i64 (t2 : Nat)) (.int .i64 t3) (.int .i64 (t4 : Nat)) (.slice a5 t5.length c5) (.string ⟨#[]⟩)) := by rw [hWN]; exact HP.setAt 5 _ rfl
  have HRs' : Hid (Rs WN br x6) := by rw [hWN]; exact HP.rs r5 5 _
  have HO' : Hid (WN.ownsRow (b + 2) 29 8 (.slice a5 t5.length c5) t5.length (rowR idC t5)) := by rw [hWN]; exact own_kept HO.out ((Kept.refl (fun k => k ≠ b + 1) _).setCell (by simp) _) fun g hg => by have := own_ge HO.out hg; omega
  clear HP hcall HA HRs r5 k5 HO o5
  go_upto_region 8 with fail
  rw [← hWN]
  clear hWN c_0 c_1 c_2 c_3 c_4 c_5 c_6 z_0 z_1 z_2 z_3 z_4 z_5 z_6 w6
  have HA := HA'
  have HRs := HRs'
  clear HA' HRs'
  have HO := HO'
  clear HO'
  generalize WN = V6 at *
  have hcall := rdtext_any br x6 V6 HRs.out hx
  have hbd6 := Td.sTxt_bd x6
  have hln := Td.sTxt_len x6
  unfold RsOut at hcall
  rcases hE : Td.sTxt x6 with ⟨t6, x7⟩
  rw [hE] at hcall hbd6 hln
  have HE6 : Hid (Td.sTxt x6 = (t6, x7)) := hE
  replace hx : x7.1.length ≤ 1048576 := Nat.le_trans hln hx
  dsimp only at hcall hbd6
  clear hE hln
  go_wp2_with fail
  refine hcall.mono ?_
  rintro e w7 ⟨rfl, r6, k6⟩
  have HO6 : Hid (w7.ownsRow (b + 2) 29 8 (.slice a5 t5.length c5) t5.length (rowR idC t5)) := own_kept HO.out k6 fun g hg => by have := own_ge HO.out hg; have := HA.out.lt; omega
  have HP := HA.out.past k6
  obtain ⟨c_0, c_1, c_2, c_3, c_4, c_5, c_6⟩ := seven_at HP.str
  obtain ⟨z_0, z_1, z_2, z_3, z_4, z_5, z_6⟩ := seven_fz HP.str
  obtain ⟨WN, hWN⟩ : ∃ WN, WN = w7.setCell ⟨b + 1, 6, none⟩ (.string ⟨t6.toArray⟩) := ⟨_, rfl⟩
  have HA' : Hid (R3 w WN br b (.string ⟨t0.toArray⟩) (.int .i64 (t1 : Nat)) (.int .i64 (t2 : Nat)) (.int .i64 t3) (.int .i64 (t4 : Nat)) (.slice a5 t5.length c5) (.string ⟨t6.toArray⟩)) := by rw [hWN]; exact HP.setAt 6 _ rfl
  have HRs' : Hid (Rs WN br x7) := by rw [hWN]; exact HP.rs r6 6 _
  have HO' : Hid (WN.ownsRow (b + 2) 29 8 (.slice a5 t5.length c5) t5.length (rowR idC t5)) := by rw [hWN]; exact own_kept HO6.out ((Kept.refl (fun k => k ≠ b + 1) _).setCell (by simp) _) fun g hg => by have := own_ge HO6.out hg; omega
  clear HP hcall HA HRs r6 k6 HO HO6
  go_upto_region 9 with fail
  rw [← hWN]
  clear hWN c_0 c_1 c_2 c_3 c_4 c_5 c_6 z_0 z_1 z_2 z_3 z_4 z_5 z_6 w7
  have HA := HA'
  have HRs := HRs'
  clear HA' HRs'
  have HO := HO'
  clear HO'
  generalize WN = V7 at *
  obtain ⟨m0, m1, m2, m3, m4, m5, m6⟩ := seven_at HA.out.str
  obtain ⟨r0, r1, r2, r3, r4, r5, r6⟩ := seven_at HA.out.res
  obtain ⟨f0, f1, f2, f3, f4, f5, f6⟩ := seven_fz HA.out.res
  have HSv : Hid ((((((((V7.setCell ⟨b, 0, none⟩ (.string ⟨t0.toArray⟩)).setCell ⟨b, 1, none⟩ (.int .i64 (t1 : Nat))).setCell ⟨b, 2, none⟩ (.int .i64 (t2 : Nat))).setCell ⟨b, 3, none⟩ (.int .i64 t3)).setCell ⟨b, 4, none⟩ (.int .i64 (t4 : Nat))).setCell ⟨b, 5, none⟩ (.slice a5 t5.length c5)).setCell ⟨b, 6, none⟩ (.string ⟨t6.toArray⟩)).heap[b]? = some (.cells #[.string ⟨t0.toArray⟩, .int .i64 (t1 : Nat), .int .i64 (t2 : Nat), .int .i64 t3, .int .i64 (t4 : Nat), .slice a5 t5.length c5, .string ⟨t6.toArray⟩] 89 (0, 0))) := set_seven HA.out.res _ _ _ _ _ _ _
  have HKf : Hid (Kept (fun j => j ≠ b) V7 (((((((V7.setCell ⟨b, 0, none⟩ (.string ⟨t0.toArray⟩)).setCell ⟨b, 1, none⟩ (.int .i64 (t1 : Nat))).setCell ⟨b, 2, none⟩ (.int .i64 (t2 : Nat))).setCell ⟨b, 3, none⟩ (.int .i64 t3)).setCell ⟨b, 4, none⟩ (.int .i64 (t4 : Nat))).setCell ⟨b, 5, none⟩ (.slice a5 t5.length c5)).setCell ⟨b, 6, none⟩ (.string ⟨t6.toArray⟩))) := kept7 V7 b _ _ _ _ _ _ _
  have hlt := HA.out.lt
  have HFin : Hid (((((((((V7.setCell ⟨b, 0, none⟩ (.string ⟨t0.toArray⟩)).setCell ⟨b, 1, none⟩ (.int .i64 (t1 : Nat))).setCell ⟨b, 2, none⟩ (.int .i64 (t2 : Nat))).setCell ⟨b, 3, none⟩ (.int .i64 t3)).setCell ⟨b, 4, none⟩ (.int .i64 (t4 : Nat))).setCell ⟨b, 5, none⟩ (.slice a5 t5.length c5)).setCell ⟨b, 6, none⟩ (.string ⟨t6.toArray⟩)).ownsRow w.heap.size 29 8 (.slice a5 t5.length c5) t5.length (rowR idC t5)) ∧ Rs (((((((V7.setCell ⟨b, 0, none⟩ (.string ⟨t0.toArray⟩)).setCell ⟨b, 1, none⟩ (.int .i64 (t1 : Nat))).setCell ⟨b, 2, none⟩ (.int .i64 (t2 : Nat))).setCell ⟨b, 3, none⟩ (.int .i64 t3)).setCell ⟨b, 4, none⟩ (.int .i64 (t4 : Nat))).setCell ⟨b, 5, none⟩ (.slice a5 t5.length c5)).setCell ⟨b, 6, none⟩ (.string ⟨t6.toArray⟩)) br x7 ∧ Kept (fun j => j ≠ br) w (((((((V7.setCell ⟨b, 0, none⟩ (.string ⟨t0.toArray⟩)).setCell ⟨b, 1, none⟩ (.int .i64 (t1 : Nat))).setCell ⟨b, 2, none⟩ (.int .i64 (t2 : Nat))).setCell ⟨b, 3, none⟩ (.int .i64 t3)).setCell ⟨b, 4, none⟩ (.int .i64 (t4 : Nat))).setCell ⟨b, 5, none⟩ (.slice a5 t5.length c5)).setCell ⟨b, 6, none⟩ (.string ⟨t6.toArray⟩))) := by
    refine ⟨own_lower (own_kept HO.out HKf.out fun g hg => by have := own_ge HO.out hg; omega) (by rw [← HWb.out]; omega), HKf.out.obj (by omega) HRs.out, ?_⟩
    exact ⟨HKf.out.os.trans HA.out.kept.os, HKf.out.tape.trans HA.out.kept.tape, HKf.out.output.trans HA.out.kept.output, Nat.le_trans HA.out.kept.size HKf.out.size, fun j hj hp => (HKf.out.block j (Nat.lt_of_lt_of_le hj HA.out.kept.size) (by have := HWb.out; omega)).trans (HA.out.kept.block j hj hp)⟩
  have HNd : Hid (R = (⟨t0, (t1 : Nat), (t2 : Nat), t3, (t4 : Nat), t5, t6⟩, x7)) := by
    show _ = _
    rw [← HR.out, Td.sNode, HE0.out]
    simp only [HE1.out, HE2.out, HE3.out, HE4.out, HE5.out, HE6.out]
  have HOk : Hid (Nod.Ok ⟨⟨t0.toArray⟩, (t1 : Nat), (t2 : Nat), t3, (t4 : Nat), t5, ⟨t6.toArray⟩⟩) := ⟨wf_i (n := (t1 : Nat)) (by omega) (by omega), wf_i (n := (t2 : Nat)) (by omega) (by omega), wf_i hbd3.1 hbd3.2, wf_i (n := (t4 : Nat)) (by omega) (by omega), by show ByteArray.size _ ≤ _; rw [tg_size]; omega, by show ByteArray.size _ ≤ _; rw [tg_size]; omega, hbd5.2⟩
  clear HKf HA HRs HO HE0 HE1 HE2 HE3 HE4 HE5 HE6 HR hbd0 hbd1 hbd2 hbd3 hbd4 hbd5 hbd6 hx
  go_wp2_with fail
  obtain ⟨WF, hWF⟩ : ∃ WF, WF = (((((((V7.setCell ⟨b, 0, none⟩ (.string ⟨t0.toArray⟩)).setCell ⟨b, 1, none⟩ (.int .i64 (t1 : Nat))).setCell ⟨b, 2, none⟩ (.int .i64 (t2 : Nat))).setCell ⟨b, 3, none⟩ (.int .i64 t3)).setCell ⟨b, 4, none⟩ (.int .i64 (t4 : Nat))).setCell ⟨b, 5, none⟩ (.slice a5 t5.length c5)).setCell ⟨b, 6, none⟩ (.string ⟨t6.toArray⟩)) := ⟨_, rfl⟩
  rw [← hWF] at HFin HSv ⊢
  obtain ⟨q0, q1, q2, q3, q4, q5, q6⟩ := seven_at HSv.out
  refine bodyPost_ret (v := .agg #[.string ⟨t0.toArray⟩, .int .i64 (t1 : Nat), .int .i64 (t2 : Nat), .int .i64 t3, .int .i64 (t4 : Nat), .slice a5 t5.length c5, .string ⟨t6.toArray⟩]) ?_ rfl ⟨⟨⟨t0.toArray⟩, (t1 : Nat), (t2 : Nat), t3, (t4 : Nat), t5, ⟨t6.toArray⟩⟩, .slice a5 t5.length c5, rfl, by rw [HNd.out]; rfl, HFin.out.1, HOk.out, by rw [HNd.out]; exact HFin.out.2.1, HFin.out.2.2⟩
  simp [results, asAddr, go_sem, q0, q1, q2, q3, q4, q5, q6]

end Go.Proofs.YtimdioacmojkeaaGreatDoor

namespace Go.Proofs.YtimdioacmojkeaaGreatDoor
open Go.RowKit
set_option maxRecDepth 4000

set_option maxHeartbeats 400000 in
theorem num_put (n : Int) (w : World) (n0 : 0 ≤ n) (n1 : n ≤ 18446744073709551615) :
    Calls Tryz.prog 90 #[.int .u64 n] w fun e w' => e = .returned (.string ⟨(Nm.put n.toNat).toArray⟩) ∧ Below w.heap.size w w' := by
  have hl := Nm.dig_length_le n.toNat
  go_enter Tryz.func90, Tryz.ntmps90
  go_wp2_with (go_at_call 124; refine (count_any _ _ n0 n1).mono ?_; rintro e w' ⟨rfl, rfl⟩)
  refine (digits_app w'.heap.size _ [UInt8.ofNat ((Nm.dig n.toNat).length : Int).toNat] n _ 0 _ (owns_one _ _ (by omega) (by omega)) (by simp) (by simp) n0 n1 (by omega) (by omega) (by omega) (by omega)).mono ?_
  rintro e w2 ⟨v, rfl, hown, hbel⟩
  have hcv := run_str hown
  have hb : Below w'.heap.size w' w2 := ((Below.refl _ _).alloc (Nat.le_refl _) _).trans hbel
  clear hown hbel
  go_wp2
  go_ret
  exact ⟨by simp [Nm.put, Nm.tn_zero, Nm.dig_low], hb⟩
end Go.Proofs.YtimdioacmojkeaaGreatDoor

namespace Go.Proofs.YtimdioacmojkeaaGreatDoor
open Go.RowKit
set_option maxRecDepth 4000

set_option maxHeartbeats 400000 in
theorem putI_any (n : Int) (w : World) (n0 : -9223372036854775808 ≤ n) (n1 : n ≤ 9223372036854775807) :
    Calls Tryz.prog 92 #[.int .i64 n] w fun e w' => e = .returned (.string ⟨(Nm.putI n).toArray⟩) ∧ Below w.heap.size w w' := by
  by_cases h : n < 0
  · have hl := Nm.dig_length_le (-1 - n).toNat
    have hp : Hid (Nm.putI n = [UInt8.ofNat (127 - ((Nm.dig (-1 - n).toNat).length : Int)).toNat] ++ Nm.tn (255 : Int).toNat (Nm.low ((Nm.dig (-1 - n).toNat).length : Int).toNat (-1 - n).toNat)) := by
      show _ = _
      rw [Nm.putI, if_pos h, Int.toNat_natCast, Nm.dig_low, show (127 - ((Nm.dig (-1 - n).toNat).length : Int)).toNat = 127 - (Nm.dig (-1 - n).toNat).length from by omega]
      rfl
    go_enter Tryz.func92, Tryz.ntmps92
    go_wp2_with (go_at_call 124; refine (count_any (-1 - n) _ (by omega) (by omega)).mono ?_; rintro e w' ⟨rfl, rfl⟩)
    refine (digits_app w'.heap.size _ [UInt8.ofNat (127 - ((Nm.dig (-1 - n).toNat).length : Int)).toNat] _ _ 255 _ (owns_one _ _ (by omega) (by omega)) (by simp) (by simp) (by omega) (by omega) (by omega) (by omega) (by omega) (by omega)).mono ?_
    rintro e w2 ⟨v, rfl, hown, hbel⟩
    rw [← hp.out] at hown
    have hcv := run_str hown
    have hb : Below w'.heap.size w' w2 := ((Below.refl _ _).alloc (Nat.le_refl _) _).trans hbel
    clear hown hbel
    go_wp2
    go_ret
    exact ⟨rfl, hb⟩
  · have hl := Nm.dig_length_le n.toNat
    have hp : Hid (Nm.putI n = [UInt8.ofNat (128 + ((Nm.dig n.toNat).length : Int)).toNat] ++ Nm.tn (0 : Int).toNat (Nm.low ((Nm.dig n.toNat).length : Int).toNat n.toNat)) := by
      show _ = _
      rw [Nm.putI, if_neg h, Int.toNat_natCast, Nm.dig_low, show (128 + ((Nm.dig n.toNat).length : Int)).toNat = 128 + (Nm.dig n.toNat).length from by omega]
      rw [show (0 : Int).toNat = 0 from rfl, Nm.tn_zero]
      rfl
    go_enter Tryz.func92, Tryz.ntmps92
    go_wp2_with (go_at_call 124; refine (count_any n _ (by omega) (by omega)).mono ?_; rintro e w' ⟨rfl, rfl⟩)
    refine (digits_app w'.heap.size _ [UInt8.ofNat (128 + ((Nm.dig n.toNat).length : Int)).toNat] _ _ 0 _ (owns_one _ _ (by omega) (by omega)) (by simp) (by simp) (by omega) (by omega) (by omega) (by omega) (by omega) (by omega)).mono ?_
    rintro e w2 ⟨v, rfl, hown, hbel⟩
    rw [← hp.out] at hown
    have hcv := run_str hown
    have hb : Below w'.heap.size w' w2 := ((Below.refl _ _).alloc (Nat.le_refl _) _).trans hbel
    clear hown hbel
    go_wp2
    go_ret
    exact ⟨rfl, hb⟩
end Go.Proofs.YtimdioacmojkeaaGreatDoor

namespace Go.Proofs.YtimdioacmojkeaaGreatDoor
open Go.RowKit
set_option maxRecDepth 4000

theorem tput9 (n : Nat) : (Nm.put n).length ≤ 9 := Nm.put_length n

/-- a block of another type is not that of a row of bytes -/
theorem tg_apart {base n G : Nat} {v : Value} {xs : List Value} {W : World} {cs : Array Value} {T : TypeId} {fr : Nat × Nat} (h : W.ownsRow base 5 1 v n xs) (hG : W.heap[G]? = some (.cells cs T fr)) (hT : T ≠ 5) : v.ownBlock ≠ some G := by
  intro e
  obtain ⟨cur, hh, _⟩ := own_block h e
  rw [hG, Option.some.injEq, Obj.cells.injEq] at hh
  exact hT hh.2.1

/-- what an appending answers: ys behind xs -/
def ApOut (base : Nat) (v : Value) (xs ys : List UInt8) (w : World) (e : Ending) (w' : World) : Prop :=
  ∃ v', e = .returned v' ∧ w'.ownsRow base 5 1 v' (xs ++ ys).length ((xs ++ ys).map B) ∧ Below base w w' ∧ Kept (fun k => v.ownBlock ≠ some k) w w'

set_option maxHeartbeats 1000000 in
theorem tnum_any (base : Nat) (v : Value) (xs : List UInt8) (n : Nat) (w : World) (hown : w.ownsRow base 5 1 v xs.length (xs.map B)) (hb : base ≤ w.heap.size) (hx : xs.length ≤ 1048576) (hn : n ≤ 1099511627776) :
    Calls Tryz.prog 65 #[v, .int .i64 n] w (ApOut base v xs (Nm.put n) w) := by
  unfold ApOut
  obtain ⟨i0, hi, hz0, hz1, hz2⟩ := info_of' info_u8
  obtain ⟨a, c, rfl⟩ := own_len hown
  have hp := num_put n w (by omega) (by omega)
  rw [Int.toNat_natCast] at hp
  have hl := Nm.dig_length_le n
  go_enter Tryz.func65, Tryz.ntmps65
  go_wp2_with fail
  refine hp.mono ?_
  rintro e w1 ⟨rfl, hb1⟩
  have hown1 := own_below hown hb1
  have hB1 : Below base w w1 := hb1.mono hb
  have hs1 := hB1.size
  have hpl : (Nm.put n).length ≤ 9 := tput9 n
  have HPS : Hid ((⟨(Nm.put n).toArray⟩ : ByteArray).size = (Nm.put n).length) := by show (Nm.put n).toArray.size = _; rw [List.size_toArray]
  have HK1 : Hid (Kept (fun k => (Value.slice a xs.length c).ownBlock ≠ some k) w w1) := Kept.of_below hb1
  clear hp hb1 hown
  obtain ⟨S, hS⟩ : ∃ S : ByteArray, (⟨(Nm.put n).toArray⟩ : ByteArray) = S := ⟨_, rfl⟩
  have HS : Hid (Lib.strCells S = (Nm.put n).map B ∧ S.size = (Nm.put n).length) := by rw [← hS]; exact ⟨rfl, HPS.out⟩
  have hSz : S.size ≤ 9 := by rw [HS.out.2]; exact hpl
  rw [hS]
  clear hS HPS hpl
  go_wp2_with (at_builtin; refine Lib.wpList_append_own_string _ rfl (.tmp 5) (.tmp 8) 84 9 rfl base 5 i0 Tryz.underlying84 Tryz.underlying9 hi hz0 hz1 hz2 _ _ _ rfl hown1 S rfl ?c3 ?c4 ?c5 ?_)
  case c3 => unfold maxLen; omega
  case c4 => omega
  case c5 => omega
  intro v1 w3 hown3 hgrow _
  have HO : Hid (w3.ownsRow base 5 1 v1 (xs ++ Nm.put n).length ((xs ++ Nm.put n).map B)) := by
    rw [HS.out.1, HS.out.2] at hown3
    rw [List.length_append, List.map_append]
    exact hown3
  have HB3 : Hid (Below base w w3) := hB1.grown hgrow (by omega) fun j hj => (hown1.lt j hj).1
  have HK3 : Hid (Kept (fun k => (Value.slice a xs.length c).ownBlock ≠ some k) w w3) := HK1.out.grown hgrow fun k hk hp => hp hk
  clear hown3 hgrow hown1 hB1
  go_wp2_with fail
  go_ret
  exact ⟨_, rfl, HO.out, HB3.out, HK3.out⟩

set_option maxHeartbeats 1000000 in
theorem ttext_any (base : Nat) (v : Value) (xs : List UInt8) (s : ByteArray) (w : World) (hown : w.ownsRow base 5 1 v xs.length (xs.map B)) (hb : base ≤ w.heap.size) (hx : xs.length ≤ 1048576) (hn : s.size ≤ 1024) :
    Calls Tryz.prog 91 #[v, .string s] w (ApOut base v xs (Nm.putT s.data.toList) w) := by
  unfold ApOut
  obtain ⟨i0, hi, hz0, hz1, hz2⟩ := info_of' info_u8
  obtain ⟨a, c, rfl⟩ := own_len hown
  have hp := putT_any s w hn
  have hpl : (Nm.putT s.data.toList).length ≤ 2050 := by have := Nm.putT_length s.data.toList; rw [← Lib.size_eq] at this; omega
  obtain ⟨S, hS⟩ : ∃ S : ByteArray, (⟨(Nm.putT s.data.toList).toArray⟩ : ByteArray) = S := ⟨_, rfl⟩
  have HS : Hid (Lib.strCells S = (Nm.putT s.data.toList).map B ∧ S.size = (Nm.putT s.data.toList).length) := by rw [← hS]; exact ⟨rfl, by show (Nm.putT s.data.toList).toArray.size = _; rw [List.size_toArray]⟩
  have hSz : S.size ≤ 2050 := by rw [HS.out.2]; exact hpl
  rw [hS] at hp
  clear hS hpl
  generalize Nm.putT s.data.toList = Y at *
  go_enter Tryz.func91, Tryz.ntmps91
  go_wp2_with fail
  refine hp.mono ?_
  rintro e w1 ⟨rfl, hb1⟩
  have hown1 := own_below hown hb1
  have hB1 : Below base w w1 := hb1.mono hb
  have hs1 := hB1.size
  have HK1 : Hid (Kept (fun k => (Value.slice a xs.length c).ownBlock ≠ some k) w w1) := Kept.of_below hb1
  clear hp hb1 hown
  go_wp2_with (at_builtin; refine Lib.wpList_append_own_string _ rfl (.tmp 12) (.tmp 13) 84 9 rfl base 5 i0 Tryz.underlying84 Tryz.underlying9 hi hz0 hz1 hz2 _ _ _ rfl hown1 S rfl ?c3 ?c4 ?c5 ?_)
  case c3 => unfold maxLen; omega
  case c4 => omega
  case c5 => omega
  intro v1 w3 hown3 hgrow _
  have HO : Hid (w3.ownsRow base 5 1 v1 (xs ++ Y).length ((xs ++ Y).map B)) := by
    rw [HS.out.1, HS.out.2] at hown3
    rw [List.length_append, List.map_append]
    exact hown3
  have HB3 : Hid (Below base w w3) := hB1.grown hgrow (by omega) fun j hj => (hown1.lt j hj).1
  have HK3 : Hid (Kept (fun k => (Value.slice a xs.length c).ownBlock ≠ some k) w w3) := HK1.out.grown hgrow fun k hk hp => hp hk
  clear hown3 hgrow hown1 hB1
  go_wp2_with fail
  go_ret
  exact ⟨_, rfl, HO.out, HB3.out, HK3.out⟩

/-- a node's cells in block b, bytes S of one's own, older blocks as they were -/
structure Tw (w0 w W : World) (b : Nat) (cs : Array Value) (v : Value) (S : List UInt8) : Prop where
  node : W.heap[b]? = some (.cells cs 89 (0, 0))
  own : W.ownsRow w0.heap.size 5 1 v S.length (S.map B)
  bel : Below w0.heap.size w W
  size : w0.heap.size ≤ W.heap.size

section
variable {w0 w W W' : World} {b : Nat} {cs : Array Value} {v v' : Value} {S Y : List UInt8} {e : Ending}
theorem Tw.ap (h : Tw w0 w W b cs v S) (ho : W'.ownsRow w0.heap.size 5 1 v' (S ++ Y).length ((S ++ Y).map B)) (hb : Below w0.heap.size W W') (hk : Kept (fun k => v.ownBlock ≠ some k) W W') : Tw w0 w W' b cs v' (S ++ Y) :=
  ⟨hk.obj (tg_apart h.own h.node (by decide)) h.node, ho, h.bel.trans hb, Nat.le_trans h.size hb.size⟩

theorem Tw.past (h : Tw w0 w W b cs v S) (hb : Below W.heap.size W W') : Tw w0 w W' b cs v S :=
  ⟨(hb.block _ (Array.getElem?_eq_some_iff.1 h.node).1).trans h.node, own_below h.own hb, h.bel.trans (hb.mono h.size), Nat.le_trans h.size hb.size⟩

theorem Tw.grow {xs : List Value} {n : Nat} (h : Tw w0 w W b cs v S) (hg : W.grownBy W' v.ownBlock) (ho : W'.ownsRow w0.heap.size 5 1 v' n xs) (hn : n = (S ++ Y).length) (hx : xs = (S ++ Y).map B) : Tw w0 w W' b cs v' (S ++ Y) := by
  subst hn hx
  exact ⟨(hg.block _ (Array.getElem?_eq_some_iff.1 h.node).1 (fun e => tg_apart h.own h.node (by decide) e.symm)).trans h.node, ho, h.bel.grown hg h.size fun j hj => (h.own.lt j hj).1, Nat.le_trans h.size hg.size⟩

end

theorem flat_more {l : List (List UInt8)} {k : Nat} (h : k < l.length) : (l.take (k + 1)).flatten = (l.take k).flatten ++ l[k] := by
  rw [List.take_succ_eq_append_getElem h, List.flatten_append, List.flatten_cons, List.flatten_nil, List.append_nil]

theorem tg_eight {t : List UInt8} (h : t.length = 8) : ∃ b0 b1 b2 b3 b4 b5 b6 b7, t = [b0, b1, b2, b3, b4, b5, b6, b7] := by
  match t, h with
  | [b0, b1, b2, b3, b4, b5, b6, b7], _ => exact ⟨b0, b1, b2, b3, b4, b5, b6, b7, rfl⟩

/-- what appendNode answers -/
def AnOut (w0 w : World) (S : List UInt8) (e : Ending) (w' : World) : Prop := ∃ v', e = .returned v' ∧ w'.ownsRow w0.heap.size 5 1 v' S.length (S.map B) ∧ Below w0.heap.size w w'

set_option maxHeartbeats 8000000 in
set_option maxRecDepth 10000 in
theorem tnode_any (w0 w : World) (v : Value) (xs : List UInt8) (name link : ByteArray) (kd md sz : Nat) (time : Int) (parts : List (List UInt8)) (a : Option Addr) (c np : Nat)
    (hB : Below w0.heap.size w0 w) (hown : w.ownsRow w0.heap.size 5 1 v xs.length (xs.map B)) (hx : xs.length ≤ 524288) (hnp : np = parts.length)
    (hP : Rx 8 idC w0 (.slice a np c) parts) (h8 : ∀ p ∈ parts, p.length = 8) (hn : name.size ≤ 1024) (hl : link.size ≤ 1024) (hk : kd ≤ 3) (hm : md ≤ 511) (hz : sz ≤ 4096) (hp : np ≤ 300)
    (ht0 : -9223372036854775808 ≤ time) (ht1 : time ≤ 9223372036854775807) :
    Calls Tryz.prog 66 #[v, .agg #[.string name, .int .i64 (kd : Nat), .int .i64 (md : Nat), .int .i64 time, .int .i64 (sz : Nat), .slice a np c, .string link]] w
      (AnOut w0 w (xs ++ Td.rowT ⟨name.data.toList, (kd : Nat), (md : Nat), time, (sz : Nat), parts, link.data.toList⟩)) := by
  unfold AnOut
  obtain ⟨i0, hi, hz0, hz1, hz2⟩ := info_of' info_u8
  have HRow : Hid (xs ++ Td.rowT ⟨name.data.toList, (kd : Nat), (md : Nat), time, (sz : Nat), parts, link.data.toList⟩ = (((((((xs ++ Nm.putT name.data.toList) ++ [UInt8.ofNat kd]) ++ Nm.put md) ++ Nm.putI time) ++ Nm.put sz) ++ Nm.put np) ++ parts.flatten) ++ Nm.putT link.data.toList) := by
    show _ = _
    rw [hnp]
    simp [Td.rowT]
  generalize xs ++ Td.rowT ⟨name.data.toList, (kd : Nat), (md : Nat), time, (sz : Nat), parts, link.data.toList⟩ = RES at *
  have HPt : Hid (Rx 8 idC w0 (.slice a np c) parts ∧ (∀ p ∈ parts, p.length = 8) ∧ np = parts.length ∧ Below w0.heap.size w0 w) := ⟨hP, h8, hnp, hB⟩
  obtain ⟨av, cv, rfl⟩ := own_len hown
  obtain ⟨W1, hW1⟩ : ∃ W1, W1 = w.alloc (.cells #[.string name, .int .i64 (kd : Nat), .int .i64 (md : Nat), .int .i64 time, .int .i64 (sz : Nat), .slice a np c, .string link] 89) := ⟨_, rfl⟩
  have HW1 : Hid (Tw w0 w W1 w.heap.size #[.string name, .int .i64 (kd : Nat), .int .i64 (md : Nat), .int .i64 time, .int .i64 (sz : Nat), .slice a np c, .string link] (.slice av xs.length cv) xs) := by
    have hb1 : Below w.heap.size w W1 := by rw [hW1]; exact (Below.refl _ w).alloc (Nat.le_refl _) _
    exact ⟨by rw [hW1]; exact heap_alloc_new w _, own_below hown hb1, hb1.mono hB.size, Nat.le_trans hB.size hb1.size⟩
  have htx := fun V s Z W (h1 : W.ownsRow w0.heap.size 5 1 V Z.length (Z.map B)) h2 h3 h4 => ttext_any w0.heap.size V Z s W h1 h2 h3 h4
  have hnu := fun V n Z W (h1 : W.ownsRow w0.heap.size 5 1 V Z.length (Z.map B)) h2 h3 h4 => tnum_any w0.heap.size V Z n W h1 h2 h3 h4
  have hpi := fun W => putI_any time W ht0 ht1
  unfold ApOut at htx hnu
  have hy1 : (Nm.putT name.data.toList).length ≤ 2050 := by have := Nm.putT_length name.data.toList; rw [← Lib.size_eq] at this; omega
  have HY1 : Hid ((Nm.putT link.data.toList).length ≤ 2050) := by have := Nm.putT_length link.data.toList; rw [← Lib.size_eq] at this; show _ ≤ _; omega
  have hy3 := tput9 md
  have hy4 := Nm.putI_length time
  have hy5 := tput9 sz
  have hy6 := tput9 np
  clear hB hown hP h8 hnp
  go_enter Tryz.func66, Tryz.ntmps66
  go_upto_region 1 with fail
  rw [← hW1]
  obtain ⟨b, hb⟩ : ∃ b, b = w.heap.size := ⟨_, rfl⟩
  rw [← hb] at HW1 ⊢
  clear hW1 hb
  obtain ⟨m0, _⟩ := seven_at HW1.out.node
  go_upto_region 2 with (go_at_call 91; refine (htx _ name xs _ HW1.out.own HW1.out.size (by omega) hn).mono ?_; rintro e w2 ⟨v2, rfl, o2, b2, k2⟩)
  have HW2 : Hid (Tw w0 w w2 b #[.string name, .int .i64 (kd : Nat), .int .i64 (md : Nat), .int .i64 time, .int .i64 (sz : Nat), .slice a np c, .string link] v2 (xs ++ Nm.putT name.data.toList)) := HW1.out.ap o2 b2 k2
  clear o2 b2 k2 HW1 m0
  obtain ⟨S1, hS1⟩ : ∃ S1, xs ++ Nm.putT name.data.toList = S1 := ⟨_, rfl⟩
  have hl1 : S1.length ≤ 526400 := by rw [← hS1, List.length_append]; omega
  rw [hS1] at HW2 HRow
  clear hS1 hy1
  obtain ⟨s2, c2, rfl⟩ := own_len HW2.out.own
  -- the kind
  obtain ⟨_, m1, _⟩ := seven_at HW2.out.node
  have hwk : IntKind.u8.wrap (kd : Int) = (kd : Int) := by simp [IntKind.wrap, IntKind.bits, IntKind.signed]; omega
  obtain ⟨W3, hW3⟩ : ∃ W3, W3 = w2.alloc (.cells #[.int .u8 (kd : Int)] 5) := ⟨_, rfl⟩
  have HW3 : Hid (Tw w0 w W3 b #[.string name, .int .i64 (kd : Nat), .int .i64 (md : Nat), .int .i64 time, .int .i64 (sz : Nat), .slice a np c, .string link] (.slice s2 S1.length c2) S1) := by rw [hW3]; exact HW2.out.past ((Below.refl _ w2).alloc (Nat.le_refl _) _)
  have hnews : ∀ j u, ([.int .u8 (kd : Int)] : List Value)[j]? = some u → W3.cell? ((⟨w2.heap.size, 0, none⟩ : Addr).add j) = some u := fun j u hu => by
    rw [hW3, show ((⟨w2.heap.size, 0, none⟩ : Addr).add j) = ⟨w2.heap.size, 0 + j, none⟩ from Addr.add_mid _ _ _, Nat.zero_add, cell_of_row _ w2.heap.size j _ _ _ (heap_alloc_new w2 _)]
    simpa using hu
  have hown3 := HW3.out.own
  have hsz3 := HW3.out.size
  have HM3 : Hid (S1.map B ++ [.int .u8 (kd : Int)] = (S1 ++ [UInt8.ofNat kd]).map B) := by
    show _ = _
    rw [List.map_append]
    congr 1
    show _ = [B (UInt8.ofNat kd)]
    unfold B
    rw [UInt8.toNat_ofNat', Nat.mod_eq_of_lt (by omega)]
  clear HW2
  go_wp2_with (at_builtin; rw [← hW3]; refine wpList_append_own _ rfl (.tmp 11) (.tmp 15) 84 rfl w0.heap.size 5 i0 (.int .u8 0) 1 1 Tryz.underlying84 hi hz0 hz1 hz2 rfl (by decide) _ _ _ rfl hown3 ⟨w2.heap.size, 0, none⟩ 1 1 [.int .u8 (kd : Int)] rfl rfl hnews ?c2 ?c3 ?c4 ?c5 ?_)
  case c2 => intro u hu; rw [List.mem_singleton.1 hu]; rfl
  case c3 => unfold maxLen; omega
  case c4 => omega
  case c5 => exact hsz3
  intro v4 w4 o4 hgrow4 _
  rw [← hW3] at hgrow4
  have HW4 : Hid (Tw w0 w w4 b #[.string name, .int .i64 (kd : Nat), .int .i64 (md : Nat), .int .i64 time, .int .i64 (sz : Nat), .slice a np c, .string link] v4 (S1 ++ [UInt8.ofNat kd])) := HW3.out.grow hgrow4 o4 (by simp) HM3.out
  clear o4 hgrow4 hown3 HW3 hnews hsz3 hW3 m1 HM3 hwk
  obtain ⟨S2, hS2⟩ : ∃ S2, S1 ++ [UInt8.ofNat kd] = S2 := ⟨_, rfl⟩
  have hl2 : S2.length ≤ 526401 := by rw [← hS2, List.length_append, List.length_singleton]; omega
  rw [hS2] at HW4 HRow
  clear hS2
  obtain ⟨s4, c4, rfl⟩ := own_len HW4.out.own
  go_upto_region 3 with fail
  obtain ⟨_, _, m2, _⟩ := seven_at HW4.out.node
  go_upto_region 4 with (go_at_call 65; refine (hnu _ md S2 _ HW4.out.own HW4.out.size (by omega) (by omega)).mono ?_; rintro e w5 ⟨v5, rfl, o5, b5, k5⟩)
  have HW5 : Hid (Tw w0 w w5 b #[.string name, .int .i64 (kd : Nat), .int .i64 (md : Nat), .int .i64 time, .int .i64 (sz : Nat), .slice a np c, .string link] v5 (S2 ++ Nm.put md)) := HW4.out.ap o5 b5 k5
  clear o5 b5 k5 HW4 m2
  obtain ⟨S3, hS3⟩ : ∃ S3, S2 ++ Nm.put md = S3 := ⟨_, rfl⟩
  have hlS3 : S3.length ≤ 526410 := by rw [← hS3, List.length_append]; omega
  rw [hS3] at HW5 HRow
  clear hS3 hy3
  obtain ⟨s5, c5, rfl⟩ := own_len HW5.out.own
  obtain ⟨_, _, _, m3, _⟩ := seven_at HW5.out.node
  obtain ⟨S, hS⟩ : ∃ S : ByteArray, (⟨(Nm.putI time).toArray⟩ : ByteArray) = S := ⟨_, rfl⟩
  have HS : Hid (Lib.strCells S = (Nm.putI time).map B ∧ S.size = (Nm.putI time).length) := by rw [← hS]; exact ⟨rfl, by show (Nm.putI time).toArray.size = _; rw [List.size_toArray]⟩
  have hSz : S.size ≤ 9 := by rw [HS.out.2]; exact hy4
  rw [hS] at hpi
  clear hS
  go_wp2_with fail
  refine (hpi _).mono ?_
  rintro e w6 ⟨rfl, b6⟩
  have HW6 : Hid (Tw w0 w w6 b #[.string name, .int .i64 (kd : Nat), .int .i64 (md : Nat), .int .i64 time, .int .i64 (sz : Nat), .slice a np c, .string link] (.slice s5 S3.length c5) S3) := HW5.out.past b6
  have hown6 := HW6.out.own
  have hsz6 := HW6.out.size
  clear b6 HW5 hpi m3
  go_wp2_with (at_builtin; refine Lib.wpList_append_own_string _ rfl (.tmp 21) (.tmp 24) 84 9 rfl w0.heap.size 5 i0 Tryz.underlying84 Tryz.underlying9 hi hz0 hz1 hz2 _ _ _ rfl hown6 S rfl ?d3 ?d4 ?d5 ?_)
  case d3 => unfold maxLen; omega
  case d4 => omega
  case d5 => exact hsz6
  intro v7 w7 o7 hgrow7 _
  have HW7 : Hid (Tw w0 w w7 b #[.string name, .int .i64 (kd : Nat), .int .i64 (md : Nat), .int .i64 time, .int .i64 (sz : Nat), .slice a np c, .string link] v7 (S3 ++ Nm.putI time)) := HW6.out.grow hgrow7 o7 (by rw [List.length_append, HS.out.2]) (by rw [List.map_append, HS.out.1])
  clear o7 hgrow7 hown6 hsz6 HW6 HS hSz
  obtain ⟨S4, hS4⟩ : ∃ S4, S3 ++ Nm.putI time = S4 := ⟨_, rfl⟩
  have hl4 : S4.length ≤ 526420 := by rw [← hS4, List.length_append]; omega
  rw [hS4] at HW7 HRow
  clear hS4 hy4
  obtain ⟨s7, c7, rfl⟩ := own_len HW7.out.own
  go_upto_region 5 with fail
  obtain ⟨_, _, _, _, m4, _⟩ := seven_at HW7.out.node
  go_upto_region 6 with (go_at_call 65; refine (hnu _ sz S4 _ HW7.out.own HW7.out.size (by omega) (by omega)).mono ?_; rintro e w8 ⟨v8, rfl, o8, b8, k8⟩)
  have HW8 : Hid (Tw w0 w w8 b #[.string name, .int .i64 (kd : Nat), .int .i64 (md : Nat), .int .i64 time, .int .i64 (sz : Nat), .slice a np c, .string link] v8 (S4 ++ Nm.put sz)) := HW7.out.ap o8 b8 k8
  clear o8 b8 k8 HW7 m4
  obtain ⟨S5, hS5⟩ : ∃ S5, S4 ++ Nm.put sz = S5 := ⟨_, rfl⟩
  have hlS5 : S5.length ≤ 526430 := by rw [← hS5, List.length_append]; omega
  rw [hS5] at HW8 HRow
  clear hS5 hy5
  obtain ⟨s8, c8, rfl⟩ := own_len HW8.out.own
  obtain ⟨_, _, _, _, _, m5, _⟩ := seven_at HW8.out.node
  go_upto_region 7 with (go_at_call 65; refine (hnu _ np S5 _ HW8.out.own HW8.out.size (by omega) (by omega)).mono ?_; rintro e w9 ⟨v9, rfl, o9, b9, k9⟩)
  have HW9 : Hid (Tw w0 w w9 b #[.string name, .int .i64 (kd : Nat), .int .i64 (md : Nat), .int .i64 time, .int .i64 (sz : Nat), .slice a np c, .string link] v9 (S5 ++ Nm.put np)) := HW8.out.ap o9 b9 k9
  clear o9 b9 k9 HW8 m5
  obtain ⟨S6, hS6⟩ : ∃ S6, S5 ++ Nm.put np = S6 := ⟨_, rfl⟩
  have hlS6 : S6.length ≤ 526440 := by rw [← hS6, List.length_append]; omega
  rw [hS6] at HW9 HRow
  clear hS6 hy6
  obtain ⟨s9, c9, rfl⟩ := own_len HW9.out.own
  obtain ⟨_, _, _, _, _, m5, _⟩ := seven_at HW9.out.node
  have HW9' : Hid (Tw w0 w w9 b #[.string name, .int .i64 (kd : Nat), .int .i64 (md : Nat), .int .i64 time, .int .i64 (sz : Nat), .slice a np c, .string link] (.slice s9 S6.length c9) (S6 ++ (parts.take 0).flatten)) := by
    show Tw _ _ _ _ _ _ _
    rw [List.take_zero, List.flatten_nil, List.append_nil]
    exact HW9.out
  have HFl : Hid (∀ k, k ≤ np → (parts.take k).flatten.length = 8 * k) := fun k hk => by
    rw [Td.flat8 fun p hp => HPt.out.2.1 p (List.mem_of_mem_take hp), List.length_take]
    have := HPt.out.2.2.1
    omega
  clear hnu HW9
  go_wp2_with fail
  clear m5
  go_loopw [0, 38] (fun vo i wr => ∃ k : Nat, k ≤ np ∧ i = .int .i64 k ∧ Hid (Tw w0 w wr b #[.string name, .int .i64 (kd : Nat), .int .i64 (md : Nat), .int .i64 time, .int .i64 (sz : Nat), .slice a np c, .string link] vo (S6 ++ (parts.take k).flatten))) (fun _ i _ => np - (intOf i).toNat)
  case atStart => exact ⟨0, by omega, rfl, HW9'⟩
  case round =>
    clear HW9'
    obtain ⟨k, hk, rfl, HW⟩ := hrel
    have hfl := HFl.out k hk
    obtain ⟨S, hS⟩ : ∃ S, S6 ++ (parts.take k).flatten = S := ⟨_, rfl⟩
    have hSl : S.length ≤ 526440 + 8 * k := by rw [← hS, List.length_append, hfl]; omega
    have HSk : Hid (S6 ++ (parts.take k).flatten = S) := hS
    rw [hS] at HW
    clear hfl hS
    obtain ⟨so, co, hvo⟩ := own_len HW.out.own
    subst hvo
    by_cases hlt : k < np
    · have hkl : k < parts.length := by rw [← HPt.out.2.2.1]; exact hlt
      obtain ⟨bk, o, rfl, hbk, hcell⟩ := (HPt.out.1.below (HPt.out.2.2.2.trans HW.out.bel)).get k parts[k] (List.getElem?_eq_getElem hkl)
      obtain ⟨b0, b1, b2, b3, b4, b5, b6, b7, ht8⟩ := tg_eight (HPt.out.2.1 parts[k] (List.getElem_mem hkl))
      have HM : Hid (S6 ++ (parts.take (k + 1)).flatten = S ++ [b0, b1, b2, b3, b4, b5, b6, b7]) := by show _ = _; rw [flat_more hkl, ← List.append_assoc, HSk.out, ht8]
      rw [ht8] at hcell
      have x0 : wr.cell? ⟨bk, o + k * 8, none⟩ = some (.int .u8 (b0.toNat : Int)) := hcell 0 _ rfl
      have x1 : wr.cell? ⟨bk, o + k * 8 + 1, none⟩ = some (.int .u8 (b1.toNat : Int)) := hcell 1 _ rfl
      have x2 : wr.cell? ⟨bk, o + k * 8 + 2, none⟩ = some (.int .u8 (b2.toNat : Int)) := hcell 2 _ rfl
      have x3 : wr.cell? ⟨bk, o + k * 8 + 3, none⟩ = some (.int .u8 (b3.toNat : Int)) := hcell 3 _ rfl
      have x4 : wr.cell? ⟨bk, o + k * 8 + 4, none⟩ = some (.int .u8 (b4.toNat : Int)) := hcell 4 _ rfl
      have x5 : wr.cell? ⟨bk, o + k * 8 + 5, none⟩ = some (.int .u8 (b5.toNat : Int)) := hcell 5 _ rfl
      have x6 : wr.cell? ⟨bk, o + k * 8 + 6, none⟩ = some (.int .u8 (b6.toNat : Int)) := hcell 6 _ rfl
      have x7 : wr.cell? ⟨bk, o + k * 8 + 7, none⟩ = some (.int .u8 (b7.toNat : Int)) := hcell 7 _ rfl
      clear hcell ht8 HSk
      obtain ⟨W5, hW5⟩ : ∃ W5, W5 = wr.alloc (.cells #[.int .u8 (b0.toNat : Int), .int .u8 (b1.toNat : Int), .int .u8 (b2.toNat : Int), .int .u8 (b3.toNat : Int), .int .u8 (b4.toNat : Int), .int .u8 (b5.toNat : Int), .int .u8 (b6.toNat : Int), .int .u8 (b7.toNat : Int)] 29) := ⟨_, rfl⟩
      have HW5 : Hid (Tw w0 w W5 b #[.string name, .int .i64 (kd : Nat), .int .i64 (md : Nat), .int .i64 time, .int .i64 (sz : Nat), .slice (some ⟨bk, o, none⟩) np c, .string link] (.slice so S.length co) S) := by rw [hW5]; exact HW.out.past ((Below.refl _ wr).alloc (Nat.le_refl _) _)
      have hnews : ∀ j u, ([b0, b1, b2, b3, b4, b5, b6, b7].map B)[j]? = some u → W5.cell? ((⟨wr.heap.size, 0, none⟩ : Addr).add j) = some u := fun j u hu => by
        rw [hW5, show ((⟨wr.heap.size, 0, none⟩ : Addr).add j) = ⟨wr.heap.size, 0 + j, none⟩ from Addr.add_mid _ _ _, Nat.zero_add, cell_of_row _ wr.heap.size j _ _ _ (heap_alloc_new wr _)]
        match j, hu with
        | 0, hu => exact hu
        | 1, hu => exact hu
        | 2, hu => exact hu
        | 3, hu => exact hu
        | 4, hu => exact hu
        | 5, hu => exact hu
        | 6, hu => exact hu
        | 7, hu => exact hu
        | n + 8, hu => simp at hu
      have hown5 := HW5.out.own
      have hsz5 := HW5.out.size
      clear HW
      go_upto_region 10 with fail
      rw [← hW5]
      clear hW5 x0 x1 x2 x3 x4 x5 x6 x7
      go_wp2_with (at_builtin; refine wpList_append_own _ rfl (.tmp 42) (.tmp 43) 84 rfl w0.heap.size 5 i0 (.int .u8 0) 1 1 Tryz.underlying84 hi hz0 hz1 hz2 rfl (by decide) _ _ _ rfl hown5 ⟨wr.heap.size, 0, none⟩ 8 8 ([b0, b1, b2, b3, b4, b5, b6, b7].map B) rfl rfl hnews ?e2 ?e3 ?e4 ?e5 ?_)
      case e2 => intro u hu; obtain ⟨x, _, rfl⟩ := List.mem_map.1 hu; rfl
      case e3 => unfold maxLen; omega
      case e4 => omega
      case e5 => exact hsz5
      intro v8 w8 o8 hgrow8 _
      have HW8 : Hid (Tw w0 w w8 b #[.string name, .int .i64 (kd : Nat), .int .i64 (md : Nat), .int .i64 time, .int .i64 (sz : Nat), .slice (some ⟨bk, o, none⟩) np c, .string link] v8 (S6 ++ (parts.take (k + 1)).flatten)) := by
        rw [HM.out]
        exact HW5.out.grow hgrow8 o8 (by simp) (by rw [List.map_append]; rfl)
      clear o8 hgrow8 hown5 HW5 hnews hsz5 HM
      go_wp2_with fail
      go_roundw
      case rel => exact ⟨k + 1, by omega, by go_num, HW8⟩
      case measure => simp only [intOf]; omega
    · have hke : parts.take k = parts := List.take_of_length_le (by have := HPt.out.2.2.1; omega)
      rw [hke] at HSk
      rw [HSk.out] at HRow
      obtain ⟨_, _, _, _, _, _, m6⟩ := seven_at HW.out.node
      have hb6 : S.length ≤ 1048576 := by omega
      clear hke HSk
      go_wp2_with (go_at_call 91; refine (htx _ link S _ HW.out.own HW.out.size hb6 hl).mono ?_; rintro e w12 ⟨v12, rfl, o12, b12, k12⟩)
      have HO : Hid (w12.ownsRow w0.heap.size 5 1 v12 RES.length (RES.map B)) := by rw [HRow.out]; exact o12
      have HB : Hid (Below w0.heap.size w w12) := HW.out.bel.trans b12
      go_ret
      exact ⟨_, rfl, HO.out, HB.out⟩

theorem trows_more (l : List Nod) (k : Nat) (h : k < l.length) : Td.rowsT (nds (l.take (k + 1))) = Td.rowsT (nds (l.take k)) ++ Td.rowT l[k].nd := by
  rw [List.take_succ_eq_append_getElem h]
  simp only [nds, Td.rowsT, List.map_append, List.map_cons, List.map_nil, List.flatten_append, List.flatten_cons, List.flatten_nil, List.append_nil]

theorem trow_len {n : Nod} (h : Td.nErr n.nd = 0) (h8 : ∀ p ∈ n.parts, p.length = 8) : (Td.rowT n.nd).length ≤ 6600 := by
  obtain ⟨q0, q1, q2, q3, q4, q5, q6, q7, q8⟩ := Td.nErr_ok h
  have a1 := Nm.putT_length n.nd.name
  have a2 := Nn.nm_long q0
  have a3 := Nm.putT_length n.nd.link
  have a4 := tput9 n.nd.mode.toNat
  have a5 := tput9 n.nd.size.toNat
  have a6 := tput9 n.nd.parts.length
  have a7 := Nm.putI_length n.nd.time
  have a8 : n.nd.parts.flatten.length = 8 * n.nd.parts.length := Td.flat8 h8
  unfold Td.rowT
  simp only [List.length_append, List.length_cons]
  omega

set_option maxHeartbeats 4000000 in
set_option maxRecDepth 10000 in
theorem twrite_any (v : Value) (l : List Nod) (w : World) (h : Nds w v l) (hl : l.length ≤ 9223372036854775807) (hT : Tabs w) :
    Calls Tryz.prog 43 #[v] w fun e w' => e = .returned (.tuple #[.string ⟨(Td.write (nds l)).1.toArray⟩, .int .i64 (Td.write (nds l)).2]) ∧ Below w.heap.size w w' := by
  obtain ⟨a, c, rfl⟩ := h.slice
  have hno := tcheck_any _ l w h hl hT
  have HX : Hid (Nds w (.slice a l.length c) l) := h
  have HZ : Hid (Td.write (nds l) = if Td.check (nds l) ≠ 0 then ([], Td.check (nds l)) else if 4096 < (Td.textB (nds l)).length then ([], 2) else (Td.textB (nds l), 0)) := rfl
  have HC : Hid (Td.check (nds l) = 0 → l.length ≤ 64 ∧ ∀ n ∈ l, Td.nErr n.nd = 0) := fun q => by
    obtain ⟨c1, c2⟩ := Td.check_ok q
    rw [nds_length] at c1
    exact ⟨c1, fun n hn => c2 _ (List.mem_map_of_mem hn)⟩
  have HTx : Hid (Td.textB (nds l) = Nm.put l.length ++ Td.rowsT (nds l)) := by show _ = _; rw [Td.textB, nds_length]
  generalize Td.write (nds l) = Z at *
  generalize Td.check (nds l) = E at *
  generalize Td.textB (nds l) = TX at *
  obtain ⟨N, hN⟩ : ∃ N, N = l.length := ⟨_, rfl⟩
  have HN : Hid (N = l.length) := hN
  rw [← hN] at HX HC HTx hl hno ⊢
  clear h hT hN
  go_enter Tryz.func43, Tryz.ntmps43
  go_wp2_with fail
  refine hno.mono ?_
  rintro e w1 ⟨rfl, b1⟩
  have HB1 : Hid (Below w.heap.size w w1) := b1
  clear hno b1
  by_cases hE : E ≠ 0
  · have hqn : (E != 0) = true := by rw [bne_iff_ne]; exact hE
    have HR : Hid (Z = ([], E)) := by
      have := HZ.out
      rwa [if_pos hE] at this
    clear HZ HC HTx
    go_wp2_with fail
    go_ret2
    exact ⟨by rw [HR.out]; rfl, HB1.out⟩
  obtain rfl := Decidable.not_not.mp hE
  clear hE
  obtain ⟨h64, hok⟩ := HC.out rfl
  have HOk : Hid (∀ n ∈ l, Td.nErr n.nd = 0) := hok
  have HZ1 : Hid (Z = if 4096 < TX.length then ([], 2) else (TX, 0)) := by
    have := HZ.out
    rwa [if_neg (by simp)] at this
  have hpn := tnum_any w.heap.size (.slice none 0 0) [] N w1 (World.ownsRow_nil _ _ _ _) HB1.out.size (by simp) (by omega)
  unfold ApOut at hpn
  rw [List.nil_append] at hpn
  obtain ⟨P0, hP0⟩ : ∃ P0, P0 = Nm.put N := ⟨_, rfl⟩
  have HP9 : Hid (P0.length ≤ 9) := by show _ ≤ _; rw [hP0]; exact tput9 _
  rw [← hP0] at hpn HTx
  clear hok HC HZ hP0
  go_wp2_with fail
  refine hpn.mono ?_
  rintro e w2 ⟨v2, rfl, o2, b2, _⟩
  have HB2 : Hid (Below w.heap.size w w2) := HB1.out.trans b2
  have HO2 : Hid (w2.ownsRow w.heap.size 5 1 v2 P0.length (P0.map B)) := o2
  clear hpn b2 HB1 o2
  go_wp2_with fail
  go_loopw [5, 18] (fun x i wr => ∃ (k : Nat) (L : List UInt8), k ≤ N ∧ i = .int .i64 k ∧ L.length ≤ 9 + 6600 * k ∧ Hid (wr.ownsRow w.heap.size 5 1 x L.length (L.map B)) ∧ Hid (P0 ++ Td.rowsT (nds (l.take k)) = L) ∧ Hid (Below w.heap.size w wr)) (fun _ i _ => N - (intOf i).toNat)
  case atStart => exact ⟨0, P0, by omega, rfl, by have := HP9.out; omega, HO2, List.append_nil _, HB2⟩
  case round =>
    clear HB2 HO2
    obtain ⟨k, L, hk, rfl, hLl, HO, HL, HB⟩ := hrel
    obtain ⟨so, co, hvo⟩ := own_len HO.out
    subst hvo
    by_cases hlt : k < N
    · have hkl : k < l.length := by rw [← HN.out]; exact hlt
      obtain ⟨bk, o, cs, rfl, hbk, hcl, ⟨v, rfl, hPs, hnk⟩, hcell⟩ := (HX.out.below HB.out).get k l[k] (List.getElem?_eq_getElem hkl)
      have HPw : Hid (Rx 8 idC w v l[k].parts) := by
        obtain ⟨bk', o', cs', e', _, _, ⟨v', rfl, q, _⟩, hc'⟩ := HX.out.get k l[k] (List.getElem?_eq_getElem hkl)
        cases e'
        have e1 := hcell 5 _ rfl
        have e2 := (Below.cell HB.out (p := ⟨bk, o + k * 7 + 5, none⟩) (World.block_lt_of_cell? w _ (hc' 5 _ rfl))).trans (hc' 5 _ rfl)
        rw [e1, Option.some.injEq] at e2
        rw [e2]
        exact q
      have HRw : Hid (Td.rowsT (nds (l.take (k + 1))) = Td.rowsT (nds (l.take k)) ++ Td.rowT l[k].nd) := trows_more l k hkl
      have HRl : Hid ((Td.rowT l[k].nd).length ≤ 6600) := trow_len (HOk.out _ (List.getElem_mem hkl)) hnk.ids
      obtain ⟨q0, q1, q2, q3, q4, q5, q6, q7, q8⟩ := Td.nErr_ok (HOk.out _ (List.getElem_mem hkl))
      have q9 := Nn.nm_long q0
      obtain ⟨av, cv, rfl, _⟩ := hPs.slice
      have htm := hnk.time
      have h8 := hnk.ids
      have c0 : wr.cell? ⟨bk, o + k * 7, none⟩ = some (.string l[k].name) := hcell 0 _ rfl
      have c1 := hcell 1 _ rfl
      have c2 := hcell 2 _ rfl
      have c3 := hcell 3 _ rfl
      have c4 := hcell 4 _ rfl
      have c5 := hcell 5 _ rfl
      have c6 := hcell 6 _ rfl
      generalize l[k] = n at *
      obtain ⟨name, kind, mode, time, size, parts, link⟩ := n
      dsimp only [Nod.nd] at *
      obtain ⟨kd, rfl⟩ := Int.eq_ofNat_of_zero_le (a := kind) (by omega)
      obtain ⟨md, rfl⟩ := Int.eq_ofNat_of_zero_le q1
      obtain ⟨sz, rfl⟩ := Int.eq_ofNat_of_zero_le q3
      obtain ⟨np, hnp⟩ : ∃ np, np = parts.length := ⟨_, rfl⟩
      rw [← hnp] at HPw q5 c5
      simp [Lit.wf, IntKind.min, IntKind.max, IntKind.signed, IntKind.bits] at htm
      obtain ⟨W1, hW1⟩ : ∃ W1, W1 = wr.alloc (.cells #[.string name, .int .i64 (kd : Nat), .int .i64 (md : Nat), .int .i64 time, .int .i64 (sz : Nat), .slice av np cv, .string link] 89) := ⟨_, rfl⟩
      have hB1 : Below wr.heap.size wr W1 := by rw [hW1]; exact (Below.refl _ wr).alloc (Nat.le_refl _) _
      have HM1 : Hid (W1.heap[wr.heap.size]? = some (.cells #[.string name, .int .i64 (kd : Nat), .int .i64 (md : Nat), .int .i64 time, .int .i64 (sz : Nat), .slice av np cv, .string link] 89 (0, 0))) := by rw [hW1]; exact heap_alloc_new wr _
      have HB1 : Hid (Below w.heap.size w W1) := HB.out.trans (hB1.mono HB.out.size)
      have han := tnode_any w W1 (.slice so L.length co) L name link kd md sz time parts av cv np HB1.out (own_below HO.out hB1) (by omega) hnp HPw.out h8 (by rw [Lib.size_eq]; omega) (by rw [Lib.size_eq]; exact q8) (by omega) (by omega) (by omega) q5 htm.1 htm.2
      unfold AnOut at han
      obtain ⟨L2, hL2⟩ : ∃ L2, L ++ Td.rowT ⟨name.data.toList, (kd : Nat), (md : Nat), time, (sz : Nat), parts, link.data.toList⟩ = L2 := ⟨_, rfl⟩
      have hL2l : L2.length ≤ 9 + 6600 * (k + 1) := by have := HRl.out; rw [← hL2, List.length_append]; omega
      have HL2 : Hid (P0 ++ Td.rowsT (nds (l.take (k + 1))) = L2) := by show _ = _; rw [HRw.out, ← List.append_assoc, HL.out, hL2]
      rw [hL2] at han
      clear hcell hPs hnk hcl hB1 hnp q0 q6 hL2 HRl HRw HPw h8 HL HO
      go_upto_region 8 with fail
      rw [← hW1]
      obtain ⟨b7, hb7⟩ : ∃ b7, b7 = wr.heap.size := ⟨_, rfl⟩
      rw [← hb7] at HM1 ⊢
      obtain ⟨m0, m1, m2, m3, m4, m5, m6⟩ := seven_at HM1.out
      clear hW1 c0 c1 c2 c3 c4 c5 c6 hb7
      go_wp2_with fail
      refine han.mono ?_
      rintro e w3 ⟨v3, rfl, o3, b3⟩
      have HO3 : Hid (w3.ownsRow w.heap.size 5 1 v3 L2.length (L2.map B)) := o3
      have HB3 : Hid (Below w.heap.size w w3) := HB1.out.trans b3
      clear han o3 b3 m0 m1 m2 m3 m4 m5 m6
      go_wp2_with fail
      go_roundw
      case measure => simp only [intOf]; omega
      case rel => exact ⟨k + 1, L2, by omega, by go_num, hL2l, HO3, HL2, HB3⟩
    · obtain rfl : k = N := by omega
      have HTT : Hid (TX = L) := by
        show _ = _
        rw [HTx.out, ← HL.out, List.take_of_length_le (by rw [HN.out]; exact Nat.le_refl _)]
      have hcv := run_str HO.out
      clear HL HO
      by_cases h4 : 4096 < L.length
      · have g4 : (4096 : Int) < (L.length : Int) := by omega
        have HR : Hid (Z = ([], 2)) := by
          have := HZ1.out
          rwa [HTT.out, if_pos h4] at this
        clear HZ1 hcv
        go_wp2_with fail
        go_ret2
        exact ⟨by rw [HR.out]; rfl, HB.out⟩
      · have g4 : ¬ (4096 : Int) < (L.length : Int) := by omega
        have HR : Hid (Z = (L, 0)) := by
          have := HZ1.out
          rwa [HTT.out, if_neg h4] at this
        clear HZ1
        go_wp2_with fail
        go_ret2
        exact ⟨by rw [HR.out]; rfl, HB.out⟩

end Go.Proofs.YtimdioacmojkeaaGreatDoor

namespace Go.Proofs.YtimdioacmojkeaaGreatDoor
open Go.RowKit
set_option maxRecDepth 4000

theorem Kt.of_rs {A B : World} {br : Nat} {x : Td.St} (hk : Kept (fun j => j ≠ br) A B) (hr : Rs A br x) : Kt 113 A B :=
  ⟨hk.os, hk.tape, hk.output, hk.size, fun k o ho hn => by
    by_cases e : k = br
    · subst e
      unfold Rs at hr
      rw [hr, Option.some.injEq] at ho
      exact absurd ⟨_, _, ho.symm⟩ hn
    · exact (hk.block k (Array.getElem?_eq_some_iff.1 ho).1 e).trans ho⟩

theorem NdG.kr {w W : World} {n : Nod} {c : List Value} (hk : Kt 113 w W) (h : NdG w n c) : NdG W n c := by
  obtain ⟨v, e, hr, ht, ho⟩ := h
  refine ⟨v, e, ⟨?_, hr.room⟩, fun a m c hv => ?_, ho⟩
  · rcases hr.at_ with h1 | ⟨bk, o, cap, h1, h2, h3⟩
    · exact .inl h1
    · obtain ⟨cur, fr, hb⟩ := ht _ _ _ h1
      have hb' := hk.cell hb (by decide)
      refine .inr ⟨bk, o, cap, h1, Nat.lt_of_lt_of_le h2 hk.size, fun j t hj r u hu => ?_⟩
      rw [← h3 j t hj r u hu]
      simp only [World.cell?] at hb hb' ⊢
      rw [hb, hb']
  · obtain ⟨cur, fr, hb⟩ := ht a m c hv
    exact ⟨cur, fr, hk.cell hb (by decide)⟩

theorem NdG.keep {w W : World} {n : Nod} {c : List Value} (hs : w.heap.size ≤ W.heap.size) (hk : ∀ (k : Nat) cur fr, w.heap[k]? = some (.cells cur 29 fr) → W.heap[k]? = some (.cells cur 29 fr)) (h : NdG w n c) : NdG W n c := by
  obtain ⟨v, e, hr, ht, ho⟩ := h
  refine ⟨v, e, ⟨?_, hr.room⟩, fun a m c hv => ?_, ho⟩
  · rcases hr.at_ with h1 | ⟨bk, o, cap, h1, h2, h3⟩
    · exact .inl h1
    · obtain ⟨cur, fr, hb⟩ := ht _ _ _ h1
      have hb' := hk _ _ _ hb
      refine .inr ⟨bk, o, cap, h1, Nat.lt_of_lt_of_le h2 hs, fun j t hj r u hu => ?_⟩
      rw [← h3 j t hj r u hu]
      simp only [World.cell?] at hb hb' ⊢
      rw [hb, hb']
  · obtain ⟨cur, fr, hb⟩ := ht a m c hv
    exact ⟨cur, fr, hk _ _ _ hb⟩

/-- a row of nodes stays where the rows of nodes and of IDs stay -/
theorem Oy.keep {base : Nat} {w W : World} {v : Value} {l : List Nod} (h : Oy 7 89 NdG base w v l) (hs : w.heap.size ≤ W.heap.size) (hk : ∀ (k : Nat) cur t fr, (t = 29 ∨ t = 89) → w.heap[k]? = some (.cells cur t fr) → W.heap[k]? = some (.cells cur t fr)) : Oy 7 89 NdG base W v l :=
  h.obj (fun _ _ q => q.keep hs fun k cur fr ho => hk k cur _ fr (.inl rfl) ho) fun g cur fr ho => hk g cur _ fr (.inr rfl) ho

theorem Oy.belowN {base : Nat} {w W : World} {v : Value} {l : List Nod} (h : Oy 7 89 NdG base w v l) (hb : Below w.heap.size w W) : Oy 7 89 NdG base W v l :=
  h.keep hb.size fun k _ _ _ _ ho => (hb.block k (Array.getElem?_eq_some_iff.1 ho).1).trans ho

/-- what nodes answers -/
def NsOut (br : Nat) (w : World) (x : Td.St) (e : Ending) (w' : World) : Prop :=
  ∃ v l, e = .returned v ∧ nds l = (Td.sAll (Td.sNum 64 x).1 (Td.sNum 64 x).2).1 ∧ l.length ≤ 64 ∧ Oy 7 89 NdG w.heap.size w' v l ∧ Rs w' br (Td.sAll (Td.sNum 64 x).1 (Td.sNum 64 x).2).2 ∧ Kept (fun j => j ≠ br) w w'

set_option maxHeartbeats 4000000 in
set_option maxRecDepth 10000 in
theorem rdnodes_any (br : Nat) (x : Td.St) (w : World) (h : Rs w br x) (hx : x.1.length ≤ 1048576) :
    Calls Tryz.prog 60 #[.pointer (some ⟨br, 0, none⟩)] w (NsOut br w x) := by
  unfold NsOut
  obtain ⟨i0, hi, hz0, hz1, hz2⟩ := info_of' info_nd
  have hg := rdnumber_any br 64 x w h (by omega) hx
  have hnp := Td.sNum_most 64 x
  have hl1 := Td.sNum_len 64 x
  rcases hN : Td.sNum 64 x with ⟨np, x1⟩
  rw [hN] at hg hnp hl1
  dsimp only at *
  unfold RsOut at hg
  have HB : Hid (br < w.heap.size) := h.lt
  have HL : Hid (∀ k, (Td.sAll k x1).2.1.length ≤ 1048576) := fun k => by have := (Td.sAll_len x1 k).1; omega
  have HSt : Hid (∀ k, Td.sAll (k + 1) x1 = ((Td.sAll k x1).1 ++ [(Td.sNode (Td.sAll k x1).2).1], (Td.sNode (Td.sAll k x1).2).2)) := fun k => rfl
  clear h hN hx hl1
  go_enter Tryz.func60, Tryz.ntmps60
  go_wp2_with fail
  refine hg.mono ?_
  rintro e w1 ⟨rfl, r1, k1⟩
  have HR1 : Hid (Rs w1 br x1) := r1
  have HK1 : Hid (Kept (fun j => j ≠ br) w w1) := k1
  clear hg r1 k1
  go_wp2_with fail
  go_loopw [3, 6] (fun v i wr => ∃ (k : Nat) (l : List Nod), k ≤ np ∧ i = .int .i64 k ∧ l.length = k ∧ Hid (nds l = (Td.sAll k x1).1) ∧ Hid (Oy 7 89 NdG w.heap.size wr v l) ∧ Hid (Rs wr br (Td.sAll k x1).2) ∧ Hid (Kept (fun j => j ≠ br) w wr)) (fun _ i _ => np - (intOf i).toNat)
  case atStart => exact ⟨0, [], by omega, rfl, rfl, rfl, Oy.nil, HR1, HK1⟩
  case round =>
    clear HR1 HK1
    obtain ⟨k, l, hk, rfl, hlk, HD, HO, HR, HK⟩ := hrel
    by_cases hlt : k < np
    · have hst := HSt.out k
      have hnr := rdnode_any br (Td.sAll k x1).2 wr HR.out (HL.out k)
      unfold NoOut at hnr
      have HST : Hid (Td.sAll (k + 1) x1 = ((Td.sAll k x1).1 ++ [(Td.sNode (Td.sAll k x1).2).1], (Td.sNode (Td.sAll k x1).2).2)) := hst
      generalize Td.sNode (Td.sAll k x1).2 = NN at *
      clear hst
      go_wp2_with fail
      refine hnr.mono ?_
      rintro e w3 ⟨n, v, rfl, hnd, o3, hok, r3, k3⟩
      obtain ⟨av, cv, rfl⟩ := own_len o3
      have HG3 : Hid (NdG w3 n (ndC n (.slice av n.parts.length cv))) := ⟨_, rfl, rx_own o3 rfl hok.ids, own_type o3, hok⟩
      have hKr : Kt 113 wr w3 := Kt.of_rs k3 HR.out
      obtain ⟨cc, o1, o2, o2l, o4⟩ := HO.out
      have o1' : w3.ownsRow w.heap.size 89 7 u3 l.length cc.flatten := own_kept o1 k3 fun g hg => by have := own_ge o1 hg; have := HB.out; omega
      have HO2 : Hid ((∀ c ∈ cc, c.length = 7) ∧ cc.length = l.length ∧ ∀ (j : Nat) t c, l[j]? = some t → cc[j]? = some c → NdG w3 t c) := ⟨o2, o2l, fun j t c a b => NdG.kr hKr (o4 j t c a b)⟩
      have HD2 : Hid (nds (l ++ [n]) = (Td.sAll (k + 1) x1).1) := by show _ = _; rw [HST.out, ← HD.out, ← hnd]; simp [nds]
      have HR3 : Hid (Rs w3 br (Td.sAll (k + 1) x1).2) := by rw [HST.out]; exact r3
      have HK3 : Hid (Kept (fun j => j ≠ br) w w3) := HK.out.trans k3
      have HLe : Hid (l.length = k ∧ (l ++ [n]).length = k + 1) := ⟨hlk, by rw [List.length_append, hlk]; rfl⟩
      have hl4 : l.length ≤ 64 := by omega
      have hsw := HK3.out.size
      obtain ⟨np', hnp'⟩ : ∃ np', np' = n.parts.length := ⟨_, rfl⟩
      rw [← hnp'] at HG3 ⊢
      clear hnr o3 hok r3 k3 hKr o1 o2 o2l o4 hnd hnp' HST HO HR HK HD
      obtain ⟨name, kind, mode, time, size, parts, link⟩ := n
      dsimp only at *
      go_wp2_with (at_builtin; refine wpList_append_own _ rfl (.tmp 8) (.tmp 11) 85 rfl w.heap.size 89 i0 (.agg #[.string ⟨#[]⟩, .int .i64 0, .int .i64 0, .int .i64 0, .int .i64 0, .slice none 0 0, .string ⟨#[]⟩]) 7 88 Tryz.underlying85 hi hz0 hz1 hz2 rfl (by decide) _ _ _ rfl (o1'.alloc _) ⟨w3.heap.size, 0, none⟩ 1 1 [.string name, .int .i64 kind, .int .i64 mode, .int .i64 time, .int .i64 size, .slice av np' cv, .string link] rfl rfl (seven_new w3 _ _ _ _ _ _ _) ?c2 ?c3 ?c4 ?c5 ?_)
      case c2 => simp [Value.oneCell']
      case c3 => unfold maxLen; omega
      case c4 => omega
      case c5 => first | omega | (simp; omega)
      intro v6 w5 hown5 hgrow _
      rw [← HLe.out.1] at hown5
      have hk5 : Kt 89 w3 w5 := ((Kt.refl _ w3).alloc _).trans (Kt.of_grown hgrow fun g hg => by
        obtain ⟨cur, q, _⟩ := own_block (o1'.alloc _) hg
        exact ⟨cur, _, q⟩)
      have hge : ∀ g, u3.ownBlock = some g → w.heap.size ≤ g := fun g hg => own_ge o1' hg
      have HR5 : Hid (Rs w5 br (Td.sAll (k + 1) x1).2) := hk5.cell HR3.out (by decide)
      have HK5 : Hid (Kept (fun j => j ≠ br) w w5) := by
        have hz := HK3.out.alloc (.cells #[.string name, .int .i64 kind, .int .i64 mode, .int .i64 time, .int .i64 size, .slice av np' cv, .string link] 89)
        exact ⟨hgrow.os.trans hz.os, hgrow.tape.trans hz.tape, hgrow.output.trans hz.output, Nat.le_trans hz.size hgrow.size, fun j hj hp => (hgrow.block j (Nat.lt_of_lt_of_le hj hz.size) fun e => by have := hge j e.symm; omega).trans (hz.block j hj hp)⟩
      have HOn : Hid (Oy 7 89 NdG w.heap.size w5 v6 (l ++ [⟨name, kind, mode, time, size, parts, link⟩])) := Oy.more HO2.out.1 HO2.out.2.1 (fun j t c a b => NdG.kt hk5 (HO2.out.2.2 j t c a b)) hown5 rfl (NdG.kt hk5 HG3.out)
      clear hown5 hgrow hk5 o1' HO2 HG3 HK3 HR3 hge
      go_wp2_with fail
      go_roundw
      case measure => simp only [intOf]; omega
      case rel => exact ⟨k + 1, _, by omega, by go_num, HLe.out.2, HD2, HOn, HR5, HK5⟩
    · obtain rfl : k = np := by omega
      have hl64 : l.length ≤ 64 := by omega
      go_wp2_with fail
      go_ret
      exact ⟨_, l, rfl, HD.out, hl64, HO.out, HR.out, HK.out⟩

/-- what Read answers -/
def TgOut (s : ByteArray) (w : World) (e : Ending) (w' : World) : Prop :=
  ∃ v l, e = .returned (.tuple #[v, .int .i64 (Td.read s.data.toList).2]) ∧ nds l = (Td.read s.data.toList).1 ∧ Nds w' v l ∧ l.length ≤ 64 ∧ Below w.heap.size w w'

/-- the same, the rows by their blocks' types -/
def TgOy (s : ByteArray) (w : World) (e : Ending) (w' : World) : Prop :=
  ∃ v l B, e = .returned (.tuple #[v, .int .i64 (Td.read s.data.toList).2]) ∧ nds l = (Td.read s.data.toList).1 ∧ Oy 7 89 NdG B w' v l ∧ l.length ≤ 64 ∧ Below w.heap.size w w'

theorem write_size (l : List Nod) : (⟨(Td.write (nds l)).1.toArray⟩ : ByteArray).size ≤ 9223372036854775807 := by
  rw [tg_size]
  unfold Td.write
  split
  · simp
  · split
    · simp
    · show (Td.textB (nds l)).length ≤ _; omega

set_option maxHeartbeats 4000000 in
set_option maxRecDepth 10000 in
theorem tread_oy (s : ByteArray) (w : World) (hs : s.size ≤ 9223372036854775807) (hT : Tabs w) : Calls Tryz.prog 40 #[.string s] w (TgOy s w) := by
  unfold TgOy
  by_cases h4 : 4096 < s.size
  · have HR : Hid (Td.read s.data.toList = ([], 2)) := by show _ = _; unfold Td.read; rw [if_pos (by rw [← Lib.size_eq]; exact h4)]
    generalize Td.read s.data.toList = RES at *
    have g4 : (4096 : Int) < (s.size : Int) := by omega
    clear hT
    go_enter Tryz.func40, Tryz.ntmps40
    go_wp2_with fail
    go_ret2
    exact ⟨_, [], 0, by rw [HR.out]; rfl, by rw [HR.out]; rfl, Oy.nil, by simp, Below.refl _ _⟩
  have g4 : ¬ (4096 : Int) < (s.size : Int) := by omega
  rcases hA : Td.sAll (Td.sNum 64 (s.data.toList, 0)).1 (Td.sNum 64 (s.data.toList, 0)).2 with ⟨L, r, er⟩
  have HRd : Hid (Td.read s.data.toList = if er ≠ 0 then ([], er) else if r ≠ [] then ([], 4) else if Td.check L ≠ 0 then ([], Td.check L) else (L, 0)) := Td.read_st (by rw [← Lib.size_eq]; exact h4) hA
  generalize Td.read s.data.toList = RES at *
  obtain ⟨W1, hW1⟩ : ∃ W1, W1 = w.alloc (.cells #[.string s, .int .i64 0] 113) := ⟨_, rfl⟩
  have HB1 : Hid (Below w.heap.size w W1) := by rw [hW1]; exact (Below.refl _ w).alloc (Nat.le_refl _) _
  have HR1 : Hid (Rs W1 w.heap.size (s.data.toList, 0)) := by rw [hW1]; exact heap_alloc_new w _
  have hns := rdnodes_any w.heap.size (s.data.toList, 0) W1 HR1.out (by show List.length _ ≤ _; rw [← Lib.size_eq]; omega)
  unfold NsOut at hns
  rw [hA] at hns
  dsimp only at hns
  have HT : Hid (Tabs w) := hT
  have hrl : r.length ≤ 4096 := by
    have q1 := (Td.sAll_len (Td.sNum 64 (s.data.toList, 0)).2 (Td.sNum 64 (s.data.toList, 0)).1).1
    have q2 := Td.sNum_len 64 (s.data.toList, 0)
    rw [hA] at q1
    have q3 : s.data.toList.length = s.size := (Lib.size_eq s).symm
    simp only at q1 q2
    omega
  obtain ⟨br, hbr⟩ : ∃ br, br = w.heap.size := ⟨_, rfl⟩
  have HBr : Hid (br = w.heap.size) := hbr
  rw [← hbr] at hns
  clear hT hA HR1
  go_enter Tryz.func40, Tryz.ntmps40
  go_upto_region 4 with fail
  rw [← hW1, ← hbr]
  clear hW1 hbr
  go_wp2_with fail
  refine hns.mono ?_
  rintro e w2 ⟨v, l, rfl, hd, hl, hn, r2, k2⟩
  have hb2 : Below w.heap.size w w2 := HB1.out.trans (k2.below HB1.out.size fun j hj => by have := HBr.out; omega)
  have HB2 : Hid (Below w.heap.size w w2) := hb2
  have HN2 : Hid (Oy 7 89 NdG W1.heap.size w2 v l) := hn
  have hck := tcheck_any v l w2 (Nds.of_oy hn) (by omega) (HT.out.below hb2)
  rw [hd] at hck
  have HD : Hid (nds l = L) := hd
  obtain ⟨c0, c1, f0, f1⟩ := r2.cells
  dsimp only at c0 c1
  obtain ⟨t, ht⟩ : ∃ t : ByteArray, t = ⟨r.toArray⟩ := ⟨_, rfl⟩
  have hts : t.size = r.length := by rw [ht]; exact tg_size r
  rw [← ht] at c0
  clear hns hb2 hn hd r2 k2 HB1 ht f0 f1
  by_cases he : er ≠ 0
  · have hqn : (er != 0) = true := by rw [bne_iff_ne]; exact he
    have HRE : Hid (RES = ([], er)) := by
      have := HRd.out
      rwa [if_pos he] at this
    clear HRd hck
    go_wp2_with fail
    go_quiet (fail)
    go_wp2_with fail
    go_ret2
    exact ⟨_, [], 0, by rw [HRE.out]; rfl, by rw [HRE.out]; rfl, Oy.nil, by simp, Go.below_drewN HB2.out _⟩
  obtain rfl := Decidable.not_not.mp he
  have HRd1 : Hid (RES = if r ≠ [] then ([], 4) else if Td.check L ≠ 0 then ([], Td.check L) else (L, 0)) := by
    have := HRd.out
    rwa [if_neg (by simp)] at this
  clear HRd he
  by_cases hr : r ≠ []
  · have HRE : Hid (RES = ([], 4)) := by
      have := HRd1.out
      rwa [if_pos hr] at this
    have hp : (0 : Int) < (t.size : Int) := by have := List.length_pos_iff.2 hr; omega
    clear HRd1 hck
    go_wp2_with fail
    go_ret2
    exact ⟨_, [], 0, by rw [HRE.out]; rfl, by rw [HRE.out]; rfl, Oy.nil, by simp, HB2.out⟩
  obtain rfl := Decidable.not_not.mp hr
  have HRd2 : Hid (RES = if Td.check L ≠ 0 then ([], Td.check L) else (L, 0)) := by
    have := HRd1.out
    rwa [if_neg (by simp)] at this
  have hp : ¬ (0 : Int) < (t.size : Int) := by rw [hts]; simp
  generalize Td.check L = E at *
  clear HRd1 hr hrl hts
  go_wp2_with fail
  refine hck.mono ?_
  rintro e w3 ⟨rfl, b3⟩
  have HB3 : Hid (Below w.heap.size w w3) := HB2.out.trans (b3.mono HB2.out.size)
  have HN3 : Hid (Oy 7 89 NdG W1.heap.size w3 v l) := HN2.out.belowN b3
  clear hck b3
  by_cases hE : E ≠ 0
  · have hqn : (E != 0) = true := by rw [bne_iff_ne]; exact hE
    have HRE : Hid (RES = ([], E)) := by
      have := HRd2.out
      rwa [if_pos hE] at this
    clear HRd2
    go_wp2_with fail
    go_ret2
    exact ⟨_, [], 0, by rw [HRE.out]; rfl, by rw [HRE.out]; rfl, Oy.nil, by simp, HB3.out⟩
  obtain rfl := Decidable.not_not.mp hE
  have HRE : Hid (RES = (L, 0)) := by
    have := HRd2.out
    rwa [if_neg (by simp)] at this
  clear HRd2 hE
  go_wp2_with fail
  go_ret2
  exact ⟨_, l, _, by rw [HRE.out]; rfl, by rw [HRE.out]; exact HD.out, HN3.out, hl, HB3.out⟩

theorem tread_any (s : ByteArray) (w : World) (hs : s.size ≤ 9223372036854775807) (hT : Tabs w) : Calls Tryz.prog 40 #[.string s] w (TgOut s w) :=
  (tread_oy s w hs hT).mono fun _ _ ⟨v, l, _, h1, h2, h3, h4, h5⟩ => ⟨v, l, h1, h2, Nds.of_oy h3, h4, h5⟩

end Go.Proofs.YtimdioacmojkeaaGreatDoor

namespace Go.Proofs.YtimdioacmojkeaaGreatDoor
open Go.RowKit
open Nn (Name)

def kI (W0 : List Im) (p : List Name) : List Im := Wk.kids (fun x => x.it.nms) W0 p

def dI (W0 : List Im) (k : Nat) (p : List Name) : List Im := Wk.dfs (fun x => x.it.nms) (fun x => x.it.dir) W0 k p

def blk (W0 : List Im) (k : Nat) (x : Im) : List Im := x :: (if x.it.dir then dI W0 k x.it.nms else [])

theorem dI_succ (W0 : List Im) (k : Nat) (p : List Name) : dI W0 (k + 1) p = (kI W0 p).flatMap (blk W0 k) := rfl

theorem kI_its (W0 : List Im) (p : List Name) : its (kI W0 p) = Wk.kids Wk.It.nms (its W0) p := by
  unfold its kI Wk.kids
  rw [List.filter_map]
  rfl

theorem mem_kI {W0 : List Im} {p : List Name} {x : Im} : x ∈ kI W0 p ↔ x ∈ W0 ∧ ∃ s, x.it.nms = p ++ [s] := Wk.mem_kids

theorem mem_dI {W0 : List Im} : ∀ (k : Nat) (p : List Name) (x : Im), x ∈ dI W0 k p → x ∈ W0
  | 0, _, _, h => absurd h List.not_mem_nil
  | k + 1, p, x, h => by
    rw [dI_succ, List.mem_flatMap] at h
    obtain ⟨y, hy, hx⟩ := h
    rcases List.mem_cons.1 hx with e | hx
    · rw [e]; exact (mem_kI.1 hy).1
    · split at hx
      · exact mem_dI k _ x hx
      · exact absurd hx List.not_mem_nil

theorem mem_blk {W0 : List Im} {k : Nat} {x y : Im} (hx : x ∈ W0) (hy : y ∈ blk W0 k x) : y ∈ W0 := by
  rcases List.mem_cons.1 hy with e | hy
  · rw [e]; exact hx
  · split at hy
    · exact mem_dI k _ y hy
    · exact absurd hy List.not_mem_nil

/-- what comes first lies not beneath p -/
def Nb0 (p : List Name) (rest : List Im) : Prop := ∀ y, rest.head? = some y → ¬ ∃ r, r ≠ [] ∧ y.it.nms = p ++ r

theorem nb_sub {W0 : List Im} {k : Nat} {p : List Name} {s : Name} {K rest : List Im} (hK : ∀ y ∈ K, ∃ t, y.it.nms = p ++ [t]) (h : Nb0 p rest) : Nb0 (p ++ [s]) (K.flatMap (blk W0 k) ++ rest) := by
  intro y hy ⟨r, hr, e⟩
  cases K with
  | nil =>
    refine h y hy ⟨s :: r, by simp, ?_⟩
    rw [e]; simp
  | cons z K =>
    have hz : (z :: K).flatMap (blk W0 k) ++ rest = z :: ((if z.it.dir then dI W0 k z.it.nms else []) ++ (K.flatMap (blk W0 k) ++ rest)) := by
      rw [List.flatMap_cons]; simp [blk]
    rw [hz, List.head?_cons, Option.some.injEq] at hy
    subst hy
    obtain ⟨t, ht⟩ := hK z List.mem_cons_self
    rw [ht] at e
    have h1 := congrArg List.length e
    have h2 : 0 < r.length := List.length_pos_iff.2 hr
    rw [List.length_append, List.length_append, List.length_append] at h1
    simp only [List.length_cons, List.length_nil] at h1
    omega

theorem tails_inj {l m : List Name} (hl : ∀ s ∈ l, (47 : UInt8) ∉ s) (hm : ∀ s ∈ m, (47 : UInt8) ∉ s) (h : Nn.tails l = Nn.tails m) : l = m := by
  have h1 := Nn.cut_tails hl
  have h2 := Nn.cut_tails hm
  rw [h, h2] at h1
  exact (List.cons.inj h1).2.symm

/-- how an item's path parts -/
theorem path_parts {x : Im} (h : Wk.Ok1 x.it) : x.path.data.toList = Wk.par x.it ++ 47 :: Wk.nam x.it := Wk.path_snoc h

theorem nms_noslash {x : Im} (h : Wk.Ok1 x.it) : ∀ s ∈ x.it.nms, (47 : UInt8) ∉ s := Nn.noslash (Wk.errs_nms h)

theorem path_size {x : Im} (_ : Wk.Ok1 x.it) (hp : x.path.size ≤ 140737488351232) : x.path.size < 4611686018427387904 := by omega

theorem nms_last {x : Im} {p : List Name} {s : Name} (e : x.it.nms = p ++ [s]) : Wk.par x.it = Nn.tails p ∧ Wk.nam x.it = s := by
  unfold Wk.par Wk.nam
  rw [e]
  simp

/-- a row without its first thing -/
theorem Rx.rest {α : Type} {k : Nat} {C : α → List Value} {w : World} {bk o c : Nat} {x : α} {l : List α} (h : Rx k C w (.slice (some ⟨bk, o, none⟩) (l.length + 1) c) (x :: l)) :
    Rx k C w (.slice (if c = 1 then some ⟨bk, o, none⟩ else some ⟨bk, o + k, none⟩) l.length (c - 1)) l := by
  obtain ⟨a', n', c', e, h1, h2⟩ := h.room
  cases e
  refine ⟨?_, ⟨_, _, _, rfl, by omega, by omega⟩⟩
  by_cases hc : c = 1
  · have hl : l.length = 0 := by omega
    rw [List.length_eq_zero_iff.1 hl]
    exact .inl ⟨⟨_, _, rfl⟩, rfl⟩
  · rw [if_neg hc]
    rcases h.at_ with ⟨⟨_, _, e⟩, _⟩ | ⟨bk', o', cap, e, h3, h4⟩
    · cases e
    · cases e
      refine .inr ⟨bk, o + k, c - 1, rfl, h3, fun j t hj r u hu => ?_⟩
      have := h4 (j + 1) t (by simpa using hj) r u hu
      rw [Nat.add_mul, Nat.one_mul] at this
      rw [← this]
      congr 2
      omega

theorem Plt.set4 {base b m n : Nat} {fx mn mx bt : Int} {w : World} {left left' : List Im} {bs : List Blb} (h : Plt base b m fx mn mx bt w left bs n) (lv : Value) (h1 : Ims w lv left') (h2 : ∀ a n c, lv = .slice (some a) n c → left' ≠ [] → a.block < base) :
    Plt base b m fx mn mx bt (w.setCell ⟨b, 4, none⟩ lv) left' bs n ∧ Kt 59 w (w.setCell ⟨b, 4, none⟩ lv) ∧ Below base w (w.setCell ⟨b, 4, none⟩ lv) := by
  obtain ⟨⟨lv0, bv, p1, p2, p3, p4⟩, hm, ha, hc⟩ := h
  have hk : Kt 59 w (w.setCell ⟨b, 4, none⟩ lv) := Kt.set p1 4 lv
  have hb : Below base w (w.setCell ⟨b, 4, none⟩ lv) := (Below.refl _ w).setCell ha _
  refine ⟨⟨⟨lv, bv, ?_, h1.keepb hb h2, h2, own_kt p4 hk (by decide)⟩, hm.obj fun es c ho => hk.obj _ _ ho (fun ⟨_, _, e⟩ => by cases e), ha, hc⟩, hk, hb⟩
  have := set_at p1 4 lv
  simpa using this

/-- what is sure of the items that are planted -/
structure Gd (fx mn mx bt : Int) (W0 : List Im) : Prop where
  right : Wk.Right (its W0)
  ok : ∀ x ∈ W0, x.Ok
  way : wayN fx mn mx bt = 0

theorem Gd.ok1 {fx mn mx bt : Int} {W0 : List Im} (h : Gd fx mn mx bt W0) {x : Im} (hx : x ∈ W0) : Wk.Ok1 x.it := Wk.iErr_ok (h.right.each _ (List.mem_map_of_mem hx))

/-- what directory answers -/
def DirOk (base b m : Nat) (fx mn mx bt : Int) (W0 : List Im) (k : Nat) : Prop := ∀ (p : List Name) (rest : List Im) (bs : List Blb) (c : Nat) (w : World), p.length + k = 9 → (∀ s ∈ p, (47 : UInt8) ∉ s) → (∀ y ∈ rest, y ∈ W0) → Nb0 p rest →
  c + 300 * (dI W0 k p).length ≤ 800000000 → Pq base b m fx mn mx bt c w (dI W0 k p ++ rest) bs → (∀ W, Below base w W → Tabs W) → ∀ R, R = Wk.plantDir (cutF fx mn mx bt) (its W0) k p (pl bs) →
  Calls Tryz.prog 22 #[.pointer (some ⟨b, 0, none⟩), .string (mkB (Nn.tails p))] w fun e w' => ∃ id, e = .returned (.tuple #[idV id, .int .i64 R.2.2]) ∧ id.length = 8 ∧ Pf base w w' ∧
    (R.2.2 = 0 → id = R.2.1 ∧ ∃ bs', pl bs' = R.1 ∧ Pq base b m fx mn mx bt (c + 300 * (dI W0 k p).length + 1) w' rest bs')

theorem lit_small {n : Int} (h0 : -9223372036854775808 ≤ n) (h1 : n ≤ 9223372036854775807) : (Lit.int .i64 n).wf = true := by
  simp [Lit.wf, IntKind.min, IntKind.max, IntKind.signed, IntKind.bits]
  exact ⟨h0, h1⟩

/-- what node answers, of an item that lies in the directory p -/
theorem node_any {base b m c : Nat} {fx mn mx bt : Int} {W0 : List Im} (hg : Gd fx mn mx bt W0) {k : Nat} (hd : 1 ≤ k → DirOk base b m fx mn mx bt W0 k) {p : List Name} {s : Name} {x : Im} (hx : x ∈ W0) (hs : x.it.nms = p ++ [s]) (hk : p.length + (k + 1) = 9) (rest : List Im) (hr : ∀ y ∈ rest, y ∈ W0) (hn : x.it.dir = true → Nb0 (p ++ [s]) rest) (bs : List Blb) (w : World)
    (hc : c + 300 * (blk W0 k x).length ≤ 800000000) (h : Pq base b m fx mn mx bt c w ((if x.it.dir then dI W0 k x.it.nms else []) ++ rest) bs) (hT : ∀ W, Below base w W → Tabs W) (T : List Pk.Bl × List Wk.Bs × Int) (hTt : T = Wk.thing (cutF fx mn mx bt) (Wk.plantDir (cutF fx mn mx bt) (its W0) k) x.it (pl bs)) :
    Calls Tryz.prog 42 #[.pointer (some ⟨b, 0, none⟩), imV x] w fun e w' => ∃ (n : Nod) (a : Option Addr) (q q' : Nat), e = .returned (.tuple #[.agg (ndC n (.slice a q q')).toArray, .int .i64 T.2.2]) ∧ Pf base w w' ∧
      (T.2.2 = 0 → q = n.parts.length ∧ n.nd = Wk.node x.it T.2.1 ∧ NdG w' n (ndC n (.slice a q q')) ∧ ∃ bs', pl bs' = T.1 ∧ Pq base b m fx mn mx bt (c + 300 * (blk W0 k x).length) w' rest bs') := by
  have hok1 := hg.ok1 hx
  have hxo := hg.ok x hx
  have hlen : (blk W0 k x).length = 1 + (if x.it.dir then dI W0 k x.it.nms else []).length := by simp [blk]; omega
  have hln := fun W => lastName_any x.path (Wk.par x.it) (Wk.nam x.it) W (path_parts hok1) (Wk.nam_slash hok1) (path_size hok1 hxo.path)
  have hnmsz : (mkB (Wk.nam x.it)).size ≤ 9223372036854775807 := by
    have h1 := Wk.path_long hok1
    have h2 := hxo.path
    rw [Lib.size_eq] at h2
    have h3 : x.it.path.length = x.path.data.toList.length := rfl
    rw [mkB, Lib.size_eq]
    simp
    omega
  have hok : ∀ (sz : Int) (ids : List Wk.Bs) (lk : ByteArray), 0 ≤ sz → sz ≤ 9223372036854775807 → lk.size ≤ 9223372036854775807 → (∀ t ∈ ids, t.length = 8) → Nod.Ok ⟨mkB (Wk.nam x.it), x.kind, x.mode, x.time, sz, ids, lk⟩ := fun sz ids lk h0 h1 h2 h3 => by
    have hkd : x.kind = 1 ∨ x.kind = 2 ∨ x.kind = 3 := hok1.kind
    have hmd : 0 ≤ x.mode ∧ x.mode ≤ 511 := hok1.mode
    exact ⟨lit_small (by show _ ≤ x.kind; omega) (by show x.kind ≤ _; omega), lit_small (by show _ ≤ x.mode; omega) (by show x.mode ≤ _; omega), hxo.time, lit_small (by show _ ≤ sz; omega) h1, hnmsz, h2, h3⟩
  rcases hok1.kind with e1 | e1 | e1
  · have e1' : x.kind = 1 := e1
    have hdir : x.it.dir = false := by unfold Wk.It.dir; rw [e1]; rfl
    simp only [hdir, Bool.false_eq_true, if_false, List.nil_append, List.length_nil] at h hlen
    have hbs : x.bytes.size ≤ 4096 := by
      have := hok1.file e1
      rw [Lib.size_eq]; exact this
    have hT1 : T = Wk.pieces (cutF fx mn mx bt x.bytes.data.toList) (pl bs) := by rw [hTt]; unfold Wk.thing; rw [if_pos e1]; rfl
    refine (node_file base b m c fx mn mx bt rest bs x (mkB (Wk.nam x.it)) w h e1' (by omega) hg.way hbs hln T hT1).mono ?_
    rintro e w' ⟨a, n, c', rfl, hf, hz⟩
    refine ⟨⟨mkB (Wk.nam x.it), x.kind, x.mode, x.time, x.bytes.size, T.2.1, ⟨#[]⟩⟩, a, n, c', by rw [← e1'], hf, fun hE => ?_⟩
    obtain ⟨o1, o2, o3, bs', o4, o5⟩ := hz hE
    obtain ⟨a1, c1, e2⟩ := own_form o1
    cases e2
    refine ⟨rfl, ?_, ⟨_, rfl, rx_own o1 rfl o2, own_type o1, hok _ _ _ (by omega) (by omega) (by decide) o2⟩, bs', o4, o5.mono (by omega)⟩
    show Td.Nd.mk _ _ _ _ _ _ _ = Td.Nd.mk _ _ _ _ _ _ _
    have e3 : x.it.kind = 1 := e1
    rw [if_pos e3, if_neg (by rw [e3]; decide), Lib.size_eq]
    rfl
  · have e1' : x.kind = 2 := e1
    have hdir : x.it.dir = true := by unfold Wk.It.dir; rw [e1]; rfl
    rw [if_pos hdir] at h hlen
    have hk1 : 1 ≤ k := by
      have := Wk.names_few hok1
      rw [hs] at this
      simp at this
      omega
    have hT1 : T = ((Wk.plantDir (cutF fx mn mx bt) (its W0) k x.it.nms (pl bs)).1, [(Wk.plantDir (cutF fx mn mx bt) (its W0) k x.it.nms (pl bs)).2.1], (Wk.plantDir (cutF fx mn mx bt) (its W0) k x.it.nms (pl bs)).2.2) := by
      rw [hTt]; unfold Wk.thing; rw [if_neg (by rw [e1]; decide), if_pos e1]
    obtain ⟨R, hR⟩ : ∃ R, R = Wk.plantDir (cutF fx mn mx bt) (its W0) k x.it.nms (pl bs) := ⟨_, rfl⟩
    rw [← hR] at hT1
    subst hT1
    have hpe : x.path = mkB (Nn.tails x.it.nms) := by
      have h1 : x.it.path = Nn.tails x.it.nms := Wk.path_tails hok1
      have h2 : x.path = mkB x.it.path := rfl
      rw [h2, h1]
    refine (node_dir base b m c (c + 300 * (dI W0 k x.it.nms).length + 1) fx mn mx bt _ rest bs x (mkB (Wk.nam x.it)) w h e1' hln R (fun W hb hW => ?_)).mono ?_
    · rw [hpe]
      exact hd hk1 x.it.nms rest bs c W (by rw [hs, List.length_append]; simp only [List.length_cons, List.length_nil]; omega) (nms_noslash hok1) hr (by rw [hs]; exact hn hdir) (by omega) hW (fun W' hW' => hT W' (hb.trans hW')) R hR
    · rintro e w' ⟨a, id, rfl, hf, h8, hrow, hz⟩
      refine ⟨⟨mkB (Wk.nam x.it), x.kind, x.mode, x.time, 0, [id], ⟨#[]⟩⟩, a, 1, 1, by rw [← e1'], hf, fun hE => ?_⟩
      obtain ⟨rfl, bs', o4, o5⟩ := hz hE
      have hids : ∀ t ∈ [R.2.1], t.length = 8 := fun t ht => by rw [List.mem_singleton.1 ht]; exact h8
      have hrow' : w'.ownsRow w.heap.size 29 8 (.slice a 1 1) 1 (rowR idC [R.2.1]) := by
        have : rowR idC [R.2.1] = idC R.2.1 := by simp [rowR]
        rw [this]; exact hrow
      refine ⟨rfl, ?_, ⟨_, rfl, rx_own hrow' rfl hids, own_type hrow', hok _ _ _ (by omega) (by omega) (by decide) hids⟩, bs', o4, o5.mono (by omega)⟩
      show Td.Nd.mk _ _ _ _ _ _ _ = Td.Nd.mk _ _ _ _ _ _ _
      have e3 : x.it.kind = 2 := e1
      rw [if_neg (by rw [e3]; decide), if_neg (by rw [e3]; decide)]
      rfl
  · have e1' : x.kind = 3 := e1
    have hdir : x.it.dir = false := by unfold Wk.It.dir; rw [e1]; rfl
    simp only [hdir, Bool.false_eq_true, if_false, List.nil_append, List.length_nil] at h hlen
    have hT1 : T = (pl bs, [], 0) := by rw [hTt]; unfold Wk.thing; rw [if_neg (by rw [e1]; decide), if_neg (by rw [e1]; decide)]
    subst hT1
    refine (node_link base b m c fx mn mx bt rest bs x (mkB (Wk.nam x.it)) w h e1' hln).mono ?_
    rintro e w' ⟨rfl, hf, hz⟩
    refine ⟨⟨mkB (Wk.nam x.it), x.kind, x.mode, x.time, 0, [], x.bytes⟩, none, 0, 0, by rw [← e1'], hf, fun _ => ?_⟩
    refine ⟨rfl, ?_, ⟨_, rfl, ⟨.inl ⟨⟨_, _, rfl⟩, rfl⟩, ⟨_, _, _, rfl, Nat.le_refl _, by omega⟩⟩, (fun a m c e => by cases e), hok _ _ _ (by omega) (by omega) (by have := hxo.bytes; omega) (fun t ht => absurd ht List.not_mem_nil)⟩, bs, rfl, hz.mono (by omega)⟩
    show Td.Nd.mk _ _ _ _ _ _ _ = Td.Nd.mk _ _ _ _ _ _ _
    have e3 : x.it.kind = 3 := e1
    rw [if_neg (by rw [e3]; decide), if_pos e3]
    rfl

end Go.Proofs.YtimdioacmojkeaaGreatDoor

namespace Go.Proofs.YtimdioacmojkeaaGreatDoor
open Go.RowKit
set_option maxRecDepth 4000

set_option maxHeartbeats 400000 in
theorem rputI_any (n : Int) (w : World) (n0 : -9223372036854775808 ≤ n) (n1 : n ≤ 9223372036854775807) :
    Calls Tryz.prog 75 #[.int .i64 n] w fun e w' => e = .returned (.string ⟨(Nm.putI n).toArray⟩) ∧ Below w.heap.size w w' := by
  by_cases h : n < 0
  · have hl := Nm.dig_length_le (-1 - n).toNat
    have hb0 : (0 : Int) ≤ 127 - ((Nm.dig (-1 - n).toNat).length : Int) := by omega
    have hb1 : 127 - ((Nm.dig (-1 - n).toNat).length : Int) ≤ 255 := by omega
    obtain ⟨c, hc⟩ : ∃ c, c = UInt8.ofNat (127 - ((Nm.dig (-1 - n).toNat).length : Int)).toNat := ⟨_, rfl⟩
    have hr1 := str_new (127 - ((Nm.dig (-1 - n).toNat).length : Int)) hb0 hb1
    have hr2 := str_new_drew (127 - ((Nm.dig (-1 - n).toNat).length : Int)) hb0 hb1
    rw [← hc] at hr1 hr2
    have hcat : ∀ W : World, (Op.stringOp .add ⟨#[c]⟩ ⟨(Nm.tn 255 (Nm.dig (-1 - n).toNat)).toArray⟩).run Tryz.prog W = .ok (.string ⟨(Nm.putI n).toArray⟩) W := fun W => by
      have := run_string_add_lists (P := Tryz.prog) W [c] (Nm.tn 255 (Nm.dig (-1 - n).toNat)) (by simp) (by rw [Nm.tn_length]; omega)
      rw [Nm.putI, if_pos h, show 127 - (Nm.dig (-1 - n).toNat).length = (127 - ((Nm.dig (-1 - n).toNat).length : Int)).toNat from by omega, ← hc]
      exact this
    have HC : Hid (c = UInt8.ofNat (127 - ((Nm.dig (-1 - n).toNat).length : Int)).toNat) := hc
    clear hc
    go_enter Tryz.func75, Tryz.ntmps75
    go_wp2_with fail
    refine (digits_any 8 _ _ (by omega) (by omega) (by omega)).mono ?_
    rintro e w1 ⟨rfl, hb⟩
    rw [show Nm.digF 8 (-1 - n).toNat = Nm.dig (-1 - n).toNat from rfl]
    have hw1 : IntKind.i64.wrap (127 - ((Nm.dig (-1 - n).toNat).length : Int)) = 127 - ((Nm.dig (-1 - n).toNat).length : Int) := by rw [IntKind.wrap_i64]; omega
    have hw2 : IntKind.u8.wrap (127 - ((Nm.dig (-1 - n).toNat).length : Int)) = 127 - ((Nm.dig (-1 - n).toNat).length : Int) := by rw [IntKind.wrap_u8]; omega
    go_wp2_with fail
    go_region_with (go_at_call 100; refine (turned_any _ _ (by simp [ByteArray.size]; omega)).mono ?_; rintro e w' ⟨rfl, hb2⟩; try (have hr3 := str_kept w1 (127 - ((Nm.dig (-1 - n).toNat).length : Int)) hb0 hb1 hb2; rw [← HC.out] at hr3))
    all_goals
      clear hr1 hr2 hcat
      go_wp2_with fail
      go_ret
      refine ⟨rfl, ?_⟩
      have hs1 := hb.size
      first
        | (have h := hb2.size; exact ((hb.drew).trans (hb2.mono (by simpa using hs1))).alloc (by simp at h; omega) _)
        | exact ((hb.alloc hs1 _).drew).trans (hb2.mono (by simp; omega))
  · have hl := Nm.dig_length_le n.toNat
    obtain ⟨c, hc⟩ : ∃ c, c = UInt8.ofNat (128 + ((Nm.dig n.toNat).length : Int)).toNat := ⟨_, rfl⟩
    have hr1 := str_new (128 + ((Nm.dig n.toNat).length : Int)) (by omega) (by omega)
    rw [← hc] at hr1
    have hcat : ∀ W : World, (Op.stringOp .add ⟨#[c]⟩ ⟨(Nm.dig n.toNat).toArray⟩).run Tryz.prog W = .ok (.string ⟨(Nm.putI n).toArray⟩) W := fun W => by
      have := run_string_add_lists (P := Tryz.prog) W [c] (Nm.dig n.toNat) (by simp) (by omega)
      rw [Nm.putI, if_neg h, show 128 + (Nm.dig n.toNat).length = (128 + ((Nm.dig n.toNat).length : Int)).toNat from by omega, ← hc]
      exact this
    clear hc
    go_enter Tryz.func75, Tryz.ntmps75
    go_wp2_with fail
    refine (digits_any 8 _ _ (by omega) (by omega) (by omega)).mono ?_
    rintro e w1 ⟨rfl, hb⟩
    rw [show Nm.digF 8 n.toNat = Nm.dig n.toNat from rfl]
    have hbs := hb.size
    go_wp2_with fail
    go_ret
    exact ⟨rfl, hb.alloc hbs _⟩
end Go.Proofs.YtimdioacmojkeaaGreatDoor

namespace Go.Proofs.YtimdioacmojkeaaGreatDoor
open Go.RowKit
set_option maxRecDepth 4000

/-- a byte in a block of its own -/
def Bt1 (b : Int) (u : Value) (W : World) : Prop := ∃ g, u = .slice (some ⟨g, 0, none⟩) 1 1 ∧ W.cell? ⟨g, 0, none⟩ = some (.int .u8 b)

theorem Bt1.mono {b : Int} (u : Value) (w w' : World) (h : Bt1 b u w) (hg : Gw w w') : Bt1 b u w' := by
  obtain ⟨g, e, hc⟩ := h
  exact ⟨g, e, (Below.cell hg (p := ⟨g, 0, none⟩) (World.block_lt_of_cell? w _ hc)).trans hc⟩

theorem Bt1.new (W : World) (b : Int) : Bt1 b (.slice (some ⟨W.heap.size, 0, none⟩) 1 1) (W.alloc (.cells #[.int .u8 b] 5)) := ⟨_, rfl, by simp⟩

/-- the package variable that strings.Repeat and strings.Builder look at: whatever it holds -/
def Ml (w : World) : Prop := ∃ m : Int, w.cell? ⟨0, 0, none⟩ = some (.int .i64 m)

theorem Ml.below {w W : World} (h : Ml w) (hb : Below w.heap.size w W) : Ml W := by
  obtain ⟨m, hm⟩ := h
  exact ⟨m, (Below.cell hb (p := ⟨0, 0, none⟩) (World.block_lt_of_cell? w _ hm)).trans hm⟩

theorem putT_str (s : ByteArray) (w : World) (hm : Ml w) (hs : s.size ≤ 1024) :
    Calls Tryz.prog 74 #[.string s] w fun e w' => e = .returned (.tuple #[.string ⟨(Nm.putT s.data.toList).toArray⟩, .int .i64 0]) ∧ Below w.heap.size w w' := by
  obtain ⟨m, hm⟩ := hm
  exact rputT_any s m w hm hs

/-- rows up to place k -/
theorem rowsT_more (l : List Nod) (k : Nat) (h : k < l.length) : Td.rowsT (nds (l.take (k + 1))) = Td.rowsT (nds (l.take k)) ++ Td.rowT l[k].nd := by
  rw [List.take_succ_eq_append_getElem h]
  simp only [nds, Td.rowsT, List.map_append, List.map_cons, List.map_nil, List.flatten_append, List.flatten_cons, List.flatten_nil, List.append_nil]

theorem eight_of {t : List UInt8} (h : t.length = 8) : ∃ b0 b1 b2 b3 b4 b5 b6 b7, t = [b0, b1, b2, b3, b4, b5, b6, b7] := by
  match t, h with
  | [b0, b1, b2, b3, b4, b5, b6, b7], _ => exact ⟨b0, b1, b2, b3, b4, b5, b6, b7, rfl⟩

theorem str8_of (W : World) (G c : Nat) (t : List UInt8) (h : ∀ j (hj : j < t.length), W.cell? ⟨G, j, none⟩ = some (B t[j])) :
    (convert 84 9 (.slice (some ⟨G, 0, none⟩) t.length c)).run Tryz.prog W = .ok (.string ⟨t.toArray⟩) W := by
  refine run_convert_bytes_back W 84 9 5 ⟨G, 0, none⟩ c t (by kernel_rfl) (by kernel_rfl) (by kernel_rfl) ?_
  intro j hj
  rw [show ((⟨G, 0, none⟩ : Addr).add j) = ⟨G, j, none⟩ from by unfold Addr.add; split <;> simp_all]
  exact h j hj

set_option maxHeartbeats 8000000 in
set_option maxRecDepth 10000 in
theorem rwrite_any (v : Value) (l : List Nod) (w : World) (h : Nds w v l) (hl : l.length ≤ 9223372036854775807) (hs : ∀ n ∈ l, n.name.size ≤ 4194304) (hM : Ml w) :
    Calls Tryz.prog 48 #[v] w fun e w' => e = .returned (.tuple #[.string ⟨(Td.write (nds l)).1.toArray⟩, .int .i64 (Td.write (nds l)).2]) ∧ Below w.heap.size w w' := by
  obtain ⟨a, c, rfl⟩ := h.slice
  have hno := rnodes_any _ l w h hl hs
  have HX : Hid (Nds w (.slice a l.length c) l) := h
  have HM : Hid (Ml w) := hM
  have HZ : Hid (Td.write (nds l) = if Td.check (nds l) ≠ 0 then ([], Td.check (nds l)) else if 4096 < (Td.textB (nds l)).length then ([], 2) else (Td.textB (nds l), 0)) := rfl
  have HC : Hid (Td.check (nds l) = 0 → l.length ≤ 64 ∧ ∀ n ∈ l, Td.nErr n.nd = 0) := fun q => by
    obtain ⟨c1, c2⟩ := Td.check_ok q
    rw [nds_length] at c1
    exact ⟨c1, fun n hn => c2 _ (List.mem_map_of_mem hn)⟩
  have HTx : Hid (Td.textB (nds l) = Nm.put l.length ++ Td.rowsT (nds l)) := by show _ = _; rw [Td.textB, nds_length]
  generalize Td.write (nds l) = Z at *
  generalize Td.check (nds l) = E at *
  generalize Td.textB (nds l) = TX at *
  obtain ⟨N, hN⟩ : ∃ N, N = l.length := ⟨_, rfl⟩
  have HN : Hid (N = l.length) := hN
  rw [← hN] at HX HC HTx hl hno ⊢
  clear h hs hM hN
  go_enter Tryz.func48, Tryz.ntmps48
  go_wp2_with fail
  refine hno.mono ?_
  rintro e w1 ⟨rfl, b1⟩
  have HB1 : Hid (Below w.heap.size w w1) := b1
  clear hno b1
  by_cases hE : E ≠ 0
  · have hqn : (E != 0) = true := by rw [bne_iff_ne]; exact hE
    have HR : Hid (Z = ([], E)) := by
      have := HZ.out
      rwa [if_pos hE] at this
    clear HZ HC HTx
    go_wp2_with fail
    go_ret2
    exact ⟨by rw [HR.out]; rfl, HB1.out⟩
  obtain rfl := Decidable.not_not.mp hE
  clear hE
  obtain ⟨h64, hok⟩ := HC.out rfl
  have HOk : Hid (∀ n ∈ l, Td.nErr n.nd = 0) := hok
  have HZ1 : Hid (Z = if 4096 < TX.length then ([], 2) else (TX, 0)) := by
    have := HZ.out
    rwa [if_neg (by simp)] at this
  have hwn : IntKind.u64.wrap (N : Int) = (N : Int) := wrap_u64 _ (by omega) (by omega)
  have hpn := rput_any (N : Int) w1 (by omega) (by omega)
  simp only [Int.toNat_natCast] at hpn
  obtain ⟨P0, hP0⟩ : ∃ P0, P0 = Nm.put N := ⟨_, rfl⟩
  have HP9 : Hid (P0.length ≤ 9) := by show _ ≤ _; rw [hP0]; exact Nm.put_length _
  rw [← hP0] at hpn HTx
  clear hok HC HZ hP0
  go_wp2_with fail
  refine hpn.mono ?_
  rintro e w2 ⟨rfl, b2⟩
  have HB2 : Hid (Below w.heap.size w w2) := HB1.out.trans (b2.mono HB1.out.size)
  clear hpn b2 HB1 hwn
  go_wp2_with fail
  go_loopw [5, 25] (fun x i wr => ∃ (k : Nat) (L : List UInt8), k ≤ N ∧ i = .int .i64 k ∧ x = .string ⟨L.toArray⟩ ∧ L.length ≤ 9 + 4800 * k ∧ Hid (P0 ++ Td.rowsT (nds (l.take k)) = L) ∧ Hid (Below w.heap.size w wr)) (fun _ i _ => N - (intOf i).toNat)
  case atStart => exact ⟨0, P0, by omega, rfl, rfl, by have := HP9.out; omega, List.append_nil _, HB2⟩
  case round =>
    clear HB2
    obtain ⟨k, L, hk, rfl, rfl, hLl, HL, HB⟩ := hrel
    by_cases hlt : k < N
    · have hkl : k < l.length := by rw [← HN.out]; exact hlt
      obtain ⟨bk, o, cs, rfl, hbk, hcl, ⟨v, rfl, hPs, hnk⟩, hcell⟩ := (HX.out.below HB.out).get k l[k] (List.getElem?_eq_getElem hkl)
      have HRw : Hid (Td.rowsT (nds (l.take (k + 1))) = Td.rowsT (nds (l.take k)) ++ Td.rowT l[k].nd) := rowsT_more l k hkl
      obtain ⟨q0, q1, q2, q3, q4, q5, q6, q7, q8⟩ := Td.nErr_ok (HOk.out _ (List.getElem_mem hkl))
      have q9 := Nn.nm_long q0
      obtain ⟨av, cv, rfl, _⟩ := hPs.slice
      have HPs : Hid (Rx 8 idC wr (.slice av l[k].parts.length cv) l[k].parts ∧ ∀ p ∈ l[k].parts, p.length = 8) := ⟨hPs, hnk.ids⟩
      have htm := hnk.time
      have c0 : wr.cell? ⟨bk, o + k * 7, none⟩ = some (.string l[k].name) := hcell 0 _ rfl
      have c1 := hcell 1 _ rfl
      have c2 := hcell 2 _ rfl
      have c3 := hcell 3 _ rfl
      have c4 := hcell 4 _ rfl
      have c5 := hcell 5 _ rfl
      have c6 := hcell 6 _ rfl
      generalize l[k] = n at *
      obtain ⟨name, kind, mode, time, size, parts, link⟩ := n
      dsimp only [Nod.nd] at *
      obtain ⟨kd, rfl⟩ := Int.eq_ofNat_of_zero_le (a := kind) (by omega)
      obtain ⟨md, rfl⟩ := Int.eq_ofNat_of_zero_le q1
      obtain ⟨sz, rfl⟩ := Int.eq_ofNat_of_zero_le q3
      obtain ⟨np, hnp⟩ : ∃ np, np = parts.length := ⟨_, rfl⟩
      have HNp : Hid (np = parts.length) := hnp
      rw [← hnp] at HPs q5 c5
      simp [Lit.wf, IntKind.min, IntKind.max, IntKind.signed, IntKind.bits] at htm
      have hns : name.size ≤ 1024 := by rw [Lib.size_eq]; omega
      have hls : link.size ≤ 1024 := by rw [Lib.size_eq]; exact q8
      have HRow : Hid (Td.rowT ⟨name.data.toList, (kd : Nat), (md : Nat), time, (sz : Nat), parts, link.data.toList⟩ = ((Nm.putT name.data.toList ++ [UInt8.ofNat kd] ++ Nm.put md ++ Nm.putI time ++ Nm.put sz ++ Nm.put np) ++ parts.flatten) ++ Nm.putT link.data.toList) := by
        show _ = _
        rw [hnp]
        simp [Td.rowT]
      obtain ⟨W1, hW1⟩ : ∃ W1, W1 = wr.alloc (.cells #[.string name, .int .i64 (kd : Nat), .int .i64 (md : Nat), .int .i64 time, .int .i64 (sz : Nat), .slice av np cv, .string link] 89) := ⟨_, rfl⟩
      have hB1 : Below wr.heap.size wr W1 := by rw [hW1]; exact (Below.refl _ wr).alloc (Nat.le_refl _) _
      have HBB : Hid (Below wr.heap.size wr W1) := hB1
      have HM1 : Hid (W1.heap[wr.heap.size]? = some (.cells #[.string name, .int .i64 (kd : Nat), .int .i64 (md : Nat), .int .i64 time, .int .i64 (sz : Nat), .slice av np cv, .string link] 89 (0, 0))) := by rw [hW1]; exact heap_alloc_new wr _
      have HB1 : Hid (Below w.heap.size w W1) := HB.out.trans (hB1.mono HB.out.size)
      clear hcell hPs hnk hcl hB1 hnp q0 q6
      go_upto_region 8 with fail
      rw [← hW1]
      obtain ⟨b7, hb7⟩ : ∃ b7, b7 = wr.heap.size := ⟨_, rfl⟩
      rw [← hb7] at HM1 ⊢
      have HLt : Hid (b7 < W1.heap.size) := (Array.getElem?_eq_some_iff.1 HM1.out).1
      obtain ⟨m0, m1, m2, m3, m4, m5, m6⟩ := seven_at HM1.out
      clear hW1 c0 c1 c2 c3 c4 c5 c6 hb7 m1 m2 m3 m4 m5 m6
      have hp1 := putT_str name W1 (HM.out.below HB1.out) hns
      have ht1 := Nm.putT_length name.data.toList
      have hp2 := fun W (hW : Below w.heap.size w W) => putT_str link W (HM.out.below hW) hls
      have ht6 := Nm.putT_length link.data.toList
      have hl0 : link.data.toList.length ≤ 1024 := q8
      have hput2 := fun W => rput_any (md : Nat) W (by omega) (by omega)
      have hput3 := fun W => rputI_any time W htm.1 htm.2
      have hput4 := fun W => rput_any (sz : Nat) W (by omega) (by omega)
      have hput5 := fun W => rput_any (np : Nat) W (by omega) (by omega)
      simp only [Int.toNat_natCast] at hput2 hput4 hput5
      have ht2 := Nm.put_length md
      have ht3 := Nm.putI_length time
      have ht4 := Nm.put_length sz
      have ht5 := Nm.put_length np
      generalize Nm.putT name.data.toList = T1 at *
      generalize Nm.putT link.data.toList = T6 at *
      have hT6 : T6.length ≤ 2050 := by omega
      generalize Nm.put md = T2 at *
      generalize Nm.putI time = T3 at *
      generalize Nm.put sz = T4 at *
      generalize Nm.put np = T5 at *
      go_wp2_with fail
      refine hp1.mono ?_
      rintro e w3 ⟨rfl, b3⟩
      have HB3 : Hid (Below W1.heap.size W1 w3) := b3
      have HB3w : Hid (Below w.heap.size w w3) := HB1.out.trans (b3.mono HB1.out.size)
      obtain ⟨m0, m1, m2, m3, m4, m5, m6⟩ := seven_at ((b3.block _ HLt.out).trans HM1.out)
      clear hp1 b3 m1 m2 m3 m4 m5
      have hp3 := hp2 w3 HB3w.out
      clear hp2 m0
      go_wp2_with fail
      refine hp3.mono ?_
      rintro e w4 ⟨rfl, b4⟩
      have HB4 : Hid (Below W1.heap.size W1 w4) := HB3.out.trans (b4.mono HB3.out.size)
      have HB4w : Hid (Below w.heap.size w w4) := HB3w.out.trans (b4.mono HB3w.out.size)
      clear hp3 b4 m6 HB3 HB3w
      have hc1 : ∀ W : World, (Op.stringOp .add ⟨T1.toArray⟩ ⟨#[UInt8.ofNat kd]⟩).run Tryz.prog W = .ok (.string ⟨(T1 ++ [UInt8.ofNat kd]).toArray⟩) W := fun W => run_string_add_lists W T1 [UInt8.ofNat kd] (by omega) (by simp)
      have hk1 : (T1 ++ [UInt8.ofNat kd]).length ≤ 195 := by rw [List.length_append, List.length_singleton]; omega
      generalize T1 ++ [UInt8.ofNat kd] = K1 at *
      have hc2 : ∀ W : World, (Op.stringOp .add ⟨K1.toArray⟩ ⟨T2.toArray⟩).run Tryz.prog W = .ok (.string ⟨(K1 ++ T2).toArray⟩) W := fun W => run_string_add_lists W _ _ (by omega) (by omega)
      have hk2 : (K1 ++ T2).length ≤ 204 := by rw [List.length_append]; omega
      generalize K1 ++ T2 = K2 at *
      have hc3 : ∀ W : World, (Op.stringOp .add ⟨K2.toArray⟩ ⟨T3.toArray⟩).run Tryz.prog W = .ok (.string ⟨(K2 ++ T3).toArray⟩) W := fun W => run_string_add_lists W _ _ (by omega) (by omega)
      have hk3 : (K2 ++ T3).length ≤ 213 := by rw [List.length_append]; omega
      generalize K2 ++ T3 = K3 at *
      have hc4 : ∀ W : World, (Op.stringOp .add ⟨K3.toArray⟩ ⟨T4.toArray⟩).run Tryz.prog W = .ok (.string ⟨(K3 ++ T4).toArray⟩) W := fun W => run_string_add_lists W _ _ (by omega) (by omega)
      have hk4 : (K3 ++ T4).length ≤ 222 := by rw [List.length_append]; omega
      generalize K3 ++ T4 = K4 at *
      have hc5 : ∀ W : World, (Op.stringOp .add ⟨K4.toArray⟩ ⟨T5.toArray⟩).run Tryz.prog W = .ok (.string ⟨(K4 ++ T5).toArray⟩) W := fun W => run_string_add_lists W _ _ (by omega) (by omega)
      have hk5 : (K4 ++ T5).length ≤ 231 := by rw [List.length_append]; omega
      generalize K4 ++ T5 = K5 at *
      have hc6 : ∀ W : World, (Op.stringOp .add ⟨L.toArray⟩ ⟨K5.toArray⟩).run Tryz.prog W = .ok (.string ⟨(L ++ K5).toArray⟩) W := fun W => run_string_add_lists W _ _ (by omega) (by omega)
      obtain ⟨K6, hK6⟩ : ∃ K6, K6 = L ++ K5 := ⟨_, rfl⟩
      have HK6 : Hid (K6 = L ++ K5) := hK6
      have hk6 : K6.length ≤ 240 + 4800 * k := by rw [hK6, List.length_append]; omega
      rw [← hK6] at hc6
      clear hK6
      have hwk : IntKind.u8.wrap (kd : Int) = (kd : Int) := by simp only [IntKind.wrap, IntKind.bits, IntKind.signed]; simp; omega
      have hwm : IntKind.u64.wrap (md : Int) = (md : Int) := wrap_u64 _ (by omega) (by omega)
      have hwz : IntKind.u64.wrap (sz : Int) = (sz : Int) := wrap_u64 _ (by omega) (by omega)
      have hwp : IntKind.u64.wrap (np : Int) = (np : Int) := wrap_u64 _ (by omega) (by omega)
      have HCl : Hid (∀ W, Gw w4 W → W.heap[b7]? = some (.cells #[.string name, .int .i64 (kd : Nat), .int .i64 (md : Nat), .int .i64 time, .int .i64 (sz : Nat), .slice av np cv, .string link] 89 (0, 0))) := fun W hW => by
        have hb : Below W1.heap.size W1 W := HB4.out.trans (Below.mono hW HB4.out.size)
        exact (hb.block _ HLt.out).trans HM1.out
      have H1 : Hid (∀ W, Gw w4 W → W.cell? ⟨b7, 1, none⟩ = some (.int .i64 (kd : Nat))) := fun W hW => (seven_at (HCl.out W hW)).2.1
      have H2 : Hid (∀ W, Gw w4 W → W.cell? ⟨b7, 2, none⟩ = some (.int .i64 (md : Nat))) := fun W hW => (seven_at (HCl.out W hW)).2.2.1
      have H3 : Hid (∀ W, Gw w4 W → W.cell? ⟨b7, 3, none⟩ = some (.int .i64 time)) := fun W hW => (seven_at (HCl.out W hW)).2.2.2.1
      have H4 : Hid (∀ W, Gw w4 W → W.cell? ⟨b7, 4, none⟩ = some (.int .i64 (sz : Nat))) := fun W hW => (seven_at (HCl.out W hW)).2.2.2.2.1
      have H5 : Hid (∀ W, Gw w4 W → W.cell? ⟨b7, 5, none⟩ = some (.slice av np cv)) := fun W hW => (seven_at (HCl.out W hW)).2.2.2.2.2.1
      have HPq : Hid (∀ W, Gw w4 W → Rx 8 idC W (.slice av np cv) parts) := fun W hW => by
        have hb : Below W1.heap.size W1 W := HB4.out.trans (Below.mono hW HB4.out.size)
        exact HPs.out.1.below (HBB.out.trans (hb.mono HBB.out.size))
      have hkd : (kd : Nat) ≤ 3 := by omega
      clear ht1 ht2 ht3 ht4 ht5 hl0 htm hns hls q1 q2 q3 q4 q7 q8 q9 hk1 hk2 hk3 hk4 HM1 HBB HLt HB1 HB4
      go_wp2_with fail
      refine wp_region_rel_tail (G := Gw) (W0 := w4) 29 5 Gw.refl Gw.trans (by kernel_rfl) (by decide) (by kernel_rfl) (by kernel_rfl) (.inr (by kernel_rfl)) (Below.refl _ w4).drew ?_
      refine .inl ⟨.string ⟨(L).toArray⟩, fun v W hW hd => step_run rfl _ W (by clear hd; go_simp) rfl (Gw.refl _), ?_⟩
      simp only [Act.put, List.setIfInBounds_toArray, List.set_cons_zero, List.set_cons_succ]
      refine .inl ⟨.string ⟨(T1).toArray⟩, fun v W hW hd => step_run rfl _ W (by clear hd; go_simp) rfl (Gw.refl _), ?_⟩
      simp only [Act.put, List.setIfInBounds_toArray, List.set_cons_zero, List.set_cons_succ]
      refine .inl ⟨.pointer (some ⟨b7, 1, none⟩), fun v W hW hd => step_run rfl _ W (by clear hd; go_simp) rfl (Gw.refl _), ?_⟩
      simp only [Act.put, List.setIfInBounds_toArray, List.set_cons_zero, List.set_cons_succ]
      refine .inl ⟨.int .i64 (kd : Nat), fun v W hW hd => step_run rfl _ W (by clear hd; have ce := H1.out W hW; go_simp) rfl (Gw.refl _), ?_⟩
      simp only [Act.put, List.setIfInBounds_toArray, List.set_cons_zero, List.set_cons_succ]
      refine .inl ⟨.int .u8 (kd : Nat), fun v W hW hd => step_run rfl _ W (by clear hd; have he := hwk; go_simp) rfl (Gw.refl _), ?_⟩
      simp only [Act.put, List.setIfInBounds_toArray, List.set_cons_zero, List.set_cons_succ]
      refine .inr ⟨Bt1 (kd : Nat), Bt1.mono, fun v W hW hd => step_run rfl _ (W.alloc (.cells #[.int .u8 ((kd : Nat) : Int)] 5)) (by clear hd; go_simp) (Bt1.new W _) ((Below.refl _ W).alloc (Nat.le_refl _) _), ?_⟩
      simp only [Act.put, List.setIfInBounds_toArray, List.set_cons_zero, List.set_cons_succ]
      refine .inl ⟨.string ⟨#[UInt8.ofNat kd]⟩, fun v W hW hd => ?_, ?_⟩
      · obtain ⟨g, hg1, hg2⟩ : Bt1 (kd : Nat) (v 5) W := hd 5 (by kernel_rfl)
        clear hd
        exact step_run rfl _ W (by have he := run_str1 W ⟨g, 0, none⟩ (kd : Nat) hg2 (by omega) (by omega) rfl; simp only [Int.toNat_natCast] at he; go_simp) rfl (Gw.refl _)
      simp only [Act.put, List.setIfInBounds_toArray, List.set_cons_zero, List.set_cons_succ]
      refine .inl ⟨.string ⟨(K1).toArray⟩, fun v W hW hd => step_run rfl _ W (by clear hd; have he := hc1; go_simp) rfl (Gw.refl _), ?_⟩
      simp only [Act.put, List.setIfInBounds_toArray, List.set_cons_zero, List.set_cons_succ]
      refine .inl ⟨.pointer (some ⟨b7, 2, none⟩), fun v W hW hd => step_run rfl _ W (by clear hd; go_simp) rfl (Gw.refl _), ?_⟩
      simp only [Act.put, List.setIfInBounds_toArray, List.set_cons_zero, List.set_cons_succ]
      refine .inl ⟨.int .i64 (md : Nat), fun v W hW hd => step_run rfl _ W (by clear hd; have ce := H2.out W hW; go_simp) rfl (Gw.refl _), ?_⟩
      simp only [Act.put, List.setIfInBounds_toArray, List.set_cons_zero, List.set_cons_succ]
      refine .inl ⟨.int .u64 (md : Nat), fun v W hW hd => step_run rfl _ W (by clear hd; have he := hwm; go_simp) rfl (Gw.refl _), ?_⟩
      simp only [Act.put, List.setIfInBounds_toArray, List.set_cons_zero, List.set_cons_succ]
      refine .inl ⟨.string ⟨(T2).toArray⟩, fun v W hW hd => step_call rfl 73 #[.int .u64 (md : Nat)] (by clear hd; go_simp) ((hput2 W).mono fun e w' h => ⟨_, h.1, rfl, h.2⟩), ?_⟩
      simp only [Act.put, List.setIfInBounds_toArray, List.set_cons_zero, List.set_cons_succ]
      refine .inl ⟨.string ⟨(K2).toArray⟩, fun v W hW hd => step_run rfl _ W (by clear hd; have he := hc2; go_simp) rfl (Gw.refl _), ?_⟩
      simp only [Act.put, List.setIfInBounds_toArray, List.set_cons_zero, List.set_cons_succ]
      refine .inl ⟨.pointer (some ⟨b7, 3, none⟩), fun v W hW hd => step_run rfl _ W (by clear hd; go_simp) rfl (Gw.refl _), ?_⟩
      simp only [Act.put, List.setIfInBounds_toArray, List.set_cons_zero, List.set_cons_succ]
      refine .inl ⟨.int .i64 time, fun v W hW hd => step_run rfl _ W (by clear hd; have ce := H3.out W hW; go_simp) rfl (Gw.refl _), ?_⟩
      simp only [Act.put, List.setIfInBounds_toArray, List.set_cons_zero, List.set_cons_succ]
      refine .inl ⟨.string ⟨(T3).toArray⟩, fun v W hW hd => step_call rfl 75 #[.int .i64 time] (by clear hd; go_simp) ((hput3 W).mono fun e w' h => ⟨_, h.1, rfl, h.2⟩), ?_⟩
      simp only [Act.put, List.setIfInBounds_toArray, List.set_cons_zero, List.set_cons_succ]
      refine .inl ⟨.string ⟨(K3).toArray⟩, fun v W hW hd => step_run rfl _ W (by clear hd; have he := hc3; go_simp) rfl (Gw.refl _), ?_⟩
      simp only [Act.put, List.setIfInBounds_toArray, List.set_cons_zero, List.set_cons_succ]
      refine .inl ⟨.pointer (some ⟨b7, 4, none⟩), fun v W hW hd => step_run rfl _ W (by clear hd; go_simp) rfl (Gw.refl _), ?_⟩
      simp only [Act.put, List.setIfInBounds_toArray, List.set_cons_zero, List.set_cons_succ]
      refine .inl ⟨.int .i64 (sz : Nat), fun v W hW hd => step_run rfl _ W (by clear hd; have ce := H4.out W hW; go_simp) rfl (Gw.refl _), ?_⟩
      simp only [Act.put, List.setIfInBounds_toArray, List.set_cons_zero, List.set_cons_succ]
      refine .inl ⟨.int .u64 (sz : Nat), fun v W hW hd => step_run rfl _ W (by clear hd; have he := hwz; go_simp) rfl (Gw.refl _), ?_⟩
      simp only [Act.put, List.setIfInBounds_toArray, List.set_cons_zero, List.set_cons_succ]
      refine .inl ⟨.string ⟨(T4).toArray⟩, fun v W hW hd => step_call rfl 73 #[.int .u64 (sz : Nat)] (by clear hd; go_simp) ((hput4 W).mono fun e w' h => ⟨_, h.1, rfl, h.2⟩), ?_⟩
      simp only [Act.put, List.setIfInBounds_toArray, List.set_cons_zero, List.set_cons_succ]
      refine .inl ⟨.string ⟨(K4).toArray⟩, fun v W hW hd => step_run rfl _ W (by clear hd; have he := hc4; go_simp) rfl (Gw.refl _), ?_⟩
      simp only [Act.put, List.setIfInBounds_toArray, List.set_cons_zero, List.set_cons_succ]
      refine .inl ⟨.pointer (some ⟨b7, 5, none⟩), fun v W hW hd => step_run rfl _ W (by clear hd; go_simp) rfl (Gw.refl _), ?_⟩
      simp only [Act.put, List.setIfInBounds_toArray, List.set_cons_zero, List.set_cons_succ]
      refine .inl ⟨.slice av np cv, fun v W hW hd => step_run rfl _ W (by clear hd; have ce := H5.out W hW; go_simp) rfl (Gw.refl _), ?_⟩
      simp only [Act.put, List.setIfInBounds_toArray, List.set_cons_zero, List.set_cons_succ]
      refine .inl ⟨.int .i64 (np : Nat), fun v W hW hd => step_run rfl _ W (by clear hd; go_simp) rfl (Gw.refl _), ?_⟩
      simp only [Act.put, List.setIfInBounds_toArray, List.set_cons_zero, List.set_cons_succ]
      refine .inl ⟨.int .u64 (np : Nat), fun v W hW hd => step_run rfl _ W (by clear hd; have he := hwp; go_simp) rfl (Gw.refl _), ?_⟩
      simp only [Act.put, List.setIfInBounds_toArray, List.set_cons_zero, List.set_cons_succ]
      refine .inl ⟨.string ⟨(T5).toArray⟩, fun v W hW hd => step_call rfl 73 #[.int .u64 (np : Nat)] (by clear hd; go_simp) ((hput5 W).mono fun e w' h => ⟨_, h.1, rfl, h.2⟩), ?_⟩
      simp only [Act.put, List.setIfInBounds_toArray, List.set_cons_zero, List.set_cons_succ]
      refine .inl ⟨.string ⟨(K5).toArray⟩, fun v W hW hd => step_run rfl _ W (by clear hd; have he := hc5; go_simp) rfl (Gw.refl _), ?_⟩
      simp only [Act.put, List.setIfInBounds_toArray, List.set_cons_zero, List.set_cons_succ]
      refine .inl ⟨.string ⟨(K6).toArray⟩, fun v W hW hd => step_run rfl _ W (by clear hd; have he := hc6; go_simp) rfl (Gw.refl _), ?_⟩
      simp only [Act.put, List.setIfInBounds_toArray, List.set_cons_zero, List.set_cons_succ]
      intro v W hW hV
      clear hV
      have HB5 : Hid (Below w.heap.size w W) := HB4w.out.trans (Below.mono hW HB4w.out.size)
      have HR5 : Hid (Rx 8 idC W (.slice av np cv) parts) := HPq.out W hW
      have h5 := H5.out W hW
      have HLt5 : Hid (b7 < W.heap.size) := World.block_lt_of_cell? W _ h5
      refine wpAny_ready (rs := [29]) (by kernel_rfl) (by simp) ?_
      refine AllReady.cons rfl (fun K hK => ?_) AllReady.nil
      rw [if_pos (by rfl)]
      go_simp
      refine hK _ _ ?_
      clear hK K hc1 hc2 hc3 hc4 hc5 hc6 hput2 hput3 hput4 hput5 H1 H2 H3 H4 H5 HCl HPq hwk hwm hwz hwp
      refine wpAny_done (by kernel_rfl) ?_ _
      go_wp2_with fail
      go_loopw [5, 73] (fun x i wr => ∃ (j : Nat) (M : List UInt8), j ≤ np ∧ i = .int .i64 j ∧ x = .string ⟨M.toArray⟩ ∧ M.length ≤ 240 + 4800 * k + 8 * j ∧ Hid (K6 ++ (parts.take j).flatten = M) ∧ Hid (Below W.heap.size W wr)) (fun _ i _ => np - (intOf i).toNat)
      case atStart => exact ⟨0, K6, by omega, rfl, rfl, by omega, List.append_nil _, Below.refl _ _⟩
      case round =>
        clear h5
        obtain ⟨j, M, hj, rfl, rfl, hMl, HMj, HBq⟩ := hrel
        by_cases hjl : j < np
        · have hjp : j < parts.length := by rw [← HNp.out]; exact hjl
          obtain ⟨bi, oi, rfl, hbi, hid⟩ := (HR5.out.below HBq.out).get j parts[j] (List.getElem?_eq_getElem hjp)
          have HTk : Hid ((parts.take (j + 1)).flatten = (parts.take j).flatten ++ parts[j]) := by
            show _ = _
            rw [List.take_succ_eq_append_getElem hjp, List.flatten_append, List.flatten_cons, List.flatten_nil, List.append_nil]
          obtain ⟨b0, b1, b2, b3, b4, b5, b6, b7, ht8⟩ := eight_of (HPs.out.2 parts[j] (List.getElem_mem hjp))
          rw [ht8] at HTk hid
          have x0 : wr.cell? ⟨bi, oi + j * 8, none⟩ = some (.int .u8 (b0.toNat : Int)) := hid 0 _ rfl
          have x1 : wr.cell? ⟨bi, oi + j * 8 + 1, none⟩ = some (.int .u8 (b1.toNat : Int)) := hid 1 _ rfl
          have x2 : wr.cell? ⟨bi, oi + j * 8 + 2, none⟩ = some (.int .u8 (b2.toNat : Int)) := hid 2 _ rfl
          have x3 : wr.cell? ⟨bi, oi + j * 8 + 3, none⟩ = some (.int .u8 (b3.toNat : Int)) := hid 3 _ rfl
          have x4 : wr.cell? ⟨bi, oi + j * 8 + 4, none⟩ = some (.int .u8 (b4.toNat : Int)) := hid 4 _ rfl
          have x5 : wr.cell? ⟨bi, oi + j * 8 + 5, none⟩ = some (.int .u8 (b5.toNat : Int)) := hid 5 _ rfl
          have x6 : wr.cell? ⟨bi, oi + j * 8 + 6, none⟩ = some (.int .u8 (b6.toNat : Int)) := hid 6 _ rfl
          have x7 : wr.cell? ⟨bi, oi + j * 8 + 7, none⟩ = some (.int .u8 (b7.toNat : Int)) := hid 7 _ rfl
          obtain ⟨W2, hW2⟩ : ∃ W2, W2 = wr.alloc (.cells #[.int .u8 (b0.toNat : Int), .int .u8 (b1.toNat : Int), .int .u8 (b2.toNat : Int), .int .u8 (b3.toNat : Int), .int .u8 (b4.toNat : Int), .int .u8 (b5.toNat : Int), .int .u8 (b6.toNat : Int), .int .u8 (b7.toNat : Int)] 29) := ⟨_, rfl⟩
          have HB2 : Hid (Below W.heap.size W W2) := by rw [hW2]; exact HBq.out.alloc HBq.out.size _
          have HH2 : Hid (W2.heap[wr.heap.size]? = some (.cells #[.int .u8 (b0.toNat : Int), .int .u8 (b1.toNat : Int), .int .u8 (b2.toNat : Int), .int .u8 (b3.toNat : Int), .int .u8 (b4.toNat : Int), .int .u8 (b5.toNat : Int), .int .u8 (b6.toNat : Int), .int .u8 (b7.toNat : Int)] 29 (0, 0))) := by rw [hW2]; exact heap_alloc_new wr _
          clear hid ht8
          go_upto_region 14 with fail
          rw [← hW2]
          obtain ⟨G, hG⟩ : ∃ G, G = wr.heap.size := ⟨_, rfl⟩
          rw [← hG] at HH2 ⊢
          have he : (convert 84 9 (.slice (some ⟨G, 0, none⟩) 8 8)).run Tryz.prog W2 = .ok (.string ⟨#[b0, b1, b2, b3, b4, b5, b6, b7]⟩) W2 := str8_of W2 G 8 [b0, b1, b2, b3, b4, b5, b6, b7] (fun i hi => by
            simp only [World.cell?, HH2.out]
            match i, hi with
            | 0, _ => rfl
            | 1, _ => rfl
            | 2, _ => rfl
            | 3, _ => rfl
            | 4, _ => rfl
            | 5, _ => rfl
            | 6, _ => rfl
            | 7, _ => rfl)
          have hcat : (Op.stringOp .add ⟨M.toArray⟩ ⟨#[b0, b1, b2, b3, b4, b5, b6, b7]⟩).run Tryz.prog W2 = .ok (.string ⟨(M ++ [b0, b1, b2, b3, b4, b5, b6, b7]).toArray⟩) W2 := run_string_add_lists W2 M [b0, b1, b2, b3, b4, b5, b6, b7] (by omega) (by simp)
          have HM2 : Hid (K6 ++ (parts.take (j + 1)).flatten = M ++ [b0, b1, b2, b3, b4, b5, b6, b7]) := by show _ = _; rw [HTk.out, ← List.append_assoc, HMj.out]
          have hM2 : (M ++ [b0, b1, b2, b3, b4, b5, b6, b7]).length ≤ 240 + 4800 * k + 8 * (j + 1) := by rw [List.length_append]; simp; omega
          generalize M ++ [b0, b1, b2, b3, b4, b5, b6, b7] = M2 at *
          clear hW2 hG x0 x1 x2 x3 x4 x5 x6 x7 HTk HH2 hbi
          go_wp2_with fail
          go_roundw
          case measure => simp only [intOf]; omega
          case rel => exact ⟨j + 1, M2, by omega, by go_num, rfl, hM2, HM2, HB2⟩
        · obtain rfl : j = np := by omega
          have HPf : Hid (K6 ++ parts.flatten = M) := by
            have := HMj.out
            rwa [List.take_of_length_le (by rw [HNp.out]; exact Nat.le_refl _)] at this
          have hcat : ∀ W, (Op.stringOp .add ⟨M.toArray⟩ ⟨T6.toArray⟩).run Tryz.prog W = .ok (.string ⟨(M ++ T6).toArray⟩) W := fun W => run_string_add_lists W M T6 (by omega) (by omega)
          have HL2 : Hid (P0 ++ Td.rowsT (nds (l.take (k + 1))) = M ++ T6) := by
            show _ = _
            rw [HRw.out, HRow.out, ← List.append_assoc, HL.out, ← List.append_assoc, ← List.append_assoc, ← HK6.out, HPf.out]
          have hL2 : (M ++ T6).length ≤ 9 + 4800 * (k + 1) := by rw [List.length_append]; omega
          have HB6 : Hid (Below w.heap.size w wr) := HB5.out.trans (HBq.out.mono HB5.out.size)
          generalize M ++ T6 = M2 at *
          clear HMj HPf
          go_wp2_with fail
          go_roundw
          case measure => simp only [intOf]; omega
          case rel => exact ⟨k + 1, M2, by omega, by go_num, rfl, hL2, HL2, HB6⟩
    · obtain rfl : k = N := by omega
      have HE : Hid (TX = L) := by
        have := HL.out
        rw [List.take_of_length_le (by rw [HN.out]; exact Nat.le_refl _)] at this
        show _ = _
        rw [HTx.out, ← this]
      clear HL
      by_cases h4 : 4096 < L.length
      · have HR : Hid (Z = ([], 2)) := by
          have := HZ1.out
          rwa [HE.out, if_pos h4] at this
        have g4 : (4096 : Int) < (L.length : Int) := by omega
        clear HZ1
        go_wp2_with fail
        go_ret2
        exact ⟨by rw [HR.out]; rfl, HB.out⟩
      · have HR : Hid (Z = (L, 0)) := by
          have := HZ1.out
          rwa [HE.out, if_neg h4] at this
        have g4 : ¬ (4096 : Int) < (L.length : Int) := by omega
        clear HZ1
        go_wp2_with fail
        go_ret2
        exact ⟨by rw [HR.out]; rfl, HB.out⟩

end Go.Proofs.YtimdioacmojkeaaGreatDoor

namespace Go.Proofs.YtimdioacmojkeaaGreatDoor
open Go.RowKit
open Nn (Name)

/-- what stays while blobs are told behind others -/
structure Rk (base : Nat) (A B : World) : Prop where
  low : Below base A B
  kt : Kt 37 A B

theorem Rk.refl {base : Nat} (A : World) : Rk base A A := ⟨Below.refl _ _, Kt.refl _ _⟩

theorem Rk.trans {base : Nat} {A B C : World} (h : Rk base A B) (k : Rk base B C) : Rk base A C := ⟨h.low.trans k.low, h.kt.trans k.kt⟩

theorem Rk.of_below {base : Nat} {A B : World} (h : Below A.heap.size A B) (hb : base ≤ A.heap.size) : Rk base A B := ⟨h.mono hb, Kt.of_below h⟩

theorem Rk.size {base : Nat} {A B : World} (h : Rk base A B) : A.heap.size ≤ B.heap.size := h.kt.size

theorem Rk.drew {base : Nat} {A B : World} (h : Rk base A B) : Rk base A B.drew := ⟨h.low.drew, h.kt.drew⟩

/-- what is made later may change -/
theorem Rk.then {base : Nat} {w A B : World} (h : Rk base w A) (hb : Below w.heap.size A B) (hbase : base ≤ w.heap.size) : Rk base w B :=
  ⟨h.low.trans (hb.mono hbase), ⟨hb.os.trans h.kt.os, hb.tape.trans h.kt.tape, hb.output.trans h.kt.output, Nat.le_trans h.kt.size hb.size, fun k o ho hn => (hb.block k (Array.getElem?_eq_some_iff.1 ho).1).trans (h.kt.obj k o ho hn)⟩⟩

theorem Rk.nodes {base b : Nat} {A B : World} {v : Value} {l : List Nod} (h : Rk base A B) (ho : Oy 7 89 NdG b A v l) : Oy 7 89 NdG b B v l :=
  ho.keep h.size fun k cur t fr ht hq => h.kt.cell hq (by rcases ht with rfl | rfl <;> decide)

theorem Ow.below {base : Nat} {w W : World} {v : Value} {l : List Blb} (h : Ow base w v l) (hb : Below w.heap.size w W) : Ow base W v l :=
  ⟨own_below h.own hb, h.ok, h.wf, h.few, Nat.le_trans h.base hb.size⟩

theorem Ow.kt {T : TypeId} {base : Nat} {w W : World} {v : Value} {l : List Blb} (h : Ow base w v l) (hk : Kt T w W) (hne : 37 ≠ T) : Ow base W v l :=
  ⟨own_kt h.own hk hne, h.ok, h.wf, h.few, Nat.le_trans h.base hk.size⟩

theorem Ow.form {base : Nat} {w : World} {v : Value} {l : List Blb} (h : Ow base w v l) : ∃ a c, v = .slice a l.length c := own_form h.own

/-- a blob told -/
theorem rinto_q (base : Nat) (v : Value) (bs : List Blb) (b : Blb) (w : World) (h : Ow base w v bs) (hl : bs.length < 900000000) (hbk : BOk [b]) :
    Calls Tryz.prog 47 #[v, blV b] w fun e w' => ∃ v' id, e = .returned (.tuple #[v', idV id, .int .i64 (errI bs b)]) ∧ id.length = 8 ∧ Rk base w w' ∧ (∃ a n c, v' = .slice a n c) ∧ (errI bs b = 0 → id = idI bs b ∧ Ow base w' v' (more bs b)) := by
  refine (rinto_any base v bs b w h hbk _ rfl).mono ?_
  rintro e w' ⟨v', l', id, rfl, h8, hb, hk, ho, hl', hi⟩
  obtain ⟨a', c', ev⟩ := own_form ho
  refine ⟨v', id, rfl, h8, ⟨hb, hk⟩, ⟨a', _, c', ev⟩, fun hE => ?_⟩
  have hm := more_pl hE
  rw [hm] at hl' hi
  have e1 : l' = more bs b := (List.map_inj_right fun _ _ => Blb.p_inj).1 hl'
  rw [e1] at ho
  obtain ⟨hb0, _⟩ := Wk.into_ok hm
  refine ⟨by rw [hi rfl]; unfold idI; rw [if_pos hE], ho, ?_, ?_, ?_, Nat.le_trans h.base hk.size⟩
  · intro x hx
    unfold more at hx
    split at hx
    · rcases List.mem_append.1 hx with q | q
      · exact h.ok x q
      · rw [List.mem_singleton.1 q]; exact hb0
    · exact h.ok x hx
  · intro x hx
    unfold more at hx
    split at hx
    · rcases List.mem_append.1 hx with q | q
      · exact h.wf x q
      · rw [List.mem_singleton.1 q]; exact hbk b List.mem_cons_self
    · exact h.wf x hx
  · have := more_length bs b
    omega

/-- what plantDir answers -/
def RpOk (base : Nat) (fx mn mx bt : Int) (v : Value) (l : List Im) (k : Nat) : Prop := ∀ (p : List Name) (bv : Value) (bs : List Blb) (w : World), p.length + k = 9 → (∀ s ∈ p, (47 : UInt8) ∉ s) → Ow base w bv bs → bs.length + 300 * (dI l k p).length ≤ 800000000 → (∀ W, Rk base w W → Ims W v l ∧ Ml W) →
  ∀ R, R = Wk.plantDir (cutF fx mn mx bt) (its l) k p (pl bs) →
  Calls Tryz.prog 23 #[wayV fx mn mx bt, v, .string (mkB (Nn.tails p)), bv] w fun e w' => ∃ bv' id, e = .returned (.tuple #[bv', idV id, .int .i64 R.2.2]) ∧ id.length = 8 ∧ Rk base w w' ∧
    (∃ a n c, bv' = .slice a n c) ∧ (R.2.2 = 0 → id = R.2.1 ∧ ∃ bs', pl bs' = R.1 ∧ Ow base w' bv' bs' ∧ bs'.length ≤ bs.length + 300 * (dI l k p).length + 1)

/-- those of the rest that lie in the directory -/
def remI (l r : List Im) (k : Nat) (p : List Name) : Nat := ((kI r p).flatMap (blk l k)).length

theorem remI_out {l r : List Im} {k : Nat} {p : List Name} {x : Im} (h : ¬ (x.it.nms ≠ [] ∧ x.it.nms.dropLast = p)) : remI l (x :: r) k p = remI l r k p := by
  unfold remI kI
  rw [Wk.kids_out (pt := fun x : Im => x.it.nms) h]

theorem remI_in {l r : List Im} {k : Nat} {p : List Name} {x : Im} (h : x.it.nms ≠ [] ∧ x.it.nms.dropLast = p) : remI l (x :: r) k p = (blk l k x).length + remI l r k p := by
  unfold remI kI
  rw [Wk.kids_in (pt := fun x : Im => x.it.nms) h, List.flatMap_cons, List.length_append]

theorem blk_dir {l : List Im} {k : Nat} {x : Im} (h : x.kind = 2) : (blk l k x).length = 1 + (dI l k x.it.nms).length := by
  have hdir : x.it.dir = true := by
    have e : x.it.kind = 2 := h
    unfold Wk.It.dir; rw [e]; rfl
  unfold blk
  rw [if_pos hdir, List.length_cons]
  omega

theorem blk_pos (l : List Im) (k : Nat) (x : Im) : 1 ≤ (blk l k x).length := by simp [blk]

/-- does it lie in the directory? by its path -/
theorem in_dir {x : Im} (h : Wk.Ok1 x.it) {p : List Name} (hp : ∀ s ∈ p, (47 : UInt8) ∉ s) : Wk.par x.it = Nn.tails p ↔ (x.it.nms ≠ [] ∧ x.it.nms.dropLast = p) := by
  have hn : ∀ s ∈ x.it.nms.dropLast, (47 : UInt8) ∉ s := fun s hs => nms_noslash h s (List.dropLast_subset _ hs)
  refine ⟨fun e => ⟨h.ne, tails_inj hn hp e⟩, fun ⟨_, e⟩ => ?_⟩
  unfold Wk.par
  rw [e]

/-- an ID in a block of its own -/
def Tid (W : World) (G : Nat) : Prop := ∃ b0 b1 b2 b3 b4 b5 b6 b7 : UInt8, W.heap[G]? = some (.cells #[.int .u8 (b0.toNat : Int), .int .u8 (b1.toNat : Int), .int .u8 (b2.toNat : Int), .int .u8 (b3.toNat : Int), .int .u8 (b4.toNat : Int), .int .u8 (b5.toNat : Int), .int .u8 (b6.toNat : Int), .int .u8 (b7.toNat : Int)] 29 (0, 0))

theorem Tid.zero {W : World} {G : Nat} (h : W.heap[G]? = some (.cells Z8 29 (0, 0))) : Tid W G := ⟨0, 0, 0, 0, 0, 0, 0, 0, h⟩

theorem Tid.kt {T : TypeId} {A B : World} {G : Nat} (h : Tid A G) (hk : Kt T A B) (hne : 29 ≠ T) : Tid B G := by
  obtain ⟨b0, b1, b2, b3, b4, b5, b6, b7, h⟩ := h
  exact ⟨b0, b1, b2, b3, b4, b5, b6, b7, hk.cell h hne⟩

theorem Tid.i8 {W : World} {G : Nat} (h : Tid W G) : ∃ b0 b1 b2 b3 b4 b5 b6 b7 : UInt8, I8 W G [b0, b1, b2, b3, b4, b5, b6, b7] := by
  obtain ⟨b0, b1, b2, b3, b4, b5, b6, b7, h⟩ := h
  exact ⟨b0, b1, b2, b3, b4, b5, b6, b7, I8.laid h⟩

theorem set8_typed {W : World} {G : Nat} {c0 c1 c2 c3 c4 c5 c6 c7 : Value} {T : TypeId} {fr : Nat × Nat} (h : W.heap[G]? = some (.cells #[c0, c1, c2, c3, c4, c5, c6, c7] T fr)) (b0 b1 b2 b3 b4 b5 b6 b7 : UInt8) :
    (set8 W G b0 b1 b2 b3 b4 b5 b6 b7).heap[G]? = some (.cells #[.int .u8 (b0.toNat : Int), .int .u8 (b1.toNat : Int), .int .u8 (b2.toNat : Int), .int .u8 (b3.toNat : Int), .int .u8 (b4.toNat : Int), .int .u8 (b5.toNat : Int), .int .u8 (b6.toNat : Int), .int .u8 (b7.toNat : Int)] T fr) := by
  simp [set8, World.setCell, Array.getElem?_modify, h, B]

theorem Tid.set8 {W : World} {G : Nat} (h : Tid W G) (b0 b1 b2 b3 b4 b5 b6 b7 : UInt8) : (set8 W G b0 b1 b2 b3 b4 b5 b6 b7).heap[G]? = some (.cells #[.int .u8 (b0.toNat : Int), .int .u8 (b1.toNat : Int), .int .u8 (b2.toNat : Int), .int .u8 (b3.toNat : Int), .int .u8 (b4.toNat : Int), .int .u8 (b5.toNat : Int), .int .u8 (b6.toNat : Int), .int .u8 (b7.toNat : Int)] 29 (0, 0)) := by
  obtain ⟨_, _, _, _, _, _, _, _, h⟩ := h
  exact set8_typed h _ _ _ _ _ _ _ _

end Go.Proofs.YtimdioacmojkeaaGreatDoor
