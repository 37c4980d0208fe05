/-
  What Split of package pack answers.
  slices.Equal over two rows of the same blobs; over two lists of the same rows.
-/
import Derived.Test.YtkhejelmjkpgfaaG12
import Derived.Test.YtkhejelmjkpgfaaG4
import Derived.Test.YtkhejelmjkpgfaaG1
import Derived.Test.YtkhejelmjkpgfaaG9

namespace Go.Proofs.Ytkhejelmjkpgfaa
open Go.RowKit
set_option maxRecDepth 4000

theorem info_bl : (Try.prog.info? 24).map (fun i => (i.zero, i.size, i.bytes)) = some (some (.agg #[.int .i64 0, .string ⟨#[]⟩]), 2, 24) := by kernel_rfl
/-- what Split hands back -/
def SpOut (w w' : World) (v : Value) (r : List Pk.Bl) : Prop := ∃ bs : List Blb, bs.map Blb.p = r ∧ w'.ownsRow w.heap.size 24 2 v bs.length (rowR blC bs) ∧ Below w.heap.size w w'
theorem SpOut.none (w w' : World) (h : Below w.heap.size w w') : SpOut w w' (.slice none 0 0) [] := ⟨[], rfl, World.ownsRow_nil _ _ _ _, h⟩

theorem ents_forty (body : Nat) : ∀ (m : Nat) (l : List UInt8) (at_ : Nat) (out : List Pk.En), (Pk.ents body m l at_ out).1.length ≤ out.length + m
  | 0, l, at_, out => by
    rw [Pk.ents]
    split
    · simp
    · simp
  | m + 1, l, at_, out => by
    rw [ents_re]
    split
    · simp
    split
    · simp
    · have := ents_forty body m (re l).2.2.2.1 (at_ + (re l).2.2.1) (out ++ [⟨(re l).1, ((re l).2.1 : Nat), at_, (re l).2.2.1⟩])
      rw [List.length_append, List.length_singleton] at this
      omega
theorem ls_forty (s : List UInt8) : (Pk.ls s).1.length ≤ 40 := by
  rw [ls_us]
  split
  · simp
  rw [lst_num]
  split
  · simp
  · have h1 := ents_forty (us s).1.length (Pr.num1 40 (us s).2.1).1 (Pr.num1 40 (us s).2.1).2.1 0 []
    have h2 := (Pr.num1_le 40 (us s).2.1).1
    simp only [List.length_nil, Nat.zero_add] at h1
    omega

set_option maxHeartbeats 8000000 in
theorem split_any (s : ByteArray) (w : World) (hs : s.size ≤ 140737488351232) :
    Calls Try.prog 18 #[.string s] w fun e w' => ∃ v, e = .returned (.tuple #[v, .int .i64 (Pk.split Pr.op s.data.toList).2]) ∧ SpOut w w' v (Pk.split Pr.op s.data.toList).1 := by
  obtain ⟨i0, hi, hz0, hz1, hz2⟩ := info_parts info_bl
  have hls := list_any s w (by omega)
  unfold Pk.split
  by_cases hE : (Pk.ls s.data.toList).2 ≠ 0
  · rw [if_pos hE]
    have hE2 : ((Pk.ls s.data.toList).2 == 0) = false := beq_eq_false_iff_ne.2 hE
    generalize Pk.ls s.data.toList = LS at *
    obtain ⟨ls, er⟩ := LS
    dsimp only at *
    clear hE
    go_enter Try.func18, Try.ntmps18
    go_wp2_with fail
    refine hls.mono ?_
    rintro e w1 ⟨v, rfl, es, _, hown, hb1⟩
    obtain ⟨a1, c1, rfl⟩ := own_form hown
    have HB1 : Hid (Below w.heap.size w w1) := hb1
    clear hls hb1 hown
    go_wp2_with fail
    go_ret2
    exact ⟨_, rfl, SpOut.none _ _ HB1.out⟩
  rw [if_neg hE]
  have HONE : Hid (∀ (x : Ent) (W : World), Calls Try.prog 16 #[.string s, enV x] W fun e w' => ∃ b : Blb, e = .returned (.tuple #[blV b, .int .i64 (Pk.one Pr.op s.data.toList x.p).2]) ∧ b.p = (Pk.one Pr.op s.data.toList x.p).1 ∧ Below W.heap.size W w') := fun x W => one_any s x W hs
  rw [Classical.not_not.1 hE] at hls
  have h40 := ls_forty s.data.toList
  generalize Pk.ls s.data.toList = LS at *
  obtain ⟨ls, er⟩ := LS
  dsimp only at *
  obtain ⟨RR, hRR⟩ : ∃ RR, Pk.ones Pr.op s.data.toList ls [] = RR := ⟨_, rfl⟩
  have HRR : Hid (RR = Pk.ones Pr.op s.data.toList ls []) := hRR.symm
  rw [hRR]
  clear hE hRR
  generalize s.data.toList = SD at *
  go_enter Try.func18, Try.ntmps18
  go_wp2_with fail
  refine hls.mono ?_
  rintro e w1 ⟨v, rfl, es, hes, hown, hb1⟩
  have HB1 : Hid (Below w.heap.size w w1) := hb1
  have HEX : Hid (Ex w1 v es) := Rx.of_own enC_length hown
  have HOI : Hid (0 < es.length → ∃ g c, v = .slice (some ⟨g, 0, none⟩) es.length c) := fun h => own_some hown h
  rw [← hes] at HRR
  have he40 : es.length ≤ 40 := by rw [← hes, List.length_map] at h40; exact h40
  obtain ⟨ve, ce, rfl, hce1, hce2⟩ := HEX.out.slice
  have hs1 := hb1.size
  clear hls hb1 hown hes h40
  go_wp2_with fail
  go_loopw [6, 21] (fun vb i wr => ∃ (k : Nat) (out : List Blb), k ≤ es.length ∧ i = .int .i64 k ∧ Hid (out.length = k) ∧ Hid (RR = Pk.ones Pr.op SD ((es.drop k).map Ent.p) (out.map Blb.p)) ∧
      Hid (wr.ownsRow w1.heap.size 24 2 vb out.length (rowR blC out)) ∧ Hid (Below w1.heap.size w1 wr)) (fun _ i _ => es.length - (intOf i).toNat)
  case atStart => exact ⟨0, [], by omega, rfl, rfl, HRR, World.ownsRow_nil _ _ _ _, Below.refl _ _⟩
  case round =>
    obtain ⟨k, out, hk, rfl, hol, hR, hown, hbel⟩ := hrel
    clear HRR
    by_cases hlt : k < es.length
    · obtain ⟨x, hx⟩ : ∃ x, es[k]? = some x := ⟨_, List.getElem?_eq_getElem hlt⟩
      have HX : Hid (es[k]? = some x) := hx
      obtain ⟨gi, oi, hai, hgi, hcc⟩ := (HEX.out.below hbel.out).get k x hx
      obtain ⟨g', c', hv'⟩ := HOI.out (by omega)
      rw [Value.slice.injEq] at hv'
      obtain ⟨hv1, hv2, hv3⟩ := hv'
      clear hv2 hv3
      subst hv1
      have hai' : g' = gi ∧ 0 = oi := by simpa using hai
      obtain ⟨rfl, rfl⟩ : gi = g' ∧ oi = 0 := ⟨hai'.1.symm, hai'.2.symm⟩
      have HTR : RR = _ := hR.out
      rw [drop_here hx, List.map_cons, Pk.ones] at HTR
      have hone := fun W => HONE.out x W
      generalize Pk.one Pr.op SD x.p = OR at *
      obtain ⟨ob, oe⟩ := OR
      dsimp only at hone HTR
      obtain ⟨xid, hxid, kd, pp, qq⟩ := x
      obtain ⟨b0, b1, b2, b3, b4, b5, b6, b7, rfl⟩ := eight xid hxid
      simp only [Nat.zero_add] at hcc
      have c0 : wr.cell? ⟨gi, k * 11, none⟩ = some (.int .u8 (b0.toNat : Int)) := hcc 0 _ rfl
      have c1 : wr.cell? ⟨gi, k * 11 + 1, none⟩ = some (.int .u8 (b1.toNat : Int)) := hcc 1 _ rfl
      have c2 : wr.cell? ⟨gi, k * 11 + 2, none⟩ = some (.int .u8 (b2.toNat : Int)) := hcc 2 _ rfl
      have c3 : wr.cell? ⟨gi, k * 11 + 3, none⟩ = some (.int .u8 (b3.toNat : Int)) := hcc 3 _ rfl
      have c4 : wr.cell? ⟨gi, k * 11 + 4, none⟩ = some (.int .u8 (b4.toNat : Int)) := hcc 4 _ rfl
      have c5 : wr.cell? ⟨gi, k * 11 + 5, none⟩ = some (.int .u8 (b5.toNat : Int)) := hcc 5 _ rfl
      have c6 : wr.cell? ⟨gi, k * 11 + 6, none⟩ = some (.int .u8 (b6.toNat : Int)) := hcc 6 _ rfl
      have c7 : wr.cell? ⟨gi, k * 11 + 7, none⟩ = some (.int .u8 (b7.toNat : Int)) := hcc 7 _ rfl
      have c8 : wr.cell? ⟨gi, k * 11 + 8, none⟩ = some (.int .i64 kd) := hcc 8 _ rfl
      have c9 : wr.cell? ⟨gi, k * 11 + 9, none⟩ = some (.int .i64 pp) := hcc 9 _ rfl
      have c10 : wr.cell? ⟨gi, k * 11 + 10, none⟩ = some (.int .i64 qq) := hcc 10 _ rfl
      have hone' : ∀ W, Calls Try.prog 16 #[.string s, .agg #[.int .u8 (b0.toNat : Int), .int .u8 (b1.toNat : Int), .int .u8 (b2.toNat : Int), .int .u8 (b3.toNat : Int), .int .u8 (b4.toNat : Int), .int .u8 (b5.toNat : Int), .int .u8 (b6.toNat : Int), .int .u8 (b7.toNat : Int), .int .i64 kd, .int .i64 pp, .int .i64 qq]] W fun e w' => ∃ b : Blb, e = .returned (.tuple #[blV b, .int .i64 oe]) ∧ b.p = ob ∧ Below W.heap.size W w' := hone
      have hol40 : out.length ≤ 40 := by rw [hol.out]; omega
      have hsr := hbel.out.size
      clear hx hai hai' hcc hone
      by_cases hE : oe ≠ 0
      · rw [if_pos hE] at HTR
        have HRT : Hid (RR = ([], oe)) := HTR
        have hE2 : (oe == 0) = false := beq_eq_false_iff_ne.2 hE
        clear HTR hE
        go_wp2_with fail
        refine (hone' _).mono ?_
        rintro e w3 ⟨b, rfl, _, hb3⟩
        have HB3 : Hid (Below w.heap.size w w3) := HB1.out.trans ((hbel.out.trans ((below_past hb3).mono hsr)).mono HB1.out.size)
        have hs3 := HB3.out.size
        unfold blV
        clear hb3 hone' hown hbel
        go_wp2_with fail
        go_ret2
        exact ⟨_, by rw [HRT.out]; rfl, by rw [HRT.out]; exact SpOut.none _ _ (HB3.out.alloc hs3 _)⟩
      rw [if_neg hE] at HTR
      have HRT : Hid (RR = Pk.ones Pr.op SD ((es.drop (k + 1)).map Ent.p) (out.map Blb.p ++ [ob])) := HTR
      obtain rfl : oe = 0 := Classical.not_not.1 hE
      clear HTR hE
      go_wp2_with fail
      refine (hone' _).mono ?_
      rintro e w3 ⟨b, rfl, hbo, hb3⟩
      have HBO : Hid (b.p = ob) := hbo
      have hb3' := below_past hb3
      have HO3 : Hid (w3.ownsRow w1.heap.size 24 2 u6 out.length (rowR blC out)) := own_below hown.out hb3'
      have HB3 : Hid (Below w1.heap.size w1 w3) := hbel.out.trans (hb3'.mono hsr)
      have hs3 := HB3.out.size
      have hown3 := (HO3.out.alloc (.cells #[.int .i64 b.kind, .string b.bytes] 24))
      unfold blV
      clear hb3 hb3' hone' hown hbel hbo
      go_wp2_with (at_builtin; refine wpList_append_own _ rfl (.tmp 34) (.tmp 36) 22 rfl w1.heap.size 24 i0 (.agg #[.int .i64 0, .string ⟨#[]⟩]) 2 24 Try.underlying22 hi hz0 hz1 hz2 rfl (by decide) _ _ _ rfl (hown3.alloc _) ⟨w3.heap.size + 1, 0, none⟩ 1 1 (blC b) rfl rfl ?c1 ?c2 ?c3 ?c4 ?c5 ?_)
      case c1 =>
        have := pair_cells (w3.alloc (.cells #[.int .i64 b.kind, .string b.bytes] 24)) 24 (.int .i64 b.kind) (.string b.bytes)
        rw [World.size_alloc] at this
        exact this
      case c2 => exact blC_one b
      case c3 => unfold maxLen; omega
      case c4 => omega
      case c5 => simp; omega
      intro v' w6 hown6 hgrow _
      have HO6 : Hid (w6.ownsRow w1.heap.size 24 2 v' (out ++ [b]).length (rowR blC (out ++ [b]))) := own_one_more hown6
      have HB6 : Hid (Below w1.heap.size w1 w6) := ((HB3.out.alloc hs3 _).alloc (by simp; omega) _).grown hgrow (by simp; omega) (fun q hq => (HO3.out.lt q hq).1)
      clear hown6 hgrow hown3 HO3 HB3
      go_wp2_with fail
      go_roundw
      case rel =>
        refine ⟨k + 1, out ++ [b], by omega, by go_num, ?_, ?_, HO6, HB6⟩
        · show _ = _
          rw [List.length_append, hol.out]; rfl
        · show _ = _
          rw [HRT.out, List.map_append, List.map_singleton, HBO.out]
      case measure => simp only [intOf]; omega
    · obtain rfl : k = es.length := by omega
      have HRT : Hid (RR = (out.map Blb.p, 0)) := by
        show _ = _
        rw [hR.out, List.drop_of_length_le (Nat.le_refl _)]; rfl
      clear hR
      go_wp2_with fail
      go_ret2
      exact ⟨_, by rw [HRT.out]; rfl, by rw [HRT.out]; exact ⟨out, rfl, own_lower hown.out hs1, HB1.out.trans (hbel.out.mono hs1)⟩⟩
end Go.Proofs.Ytkhejelmjkpgfaa

namespace Go.Proofs.Ytkhejelmjkpgfaa
open Go.RowKit
set_option maxRecDepth 4000

theorem Ent.p_inj {a b : Ent} (h : a.p = b.p) : a = b := by
  obtain ⟨i, hi, k, p, q⟩ := a
  obtain ⟨i', hi', k', p', q'⟩ := b
  simp only [Ent.p, Pk.En.mk.injEq] at h
  obtain ⟨rfl, rfl, rfl, rfl⟩ := h
  rfl
theorem ents_once {a b : List Ent} (h : a.map Ent.p = b.map Ent.p) : a = b := (List.map_inj_right fun _ _ => Ent.p_inj).1 h
theorem blbs_once {a b : List Blb} (h : a.map Blb.p = b.map Blb.p) : a = b := (List.map_inj_right fun _ _ => Blb.p_inj).1 h

set_option maxHeartbeats 1000000 in
theorem equal_blobs (v1 v2 : Value) (l : List Blb) (w : World) (h1 : Bx w v1 l) (h2 : Bx w v2 l) (hl : l.length ≤ 140737488351232) :
    Calls Try.prog 20 #[v1, v2] w fun e w' => e = .returned (.bool true) ∧ Below w.heap.size w w' := by
  obtain ⟨a1, c1, rfl, j1, j2⟩ := h1.slice
  obtain ⟨a2, c2, rfl, j3, j4⟩ := h2.slice
  clear j1 j2 j3 j4
  go_enter Try.func20, Try.ntmps20
  go_wp2_with fail
  go_loopw [13] (fun i wr => ∃ k : Nat, k ≤ l.length ∧ i = .int .i64 k ∧ Below w.heap.size w wr) (fun i _ => l.length - (intOf i).toNat)
  case atStart => exact ⟨0, by omega, rfl, Below.refl _ _⟩
  case round =>
    obtain ⟨k, hk, rfl, hbel⟩ := hrel
    by_cases hlt : k < l.length
    · obtain ⟨t, ht⟩ : ∃ t, l[k]? = some t := ⟨_, List.getElem?_eq_getElem hlt⟩
      obtain ⟨bk, o, rfl, hbk, c0, c1⟩ := (h1.below hbel).blob k t ht
      obtain ⟨bk', o', rfl, hbk', d0, d1⟩ := (h2.below hbel).blob k t ht
      clear h1 h2 ht
      have x0 : ∀ X : Since wr.heap.size wr, X.val.cell? ⟨bk, o + k * 2, none⟩ = some (.int .i64 t.kind) := fun X => (X.property.cell (p := ⟨bk, o + k * 2, none⟩) hbk).trans c0
      have x1 : ∀ X : Since wr.heap.size wr, X.val.cell? ⟨bk, o + k * 2 + 1, none⟩ = some (.string t.bytes) := fun X => (X.property.cell (p := ⟨bk, o + k * 2 + 1, none⟩) hbk).trans c1
      have y0 : ∀ X : Since wr.heap.size wr, X.val.cell? ⟨bk', o' + k * 2, none⟩ = some (.int .i64 t.kind) := fun X => (X.property.cell (p := ⟨bk', o' + k * 2, none⟩) hbk').trans d0
      have y1 : ∀ X : Since wr.heap.size wr, X.val.cell? ⟨bk', o' + k * 2 + 1, none⟩ = some (.string t.bytes) := fun X => (X.property.cell (p := ⟨bk', o' + k * 2 + 1, none⟩) hbk').trans d1
      clear c0 c1 d0 d1
      have heq := fun W => bl_cmp W t t
      rw [blSame_self] at heq
      have hne : Nonempty (Since wr.heap.size wr) := ⟨⟨wr, Below.refl _ _⟩⟩
      go_wp2_with fail
      refine wp_region_since (B := wr.heap.size) (W0 := wr) (by kernel_rfl) (by kernel_rfl) (Below.refl _ _) ?_
      repeat (go_big_quiet_step (fail))
      refine wpQuiet_nil ?_
      rintro w7 ⟨U, rfl⟩
      have hU := U.property
      have HB3 : Hid (Below w.heap.size w U.val) := hbel.trans (hU.mono hbel.size)
      generalize U.val = w7 at *
      clear hU hbel x0 x1 y0 y1 heq hne
      go_wp2_with fail
      go_roundw
      case rel => exact ⟨k + 1, by omega, by go_num, HB3.out⟩
      case measure => simp only [intOf]; omega
    · go_wp2_with fail
      go_ret
      exact ⟨rfl, hbel⟩

set_option maxHeartbeats 4000000 in
theorem equal_ents (v1 v2 : Value) (l : List Ent) (w : World) (h1 : Ex w v1 l) (h2 : Ex w v2 l) (hl : l.length ≤ 140737488351232) :
    Calls Try.prog 15 #[v1, v2] w fun e w' => e = .returned (.bool true) ∧ Below w.heap.size w w' := by
  obtain ⟨a1, c1, rfl, j1, j2⟩ := h1.slice
  obtain ⟨a2, c2, rfl, j3, j4⟩ := h2.slice
  clear j1 j2 j3 j4
  go_enter Try.func15, Try.ntmps15
  go_wp2_with fail
  go_loopw [13] (fun i wr => ∃ k : Nat, k ≤ l.length ∧ i = .int .i64 k ∧ Below w.heap.size w wr) (fun i _ => l.length - (intOf i).toNat)
  case atStart => exact ⟨0, by omega, rfl, Below.refl _ _⟩
  case round =>
    obtain ⟨k, hk, rfl, hbel⟩ := hrel
    by_cases hlt : k < l.length
    · obtain ⟨t, ht⟩ : ∃ t, l[k]? = some t := ⟨_, List.getElem?_eq_getElem hlt⟩
      obtain ⟨bk, o, rfl, hbk, hc⟩ := (h1.below hbel).get k t ht
      obtain ⟨bk', o', rfl, hbk', hd⟩ := (h2.below hbel).get k t ht
      have heq := fun W => en_eq W t
      clear h1 h2 ht
      obtain ⟨xid, hxid, kd, pp, qq⟩ := t
      obtain ⟨b0, b1, b2, b3, b4, b5, b6, b7, rfl⟩ := eight xid hxid
      have heq' : ∀ W, (Op.equalIn 10000 38 (.agg #[.int .u8 (b0.toNat : Int), .int .u8 (b1.toNat : Int), .int .u8 (b2.toNat : Int), .int .u8 (b3.toNat : Int), .int .u8 (b4.toNat : Int), .int .u8 (b5.toNat : Int), .int .u8 (b6.toNat : Int), .int .u8 (b7.toNat : Int), .int .i64 kd, .int .i64 pp, .int .i64 qq]) (.agg #[.int .u8 (b0.toNat : Int), .int .u8 (b1.toNat : Int), .int .u8 (b2.toNat : Int), .int .u8 (b3.toNat : Int), .int .u8 (b4.toNat : Int), .int .u8 (b5.toNat : Int), .int .u8 (b6.toNat : Int), .int .u8 (b7.toNat : Int), .int .i64 kd, .int .i64 pp, .int .i64 qq])).run Try.prog W = .ok true W := heq
      have x0 : ∀ X : Since wr.heap.size wr, X.val.cell? ⟨bk, o + k * 11, none⟩ = some (.int .u8 (b0.toNat : Int)) := fun X => (X.property.cell (p := ⟨bk, o + k * 11, none⟩) hbk).trans (hc 0 _ rfl)
      have x1 : ∀ X : Since wr.heap.size wr, X.val.cell? ⟨bk, o + k * 11 + 1, none⟩ = some (.int .u8 (b1.toNat : Int)) := fun X => (X.property.cell (p := ⟨bk, o + k * 11 + 1, none⟩) hbk).trans (hc 1 _ rfl)
      have x2 : ∀ X : Since wr.heap.size wr, X.val.cell? ⟨bk, o + k * 11 + 2, none⟩ = some (.int .u8 (b2.toNat : Int)) := fun X => (X.property.cell (p := ⟨bk, o + k * 11 + 2, none⟩) hbk).trans (hc 2 _ rfl)
      have x3 : ∀ X : Since wr.heap.size wr, X.val.cell? ⟨bk, o + k * 11 + 3, none⟩ = some (.int .u8 (b3.toNat : Int)) := fun X => (X.property.cell (p := ⟨bk, o + k * 11 + 3, none⟩) hbk).trans (hc 3 _ rfl)
      have x4 : ∀ X : Since wr.heap.size wr, X.val.cell? ⟨bk, o + k * 11 + 4, none⟩ = some (.int .u8 (b4.toNat : Int)) := fun X => (X.property.cell (p := ⟨bk, o + k * 11 + 4, none⟩) hbk).trans (hc 4 _ rfl)
      have x5 : ∀ X : Since wr.heap.size wr, X.val.cell? ⟨bk, o + k * 11 + 5, none⟩ = some (.int .u8 (b5.toNat : Int)) := fun X => (X.property.cell (p := ⟨bk, o + k * 11 + 5, none⟩) hbk).trans (hc 5 _ rfl)
      have x6 : ∀ X : Since wr.heap.size wr, X.val.cell? ⟨bk, o + k * 11 + 6, none⟩ = some (.int .u8 (b6.toNat : Int)) := fun X => (X.property.cell (p := ⟨bk, o + k * 11 + 6, none⟩) hbk).trans (hc 6 _ rfl)
      have x7 : ∀ X : Since wr.heap.size wr, X.val.cell? ⟨bk, o + k * 11 + 7, none⟩ = some (.int .u8 (b7.toNat : Int)) := fun X => (X.property.cell (p := ⟨bk, o + k * 11 + 7, none⟩) hbk).trans (hc 7 _ rfl)
      have x8 : ∀ X : Since wr.heap.size wr, X.val.cell? ⟨bk, o + k * 11 + 8, none⟩ = some (.int .i64 kd) := fun X => (X.property.cell (p := ⟨bk, o + k * 11 + 8, none⟩) hbk).trans (hc 8 _ rfl)
      have x9 : ∀ X : Since wr.heap.size wr, X.val.cell? ⟨bk, o + k * 11 + 9, none⟩ = some (.int .i64 pp) := fun X => (X.property.cell (p := ⟨bk, o + k * 11 + 9, none⟩) hbk).trans (hc 9 _ rfl)
      have x10 : ∀ X : Since wr.heap.size wr, X.val.cell? ⟨bk, o + k * 11 + 10, none⟩ = some (.int .i64 qq) := fun X => (X.property.cell (p := ⟨bk, o + k * 11 + 10, none⟩) hbk).trans (hc 10 _ rfl)
      have y0 : ∀ X : Since wr.heap.size wr, X.val.cell? ⟨bk', o' + k * 11, none⟩ = some (.int .u8 (b0.toNat : Int)) := fun X => (X.property.cell (p := ⟨bk', o' + k * 11, none⟩) hbk').trans (hd 0 _ rfl)
      have y1 : ∀ X : Since wr.heap.size wr, X.val.cell? ⟨bk', o' + k * 11 + 1, none⟩ = some (.int .u8 (b1.toNat : Int)) := fun X => (X.property.cell (p := ⟨bk', o' + k * 11 + 1, none⟩) hbk').trans (hd 1 _ rfl)
      have y2 : ∀ X : Since wr.heap.size wr, X.val.cell? ⟨bk', o' + k * 11 + 2, none⟩ = some (.int .u8 (b2.toNat : Int)) := fun X => (X.property.cell (p := ⟨bk', o' + k * 11 + 2, none⟩) hbk').trans (hd 2 _ rfl)
      have y3 : ∀ X : Since wr.heap.size wr, X.val.cell? ⟨bk', o' + k * 11 + 3, none⟩ = some (.int .u8 (b3.toNat : Int)) := fun X => (X.property.cell (p := ⟨bk', o' + k * 11 + 3, none⟩) hbk').trans (hd 3 _ rfl)
      have y4 : ∀ X : Since wr.heap.size wr, X.val.cell? ⟨bk', o' + k * 11 + 4, none⟩ = some (.int .u8 (b4.toNat : Int)) := fun X => (X.property.cell (p := ⟨bk', o' + k * 11 + 4, none⟩) hbk').trans (hd 4 _ rfl)
      have y5 : ∀ X : Since wr.heap.size wr, X.val.cell? ⟨bk', o' + k * 11 + 5, none⟩ = some (.int .u8 (b5.toNat : Int)) := fun X => (X.property.cell (p := ⟨bk', o' + k * 11 + 5, none⟩) hbk').trans (hd 5 _ rfl)
      have y6 : ∀ X : Since wr.heap.size wr, X.val.cell? ⟨bk', o' + k * 11 + 6, none⟩ = some (.int .u8 (b6.toNat : Int)) := fun X => (X.property.cell (p := ⟨bk', o' + k * 11 + 6, none⟩) hbk').trans (hd 6 _ rfl)
      have y7 : ∀ X : Since wr.heap.size wr, X.val.cell? ⟨bk', o' + k * 11 + 7, none⟩ = some (.int .u8 (b7.toNat : Int)) := fun X => (X.property.cell (p := ⟨bk', o' + k * 11 + 7, none⟩) hbk').trans (hd 7 _ rfl)
      have y8 : ∀ X : Since wr.heap.size wr, X.val.cell? ⟨bk', o' + k * 11 + 8, none⟩ = some (.int .i64 kd) := fun X => (X.property.cell (p := ⟨bk', o' + k * 11 + 8, none⟩) hbk').trans (hd 8 _ rfl)
      have y9 : ∀ X : Since wr.heap.size wr, X.val.cell? ⟨bk', o' + k * 11 + 9, none⟩ = some (.int .i64 pp) := fun X => (X.property.cell (p := ⟨bk', o' + k * 11 + 9, none⟩) hbk').trans (hd 9 _ rfl)
      have y10 : ∀ X : Since wr.heap.size wr, X.val.cell? ⟨bk', o' + k * 11 + 10, none⟩ = some (.int .i64 qq) := fun X => (X.property.cell (p := ⟨bk', o' + k * 11 + 10, none⟩) hbk').trans (hd 10 _ rfl)
      clear hc hd heq
      have hne : Nonempty (Since wr.heap.size wr) := ⟨⟨wr, Below.refl _ _⟩⟩
      go_wp2_with fail
      refine wp_region_since (B := wr.heap.size) (W0 := wr) (by kernel_rfl) (by kernel_rfl) (Below.refl _ _) ?_
      repeat (go_big_quiet_step (fail))
      refine wpQuiet_nil ?_
      rintro w7 ⟨U, rfl⟩
      have hU := U.property
      have HB3 : Hid (Below w.heap.size w U.val) := hbel.trans (hU.mono hbel.size)
      generalize U.val = w7 at *
      clear hU hbel x0 x1 x2 x3 x4 x5 x6 x7 x8 x9 x10 y0 y1 y2 y3 y4 y5 y6 y7 y8 y9 y10 heq' hne
      go_wp2_with fail
      go_roundw
      case rel => exact ⟨k + 1, by omega, by go_num, HB3.out⟩
      case measure => simp only [intOf]; omega
    · go_wp2_with fail
      go_ret
      exact ⟨rfl, hbel⟩
end Go.Proofs.Ytkhejelmjkpgfaa
