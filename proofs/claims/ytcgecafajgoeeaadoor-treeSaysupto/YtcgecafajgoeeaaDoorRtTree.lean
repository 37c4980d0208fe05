/-
  lumref: what TreeRead answers.
-/
import Derived.Test.YtcgecafajgoeeaaDoorRtRead
import Derived.OwnWalk
namespace Go.Proofs.YtcgecafajgoeeaaDoor
open Go.RowKit
set_option maxRecDepth 4000

/-- a node whose IDs lie in a block of IDs -/
def NdG (w : World) (n : Nod) (c : List Value) : Prop := ∃ v, c = ndC n v ∧ Rx 8 idC w v n.parts ∧ (∀ a m c, v = .slice (some a) m c → ∃ cur fr, w.heap[a.block]? = some (.cells cur 49 fr)) ∧ n.Ok
theorem NdG.kt {w W : World} {n : Nod} {c : List Value} (hk : Kt 32 w W) (h : NdG w n c) : NdG W n c := by
  obtain ⟨v, e, hr, ht, ho⟩ := h
  refine ⟨v, e, ⟨?_, hr.room⟩, fun a m c hv => ?_, ho⟩
  · rcases hr.at_ with h1 | ⟨bk, o, cap, h1, h2, h3⟩
    · exact .inl h1
    · obtain ⟨cur, fr, hb⟩ := ht _ _ _ h1
      have hb' := hk.cell hb (by decide)
      refine .inr ⟨bk, o, cap, h1, Nat.lt_of_lt_of_le h2 hk.size, fun j t hj r u hu => ?_⟩
      rw [← h3 j t hj r u hu]
      simp only [World.cell?] at hb hb' ⊢
      rw [hb, hb']
  · obtain ⟨cur, fr, hb⟩ := ht a m c hv
    exact ⟨cur, fr, hk.cell hb (by decide)⟩
theorem NdG.below {w W : World} {n : Nod} {c : List Value} (hb : Below w.heap.size w W) (h : NdG w n c) : NdG W n c := NdG.kt (Kt.of_below hb) h
theorem NdG.r {w : World} {n : Nod} {c : List Value} (h : NdG w n c) : NdR w n c := by
  obtain ⟨v, e, hr, _, ho⟩ := h
  exact ⟨v, e, hr, ho⟩
theorem Nds.of_oy {base : Nat} {w : World} {v : Value} {l : List Nod} (h : Oy 7 32 NdG base w v l) : Nds w v l := by
  rcases (Rw.of_ry h.ry).at_ with h1 | ⟨bk, o, cap, h1, h2, h3, h4⟩
  · exact ⟨.inl h1⟩
  · refine ⟨.inr ⟨bk, o, cap, h1, h2, h3, fun j t hj => ?_⟩⟩
    obtain ⟨c, c1, c2, c3⟩ := h4 j t hj
    exact ⟨c, c1, c2.r, c3⟩
theorem info_nd : (Tryd.prog.info? 32).map (fun i => (i.zero, i.size, i.bytes)) = some (some (.agg #[.string ⟨#[]⟩, .int .i64 0, .int .i64 0, .int .i64 0, .int .i64 0, .slice none 0 0, .string ⟨#[]⟩]), 7, 88) := by kernel_rfl
theorem below7' {w W : World} {B b : Nat} (h : Below B w W) (hM : B ≤ b) (x0 x1 x2 x3 x4 x5 x6 : Value) :
    Below B w (((((((W.setCell ⟨b, 0, none⟩ x0).setCell ⟨b, 1, none⟩ x1).setCell ⟨b, 2, none⟩ x2).setCell ⟨b, 3, none⟩ x3).setCell ⟨b, 4, none⟩ x4).setCell ⟨b, 5, none⟩ x5).setCell ⟨b, 6, none⟩ x6) :=
  ((((((h.setCell (p := ⟨b, 0, none⟩) hM x0).setCell (p := ⟨b, 1, none⟩) hM x1).setCell (p := ⟨b, 2, none⟩) hM x2).setCell (p := ⟨b, 3, none⟩) hM x3).setCell (p := ⟨b, 4, none⟩) hM x4).setCell (p := ⟨b, 5, none⟩) hM x5).setCell (p := ⟨b, 6, none⟩) hM x6
theorem set_seven {W : World} {b : Nat} {T : TypeId} {y0 y1 y2 y3 y4 y5 y6 : Value} (h : W.heap[b]? = some (.cells #[y0, y1, y2, y3, y4, y5, y6] T (0, 0))) (x0 x1 x2 x3 x4 x5 x6 : Value) :
    (((((((W.setCell ⟨b, 0, none⟩ x0).setCell ⟨b, 1, none⟩ x1).setCell ⟨b, 2, none⟩ x2).setCell ⟨b, 3, none⟩ x3).setCell ⟨b, 4, none⟩ x4).setCell ⟨b, 5, none⟩ x5).setCell ⟨b, 6, none⟩ x6).heap[b]? = some (.cells #[x0, x1, x2, x3, x4, x5, x6] T (0, 0)) := by
  simp [World.setCell, Array.getElem?_modify, h]
theorem kt_any {T : TypeId} {W : World} {b : Nat} (h : ∃ cur fr, W.heap[b]? = some (.cells cur T fr)) (j : Nat) (x : Value) : Kt T W (W.setCell ⟨b, j, none⟩ x) ∧ ∃ cur fr, (W.setCell ⟨b, j, none⟩ x).heap[b]? = some (.cells cur T fr) := by
  obtain ⟨cur, fr, h⟩ := h
  refine ⟨Kt.set h j x, ?_⟩
  simp [World.setCell, Array.getElem?_modify, h]
theorem kt_seven {W : World} {b : Nat} {T : TypeId} {cur : Array Value} {fr : Nat × Nat} (h : W.heap[b]? = some (.cells cur T fr)) (x0 x1 x2 x3 x4 x5 x6 : Value) :
    Kt T W (((((((W.setCell ⟨b, 0, none⟩ x0).setCell ⟨b, 1, none⟩ x1).setCell ⟨b, 2, none⟩ x2).setCell ⟨b, 3, none⟩ x3).setCell ⟨b, 4, none⟩ x4).setCell ⟨b, 5, none⟩ x5).setCell ⟨b, 6, none⟩ x6) := by
  obtain ⟨k0, h0⟩ := kt_any ⟨_, _, h⟩ 0 x0
  obtain ⟨k1, h1⟩ := kt_any h0 1 x1
  obtain ⟨k2, h2⟩ := kt_any h1 2 x2
  obtain ⟨k3, h3⟩ := kt_any h2 3 x3
  obtain ⟨k4, h4⟩ := kt_any h3 4 x4
  obtain ⟨k5, h5⟩ := kt_any h4 5 x5
  obtain ⟨k6, _⟩ := kt_any h5 6 x6
  exact (((((k0.trans k1).trans k2).trans k3).trans k4).trans k5).trans k6
theorem seven_new (W : World) (v0 v1 v2 v3 v4 v5 v6 : Value) {T : TypeId} : ∀ j u, [v0, v1, v2, v3, v4, v5, v6][j]? = some u → (W.alloc (.cells #[v0, v1, v2, v3, v4, v5, v6] T)).cell? ((⟨W.heap.size, 0, none⟩ : Addr).add j) = some u := by
  intro j u hj
  rw [show ((⟨W.heap.size, 0, none⟩ : Addr).add j) = ⟨W.heap.size, j, none⟩ from by unfold Addr.add; split <;> simp_all]
  match j, hj with
  | 0, hj => simp at hj; subst hj; simp
  | 1, hj => simp at hj; subst hj; simp
  | 2, hj => simp at hj; subst hj; simp
  | 3, hj => simp at hj; subst hj; simp
  | 4, hj => simp at hj; subst hj; simp
  | 5, hj => simp at hj; subst hj; simp
  | 6, hj => simp at hj; subst hj; simp
/-- what TreeRead answers -/
def TrOut (s : ByteArray) (w : World) (e : Ending) (w' : World) : Prop :=
  ∃ v l, e = .returned (.tuple #[v, .int .i64 (Td.read s.data.toList).2]) ∧ nds l = (Td.read s.data.toList).1 ∧ Nds w' v l ∧ l.length ≤ 64 ∧ (∀ n ∈ l, n.name.size ≤ 1024) ∧ Below w.heap.size w w'
theorem Td.rdAll_step {m : Nat} {s : Td.Bs} {out : List Td.Nd} {RES : List Td.Nd × Int} (h : Td.rdAll (m + 1) s out = RES) : ((Td.rdOne s).2.2 ≠ 0 → RES = ([], (Td.rdOne s).2.2)) ∧ ((Td.rdOne s).2.2 = 0 → Td.rdAll m (Td.rdOne s).2.1 (out ++ [(Td.rdOne s).1]) = RES) := by
  rw [Td.rdAll] at h
  refine ⟨fun he => ?_, fun he => ?_⟩
  · rw [if_pos he] at h; exact h.symm
  · rw [if_neg (fun k => k he)] at h; exact h

set_option maxHeartbeats 4000000 in
set_option maxRecDepth 10000 in
theorem rtree_any (s : ByteArray) (w : World) (hs : s.size ≤ 9223372036854775807) : Calls Tryd.prog 15 #[.string s] w (TrOut s w) := by
  unfold TrOut
  have HT : Hid (Td.read s.data.toList = if 4096 < s.data.toList.length then ([], 2) else if (Td.num 64 s.data.toList).2.2 ≠ 0 then ([], (Td.num 64 s.data.toList).2.2) else Td.rdAll (Td.num 64 s.data.toList).1 (Td.num 64 s.data.toList).2.1 []) := rfl
  generalize Td.read s.data.toList = RES at *
  by_cases h4 : 4096 < s.size
  · have HR : Hid (RES = ([], 2)) := by
      have := HT.out
      rwa [if_pos (by rw [← Lib.size_eq]; exact h4)] at this
    have g4 : (4096 : Int) < (s.size : Int) := by omega
    clear HT
    go_enter Tryd.func15, Tryd.ntmps15
    go_wp2_with fail
    go_ret2
    exact ⟨_, [], by rw [HR.out]; rfl, by rw [HR.out]; rfl, Rw.nil _ _, by simp, fun n hn => absurd hn List.not_mem_nil, Below.refl _ _⟩
  have g4 : ¬ (4096 : Int) < (s.size : Int) := by omega
  rw [if_neg (by rw [← Lib.size_eq]; exact h4)] at HT
  have hcall := numAt_any s 64 w (by omega) (by omega)
  have hlen := Td.num_len 64 s.data.toList
  rcases hM : Td.num 64 s.data.toList with ⟨many, l1, em⟩
  rw [hM] at hcall HT hlen
  have hmany : many ≤ 64 := Td.num_most hM
  simp only at hcall hlen
  rw [← Lib.size_eq] at hlen
  clear hM
  obtain ⟨i0, hi, hz0, hz1, hz2⟩ := info_of' info_nd
  go_enter Tryd.func15, Tryd.ntmps15
  go_wp2_with fail
  refine hcall.mono ?_
  rintro e w1 ⟨rfl, b1⟩
  have HB1 : Hid (Below w.heap.size w w1) := b1
  clear hcall b1
  by_cases he : em ≠ 0
  · have hqn : (em != 0) = true := by rw [bne_iff_ne]; exact he
    have HR : Hid (RES = ([], em)) := by
      have := HT.out
      rwa [if_pos he] at this
    clear HT
    go_wp2_with fail
    go_ret2
    exact ⟨_, [], by rw [HR.out]; rfl, by rw [HR.out]; rfl, Rw.nil _ _, by simp, fun n hn => absurd hn List.not_mem_nil, HB1.out⟩
  obtain rfl := Decidable.not_not.mp he
  clear he
  have HR0 : Hid (Td.rdAll (many - 0) l1 (nds []) = RES) := by
    have := HT.out
    rw [if_neg (by simp)] at this
    exact this.symm
  clear HT
  go_wp2_with fail
  go_loopw [0, 6, 22] (fun x v i wr => ∃ (k : Nat) (rest : List UInt8) (l : List Nod), k ≤ many ∧ i = .int .i64 k ∧ x = .string ⟨rest.toArray⟩ ∧ rest.length ≤ 4096 ∧ l.length = k ∧ Hid (Td.rdAll (many - k) rest (nds l) = RES) ∧ Hid (∀ n ∈ l, n.name.size ≤ 1024) ∧ Hid (Oy 7 32 NdG w.heap.size wr v l) ∧ Hid (Below w.heap.size w wr)) (fun _ _ i _ => many - (intOf i).toNat)
  case atStart => exact ⟨0, l1, [], by omega, rfl, rfl, by omega, rfl, HR0, (fun n hn => absurd hn List.not_mem_nil), Oy.nil, HB1⟩
  case round =>
    clear HR0 HB1
    obtain ⟨k, rest, l, hk, rfl, rfl, hrl, hlk, HR, HNm, HO, HB⟩ := hrel
    by_cases hlt : k < many
    · have hst := Td.rdAll_step (m := many - (k + 1)) (s := rest) (out := nds l) (RES := RES) (by rw [show many - (k + 1) + 1 = many - k from by omega]; exact HR.out)
      have HSt : Hid (((Td.rdOne rest).2.2 ≠ 0 → RES = ([], (Td.rdOne rest).2.2)) ∧ ((Td.rdOne rest).2.2 = 0 → Td.rdAll (many - (k + 1)) (Td.rdOne rest).2.1 (nds l ++ [(Td.rdOne rest).1]) = RES)) := hst
      obtain ⟨sr, hsr⟩ : ∃ sr : ByteArray, sr = ⟨rest.toArray⟩ := ⟨_, rfl⟩
      have hdr : sr.data.toList = rest := by rw [hsr]
      obtain ⟨W1, hW1⟩ : ∃ W1, W1 = wr.alloc (.cells #[.string ⟨#[]⟩, .int .i64 0, .int .i64 0, .int .i64 0, .int .i64 0, .slice none 0 0, .string ⟨#[]⟩] 32) := ⟨_, rfl⟩
      have hB1 : Below wr.heap.size wr W1 := by rw [hW1]; exact (Below.refl _ wr).alloc (Nat.le_refl _) _
      have HBB : Hid (Below wr.heap.size wr W1) := hB1
      have HM1 : Hid (W1.heap[wr.heap.size]? = some (.cells #[.string ⟨#[]⟩, .int .i64 0, .int .i64 0, .int .i64 0, .int .i64 0, .slice none 0 0, .string ⟨#[]⟩] 32 (0, 0))) := by rw [hW1]; exact heap_alloc_new wr _
      have hnr := nodeRead_any sr W1 (by rw [Lib.size_eq, hdr]; omega)
      unfold RdOut at hnr
      rw [hdr] at hnr
      have HLn : Hid (∀ {n : Nod}, Td.rdOne rest = (n.nd, (Td.rdOne rest).2.1, 0) → (Td.rdOne rest).2.1.length ≤ rest.length) := fun h => by
        have := congrArg List.length (Td.rdOne_one h).2
        rw [List.length_append] at this
        omega
      generalize Td.rdOne rest = ONE at *
      rw [← hsr]
      clear hst hB1 hsr hdr HR
      go_upto_region 10 with fail
      rw [← hW1]
      obtain ⟨b7, hb7⟩ : ∃ b7, b7 = wr.heap.size := ⟨_, rfl⟩
      have HB7 : Hid (b7 = wr.heap.size) := hb7
      rw [← hb7] at HM1 ⊢
      clear hW1 hb7
      go_wp2_with fail
      refine hnr.mono ?_
      rintro e w3 ⟨b3, ⟨hne, n, av, nv, cv, rfl⟩ | ⟨n, v, hone, rfl, hRx, hTy, hOk, hNs⟩⟩
      · have HB3 : Hid (Below w.heap.size w w3) := (HB.out.trans (HBB.out.mono HB.out.size)).trans (b3.mono (HB.out.trans (HBB.out.mono HB.out.size)).size)
        have HRE : Hid (RES = ([], ONE.2.2)) := HSt.out.1 hne
        have hqn : (ONE.2.2 != 0) = true := by rw [bne_iff_ne]; exact hne
        obtain ⟨m0, m1, m2, m3, m4, m5, m6⟩ := seven_at ((b3.block _ (Array.getElem?_eq_some_iff.1 HM1.out).1).trans HM1.out)
        obtain ⟨f0, f1, f2, f3, f4, f5, f6⟩ := seven_fz ((b3.block _ (Array.getElem?_eq_some_iff.1 HM1.out).1).trans HM1.out)
        obtain ⟨name, kind, mode, time, size, parts, link⟩ := n
        generalize ONE.2.2 = E at *
        clear hnr b3 HSt
        go_wp2_with fail
        go_ret2
        exact ⟨_, [], by rw [HRE.out]; rfl, by rw [HRE.out]; rfl, Rw.nil _ _, by simp, (fun n hn => absurd hn List.not_mem_nil), below7' HB3.out (by have := HB7.out; have := HB.out.size; omega) _ _ _ _ _ _ _⟩
      · obtain ⟨av, cv, rfl, _⟩ := hRx.slice
        have hb13 : Below wr.heap.size wr w3 := HBB.out.trans (b3.mono HBB.out.size)
        have HB3 : Hid (Below w.heap.size w w3) := HB.out.trans (hb13.mono HB.out.size)
        have hM3 := (b3.block _ (Array.getElem?_eq_some_iff.1 HM1.out).1).trans HM1.out
        obtain ⟨m0, m1, m2, m3, m4, m5, m6⟩ := seven_at hM3
        obtain ⟨f0, f1, f2, f3, f4, f5, f6⟩ := seven_fz hM3
        have HRE : Hid (Td.rdAll (many - (k + 1)) ONE.2.1 (nds (l ++ [n])) = RES) := by
          have := HSt.out.2 (by rw [hone])
          rw [show ONE.1 = n.nd from by rw [hone]] at this
          show _ = _
          rw [show nds (l ++ [n]) = nds l ++ [n.nd] from by simp [nds]]
          exact this
        have HNm2 : Hid (∀ x ∈ l ++ [n], x.name.size ≤ 1024) := fun x hx => by
          rcases List.mem_append.1 hx with q | q
          · exact HNm.out x q
          · rw [List.mem_singleton.1 q]; exact hNs
        have hrl2 : ONE.2.1.length ≤ 4096 := by
          have := HLn.out hone
          omega
        obtain ⟨cc, o1, o2, o3, o4⟩ := HO.out
        have HG3 : NdG w3 n (ndC n (.slice av n.parts.length cv)) := ⟨_, rfl, hRx, hTy, hOk⟩
        have HLe : Hid (l.length = k ∧ (l ++ [n]).length = k + 1) := ⟨hlk, by rw [List.length_append, hlk]; rfl⟩
        obtain ⟨np, hnp⟩ : ∃ np, np = n.parts.length := ⟨_, rfl⟩
        rw [← hnp] at HG3 ⊢
        obtain ⟨W4, hW4⟩ : ∃ W4, W4 = (((((((w3.setCell ⟨b7, 0, none⟩ (.string n.name)).setCell ⟨b7, 1, none⟩ (.int .i64 n.kind)).setCell ⟨b7, 2, none⟩ (.int .i64 n.mode)).setCell ⟨b7, 3, none⟩ (.int .i64 n.time)).setCell ⟨b7, 4, none⟩ (.int .i64 n.size)).setCell ⟨b7, 5, none⟩ (.slice av np cv)).setCell ⟨b7, 6, none⟩ (.string n.link)) := ⟨_, rfl⟩
        have HM4 : Hid (W4.heap[b7]? = some (.cells (ndC n (.slice av np cv)).toArray 32 (0, 0))) := by rw [hW4]; exact set_seven hM3 _ _ _ _ _ _ _
        have hKt : Kt 32 w3 W4 := by rw [hW4]; exact kt_seven hM3 _ _ _ _ _ _ _
        have HB4 : Hid (Below w.heap.size w W4) := by rw [hW4]; exact below7' HB3.out (by have := HB7.out; have := HB.out.size; omega) _ _ _ _ _ _ _
        have o1' : W4.ownsRow w.heap.size 32 7 u6 l.length cc.flatten := by
          rw [hW4]
          exact own_kept (own_kept o1 (Kept.of_below (p := fun _ => True) hb13) fun _ _ => trivial) (kept7 w3 b7 _ _ _ _ _ _ _) fun g hg => by
            obtain ⟨_, _, _, q⟩ := own_block o1 hg
            have := HB7.out
            omega
        have HO2 : Hid ((∀ c ∈ cc, c.length = 7) ∧ cc.length = l.length ∧ ∀ (j : Nat) t c, l[j]? = some t → cc[j]? = some c → NdG W4 t c) := ⟨o2, o3, fun j t c a b => NdG.kt hKt (NdG.below hb13 (o4 j t c a b))⟩
        have HG : Hid (NdG W4 n (ndC n (.slice av np cv))) := NdG.kt hKt HG3
        have hl4 : l.length ≤ 64 := by omega
        have hsw := HB4.out.size
        clear hnr b3 HSt HM1 HBB hb13 hM3 HB3 HO o1 o2 o3 o4 HG3 hKt hRx hTy hOk hNs HNm hnp HB7
        obtain ⟨name, kind, mode, time, size, parts, link⟩ := n
        dsimp only at *
        generalize hor : ONE.2.1 = rest2 at *
        clear hone hor
        go_upto_region 11 with fail
        rw [← hW4]
        clear hW4 m0 m1 m2 m3 m4 m5 m6 f0 f1 f2 f3 f4 f5 f6
        obtain ⟨m0, m1, m2, m3, m4, m5, m6⟩ := seven_at HM4.out
        go_wp2_with (at_builtin; refine wpList_append_own _ rfl (.tmp 33) (.tmp 35) 22 rfl w.heap.size 32 i0 (.agg #[.string ⟨#[]⟩, .int .i64 0, .int .i64 0, .int .i64 0, .int .i64 0, .slice none 0 0, .string ⟨#[]⟩]) 7 88 Tryd.underlying22 hi hz0 hz1 hz2 rfl (by decide) _ _ _ rfl (o1'.alloc _) ⟨W4.heap.size, 0, none⟩ 1 1 [.string name, .int .i64 kind, .int .i64 mode, .int .i64 time, .int .i64 size, .slice av np cv, .string link] rfl rfl (seven_new W4 _ _ _ _ _ _ _) ?c2 ?c3 ?c4 ?c5 ?_)
        case c2 => simp [Value.oneCell']
        case c3 => unfold maxLen; omega
        case c4 => omega
        case c5 => first | omega | (simp; omega)
        intro v6 w5 hown5 hgrow _
        rw [← HLe.out.1] at hown5
        have hk5 : Kt 32 W4 w5 := ((Kt.refl _ W4).alloc _).trans (Kt.of_grown hgrow fun g hg => by
          obtain ⟨cur, q, _⟩ := own_block (o1'.alloc _) hg
          exact ⟨cur, _, q⟩)
        have HB5 : Hid (Below w.heap.size w w5) := (HB4.out.alloc hsw _).grown hgrow (by simp; omega) fun g hg => own_ge o1' hg
        have HOn : Hid (Oy 7 32 NdG w.heap.size w5 v6 (l ++ [⟨name, kind, mode, time, size, parts, link⟩])) := Oy.more HO2.out.1 HO2.out.2.1 (fun j t c a b => NdG.kt hk5 (HO2.out.2.2 j t c a b)) hown5 rfl (NdG.kt hk5 HG.out)
        clear hown5 hgrow hk5 o1' HO2 HG HB4 HM4 m0 m1 m2 m3 m4 m5 m6
        go_wp2_with fail
        go_roundw
        case measure => simp only [intOf]; omega
        case rel => exact ⟨k + 1, rest2, _, by omega, by go_num, rfl, hrl2, HLe.out.2, HRE, HNm2, HOn, HB5⟩
    · obtain rfl : k = many := by omega
      have HE : Hid (RES = if rest ≠ [] then ([], 4) else if Td.check (nds l) ≠ 0 then ([], Td.check (nds l)) else (nds l, 0)) := by
        have := HR.out
        rw [Nat.sub_self, Td.rdAll] at this
        exact this.symm
      have hno := rnodes_any u6 l wr (Nds.of_oy HO.out) (by omega) (fun n hn => by have := HNm.out n hn; omega)
      have HNd : Hid (Nds wr u6 l) := Nds.of_oy HO.out
      clear HR HO
      by_cases hre : rest ≠ []
      · have e1 : rest.isEmpty = false := by cases rest with | nil => exact absurd rfl hre | cons a b => rfl
        have HRE : Hid (RES = ([], 4)) := by
          have := HE.out
          rwa [if_pos hre] at this
        clear HE hno
        go_wp2_with fail
        go_ret2
        exact ⟨_, [], by rw [HRE.out]; rfl, by rw [HRE.out]; rfl, Rw.nil _ _, by simp, (fun n hn => absurd hn List.not_mem_nil), HB.out⟩
      obtain rfl := Decidable.not_not.mp hre
      have HE2 : Hid (RES = if Td.check (nds l) ≠ 0 then ([], Td.check (nds l)) else (nds l, 0)) := by
        have := HE.out
        rwa [if_neg (by simp)] at this
      generalize Td.check (nds l) = E at *
      clear HE hre
      go_wp2_with fail
      refine hno.mono ?_
      rintro e w5 ⟨rfl, b5⟩
      have HB5 : Hid (Below w.heap.size w w5) := HB.out.trans (b5.mono HB.out.size)
      have HN5 : Hid (Nds w5 u6 l) := HNd.out.below b5
      clear hno b5
      by_cases hE : E ≠ 0
      · have hqn : (E != 0) = true := by rw [bne_iff_ne]; exact hE
        have HRE : Hid (RES = ([], E)) := by
          have := HE2.out
          rwa [if_pos hE] at this
        clear HE2
        go_wp2_with fail
        go_ret2
        exact ⟨_, [], by rw [HRE.out]; rfl, by rw [HRE.out]; rfl, Rw.nil _ _, by simp, (fun n hn => absurd hn List.not_mem_nil), HB5.out⟩
      obtain rfl := Decidable.not_not.mp hE
      have HRE : Hid (RES = (nds l, 0)) := by
        have := HE2.out
        rwa [if_neg (by simp)] at this
      clear HE2 hE
      go_wp2_with fail
      go_ret2
      exact ⟨_, l, by rw [HRE.out]; rfl, by rw [HRE.out], HN5.out, by omega, HNm.out, HB5.out⟩
end Go.Proofs.YtcgecafajgoeeaaDoor
