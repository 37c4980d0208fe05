/-
  The walk of lumkeep.PackBack: it returns true.
  lumkeep.PackBack, at this commit, returns true whatever blobs it is handed: it changes nothing that was there, and it ends.
-/
import Derived.Test.YtkhejelmjkpgfaaG11
import Derived.Test.YtkhejelmjkpgfaaG13
import Derived.Test.YtkhejelmjkpgfaaRows
import Derived.WalkKit
import Derived.ProofKit
import Derived.OpenShut
import Derived.ShutString
import Derived.ChangeOld
import Derived.Below
import Derived.SizedLaws
import Derived.Laws.Cover2
import Derived.Carry
import Derived.Test.YtkhejelmjkpgfaaG2

namespace Go.Proofs.Ytkhejelmjkpgfaa
open Go.RowKit
set_option maxRecDepth 4000

theorem PzL.prs : ∀ {l : List Blb} {ps : List (List UInt8)}, PzL l ps → (∀ b ∈ l, Pk.bErr b.p = 0) → Pk.Prs Pr.op (l.map Blb.p) ps
  | [], [], _, _ => trivial
  | [], _ :: _, h, _ => h.elim
  | _ :: _, [], h, _ => h.elim
  | b :: l, p :: ps, h, hb => by
    obtain ⟨kd, _, _, hz⟩ := kind_of (hb b (List.mem_cons_self ..))
    have hz' : b.bytes.data.toList.length ≤ 4096 := by rw [← Lib.size_eq]; exact hz
    refine ⟨?_, h.1.le hz', PzL.prs h.2 fun a ha => hb a (List.mem_cons_of_mem _ ha)⟩
    obtain ⟨wide, rfl, hw⟩ := h.1
    exact (Pr.op_pr hz' hw).2.1
theorem pack_small {l : List Blb} {ps : List (List UInt8)} (he : Pk.makeErr (l.map Blb.p) = 0) (hP : Pk.Prs Pr.op (l.map Blb.p) ps) : (Pk.packB (l.map Blb.p) ps).length ≤ 200000 := by
  have h40 : (l.map Blb.p).length ≤ 40 := by
    unfold Pk.makeErr at he
    split at he
    · omega
    · omega
  have h1 := Pk.flatten_le ps hP.le
  have h2 := Pk.listB_length (l.map Blb.p) ps h40
  have h3 := hP.length
  rw [Pk.packB_length]
  omega

set_option maxHeartbeats 8000000 in
theorem packBack_walk (v0 : Value) (l0 : List Blb) (z0 : l0.length ≤ 140737488351232) (f0 : BOk l0) (w : World) (t0 : Bx w v0 l0) :
    Calls Try.prog 6 #[v0] w fun e w' => e = .returned (.bool true) ∧ Below w.heap.size w w' := by
  have HH : Hid (Bx w v0 l0) := t0
  have HK : Hid (BOk l0) := f0
  obtain ⟨a, c, rfl, hc1, hc2⟩ := t0.slice
  clear t0 f0
  go_enter Try.func6, Try.ntmps6
  go_wp2_with fail
  refine (some_any _).mono ?_
  rintro e w1 ⟨t, rfl, ht1, ht2, hb1⟩
  have HB1 : Hid (Below w.heap.size w w1) := hb1
  have hs1 := hb1.size
  have htt : ¬ t.size < 20 := by omega
  have hA1 : Below w.heap.size w (w1.alloc (.cells #[.int .i64 1, .string ⟨#[97, 98]⟩] 24)) := hb1.alloc hs1 _
  have hm := pkmake_any _ l0 (w1.alloc (.cells #[.int .i64 1, .string ⟨#[97, 98]⟩] 24)) (HH.out.below hA1) HK.out z0
  clear hb1
  by_cases hE : Pk.makeErr (l0.map Blb.p) = 0
  · rw [hE] at hm
    go_wp2_with fail
    refine hm.mono ?_
    rintro e w2 ⟨s, rfl, ho, hb2⟩
    obtain ⟨ps, hps, hsd⟩ := ho.2 hE
    have hPrs := hps.prs fun b hb => Pk.makeErr_each hE b.p (List.mem_map_of_mem hb)
    have hsml := pack_small hE hPrs
    have hsz : s.size ≤ 200000 := by rw [Lib.size_eq, hsd]; exact hsml
    have hsp := fun W => split_any s W (by omega)
    have hli := fun W => list_any s W (by omega)
    rw [hsd, Pk.split_pack Pr.op _ ps hE hPrs] at hsp
    rw [hsd, Pk.ls_pack _ ps hPrs.length hE hPrs.le] at hli
    have HONE : Hid (∀ i (h : i < (l0.map Blb.p).length), ∃ x, (Pk.entsOf (l0.map Blb.p) ps 0)[i]? = some x ∧ Pk.one Pr.op (Pk.packB (l0.map Blb.p) ps) x = ((l0.map Blb.p)[i], 0) ∧ x.id = Pk.bid (l0.map Blb.p)[i] ∧ x.kind = (l0.map Blb.p)[i].1) := fun i h => Pk.one_pack Pr.op _ ps hE hPrs i h
    have HON : Hid (∀ (x : Ent) (W : World), Calls Try.prog 16 #[.string s, enV x] W fun e w' => ∃ b : Blb, e = .returned (.tuple #[blV b, .int .i64 (Pk.one Pr.op (Pk.packB (l0.map Blb.p) ps) x.p).2]) ∧ b.p = (Pk.one Pr.op (Pk.packB (l0.map Blb.p) ps) x.p).1 ∧ Below W.heap.size W w') := fun x W => by
      have := one_any s x W (by omega)
      rwa [hsd] at this
    have HEL : Hid ((Pk.entsOf (l0.map Blb.p) ps 0).length = l0.length) := by
      show _ = _
      rw [Pk.entsOf_length _ _ _ hPrs.length, List.length_map]
    have HBE : Hid (∀ b ∈ l0, Pk.bErr b.p = 0) := fun b hb => Pk.makeErr_each hE b.p (List.mem_map_of_mem hb)
    generalize Pk.entsOf (l0.map Blb.p) ps 0 = EO at *
    generalize Pk.packB (l0.map Blb.p) ps = PB at *
    have HB2 : Hid (Below w.heap.size w w2) := hA1.trans (hb2.mono (by simp; omega))
    have hs2 := HB2.out.size
    clear hm hb2 hA1 ho hps hPrs hsml hsd hE
    go_wp2_with fail
    refine (hsp _).mono ?_
    rintro e w3 ⟨v3, rfl, bs, hbs, ho3, hb3⟩
    obtain rfl : bs = l0 := blbs_once hbs
    have HX3 : Hid (Bx w3 v3 bs) := Rx.of_own blC_length ho3
    have HB3 : Hid (Below w.heap.size w w3) := HB2.out.trans (hb3.mono hs2)
    obtain ⟨a3, c3, rfl⟩ := own_form ho3
    clear hsp hb3 ho3 hbs
    go_wp2_with fail
    refine (hli _).mono ?_
    rintro e w4 ⟨v4, rfl, es, hes, ho4, hb4⟩
    have HX4 : Hid (Ex w4 v4 es) := Rx.of_own enC_length ho4
    have HO4 : Hid (0 < es.length → ∃ g c, v4 = .slice (some ⟨g, 0, none⟩) es.length c) := fun h => own_some ho4 h
    have HB4 : Hid (Below w.heap.size w w4) := HB3.out.trans (hb4.mono HB3.out.size)
    have hs4 := HB4.out.size
    have hel : es.length = bs.length := by rw [← HEL.out, ← hes, List.length_map]
    have HES : Hid (es.map Ent.p = EO) := hes
    have heq := equal_blobs _ _ bs w4 (HH.out.below HB4.out) (HX3.out.below hb4) z0
    obtain ⟨a4, c4, hv4⟩ := own_form ho4
    rw [hel] at hv4
    subst hv4
    have HEL2 : Hid (es.length = bs.length) := hel
    clear hli hb4 ho4 hes hel HX3
    go_wp2_with fail
    refine heq.mono ?_
    rintro e w5 ⟨rfl, hb5⟩
    have HX5 : Hid (Ex w5 (.slice a4 bs.length c4) es) := HX4.out.below hb5
    have HB5 : Hid (Below w.heap.size w w5) := HB4.out.trans (hb5.mono hs4)
    clear heq hb5 HX4 HB4 HB3 HB2 HB1
    go_wp2_with fail
    go_loopw [69] (fun i wr => ∃ k : Nat, k ≤ bs.length ∧ i = .int .i64 k ∧ Hid (Below w5.heap.size w5 wr)) (fun i _ => bs.length - (intOf i).toNat)
    case atStart => exact ⟨0, by omega, rfl, Below.refl _ _⟩
    case round =>
      obtain ⟨k, hk, rfl, hbel⟩ := hrel
      have hws := hbel.out.size
      have hBw := HB5.out.trans (hbel.out.mono HB5.out.size)
      by_cases hlt : k < bs.length
      · obtain ⟨t, ht⟩ : ∃ t, bs[k]? = some t := ⟨_, List.getElem?_eq_getElem hlt⟩
        obtain ⟨x, hx⟩ : ∃ x, es[k]? = some x := ⟨_, List.getElem?_eq_getElem (by rw [HEL2.out]; exact hlt)⟩
        obtain ⟨x', hx', ho1, ho2, ho3⟩ := HONE.out k (by rw [List.length_map]; exact hlt)
        have hxp : x.p = x' := by
          rw [← HES.out, List.getElem?_map, hx] at hx'
          exact Option.some.inj hx'
        have htp : (bs.map Blb.p)[k]'(by rw [List.length_map]; exact hlt) = t.p := by
          have h2 : (bs.map Blb.p)[k]? = some t.p := by rw [List.getElem?_map, ht]; rfl
          rw [List.getElem?_eq_getElem (by rw [List.length_map]; exact hlt)] at h2
          exact Option.some.inj h2
        rw [htp] at ho1 ho2 ho3
        rw [← hxp] at ho1 ho2 ho3
        have hone := fun W => HON.out x W
        rw [ho1] at hone
        dsimp only at hone
        have hbe := HBE.out t (List.mem_of_getElem? ht)
        have hpid := fun W => pid_any t W (HK.out t (List.mem_of_getElem? ht)).2
        rw [hbe, show idOr t = Pk.bid t.p from by rw [idOr, if_pos hbe]] at hpid
        obtain ⟨bk, o, rfl, hbk, d0, d1⟩ := (HH.out.below hBw).blob k t ht
        obtain ⟨ge, oe, hai, hge, hccx⟩ := HX5.out.get k x hx
        obtain ⟨g', c', hv'⟩ := HO4.out (by rw [HEL2.out]; omega)
        rw [Value.slice.injEq] at hv'
        obtain ⟨hv1, hv2, hv3⟩ := hv'
        clear hv2 hv3
        subst hv1
        have hai' : g' = ge ∧ 0 = oe := by simpa using hai
        obtain ⟨rfl, rfl⟩ : ge = g' ∧ oe = 0 := ⟨hai'.1.symm, hai'.2.symm⟩
        obtain ⟨xid, hxid, kd, pp, qq⟩ := x
        have hkd : kd = t.kind := ho3
        have hidd : xid = Pk.bid t.p := ho2
        subst hkd
        obtain ⟨b0, b1, b2, b3, b4, b5, b6, b7, rfl⟩ := eight xid hxid
        rw [← hidd] at hpid
        have hpid' : ∀ W, Calls Try.prog 9 #[.agg #[.int .i64 t.kind, .string t.bytes]] W fun e w' => e = .returned (.tuple #[.agg #[.int .u8 (b0.toNat : Int), .int .u8 (b1.toNat : Int), .int .u8 (b2.toNat : Int), .int .u8 (b3.toNat : Int), .int .u8 (b4.toNat : Int), .int .u8 (b5.toNat : Int), .int .u8 (b6.toNat : Int), .int .u8 (b7.toNat : Int)], .int .i64 0]) ∧ Below W.heap.size W w' := hpid
        have hone' : ∀ W, Calls Try.prog 16 #[.string s, .agg #[.int .u8 (b0.toNat : Int), .int .u8 (b1.toNat : Int), .int .u8 (b2.toNat : Int), .int .u8 (b3.toNat : Int), .int .u8 (b4.toNat : Int), .int .u8 (b5.toNat : Int), .int .u8 (b6.toNat : Int), .int .u8 (b7.toNat : Int), .int .i64 t.kind, .int .i64 pp, .int .i64 qq]] W fun e w' => ∃ b : Blb, e = .returned (.tuple #[blV b, .int .i64 0]) ∧ b.p = t.p ∧ Below W.heap.size W w' := hone
        simp only [Nat.zero_add] at hccx
        have heqi : ∀ W, (Op.equalIn 10000 26 (.agg #[.int .u8 (b0.toNat : Int), .int .u8 (b1.toNat : Int), .int .u8 (b2.toNat : Int), .int .u8 (b3.toNat : Int), .int .u8 (b4.toNat : Int), .int .u8 (b5.toNat : Int), .int .u8 (b6.toNat : Int), .int .u8 (b7.toNat : Int)]) (.agg #[.int .u8 (b0.toNat : Int), .int .u8 (b1.toNat : Int), .int .u8 (b2.toNat : Int), .int .u8 (b3.toNat : Int), .int .u8 (b4.toNat : Int), .int .u8 (b5.toNat : Int), .int .u8 (b6.toNat : Int), .int .u8 (b7.toNat : Int)])).run Try.prog W = .ok true W := fun W => by
          have := id_eq W [b0, b1, b2, b3, b4, b5, b6, b7] [b0, b1, b2, b3, b4, b5, b6, b7] rfl rfl
          rw [beq_self_eq_true] at this
          exact this
        have heqb := fun W => bl_cmp W t t
        rw [blSame_self] at heqb
        have HBW : Hid (Below w.heap.size w wr) := hBw
        clear hone hpid ht hx hx' ho1 ho2 ho3 hxp htp hai hai' hidd hbe hBw
        go_wp2_with fail
        refine (hpid' _).mono ?_
        rintro e w2 ⟨rfl, hb2⟩
        have hb2' := below_past hb2
        have hT2 := (Cz.new wr #[.int .i64 t.kind, .string t.bytes] 24).below hb2 (by simp)
        have hw2 : wr.heap.size < w2.heap.size := hT2.lt
        obtain ⟨W3, hW3⟩ : ∃ W3, W3 = w2.alloc (.cells #[.int .u8 (b0.toNat : Int), .int .u8 (b1.toNat : Int), .int .u8 (b2.toNat : Int), .int .u8 (b3.toNat : Int), .int .u8 (b4.toNat : Int), .int .u8 (b5.toNat : Int), .int .u8 (b6.toNat : Int), .int .u8 (b7.toNat : Int)] 26) := ⟨_, rfl⟩
        have hI3 : Cz W3 w2.heap.size (#[.int .u8 (b0.toNat : Int), .int .u8 (b1.toNat : Int), .int .u8 (b2.toNat : Int), .int .u8 (b3.toNat : Int), .int .u8 (b4.toNat : Int), .int .u8 (b5.toNat : Int), .int .u8 (b6.toNat : Int), .int .u8 (b7.toNat : Int)] : Array Value).toList := by rw [hW3]; exact Cz.new w2 _ _
        have hA3 : Below w2.heap.size w2 W3 := by rw [hW3]; exact (Below.refl _ w2).alloc (Nat.le_refl _) _
        have hT3 := hT2.below hA3 hT2.lt
        have hBr3 : Below w5.heap.size w5 W3 := (hbel.out.trans (hb2'.mono hws)).trans (hA3.mono (Nat.le_trans hws hb2'.size))
        have hge3 : ge < W3.heap.size := Nat.lt_of_lt_of_le hge hBr3.size
        have hcc : ∀ r u, (enC ⟨[b0, b1, b2, b3, b4, b5, b6, b7], hxid, t.kind, pp, qq⟩)[r]? = some u → W3.cell? ⟨ge, k * 11 + r, none⟩ = some u := fun r u hu => (hBr3.cell (p := ⟨ge, _, none⟩) hge).trans (hccx r u hu)
        have c0 : W3.cell? ⟨ge, k * 11, none⟩ = some (.int .u8 (b0.toNat : Int)) := hcc 0 _ rfl
        have c1 : W3.cell? ⟨ge, k * 11 + 1, none⟩ = some (.int .u8 (b1.toNat : Int)) := hcc 1 _ rfl
        have c2 : W3.cell? ⟨ge, k * 11 + 2, none⟩ = some (.int .u8 (b2.toNat : Int)) := hcc 2 _ rfl
        have c3 : W3.cell? ⟨ge, k * 11 + 3, none⟩ = some (.int .u8 (b3.toNat : Int)) := hcc 3 _ rfl
        have c4 : W3.cell? ⟨ge, k * 11 + 4, none⟩ = some (.int .u8 (b4.toNat : Int)) := hcc 4 _ rfl
        have c5 : W3.cell? ⟨ge, k * 11 + 5, none⟩ = some (.int .u8 (b5.toNat : Int)) := hcc 5 _ rfl
        have c6 : W3.cell? ⟨ge, k * 11 + 6, none⟩ = some (.int .u8 (b6.toNat : Int)) := hcc 6 _ rfl
        have c7 : W3.cell? ⟨ge, k * 11 + 7, none⟩ = some (.int .u8 (b7.toNat : Int)) := hcc 7 _ rfl
        have c8 : W3.cell? ⟨ge, k * 11 + 8, none⟩ = some (.int .i64 t.kind) := hcc 8 _ rfl
        have c9 : W3.cell? ⟨ge, k * 11 + 9, none⟩ = some (.int .i64 pp) := hcc 9 _ rfl
        have c10 : W3.cell? ⟨ge, k * 11 + 10, none⟩ = some (.int .i64 qq) := hcc 10 _ rfl
        have hs3 : w2.heap.size + 1 ≤ W3.heap.size := hI3.lt
        have HBr3 : Hid (Below w5.heap.size w5 W3) := hBr3
        have hs53 := hBr3.size
        clear hb2 hb2' hT2 hA3 hBr3 hccx hcc hpid' d0 d1 hbel
        go_upto_region 15 with fail
        rw [← hW3]
        clear hW3
        go_wp2_with fail
        refine (hone' _).mono ?_
        rintro e w4 ⟨b, rfl, hbp, hb4⟩
        obtain rfl : b = t := Blb.p_inj hbp
        unfold blV
        obtain ⟨W5, hW5⟩ : ∃ W5, W5 = w4.alloc (.cells #[.int .i64 b.kind, .string b.bytes] 24) := ⟨_, rfl⟩
        have hA5 : Below w4.heap.size w4 W5 := by rw [hW5]; exact (Below.refl _ w4).alloc (Nat.le_refl _) _
        have hB35 : Below W3.heap.size W3 W5 := hb4.trans (hA5.mono hb4.size)
        have hI5 := hI3.below hB35 hI3.lt
        have hT5 := hT3.below hB35 hT3.lt
        have hC5 : Cz W5 w4.heap.size (#[.int .i64 b.kind, .string b.bytes] : Array Value).toList := by rw [hW5]; exact Cz.new w4 _ _
        have hge5 : ge < W5.heap.size := Nat.lt_of_lt_of_le hge3 hB35.size
        have x0 : ∀ X : Since W5.heap.size W5, X.val.cell? ⟨ge, k * 11, none⟩ = some (.int .u8 (b0.toNat : Int)) := fun X => (X.property.cell (p := ⟨ge, _, none⟩) hge5).trans ((hB35.cell (p := ⟨ge, _, none⟩) hge3).trans c0)
        have x1 : ∀ X : Since W5.heap.size W5, X.val.cell? ⟨ge, k * 11 + 1, none⟩ = some (.int .u8 (b1.toNat : Int)) := fun X => (X.property.cell (p := ⟨ge, _, none⟩) hge5).trans ((hB35.cell (p := ⟨ge, _, none⟩) hge3).trans c1)
        have x2 : ∀ X : Since W5.heap.size W5, X.val.cell? ⟨ge, k * 11 + 2, none⟩ = some (.int .u8 (b2.toNat : Int)) := fun X => (X.property.cell (p := ⟨ge, _, none⟩) hge5).trans ((hB35.cell (p := ⟨ge, _, none⟩) hge3).trans c2)
        have x3 : ∀ X : Since W5.heap.size W5, X.val.cell? ⟨ge, k * 11 + 3, none⟩ = some (.int .u8 (b3.toNat : Int)) := fun X => (X.property.cell (p := ⟨ge, _, none⟩) hge5).trans ((hB35.cell (p := ⟨ge, _, none⟩) hge3).trans c3)
        have x4 : ∀ X : Since W5.heap.size W5, X.val.cell? ⟨ge, k * 11 + 4, none⟩ = some (.int .u8 (b4.toNat : Int)) := fun X => (X.property.cell (p := ⟨ge, _, none⟩) hge5).trans ((hB35.cell (p := ⟨ge, _, none⟩) hge3).trans c4)
        have x5 : ∀ X : Since W5.heap.size W5, X.val.cell? ⟨ge, k * 11 + 5, none⟩ = some (.int .u8 (b5.toNat : Int)) := fun X => (X.property.cell (p := ⟨ge, _, none⟩) hge5).trans ((hB35.cell (p := ⟨ge, _, none⟩) hge3).trans c5)
        have x6 : ∀ X : Since W5.heap.size W5, X.val.cell? ⟨ge, k * 11 + 6, none⟩ = some (.int .u8 (b6.toNat : Int)) := fun X => (X.property.cell (p := ⟨ge, _, none⟩) hge5).trans ((hB35.cell (p := ⟨ge, _, none⟩) hge3).trans c6)
        have x7 : ∀ X : Since W5.heap.size W5, X.val.cell? ⟨ge, k * 11 + 7, none⟩ = some (.int .u8 (b7.toNat : Int)) := fun X => (X.property.cell (p := ⟨ge, _, none⟩) hge5).trans ((hB35.cell (p := ⟨ge, _, none⟩) hge3).trans c7)
        have x8 : ∀ X : Since W5.heap.size W5, X.val.cell? ⟨ge, k * 11 + 8, none⟩ = some (.int .i64 b.kind) := fun X => (X.property.cell (p := ⟨ge, _, none⟩) hge5).trans ((hB35.cell (p := ⟨ge, _, none⟩) hge3).trans c8)
        have y0 : ∀ X : Since W5.heap.size W5, X.val.cell? ⟨w2.heap.size, 0, none⟩ = some (.int .u8 (b0.toNat : Int)) := fun X => (X.property.cell (p := ⟨w2.heap.size, 0, none⟩) hI5.lt).trans (hI5.at_ 0 _ rfl)
        have y1 : ∀ X : Since W5.heap.size W5, X.val.cell? ⟨w2.heap.size, 1, none⟩ = some (.int .u8 (b1.toNat : Int)) := fun X => (X.property.cell (p := ⟨w2.heap.size, 1, none⟩) hI5.lt).trans (hI5.at_ 1 _ rfl)
        have y2 : ∀ X : Since W5.heap.size W5, X.val.cell? ⟨w2.heap.size, 2, none⟩ = some (.int .u8 (b2.toNat : Int)) := fun X => (X.property.cell (p := ⟨w2.heap.size, 2, none⟩) hI5.lt).trans (hI5.at_ 2 _ rfl)
        have y3 : ∀ X : Since W5.heap.size W5, X.val.cell? ⟨w2.heap.size, 3, none⟩ = some (.int .u8 (b3.toNat : Int)) := fun X => (X.property.cell (p := ⟨w2.heap.size, 3, none⟩) hI5.lt).trans (hI5.at_ 3 _ rfl)
        have y4 : ∀ X : Since W5.heap.size W5, X.val.cell? ⟨w2.heap.size, 4, none⟩ = some (.int .u8 (b4.toNat : Int)) := fun X => (X.property.cell (p := ⟨w2.heap.size, 4, none⟩) hI5.lt).trans (hI5.at_ 4 _ rfl)
        have y5 : ∀ X : Since W5.heap.size W5, X.val.cell? ⟨w2.heap.size, 5, none⟩ = some (.int .u8 (b5.toNat : Int)) := fun X => (X.property.cell (p := ⟨w2.heap.size, 5, none⟩) hI5.lt).trans (hI5.at_ 5 _ rfl)
        have y6 : ∀ X : Since W5.heap.size W5, X.val.cell? ⟨w2.heap.size, 6, none⟩ = some (.int .u8 (b6.toNat : Int)) := fun X => (X.property.cell (p := ⟨w2.heap.size, 6, none⟩) hI5.lt).trans (hI5.at_ 6 _ rfl)
        have y7 : ∀ X : Since W5.heap.size W5, X.val.cell? ⟨w2.heap.size, 7, none⟩ = some (.int .u8 (b7.toNat : Int)) := fun X => (X.property.cell (p := ⟨w2.heap.size, 7, none⟩) hI5.lt).trans (hI5.at_ 7 _ rfl)
        have m0 : ∀ X : Since W5.heap.size W5, X.val.cell? ⟨wr.heap.size, 0, none⟩ = some (.int .i64 b.kind) := fun X => (X.property.cell (p := ⟨wr.heap.size, 0, none⟩) hT5.lt).trans (hT5.at_ 0 _ rfl)
        have m1 : ∀ X : Since W5.heap.size W5, X.val.cell? ⟨wr.heap.size, 1, none⟩ = some (.string b.bytes) := fun X => (X.property.cell (p := ⟨wr.heap.size, 1, none⟩) hT5.lt).trans (hT5.at_ 1 _ rfl)
        have n0 : ∀ X : Since W5.heap.size W5, X.val.cell? ⟨w4.heap.size, 0, none⟩ = some (.int .i64 b.kind) := fun X => (X.property.cell (p := ⟨w4.heap.size, 0, none⟩) hC5.lt).trans (hC5.at_ 0 _ rfl)
        have n1 : ∀ X : Since W5.heap.size W5, X.val.cell? ⟨w4.heap.size, 1, none⟩ = some (.string b.bytes) := fun X => (X.property.cell (p := ⟨w4.heap.size, 1, none⟩) hC5.lt).trans (hC5.at_ 1 _ rfl)
        have HBr5 : Hid (Below w5.heap.size w5 W5) := HBr3.out.trans (hB35.mono hs53)
        have hs55 := HBr5.out.size
        have hne : Nonempty (Since W5.heap.size W5) := ⟨⟨W5, Below.refl _ _⟩⟩
        clear hb4 hbp hone' hI3 hT3 hI5 hT5 hC5 hA5 hB35 c0 c1 c2 c3 c4 c5 c6 c7 c8 c9 c10 HBr3
        go_upto_region 16 with fail
        rw [← hW5]
        clear hW5
        refine wp_region_since (B := W5.heap.size) (W0 := W5) (by kernel_rfl) (by kernel_rfl) (Below.refl _ _) ?_
        repeat (go_big_quiet_step (fail))
        refine wpQuiet_nil ?_
        rintro w7 ⟨U, rfl⟩
        have HB7 : Hid (Below w5.heap.size w5 U.val) := HBr5.out.trans (U.property.mono hs55)
        generalize U.val = w7 at *
        clear x0 x1 x2 x3 x4 x5 x6 x7 x8 y0 y1 y2 y3 y4 y5 y6 y7 m0 m1 n0 n1 heqi heqb hne
        go_wp2_with fail
        go_roundw
        case rel => exact ⟨k + 1, by omega, by go_num, HB7⟩
        case measure => simp only [intOf]; omega
      · go_wp2_with fail
        go_ret
        exact ⟨rfl, hBw⟩
  · have hX : Hid (Pk.makeErr (l0.map Blb.p) ≠ 0) := hE
    have hE2 : (Pk.makeErr (l0.map Blb.p) == 0) = false := beq_eq_false_iff_ne.2 hE
    go_wp2_with fail
    refine hm.mono ?_
    rintro e w2 ⟨s, rfl, ho, hb2⟩
    have hemp : s.toList.isEmpty = true := by rw [Lib.toList_data, ho.1 hX.out]; rfl
    have HB2 : Hid (Below w.heap.size w w2) := hA1.trans (hb2.mono (by simp; omega))
    clear hm hb2 hA1 ho hX hE
    generalize Pk.makeErr (l0.map Blb.p) = er at *
    go_wp2_with fail
    go_ret
    exact ⟨rfl, HB2.out⟩
end Go.Proofs.Ytkhejelmjkpgfaa

namespace Go.Proofs.Ytkhejelmjkpgfaa.packBack
open Go.ChangeShapes Go.WideShapes Go.ChangeAt Go.RowKit
open Go.ChangeMaps (open_string shut_string)
set_option linter.unusedVariables false

theorem own : ownKnob Try.prog.godebug = none := by kernel_rfl

set_option maxRecDepth 100000 in
theorem lifted (os : Os) (started : os.Started) (H : Type) (enc : TypeId × Value → H) :
    ReturnsInHanded {} Try.checked os 6 .any (Rows.packBackSpec.pre6 enc Try.prog Try.f6 Rows.packBackRow.domain false) (Rows.packBackSpec.post enc Try.prog Try.f6 false true false false) := by
  refine returnsInHanded_of_change_sized (C := Try.checked) own started (by kernel_rfl) Try.func6
    (ChangeSpec.witness6 (enc := enc) (C := Try.checked) false ⟨#[], #[.slice none 0 0], []⟩ 8 (by kernel_rfl) (by kernel_rfl) (by kernel_rfl) (by kernel_rfl)) ?_
  intro W base args ds gs before hval0 hW hcnd hsz0 _
  have hval : ∀ (j : Nat) t v, Try.f6.params[j]? = some t → args[j]? = some v → Value.okWide Try.prog W .any base t v := hval0
  have hW' := hW
  obtain ⟨p, q, hA0, hV, rfl, hfz, hnd⟩ := hW
  have hA : DataW.TrodAll enc Try.prog W 0 (fun _ => true) true Try.f6.params.toList args.toList ds p := hA0
  have hsz : (DataW.weightsEach Try.prog (Try.f6.params.toList ++ Rows.packBackSpec.plain.varTypes Try.prog) (ds ++ gs)).all (· ≤ reachBytes) = true := hsz0
  rw [Try.params6] at hA hval hsz
  obtain ⟨v0, vs0, d0, ds0, p0, q0, hargs, rfl, rfl, h0, r0⟩ := trodAll_cons hA
  obtain ⟨rfl, rfl, rfl⟩ := trodAll_nil r0
  obtain rfl : args = #[v0] := by cases args; simp_all
  obtain ⟨rfl, rfl⟩ := trodVars_none hV
  obtain ⟨sa0, len0, cap0, rfl⟩ := okWide_slice Try.underlying22 (hval 0 22 v0 rfl rfl)
  have h0k := h0
  obtain ⟨fuel0, hf0⟩ := h0
  have hlts : ∀ x ∈ p0, x.block < W.heap.size := fun x hx => Nat.lt_of_lt_of_eq (hW'.lt x (by simpa using hx)) (by simp)
  have hlt0 : ∀ x ∈ p0, x.block < W.heap.size := fun x hx => hlts x (hx)
  have hargs0 : ∀ (W' : World), Below W.heap.size W W' → DataW.Trod enc Try.prog W' 0 (fun b => decide (b < W.heap.size)) true 22 (.slice sa0 len0 cap0) d0 p0 :=
    fun W' hn => Below.trod (by kernel_rfl) (by kernel_rfl) (of_decide_eq_true (by kernel_rfl)) h0k hn hlt0
  obtain ⟨l0, hl0, hwf0, hsize0⟩ := open_blobs hf0 hlt0
  have z0 : l0.length ≤ 140737488351232 := by
    rcases hsize0 with h | ⟨elems, sp, h, h2⟩
    · omega
    · have h : d0 = .slice elems sp := h
      subst h
      have := sized_slice hsz (j := 0) (t := 22) rfl rfl Try.underlying22
      have hb : Try.prog.bytesOf 24 = 24 := by kernel_rfl
      rw [hb] at this
      simp only [reachBytes] at this
      omega
  clear hA0 hval0 hsz hsz0
  refine (packBack_walk _ l0 z0 hwf0 W hl0).mono fun e W' ⟨he, bel⟩ => ?_
  subst he
  exact ⟨_, rfl, _, _, _, [], _, [], hW', trodAll_mk1 (shut_bool Try.underlying4 _), (trodAll_cons_mk (hargs0 _ bel) trodAll_mk0), rfl, bel.frame _, fun h => by cases h⟩

theorem over : Rows.packBackRow.holds Try.pinned (OpenSpec.ofChange Rows.packBackSpec) :=
  OpenClaim.holds_of_wide 6 Try.f6 rfl rfl rfl rfl rfl rfl rfl ⟨rfl, rfl, rfl, rfl, rfl⟩ rfl rfl rfl rfl rfl (by kernel_rfl) Try.func6 (by kernel_rfl)
    (of_decide_eq_true (by kernel_rfl)) (by unfold Func.isWrapper; first | (rw [if_pos (by decide +kernel)]; kernel_rfl) | (rw [if_neg (by decide +kernel)]; exact ⟨rfl, rfl⟩))
    (fun os started H enc _ => lifted os started H enc)
end Go.Proofs.Ytkhejelmjkpgfaa.packBack

namespace Go.Proofs.Ytkhejelmjkpgfaa
theorem packBack_holds : Rows.PackBackSaid := packBack.over
end Go.Proofs.Ytkhejelmjkpgfaa
