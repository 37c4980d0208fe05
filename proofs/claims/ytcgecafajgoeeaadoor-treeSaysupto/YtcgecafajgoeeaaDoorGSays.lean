/-
  lumref: what TreeWrite answers.
  The walk of lumlaw.TreeSays: it returns true.
  For every list of nodes and every name, both of bulk at most 1048576: Check, Find and Write answer what the document says (whatever package-level variables hold but the two listed tables)
-/
import Derived.Test.YtcgecafajgoeeaaDoorRtNodes
import Derived.Test.YtcgecafajgoeeaaDoorRefPut
import Derived.Test.YtcgecafajgoeeaaDoorRefPutInt
import Derived.Test.YtcgecafajgoeeaaDoorRefText
import Derived.Test.YtcgecafajgoeeaaDoorRelReg
import Derived.WalkSmall
import Derived.Test.YtcgecafajgoeeaaDoorGTg
import Derived.Test.YtcgecafajgoeeaaDoorRtIdx
import Derived.Test.YtcgecafajgoeeaaDoorCards
import Derived.Test.YtcgecafajgoeeaaDoorTie
import Derived.Test.YtcgecafajgoeeaaDoorNnTabs
import Derived.Test.YtcgecafajgoeeaaDoorNdOpen
import Derived.Test.YtcgecafajgoeeaaDoorNdBulk
import Derived.Carry
import Derived.WalkKit
import Derived.ProofKit
import Derived.OpenShut
import Derived.ShutString
import Derived.ChangeOld
import Derived.Below
import Derived.SizedLaws
import Derived.Laws.Cover2
import Derived.Deep.DeepHandedRow
import Derived.Shelf.Vars

namespace Go.Proofs.YtcgecafajgoeeaaDoor
open Go.RowKit
set_option maxRecDepth 4000

/-- a byte in a block of its own -/
def Bt1 (b : Int) (u : Value) (W : World) : Prop := ∃ g, u = .slice (some ⟨g, 0, none⟩) 1 1 ∧ W.cell? ⟨g, 0, none⟩ = some (.int .u8 b)
theorem Bt1.mono {b : Int} (u : Value) (w w' : World) (h : Bt1 b u w) (hg : Gw w w') : Bt1 b u w' := by
  obtain ⟨g, e, hc⟩ := h
  exact ⟨g, e, (Below.cell hg (p := ⟨g, 0, none⟩) (World.block_lt_of_cell? w _ hc)).trans hc⟩
theorem Bt1.new (W : World) (b : Int) : Bt1 b (.slice (some ⟨W.heap.size, 0, none⟩) 1 1) (W.alloc (.cells #[.int .u8 b] 5)) := ⟨_, rfl, by simp⟩
/-- the package variable that strings.Repeat and strings.Builder look at: whatever it holds -/
def Ml (w : World) : Prop := ∃ m : Int, w.cell? ⟨2, 0, none⟩ = some (.int .i64 m)
theorem Ml.below {w W : World} (h : Ml w) (hb : Below w.heap.size w W) : Ml W := by
  obtain ⟨m, hm⟩ := h
  exact ⟨m, (Below.cell hb (p := ⟨2, 0, none⟩) (World.block_lt_of_cell? w _ hm)).trans hm⟩
theorem putT_str (s : ByteArray) (w : World) (hm : Ml w) (hs : s.size ≤ 1024) :
    Calls Tryd.prog 21 #[.string s] w fun e w' => e = .returned (.tuple #[.string ⟨(Nm.putT s.data.toList).toArray⟩, .int .i64 0]) ∧ Below w.heap.size w w' := by
  obtain ⟨m, hm⟩ := hm
  exact rputT_any s m w hm hs
/-- rows up to place k -/
theorem rowsT_more (l : List Nod) (k : Nat) (h : k < l.length) : Td.rowsT (nds (l.take (k + 1))) = Td.rowsT (nds (l.take k)) ++ Td.rowT l[k].nd := by
  rw [List.take_succ_eq_append_getElem h]
  simp only [nds, Td.rowsT, List.map_append, List.map_cons, List.map_nil, List.flatten_append, List.flatten_cons, List.flatten_nil, List.append_nil]
theorem eight_of {t : List UInt8} (h : t.length = 8) : ∃ b0 b1 b2 b3 b4 b5 b6 b7, t = [b0, b1, b2, b3, b4, b5, b6, b7] := by
  match t, h with
  | [b0, b1, b2, b3, b4, b5, b6, b7], _ => exact ⟨b0, b1, b2, b3, b4, b5, b6, b7, rfl⟩
theorem str8_of (W : World) (G c : Nat) (t : List UInt8) (h : ∀ j (hj : j < t.length), W.cell? ⟨G, j, none⟩ = some (B t[j])) :
    (convert 41 9 (.slice (some ⟨G, 0, none⟩) t.length c)).run Tryd.prog W = .ok (.string ⟨t.toArray⟩) W := by
  refine run_convert_bytes_back W 41 9 5 ⟨G, 0, none⟩ c t (by kernel_rfl) (by kernel_rfl) (by kernel_rfl) ?_
  intro j hj
  rw [show ((⟨G, 0, none⟩ : Addr).add j) = ⟨G, j, none⟩ from by unfold Addr.add; split <;> simp_all]
  exact h j hj

set_option maxHeartbeats 8000000 in
set_option maxRecDepth 10000 in
theorem rwrite_any (v : Value) (l : List Nod) (w : World) (h : Nds w v l) (hl : l.length ≤ 9223372036854775807) (hs : ∀ n ∈ l, n.name.size ≤ 4194304) (hM : Ml w) :
    Calls Tryd.prog 9 #[v] w fun e w' => e = .returned (.tuple #[.string ⟨(Td.write (nds l)).1.toArray⟩, .int .i64 (Td.write (nds l)).2]) ∧ Below w.heap.size w w' := by
  obtain ⟨a, c, rfl⟩ := h.slice
  have hno := rnodes_any _ l w h hl hs
  have HX : Hid (Nds w (.slice a l.length c) l) := h
  have HM : Hid (Ml w) := hM
  have HZ : Hid (Td.write (nds l) = if Td.check (nds l) ≠ 0 then ([], Td.check (nds l)) else if 4096 < (Td.textB (nds l)).length then ([], 2) else (Td.textB (nds l), 0)) := rfl
  have HC : Hid (Td.check (nds l) = 0 → l.length ≤ 64 ∧ ∀ n ∈ l, Td.nErr n.nd = 0) := fun q => by
    obtain ⟨c1, c2⟩ := Td.check_ok q
    rw [nds_length] at c1
    exact ⟨c1, fun n hn => c2 _ (List.mem_map_of_mem hn)⟩
  have HTx : Hid (Td.textB (nds l) = Nm.put l.length ++ Td.rowsT (nds l)) := by show _ = _; rw [Td.textB, nds_length]
  generalize Td.write (nds l) = Z at *
  generalize Td.check (nds l) = E at *
  generalize Td.textB (nds l) = TX at *
  obtain ⟨N, hN⟩ : ∃ N, N = l.length := ⟨_, rfl⟩
  have HN : Hid (N = l.length) := hN
  rw [← hN] at HX HC HTx hl hno ⊢
  clear h hs hM hN
  go_enter Tryd.func9, Tryd.ntmps9
  go_wp2_with fail
  refine hno.mono ?_
  rintro e w1 ⟨rfl, b1⟩
  have HB1 : Hid (Below w.heap.size w w1) := b1
  clear hno b1
  by_cases hE : E ≠ 0
  · have hqn : (E != 0) = true := by rw [bne_iff_ne]; exact hE
    have HR : Hid (Z = ([], E)) := by
      have := HZ.out
      rwa [if_pos hE] at this
    clear HZ HC HTx
    go_wp2_with fail
    go_ret2
    exact ⟨by rw [HR.out]; rfl, HB1.out⟩
  obtain rfl := Decidable.not_not.mp hE
  clear hE
  obtain ⟨h64, hok⟩ := HC.out rfl
  have HOk : Hid (∀ n ∈ l, Td.nErr n.nd = 0) := hok
  have HZ1 : Hid (Z = if 4096 < TX.length then ([], 2) else (TX, 0)) := by
    have := HZ.out
    rwa [if_neg (by simp)] at this
  have hwn : IntKind.u64.wrap (N : Int) = (N : Int) := wrap_u64 _ (by omega) (by omega)
  have hpn := rput_any (N : Int) w1 (by omega) (by omega)
  simp only [Int.toNat_natCast] at hpn
  obtain ⟨P0, hP0⟩ : ∃ P0, P0 = Nm.put N := ⟨_, rfl⟩
  have HP9 : Hid (P0.length ≤ 9) := by show _ ≤ _; rw [hP0]; exact Nm.put_length _
  rw [← hP0] at hpn HTx
  clear hok HC HZ hP0
  go_wp2_with fail
  refine hpn.mono ?_
  rintro e w2 ⟨rfl, b2⟩
  have HB2 : Hid (Below w.heap.size w w2) := HB1.out.trans (b2.mono HB1.out.size)
  clear hpn b2 HB1 hwn
  go_wp2_with fail
  go_loopw [5, 25] (fun x i wr => ∃ (k : Nat) (L : List UInt8), k ≤ N ∧ i = .int .i64 k ∧ x = .string ⟨L.toArray⟩ ∧ L.length ≤ 9 + 4800 * k ∧ Hid (P0 ++ Td.rowsT (nds (l.take k)) = L) ∧ Hid (Below w.heap.size w wr)) (fun _ i _ => N - (intOf i).toNat)
  case atStart => exact ⟨0, P0, by omega, rfl, rfl, by have := HP9.out; omega, List.append_nil _, HB2⟩
  case round =>
    clear HB2
    obtain ⟨k, L, hk, rfl, rfl, hLl, HL, HB⟩ := hrel
    by_cases hlt : k < N
    · have hkl : k < l.length := by rw [← HN.out]; exact hlt
      obtain ⟨bk, o, cs, rfl, hbk, hcl, ⟨v, rfl, hPs, hnk⟩, hcell⟩ := (HX.out.below HB.out).get k l[k] (List.getElem?_eq_getElem hkl)
      have HRw : Hid (Td.rowsT (nds (l.take (k + 1))) = Td.rowsT (nds (l.take k)) ++ Td.rowT l[k].nd) := rowsT_more l k hkl
      obtain ⟨q0, q1, q2, q3, q4, q5, q6, q7, q8⟩ := Td.nErr_ok (HOk.out _ (List.getElem_mem hkl))
      have q9 := Nn.nm_long q0
      obtain ⟨av, cv, rfl, _⟩ := hPs.slice
      have HPs : Hid (Rx 8 idC wr (.slice av l[k].parts.length cv) l[k].parts ∧ ∀ p ∈ l[k].parts, p.length = 8) := ⟨hPs, hnk.ids⟩
      have htm := hnk.time
      have c0 : wr.cell? ⟨bk, o + k * 7, none⟩ = some (.string l[k].name) := hcell 0 _ rfl
      have c1 := hcell 1 _ rfl
      have c2 := hcell 2 _ rfl
      have c3 := hcell 3 _ rfl
      have c4 := hcell 4 _ rfl
      have c5 := hcell 5 _ rfl
      have c6 := hcell 6 _ rfl
      generalize l[k] = n at *
      obtain ⟨name, kind, mode, time, size, parts, link⟩ := n
      dsimp only [Nod.nd] at *
      obtain ⟨kd, rfl⟩ := Int.eq_ofNat_of_zero_le (a := kind) (by omega)
      obtain ⟨md, rfl⟩ := Int.eq_ofNat_of_zero_le q1
      obtain ⟨sz, rfl⟩ := Int.eq_ofNat_of_zero_le q3
      obtain ⟨np, hnp⟩ : ∃ np, np = parts.length := ⟨_, rfl⟩
      have HNp : Hid (np = parts.length) := hnp
      rw [← hnp] at HPs q5 c5
      simp [Lit.wf, IntKind.min, IntKind.max, IntKind.signed, IntKind.bits] at htm
      have hns : name.size ≤ 1024 := by rw [Lib.size_eq]; omega
      have hls : link.size ≤ 1024 := by rw [Lib.size_eq]; exact q8
      have HRow : Hid (Td.rowT ⟨name.data.toList, (kd : Nat), (md : Nat), time, (sz : Nat), parts, link.data.toList⟩ = ((Nm.putT name.data.toList ++ [UInt8.ofNat kd] ++ Nm.put md ++ Nm.putI time ++ Nm.put sz ++ Nm.put np) ++ parts.flatten) ++ Nm.putT link.data.toList) := by
        show _ = _
        rw [hnp]
        simp [Td.rowT]
      obtain ⟨W1, hW1⟩ : ∃ W1, W1 = wr.alloc (.cells #[.string name, .int .i64 (kd : Nat), .int .i64 (md : Nat), .int .i64 time, .int .i64 (sz : Nat), .slice av np cv, .string link] 32) := ⟨_, rfl⟩
      have hB1 : Below wr.heap.size wr W1 := by rw [hW1]; exact (Below.refl _ wr).alloc (Nat.le_refl _) _
      have HBB : Hid (Below wr.heap.size wr W1) := hB1
      have HM1 : Hid (W1.heap[wr.heap.size]? = some (.cells #[.string name, .int .i64 (kd : Nat), .int .i64 (md : Nat), .int .i64 time, .int .i64 (sz : Nat), .slice av np cv, .string link] 32 (0, 0))) := by rw [hW1]; exact heap_alloc_new wr _
      have HB1 : Hid (Below w.heap.size w W1) := HB.out.trans (hB1.mono HB.out.size)
      clear hcell hPs hnk hcl hB1 hnp q0 q6
      go_upto_region 8 with fail
      rw [← hW1]
      obtain ⟨b7, hb7⟩ : ∃ b7, b7 = wr.heap.size := ⟨_, rfl⟩
      rw [← hb7] at HM1 ⊢
      have HLt : Hid (b7 < W1.heap.size) := (Array.getElem?_eq_some_iff.1 HM1.out).1
      obtain ⟨m0, m1, m2, m3, m4, m5, m6⟩ := seven_at HM1.out
      clear hW1 c0 c1 c2 c3 c4 c5 c6 hb7 m1 m2 m3 m4 m5 m6
      have hp1 := putT_str name W1 (HM.out.below HB1.out) hns
      have ht1 := Nm.putT_length name.data.toList
      have hp2 := fun W (hW : Below w.heap.size w W) => putT_str link W (HM.out.below hW) hls
      have ht6 := Nm.putT_length link.data.toList
      have hl0 : link.data.toList.length ≤ 1024 := q8
      have hput2 := fun W => rput_any (md : Nat) W (by omega) (by omega)
      have hput3 := fun W => rputI_any time W htm.1 htm.2
      have hput4 := fun W => rput_any (sz : Nat) W (by omega) (by omega)
      have hput5 := fun W => rput_any (np : Nat) W (by omega) (by omega)
      simp only [Int.toNat_natCast] at hput2 hput4 hput5
      have ht2 := Nm.put_length md
      have ht3 := Nm.putI_length time
      have ht4 := Nm.put_length sz
      have ht5 := Nm.put_length np
      generalize Nm.putT name.data.toList = T1 at *
      generalize Nm.putT link.data.toList = T6 at *
      have hT6 : T6.length ≤ 2050 := by omega
      generalize Nm.put md = T2 at *
      generalize Nm.putI time = T3 at *
      generalize Nm.put sz = T4 at *
      generalize Nm.put np = T5 at *
      go_wp2_with fail
      refine hp1.mono ?_
      rintro e w3 ⟨rfl, b3⟩
      have HB3 : Hid (Below W1.heap.size W1 w3) := b3
      have HB3w : Hid (Below w.heap.size w w3) := HB1.out.trans (b3.mono HB1.out.size)
      obtain ⟨m0, m1, m2, m3, m4, m5, m6⟩ := seven_at ((b3.block _ HLt.out).trans HM1.out)
      clear hp1 b3 m1 m2 m3 m4 m5
      have hp3 := hp2 w3 HB3w.out
      clear hp2 m0
      go_wp2_with fail
      refine hp3.mono ?_
      rintro e w4 ⟨rfl, b4⟩
      have HB4 : Hid (Below W1.heap.size W1 w4) := HB3.out.trans (b4.mono HB3.out.size)
      have HB4w : Hid (Below w.heap.size w w4) := HB3w.out.trans (b4.mono HB3w.out.size)
      clear hp3 b4 m6 HB3 HB3w
      have hc1 : ∀ W : World, (Op.stringOp .add ⟨T1.toArray⟩ ⟨#[UInt8.ofNat kd]⟩).run Tryd.prog W = .ok (.string ⟨(T1 ++ [UInt8.ofNat kd]).toArray⟩) W := fun W => run_string_add_lists W T1 [UInt8.ofNat kd] (by omega) (by simp)
      have hk1 : (T1 ++ [UInt8.ofNat kd]).length ≤ 195 := by rw [List.length_append, List.length_singleton]; omega
      generalize T1 ++ [UInt8.ofNat kd] = K1 at *
      have hc2 : ∀ W : World, (Op.stringOp .add ⟨K1.toArray⟩ ⟨T2.toArray⟩).run Tryd.prog W = .ok (.string ⟨(K1 ++ T2).toArray⟩) W := fun W => run_string_add_lists W _ _ (by omega) (by omega)
      have hk2 : (K1 ++ T2).length ≤ 204 := by rw [List.length_append]; omega
      generalize K1 ++ T2 = K2 at *
      have hc3 : ∀ W : World, (Op.stringOp .add ⟨K2.toArray⟩ ⟨T3.toArray⟩).run Tryd.prog W = .ok (.string ⟨(K2 ++ T3).toArray⟩) W := fun W => run_string_add_lists W _ _ (by omega) (by omega)
      have hk3 : (K2 ++ T3).length ≤ 213 := by rw [List.length_append]; omega
      generalize K2 ++ T3 = K3 at *
      have hc4 : ∀ W : World, (Op.stringOp .add ⟨K3.toArray⟩ ⟨T4.toArray⟩).run Tryd.prog W = .ok (.string ⟨(K3 ++ T4).toArray⟩) W := fun W => run_string_add_lists W _ _ (by omega) (by omega)
      have hk4 : (K3 ++ T4).length ≤ 222 := by rw [List.length_append]; omega
      generalize K3 ++ T4 = K4 at *
      have hc5 : ∀ W : World, (Op.stringOp .add ⟨K4.toArray⟩ ⟨T5.toArray⟩).run Tryd.prog W = .ok (.string ⟨(K4 ++ T5).toArray⟩) W := fun W => run_string_add_lists W _ _ (by omega) (by omega)
      have hk5 : (K4 ++ T5).length ≤ 231 := by rw [List.length_append]; omega
      generalize K4 ++ T5 = K5 at *
      have hc6 : ∀ W : World, (Op.stringOp .add ⟨L.toArray⟩ ⟨K5.toArray⟩).run Tryd.prog W = .ok (.string ⟨(L ++ K5).toArray⟩) W := fun W => run_string_add_lists W _ _ (by omega) (by omega)
      obtain ⟨K6, hK6⟩ : ∃ K6, K6 = L ++ K5 := ⟨_, rfl⟩
      have HK6 : Hid (K6 = L ++ K5) := hK6
      have hk6 : K6.length ≤ 240 + 4800 * k := by rw [hK6, List.length_append]; omega
      rw [← hK6] at hc6
      clear hK6
      have hwk : IntKind.u8.wrap (kd : Int) = (kd : Int) := by simp only [IntKind.wrap, IntKind.bits, IntKind.signed]; simp; omega
      have hwm : IntKind.u64.wrap (md : Int) = (md : Int) := wrap_u64 _ (by omega) (by omega)
      have hwz : IntKind.u64.wrap (sz : Int) = (sz : Int) := wrap_u64 _ (by omega) (by omega)
      have hwp : IntKind.u64.wrap (np : Int) = (np : Int) := wrap_u64 _ (by omega) (by omega)
      have HCl : Hid (∀ W, Gw w4 W → W.heap[b7]? = some (.cells #[.string name, .int .i64 (kd : Nat), .int .i64 (md : Nat), .int .i64 time, .int .i64 (sz : Nat), .slice av np cv, .string link] 32 (0, 0))) := fun W hW => by
        have hb : Below W1.heap.size W1 W := HB4.out.trans (Below.mono hW HB4.out.size)
        exact (hb.block _ HLt.out).trans HM1.out
      have H1 : Hid (∀ W, Gw w4 W → W.cell? ⟨b7, 1, none⟩ = some (.int .i64 (kd : Nat))) := fun W hW => (seven_at (HCl.out W hW)).2.1
      have H2 : Hid (∀ W, Gw w4 W → W.cell? ⟨b7, 2, none⟩ = some (.int .i64 (md : Nat))) := fun W hW => (seven_at (HCl.out W hW)).2.2.1
      have H3 : Hid (∀ W, Gw w4 W → W.cell? ⟨b7, 3, none⟩ = some (.int .i64 time)) := fun W hW => (seven_at (HCl.out W hW)).2.2.2.1
      have H4 : Hid (∀ W, Gw w4 W → W.cell? ⟨b7, 4, none⟩ = some (.int .i64 (sz : Nat))) := fun W hW => (seven_at (HCl.out W hW)).2.2.2.2.1
      have H5 : Hid (∀ W, Gw w4 W → W.cell? ⟨b7, 5, none⟩ = some (.slice av np cv)) := fun W hW => (seven_at (HCl.out W hW)).2.2.2.2.2.1
      have HPq : Hid (∀ W, Gw w4 W → Rx 8 idC W (.slice av np cv) parts) := fun W hW => by
        have hb : Below W1.heap.size W1 W := HB4.out.trans (Below.mono hW HB4.out.size)
        exact HPs.out.1.below (HBB.out.trans (hb.mono HBB.out.size))
      have hkd : (kd : Nat) ≤ 3 := by omega
      clear ht1 ht2 ht3 ht4 ht5 hl0 htm hns hls q1 q2 q3 q4 q7 q8 q9 hk1 hk2 hk3 hk4 HM1 HBB HLt HB1 HB4
      go_wp2_with fail
      refine wp_region_rel_tail (G := Gw) (W0 := w4) 29 5 Gw.refl Gw.trans (by kernel_rfl) (by decide) (by kernel_rfl) (by kernel_rfl) (.inr (by kernel_rfl)) (Below.refl _ w4).drew ?_
      refine .inl ⟨.string ⟨(L).toArray⟩, fun v W hW hd => step_run rfl _ W (by clear hd; go_simp) rfl (Gw.refl _), ?_⟩
      simp only [Act.put, List.setIfInBounds_toArray, List.set_cons_zero, List.set_cons_succ]
      refine .inl ⟨.string ⟨(T1).toArray⟩, fun v W hW hd => step_run rfl _ W (by clear hd; go_simp) rfl (Gw.refl _), ?_⟩
      simp only [Act.put, List.setIfInBounds_toArray, List.set_cons_zero, List.set_cons_succ]
      refine .inl ⟨.pointer (some ⟨b7, 1, none⟩), fun v W hW hd => step_run rfl _ W (by clear hd; go_simp) rfl (Gw.refl _), ?_⟩
      simp only [Act.put, List.setIfInBounds_toArray, List.set_cons_zero, List.set_cons_succ]
      refine .inl ⟨.int .i64 (kd : Nat), fun v W hW hd => step_run rfl _ W (by clear hd; have ce := H1.out W hW; go_simp) rfl (Gw.refl _), ?_⟩
      simp only [Act.put, List.setIfInBounds_toArray, List.set_cons_zero, List.set_cons_succ]
      refine .inl ⟨.int .u8 (kd : Nat), fun v W hW hd => step_run rfl _ W (by clear hd; have he := hwk; go_simp) rfl (Gw.refl _), ?_⟩
      simp only [Act.put, List.setIfInBounds_toArray, List.set_cons_zero, List.set_cons_succ]
      refine .inr ⟨Bt1 (kd : Nat), Bt1.mono, fun v W hW hd => step_run rfl _ (W.alloc (.cells #[.int .u8 ((kd : Nat) : Int)] 5)) (by clear hd; go_simp) (Bt1.new W _) ((Below.refl _ W).alloc (Nat.le_refl _) _), ?_⟩
      simp only [Act.put, List.setIfInBounds_toArray, List.set_cons_zero, List.set_cons_succ]
      refine .inl ⟨.string ⟨#[UInt8.ofNat kd]⟩, fun v W hW hd => ?_, ?_⟩
      · obtain ⟨g, hg1, hg2⟩ : Bt1 (kd : Nat) (v 5) W := hd 5 (by kernel_rfl)
        clear hd
        exact step_run rfl _ W (by have he := run_str1 W ⟨g, 0, none⟩ (kd : Nat) hg2 (by omega) (by omega) rfl; simp only [Int.toNat_natCast] at he; go_simp) rfl (Gw.refl _)
      simp only [Act.put, List.setIfInBounds_toArray, List.set_cons_zero, List.set_cons_succ]
      refine .inl ⟨.string ⟨(K1).toArray⟩, fun v W hW hd => step_run rfl _ W (by clear hd; have he := hc1; go_simp) rfl (Gw.refl _), ?_⟩
      simp only [Act.put, List.setIfInBounds_toArray, List.set_cons_zero, List.set_cons_succ]
      refine .inl ⟨.pointer (some ⟨b7, 2, none⟩), fun v W hW hd => step_run rfl _ W (by clear hd; go_simp) rfl (Gw.refl _), ?_⟩
      simp only [Act.put, List.setIfInBounds_toArray, List.set_cons_zero, List.set_cons_succ]
      refine .inl ⟨.int .i64 (md : Nat), fun v W hW hd => step_run rfl _ W (by clear hd; have ce := H2.out W hW; go_simp) rfl (Gw.refl _), ?_⟩
      simp only [Act.put, List.setIfInBounds_toArray, List.set_cons_zero, List.set_cons_succ]
      refine .inl ⟨.int .u64 (md : Nat), fun v W hW hd => step_run rfl _ W (by clear hd; have he := hwm; go_simp) rfl (Gw.refl _), ?_⟩
      simp only [Act.put, List.setIfInBounds_toArray, List.set_cons_zero, List.set_cons_succ]
      refine .inl ⟨.string ⟨(T2).toArray⟩, fun v W hW hd => step_call rfl 20 #[.int .u64 (md : Nat)] (by clear hd; go_simp) ((hput2 W).mono fun e w' h => ⟨_, h.1, rfl, h.2⟩), ?_⟩
      simp only [Act.put, List.setIfInBounds_toArray, List.set_cons_zero, List.set_cons_succ]
      refine .inl ⟨.string ⟨(K2).toArray⟩, fun v W hW hd => step_run rfl _ W (by clear hd; have he := hc2; go_simp) rfl (Gw.refl _), ?_⟩
      simp only [Act.put, List.setIfInBounds_toArray, List.set_cons_zero, List.set_cons_succ]
      refine .inl ⟨.pointer (some ⟨b7, 3, none⟩), fun v W hW hd => step_run rfl _ W (by clear hd; go_simp) rfl (Gw.refl _), ?_⟩
      simp only [Act.put, List.setIfInBounds_toArray, List.set_cons_zero, List.set_cons_succ]
      refine .inl ⟨.int .i64 time, fun v W hW hd => step_run rfl _ W (by clear hd; have ce := H3.out W hW; go_simp) rfl (Gw.refl _), ?_⟩
      simp only [Act.put, List.setIfInBounds_toArray, List.set_cons_zero, List.set_cons_succ]
      refine .inl ⟨.string ⟨(T3).toArray⟩, fun v W hW hd => step_call rfl 22 #[.int .i64 time] (by clear hd; go_simp) ((hput3 W).mono fun e w' h => ⟨_, h.1, rfl, h.2⟩), ?_⟩
      simp only [Act.put, List.setIfInBounds_toArray, List.set_cons_zero, List.set_cons_succ]
      refine .inl ⟨.string ⟨(K3).toArray⟩, fun v W hW hd => step_run rfl _ W (by clear hd; have he := hc3; go_simp) rfl (Gw.refl _), ?_⟩
      simp only [Act.put, List.setIfInBounds_toArray, List.set_cons_zero, List.set_cons_succ]
      refine .inl ⟨.pointer (some ⟨b7, 4, none⟩), fun v W hW hd => step_run rfl _ W (by clear hd; go_simp) rfl (Gw.refl _), ?_⟩
      simp only [Act.put, List.setIfInBounds_toArray, List.set_cons_zero, List.set_cons_succ]
      refine .inl ⟨.int .i64 (sz : Nat), fun v W hW hd => step_run rfl _ W (by clear hd; have ce := H4.out W hW; go_simp) rfl (Gw.refl _), ?_⟩
      simp only [Act.put, List.setIfInBounds_toArray, List.set_cons_zero, List.set_cons_succ]
      refine .inl ⟨.int .u64 (sz : Nat), fun v W hW hd => step_run rfl _ W (by clear hd; have he := hwz; go_simp) rfl (Gw.refl _), ?_⟩
      simp only [Act.put, List.setIfInBounds_toArray, List.set_cons_zero, List.set_cons_succ]
      refine .inl ⟨.string ⟨(T4).toArray⟩, fun v W hW hd => step_call rfl 20 #[.int .u64 (sz : Nat)] (by clear hd; go_simp) ((hput4 W).mono fun e w' h => ⟨_, h.1, rfl, h.2⟩), ?_⟩
      simp only [Act.put, List.setIfInBounds_toArray, List.set_cons_zero, List.set_cons_succ]
      refine .inl ⟨.string ⟨(K4).toArray⟩, fun v W hW hd => step_run rfl _ W (by clear hd; have he := hc4; go_simp) rfl (Gw.refl _), ?_⟩
      simp only [Act.put, List.setIfInBounds_toArray, List.set_cons_zero, List.set_cons_succ]
      refine .inl ⟨.pointer (some ⟨b7, 5, none⟩), fun v W hW hd => step_run rfl _ W (by clear hd; go_simp) rfl (Gw.refl _), ?_⟩
      simp only [Act.put, List.setIfInBounds_toArray, List.set_cons_zero, List.set_cons_succ]
      refine .inl ⟨.slice av np cv, fun v W hW hd => step_run rfl _ W (by clear hd; have ce := H5.out W hW; go_simp) rfl (Gw.refl _), ?_⟩
      simp only [Act.put, List.setIfInBounds_toArray, List.set_cons_zero, List.set_cons_succ]
      refine .inl ⟨.int .i64 (np : Nat), fun v W hW hd => step_run rfl _ W (by clear hd; go_simp) rfl (Gw.refl _), ?_⟩
      simp only [Act.put, List.setIfInBounds_toArray, List.set_cons_zero, List.set_cons_succ]
      refine .inl ⟨.int .u64 (np : Nat), fun v W hW hd => step_run rfl _ W (by clear hd; have he := hwp; go_simp) rfl (Gw.refl _), ?_⟩
      simp only [Act.put, List.setIfInBounds_toArray, List.set_cons_zero, List.set_cons_succ]
      refine .inl ⟨.string ⟨(T5).toArray⟩, fun v W hW hd => step_call rfl 20 #[.int .u64 (np : Nat)] (by clear hd; go_simp) ((hput5 W).mono fun e w' h => ⟨_, h.1, rfl, h.2⟩), ?_⟩
      simp only [Act.put, List.setIfInBounds_toArray, List.set_cons_zero, List.set_cons_succ]
      refine .inl ⟨.string ⟨(K5).toArray⟩, fun v W hW hd => step_run rfl _ W (by clear hd; have he := hc5; go_simp) rfl (Gw.refl _), ?_⟩
      simp only [Act.put, List.setIfInBounds_toArray, List.set_cons_zero, List.set_cons_succ]
      refine .inl ⟨.string ⟨(K6).toArray⟩, fun v W hW hd => step_run rfl _ W (by clear hd; have he := hc6; go_simp) rfl (Gw.refl _), ?_⟩
      simp only [Act.put, List.setIfInBounds_toArray, List.set_cons_zero, List.set_cons_succ]
      intro v W hW hV
      clear hV
      have HB5 : Hid (Below w.heap.size w W) := HB4w.out.trans (Below.mono hW HB4w.out.size)
      have HR5 : Hid (Rx 8 idC W (.slice av np cv) parts) := HPq.out W hW
      have h5 := H5.out W hW
      have HLt5 : Hid (b7 < W.heap.size) := World.block_lt_of_cell? W _ h5
      refine wpAny_ready (rs := [29]) (by kernel_rfl) (by simp) ?_
      refine AllReady.cons rfl (fun K hK => ?_) AllReady.nil
      rw [if_pos (by rfl)]
      go_simp
      refine hK _ _ ?_
      clear hK K hc1 hc2 hc3 hc4 hc5 hc6 hput2 hput3 hput4 hput5 H1 H2 H3 H4 H5 HCl HPq hwk hwm hwz hwp
      refine wpAny_done (by kernel_rfl) ?_ _
      go_wp2_with fail
      go_loopw [5, 73] (fun x i wr => ∃ (j : Nat) (M : List UInt8), j ≤ np ∧ i = .int .i64 j ∧ x = .string ⟨M.toArray⟩ ∧ M.length ≤ 240 + 4800 * k + 8 * j ∧ Hid (K6 ++ (parts.take j).flatten = M) ∧ Hid (Below W.heap.size W wr)) (fun _ i _ => np - (intOf i).toNat)
      case atStart => exact ⟨0, K6, by omega, rfl, rfl, by omega, List.append_nil _, Below.refl _ _⟩
      case round =>
        clear h5
        obtain ⟨j, M, hj, rfl, rfl, hMl, HMj, HBq⟩ := hrel
        by_cases hjl : j < np
        · have hjp : j < parts.length := by rw [← HNp.out]; exact hjl
          obtain ⟨bi, oi, rfl, hbi, hid⟩ := (HR5.out.below HBq.out).get j parts[j] (List.getElem?_eq_getElem hjp)
          have HTk : Hid ((parts.take (j + 1)).flatten = (parts.take j).flatten ++ parts[j]) := by
            show _ = _
            rw [List.take_succ_eq_append_getElem hjp, List.flatten_append, List.flatten_cons, List.flatten_nil, List.append_nil]
          obtain ⟨b0, b1, b2, b3, b4, b5, b6, b7, ht8⟩ := eight_of (HPs.out.2 parts[j] (List.getElem_mem hjp))
          rw [ht8] at HTk hid
          have x0 : wr.cell? ⟨bi, oi + j * 8, none⟩ = some (.int .u8 (b0.toNat : Int)) := hid 0 _ rfl
          have x1 : wr.cell? ⟨bi, oi + j * 8 + 1, none⟩ = some (.int .u8 (b1.toNat : Int)) := hid 1 _ rfl
          have x2 : wr.cell? ⟨bi, oi + j * 8 + 2, none⟩ = some (.int .u8 (b2.toNat : Int)) := hid 2 _ rfl
          have x3 : wr.cell? ⟨bi, oi + j * 8 + 3, none⟩ = some (.int .u8 (b3.toNat : Int)) := hid 3 _ rfl
          have x4 : wr.cell? ⟨bi, oi + j * 8 + 4, none⟩ = some (.int .u8 (b4.toNat : Int)) := hid 4 _ rfl
          have x5 : wr.cell? ⟨bi, oi + j * 8 + 5, none⟩ = some (.int .u8 (b5.toNat : Int)) := hid 5 _ rfl
          have x6 : wr.cell? ⟨bi, oi + j * 8 + 6, none⟩ = some (.int .u8 (b6.toNat : Int)) := hid 6 _ rfl
          have x7 : wr.cell? ⟨bi, oi + j * 8 + 7, none⟩ = some (.int .u8 (b7.toNat : Int)) := hid 7 _ rfl
          obtain ⟨W2, hW2⟩ : ∃ W2, W2 = wr.alloc (.cells #[.int .u8 (b0.toNat : Int), .int .u8 (b1.toNat : Int), .int .u8 (b2.toNat : Int), .int .u8 (b3.toNat : Int), .int .u8 (b4.toNat : Int), .int .u8 (b5.toNat : Int), .int .u8 (b6.toNat : Int), .int .u8 (b7.toNat : Int)] 49) := ⟨_, rfl⟩
          have HB2 : Hid (Below W.heap.size W W2) := by rw [hW2]; exact HBq.out.alloc HBq.out.size _
          have HH2 : Hid (W2.heap[wr.heap.size]? = some (.cells #[.int .u8 (b0.toNat : Int), .int .u8 (b1.toNat : Int), .int .u8 (b2.toNat : Int), .int .u8 (b3.toNat : Int), .int .u8 (b4.toNat : Int), .int .u8 (b5.toNat : Int), .int .u8 (b6.toNat : Int), .int .u8 (b7.toNat : Int)] 49 (0, 0))) := by rw [hW2]; exact heap_alloc_new wr _
          clear hid ht8
          go_upto_region 14 with fail
          rw [← hW2]
          obtain ⟨G, hG⟩ : ∃ G, G = wr.heap.size := ⟨_, rfl⟩
          rw [← hG] at HH2 ⊢
          have he : (convert 41 9 (.slice (some ⟨G, 0, none⟩) 8 8)).run Tryd.prog W2 = .ok (.string ⟨#[b0, b1, b2, b3, b4, b5, b6, b7]⟩) W2 := str8_of W2 G 8 [b0, b1, b2, b3, b4, b5, b6, b7] (fun i hi => by
            simp only [World.cell?, HH2.out]
            match i, hi with
            | 0, _ => rfl
            | 1, _ => rfl
            | 2, _ => rfl
            | 3, _ => rfl
            | 4, _ => rfl
            | 5, _ => rfl
            | 6, _ => rfl
            | 7, _ => rfl)
          have hcat : (Op.stringOp .add ⟨M.toArray⟩ ⟨#[b0, b1, b2, b3, b4, b5, b6, b7]⟩).run Tryd.prog W2 = .ok (.string ⟨(M ++ [b0, b1, b2, b3, b4, b5, b6, b7]).toArray⟩) W2 := run_string_add_lists W2 M [b0, b1, b2, b3, b4, b5, b6, b7] (by omega) (by simp)
          have HM2 : Hid (K6 ++ (parts.take (j + 1)).flatten = M ++ [b0, b1, b2, b3, b4, b5, b6, b7]) := by show _ = _; rw [HTk.out, ← List.append_assoc, HMj.out]
          have hM2 : (M ++ [b0, b1, b2, b3, b4, b5, b6, b7]).length ≤ 240 + 4800 * k + 8 * (j + 1) := by rw [List.length_append]; simp; omega
          generalize M ++ [b0, b1, b2, b3, b4, b5, b6, b7] = M2 at *
          clear hW2 hG x0 x1 x2 x3 x4 x5 x6 x7 HTk HH2 hbi
          go_wp2_with fail
          go_roundw
          case measure => simp only [intOf]; omega
          case rel => exact ⟨j + 1, M2, by omega, by go_num, rfl, hM2, HM2, HB2⟩
        · obtain rfl : j = np := by omega
          have HPf : Hid (K6 ++ parts.flatten = M) := by
            have := HMj.out
            rwa [List.take_of_length_le (by rw [HNp.out]; exact Nat.le_refl _)] at this
          have hcat : ∀ W, (Op.stringOp .add ⟨M.toArray⟩ ⟨T6.toArray⟩).run Tryd.prog W = .ok (.string ⟨(M ++ T6).toArray⟩) W := fun W => run_string_add_lists W M T6 (by omega) (by omega)
          have HL2 : Hid (P0 ++ Td.rowsT (nds (l.take (k + 1))) = M ++ T6) := by
            show _ = _
            rw [HRw.out, HRow.out, ← List.append_assoc, HL.out, ← List.append_assoc, ← List.append_assoc, ← HK6.out, HPf.out]
          have hL2 : (M ++ T6).length ≤ 9 + 4800 * (k + 1) := by rw [List.length_append]; omega
          have HB6 : Hid (Below w.heap.size w wr) := HB5.out.trans (HBq.out.mono HB5.out.size)
          generalize M ++ T6 = M2 at *
          clear HMj HPf
          go_wp2_with fail
          go_roundw
          case measure => simp only [intOf]; omega
          case rel => exact ⟨k + 1, M2, by omega, by go_num, rfl, hL2, HL2, HB6⟩
    · obtain rfl : k = N := by omega
      have HE : Hid (TX = L) := by
        have := HL.out
        rw [List.take_of_length_le (by rw [HN.out]; exact Nat.le_refl _)] at this
        show _ = _
        rw [HTx.out, ← this]
      clear HL
      by_cases h4 : 4096 < L.length
      · have HR : Hid (Z = ([], 2)) := by
          have := HZ1.out
          rwa [HE.out, if_pos h4] at this
        have g4 : (4096 : Int) < (L.length : Int) := by omega
        clear HZ1
        go_wp2_with fail
        go_ret2
        exact ⟨by rw [HR.out]; rfl, HB.out⟩
      · have HR : Hid (Z = (L, 0)) := by
          have := HZ1.out
          rwa [HE.out, if_neg h4] at this
        have g4 : ¬ (4096 : Int) < (L.length : Int) := by omega
        clear HZ1
        go_wp2_with fail
        go_ret2
        exact ⟨by rw [HR.out]; rfl, HB.out⟩
end Go.Proofs.YtcgecafajgoeeaaDoor

namespace Go.Proofs.YtcgecafajgoeeaaDoor
open Go.RowKit
set_option maxRecDepth 4000

set_option maxRecDepth 8000 in
set_option maxHeartbeats 2000000 in
theorem treeSays_walk (v0 : Value) (l0 : List Nod) (a1 : ByteArray) (z0 : l0.length ≤ 9223372036854775807) (y0 : ∀ n ∈ l0, n.name.size ≤ 1048576) (_ : a1.size ≤ 1048576) (w : World) (t0 : Nds w v0 l0) (hT : Tabs w) (hM : Ml w) :
    Calls Tryd.prog 3 #[v0, .string a1] w fun e w' => e = .returned (.bool true) ∧ Below w.heap.size w w' := by
  have HX : Hid (Nds w v0 l0 ∧ Tabs w ∧ Ml w) := ⟨t0, hT, hM⟩
  have hs : ∀ n ∈ l0, n.name.size ≤ 4194304 := fun n hn => by have := y0 n hn; omega
  obtain ⟨W0, hW0⟩ : ∃ W0, W0 = w.alloc (.cells #[.string a1] 9) := ⟨_, rfl⟩
  have HB0 : Hid (Below w.heap.size w W0) := by rw [hW0]; exact (Below.refl _ w).alloc (Nat.le_refl _) _
  have hcl : W0.cell? ⟨w.heap.size, 0, none⟩ = some (.string a1) := by rw [hW0]; simp
  have HCl : Hid (W0.cell? ⟨w.heap.size, 0, none⟩ = some (.string a1)) := hcl
  have h1 := rnodes_any v0 l0 W0 (t0.below HB0.out) z0 hs
  have h2 := fun W (hW : Below w.heap.size w W) => twrite_any v0 l0 W (HX.out.1.below hW) z0 (HX.out.2.1.below hW)
  have h3 := fun W (hW : Below w.heap.size w W) => rwrite_any v0 l0 W (HX.out.1.below hW) z0 hs (HX.out.2.2.below hW)
  have h4 := fun W (hW : Below w.heap.size w W) => tfind_any v0 l0 a1 W (HX.out.1.below hW) z0 (HX.out.2.1.below hW)
  have h5 := fun W (hW : Below w.heap.size w W) (hb : W.cell? ⟨w.heap.size, 0, none⟩ = some (.string a1)) => index_nodes v0 l0 w.heap.size a1 W (HX.out.1.below hW) z0 hb
  have h6 := fun W (hW : Below w.heap.size w W) => tcheck_any v0 l0 W (HX.out.1.below hW) z0 (HX.out.2.1.below hW)
  have HBad : Hid (Td.check (nds l0) ≠ 0 → Td.find (nds l0) a1.data.toList = (0, Td.check (nds l0))) := find_bad
  have HOk : Hid (Td.check (nds l0) = 0 → (ixOf (nds l0) a1.data.toList = -1 ∧ Td.find (nds l0) a1.data.toList = (0, 9)) ∨ ∃ k : Nat, ixOf (nds l0) a1.data.toList = k ∧ Td.find (nds l0) a1.data.toList = (k, 0)) := find_ok
  have hix : ixOf (nds l0) a1.data.toList ≤ 9223372036854775807 := ixOf_le _ _ (by rw [nds_length]; exact z0)
  generalize Td.check (nds l0) = E at *
  generalize (Td.write (nds l0)).1 = S at *
  generalize (Td.write (nds l0)).2 = F at *
  generalize Td.find (nds l0) a1.data.toList = FD at *
  generalize ixOf (nds l0) a1.data.toList = IX at *
  obtain ⟨a, c, rfl⟩ := t0.slice
  generalize l0.length = N at *
  obtain ⟨b, hb⟩ : ∃ b, b = w.heap.size := ⟨_, rfl⟩
  have HBq : Hid (b = w.heap.size) := hb
  rw [← hb] at hcl HCl
  clear hT hM t0 y0 hs
  go_enter Tryd.func3, Tryd.ntmps3
  go_upto_region 1 with fail
  rw [← hW0, ← hb]
  clear hW0 hb hcl
  go_wp2_with fail
  refine h1.mono ?_
  rintro e w1 ⟨rfl, b1⟩
  have HB1 : Hid (Below W0.heap.size W0 w1) := b1
  have HB1w : Hid (Below w.heap.size w w1) := HB0.out.trans (b1.mono HB0.out.size)
  have k2 := h2 w1 HB1w.out
  clear h1 b1 h2
  go_wp2_with fail
  refine k2.mono ?_
  rintro e w2 ⟨rfl, b2⟩
  have HB2 : Hid (Below W0.heap.size W0 w2) := HB1.out.trans (b2.mono HB1.out.size)
  have HB2w : Hid (Below w.heap.size w w2) := HB1w.out.trans (b2.mono HB1w.out.size)
  have k3 := h3 w2 HB2w.out
  clear k2 b2 h3
  go_wp2_with fail
  refine k3.mono ?_
  rintro e w3 ⟨rfl, b3⟩
  have HB3 : Hid (Below W0.heap.size W0 w3) := HB2.out.trans (b3.mono HB2.out.size)
  have HB3w : Hid (Below w.heap.size w w3) := HB2w.out.trans (b3.mono HB2w.out.size)
  have k4 := h4 w3 HB3w.out
  have c3 : w3.cell? ⟨b, 0, none⟩ = some (.string a1) := (Below.cell HB3.out (p := ⟨b, 0, none⟩) (World.block_lt_of_cell? W0 _ HCl.out)).trans HCl.out
  clear k3 b3 h4
  go_wp2_with fail
  refine k4.mono ?_
  rintro e w4 ⟨rfl, b4⟩
  have HB4 : Hid (Below W0.heap.size W0 w4) := HB3.out.trans (b4.mono HB3.out.size)
  have HB4w : Hid (Below w.heap.size w w4) := HB3w.out.trans (b4.mono HB3w.out.size)
  clear k4 b4 c3
  by_cases hE : E = 0
  · subst hE
    have k5 := h5 w4 HB4w.out (by rw [← HBq.out]; exact (Below.cell HB4.out (p := ⟨b, 0, none⟩) (World.block_lt_of_cell? W0 _ HCl.out)).trans HCl.out)
    rw [← HBq.out] at k5
    clear h5
    go_wp2_with fail
    refine k5.mono ?_
    rintro e w5 ⟨rfl, b5⟩
    have HB5w : Hid (Below w.heap.size w w5) := HB4w.out.trans (b5.mono HB4w.out.size)
    have k6 := h6 w5 HB5w.out
    clear k5 b5 h6
    rcases HOk.out (by first | rfl | trivial) with ⟨hi, hf⟩ | ⟨k, hi, hf⟩
    · subst hi
      subst hf
      clear HOk HBad
      go_wp2_with fail
      refine k6.mono ?_
      rintro e w6 ⟨rfl, b6⟩
      have HB6 : Hid (Below w.heap.size w w6) := HB5w.out.trans (b6.mono HB5w.out.size)
      clear k6 b6
      go_wp2_with fail
      go_ret
      exact ⟨by simp, HB6.out⟩
    · subst hi
      subst hf
      have hq : ¬ ((k : Int) < 0) := by omega
      clear HOk HBad
      go_wp2_with fail
      refine k6.mono ?_
      rintro e w6 ⟨rfl, b6⟩
      have HB6 : Hid (Below w.heap.size w w6) := HB5w.out.trans (b6.mono HB5w.out.size)
      clear k6 b6
      go_wp2_with fail
      go_ret
      exact ⟨by simp, HB6.out⟩
  · have hqe : (E == 0) = false := by rw [beq_eq_false_iff_ne]; exact hE
    have hf := HBad.out hE
    subst hf
    have k6 := h6 w4 HB4w.out
    clear HOk HBad h5 h6
    go_wp2_with fail
    refine k6.mono ?_
    rintro e w6 ⟨rfl, b6⟩
    have HB6 : Hid (Below w.heap.size w w6) := HB4w.out.trans (b6.mono HB4w.out.size)
    clear k6 b6
    go_wp2_with fail
    go_ret
    exact ⟨by simp, HB6.out⟩
end Go.Proofs.YtcgecafajgoeeaaDoor

namespace Go.Proofs.YtcgecafajgoeeaaDoor.treeSays
open Go.ChangeShapes Go.WideShapes Go.ChangeAt Go.RowKit
open Go.ChangeMaps (open_string shut_string)
set_option linter.unusedVariables false

theorem own : ownKnob Tryd.prog.godebug = none := by kernel_rfl

set_option maxRecDepth 100000 in
/-- what the walk gives, for every argument and every world in which the tables are as they are laid -/
theorem contract (H : Type) (enc : TypeId × Value → H) (F : Stop.Interp) (W : World) (base : Nat) (args : Array Value) (ds gs : List (DataW H)) (before : List MemPlace)
    (hval0 : ∀ (j : Nat) t v, Tryd.f3.params[j]? = some t → args[j]? = some v → Value.okWide Tryd.prog W .any base t v)
    (hW : DataW.Whole enc Tryd.prog Tryd.f3.params.toList Rows.treeSaysSpec.vars false W args.toList ds gs before)
    (hk : Rows.uptoSmall H (ds ++ gs) = true)
    (hsz0 : (DataW.weightsEach Tryd.prog (Tryd.f3.params.toList ++ Rows.treeSaysSpec.plain.varTypes Tryd.prog) (ds ++ gs)).all (· ≤ reachBytes) = true) (hT : Tabs W) (hsh : W.ShapedOpen Tryd.prog) :
    Calls Tryd.prog 3 args W fun e W' => ∃ v, e = .returned v ∧ ((Rows.OpenSpec.upto Rows.treeSaysSpec).at F).post enc Tryd.prog Tryd.f3 false true false false W args v W' := by
  have hval : ∀ (j : Nat) t v, Tryd.f3.params[j]? = some t → args[j]? = some v → Value.okWide Tryd.prog W .any base t v := hval0
  have hW' := hW
  obtain ⟨p, q, hA0, hV, rfl, hfz, hnd⟩ := hW
  have hA : DataW.TrodAll enc Tryd.prog W 0 (fun _ => true) true Tryd.f3.params.toList args.toList ds p := hA0
  have hsz : (DataW.weightsEach Tryd.prog (Tryd.f3.params.toList ++ Rows.treeSaysSpec.plain.varTypes Tryd.prog) (ds ++ gs)).all (· ≤ reachBytes) = true := hsz0
  rw [Tryd.params3] at hA hval hsz
  obtain ⟨v0, vs0, d0, ds0, p0, q0, hargs, rfl, rfl, h0, r0⟩ := trodAll_cons hA
  obtain ⟨v1, vs1, d1, ds1, p1, q1, rfl, rfl, rfl, h1, r1⟩ := trodAll_cons r0
  obtain ⟨rfl, rfl, rfl⟩ := trodAll_nil r1
  obtain rfl : args = #[v0, v1] := by cases args; simp_all
  obtain ⟨rfl, rfl⟩ := trodVars_none hV
  obtain ⟨sa0, len0, cap0, rfl⟩ := okWide_slice Tryd.underlying22 (hval 0 22 v0 rfl rfl)
  have h0k := h0
  obtain ⟨fuel0, hf0⟩ := h0
  obtain ⟨a1, rfl, rfl, rfl, w1⟩ := open_string Tryd.underlying9 (hval 1 9 v1 rfl rfl) h1
  have hlts : ∀ x ∈ p0, x.block < W.heap.size := fun x hx => Nat.lt_of_lt_of_eq (hW'.lt x (by simpa using hx)) (by simp)
  have hlt0 : ∀ x ∈ p0, x.block < W.heap.size := fun x hx => hlts x (hx)
  have hargs0 : ∀ (W' : World), Below W.heap.size W W' → DataW.Trod enc Tryd.prog W' 0 (fun b => decide (b < W.heap.size)) true 22 (.slice sa0 len0 cap0) d0 p0 :=
    fun W' hn => Below.trod (by kernel_rfl) (by kernel_rfl) (of_decide_eq_true (by kernel_rfl)) h0k hn hlt0
  obtain ⟨l0, hl0, hcp0, hcap0, hsize0⟩ := open_nds hf0 hlt0
  have z0 : l0.length ≤ 9223372036854775807 := by
    obtain ⟨a, c, e⟩ := hl0.slice
    cases e
    omega
  simp only [List.append_nil] at hk
  have hbulk := of_decide_eq_true hk
  simp only [Rows.uptoBulkAll, Rows.uptoBulk] at hbulk
  have z1 : a1.size ≤ 1048576 := by
    rw [Lib.size_eq]; omega
  have y0 : ∀ n ∈ l0, n.name.size ≤ 1048576 := by
    rcases hsize0 with h | ⟨elems, sp, h, _, hn⟩
    · rw [h]; exact fun s hs => (List.not_mem_nil hs).elim
    · have h : d0 = .slice elems sp := h
      subst h
      simp only [Rows.uptoBulk] at hbulk
      exact fun n hm => by have := bulk_nds hn n hm; omega
  have hM : Ml W := cell_of_shapedOpen_int (P := Tryd.prog) (g := 2) (t := 3) (zero := #[.int .i64 0]) (k := .i64) hsh (by decide +kernel) (by kernel_rfl) rfl (by kernel_rfl) (by kernel_rfl) (by kernel_rfl)
  clear hA0 hval0 hsz hsz0 hk hbulk
  refine (treeSays_walk _ l0 a1 z0 y0 z1 W hl0 hT hM).mono fun e W' ⟨he, bel⟩ => ?_
  subst he
  exact ⟨_, rfl, _, _, _, [], _, [], hW', trodAll_mk1 (shut_bool Tryd.underlying4 _), (trodAll_cons_mk (hargs0 _ bel) (trodAll_cons_mk (shut_string Tryd.underlying9 w1) trodAll_mk0)), rfl, bel.frame _, fun h => by cases h⟩

/-- a world in which the two tables hold what their initialisers lay -/
theorem laid_world (os : Os) : ∃ w0 : World, w0.os = os ∧
    (w0.forCall (fun _ _ => 0) ⟨#[], #[Value.slice none 0 0, .string ByteArray.empty], []⟩).variablesB Tryd.prog = true ∧
    ((w0.forCall (fun _ _ => 0) ⟨#[], #[Value.slice none 0 0, .string ByteArray.empty], []⟩).heap.toList.drop Tryd.prog.globals.size).take ((begin Tryd.prog (fun _ _ => 0) default).world.heap.size - Tryd.prog.globals.size) =
      (begin Tryd.prog (fun _ _ => 0) default).world.heap.toList.drop Tryd.prog.globals.size ∧
    Input.okWideB Tryd.prog (w0.forCall (fun _ _ => 0) ⟨#[], #[Value.slice none 0 0, .string ByteArray.empty], []⟩) 3 ⟨#[], #[Value.slice none 0 0, .string ByteArray.empty], []⟩ = true ∧
    laidMet Tryd.prog Rows.treeSaysUptoRow.laid (w0.forCall (fun _ _ => 0) ⟨#[], #[Value.slice none 0 0, .string ByteArray.empty], []⟩).memory ∧
    ∀ (H : Type) (enc : TypeId × Value → H), ∃ places, DataW.whole enc Tryd.prog (w0.forCall (fun _ _ => 0) ⟨#[], #[Value.slice none 0 0, .string ByteArray.empty], []⟩).memory Tryd.f3.params.toList Rows.treeSaysSpec.vars false #[Value.slice none 0 0, .string ByteArray.empty].toList 8 = some ([.nil, .lit (.string [])], [], places) :=
  ⟨{ World.holding Tryd.prog os ⟨#[], #[], []⟩ with
      heap := ((World.holding Tryd.prog os ⟨#[], #[], []⟩).heap.modify 0 (fun o => match o with
        | .cells _ t frozen => .cells (Go.Pinned.utf8FirstZ.map fun (n : Nat) => Value.int .u8 (n : Int)).toArray t frozen
        | o => o)).modify 1 (fun o => match o with
        | .cells _ t frozen => .cells ([128, 191, 160, 191, 128, 159, 144, 191, 128, 143, 0, 0, 0, 0, 0, 0, 0, 0, 0, 0, 0, 0, 0, 0, 0, 0, 0, 0, 0, 0, 0, 0].map fun n => Value.int .u8 n).toArray t frozen
        | o => o) }, rfl, by kernel_rfl, by kernel_rfl, by kernel_rfl, laidMet_of_run' 8 (by kernel_rfl) (by kernel_rfl), fun _ _ => ⟨[], by kernel_rfl⟩⟩

set_option maxRecDepth 100000 in
theorem lifted (os : Os) (started : os.Started) (H : Type) (enc : TypeId × Value → H) (F : Stop.Interp) :
    ReturnsInHanded {} Tryd.checked os 3 .any ((Rows.OpenSpec.upto Rows.treeSaysSpec).preRow enc Tryd.prog Tryd.f3 Rows.treeSaysUptoRow.domain false Rows.treeSaysUptoRow.laid) (((Rows.OpenSpec.upto Rows.treeSaysSpec).at F).post enc Tryd.prog Tryd.f3 false true false false) := by
  obtain ⟨w0, h1, h2, h3, h4, h5, h6⟩ := laid_world os
  obtain ⟨places, hx⟩ := h6 H enc
  refine returnsInHanded_of_row (C := Tryd.checked) (s := (Rows.OpenSpec.upto Rows.treeSaysSpec)) own started (by kernel_rfl) Tryd.func3
    (witness_row_at (enc := enc) (C := Tryd.checked) false w0 #[Value.slice none 0 0, .string ByteArray.empty] h1 h2 h3 h4
      (OpenSpec.preRow_of_cond 8 hx (by kernel_rfl) (fun k hk => by cases hk; rfl) (by kernel_rfl) h5)) ?_
  intro W base args ds gs before hval hW _ hk hsz hL hsh _
  exact contract H enc F W base args ds gs before hval hW (hk _ rfl) hsz (tabs_of hL) hsh

theorem said : Rows.treeSaysUptoRow.holds Tryd.pinned (Rows.OpenSpec.upto Rows.treeSaysSpec) :=
  OpenClaim.holds_of_cond 3 Tryd.f3 rfl rfl rfl rfl rfl rfl rfl ⟨rfl, rfl, rfl, rfl, rfl⟩ rfl rfl rfl rfl rfl (by kernel_rfl) Tryd.func3 (by kernel_rfl)
    (of_decide_eq_true (by kernel_rfl)) (by unfold Func.isWrapper; first | (rw [if_pos (by decide +kernel)]; kernel_rfl) | (rw [if_neg (by decide +kernel)]; exact ⟨rfl, rfl⟩))
    (fun os started H enc _ F => by rw [OpenClaim.pre_eq_preRow]; exact lifted os started H enc F)

theorem plain (f : FuncId) (fn : Func) (hf : Tryd.pinned.checked.prog.funcNamed Rows.treeSaysUptoRow.func = some f) (hfn : Tryd.pinned.checked.prog.funcs[f]? = some fn) :
    false = Tryd.pinned.checked.prog.looks [] ∧ ∀ (j : Nat) t, fn.params[j]? = some t → Tryd.pinned.checked.prog.wantsStandIn t = false := by
  obtain rfl : f = 3 := Option.some.inj ((show Tryd.prog.funcNamed Rows.treeSaysUptoRow.func = some 3 by kernel_rfl).symm.trans hf) |>.symm
  obtain rfl : fn = Tryd.f3 := (Option.some.inj (Tryd.func3.symm.trans hfn)).symm
  refine ⟨by kernel_rfl, fun j t ht => ?_⟩
  rw [Tryd.params3] at ht
  have hm : t ∈ ([22, 9] : List TypeId) := Array.mem_def.1 (Array.mem_of_getElem? ht)
  exact (show ∀ t ∈ ([22, 9] : List TypeId), Tryd.prog.wantsStandIn t = false by decide +kernel) t hm
end Go.Proofs.YtcgecafajgoeeaaDoor.treeSays

namespace Go.Proofs.YtcgecafajgoeeaaDoor
theorem treeSays_card : Rows.TreeSaysUptoCardSaid :=
  Claim7.holds_tied_plain_at .later [] _ _ _ _ treeSays.said (fun _ h => by cases h) (by kernel_rfl) (fun _ h => by cases h) treeSaysUpto_row_tie rfl ⟨rfl, rfl⟩ (by kernel_rfl) rfl treeSays.plain (by kernel_rfl)
end Go.Proofs.YtcgecafajgoeeaaDoor
