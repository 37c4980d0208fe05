/-
  The statements' clash: are blobs wrong, or do two unlike ones have one ID?
  Nothing is laid here: this program has none of it.
  A row of blobs cloned, and a row of one's own turned round.
  A row of blobs with another one behind it.
  The walk of lumkeep.WalkMore: it returns true.
-/
import Derived.Test.YtimdioacmojkeabGreatDoorGA
import Derived.Test.YtimdioacmojkeabGreatDoorGE
import Derived.Shelf.SlicesQ.Reverse
import Derived.Test.YtimdioacmojkeabGreatDoorProg
import Derived.Lib.SliceRun
import Derived.Laws.AppendOwnNone
import Derived.Lib.Strings
import Derived.Maps.AppendAt
import Derived.Deep.DeepAppendWide

namespace Go.Proofs.YtimdioacmojkeabGreatDoor
open Go.RowKit Go.WideMaps
open Go.Maps (Keyed IsMap)
set_option maxRecDepth 20000

theorem Mp.setw {w : World} {b n : Nat} {l l' : List (List UInt8 × Value)} (h : Mp w b n l) {t e : TypeId} (ht : Tryz.prog.underlying t = some (.map 30 e)) {x : List UInt8} (hx : x.length = 8) (hm : n < 4611686018427387904) (v : Value)
    (hl : (x ∉ l.map (·.1) ∧ l' = l ++ [(x, v)]) ∨ ((x, v) ∈ l ∧ l' = l)) :
    ∃ w', (Instr.mapUpdate t (.map (some b)) (.agg (x.map B).toArray) v).run Tryz.prog w = .ok () w' ∧ Mp w' b (n + 1) l' ∧ w.grownBy w' (some b) := by
  obtain ⟨D, h, h1, h2⟩ := h
  have hI := h.isMap
  obtain ⟨w', hr, ho, hg⟩ := h.update id_keyed ht (by unfold maxLen; omega) (d := .held v) (ps := []) (kl_key hx) rfl
  refine ⟨w', hr, ⟨_, ho, fun y hy hny => ?_, fun p hp => ?_⟩, hg⟩
  · have hne : y ≠ x := by
      rintro rfl
      rcases hl with ⟨_, rfl⟩ | ⟨hm, rfl⟩
      · exact hny (by simp)
      · exact hny (List.mem_map_of_mem hm)
    rw [Maps.has_put_other (fun e => hne (kl_inj hy hx e))]
    refine h1 y hy ?_
    rcases hl with ⟨_, rfl⟩ | ⟨hm, rfl⟩
    · intro hm
      exact hny (by rw [List.map_append]; exact List.mem_append_left _ hm)
    · exact hny
  · by_cases e : p.1 = x
    · have hpv : p.2 = v := by
        rcases hl with ⟨hn, rfl⟩ | ⟨hm, rfl⟩
        · rcases List.mem_append.1 hp with hp | hp
          · exact absurd (by rw [← e]; exact List.mem_map_of_mem hp) hn
          · rw [List.mem_singleton.1 hp]
        · have a1 := (h2 p hp).2.2 (.held v)
          have a2 := (h2 _ hm).2.2 (.held v)
          rw [e] at a1
          have := a1.symm.trans a2
          exact DataW.held.inj this
      rw [e, hpv]
      exact ⟨hx, Maps.has_put_same hI (id_keyed.key (kl_key hx)) _, fun z => Maps.atKey_put_same hI (id_keyed.key (kl_key hx)) _ z⟩
    · have hp' : p ∈ l := by
        rcases hl with ⟨hn, rfl⟩ | ⟨hm, rfl⟩
        · rcases List.mem_append.1 hp with hp | hp
          · exact hp
          · exact absurd (congrArg Prod.fst (List.mem_singleton.1 hp)) e
        · exact hp
      obtain ⟨q1, q2, q3⟩ := h2 p hp'
      have hk : kl Tryz.prog p.1 ≠ kl Tryz.prog x := fun f => e (kl_inj q1 hx f)
      exact ⟨q1, by rw [Maps.has_put_other hk]; exact q2, fun z => by rw [Maps.atKey_put_other hk]; exact q3 z⟩

theorem under_clash : Tryz.prog.underlying 55 = some (.map 30 42) := by kernel_rfl

/-- what a look in the map tells of an ID -/
theorem look_blob {bs : List Blb} (id : List UInt8) (h8 : id.length = 8) : ∃ (q : Blb) (okb : Bool), (∀ W m n, Mp W m n (mpB bs) → (Instr.lookup 55 (.map (some m)) (.agg (id.map B).toArray) true).run Tryz.prog W = .ok (.tuple #[.agg #[.int .i64 q.kind, .string q.bytes], .bool okb]) W) ∧
    ((okb = false ∧ id ∉ (mpB bs).map (·.1)) ∨ (okb = true ∧ q ∈ bs ∧ Pk.bid q.p = id ∧ (id, blV q) ∈ mpB bs)) := by
  rcases find_bid bs id with ⟨h1, h2⟩ | ⟨o, ho, h1, h2⟩
  · exact ⟨⟨0, ⟨#[]⟩⟩, false, fun W m n h => h.miss under_clash (zero_blb _) h8 h2, .inl ⟨rfl, h2⟩⟩
  · refine ⟨o, true, fun W m n h => h.hit under_clash (zero_blb _) h2, .inr ⟨rfl, ho, ?_, h2⟩⟩
    simpa using List.find?_some h1

set_option maxHeartbeats 4000000 in
set_option maxRecDepth 10000 in
theorem clash_any (v : Value) (l : List Blb) (w : World) (h : Bx w v l) (hok : BOk l) (hl : l.length ≤ 140737488355328) :
    Calls Tryz.prog 12 #[v] w fun e w' => ∃ b : Bool, e = .returned (.bool b) ∧ (b = false ↔ Wk.Fine (pl l)) ∧ Below w.heap.size w w' := by
  obtain ⟨a, c, rfl, _, _⟩ := h.slice
  obtain ⟨N, hN⟩ : ∃ N, N = l.length := ⟨_, rfl⟩
  have HN : Hid (N = l.length) := hN
  have HX : Hid (Bx w (.slice a N c) l) := by rw [hN]; exact h
  have HOK : Hid (BOk l) := hok
  rw [← hN] at hl ⊢
  have HB0 : Hid (∀ o, Below w.heap.size w (w.alloc o)) := fun o => (Below.refl _ w).alloc (Nat.le_refl _) o
  have HM0 : Hid (Mp (w.alloc (.map #[] 0)) w.heap.size 0 []) := Mp.new w
  obtain ⟨m, hm⟩ : ∃ m, m = w.heap.size := ⟨_, rfl⟩
  have Hm : Hid (m = w.heap.size) := hm
  have hmk := run_makeMap (P := Tryz.prog) 55 w
  clear h hok hN
  go_enter Tryz.func12, Tryz.ntmps12
  go_wp2_with fail
  rw [← hm] at HM0 ⊢
  clear hm hmk
  go_loopw [13] (fun i wr => ∃ (j : Nat) (bs : List Blb), j ≤ N ∧ i = .int .i64 j ∧ Hid ((∃ nq, nq ≤ j ∧ Mp wr m nq (mpB bs)) ∧ Wk.Fine (pl (l.take j)) ∧ (∀ x, x ∈ bs ↔ x ∈ l.take j) ∧ Below w.heap.size w wr)) (fun i _ => N - (intOf i).toNat)
  case atStart => exact ⟨0, [], by omega, rfl, ⟨0, Nat.le_refl _, HM0.out⟩, ⟨fun b hb => by simp [pl] at hb, fun b hb => by simp [pl] at hb⟩, fun x => by simp, HB0.out _⟩
  case round =>
    clear HM0 HB0
    obtain ⟨j, bs, hj, rfl, HI⟩ := hrel
    by_cases hlt : j < N
    · have hjl : j < l.length := by rw [← HN.out]; exact hlt
      obtain ⟨x, hx⟩ : ∃ x, l[j]? = some x := ⟨_, List.getElem?_eq_getElem hjl⟩
      have HXJ : Hid (l[j]? = some x) := hx
      obtain ⟨bk, o, rfl, hbk, c0, c1⟩ := (HX.out.below HI.out.2.2.2).blob j x hx
      have hxo := HOK.out x (List.mem_of_getElem? hx)
      obtain ⟨W1, hW1⟩ : ∃ W1, W1 = wr.alloc (.cells #[.int .i64 x.kind, .string x.bytes] 42) := ⟨_, rfl⟩
      have hb1 : Below wr.heap.size wr W1 := by rw [hW1]; exact (Below.refl _ wr).alloc (Nat.le_refl _) _
      have HB1 : Hid (Below wr.heap.size wr W1) := hb1
      have d0 : W1.cell? ⟨wr.heap.size, 0, none⟩ = some (.int .i64 x.kind) := by rw [hW1]; simp
      have d1 : W1.cell? ⟨wr.heap.size, 1, none⟩ = some (.string x.bytes) := by rw [hW1]; simp
      have hlt1 : wr.heap.size < W1.heap.size := by rw [hW1]; simp
      have hid := pid_any x W1 hxo.2
      obtain ⟨b0, b1, b2, b3, b4, b5, b6, b7, hL⟩ := eight _ (idOr_length x)
      have HL : Hid (idOr x = [b0, b1, b2, b3, b4, b5, b6, b7]) := hL
      obtain ⟨q, okb, hlook, hprop⟩ := look_blob (bs := bs) (idOr x) (idOr_length x)
      have HPR : Hid ((okb = false ∧ idOr x ∉ (mpB bs).map (·.1)) ∨ (okb = true ∧ q ∈ bs ∧ Pk.bid q.p = idOr x ∧ (idOr x, blV q) ∈ mpB bs)) := hprop
      rw [hL] at hlook
      have HLK : Hid (∀ W m n, Mp W m n (mpB bs) → (Instr.lookup 55 (.map (some m)) (.agg #[.int .u8 (b0.toNat : Int), .int .u8 (b1.toNat : Int), .int .u8 (b2.toNat : Int), .int .u8 (b3.toNat : Int), .int .u8 (b4.toNat : Int), .int .u8 (b5.toNat : Int), .int .u8 (b6.toNat : Int), .int .u8 (b7.toNat : Int)]) true).run Tryz.prog W = .ok (.tuple #[.agg #[.int .i64 q.kind, .string q.bytes], .bool okb]) W) := hlook
      have hid' : Calls Tryz.prog 25 #[.agg #[.int .i64 x.kind, .string x.bytes]] W1 fun e w' => e = .returned (.tuple #[.agg #[.int .u8 (b0.toNat : Int), .int .u8 (b1.toNat : Int), .int .u8 (b2.toNat : Int), .int .u8 (b3.toNat : Int), .int .u8 (b4.toNat : Int), .int .u8 (b5.toNat : Int), .int .u8 (b6.toNat : Int), .int .u8 (b7.toNat : Int)], .int .i64 (Pk.bErr x.p)]) ∧ Below W1.heap.size W1 w' := by
        rw [hL] at hid
        exact hid
      clear hid hlook hprop hL hxo hx hb1
      go_upto_region 5 with fail
      rw [← hW1]
      obtain ⟨p1, hp1⟩ : ∃ p1, p1 = wr.heap.size := ⟨_, rfl⟩
      have HP1 : Hid (p1 = wr.heap.size) := hp1
      rw [← hp1] at d0 d1 hlt1 ⊢
      clear hW1 hp1 c0 c1 hbk
      go_wp2_with fail
      refine hid'.mono ?_
      rintro e w2 ⟨rfl, b2x⟩
      have HB12 : Hid (Below W1.heap.size W1 w2) := b2x
      have HB2 : Hid (Below wr.heap.size wr w2) := HB1.out.trans (b2x.mono HB1.out.size)
      obtain ⟨W3, hW3⟩ : ∃ W3, W3 = w2.alloc (.cells #[.int .u8 (b0.toNat : Int), .int .u8 (b1.toNat : Int), .int .u8 (b2.toNat : Int), .int .u8 (b3.toNat : Int), .int .u8 (b4.toNat : Int), .int .u8 (b5.toNat : Int), .int .u8 (b6.toNat : Int), .int .u8 (b7.toNat : Int)] 30) := ⟨_, rfl⟩
      have HB23 : Hid (Below w2.heap.size w2 W3) := by rw [hW3]; exact (Below.refl _ w2).alloc (Nat.le_refl _) _
      have HI3 : Hid (I8 W3 w2.heap.size [b0, b1, b2, b3, b4, b5, b6, b7]) := by rw [hW3]; exact I8.laid (heap_alloc_new w2 _)
      obtain ⟨y0, y1, y2, y3, y4, y5, y6, y7⟩ := HI3.out.cells
      obtain ⟨nq, hnq, hmp⟩ := HI.out.1
      have HMP3 : Hid (Mp W3 m nq (mpB bs)) := (hmp.below HB2.out).below HB23.out
      have HNQ : Hid (nq ≤ j) := hnq
      have hlook := HLK.out W3 m nq HMP3.out
      have hlt2 : p1 < w2.heap.size := Nat.lt_of_lt_of_le hlt1 b2x.size
      have e0 := (b2x.cell (p := ⟨p1, 0, none⟩) hlt1).trans d0
      have e1 := (b2x.cell (p := ⟨p1, 1, none⟩) hlt1).trans d1
      have f0 := (HB23.out.cell (p := ⟨p1, 0, none⟩) hlt2).trans e0
      have f1 := (HB23.out.cell (p := ⟨p1, 1, none⟩) hlt2).trans e1
      have hlt3 : p1 < W3.heap.size := Nat.lt_of_lt_of_le hlt2 HB23.out.size
      clear hid' b2x hmp hnq d0 d1 e0 e1 hlt1 hlt2
      go_upto_region 6 with fail
      rw [← hW3]
      obtain ⟨p2, hp2⟩ : ∃ p2, p2 = w2.heap.size := ⟨_, rfl⟩
      rw [← hp2] at y0 y1 y2 y3 y4 y5 y6 y7 HI3 ⊢
      clear hW3 hp2
      obtain ⟨W4, hW4⟩ : ∃ W4, W4 = W3.alloc (.cells #[.int .i64 q.kind, .string q.bytes] 42) := ⟨_, rfl⟩
      have HB34 : Hid (Below W3.heap.size W3 W4) := by rw [hW4]; exact (Below.refl _ W3).alloc (Nat.le_refl _) _
      have g0 : W4.cell? ⟨W3.heap.size, 0, none⟩ = some (.int .i64 q.kind) := by rw [hW4]; simp
      have g1 : W4.cell? ⟨W3.heap.size, 1, none⟩ = some (.string q.bytes) := by rw [hW4]; simp
      have k0 := (HB34.out.cell (p := ⟨p1, 0, none⟩) hlt3).trans f0
      have k1 := (HB34.out.cell (p := ⟨p1, 1, none⟩) hlt3).trans f1
      have HMP4 : Hid (Mp W4 m nq (mpB bs)) := HMP3.out.below HB34.out
      have HBW4 : Hid (Below w.heap.size w W4) := HI.out.2.2.2.trans ((HB2.out.trans ((HB23.out.trans (HB34.out.mono HB23.out.size)).mono HB2.out.size)).mono HI.out.2.2.2.size)
      have HFI : Hid (Wk.Fine (pl (l.take j)) ∧ ∀ x, x ∈ bs ↔ x ∈ l.take j) := ⟨HI.out.2.1, HI.out.2.2.1⟩
      have HTK : Hid (l.take (j + 1) = l.take j ++ [x]) := by show _ = _; rw [List.take_add_one, HXJ.out]; rfl
      go_upto_region 7 with fail
      rw [← hW4]
      obtain ⟨p3, hp3⟩ : ∃ p3, p3 = W3.heap.size := ⟨_, rfl⟩
      rw [← hp3] at g0 g1 ⊢
      clear hW4 hp3 hlook y0 y1 y2 y3 y4 y5 y6 y7 f0 f1
      have HBD : Hid (∀ y ∈ bs, Pk.bErr y.p = 0 ∧ y ∈ l.take j) := fun y hy => by
        have hy' := (HFI.out.2 y).1 hy
        exact ⟨HFI.out.1.ok y.p (List.mem_map_of_mem hy'), hy'⟩
      by_cases hE : Pk.bErr x.p = 0
      case neg =>
        have hne : (Pk.bErr x.p != 0) = true := by rw [bne_iff_ne]; exact hE
        have HF : Hid (¬ Wk.Fine (pl l)) := fun h => hE (h.ok x.p (List.mem_map_of_mem (List.mem_of_getElem? HXJ.out)))
        generalize Pk.bErr x.p = E at *
        clear hE
        go_wp2_with fail
        go_ret
        first | exact ⟨true, rfl, ⟨fun q => absurd q (by decide), fun q => absurd q HF.out⟩, HBW4.out⟩ | exact .inr ⟨rfl, HF.out, HBW4.out⟩
      have hie : idOr x = Pk.bid x.p := by unfold idOr; rw [if_pos hE]
      have HIE : Hid (Pk.bid x.p = [b0, b1, b2, b3, b4, b5, b6, b7]) := by show _ = _; rw [← hie, HL.out]
      have HE : Hid (Pk.bErr x.p = 0) := hE
      rw [hE]
      clear hie hE
      cases okb with
      | false =>
        have HNO : Hid (idOr x ∉ (mpB bs).map (·.1)) := by
          rcases HPR.out with ⟨_, h⟩ | ⟨h, _⟩
          · exact h
          · cases h
        have HNB : Hid (∀ y ∈ l.take j, Pk.bid y.p ≠ Pk.bid x.p) := fun y hy e => HNO.out (by
          rw [mpB_keys, HL.out, ← HIE.out, ← e, List.map_map]
          exact List.mem_map_of_mem ((HFI.out.2 y).2 hy))
        have HFN : Hid (Wk.Fine (pl (l.take (j + 1))) ∧ ∀ y, y ∈ bs ++ [x] ↔ y ∈ l.take (j + 1)) := by
          show _ ∧ _
          rw [HTK.out, pl_snoc]
          refine ⟨⟨fun y hy => ?_, fun a ha b hb e => ?_⟩, fun y => ?_⟩
          · rcases List.mem_append.1 hy with k | k
            · exact HFI.out.1.ok y k
            · rw [List.mem_singleton.1 k]; exact HE.out
          · rcases List.mem_append.1 ha with k | k
            · rcases List.mem_append.1 hb with r | r
              · exact HFI.out.1.one a k b r e
              · obtain ⟨y, hy, rfl⟩ := List.mem_map.1 k
                rw [List.mem_singleton.1 r] at e
                exact absurd e (HNB.out y hy)
            · rcases List.mem_append.1 hb with r | r
              · obtain ⟨y, hy, rfl⟩ := List.mem_map.1 r
                rw [List.mem_singleton.1 k] at e
                exact absurd e.symm (HNB.out y hy)
              · rw [List.mem_singleton.1 k, List.mem_singleton.1 r]
          · rw [List.mem_append, List.mem_append, HFI.out.2]
        have hI4 := HI3.out.below HB34.out HI3.out.lt
        obtain ⟨z0, z1, z2, z3, z4, z5, z6, z7⟩ := hI4.cells
        obtain ⟨w5, hput, hm5, hg5⟩ := HMP4.out.setw under_clash (x := [b0, b1, b2, b3, b4, b5, b6, b7]) rfl (by have := HNQ.out; omega) (blV x) (l' := mpB (bs ++ [x])) (.inl ⟨by rw [← HL.out]; exact HNO.out, by rw [mpB_snoc, HIE.out]⟩)
        have hput' : (Instr.mapUpdate 55 (.map (some m)) (.agg #[.int .u8 (b0.toNat : Int), .int .u8 (b1.toNat : Int), .int .u8 (b2.toNat : Int), .int .u8 (b3.toNat : Int), .int .u8 (b4.toNat : Int), .int .u8 (b5.toNat : Int), .int .u8 (b6.toNat : Int), .int .u8 (b7.toNat : Int)]) (.agg #[.int .i64 x.kind, .string x.bytes])).run Tryz.prog W4 = .ok () w5 := hput
        have HM5 : Hid (Mp w5 m (nq + 1) (mpB (bs ++ [x]))) := hm5
        have HB5 : Hid (Below w.heap.size w w5) := HBW4.out.grown hg5 HBW4.out.size fun k hk => by cases hk; rw [← Hm.out]; exact Nat.le_refl _
        clear hput hm5 hg5 hI4
        go_wp2_with fail
        go_roundw
        case rel =>
          refine ⟨j + 1, bs ++ [x], by omega, by go_num, ⟨nq + 1, by have := HNQ.out; omega, HM5.out⟩, HFN.out.1, HFN.out.2, HB5.out⟩
        case measure => simp only [intOf]; omega
      | true =>
        obtain ⟨hqb, hqi, hqm⟩ : q ∈ bs ∧ Pk.bid q.p = idOr x ∧ (idOr x, blV q) ∈ mpB bs := by
          rcases HPR.out with ⟨h, _⟩ | ⟨_, h1, h2, h3⟩
          · cases h
          · exact ⟨h1, h2, h3⟩
        have HQ : Hid (q ∈ bs ∧ Pk.bid q.p = Pk.bid x.p) := ⟨hqb, by rw [hqi, HL.out, HIE.out]⟩
        have HQM : Hid (([b0, b1, b2, b3, b4, b5, b6, b7], blV q) ∈ mpB bs) := by rw [← HL.out]; exact hqm
        clear hqb hqi hqm
        have hcmp := fun W => bl_cmp W q x
        have HS : Hid (blSame q x = true ↔ q = x) := blSame_iff
        generalize blSame q x = SM at *
        cases SM with
        | false =>
          have HF : Hid (¬ Wk.Fine (pl l)) := fun h => by
            have e : q.p = x.p := h.one q.p (List.mem_map_of_mem (List.mem_of_mem_take (HBD.out q HQ.out.1).2)) x.p (List.mem_map_of_mem (List.mem_of_getElem? HXJ.out)) HQ.out.2
            have := HS.out.2 (Blb.p_inj e)
            cases this
          go_wp2_with fail
          go_ret
          first | exact ⟨true, rfl, ⟨fun q => absurd q (by decide), fun q => absurd q HF.out⟩, HBW4.out⟩ | exact .inr ⟨rfl, HF.out, HBW4.out⟩
        | true =>
          have hqx : q = x := HS.out.1 (by first | exact trivial | rfl)
          have HQM2 : Hid (([b0, b1, b2, b3, b4, b5, b6, b7], blV x) ∈ mpB bs) := by rw [← hqx]; exact HQM.out
          have HFN : Hid (Wk.Fine (pl (l.take (j + 1))) ∧ ∀ y, y ∈ bs ↔ y ∈ l.take (j + 1)) := by
            show _ ∧ _
            have hin : x ∈ l.take j := by rw [← hqx]; exact (HBD.out q HQ.out.1).2
            rw [HTK.out, pl_snoc]
            refine ⟨HFI.out.1.sub fun y hy => ?_, fun y => ?_⟩
            · rcases List.mem_append.1 hy with k | k
              · exact k
              · rw [List.mem_singleton.1 k]; exact List.mem_map_of_mem hin
            · rw [List.mem_append, List.mem_singleton, HFI.out.2]
              constructor
              · exact .inl
              · rintro (k | k)
                · exact k
                · rw [k]; exact hin
          clear hqx
          have hI4 := HI3.out.below HB34.out HI3.out.lt
          obtain ⟨z0, z1, z2, z3, z4, z5, z6, z7⟩ := hI4.cells
          obtain ⟨w5, hput, hm5, hg5⟩ := HMP4.out.setw under_clash (x := [b0, b1, b2, b3, b4, b5, b6, b7]) rfl (by have := HNQ.out; omega) (blV x) (l' := mpB (bs)) (.inr ⟨HQM2.out, rfl⟩)
          have hput' : (Instr.mapUpdate 55 (.map (some m)) (.agg #[.int .u8 (b0.toNat : Int), .int .u8 (b1.toNat : Int), .int .u8 (b2.toNat : Int), .int .u8 (b3.toNat : Int), .int .u8 (b4.toNat : Int), .int .u8 (b5.toNat : Int), .int .u8 (b6.toNat : Int), .int .u8 (b7.toNat : Int)]) (.agg #[.int .i64 x.kind, .string x.bytes])).run Tryz.prog W4 = .ok () w5 := hput
          have HM5 : Hid (Mp w5 m (nq + 1) (mpB (bs))) := hm5
          have HB5 : Hid (Below w.heap.size w w5) := HBW4.out.grown hg5 HBW4.out.size fun k hk => by cases hk; rw [← Hm.out]; exact Nat.le_refl _
          clear hput hm5 hg5 hI4
          go_wp2_with fail
          go_roundw
          case rel =>
            refine ⟨j + 1, bs, by omega, by go_num, ⟨nq + 1, by have := HNQ.out; omega, HM5.out⟩, HFN.out.1, HFN.out.2, HB5.out⟩
          case measure => simp only [intOf]; omega
    · have HFN : Hid (Wk.Fine (pl l)) := by
        have := HI.out.2.1
        rwa [List.take_of_length_le (by rw [← HN.out]; omega)] at this
      go_wp2_with fail
      go_ret
      first | exact ⟨false, rfl, ⟨fun _ => HFN.out, fun _ => rfl⟩, HI.out.2.2.2⟩ | exact .inl ⟨rfl, HFN.out, HI.out.2.2.2⟩

end Go.Proofs.YtimdioacmojkeabGreatDoor

namespace Go.Proofs
end Go.Proofs

namespace Go.Proofs.YtimdioacmojkeabGreatDoor
open Go.RowKit Go.Sort Go.Lib

/-- the blob of nothing -/
def bl0 : Blb := ⟨0, ⟨#[]⟩⟩

theorem Rx.srcw {α : Type} {k : Nat} {C : α → List Value} {w : World} {a : Option Addr} {n c : Nat} {l : List α} (hC : ∀ t, (C t).length = k) (hk : 0 < k) (h : Rx k C w (.slice a n c) l) : (a = none → l.length = 0) ∧ ∀ ad, a = some ad → ∀ j u, (rowR C l)[j]? = some u → w.cell? (ad.add j) = some u := by
  rcases h.at_ with ⟨_, rfl⟩ | ⟨bk, o, cap, h1, h3, h4⟩
  · exact ⟨fun _ => rfl, fun ad _ j u hj => by simp [rowR] at hj⟩
  · rw [Value.slice.injEq] at h1
    obtain ⟨rfl, rfl, rfl⟩ := h1
    refine ⟨fun e => by simp at e, fun ad e j u hj => ?_⟩
    obtain rfl := Option.some.inj e
    have hjl : j < l.length * k := by
      have := (List.getElem?_eq_some_iff.1 hj).1
      rwa [rowR_length hC] at this
    have hr : j % k < k := Nat.mod_lt _ hk
    have hq : j / k < l.length := (Nat.div_lt_iff_lt_mul hk).2 hjl
    have ej : j / k * k + j % k = j := by have := Nat.div_add_mod j k; rw [Nat.mul_comm] at this; exact this
    rw [← ej, rowR_get hC l (j / k) (j % k) l[j / k] (List.getElem?_eq_getElem hq) hr] at hj
    have := h4 (j / k) _ (List.getElem?_eq_getElem hq) (j % k) u hj
    rw [Nat.add_assoc, ej] at this
    rw [show ((⟨bk, o, none⟩ : Addr).add j) = ⟨bk, o + j, none⟩ from by unfold Addr.add; split <;> simp_all]
    exact this

theorem info_b3 {P : Program} {e : TypeId} {z : Option Value} {s b : Nat} (h : (P.info? e).map (fun i => (i.zero, i.size, i.bytes)) = some (z, s, b)) : ∃ i, P.info? e = some i ∧ i.zero = z ∧ i.size = s ∧ i.bytes = b := by
  cases hi : P.info? e with
  | none => rw [hi] at h; cases h
  | some i =>
    rw [hi] at h
    simp only [Option.map_some, Option.some.injEq, Prod.mk.injEq] at h
    exact ⟨i, rfl, h.1, h.2.1, h.2.2⟩

theorem info_blz : (Tryz.prog.info? 42).map (fun i => (i.zero, i.size, i.bytes)) = some (some (blV bl0), 2, 24) := by kernel_rfl

theorem wk_holds_own {α : Type} [Inhabited α] {k : Nat} {C : α → List Value} (hC : ∀ t, (C t).length = k) (hk : 0 < k) {base g cap : Nat} {T : TypeId} {w : World} {l : List α} (h : w.ownsRow base T k (.slice (some ⟨g, 0, none⟩) l.length cap) l.length (rowR C l)) : HoldsK C k w g 0 l.toArray := by
  intro t ht
  have hs : t < l.length * k := by simpa using ht
  have hj : t / k < l.length := (Nat.div_lt_iff_lt_mul hk).2 hs
  have hm : t % k < k := Nat.mod_lt _ hk
  have et : t / k * k + t % k = t := by have := Nat.div_add_mod t k; rw [Nat.mul_comm] at this; exact this
  rw [get_flatK C k l.toArray t (by simpa using hs)]
  have e : l.toArray[t / k]! = l[t / k] := by simp [hj]
  rw [e, Nat.zero_add]
  have hr : t % k < (C l[t / k]).length := by rw [hC]; exact hm
  have hq : (rowR C l)[t / k * k + t % k]? = some ((C l[t / k])[t % k]) := by rw [rowR_get hC l (t / k) (t % k) l[t / k] (List.getElem?_eq_getElem hj) hm]; exact List.getElem?_eq_getElem hr
  have hc := World.ownsRow.cells h (g := g) rfl (t / k * k + t % k) _ hq
  rw [et] at hc
  rw [show ((⟨g, 0, none⟩ : Addr).add t) = ⟨g, t, none⟩ from by unfold Addr.add; split <;> simp_all] at hc
  refine ⟨?_, ?_⟩
  · rw [hc]; simp [hr]
  · rcases h.2 with ⟨e', _⟩ | ⟨g', cap', cur, e', _, hh, _⟩
    · simp at e'
    · simp only [Value.slice.injEq, Option.some.injEq, Addr.mk.injEq, true_and, and_true] at e'
      obtain ⟨rfl, rfl⟩ := e'
      exact frozen_of_row w g t cur T hh

theorem wk_rx_holds {α : Type} [Inhabited α] {k : Nat} {C : α → List Value} (hC : ∀ t, (C t).length = k) {g cap : Nat} {w : World} {l : List α} (hg : g < w.heap.size) (h1 : l.length ≤ cap) (h2 : cap ≤ 9223372036854775807) (h : HoldsK C k w g 0 l.toArray) : Rx k C w (.slice (some ⟨g, 0, none⟩) l.length cap) l := by
  refine ⟨.inr ⟨g, 0, cap, rfl, hg, fun j t hj r u hu => ?_⟩, _, _, _, rfl, h1, h2⟩
  obtain ⟨hjl, rfl⟩ := List.getElem?_eq_some_iff.1 hj
  have hr : r < k := by have := (List.getElem?_eq_some_iff.1 hu).1; rwa [hC] at this
  have := (HoldsK.cell h (i := j) (c := r) (by simpa using hjl) hr).1
  rw [this]
  have e : l.toArray[j]! = l[j] := by simp [hjl]
  rw [e]
  obtain ⟨hr', rfl⟩ := List.getElem?_eq_some_iff.1 hu
  simp [hr']

theorem wk_kept_put {α : Type} [Inhabited α] {k n g : Nat} {C : α → List Value} {W : World} {d : Array α} : Kept (fun b => b ≠ g) W (putRowK C k (Sort.ahead W n) g 0 d) := by
  unfold putRowK putRow mapBlock Sort.ahead
  refine ⟨rfl, rfl, rfl, by simp, fun j hj hp => ?_⟩
  show (W.heap.modify g _)[j]? = _
  rw [Array.getElem?_modify, if_neg (fun e => hp e.symm)]

set_option maxHeartbeats 2000000 in
theorem clone_blobs (v : Value) (l : List Blb) (w : World) (h : Bx w v l) (hl : l.length ≤ 1000000) :
    Calls Tryz.prog 11 #[v] w fun e w' => ∃ v', e = .returned v' ∧ w'.ownsRow w.heap.size 42 2 v' l.length (rowR blC l) ∧ Below w.heap.size w w' := by
  obtain ⟨i0, hi, hz0, hz1, hz2⟩ := info_b3 info_blz
  obtain ⟨a, c, rfl, _, _⟩ := h.slice
  have qn : ∀ (w : World) (a : Option Addr) (n c n' c' : Nat), (binOp .eql 28 (.slice a n c) (.slice none n' c')).run Tryz.prog w = .ok (.bool a.isNone) w := fun w a n c n' c' => Lib.run_eql_slice_nil w _ _ a n c n' c' Tryz.underlying28
  obtain ⟨hs1, hs2⟩ := h.srcw blC_length (by omega)
  cases a with
  | none =>
    have hln : l = [] := List.length_eq_zero_iff.1 (hs1 rfl)
    subst hln
    clear hs1 hs2 h
    go_enter Tryz.func11, Tryz.ntmps11
    go_wp2_with fail
    go_ret
    exact ⟨.slice none 0 0, rfl, World.ownsRow_nil _ _ _ _, Below.refl _ _⟩
  | some ad =>
    have hsp := (h.below ((Below.refl w.heap.size w).alloc (Nat.le_refl _) (.cells #[] 42))).srcw blC_length (by omega)
    have hcell2 := hsp.2 ad rfl
    have hown0 : (w.alloc (.cells #[] 42)).ownsRow w.heap.size 42 2 (.slice (some ⟨w.heap.size, 0, none⟩) 0 0) 0 [] := World.ownsRow_lit w #[] 0 (Nat.le_refl _) (by unfold maxLen; omega) rfl
    clear h hs1 hs2 hsp
    go_enter Tryz.func11, Tryz.ntmps11
    go_wp2_with (at_builtin; refine wpList_append_own _ rfl (.tmp 5) (.tmp 6) 28 rfl w.heap.size 42 i0 (blV bl0) 2 24 Tryz.underlying28 hi hz0 hz1 hz2 (by kernel_rfl) (by decide) _ _ _ rfl hown0 ad l.length _ (rowR blC l) rfl (rowR_length blC_length l) hcell2 (rowR_one blC_one l) (by unfold maxLen; omega) (by omega) (by simp) ?_; intro v1 w3 o3 g3 _)
    simp only [Nat.zero_add, List.nil_append] at o3
    have HO : Hid (w3.ownsRow w.heap.size 42 2 v1 l.length (rowR blC l)) := o3
    have HB : Hid (Below w.heap.size w w3) := ((Below.refl _ w).alloc (Nat.le_refl _) _).grown g3 (by simp) (fun k hk => by cases hk; exact Nat.le_refl _)
    clear o3 g3
    go_ret
    exact ⟨v1, rfl, HO.out, HB.out⟩
end Go.Proofs.YtimdioacmojkeabGreatDoor

namespace Go.Proofs.YtimdioacmojkeabGreatDoor
open Go.RowKit

theorem wk_app_none {P : Program} (w : World) (base : Nat) (t ty e : TypeId) (i : TypeInfo) (size : Nat) (ht : P.underlying t = some (.slice e)) (hi : P.info? e = some i) (v : Value) (n : Nat) (xs : List Value) (hown : w.ownsRow base e size v n xs) (c : Nat) :
    (Builtin.append_ #[t, t] ty #[v, .slice none 0 c]).run P w = .ok v w := by
  rcases hown.2 with ⟨rfl, rfl⟩ | ⟨g, cap, cur, rfl, _, _, hnc, _⟩
  · simp [Builtin.append_, run_underlying ht, sizeOf, typeInfo, hi, Builtin.lenOf, Builtin.firstCells]
  · simp [Builtin.append_, run_underlying ht, sizeOf, typeInfo, hi, Builtin.lenOf, Builtin.firstCells, hnc, storeCells]

/-- append at an operation that is wanted, by what it leaves -/
theorem wpList_append_run {P : Program} {w : World} {ops : Array Oper} {rest : List Oper} {o : Oper} {a : Act} {Q : Exit → Act → World → Prop} (hw : Region.wanted o (yielded ops a.tmps)) (s x : Operand) (t ty : TypeId)
    (ho : o.op = .call { callee := .builtin .append, args := #[s, x], argTypes := #[t, t] }) (hty : o.type = ty) (v u v' : Value) (w' : World) (hs : a.eval s = v) (hx : a.eval x = u)
    (hr : (Builtin.append_ #[t, t] ty #[v, u]).run P w = .ok v' w') (h : wpList P ops Q rest (a.put o.dst v') w') : wpList P ops Q (o :: rest) a w :=
  wpList_step fun K hK => by
    rw [if_pos hw]
    unfold Oper.wp
    simp [execOp, ho, resolve, invoke, builtin, hs, hx, hty, hr, Result.andThen]
    exact hK _ _ h

theorem join_blobs (w : World) (base : Nat) (v : Value) (l1 : List Blb) (o : w.ownsRow base 42 2 v l1.length (rowR blC l1)) (v2 : Value) (l2 : List Blb) (h : Bx w v2 l2) (hz : (l1.length + l2.length) * 24 ≤ 140737488355328) (hbase : base ≤ w.heap.size) :
    ∃ v' w', (Builtin.append_ #[28, 28] 28 #[v, v2]).run Tryz.prog w = .ok v' w' ∧ w'.ownsRow base 42 2 v' (l1 ++ l2).length (rowR blC (l1 ++ l2)) ∧ w.grownBy w' v.ownBlock := by
  obtain ⟨i0, hi, hz0, hz1, hz2⟩ := info_b3 info_blz
  obtain ⟨a, c, rfl, _, _⟩ := h.slice
  obtain ⟨h1, h2⟩ := h.srcw blC_length (by omega)
  have e : rowR blC (l1 ++ l2) = rowR blC l1 ++ rowR blC l2 := by simp [rowR]
  rw [e, List.length_append]
  cases a with
  | none =>
    have hn : l2 = [] := List.length_eq_zero_iff.1 (h1 rfl)
    subst hn
    refine ⟨v, w, wk_app_none (P := Tryz.prog) w base 28 28 42 i0 2 Tryz.underlying28 hi v l1.length _ o c, by simpa [rowR] using o, ⟨rfl, rfl, rfl, Nat.le_refl _, fun _ _ _ => rfl⟩⟩
  | some ad =>
    obtain ⟨v', w', hr, ho, hg, _⟩ := run_append_own_at (P := Tryz.prog) w base 28 28 42 i0 (blV bl0) 2 24 Tryz.underlying28 hi hz0 hz1 hz2 (by kernel_rfl) (by decide) v l1.length _ o ad l2.length c (rowR blC l2) (rowR_length blC_length l2) (h2 ad rfl) (rowR_one blC_one l2) (by unfold maxLen; omega) hz hbase
    exact ⟨v', w', hr, ho, hg⟩

end Go.Proofs.YtimdioacmojkeabGreatDoor

namespace Go.Proofs.YtimdioacmojkeabGreatDoor
open Go.RowKit
set_option maxRecDepth 4000

theorem join_wide (w : World) (base : Nat) (v : Value) (l1 : List Blb) (o : w.ownsRow base 42 2 v l1.length (rowR blC l1)) (v2 : Value) (l2 : List Blb) (h : Bx w v2 l2) (hz : (l1.length + l2.length) * 24 ≤ 150000000000000) (hbase : base ≤ w.heap.size) :
    ∃ v' w', (Builtin.append_ #[28, 28] 28 #[v, v2]).run Tryz.prog w = .ok v' w' ∧ w'.ownsRow base 42 2 v' (l1 ++ l2).length (rowR blC (l1 ++ l2)) ∧ w.grownBy w' v.ownBlock := by
  obtain ⟨i0, hi, hz0, hz1, hz2⟩ := info_b3 info_blz
  obtain ⟨a, c, rfl, _, _⟩ := h.slice
  obtain ⟨h1, h2⟩ := h.srcw blC_length (by omega)
  have e : rowR blC (l1 ++ l2) = rowR blC l1 ++ rowR blC l2 := by simp [rowR]
  rw [e, List.length_append]
  cases a with
  | none =>
    have hn : l2 = [] := List.length_eq_zero_iff.1 (h1 rfl)
    subst hn
    refine ⟨v, w, wk_app_none (P := Tryz.prog) w base 28 28 42 i0 2 Tryz.underlying28 hi v l1.length _ o c, by simpa [rowR] using o, ⟨rfl, rfl, rfl, Nat.le_refl _, fun _ _ _ => rfl⟩⟩
  | some ad =>
    obtain ⟨v', w', hr, ho, hg, _⟩ := run_append_own_wide (P := Tryz.prog) w base 28 28 42 i0 (blV bl0) 2 24 Tryz.underlying28 hi hz0 hz1 hz2 (by kernel_rfl) (by decide) v l1.length _ o ad l2.length c (rowR blC l2) (rowR_length blC_length l2) (h2 ad rfl) (rowR_one blC_one l2) (by unfold maxLen; omega) (by omega) hbase
    exact ⟨v', w', hr, ho, hg⟩

/-- Plant, whatever comes: the blobs if there is no error, else none -/
theorem plant_three {fx mn mx bt : Int} {v : Value} {l : List Im} {w : World} (h : Ims w v l) (hl : l.length ≤ 140737488351232) (hok : ∀ x ∈ l, x.Ok) (hT : Tabs w) {P : List Pk.Bl × Wk.Bs × Int} (hP : P = plantP fx mn mx bt (its l)) :
    Calls Tryz.prog 6 #[wayV fx mn mx bt, v] w fun e w' => ∃ v' bs id, e = .returned (.tuple #[v', idV id, .int .i64 P.2.2]) ∧ id.length = 8 ∧ w'.ownsRow w.heap.size 42 2 v' bs.length (rowR blC bs) ∧ BOk bs ∧ bs.length ≤ 1000000 ∧ Below w.heap.size w w' ∧
      (P.2.2 ≠ 0 → bs = []) ∧ (P.2.2 = 0 → pl bs = P.1 ∧ id = P.2.1) := by
  refine (plant_any fx mn mx bt v l w h hl hok hT).mono ?_
  rintro e w' ⟨v', id, he, h8, hb, hk0, hk⟩
  rw [← hP] at he hk hk0
  by_cases h0 : P.2.2 = 0
  · obtain ⟨bs, e1, e2, e3, e4⟩ := hk h0
    have hF : Wk.Fine (pl bs) := by
      rw [e1, hP]
      exact (Pld.of hok (by rw [← hP]; exact h0)).fine
    exact ⟨v', bs, id, he, h8, e3, bok_fine hF, e4, hb, fun q => absurd h0 q, fun _ => ⟨e1, e2⟩⟩
  · obtain ⟨rfl, rfl⟩ := hk0 h0
    exact ⟨_, [], _, he, h8, World.ownsRow_nil _ _ _ _, fun b hb => absurd hb List.not_mem_nil, by simp, hb, fun _ => rfl, fun q => absurd q h0⟩

set_option maxRecDepth 8000 in
set_option maxHeartbeats 4000000 in
theorem walkMore_walk (fx mn mx bt : Int) (v : Value) (l : List Im) (u : Value) (k : List Blb) (z1 : l.length * 56 ≤ 140737488351232) (f1 : ∀ x ∈ l, x.Ok) (z2 : k.length * 24 ≤ 140737488351232) (f2 : BOk k) (w : World) (t1 : Ims w v l) (t2 : Bx w u k) (hT : Tabs w) :
    Calls Tryz.prog 4 #[wayV fx mn mx bt, v, u] w fun e w' => e = .returned (.bool true) ∧ Below w.heap.size w w' := by
  obtain ⟨W1, hW1⟩ : ∃ W1, W1 = w.alloc (.cells #[.int .i64 fx, .int .i64 mn, .int .i64 mx, .int .i64 bt] 25) := ⟨_, rfl⟩
  have HB1 : Hid (Below w.heap.size w W1) := by rw [hW1]; exact (Below.refl _ w).alloc (Nat.le_refl _) _
  have ca0 : W1.cell? ⟨w.heap.size, 0, none⟩ = some (.int .i64 fx) := by rw [hW1]; simp
  have ca1 : W1.cell? ⟨w.heap.size, 1, none⟩ = some (.int .i64 mn) := by rw [hW1]; simp
  have ca2 : W1.cell? ⟨w.heap.size, 2, none⟩ = some (.int .i64 mx) := by rw [hW1]; simp
  have ca3 : W1.cell? ⟨w.heap.size, 3, none⟩ = some (.int .i64 bt) := by rw [hW1]; simp
  have hs1 : w.heap.size < W1.heap.size := by rw [hW1]; simp
  have HX : Hid (Ims w v l) := t1
  have HY : Hid (Bx w u k ∧ BOk k) := ⟨t2, f2⟩
  have HT : Hid (Tabs w) := hT
  have HF : Hid (∀ x ∈ l, x.Ok) := f1
  have HZ : Hid (l.length ≤ 140737488351232 ∧ k.length * 24 ≤ 140737488351232) := ⟨by omega, z2⟩
  have hwk := walked_any W1 (hT.below HB1.out)
  obtain ⟨P, hP⟩ : ∃ P, P = plantP fx mn mx bt (its l) := ⟨_, rfl⟩
  have HP : Hid (P = plantP fx mn mx bt (its l)) := hP
  obtain ⟨a0, c0, rfl, _, _⟩ := t1.slice
  obtain ⟨a1, c1, rfl, _, _⟩ := t2.slice
  obtain ⟨N, hN⟩ : ∃ N, N = l.length := ⟨_, rfl⟩
  have HN : Hid (N = l.length) := hN
  obtain ⟨M, hM⟩ : ∃ M, M = k.length := ⟨_, rfl⟩
  have HM : Hid (M = k.length) := hM
  rw [← hN] at HX ⊢
  rw [← hM] at HY ⊢
  clear t1 t2 hT f1 f2 z1 z2 hP hN hM
  go_enter Tryz.func4, Tryz.ntmps4
  go_upto_region 1 with fail
  rw [← hW1]
  obtain ⟨p1, hp1⟩ : ∃ p1, p1 = w.heap.size := ⟨_, rfl⟩
  rw [← hp1] at ca0 ca1 ca2 ca3 hs1 ⊢
  clear hW1 hp1
  go_wp2_with fail
  refine hwk.mono ?_
  rintro e w2 ⟨rfl, b2⟩
  have HB2 : Hid (Below w.heap.size w w2) := HB1.out.trans (b2.mono HB1.out.size)
  have d0 := (b2.cell (p := ⟨p1, 0, none⟩) hs1).trans ca0
  have d1 := (b2.cell (p := ⟨p1, 1, none⟩) hs1).trans ca1
  have d2 := (b2.cell (p := ⟨p1, 2, none⟩) hs1).trans ca2
  have d3 := (b2.cell (p := ⟨p1, 3, none⟩) hs1).trans ca3
  have hpl := plant_three (fx := fx) (mn := mn) (mx := mx) (bt := bt) (HX.out.below HB2.out) HZ.out.1 HF.out (HT.out.below HB2.out) HP.out
  clear hwk b2 ca0 ca1 ca2 ca3 hs1
  go_wp2_with fail
  refine hpl.mono ?_
  rintro e w3 ⟨v3, bs, id3, rfl, h8, o3, k3, n3, b3, hbd, hgd⟩
  have HB3 : Hid (Below w.heap.size w w3) := HB2.out.trans (b3.mono HB2.out.size)
  have HX3 : Hid (Bx w3 v3 bs ∧ BOk bs) := ⟨Rx.of_own blC_length o3, k3⟩
  have HBD : Hid ((P.2.2 ≠ 0 → bs = []) ∧ (P.2.2 = 0 → pl bs = P.1 ∧ id3 = P.2.1)) := ⟨hbd, hgd⟩
  have HN3 : Hid (bs.length ≤ 1000000) := n3
  obtain ⟨d0, d1, d2, d3, d4, d5, d6, d7, rfl⟩ := eight _ h8
  have hag : idV [d0, d1, d2, d3, d4, d5, d6, d7] = .agg #[.int .u8 (d0.toNat : Int), .int .u8 (d1.toNat : Int), .int .u8 (d2.toNat : Int), .int .u8 (d3.toNat : Int), .int .u8 (d4.toNat : Int), .int .u8 (d5.toNat : Int), .int .u8 (d6.toNat : Int), .int .u8 (d7.toNat : Int)] := rfl
  rw [hag]
  obtain ⟨a3, c3, rfl, _, _⟩ := HX3.out.1.slice
  obtain ⟨K, hK⟩ : ∃ K, K = bs.length := ⟨_, rfl⟩
  have HK : Hid (K = bs.length) := hK
  rw [← hK] at HX3 ⊢
  obtain ⟨W4, hW4⟩ : ∃ W4, W4 = w3.alloc (.cells #[.int .u8 (d0.toNat : Int), .int .u8 (d1.toNat : Int), .int .u8 (d2.toNat : Int), .int .u8 (d3.toNat : Int), .int .u8 (d4.toNat : Int), .int .u8 (d5.toNat : Int), .int .u8 (d6.toNat : Int), .int .u8 (d7.toNat : Int)] 30) := ⟨_, rfl⟩
  have h34 : Below w3.heap.size w3 W4 := by rw [hW4]; exact (Below.refl _ w3).alloc (Nat.le_refl _) _
  have HB4 : Hid (Below w.heap.size w W4) := HB3.out.trans (h34.mono HB3.out.size)
  have HX4 : Hid (Bx W4 (.slice a3 K c3) bs) := HX3.out.1.below h34
  have HI4 : Hid (I8 W4 w3.heap.size [d0, d1, d2, d3, d4, d5, d6, d7]) := by rw [hW4]; exact I8.laid (heap_alloc_new w3 _)
  have hcl := clone_blobs (.slice a3 K c3) bs W4 HX4.out HN3.out
  clear hpl b3 h8 o3 k3 n3 hbd hgd h34 hK
  go_upto_region 4 with fail
  rw [← hW4]
  obtain ⟨p2, hp2⟩ : ∃ p2, p2 = w3.heap.size := ⟨_, rfl⟩
  rw [← hp2] at HI4 ⊢
  clear hW4 hp2
  go_wp2_with fail
  refine hcl.mono ?_
  rintro e w7 ⟨v7, rfl, o7, b7⟩
  have HB7 : Hid (Below w.heap.size w w7) := HB4.out.trans (b7.mono HB4.out.size)
  obtain ⟨v8, w8, hr8, o8, g8⟩ := join_wide w7 W4.heap.size v7 bs o7 (.slice a1 M c1) k (HY.out.1.below HB7.out) (by have := HN3.out; have := HZ.out.2; omega) b7.size
  have HB48 : Hid (Below W4.heap.size W4 w8) := b7.grown g8 b7.size fun j hj => (o7.lt j hj).1
  have HB8 : Hid (Below w.heap.size w w8) := HB4.out.trans (HB48.out.mono HB4.out.size)
  have hbo : BOk (bs ++ k) := fun b hb => by
    rcases List.mem_append.1 hb with q | q
    · exact HX3.out.2 b q
    · exact HY.out.2 b q
  have hlen : (bs ++ k).length ≤ 140737488355328 := by rw [List.length_append]; have := HN3.out; have := HZ.out.2; omega
  have hx8 : Bx w8 v8 (bs ++ k) := Rx.of_own blC_length o8
  have hck := clash_any v8 (bs ++ k) w8 hx8 hbo hlen
  obtain ⟨a8, c8, e8, _, _⟩ := hx8.slice
  obtain ⟨J, hJ⟩ : ∃ J, J = (bs ++ k).length := ⟨_, rfl⟩
  have HJ : Hid (J = (bs ++ k).length) := hJ
  rw [← hJ] at e8 hlen
  subst e8
  have HX8 : Hid (Bx w8 (.slice a8 J c8) (bs ++ k) ∧ BOk (bs ++ k)) := ⟨hx8, hbo⟩
  have HI8 : Hid (I8 w8 p2 [d0, d1, d2, d3, d4, d5, d6, d7]) := HI4.out.below HB48.out HI4.out.lt
  clear hcl b7 o7 o8 g8 hJ hx8 hbo
  go_upto_region 5 with (at_builtin; go_loud (refine wpList_append_run (by first | rfl | decide | simp [Region.wanted, yielded]) (.tmp 22) (.tmp 23) 28 28 rfl rfl _ _ (.slice a8 J c8) w8 rfl rfl hr8 ?_))
  clear hr8
  by_cases hE : P.2.2 = 0
  case neg =>
    have hne : (P.2.2 != 0) = true := by rw [bne_iff_ne]; exact hE
    generalize P.2.2 = E at *
    clear hE hck
    go_wp2_with fail
    go_ret
    exact ⟨rfl, HB8.out⟩
  have HG : Hid (pl bs = P.1 ∧ [d0, d1, d2, d3, d4, d5, d6, d7] = P.2.1) := HBD.out.2 hE
  have HPl : Hid (Pld fx mn mx bt l P.1 P.2.1) := by
    show Pld _ _ _ _ _ _ _
    rw [HP.out]
    exact Pld.of HF.out (by rw [← HP.out]; exact hE)
  rw [hE]
  clear hE
  go_wp2_with fail
  refine hck.mono ?_
  rintro e w9 ⟨cb, rfl, hcb, b9⟩
  have HB9 : Hid (Below w.heap.size w w9) := HB8.out.trans (b9.mono HB8.out.size)
  have HC : Hid (cb = false ↔ Wk.Fine (pl (bs ++ k))) := hcb
  have HX9 : Hid (Bx w9 (.slice a8 J c8) (bs ++ k)) := HX8.out.1.below b9
  have HI9 : Hid (I8 w9 p2 [d0, d1, d2, d3, d4, d5, d6, d7]) := HI8.out.below b9 HI8.out.lt
  clear hck b9 hcb
  cases cb with
  | true =>
    go_wp2_with fail
    go_ret
    exact ⟨rfl, HB9.out⟩
  | false =>
    by_cases hJ1 : 1000 < J
    · have hJ2 : (1000 : Int) < (J : Int) := by omega
      go_wp2_with fail
      go_ret
      exact ⟨rfl, HB9.out⟩
    have hJ2 : ¬ (1000 : Int) < (J : Int) := by omega
    have hF : Wk.Fine (pl (bs ++ k)) := HC.out.1 (by first | exact trivial | rfl)
    have hr := reap_ok (root := [d0, d1, d2, d3, d4, d5, d6, d7]) HX9.out HX8.out.2 (by rw [← HJ.out]; omega) rfl (HT.out.below HB9.out) (l := l)
      (Wk.reap_back (by rw [HG.out.2]; exact HPl.out.back) hF (by rw [pl_length, ← HJ.out]; omega) fun x hx => by rw [← HG.out.1] at hx; unfold pl; rw [List.map_append]; exact List.mem_append_left _ hx)
    rw [hag] at hr
    obtain ⟨y0, y1, y2, y3, y4, y5, y6, y7⟩ := HI9.out.cells
    clear hF hag
    go_wp2_with fail
    refine hr.mono ?_
    rintro e w10 ⟨v10, rfl, x10, _, _, b10⟩
    have HB10 : Hid (Below w.heap.size w w10) := HB9.out.trans (b10.mono HB9.out.size)
    obtain ⟨a10, c10, rfl, _, _⟩ := x10.slice
    have hX0 : Ims w10 (.slice a0 N c0) l := HX.out.below HB10.out
    have hq := equal_items (.slice a10 l.length c10) (.slice a0 N c0) l l w10 x10 hX0 HZ.out.1
    rw [← HN.out] at hq ⊢
    clear hr b10 x10 hX0 y0 y1 y2 y3 y4 y5 y6 y7
    go_wp2_with fail
    refine hq.mono ?_
    rintro e w11 ⟨r, rfl, hrr, b11⟩
    obtain rfl : r = true := hrr.2 (by first | exact trivial | rfl)
    have HB11 : Hid (Below w.heap.size w w11) := HB10.out.trans (b11.mono HB10.out.size)
    clear hq b11 hrr
    go_wp2_with fail
    go_ret
    exact ⟨rfl, HB11.out⟩
end Go.Proofs.YtimdioacmojkeabGreatDoor
