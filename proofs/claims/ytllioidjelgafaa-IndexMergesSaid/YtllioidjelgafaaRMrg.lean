/-
  What Merge of the library's reference answers.
-/
import Derived.Test.YtllioidjelgafaaRMrgM
import Derived.Test.YtllioidjelgafaaPlClone
namespace Go.Proofs.Ytllioidjelgafaa
open Go.RowKit
set_option maxRecDepth 4000

set_option maxHeartbeats 4000000 in
theorem rmerge_any (v u : Value) (a b : List Plc) (w : World) (h : Px w v a) (k : Px w u b) (hl : a.length ≤ 140737488351232) (hm : b.length ≤ 140737488351232) :
    Calls Try.prog 15 #[v, u] w fun e w' => ∃ x, e = .returned (.tuple #[x, .int .i64 (Ix.merge (ps a) (ps b)).2]) ∧ PlOut w w' x (Ix.merge (ps a) (ps b)).1 := by
  obtain ⟨sa, ca, rfl, ha1, ha2⟩ := h.slice
  obtain ⟨sb, cb, rfl, hb1, hb2⟩ := k.slice
  have hca : ∀ W, Px W (.slice sa a.length ca) a → Calls Try.prog 9 #[.slice sa a.length ca] W fun e w' => e = .returned (.int .i64 (Ix.check (ps a))) ∧ Below W.heap.size W w' := fun W hW => rcheck_any _ a W hW hl
  have hcb : ∀ W, Px W (.slice sb b.length cb) b → Calls Try.prog 9 #[.slice sb b.length cb] W fun e w' => e = .returned (.int .i64 (Ix.check (ps b))) ∧ Below W.heap.size W w' := fun W hW => rcheck_any _ b W hW hm
  have HA : Hid (Px w (.slice sa a.length ca) a) := h
  have HK : Hid (Px w (.slice sb b.length cb) b) := k
  clear h k
  by_cases ea : Ix.check (ps a) = 0
  · by_cases eb : Ix.check (ps b) = 0
    · have HM : Hid (Ix.merge (ps a) (ps b) = if 400 < (Ix.puts (ps a) (ps b)).length then ([], 2) else (Ix.puts (ps a) (ps b), 0)) := Ix.merge_is ea eb
      have la : a.length ≤ 400 := by have := (Ix.check_ok.1 ea).1; rwa [List.length_map] at this
      have lb : b.length ≤ 400 := by have := (Ix.check_ok.1 eb).1; rwa [List.length_map] at this
      rw [ea] at hca
      rw [eb] at hcb
      clear ea eb
      go_enter Try.func15, Try.ntmps15
      go_upto_region 4 with (go_at_call 9; refine (hca _ HA.out).mono ?_; rintro e w1 ⟨rfl, hb1'⟩)
      have HA1 : Hid (Px w1 (.slice sa a.length ca) a) := HA.out.below hb1'
      have HK1 : Hid (Px w1 (.slice sb b.length cb) b) := HK.out.below hb1'
      have HB1 : Hid (Below w.heap.size w w1) := hb1'
      clear hb1' HA HK
      go_upto_region 7 with (go_at_call 9; refine (hcb _ HK1.out).mono ?_; rintro e w2 ⟨rfl, hb2'⟩)
      have HA2 : Hid (Px w2 (.slice sa a.length ca) a) := HA1.out.below hb2'
      have HK2 : Hid (Px w2 (.slice sb b.length cb) b) := HK1.out.below hb2'
      have HB2 : Hid (Below w.heap.size w w2) := HB1.out.trans (hb2'.mono HB1.out.size)
      clear hb2' HA1 HK1 HB1 hca hcb
      have hcl := clone_pls _ a w2 HA2.out (by omega)
      go_upto_region 8 with (go_at_call 35; refine hcl.mono ?_; rintro e w3 ⟨v3, rfl, o3, b3⟩)
      obtain ⟨s3, c3, hv3⟩ := ixown_form o3
      subst hv3
      have HN3 : Hid (∀ ad, s3 = some ad → w.heap.size ≤ ad.block) := fun ad e => by
        subst e
        rcases o3.2 with ⟨h4, _⟩ | ⟨g, cap, cur, h4, h5, _⟩
        · simp at h4
        · rw [Value.slice.injEq] at h4
          obtain ⟨rfl, _⟩ := Option.some.inj h4.1
          exact Nat.le_trans HB2.out.size h5
      have HP3 : Hid (Px w3 (.slice s3 a.length c3) a) := Rx.of_own plC_length o3
      have HB3 : Hid (Below w.heap.size w w3) := below_t HB2.out b3
      have HK0 : Hid (Px w2 (.slice sb b.length cb) b) := HK2.out
      have HB23 : Hid (Below w2.heap.size w2 w3) := b3
      have HPU : Hid (pputs a (b.take 0) = a) := rfl
      clear o3 b3 hcl HA2 HB2
      go_wp2_with fail
      go_loopw [8, 25] (fun vo i wr => ∃ (k m : Nat) (O : List Plc) (so : Option Addr) (co : Nat), vo = .slice so m co ∧ k ≤ b.length ∧ m ≤ 800 ∧ i = .int .i64 k ∧ Hid (O.length = m) ∧ Hid (pputs a (b.take k) = O) ∧ Hid (Px wr (.slice so m co) O) ∧ Hid (∀ ad, so = some ad → w.heap.size ≤ ad.block) ∧ Hid (Below w.heap.size w wr) ∧ Hid (Below w2.heap.size w2 wr)) (fun _ i _ => b.length - (intOf i).toNat)
      case atStart => exact ⟨0, a.length, a, s3, c3, rfl, by omega, by omega, rfl, rfl, HPU, HP3, HN3, HB3, HB23⟩
      case round =>
        obtain ⟨k, m, O, so, co, rfl, hk, hm8, rfl, hO, hPO, hpx, hnew, hbel, hbel2⟩ := hrel
        clear HPU HP3 HN3 HB3 HB23
        by_cases hlt : k < b.length
        · obtain ⟨t, ht⟩ : ∃ t, b[k]? = some t := ⟨_, List.getElem?_eq_getElem hlt⟩
          obtain ⟨b0, b1, b2, b3, b4, b5, b6, b7, k1, p1, a1, l1, ht12⟩ := t.as12
          rw [ht12] at ht
          have HT : Hid (b[k]? = some ⟨[b0, b1, b2, b3, b4, b5, b6, b7], rfl, k1, p1, a1, l1⟩) := ht
          obtain ⟨bk, o, hao, hbk, hat⟩ := (HK0.out.below hbel2.out).twelve k ht
          subst hao
          have x0 : wr.cell? ⟨bk, o + k * 12, none⟩ = some (.int .u8 (b0.toNat : Int)) := hat.c0
          have x1 : wr.cell? ⟨bk, o + k * 12 + 1, none⟩ = some (.int .u8 (b1.toNat : Int)) := hat.c1
          have x2 : wr.cell? ⟨bk, o + k * 12 + 2, none⟩ = some (.int .u8 (b2.toNat : Int)) := hat.c2
          have x3 : wr.cell? ⟨bk, o + k * 12 + 3, none⟩ = some (.int .u8 (b3.toNat : Int)) := hat.c3
          have x4 : wr.cell? ⟨bk, o + k * 12 + 4, none⟩ = some (.int .u8 (b4.toNat : Int)) := hat.c4
          have x5 : wr.cell? ⟨bk, o + k * 12 + 5, none⟩ = some (.int .u8 (b5.toNat : Int)) := hat.c5
          have x6 : wr.cell? ⟨bk, o + k * 12 + 6, none⟩ = some (.int .u8 (b6.toNat : Int)) := hat.c6
          have x7 : wr.cell? ⟨bk, o + k * 12 + 7, none⟩ = some (.int .u8 (b7.toNat : Int)) := hat.c7
          have x8 : wr.cell? ⟨bk, o + k * 12 + 8, none⟩ = some (.int .i64 k1) := hat.c8
          have x9 : wr.cell? ⟨bk, o + k * 12 + 9, none⟩ = some (.int .i64 p1) := hat.c9
          have x10 : wr.cell? ⟨bk, o + k * 12 + 10, none⟩ = some (.int .i64 a1) := hat.c10
          have x11 : wr.cell? ⟨bk, o + k * 12 + 11, none⟩ = some (.int .i64 l1) := hat.c11
          clear hat ht ht12 hbk
          obtain ⟨O5, hO5⟩ : ∃ O5, pput O ⟨[b0, b1, b2, b3, b4, b5, b6, b7], rfl, k1, p1, a1, l1⟩ = O5 := ⟨_, rfl⟩
          obtain ⟨m5, hm5⟩ : ∃ m5, O5.length = m5 := ⟨_, rfl⟩
          have HPO5 : Hid (pputs a (b.take (k + 1)) = O5) := by show _ = _; rw [pputs_more HT.out, hPO.out, hO5]
          have hm58 : m5 ≤ 800 := by
            have := pputs_len (b.take (k + 1)) a
            rw [HPO5.out, hm5, List.length_take] at this
            omega
          have ball : Below wr.heap.size wr (wr.alloc (.cells (pl12 b0 b1 b2 b3 b4 b5 b6 b7 k1 p1 a1 l1) 28)) := (Below.refl _ wr).alloc (Nat.le_refl _) _
          have HBA : Hid (Below w.heap.size w (wr.alloc (.cells (pl12 b0 b1 b2 b3 b4 b5 b6 b7 k1 p1 a1 l1) 28))) := below_t hbel.out ball
          have HBA2 : Hid (Below w2.heap.size w2 (wr.alloc (.cells (pl12 b0 b1 b2 b3 b4 b5 b6 b7 k1 p1 a1 l1) 28))) := below_t hbel2.out ball
          have hput := plput_out (.slice so m co) O ⟨[b0, b1, b2, b3, b4, b5, b6, b7], rfl, k1, p1, a1, l1⟩ _ (hpx.out.below ball) (by rw [hO.out]; omega)
          rw [hO5, hm5] at hput
          have hput' : Calls Try.prog 36 #[.slice so m co, .agg (pl12 b0 b1 b2 b3 b4 b5 b6 b7 k1 p1 a1 l1)] (wr.alloc (.cells (pl12 b0 b1 b2 b3 b4 b5 b6 b7 k1 p1 a1 l1) 28)) _ := hput
          have HM5 : Hid (O5.length = m5) := hm5
          clear hput hO5 hm5 ball hO hPO hpx hnew HT
          go_wp2_with (go_at_call 36; refine hput'.mono ?_; rintro e w5 ⟨s5, c5, rfl, p5, n5, d5⟩)
          have HP5 : Hid (Px w5 (.slice s5 m5 c5) O5) := p5
          have HB5 : Hid (Below w.heap.size w w5) := below_t HBA.out d5
          have HB52 : Hid (Below w2.heap.size w2 w5) := below_t HBA2.out d5
          have HN5 : Hid (∀ ad, s5 = some ad → w.heap.size ≤ ad.block) := fun ad e => Nat.le_trans HBA.out.size (n5 ad e)
          clear p5 n5 d5 hput' HBA HBA2 x0 x1 x2 x3 x4 x5 x6 x7 x8 x9 x10 x11
          go_roundw
          case rel => exact ⟨k + 1, m5, O5, s5, c5, rfl, by omega, hm58, by go_num, HM5, HPO5, HP5, HN5, HB5, HB52⟩
          case measure => simp only [intOf]; omega
        · have HF : Hid (ps O = Ix.puts (ps a) (ps b)) := by show _ = _; rw [← hPO.out, List.take_of_length_le (by omega)]; exact ps_pputs b a
          have HLN : Hid ((Ix.puts (ps a) (ps b)).length = m) := by show _ = _; rw [← HF.out, List.length_map]; exact hO.out
          clear hPO
          by_cases hgt : 400 < m
          · go_wp2_with fail
            go_ret2
            have hg : 400 < (Ix.puts (ps a) (ps b)).length := by rw [HLN.out]; exact hgt
            exact ⟨.slice none 0 0, by rw [HM.out, if_pos hg]; rfl, by rw [HM.out, if_pos hg]; exact PlOut.nil hbel.out⟩
          · go_wp2_with fail
            go_ret2
            have hg : ¬ 400 < (Ix.puts (ps a) (ps b)).length := by rw [HLN.out]; exact hgt
            refine ⟨.slice so m co, by rw [HM.out, if_neg hg]; rfl, ?_⟩
            rw [HM.out, if_neg hg]
            exact ⟨O, HF.out, hpx.out, fun x n c e => hnew.out x (by rw [Value.slice.injEq] at e; exact e.1), hbel.out⟩
    · have HM : Hid (Ix.merge (ps a) (ps b) = ([], Ix.check (ps b))) := by show _ = _; unfold Ix.merge; rw [if_neg (fun k => k ea), if_pos eb]
      obtain ⟨er, her⟩ : ∃ er, Ix.check (ps b) = er := ⟨_, rfl⟩
      rw [her] at hcb eb HM
      rw [ea] at hca
      have he2 : (er == 0) = false := by simpa using eb
      clear her ea eb
      go_enter Try.func15, Try.ntmps15
      go_upto_region 4 with (go_at_call 9; refine (hca _ HA.out).mono ?_; rintro e w1 ⟨rfl, hb1'⟩)
      have HK1 : Hid (Px w1 (.slice sb b.length cb) b) := HK.out.below hb1'
      have HB1 : Hid (Below w.heap.size w w1) := hb1'
      clear hb1' HA HK hca
      go_wp2_with (go_at_call 9; refine (hcb _ HK1.out).mono ?_; rintro e w2 ⟨rfl, hb2'⟩)
      go_ret2
      exact ⟨.slice none 0 0, by rw [HM.out]; rfl, by rw [HM.out]; exact PlOut.nil (HB1.out.trans (hb2'.mono HB1.out.size))⟩
  · have HM : Hid (Ix.merge (ps a) (ps b) = ([], Ix.check (ps a))) := Ix.merge_left ea
    obtain ⟨er, her⟩ : ∃ er, Ix.check (ps a) = er := ⟨_, rfl⟩
    rw [her] at hca ea HM
    have he2 : (er == 0) = false := by simpa using ea
    clear hcb her ea
    go_enter Try.func15, Try.ntmps15
    go_wp2_with (go_at_call 9; refine (hca _ HA.out).mono ?_; rintro e w1 ⟨rfl, hb1'⟩)
    go_ret2
    exact ⟨_, by rw [HM.out]; rfl, by rw [HM.out]; exact PlOut.nil hb1'⟩
end Go.Proofs.Ytllioidjelgafaa
