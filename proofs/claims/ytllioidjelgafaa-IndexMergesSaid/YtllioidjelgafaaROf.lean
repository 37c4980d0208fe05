/-
  What IndexOf of the library's reference answers.
-/
import Derived.Test.YtllioidjelgafaaRMrgM
import Derived.Test.YtllioidjelgafaaPlTell
namespace Go.Proofs.Ytllioidjelgafaa
open Go.RowKit
set_option maxRecDepth 4000

set_option maxHeartbeats 4000000 in
theorem rof_pl (n : Int) (v : Value) (l : List Ent) (w : World) (h : Ex w v l) (hl : l.length ≤ 140737488351232) :
    Calls Try.prog 17 #[.int .i64 n, v] w fun e w' => ∃ x, e = .returned (.tuple #[x, .int .i64 (Ix.of n (ps (esP n l))).2]) ∧ PlOut w w' x (Ix.of n (ps (esP n l))).1 := by
  obtain ⟨a, c, rfl, hc1, hc2⟩ := h.slice
  have hlen : (ps (esP n l)).length = l.length := by rw [ps, List.length_map, esP, List.length_map]
  by_cases hn : 0 ≤ n ∧ n ≤ 1099511627776
  · have hn0 : decide (n < 0) = false := decide_eq_false (by omega)
    have hn1 : decide (1099511627776 < n) = false := decide_eq_false (by omega)
    by_cases h4 : 400 < l.length
    · have HE : Hid (Ix.of n (ps (esP n l)) = ([], 2)) := by show _ = _; unfold Ix.of; rw [if_neg (by omega), if_pos (by omega)]
      clear h hn
      go_enter Try.func17, Try.ntmps17
      go_wp2_with fail
      go_ret2
      exact ⟨.slice none 0 0, by rw [HE.out]; rfl, by rw [HE.out]; exact PlOut.nil (Below.refl _ _)⟩
    have h4' : l.length ≤ 400 := by omega
    obtain ⟨E, hE⟩ : ∃ E, Ix.ofErr (ps (esP n l)) = E := ⟨_, rfl⟩
    have HE0 : Hid (Ix.ofErr (ps (esP n (l.drop 0))) = E) := hE
    have HOF : Hid (Ix.of n (ps (esP n l)) = if E ≠ 0 then ([], E) else (Ix.puts [] (ps (esP n l)), 0)) := by
      show _ = _
      unfold Ix.of
      rw [if_neg (by omega), if_neg (by omega), hE]
    have HH : Hid (Ex w (.slice a l.length c) l) := h
    have hck := fun t W => rplace_any t W
    clear h hE h4 hn hlen
    go_enter Try.func17, Try.ntmps17
    go_wp2_with fail
    clear hn0 hn1
    go_loopw [6, 22] (fun vo i wr => ∃ (k m : Nat) (O : List Plc) (so : Option Addr) (co : Nat), vo = .slice so m co ∧ k ≤ l.length ∧ m ≤ 400 ∧ i = .int .i64 k ∧ Hid (Ix.ofErr (ps (esP n (l.drop k))) = E) ∧ Hid (O.length = m) ∧ Hid (pputs [] (esP n (l.take k)) = O) ∧ Hid (Px wr (.slice so m co) O) ∧ Hid (∀ ad, so = some ad → w.heap.size ≤ ad.block) ∧ Hid (Below w.heap.size w wr)) (fun _ i _ => l.length - (intOf i).toNat)
    case atStart => exact ⟨0, 0, [], none, 0, rfl, by omega, by omega, rfl, HE0, rfl, rfl, px_nil w, fun ad e => by simp at e, Below.refl _ _⟩
    case round =>
      obtain ⟨k, m, O, so, co, rfl, hk, hm4, rfl, he, hO, hPO, hpx, hnew, hbel⟩ := hrel
      clear HE0
      by_cases hlt : k < l.length
      · obtain ⟨t, ht⟩ : ∃ t, l[k]? = some t := ⟨_, List.getElem?_eq_getElem hlt⟩
        obtain ⟨b0, b1, b2, b3, b4, b5, b6, b7, kd, at1, ln, ht11⟩ := t.as11
        have HT : Hid (l[k]? = some t) := ht
        obtain ⟨bk, o, hao, hbk, hat⟩ := (HH.out.below hbel.out).get k t ht
        rw [ht11] at hat
        subst hao
        have ep : t.pl n = ⟨[b0, b1, b2, b3, b4, b5, b6, b7], rfl, kd, n, at1, ln⟩ := by rw [ht11]; rfl
        have HEP : Hid (t.pl n = ⟨[b0, b1, b2, b3, b4, b5, b6, b7], rfl, kd, n, at1, ln⟩) := ep
        have hck1 : ∀ W, Calls Try.prog 28 #[.agg (pl12 b0 b1 b2 b3 b4 b5 b6 b7 kd n at1 ln)] W fun e w' => e = .returned (.int .i64 (Ix.plErr (t.pl n).p)) ∧ Below W.heap.size W w' := fun W => by
          have := hck (t.pl n) W
          rw [ep] at this ⊢
          exact this
        obtain ⟨er, her⟩ : ∃ er, Ix.plErr (t.pl n).p = er := ⟨_, rfl⟩
        have HER : Hid (Ix.plErr (t.pl n).p = er) := her
        rw [her] at hck1
        have x0 : wr.cell? ⟨bk, o + k * 11, none⟩ = some (.int .u8 (b0.toNat : Int)) := hat 0 _ rfl
        have x1 : wr.cell? ⟨bk, o + k * 11 + 1, none⟩ = some (.int .u8 (b1.toNat : Int)) := hat 1 _ rfl
        have x2 : wr.cell? ⟨bk, o + k * 11 + 2, none⟩ = some (.int .u8 (b2.toNat : Int)) := hat 2 _ rfl
        have x3 : wr.cell? ⟨bk, o + k * 11 + 3, none⟩ = some (.int .u8 (b3.toNat : Int)) := hat 3 _ rfl
        have x4 : wr.cell? ⟨bk, o + k * 11 + 4, none⟩ = some (.int .u8 (b4.toNat : Int)) := hat 4 _ rfl
        have x5 : wr.cell? ⟨bk, o + k * 11 + 5, none⟩ = some (.int .u8 (b5.toNat : Int)) := hat 5 _ rfl
        have x6 : wr.cell? ⟨bk, o + k * 11 + 6, none⟩ = some (.int .u8 (b6.toNat : Int)) := hat 6 _ rfl
        have x7 : wr.cell? ⟨bk, o + k * 11 + 7, none⟩ = some (.int .u8 (b7.toNat : Int)) := hat 7 _ rfl
        have x8 : wr.cell? ⟨bk, o + k * 11 + 8, none⟩ = some (.int .i64 kd) := hat 8 _ rfl
        have x9 : wr.cell? ⟨bk, o + k * 11 + 9, none⟩ = some (.int .i64 at1) := hat 9 _ rfl
        have x10 : wr.cell? ⟨bk, o + k * 11 + 10, none⟩ = some (.int .i64 ln) := hat 10 _ rfl
        clear hat her ht ht11 ep hck
        have s1 : (wr.alloc (.cells #[.int .u8 (b0.toNat : Int), .int .u8 (b1.toNat : Int), .int .u8 (b2.toNat : Int), .int .u8 (b3.toNat : Int), .int .u8 (b4.toNat : Int), .int .u8 (b5.toNat : Int), .int .u8 (b6.toNat : Int), .int .u8 (b7.toNat : Int), .int .i64 kd, .int .i64 at1, .int .i64 ln] 51)).heap.size = wr.heap.size + 1 := by show (wr.heap.push _).size = _; simp
        have hb1 : Below w.heap.size w (wr.alloc (.cells #[.int .u8 (b0.toNat : Int), .int .u8 (b1.toNat : Int), .int .u8 (b2.toNat : Int), .int .u8 (b3.toNat : Int), .int .u8 (b4.toNat : Int), .int .u8 (b5.toNat : Int), .int .u8 (b6.toNat : Int), .int .u8 (b7.toNat : Int), .int .i64 kd, .int .i64 at1, .int .i64 ln] 51)) := hbel.out.alloc hbel.out.size _
        have HN : Hid (At12 ((wr.alloc (.cells #[.int .u8 (b0.toNat : Int), .int .u8 (b1.toNat : Int), .int .u8 (b2.toNat : Int), .int .u8 (b3.toNat : Int), .int .u8 (b4.toNat : Int), .int .u8 (b5.toNat : Int), .int .u8 (b6.toNat : Int), .int .u8 (b7.toNat : Int), .int .i64 kd, .int .i64 at1, .int .i64 ln] 51)).alloc (.cells (pl12 b0 b1 b2 b3 b4 b5 b6 b7 kd n at1 ln) 28)) (wr.heap.size + 1) 0 b0 b1 b2 b3 b4 b5 b6 b7 kd n at1 ln) := by
          have := At12.new (wr.alloc (.cells #[.int .u8 (b0.toNat : Int), .int .u8 (b1.toNat : Int), .int .u8 (b2.toNat : Int), .int .u8 (b3.toNat : Int), .int .u8 (b4.toNat : Int), .int .u8 (b5.toNat : Int), .int .u8 (b6.toNat : Int), .int .u8 (b7.toNat : Int), .int .i64 kd, .int .i64 at1, .int .i64 ln] 51)) 28 b0 b1 b2 b3 b4 b5 b6 b7 kd n at1 ln
          rw [s1] at this
          exact this
        have HS2 : Hid (((wr.alloc (.cells #[.int .u8 (b0.toNat : Int), .int .u8 (b1.toNat : Int), .int .u8 (b2.toNat : Int), .int .u8 (b3.toNat : Int), .int .u8 (b4.toNat : Int), .int .u8 (b5.toNat : Int), .int .u8 (b6.toNat : Int), .int .u8 (b7.toNat : Int), .int .i64 kd, .int .i64 at1, .int .i64 ln] 51)).alloc (.cells (pl12 b0 b1 b2 b3 b4 b5 b6 b7 kd n at1 ln) 28)).heap.size = wr.heap.size + 2) := by show ((wr.alloc _).heap.push _).size = _; rw [Array.size_push, s1]
        have HB1 : Hid (Below w.heap.size w ((wr.alloc (.cells #[.int .u8 (b0.toNat : Int), .int .u8 (b1.toNat : Int), .int .u8 (b2.toNat : Int), .int .u8 (b3.toNat : Int), .int .u8 (b4.toNat : Int), .int .u8 (b5.toNat : Int), .int .u8 (b6.toNat : Int), .int .u8 (b7.toNat : Int), .int .i64 kd, .int .i64 at1, .int .i64 ln] 51)).alloc (.cells (pl12 b0 b1 b2 b3 b4 b5 b6 b7 kd n at1 ln) 28))) := hb1.alloc hb1.size _
        have HO1 : Hid (∀ W', Below (wr.heap.size + 2) ((wr.alloc (.cells #[.int .u8 (b0.toNat : Int), .int .u8 (b1.toNat : Int), .int .u8 (b2.toNat : Int), .int .u8 (b3.toNat : Int), .int .u8 (b4.toNat : Int), .int .u8 (b5.toNat : Int), .int .u8 (b6.toNat : Int), .int .u8 (b7.toNat : Int), .int .i64 kd, .int .i64 at1, .int .i64 ln] 51)).alloc (.cells (pl12 b0 b1 b2 b3 b4 b5 b6 b7 kd n at1 ln) 28)) W' → Below wr.heap.size wr W') := fun W' hW' =>
          ((((Below.refl wr.heap.size wr).alloc (Nat.le_refl _) _).alloc (by rw [s1]; omega) _).trans (hW'.mono (by omega)))
        clear s1 hb1
        by_cases hEr : er = 0
        · subst hEr
          have HE2 : Hid (Ix.ofErr (ps (esP n (l.drop (k + 1)))) = E) := by
            show _ = _
            have := es_turn (n := n) HT.out
            rw [HER.out, if_neg (fun k => k rfl)] at this
            rw [← this]
            exact he.out
          clear he HER
          go_upto_region 13 with (go_at_call 28; refine (hck1 _).mono ?_; rintro e w2 ⟨rfl, hb2⟩)
          have hb2' := HS2.out ▸ hb2
          have HN2 := HN.out.below hb2' (by omega)
          have HB2 : Hid (Below w.heap.size w w2) := HB1.out.trans (hb2'.mono (by have := hbel.out.size; omega))
          have HW2 := HO1.out w2 hb2'
          have hsz := HB2.out.size
          clear hb2 hb2' hck1 HN HB1 HS2 HO1 x0 x1 x2 x3 x4 x5 x6 x7 x8 x9 x10
          have z0 : w2.cell? ⟨wr.heap.size + 1, 0, none⟩ = some (.int .u8 (b0.toNat : Int)) := HN2.c0
          have z1 : w2.cell? ⟨wr.heap.size + 1, 1, none⟩ = some (.int .u8 (b1.toNat : Int)) := HN2.c1
          have z2 : w2.cell? ⟨wr.heap.size + 1, 2, none⟩ = some (.int .u8 (b2.toNat : Int)) := HN2.c2
          have z3 : w2.cell? ⟨wr.heap.size + 1, 3, none⟩ = some (.int .u8 (b3.toNat : Int)) := HN2.c3
          have z4 : w2.cell? ⟨wr.heap.size + 1, 4, none⟩ = some (.int .u8 (b4.toNat : Int)) := HN2.c4
          have z5 : w2.cell? ⟨wr.heap.size + 1, 5, none⟩ = some (.int .u8 (b5.toNat : Int)) := HN2.c5
          have z6 : w2.cell? ⟨wr.heap.size + 1, 6, none⟩ = some (.int .u8 (b6.toNat : Int)) := HN2.c6
          have z7 : w2.cell? ⟨wr.heap.size + 1, 7, none⟩ = some (.int .u8 (b7.toNat : Int)) := HN2.c7
          have z8 : w2.cell? ⟨wr.heap.size + 1, 8, none⟩ = some (.int .i64 kd) := HN2.c8
          have z9 : w2.cell? ⟨wr.heap.size + 1, 9, none⟩ = some (.int .i64 n) := HN2.c9
          have z10 : w2.cell? ⟨wr.heap.size + 1, 10, none⟩ = some (.int .i64 at1) := HN2.c10
          have z11 : w2.cell? ⟨wr.heap.size + 1, 11, none⟩ = some (.int .i64 ln) := HN2.c11
          clear HN2

          obtain ⟨O5, hO5⟩ : ∃ O5, pput O (t.pl n) = O5 := ⟨_, rfl⟩
          obtain ⟨m5, hm5⟩ : ∃ m5, O5.length = m5 := ⟨_, rfl⟩
          have HPO5 : Hid (pputs [] (esP n (l.take (k + 1))) = O5) := by
            show _ = _
            rw [es_more HT.out, pputs, List.foldl_append, show List.foldl pput [] (esP n (l.take k)) = pputs [] (esP n (l.take k)) from rfl, hPO.out]
            exact hO5
          have hm58 : m5 ≤ 400 := by
            have := pputs_len (esP n (l.take (k + 1))) []
            rw [HPO5.out, hm5, esP, List.length_map, List.length_take, List.length_nil] at this
            omega
          have hput := plput_out (.slice so m co) O (t.pl n) w2 (hpx.out.below HW2) (by rw [hO.out]; omega)
          rw [hO5, hm5, HEP.out] at hput
          have hput' : Calls Try.prog 36 #[.slice so m co, .agg (pl12 b0 b1 b2 b3 b4 b5 b6 b7 kd n at1 ln)] w2 _ := hput
          have HM5 : Hid (O5.length = m5) := hm5
          clear hput hO5 hm5 hO hPO hpx hnew HW2
          go_wp2_with (go_at_call 36; refine hput'.mono ?_; rintro e w5 ⟨s5, c5, rfl, p5, n5, d5⟩)
          have HP5 : Hid (Px w5 (.slice s5 m5 c5) O5) := p5
          have HB5 : Hid (Below w.heap.size w w5) := below_t HB2.out d5
          have HN5 : Hid (∀ ad, s5 = some ad → w.heap.size ≤ ad.block) := fun ad e => Nat.le_trans HB2.out.size (n5 ad e)
          clear p5 n5 d5 hput' HB2 z0 z1 z2 z3 z4 z5 z6 z7 z8 z9 z10 z11
          go_roundw
          case rel => exact ⟨k + 1, m5, O5, s5, c5, rfl, by omega, hm58, by go_num, HE2, HM5, HPO5, HP5, HN5, HB5⟩
          case measure => simp only [intOf]; omega
        · have HR : Hid (E = er) := by
            show _ = _
            have := es_turn (n := n) HT.out
            rw [HER.out, if_pos hEr] at this
            rw [← he.out, this]
          have HNE : Hid (er ≠ 0) := hEr
          have hE2 : (er == 0) = false := by simpa using hEr
          clear he HER hEr
          go_wp2_with (go_at_call 28; refine (hck1 _).mono ?_; rintro e w2 ⟨rfl, hb2⟩)
          go_ret2
          have HF : Ix.of n (ps (esP n l)) = ([], er) := by rw [HOF.out, HR.out, if_pos HNE.out]
          exact ⟨.slice none 0 0, by rw [HF]; rfl, by rw [HF]; exact PlOut.nil (HB1.out.trans (hb2.mono (by rw [HS2.out]; have := hbel.out.size; omega)))⟩
      · have HR : Hid (E = 0) := by
          show _ = _
          rw [← he.out, List.drop_eq_nil_of_le (by omega)]
          rfl
        have HF2 : Hid (ps O = Ix.puts [] (ps (esP n l))) := by show _ = _; rw [← hPO.out, List.take_of_length_le (by omega)]; exact ps_pputs _ []
        clear he hck hPO
        go_wp2_with fail
        go_ret2
        have HF : Ix.of n (ps (esP n l)) = (Ix.puts [] (ps (esP n l)), 0) := by rw [HOF.out, HR.out, if_neg (fun k => k rfl)]
        refine ⟨.slice so m co, by rw [HF]; rfl, ?_⟩
        rw [HF]
        have hpx2 := hpx.out
        exact ⟨O, HF2.out, hpx2, fun x n c e => hnew.out x (by rw [Value.slice.injEq] at e; exact e.1), hbel.out⟩
  · have HE : Hid (Ix.of n (ps (esP n l)) = ([], 1)) := by show _ = _; unfold Ix.of; rw [if_pos (by omega)]
    by_cases hneg : n < 0
    · have hn0 : decide (n < 0) = true := decide_eq_true hneg
      clear h hn
      go_enter Try.func17, Try.ntmps17
      go_wp2_with fail
      go_ret2
      exact ⟨.slice none 0 0, by rw [HE.out]; rfl, by rw [HE.out]; exact PlOut.nil (Below.refl _ _)⟩
    · have hn0 : decide (n < 0) = false := decide_eq_false hneg
      have hn1 : decide (1099511627776 < n) = true := decide_eq_true (by omega)
      clear h hn
      go_enter Try.func17, Try.ntmps17
      go_wp2_with fail
      go_ret2
      exact ⟨.slice none 0 0, by rw [HE.out]; rfl, by rw [HE.out]; exact PlOut.nil (Below.refl _ _)⟩
end Go.Proofs.Ytllioidjelgafaa
