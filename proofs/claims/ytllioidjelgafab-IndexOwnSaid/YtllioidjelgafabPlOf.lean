/-
  What Of of package index answers.
-/
import Derived.Test.YtllioidjelgafabPlMerge
namespace Go.Proofs.Ytllioidjelgafab
open Go.RowKit
set_option maxRecDepth 4000

/-- the place of a row of a pack's list -/
def Ent.pl (n : Int) (e : Ent) : Plc := ⟨e.id, e.hid, e.kind, n, e.at_, e.len⟩
def esP (n : Int) (l : List Ent) : List Plc := l.map (Ent.pl n)
theorem Ent.as11 (t : Ent) : ∃ b0 b1 b2 b3 b4 b5 b6 b7 k a l, t = ⟨[b0, b1, b2, b3, b4, b5, b6, b7], rfl, k, a, l⟩ := by
  obtain ⟨x, hx, k, a, l⟩ := t
  obtain ⟨b0, b1, b2, b3, b4, b5, b6, b7, rfl⟩ := oct x hx
  exact ⟨b0, b1, b2, b3, b4, b5, b6, b7, k, a, l, rfl⟩
theorem es_more {n : Int} {l : List Ent} {k : Nat} {t : Ent} (h : l[k]? = some t) : esP n (l.take (k + 1)) = esP n (l.take k) ++ [t.pl n] := by
  rw [esP, List.take_add_one, h, List.map_append]; rfl
theorem es_turn {n : Int} {l : List Ent} {k : Nat} {t : Ent} (h : l[k]? = some t) : Ix.ofErr (ps (esP n (l.drop k))) = if Ix.plErr (t.pl n).p ≠ 0 then Ix.plErr (t.pl n).p else Ix.ofErr (ps (esP n (l.drop (k + 1)))) := by
  obtain ⟨hk, rfl⟩ := List.getElem?_eq_some_iff.1 h
  rw [List.drop_eq_getElem_cons hk, esP, List.map_cons, ps, List.map_cons, Ix.ofErr]
  rfl
theorem ownp_below {base : Nat} {e : TypeId} {k : Nat} {v : Value} {n : Nat} {xs : List Value} {w w' : World} (h : w.ownsRow base e k v n xs) (hb : Below w.heap.size w w') : w'.ownsRow base e k v n xs := by
  refine ⟨h.1, ?_⟩
  rcases h.2 with h' | ⟨g, cap, cur, h1, h2, h3, h4⟩
  · exact .inl h'
  · exact .inr ⟨g, cap, cur, h1, h2, (hb.block g (Array.getElem?_eq_some_iff.1 h3).1).trans h3, h4⟩
theorem one_cells (W : World) (cs : List Value) (t : TypeId) : ∀ j u, cs[j]? = some u → (W.alloc (.cells cs.toArray t)).cell? ((⟨W.heap.size, 0, none⟩ : Addr).add j) = some u := fun j u hu => by
  rw [show ((⟨W.heap.size, 0, none⟩ : Addr).add j) = ⟨W.heap.size, 0 + j, none⟩ from Addr.add_mid _ _ _, Nat.zero_add, cell_of_row _ W.heap.size j _ _ _ (heap_alloc_new W _)]
  simpa using hu

set_option maxHeartbeats 4000000 in
theorem of_any (n : Int) (v : Value) (l : List Ent) (w : World) (h : Ex w v l) (hl : l.length ≤ 140737488351232) :
    Calls Try.prog 12 #[.int .i64 n, v] w fun e w' => ∃ x, e = .returned (.tuple #[x, .int .i64 (Ix.of n (ps (esP n l))).2]) ∧ PlOut w w' x (Ix.of n (ps (esP n l))).1 := by
  obtain ⟨a, c, rfl, hc1, hc2⟩ := h.slice
  obtain ⟨i0, hi, hz0, hz1, hz2⟩ := info_three info_plz
  have hnum := fun m W => ixNum_any m W
  have hlen : (ps (esP n l)).length = l.length := by rw [ps, List.length_map, esP, List.length_map]
  by_cases hn : 0 ≤ n ∧ n ≤ 1099511627776
  · have hnb : nB n = true := decide_eq_true hn
    by_cases h4 : 400 < l.length
    · have HE : Hid (Ix.of n (ps (esP n l)) = ([], 2)) := by show _ = _; unfold Ix.of; rw [if_neg (by omega), if_pos (by omega)]
      clear h hn
      go_enter Try.func12, Try.ntmps12
      go_wp2_with (go_at_call 24; refine (hnum _ _).mono ?_; rintro e u ⟨rfl, rfl⟩)
      go_ret2
      exact ⟨.slice none 0 0, by rw [HE.out]; rfl, by rw [HE.out]; exact PlOut.nil (Below.refl _ _)⟩
    have h4' : l.length ≤ 400 := by omega
    obtain ⟨E, hE⟩ : ∃ E, Ix.ofErr (ps (esP n l)) = E := ⟨_, rfl⟩
    have HE0 : Hid (Ix.ofErr (ps (esP n (l.drop 0))) = E) := hE
    have HOF : Hid (Ix.of n (ps (esP n l)) = if E ≠ 0 then ([], E) else (Ix.puts [] (ps (esP n l)), 0)) := by
      show _ = _
      unfold Ix.of
      rw [if_neg (by omega), if_neg (by omega), hE]
    have HST : Hid (ps (stl (esP n l)) = Ix.puts [] (ps (esP n l))) := stl_puts _
    have HH : Hid (Ex w (.slice a l.length c) l) := h
    have hck := fun t W => ckPlace_any t W
    clear h hE h4 hn hlen
    go_enter Try.func12, Try.ntmps12
    go_wp2_with (go_at_call 24; refine (hnum _ _).mono ?_; rintro e u ⟨rfl, hu⟩; obtain rfl := hu.symm; clear hu)
    clear hnum hnb
    go_loopw [6, 19] (fun vi i wr => ∃ k : Nat, k ≤ l.length ∧ i = .int .i64 k ∧ Hid (Ix.ofErr (ps (esP n (l.drop k))) = E) ∧ Hid (wr.ownsRow w.heap.size 29 12 vi (esP n (l.take k)).length (rowR plC (esP n (l.take k)))) ∧ Hid (Below w.heap.size w wr)) (fun _ i _ => l.length - (intOf i).toNat)
    case atStart => exact ⟨0, by omega, rfl, HE0, World.ownsRow_nil _ _ _ _, Below.refl _ _⟩
    case round =>
      obtain ⟨k, hk, rfl, he, hown, hbel⟩ := hrel
      clear HE0
      by_cases hlt : k < l.length
      · obtain ⟨t, ht⟩ : ∃ t, l[k]? = some t := ⟨_, List.getElem?_eq_getElem hlt⟩
        obtain ⟨b0, b1, b2, b3, b4, b5, b6, b7, kd, at1, ln, ht11⟩ := t.as11
        have HT : Hid (l[k]? = some t) := ht
        obtain ⟨bk, o, hao, hbk, hat⟩ := (HH.out.below hbel.out).get k t ht
        rw [ht11] at hat
        subst hao
        have ep : t.pl n = ⟨[b0, b1, b2, b3, b4, b5, b6, b7], rfl, kd, n, at1, ln⟩ := by rw [ht11]; rfl
        have HEP : Hid (t.pl n = ⟨[b0, b1, b2, b3, b4, b5, b6, b7], rfl, kd, n, at1, ln⟩) := ep
        have hck1 : ∀ W, Calls Try.prog 25 #[.agg (pl12 b0 b1 b2 b3 b4 b5 b6 b7 kd n at1 ln)] W fun e w' => e = .returned (.int .i64 (Ix.plErr (t.pl n).p)) ∧ Below W.heap.size W w' := fun W => by
          have := hck (t.pl n) W
          rw [ep] at this ⊢
          exact this
        obtain ⟨er, her⟩ : ∃ er, Ix.plErr (t.pl n).p = er := ⟨_, rfl⟩
        have HER : Hid (Ix.plErr (t.pl n).p = er) := her
        rw [her] at hck1
        have x0 : wr.cell? ⟨bk, o + k * 11, none⟩ = some (.int .u8 (b0.toNat : Int)) := hat 0 _ rfl
        have x1 : wr.cell? ⟨bk, o + k * 11 + 1, none⟩ = some (.int .u8 (b1.toNat : Int)) := hat 1 _ rfl
        have x2 : wr.cell? ⟨bk, o + k * 11 + 2, none⟩ = some (.int .u8 (b2.toNat : Int)) := hat 2 _ rfl
        have x3 : wr.cell? ⟨bk, o + k * 11 + 3, none⟩ = some (.int .u8 (b3.toNat : Int)) := hat 3 _ rfl
        have x4 : wr.cell? ⟨bk, o + k * 11 + 4, none⟩ = some (.int .u8 (b4.toNat : Int)) := hat 4 _ rfl
        have x5 : wr.cell? ⟨bk, o + k * 11 + 5, none⟩ = some (.int .u8 (b5.toNat : Int)) := hat 5 _ rfl
        have x6 : wr.cell? ⟨bk, o + k * 11 + 6, none⟩ = some (.int .u8 (b6.toNat : Int)) := hat 6 _ rfl
        have x7 : wr.cell? ⟨bk, o + k * 11 + 7, none⟩ = some (.int .u8 (b7.toNat : Int)) := hat 7 _ rfl
        have x8 : wr.cell? ⟨bk, o + k * 11 + 8, none⟩ = some (.int .i64 kd) := hat 8 _ rfl
        have x9 : wr.cell? ⟨bk, o + k * 11 + 9, none⟩ = some (.int .i64 at1) := hat 9 _ rfl
        have x10 : wr.cell? ⟨bk, o + k * 11 + 10, none⟩ = some (.int .i64 ln) := hat 10 _ rfl
        clear hat her ht ht11 ep hck
        have s1 : (wr.alloc (.cells #[.int .u8 (b0.toNat : Int), .int .u8 (b1.toNat : Int), .int .u8 (b2.toNat : Int), .int .u8 (b3.toNat : Int), .int .u8 (b4.toNat : Int), .int .u8 (b5.toNat : Int), .int .u8 (b6.toNat : Int), .int .u8 (b7.toNat : Int), .int .i64 kd, .int .i64 at1, .int .i64 ln] 40)).heap.size = wr.heap.size + 1 := by show (wr.heap.push _).size = _; simp
        have hb1 : Below w.heap.size w (wr.alloc (.cells #[.int .u8 (b0.toNat : Int), .int .u8 (b1.toNat : Int), .int .u8 (b2.toNat : Int), .int .u8 (b3.toNat : Int), .int .u8 (b4.toNat : Int), .int .u8 (b5.toNat : Int), .int .u8 (b6.toNat : Int), .int .u8 (b7.toNat : Int), .int .i64 kd, .int .i64 at1, .int .i64 ln] 40)) := hbel.out.alloc hbel.out.size _
        have HN : Hid (At12 ((wr.alloc (.cells #[.int .u8 (b0.toNat : Int), .int .u8 (b1.toNat : Int), .int .u8 (b2.toNat : Int), .int .u8 (b3.toNat : Int), .int .u8 (b4.toNat : Int), .int .u8 (b5.toNat : Int), .int .u8 (b6.toNat : Int), .int .u8 (b7.toNat : Int), .int .i64 kd, .int .i64 at1, .int .i64 ln] 40)).alloc (.cells (pl12 b0 b1 b2 b3 b4 b5 b6 b7 kd n at1 ln) 29)) (wr.heap.size + 1) 0 b0 b1 b2 b3 b4 b5 b6 b7 kd n at1 ln) := by
          have := At12.new (wr.alloc (.cells #[.int .u8 (b0.toNat : Int), .int .u8 (b1.toNat : Int), .int .u8 (b2.toNat : Int), .int .u8 (b3.toNat : Int), .int .u8 (b4.toNat : Int), .int .u8 (b5.toNat : Int), .int .u8 (b6.toNat : Int), .int .u8 (b7.toNat : Int), .int .i64 kd, .int .i64 at1, .int .i64 ln] 40)) 29 b0 b1 b2 b3 b4 b5 b6 b7 kd n at1 ln
          rw [s1] at this
          exact this
        have HS2 : Hid (((wr.alloc (.cells #[.int .u8 (b0.toNat : Int), .int .u8 (b1.toNat : Int), .int .u8 (b2.toNat : Int), .int .u8 (b3.toNat : Int), .int .u8 (b4.toNat : Int), .int .u8 (b5.toNat : Int), .int .u8 (b6.toNat : Int), .int .u8 (b7.toNat : Int), .int .i64 kd, .int .i64 at1, .int .i64 ln] 40)).alloc (.cells (pl12 b0 b1 b2 b3 b4 b5 b6 b7 kd n at1 ln) 29)).heap.size = wr.heap.size + 2) := by show ((wr.alloc _).heap.push _).size = _; rw [Array.size_push, s1]
        have HB1 : Hid (Below w.heap.size w ((wr.alloc (.cells #[.int .u8 (b0.toNat : Int), .int .u8 (b1.toNat : Int), .int .u8 (b2.toNat : Int), .int .u8 (b3.toNat : Int), .int .u8 (b4.toNat : Int), .int .u8 (b5.toNat : Int), .int .u8 (b6.toNat : Int), .int .u8 (b7.toNat : Int), .int .i64 kd, .int .i64 at1, .int .i64 ln] 40)).alloc (.cells (pl12 b0 b1 b2 b3 b4 b5 b6 b7 kd n at1 ln) 29))) := hb1.alloc hb1.size _
        have HO1 : Hid (∀ W', Below (wr.heap.size + 2) ((wr.alloc (.cells #[.int .u8 (b0.toNat : Int), .int .u8 (b1.toNat : Int), .int .u8 (b2.toNat : Int), .int .u8 (b3.toNat : Int), .int .u8 (b4.toNat : Int), .int .u8 (b5.toNat : Int), .int .u8 (b6.toNat : Int), .int .u8 (b7.toNat : Int), .int .i64 kd, .int .i64 at1, .int .i64 ln] 40)).alloc (.cells (pl12 b0 b1 b2 b3 b4 b5 b6 b7 kd n at1 ln) 29)) W' → Below wr.heap.size wr W') := fun W' hW' =>
          ((((Below.refl wr.heap.size wr).alloc (Nat.le_refl _) _).alloc (by rw [s1]; omega) _).trans (hW'.mono (by omega)))
        clear s1 hb1
        by_cases hEr : er = 0
        · subst hEr
          have HE2 : Hid (Ix.ofErr (ps (esP n (l.drop (k + 1)))) = E) := by
            show _ = _
            have := es_turn (n := n) HT.out
            rw [HER.out, if_neg (fun k => k rfl)] at this
            rw [← this]
            exact he.out
          clear he HER
          go_upto_region 13 with (go_at_call 25; refine (hck1 _).mono ?_; rintro e w2 ⟨rfl, hb2⟩)
          have hb2' := HS2.out ▸ hb2
          have HN2 := HN.out.below hb2' (by omega)
          have HB2 : Hid (Below w.heap.size w w2) := HB1.out.trans (hb2'.mono (by have := hbel.out.size; omega))
          have HW2 := HO1.out w2 hb2'
          have hown2 := ownp_below hown.out HW2
          have hsz := HB2.out.size
          have HM : Hid (esP n (l.take (k + 1)) = esP n (l.take k) ++ [t.pl n]) := es_more HT.out
          have hlk : (esP n (l.take k)).length = k := by rw [esP, List.length_map, List.length_take]; omega
          clear hb2 hb2' hck1 HN HB1 HS2 HO1 hown HW2 x0 x1 x2 x3 x4 x5 x6 x7 x8 x9 x10
          have z0 : w2.cell? ⟨wr.heap.size + 1, 0, none⟩ = some (.int .u8 (b0.toNat : Int)) := HN2.c0
          have z1 : w2.cell? ⟨wr.heap.size + 1, 1, none⟩ = some (.int .u8 (b1.toNat : Int)) := HN2.c1
          have z2 : w2.cell? ⟨wr.heap.size + 1, 2, none⟩ = some (.int .u8 (b2.toNat : Int)) := HN2.c2
          have z3 : w2.cell? ⟨wr.heap.size + 1, 3, none⟩ = some (.int .u8 (b3.toNat : Int)) := HN2.c3
          have z4 : w2.cell? ⟨wr.heap.size + 1, 4, none⟩ = some (.int .u8 (b4.toNat : Int)) := HN2.c4
          have z5 : w2.cell? ⟨wr.heap.size + 1, 5, none⟩ = some (.int .u8 (b5.toNat : Int)) := HN2.c5
          have z6 : w2.cell? ⟨wr.heap.size + 1, 6, none⟩ = some (.int .u8 (b6.toNat : Int)) := HN2.c6
          have z7 : w2.cell? ⟨wr.heap.size + 1, 7, none⟩ = some (.int .u8 (b7.toNat : Int)) := HN2.c7
          have z8 : w2.cell? ⟨wr.heap.size + 1, 8, none⟩ = some (.int .i64 kd) := HN2.c8
          have z9 : w2.cell? ⟨wr.heap.size + 1, 9, none⟩ = some (.int .i64 n) := HN2.c9
          have z10 : w2.cell? ⟨wr.heap.size + 1, 10, none⟩ = some (.int .i64 at1) := HN2.c10
          have z11 : w2.cell? ⟨wr.heap.size + 1, 11, none⟩ = some (.int .i64 ln) := HN2.c11
          clear HN2
          generalize esP n (l.take k) = S at *
          have HLK : Hid (S.length = k) := hlk
          rw [hlk] at hown2
          clear hlk
          have hone := one_cells w2 (pl12 b0 b1 b2 b3 b4 b5 b6 b7 kd n at1 ln).toList 29
          have hown3 := hown2.alloc (.cells (pl12 b0 b1 b2 b3 b4 b5 b6 b7 kd n at1 ln) 29)
          have HBA : Hid (Below w.heap.size w (w2.alloc (.cells (pl12 b0 b1 b2 b3 b4 b5 b6 b7 kd n at1 ln) 29))) := HB2.out.alloc hsz _
          have hsa : w.heap.size ≤ (w2.alloc (.cells (pl12 b0 b1 b2 b3 b4 b5 b6 b7 kd n at1 ln) 29)).heap.size := HBA.out.size
          go_wp2_with (at_builtin; refine wpList_append_own _ rfl (.tmp 38) (.tmp 40) 22 rfl w.heap.size 29 i0 (plV pl0) 12 40 Try.underlying22 hi hz0 hz1 hz2 (by kernel_rfl) (by decide) _ _ _ rfl hown3 ⟨w2.heap.size, 0, none⟩ 1 1 (pl12 b0 b1 b2 b3 b4 b5 b6 b7 kd n at1 ln).toList rfl rfl hone ?c2 ?c3 ?c4 ?c5 ?_)
          case c2 => exact ⟨rfl, rfl, rfl, rfl, rfl, rfl, rfl, rfl, rfl, rfl, rfl, rfl⟩
          case c3 => unfold maxLen; omega
          case c4 => omega
          case c5 => omega
          intro v1 w3 hown4 hgrow _
          have HO : Hid (w3.ownsRow w.heap.size 29 12 v1 (esP n (l.take (k + 1))).length (rowR plC (esP n (l.take (k + 1))))) := by
            rw [HM.out, rowR_more, List.length_append, HLK.out, HEP.out]
            exact hown4
          have HB3 : Hid (Below w.heap.size w w3) := HBA.out.grown hgrow hsa fun j hj => (hown3.lt j hj).1
          clear hown4 hgrow hown3 hown2 hone HBA HB2 hsa z0 z1 z2 z3 z4 z5 z6 z7 z8 z9 z10 z11
          go_wp2_with fail
          go_roundw
          case rel => exact ⟨k + 1, by omega, by go_num, HE2, HO, HB3⟩
          case measure => simp only [intOf]; omega
        · have HR : Hid (E = er) := by
            show _ = _
            have := es_turn (n := n) HT.out
            rw [HER.out, if_pos hEr] at this
            rw [← he.out, this]
          have HNE : Hid (er ≠ 0) := hEr
          have hE2 : (er == 0) = false := by simpa using hEr
          clear he HER hEr
          go_wp2_with (go_at_call 25; refine (hck1 _).mono ?_; rintro e w2 ⟨rfl, hb2⟩)
          go_ret2
          have HF : Ix.of n (ps (esP n l)) = ([], er) := by rw [HOF.out, HR.out, if_pos HNE.out]
          exact ⟨.slice none 0 0, by rw [HF]; rfl, by rw [HF]; exact PlOut.nil (HB1.out.trans (hb2.mono (by rw [HS2.out]; have := hbel.out.size; omega)))⟩
      · have HR : Hid (E = 0) := by
          show _ = _
          rw [← he.out, List.drop_eq_nil_of_le (by omega)]
          rfl
        have hke : l.take k = l := List.take_of_length_le (by omega)
        rw [hke] at hown
        have hst := settle_any _ (esP n l) wr w.heap.size hown.out (by rw [esP, List.length_map]; omega)
        clear he hck hke hown
        go_wp2_with (go_at_call 22; refine hst.mono ?_; rintro e w4 ⟨v4, rfl, hp4, hn4, hb4⟩)
        go_ret2
        have HF : Ix.of n (ps (esP n l)) = (Ix.puts [] (ps (esP n l)), 0) := by rw [HOF.out, HR.out, if_neg (fun k => k rfl)]
        refine ⟨v4, by rw [HF]; rfl, ?_⟩
        rw [HF]
        exact ⟨stl (esP n l), HST.out, hp4, hn4, hbel.out.trans hb4⟩
  · have hnb : nB n = false := decide_eq_false hn
    have HE : Hid (Ix.of n (ps (esP n l)) = ([], 1)) := by show _ = _; unfold Ix.of; rw [if_pos (by omega)]
    clear h hn
    go_enter Try.func12, Try.ntmps12
    go_wp2_with (go_at_call 24; refine (hnum _ _).mono ?_; rintro e u ⟨rfl, rfl⟩)
    go_ret2
    exact ⟨.slice none 0 0, by rw [HE.out]; rfl, by rw [HE.out]; exact PlOut.nil (Below.refl _ _)⟩
end Go.Proofs.Ytllioidjelgafab
