/-
  The walk of the statement IndexOwn: it answers true.
-/
import Derived.Test.YtllioidjelgafabOwPls
import Derived.Test.YtllioidjelgafabOwEnts
import Derived.Test.YtllioidjelgafabPlTell
import Derived.Test.YtllioidjelgafabPlOpen
namespace Go.Proofs.Ytllioidjelgafab
open Go.RowKit
set_option maxRecDepth 4000

theorem own_merge_len (a b : List Ix.Pl) : (Ix.merge a b).1.length ≤ 400 := by
  by_cases h : (Ix.merge a b).2 = 0
  · obtain ⟨_, _, h3, h4⟩ := Ix.merge_ok h
    rw [h4]
    exact h3
  · rw [Ix.merge_bad h]; simp
theorem own_of_len (n : Int) (l : List Ix.Pl) : (Ix.of n l).1.length ≤ 400 := by
  by_cases h : (Ix.of n l).2 = 0
  · obtain ⟨_, h3, _, h4⟩ := Ix.of_ok h
    rw [h4]
    have := Ix.puts_length l []
    simp only [List.length_nil] at this
    show (Ix.puts [] l).length ≤ 400
    omega
  · rw [Ix.of_bad h]; simp
/-- a row of length 5 -/
def en5 : Ent := ⟨[0, 0, 0, 0, 0, 0, 0, 0], rfl, 0, 0, 5⟩
/-- three lists with more behind them, in three blocks -/
structure Owd (w W : World) (gp gq gr : Nat) (a b : List Plc) (l : List Ent) : Prop where
  p : W.ownsRow w.heap.size 29 12 (.slice (some ⟨gp, 0, none⟩) (a.length + 2) (a.length + 3)) (a.length + 2) (rowR plC (a ++ [sp1, sp1]))
  q : W.ownsRow w.heap.size 29 12 (.slice (some ⟨gq, 0, none⟩) (b.length + 2) (b.length + 3)) (b.length + 2) (rowR plC (b ++ [sp1, sp1]))
  r : W.ownsRow w.heap.size 40 11 (.slice (some ⟨gr, 0, none⟩) (l.length + 2) (l.length + 3)) (l.length + 2) (rowR enC (l ++ [en5, en5]))
  bel : Below w.heap.size w W

theorem Owd.past {w W W' : World} {gp gq gr : Nat} {a b : List Plc} {l : List Ent} (h : Owd w W gp gq gr a b l) (hb : Below W.heap.size W W') : Owd w W' gp gq gr a b l :=
  ⟨ixown_below h.p hb, ixown_below h.q hb, ixown_below h.r hb, below_t h.bel hb⟩
/-- an answer: places in a block above -/
structure Anp (N : Nat) (W : World) (s : Option Addr) (c : Nat) (m : List Plc) : Prop where
  px : Px W (.slice s m.length c) m
  new : ∀ ad, s = some ad → N ≤ ad.block
theorem Anp.past {N : Nat} {W W' : World} {s : Option Addr} {c : Nat} {m : List Plc} (h : Anp N W s c m) (hb : Below W.heap.size W W') : Anp N W' s c m := ⟨h.px.below hb, h.new⟩
theorem Anp.kept {N g : Nat} {W W' : World} {s : Option Addr} {c : Nat} {m : List Plc} (h : Anp N W s c m) (hk : Kept (fun q => q ≠ g) W W') (hg : g < N) : Anp N W' s c m :=
  ⟨h.px.kept hk fun a n c e => by
    rw [Value.slice.injEq] at e
    have := h.new a e.1
    show a.block ≠ g
    omega, h.new⟩
theorem clone_anp {N : Nat} {W : World} {s : Option Addr} {c : Nat} {m : List Plc} (h : Anp N W s c m) (hm : m.length ≤ 400) (hN : N ≤ W.heap.size) :
    Calls Try.prog 15 #[.slice s m.length c] W fun e w' => ∃ s' c', e = .returned (.slice s' m.length c') ∧ Anp N w' s' c' m ∧ Below W.heap.size W w' := by
  refine (clone_pls _ m W h.px (by omega)).mono fun e w' ⟨v', h1, h2, h3⟩ => ?_
  obtain ⟨s', c', rfl⟩ := ixown_form h2
  refine ⟨s', c', h1, ⟨Rx.of_own plC_length h2, fun ad e => ?_⟩, h3⟩
  subst e
  rcases h2.2 with ⟨h4, _⟩ | ⟨g, cap, cur, h4, h5, _⟩
  · simp at h4
  · rw [Value.slice.injEq] at h4
    obtain ⟨rfl, _⟩ := Option.some.inj h4.1
    exact Nat.le_trans hN h5

set_option maxHeartbeats 8000000 in
theorem indexOwn_walk (v0 : Value) (l0 : List Plc) (v1 : Value) (l1 : List Plc) (v2 : Value) (l2 : List Ent) (z0 : l0.length * 40 ≤ 140737488351232) (z1 : l1.length * 40 ≤ 140737488351232) (z2 : l2.length * 32 ≤ 140737488351232) (w : World) (t0 : Px w v0 l0) (t1 : Px w v1 l1) (t2 : Ex w v2 l2) :
    Calls Try.prog 4 #[v0, v1, v2] w fun e w' => e = .returned (.bool true) ∧ Below w.heap.size w w' := by
  obtain ⟨s0, c0, rfl, _, _⟩ := t0.slice
  obtain ⟨s1, c1, rfl, _, _⟩ := t1.slice
  obtain ⟨s2, c2, rfl, _, _⟩ := t2.slice
  have T0 : Hid (Px w (.slice s0 l0.length c0) l0) := t0
  have T1 : Hid (Px w (.slice s1 l1.length c1) l1) := t1
  have T2 : Hid (Ex w (.slice s2 l2.length c2) l2) := t2
  obtain ⟨om, em, hm⟩ : ∃ o e, Ix.merge (ps l0) (ps l1) = (o, e) := ⟨_, _, rfl⟩
  obtain ⟨oo, eo, ho⟩ : ∃ o e, Ix.of 3 (ps (esP 3 l2)) = (o, e) := ⟨_, _, rfl⟩
  have HM : Hid (Ix.merge (ps l0) (ps l1) = (om, em)) := hm
  have HO : Hid (Ix.of 3 (ps (esP 3 l2)) = (oo, eo)) := ho
  have HML : Hid (om.length ≤ 400) := by show _ ≤ _; have := own_merge_len (ps l0) (ps l1); rwa [hm] at this
  have HOL : Hid (oo.length ≤ 400) := by show _ ≤ _; have := own_of_len 3 (ps (esP 3 l2)); rwa [ho] at this
  have hsp := fun W => some_place W
  have H0 : Hid (∀ W, Below w.heap.size w W → Calls Try.prog 10 #[.slice s0 l0.length c0, .agg (pl12 1 0 0 0 0 0 0 0 1 0 0 0)] W fun e w' => ∃ g, e = .returned (.slice (some ⟨g, 0, none⟩) l0.length (l0.length + 3)) ∧ w'.ownsRow W.heap.size 29 12 (.slice (some ⟨g, 0, none⟩) (l0.length + 2) (l0.length + 3)) (l0.length + 2) (rowR plC (l0 ++ [sp1, sp1])) ∧ Below W.heap.size W w') := fun W hW => ample_pls _ l0 1 0 0 0 0 0 0 0 1 0 0 0 W (T0.out.below hW) z0
  have H1 : Hid (∀ W, Below w.heap.size w W → Calls Try.prog 10 #[.slice s1 l1.length c1, .agg (pl12 1 0 0 0 0 0 0 0 1 0 0 0)] W fun e w' => ∃ g, e = .returned (.slice (some ⟨g, 0, none⟩) l1.length (l1.length + 3)) ∧ w'.ownsRow W.heap.size 29 12 (.slice (some ⟨g, 0, none⟩) (l1.length + 2) (l1.length + 3)) (l1.length + 2) (rowR plC (l1 ++ [sp1, sp1])) ∧ Below W.heap.size W w') := fun W hW => ample_pls _ l1 1 0 0 0 0 0 0 0 1 0 0 0 W (T1.out.below hW) z1
  have H2 : Hid (∀ W, Below w.heap.size w W → Calls Try.prog 11 #[.slice s2 l2.length c2, .agg #[.int .u8 0, .int .u8 0, .int .u8 0, .int .u8 0, .int .u8 0, .int .u8 0, .int .u8 0, .int .u8 0, .int .i64 0, .int .i64 0, .int .i64 5]] W fun e w' => ∃ g, e = .returned (.slice (some ⟨g, 0, none⟩) l2.length (l2.length + 3)) ∧ w'.ownsRow W.heap.size 40 11 (.slice (some ⟨g, 0, none⟩) (l2.length + 2) (l2.length + 3)) (l2.length + 2) (rowR enC (l2 ++ [en5, en5])) ∧ Below W.heap.size W w') := fun W hW => ample_ents _ l2 0 0 0 0 0 0 0 0 0 0 5 W (T2.out.below hW) z2
  clear t0 t1 t2 hm ho
  go_enter Try.func4, Try.ntmps4
  go_upto_region 2 with (first
    | (go_at_call 6; refine (hsp _).mono ?_; rintro e w1 ⟨rfl, b1⟩)
    | (go_at_call 9; refine (merge_tell sp1_merge (by simp) (by simp) (one_px w1) (px_nil _)).mono ?_; rintro e w2 ⟨x2, y2, m2, rfl, g2⟩))
  have hm2 : m2.length = 1 := by have := congrArg List.length g2.is; simpa using this
  have B2 : Hid (Below w.heap.size w w2) := b1.trans (((Below.refl _ w1).alloc (Nat.le_refl _) _).mono b1.size |>.trans (g2.bel.mono (by show _ ≤ (w1.heap.push _).size; have := b1.size; simp; omega)))
  clear b1 g2
  rw [hm2]
  clear hm2
  go_upto_region 4 with fail
  go_upto_region 5 with (first
    | (go_at_call 11; refine (H2.out _ B6.out).mono ?_; rintro e w7 ⟨gr, rfl, o7, b7⟩)
    | (go_at_call 10; refine (H1.out _ B5.out).mono ?_; rintro e w6 ⟨gq, rfl, o6, b6⟩; have B6 : Hid (Below w.heap.size w w6) := below_t B5.out b6)
    | (go_at_call 10; refine (H0.out _ B3.out).mono ?_; rintro e w4 ⟨gp, rfl, o4, b4⟩; have B4 : Hid (Below w.heap.size w w4) := below_t B3.out b4)
    | (go_at_call 6; have B5 := below_t B4.out (Below.refl w4.heap.size w4); clear B5; refine (hsp _).mono ?_; rintro e w5 ⟨rfl, b5⟩; have B5 : Hid (Below w.heap.size w w5) := below_t B4.out b5)
    | (go_at_call 6; refine (hsp _).mono ?_; rintro e w3 ⟨rfl, b3⟩; have B3 : Hid (Below w.heap.size w w3) := below_t B2.out b3))
  have HD7 : Hid (Owd w w7 gp gq gr l0 l1 l2) := ⟨ixown_below (ixown_below (ixown_below (rown_low o4 B3.out.size) b5) b6) b7, ixown_below (rown_low o6 B5.out.size) b7, rown_low o7 B6.out.size, below_t B6.out b7⟩
  have HG : Hid (w.heap.size ≤ gp ∧ gp < gq ∧ gq < gr ∧ gr < w7.heap.size) := by
    have q1 := o4.lt gp rfl
    have q2 := o6.lt gq rfl
    have q3 := o7.lt gr rfl
    have q4 := b5.size
    have q5 := B3.out.size
    exact ⟨by omega, by omega, by omega, by omega⟩
  have HS0 : Hid (∀ W, Owd w W gp gq gr l0 l1 l2 → Calls Try.prog 13 #[.slice (some ⟨gp, 0, none⟩) l0.length (l0.length + 3), .slice s0 l0.length c0, .agg (pl12 1 0 0 0 0 0 0 0 1 0 0 0)] W fun e w' => e = .returned (.bool true) ∧ Below W.heap.size W w') := fun W hW => stays_pls gp _ l0 1 0 0 0 0 0 0 0 1 0 0 0 W _ hW.p (T0.out.below hW.bel) z0
  have HS1 : Hid (∀ W, Owd w W gp gq gr l0 l1 l2 → Calls Try.prog 13 #[.slice (some ⟨gq, 0, none⟩) l1.length (l1.length + 3), .slice s1 l1.length c1, .agg (pl12 1 0 0 0 0 0 0 0 1 0 0 0)] W fun e w' => e = .returned (.bool true) ∧ Below W.heap.size W w') := fun W hW => stays_pls gq _ l1 1 0 0 0 0 0 0 0 1 0 0 0 W _ hW.q (T1.out.below hW.bel) z1
  have HS2 : Hid (∀ W, Owd w W gp gq gr l0 l1 l2 → Calls Try.prog 14 #[.slice (some ⟨gr, 0, none⟩) l2.length (l2.length + 3), .slice s2 l2.length c2, .agg #[.int .u8 0, .int .u8 0, .int .u8 0, .int .u8 0, .int .u8 0, .int .u8 0, .int .u8 0, .int .u8 0, .int .i64 0, .int .i64 0, .int .i64 5]] W fun e w' => e = .returned (.bool true) ∧ Below W.heap.size W w') := fun W hW => stays_ents gr _ l2 0 0 0 0 0 0 0 0 0 0 5 W _ hW.r (T2.out.below hW.bel) z2
  clear o4 o6 o7 b3 b4 b5 b6 b7 B2 B3 B4 B5 B6 H0 H1 H2
  go_upto_region 6 with (go_at_call 9; refine (merge_tell HM.out (by omega) (by omega) (amp_rx plC_length HD7.out.p (by omega)) (amp_rx plC_length HD7.out.q (by omega))).mono ?_; rintro e w8 ⟨x8, y8, m8, rfl, g8⟩)
  have HD8 : Hid (Owd w w8 gp gq gr l0 l1 l2) := HD7.out.past g8.bel
  have A8 : Hid (Anp w7.heap.size w8 x8 y8 m8) := ⟨g8.px, g8.new⟩
  have L8 : Hid (m8.length ≤ 400) := by show _ ≤ _; have h := congrArg List.length g8.is; rw [List.length_map] at h; have := HML.out; omega
  have N8 : Hid (w7.heap.size ≤ w8.heap.size) := g8.bel.size
  clear g8 HD7 HM HML
  go_upto_region 7 with (go_at_call 12; refine (of_tell HO.out (by omega) (amp_rx enC_length HD8.out.r (by omega))).mono ?_; rintro e w9 ⟨x9, y9, m9, rfl, g9⟩)
  have HD9 : Hid (Owd w w9 gp gq gr l0 l1 l2) := HD8.out.past g9.bel
  have A89 : Hid (Anp w7.heap.size w9 x8 y8 m8) := A8.out.past g9.bel
  have A9 : Hid (Anp w7.heap.size w9 x9 y9 m9) := ⟨g9.px, fun ad e => Nat.le_trans N8.out (g9.new ad e)⟩
  have L9 : Hid (m9.length ≤ 400) := by show _ ≤ _; have h := congrArg List.length g9.is; rw [List.length_map] at h; have := HOL.out; omega
  have N9 : Hid (w7.heap.size ≤ w9.heap.size) := Nat.le_trans N8.out g9.bel.size
  clear g9 HD8 A8 N8 HO HOL
  go_upto_region 9 with (first
    | (go_at_call 14; refine (HS2.out _ HD13.out).mono ?_; rintro e w14 ⟨rfl, b14⟩)
    | (go_at_call 13; refine (HS1.out _ HD12.out).mono ?_; rintro e w13 ⟨rfl, b13⟩; have HD13 : Hid (Owd w w13 gp gq gr l0 l1 l2) := HD12.out.past b13)
    | (go_at_call 13; refine (HS0.out _ HD10.out).mono ?_; rintro e w11 ⟨rfl, b11⟩; have HD11 : Hid (Owd w w11 gp gq gr l0 l1 l2) := HD10.out.past b11)
    | (go_at_call 6; have HD12 := HD11.out; clear HD12; refine (hsp _).mono ?_; rintro e w12 ⟨rfl, b12⟩; have HD12 : Hid (Owd w w12 gp gq gr l0 l1 l2) := HD11.out.past b12)
    | (go_at_call 6; refine (hsp _).mono ?_; rintro e w10 ⟨rfl, b10⟩; have HD10 : Hid (Owd w w10 gp gq gr l0 l1 l2) := HD9.out.past b10))
  have HD14 : Hid (Owd w w14 gp gq gr l0 l1 l2) := HD13.out.past b14
  have bb : Below w9.heap.size w9 w14 := below_t (below_t (below_t (below_t b10 b11) b12) b13) b14
  have A814 : Hid (Anp w7.heap.size w14 x8 y8 m8) := A89.out.past bb
  have A914 : Hid (Anp w7.heap.size w14 x9 y9 m9) := A9.out.past bb
  have N14 : Hid (w7.heap.size ≤ w14.heap.size) := Nat.le_trans N9.out bb.size
  clear bb b10 b11 b12 b13 b14 HD9 HD10 HD11 HD12 HD13 A89 A9 N9 HS0 HS1 HS2 hsp
  go_upto_region 10 with (first
    | (go_at_call 15; refine (clone_anp (A914.out.past b15) L9.out (Nat.le_trans N14.out b15.size)).mono ?_; rintro e w16 ⟨x16, y16, rfl, a16, b16⟩)
    | (go_at_call 15; refine (clone_anp A814.out L8.out N14.out).mono ?_; rintro e w15 ⟨x15, y15, rfl, a15, b15⟩))
  have HD16 : Hid (Owd w w16 gp gq gr l0 l1 l2) := (HD14.out.past b15).past b16
  have AX : Hid (Anp w7.heap.size w16 x8 y8 m8 ∧ Anp w7.heap.size w16 x15 y15 m8 ∧ Anp w7.heap.size w16 x9 y9 m9 ∧ Anp w7.heap.size w16 x16 y16 m9) := ⟨(A814.out.past b15).past b16, a15.past b16, (A914.out.past b15).past b16, a16⟩
  clear a15 a16 b15 b16 HD14 A814 A914 N14
  have rp := Room.of_own HD16.out.p
  have RQ : Hid (Room w16 gq ((l1.length + 3) * 12) 29) := Room.of_own HD16.out.q
  have RR : Hid (Room w16 gr ((l2.length + 3) * 11) 40) := Room.of_own HD16.out.r
  have hsp : Calls Try.prog 16 #[.slice (some ⟨gp, 0, none⟩) l0.length (l0.length + 3), .agg #[.int .u8 0, .int .u8 0, .int .u8 0, .int .u8 0, .int .u8 0, .int .u8 0, .int .u8 0, .int .u8 0, .int .i64 0, .int .i64 0, .int .i64 0, .int .i64 0]] w16 fun e w' => e = .returned (.tuple #[]) ∧ Kept (fun q => q ≠ gp) w16 w' := spoil_pls gp l0.length (l0.length + 3) 0 0 0 0 0 0 0 0 0 0 0 0 w16 rp (by omega) (HD16.out.p.lt gp rfl).2
  have LQ : Hid (gq < w16.heap.size) := (HD16.out.q.lt gq rfl).2
  have LR : Hid (gr < w16.heap.size) := (HD16.out.r.lt gr rfl).2
  have B16 : Hid (Below w.heap.size w w16) := HD16.out.bel
  clear rp HD16
  go_upto_region 11 with (go_at_call 16; refine hsp.mono ?_; rintro e w17 ⟨rfl, k17⟩)
  have AX17 : Hid (Anp w7.heap.size w17 x8 y8 m8 ∧ Anp w7.heap.size w17 x15 y15 m8 ∧ Anp w7.heap.size w17 x9 y9 m9 ∧ Anp w7.heap.size w17 x16 y16 m9) := by
    have hg : gp < w7.heap.size := by have := HG.out; omega
    exact ⟨AX.out.1.kept k17 hg, AX.out.2.1.kept k17 hg, AX.out.2.2.1.kept k17 hg, AX.out.2.2.2.kept k17 hg⟩
  have rq : Room w17 gq ((l1.length + 3) * 12) 29 := RQ.out.kept k17 (by have := HG.out; show gq ≠ gp; omega)
  have RR17 : Hid (Room w17 gr ((l2.length + 3) * 11) 40) := RR.out.kept k17 (by have := HG.out; show gr ≠ gp; omega)
  have LR17 : Hid (gr < w17.heap.size) := Nat.lt_of_lt_of_le LR.out k17.size
  have B17 : Hid (Below w.heap.size w w17) := B16.out.trans (k17.below B16.out.size fun q hq e => by have := HG.out; omega)
  have hsq : Calls Try.prog 16 #[.slice (some ⟨gq, 0, none⟩) l1.length (l1.length + 3), .agg #[.int .u8 0, .int .u8 0, .int .u8 0, .int .u8 0, .int .u8 0, .int .u8 0, .int .u8 0, .int .u8 0, .int .i64 0, .int .i64 0, .int .i64 0, .int .i64 0]] w17 fun e w' => e = .returned (.tuple #[]) ∧ Kept (fun q => q ≠ gq) w17 w' := spoil_pls gq l1.length (l1.length + 3) 0 0 0 0 0 0 0 0 0 0 0 0 w17 rq (by omega) (Nat.lt_of_lt_of_le LQ.out k17.size)
  clear k17 AX RQ RR LQ LR B16 hsp rq
  go_upto_region 12 with (go_at_call 16; refine hsq.mono ?_; rintro e w18 ⟨rfl, k18⟩)
  have AX18 : Hid (Anp w7.heap.size w18 x8 y8 m8 ∧ Anp w7.heap.size w18 x15 y15 m8 ∧ Anp w7.heap.size w18 x9 y9 m9 ∧ Anp w7.heap.size w18 x16 y16 m9) := by
    have hg : gq < w7.heap.size := by have := HG.out; omega
    exact ⟨AX17.out.1.kept k18 hg, AX17.out.2.1.kept k18 hg, AX17.out.2.2.1.kept k18 hg, AX17.out.2.2.2.kept k18 hg⟩
  have rr : Room w18 gr ((l2.length + 3) * 11) 40 := RR17.out.kept k18 (by have := HG.out; show gr ≠ gq; omega)
  have B18 : Hid (Below w.heap.size w w18) := B17.out.trans (k18.below B17.out.size fun q hq e => by have := HG.out; omega)
  have hsr : Calls Try.prog 17 #[.slice (some ⟨gr, 0, none⟩) l2.length (l2.length + 3), .agg #[.int .u8 0, .int .u8 0, .int .u8 0, .int .u8 0, .int .u8 0, .int .u8 0, .int .u8 0, .int .u8 0, .int .i64 0, .int .i64 0, .int .i64 0]] w18 fun e w' => e = .returned (.tuple #[]) ∧ Kept (fun q => q ≠ gr) w18 w' := spoil_ents gr l2.length (l2.length + 3) 0 0 0 0 0 0 0 0 0 0 0 w18 rr (by omega) (Nat.lt_of_lt_of_le LR17.out k18.size)
  clear k18 AX17 RR17 LR17 B17 hsq rr
  go_upto_region 13 with (go_at_call 17; refine hsr.mono ?_; rintro e w19 ⟨rfl, k19⟩)
  have AX19 : Hid (Anp w7.heap.size w19 x8 y8 m8 ∧ Anp w7.heap.size w19 x15 y15 m8 ∧ Anp w7.heap.size w19 x9 y9 m9 ∧ Anp w7.heap.size w19 x16 y16 m9) := by
    have hg : gr < w7.heap.size := by have := HG.out; omega
    exact ⟨AX18.out.1.kept k19 hg, AX18.out.2.1.kept k19 hg, AX18.out.2.2.1.kept k19 hg, AX18.out.2.2.2.kept k19 hg⟩
  have B19 : Hid (Below w.heap.size w w19) := B18.out.trans (k19.below B18.out.size fun q hq e => by have := HG.out; omega)
  clear k19 AX18 B18 hsr
  have h8 := equal_tell (l := m8) rfl (by have := L8.out; omega) AX19.out.1.px AX19.out.2.1.px
  have H9 : Hid (∀ W, Below w19.heap.size w19 W → Calls Try.prog 8 #[.slice x9 m9.length y9, .slice x16 m9.length y16] W fun e w' => e = .returned (.bool true) ∧ Below W.heap.size W w') := fun W hW => equal_tell (l := m9) rfl (by have := L9.out; omega) (AX19.out.2.2.1.px.below hW) (AX19.out.2.2.2.px.below hW)
  go_wp2_with (first
    | (go_at_call 8; refine (H9.out _ b20).mono ?_; rintro e w21 ⟨rfl, b21⟩)
    | (go_at_call 8; refine h8.mono ?_; rintro e w20 ⟨rfl, b20⟩))
  go_ret
  exact ⟨rfl, below_t (below_t B19.out b20) b21⟩
end Go.Proofs.Ytllioidjelgafab
