/-
  The walk of lumkeep.LzOwn: it returns true.
-/
import Derived.Test.YtoohekdaihhflaaHpLen
import Derived.Test.YtoohekdaihhflaaOwToks2
import Derived.Test.YtoohekdaihhflaaLzGr
import Derived.Test.YtoohekdaihhflaaLzExp
import Derived.Test.YtoohekdaihhflaaLzPack
import Derived.Test.YtoohekdaihhflaaLzRead
import Derived.Test.YtoohekdaihhflaaLzPackedW
namespace Go.Proofs.Ytoohekdaihhflaa
open Go.RowKit

set_option maxHeartbeats 400000 in
theorem spoil_nil (f : Int) (w : World) : Calls Try.prog 28 #[.slice none 0 0, .int .i64 f] w fun e w' => e = .returned (.tuple #[]) ∧ w' = w := by
  go_enter Try.func28, Try.ntmps28
  go_wp2_with fail
  go_loop [11] (fun i => i = .int .i64 0) (fun _ => 0)
  case atStart => rfl
  case round =>
    subst hrel
    go_wp2_with fail
    go_end0
    exact ⟨rfl, rfl⟩
/-- spoiling a row that a call made -/
theorem spoil_own (v : Value) (n : Nat) (xs : List Value) (f : Int) (w : World) (base : Nat) (h : w.ownsRow base 3 1 v n xs) :
    Calls Try.prog 28 #[v, .int .i64 f] w fun e w' => e = .returned (.tuple #[]) ∧ Kept (fun q => v.ownBlock ≠ some q) w w' := by
  rcases h.2 with ⟨rfl, _⟩ | ⟨g, cap, cur, rfl, _, _, _, hm, _⟩
  · refine (spoil_nil f w).mono ?_
    rintro e w' ⟨rfl, rfl⟩
    exact ⟨rfl, Kept.refl _ _⟩
  · have hr := Room.of_own h
    rw [Nat.mul_one] at hr
    refine (spoil_ints g n cap f w hr (by unfold maxLen at hm; omega)).mono ?_
    rintro e w' ⟨rfl, hk⟩
    exact ⟨rfl, hk.mono fun q hq e => hq (by rw [e]; rfl)⟩
theorem lengths_own (v : Value) (l : List Int) (w : World) (h : Ints w v l) (hl : l.length ≤ 140737488351232) :
    Calls Try.prog 9 #[v] w fun e w' => ∃ v' E n xs, e = .returned (.tuple #[v', .int .i64 E]) ∧ w'.ownsRow w.heap.size 3 1 v' n xs ∧ Below w.heap.size w w' := by
  cases hs : Hf.sgn 1048576 l with
  | false =>
    refine (lengths_bad v l w h hl hs).mono ?_
    rintro e w' ⟨rfl, rfl⟩
    exact ⟨_, _, _, _, rfl, World.ownsRow_nil _ _ _ _, Below.refl _ _⟩
  | true =>
    obtain ⟨F, rfl, h1, h2, h3⟩ := Hf.sgn_up (most := 1048576) hs
    refine (lengths_any v F w h h1 h2 h3).mono ?_
    rintro e w' ⟨v', out, rfl, _, ho, hb⟩
    exact ⟨_, _, _, _, rfl, ho, hb⟩
theorem codes_own (v : Value) (l : List Int) (w : World) (h : Ints w v l) (hl : l.length ≤ 140737488351232) :
    Calls Try.prog 14 #[v] w fun e w' => ∃ v' E, ∃ C : List Int, e = .returned (.tuple #[v', .int .i64 E]) ∧ w'.ownsRow w.heap.size 3 1 v' C.length (C.map Iv) ∧ C.length ≤ 256 ∧ Below w.heap.size w w' := by
  cases hs : Hf.sgn 48 l with
  | false =>
    refine (codes_bad v l w h hl hs).mono ?_
    rintro e w' ⟨rfl, rfl⟩
    exact ⟨_, _, [], rfl, World.ownsRow_nil _ _ _ _, by simp, Below.refl _ _⟩
  | true =>
    obtain ⟨M, rfl, k1, k2, k3⟩ := Hf.sgn_up (most := 48) hs
    by_cases hk : 281474976710656 < Hf.ksum M
    · refine (codes_form v M w h k1 k2 k3 hk).mono ?_
      rintro e w' ⟨rfl, rfl⟩
      exact ⟨_, _, [], rfl, World.ownsRow_nil _ _ _ _, by simp, Below.refl _ _⟩
    · refine (codes_any v M w h k1 k2 k3 (by omega)).mono ?_
      rintro e w' ⟨v', rfl, ho, hb⟩
      exact ⟨_, _, Hf.codes M, rfl, by rw [Hf.codes_length]; exact ho, by rw [Hf.codes_length]; exact k2, hb⟩
theorem amp_ints {base g : Nat} {w : World} {l : List Int} {f : Int} (h : w.ownsRow base 3 1 (.slice (some ⟨g, 0, none⟩) (l.length + 2) (l.length + 3)) (l.length + 2) ((l ++ [f, f]).map Iv)) : Ints w (.slice (some ⟨g, 0, none⟩) l.length (l.length + 3)) l :=
  ⟨.inr ⟨g, 0, l.length + 3, rfl, (h.lt g rfl).2, fun j hj => by
    have := own_at h j (by simp; omega)
    rw [Nat.zero_add, this]
    simp [List.getElem_append_left hj]⟩⟩
theorem Lz.greedy_aab : (Lz.greedyR (⟨#[97, 97, 98]⟩ : ByteArray).data.toList).length = 3 := by decide +kernel
theorem Lz.packd_le (l : List Lz.Tr) : (⟨(Lz.packd l).toArray⟩ : ByteArray).size ≤ 140737488351232 := by
  show (Lz.packd l).toArray.size ≤ _
  rw [List.size_toArray]
  unfold Lz.packd
  split
  · rename_i hc
    have h1 := Lz.pack_length (l.map Lz.Tr.tok)
    have h2 := (Lz.chk_zero hc).1
    rw [List.length_map] at h1
    omega
  · simp
theorem Lz.rdR_le (l : List Lz.Tr) : (Lz.rdR (Lz.packd l)).length ≤ 4096 := by
  by_cases h : (Lz.rd (Lz.packd l)).2 = 0
  · exact (Lz.chk_zero (Lz.packd_read h).1).1
  · unfold Lz.rdR
    rw [List.length_map, show (Lz.rd (Lz.packd l)).1 = [] from (Lz.rdA_error _ [] _ (Nat.le_refl _) h).1]
    simp

set_option maxHeartbeats 8000000 in
theorem lzOwn_walk (v0 : Value) (l0 : List Lz.Tr) (v1 : Value) (l1 : List Int) (z0 : l0.length * 24 ≤ 140737488351232) (z1 : l1.length * 8 ≤ 140737488351232) (w : World) (t0 : Toks w v0 l0) (t1 : Ints w v1 l1) :
    Calls Try.prog 8 #[v0, v1] w fun e w' => e = .returned (.bool true) ∧ Below w.heap.size w w' := by
  have g1 := greedy_any ⟨#[97, 97, 98]⟩ w (by decide)
  rw [Lz.greedy_aab] at g1
  go_enter Try.func8, Try.ntmps8
  go_wp2_with fail
  refine g1.mono ?_
  rintro e w1 ⟨m1, rfl, o1, hb1⟩
  obtain ⟨ma, mc, rfl⟩ : ∃ a c, m1 = .slice a 3 c := by
    rcases o1.2 with ⟨_, h0⟩ | ⟨g, cap, _, e, _⟩
    · omega
    · exact ⟨_, _, e⟩
  clear g1 o1
  have a1 := ample_toks v0 l0 ⟨0, 9, 0⟩ w1 (t0.below (Nat.le_refl _) hb1) z0
  rw [show tokV ⟨0, 9, 0⟩ = .agg #[.int .u8 0, .int .i64 9, .int .i64 0] from rfl] at a1
  go_wp2_with fail
  refine a1.mono ?_
  rintro e w2 ⟨gi, rfl, oi2, hb2⟩
  clear a1
  have hB2 : Below w.heap.size w w2 := hb1.trans (hb2.mono hb1.size)
  have a2 := ample_ints v1 l1 (-7) w2 (t1.below (Nat.le_refl _) hB2) z1
  go_wp2_with fail
  refine a2.mono ?_
  rintro e w3 ⟨gf, rfl, of3, hb3⟩
  clear a2
  have hB3 : Below w.heap.size w w3 := hB2.trans (hb3.mono hB2.size)
  have oi3 := row_below oi2 hb3
  have GI : Hid (gi < w2.heap.size) := (oi2.lt gi rfl).2
  have e1 := expand_any _ l0 4096 w3 (amp_toks oi3) (by omega)
  clear oi2
  go_wp2_with fail
  refine e1.mono ?_
  rintro e w4 ⟨rfl, hb4⟩
  clear e1
  have oi4 := row_below oi3 hb4
  have of4 := row_below of3 hb4
  have e1 := pack_any _ l0 w4 (amp_toks oi4) (by omega)
  have hB4 : Below w.heap.size w w4 := hB3.trans (hb4.mono hB3.size)
  go_wp2_with fail
  refine e1.mono ?_
  rintro e w5 ⟨rfl, hb5⟩
  clear e1
  have oi5 := row_below oi4 hb5
  have of5 := row_below of4 hb5
  have hB5 : Below w.heap.size w w5 := hB4.trans (hb5.mono hB4.size)
  have e1 := read_any ⟨(Lz.packd l0).toArray⟩ w5 (Lz.packd_le l0)
  have hml := Lz.rdR_le l0
  generalize Lz.rdR (Lz.packd l0) = M at *
  have HNs : w.heap.size ≤ gi ∧ w.heap.size ≤ gf ∧ gf ≠ gi := by
    have p1 := oi3.lt gi rfl
    have p2 := (of3.lt gf rfl).1
    have p3 := hb1.size
    have p4 := hb2.size
    have p5 := GI.out
    exact ⟨by omega, by omega, by omega⟩
  clear oi3 of3 oi4 of4 hb4 hb3 hb2 hb1 hB2 hB3 hB4
  go_wp2_with fail
  refine e1.mono ?_
  rintro e w6 ⟨vm, rfl, om6, hb6⟩
  clear e1
  have oi6 := row_below oi5 hb6
  have of6 := row_below of5 hb6
  have hB6 : Below w.heap.size w w6 := hB5.trans (hb6.mono hB5.size)
  have e1 := lengths_own _ l1 w6 (amp_ints of6) (by omega)
  go_wp2_with fail
  refine e1.mono ?_
  rintro e w7 ⟨vw, Ew, nw, xw, rfl, ow7, hb7⟩
  clear e1
  have oi7 := row_below oi6 hb7
  have of7 := row_below of6 hb7
  have om7 := row_below om6 hb7
  have hB7 : Below w.heap.size w w7 := hB6.trans (hb7.mono hB6.size)
  have e1 := codes_own _ l1 w7 (amp_ints of7) (by omega)
  go_wp2_with fail
  refine e1.mono ?_
  rintro e w8 ⟨vc, Ec, C, rfl, oc8, hcl, hb8⟩
  clear e1
  have oi8 := row_below oi7 hb8
  have of8 := row_below of7 hb8
  have om8 := row_below om7 hb8
  have ow8 := row_below ow7 hb8
  have hB8 : Below w.heap.size w w8 := hB7.trans (hb8.mono hB7.size)
  have e1 := stays_toks gi v0 l0 ⟨0, 9, 0⟩ w8 _ oi8 (t0.below (Nat.le_refl _) hB8) z0
  rw [show tokV ⟨0, 9, 0⟩ = .agg #[.int .u8 0, .int .i64 9, .int .i64 0] from rfl] at e1
  go_wp2_with fail
  refine e1.mono ?_
  rintro e w9 ⟨rfl, hb9⟩
  clear e1
  have oi9 := row_below oi8 hb9
  have of9 := row_below of8 hb9
  have om9 := row_below om8 hb9
  have ow9 := row_below ow8 hb9
  have oc9 := row_below oc8 hb9
  have hB9 : Below w.heap.size w w9 := hB8.trans (hb9.mono hB8.size)
  have e1 := stays_ints gf v1 l1 (-7) w9 _ of9 (t1.below (Nat.le_refl _) hB9) z1
  go_wp2_with fail
  refine e1.mono ?_
  rintro e w10 ⟨rfl, hb10⟩
  clear e1
  have oi10 := row_below oi9 hb10
  have of10 := row_below of9 hb10
  have om10 := row_below om9 hb10
  have ow10 := row_below ow9 hb10
  have oc10 := row_below oc9 hb10
  have hB10 : Below w.heap.size w w10 := hB9.trans (hb10.mono hB9.size)
  have e1 := clone_toks vm M w10 _ om10 (by omega)
  go_wp2_with fail
  refine e1.mono ?_
  rintro e w11 ⟨vk, rfl, ok11, hb11⟩
  clear e1
  have oi11 := row_below oi10 hb11
  have of11 := row_below of10 hb11
  have om11 := row_below om10 hb11
  have ow11 := row_below ow10 hb11
  have oc11 := row_below oc10 hb11
  have hB11 : Below w.heap.size w w11 := hB10.trans (hb11.mono hB10.size)
  have e1 := clone_ints vc C w11 _ oc11 (by omega)
  go_wp2_with fail
  refine e1.mono ?_
  rintro e w12 ⟨vd, rfl, od12, hb12⟩
  clear e1
  have oi12 := row_below oi11 hb12
  have of12 := row_below of11 hb12
  have om12 := row_below om11 hb12
  have ow12 := row_below ow11 hb12
  have oc12 := row_below oc11 hb12
  have ok12 := row_below ok11 hb12
  have hB12 : Below w.heap.size w w12 := hB11.trans (hb12.mono hB11.size)
  have q1 := oi5.lt gi rfl
  have q2 := of5.lt gf rfl
  have q3 := hb6.size
  have q4 := hb7.size
  have q5 := hb8.size
  have q6 := hb9.size
  have q7 := hb10.size
  have q8 := hb11.size
  have HM : Hid (∀ q, vm.ownBlock = some q → q ≠ gi ∧ q ≠ gf ∧ vw.ownBlock ≠ some q) := fun q hq => by
    have h1 := om6.lt q hq
    refine ⟨by omega, by omega, fun e => ?_⟩
    have h2 := (ow7.lt q e).1
    omega
  have HC : Hid (∀ q, vc.ownBlock = some q → q ≠ gi ∧ q ≠ gf ∧ vw.ownBlock ≠ some q) := fun q hq => by
    have h1 := oc8.lt q hq
    refine ⟨by omega, by omega, fun e => ?_⟩
    have h2 := (ow7.lt q e).2
    omega
  have HK : Hid (∀ q, vk.ownBlock = some q → q ≠ gi ∧ q ≠ gf ∧ vw.ownBlock ≠ some q) := fun q hq => by
    have h1 := ok11.lt q hq
    refine ⟨by omega, by omega, fun e => ?_⟩
    have h2 := (ow7.lt q e).2
    omega
  have HD : Hid (∀ q, vd.ownBlock = some q → q ≠ gi ∧ q ≠ gf ∧ vw.ownBlock ≠ some q) := fun q hq => by
    have h1 := od12.lt q hq
    refine ⟨by omega, by omega, fun e => ?_⟩
    have h2 := (ow7.lt q e).2
    omega
  have HW : Hid (∀ q, vw.ownBlock = some q → q ≠ gi ∧ q ≠ gf ∧ w.heap.size ≤ q) := fun q hq => by
    have h1 := ow7.lt q hq
    have := hB5.size
    exact ⟨by omega, by omega, by omega⟩
  have HN : Hid (w.heap.size ≤ gi ∧ w.heap.size ≤ gf ∧ gf ≠ gi) := HNs
  clear oi5 of5 oi6 of6 om6 oi7 of7 om7 ow7 oi8 of8 om8 ow8 oc8 oi9 of9 om9 ow9 oc9 oi10 of10 om10 ow10 oc10 oi11 of11 om11 ow11 oc11 ok11 hb5 hb6 hb7 hb8 hb9 hb10 hb11 hb12 hB5 hB6 hB7 hB8 hB9 hB10 hB11 q3 q4 q5 q6 q7 q8
  have hz12 := hB12.size
  have r1 := Room.of_own oi12
  have e1 := spoil_toks gi l0.length (l0.length + 3) ⟨0, 0, 0⟩ w12 r1 (by omega) (oi12.lt gi rfl).2
  rw [show tokV ⟨0, 0, 0⟩ = .agg #[.int .u8 0, .int .i64 0, .int .i64 0] from rfl] at e1
  go_wp2_with fail
  refine e1.mono ?_
  rintro e w13 ⟨rfl, k13⟩
  clear e1 r1
  have of13 := own_kept of12 k13 fun q hq => by cases hq; exact HN.out.2.2
  have om13 := own_kept om12 k13 fun q hq => (HM.out q hq).1
  have ow13 := own_kept ow12 k13 fun q hq => (HW.out q hq).1
  have oc13 := own_kept oc12 k13 fun q hq => (HC.out q hq).1
  have ok13 := own_kept ok12 k13 fun q hq => (HK.out q hq).1
  have od13 := own_kept od12 k13 fun q hq => (HD.out q hq).1
  have hB13 : Below w.heap.size w w13 := hB12.trans (k13.below hz12 fun q hq => by have := HN.out.1; omega)
  clear oi12 of12 om12 ow12 oc12 ok12 od12 k13 hB12 hz12
  have r1 := Room.of_own of13
  rw [Nat.mul_one] at r1
  have e1 := spoil_ints gf l1.length (l1.length + 3) 3 w13 r1 (by omega)
  go_wp2_with fail
  refine e1.mono ?_
  rintro e w14 ⟨rfl, k14⟩
  clear e1 r1
  have om14 := own_kept om13 k14 fun q hq => (HM.out q hq).2.1
  have ow14 := own_kept ow13 k14 fun q hq => (HW.out q hq).2.1
  have oc14 := own_kept oc13 k14 fun q hq => (HC.out q hq).2.1
  have ok14 := own_kept ok13 k14 fun q hq => (HK.out q hq).2.1
  have od14 := own_kept od13 k14 fun q hq => (HD.out q hq).2.1
  have hB14 : Below w.heap.size w w14 := hB13.trans (k14.below hB13.size fun q hq => by have := HN.out.2.1; omega)
  clear of13 om13 ow13 oc13 ok13 od13 k14 hB13
  have e1 := spoil_own vw nw xw 5 w14 _ ow14
  go_wp2_with fail
  refine e1.mono ?_
  rintro e w15 ⟨rfl, k15⟩
  clear e1
  have om15 := own_kept om14 k15 fun q hq => (HM.out q hq).2.2
  have oc15 := own_kept oc14 k15 fun q hq => (HC.out q hq).2.2
  have ok15 := own_kept ok14 k15 fun q hq => (HK.out q hq).2.2
  have od15 := own_kept od14 k15 fun q hq => (HD.out q hq).2.2
  have hB15 : Below w.heap.size w w15 := hB14.trans (k15.below hB14.size fun q hq e => by have := (HW.out q e).2.2; omega)
  clear om14 ow14 oc14 ok14 od14 k15 hB14
  have e1 := equal_toks vm vk M w15 (Toks.of_own om15) (Toks.of_own ok15) (by omega)
  go_wp2_with fail
  refine e1.mono ?_
  rintro e w16 ⟨rfl, hb16⟩
  clear e1
  have e1 := equal_ints vc vd C w16 (Ints.of_own (row_below oc15 hb16)) (Ints.of_own (row_below od15 hb16)) (by omega)
  have hB16 : Below w.heap.size w w16 := hB15.trans (hb16.mono hB15.size)
  go_wp2_with fail
  refine e1.mono ?_
  rintro e w17 ⟨rfl, hb17⟩
  clear e1
  have HB : Hid (Below w.heap.size w w17) := hB16.trans (hb17.mono hB16.size)
  clear om15 oc15 ok15 od15 hb16 hB15 hb17 hB16
  go_wp2_with fail
  go_ret
  exact ⟨rfl, HB.out⟩
end Go.Proofs.Ytoohekdaihhflaa
