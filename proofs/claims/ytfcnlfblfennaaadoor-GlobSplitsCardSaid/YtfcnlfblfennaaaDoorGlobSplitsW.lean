/-
  The walk of lumkeep.GlobSplits: it returns true.
-/
import Derived.Test.YtfcnlfblfennaaaDoorGlAll
namespace Go.Proofs.YtfcnlfblfennaaaDoor
open Go.RowKit
set_option maxRecDepth 4000

theorem fits_of (p q : ByteArray) (w : World) (hq : q.size ≤ 140737488355328) (hT : Tabs w) (A : Bool) (h : (Gb.mtch p.data.toList q.data.toList).1 = A) :
    Calls Tryd.prog 15 #[.string p, .string q] w fun e w' => e = .returned (.bool A) ∧ Below w.heap.size w w' := by
  have := kfits_any p q w hq hT
  rw [h] at this
  exact this
theorem tx_drop {w : World} {bk o n c : Nat} {l : List ByteArray} (k : Nat) (h : Tx w (.slice (some ⟨bk, o, none⟩) n c) l) (hk : k ≤ l.length) : Tx w (.slice (if c = k then some ⟨bk, o, none⟩ else some ⟨bk, o + k, none⟩) (l.length - k) (c - k)) (l.drop k) ∨ c < l.length := by
  rcases h.at_ with ⟨_, rfl⟩ | ⟨bk', o', cap, h1, h3, h4⟩
  · left
    rw [show ([] : List ByteArray).length - k = 0 by simp]
    exact ⟨.inl ⟨⟨_, _, rfl⟩, by simp⟩⟩
  · simp at h1
    obtain ⟨⟨rfl, rfl⟩, rfl, rfl⟩ := h1
    rcases Nat.lt_or_ge c l.length with q | q
    · exact .inr q
    left
    by_cases e : l.length = k
    · rw [e, Nat.sub_self, List.drop_eq_nil_of_le (by omega)]
      exact ⟨.inl ⟨⟨_, _, rfl⟩, rfl⟩⟩
    · rw [if_neg (by omega)]
      refine ⟨.inr ⟨bk, o + k, c - k, by rw [List.length_drop], h3, fun j hj => ?_⟩⟩
      rw [List.length_drop] at hj
      have := h4 (k + j) (by omega)
      rw [show o + k + j = o + (k + j) from by omega, this, List.getD_eq_getElem?_getD, List.getD_eq_getElem?_getD, List.getElem?_drop]
theorem few_names {l : List ByteArray} (h : Nn.errs (dl l) = 0) : Few l := fun s hs => by
  have := Nn.nm_long (Nn.errs_ok h _ (List.mem_map_of_mem hs))
  rw [← Lib.size_eq] at this
  omega
/-- what two patterns match, cut at k -/
def cutAt (P Q : List (Option (List (Option Gb.Tst)))) (L : List Nn.Name) (k : Nat) : Bool := Gb.fits P (L.take k) && Gb.fits Q (L.drop k)
theorem mtch_joined {p : List UInt8} {P : List (Option (List (Option Gb.Tst)))} {L : List Nn.Name} (hp : Gb.pat p = (P, 0)) (h : Nn.errs L = 0) : (Gb.mtch p (Nn.joinB L)).1 = Gb.fits P L := by
  unfold Gb.mtch
  rw [hp, Gb.split_of_join h]
  simp
theorem errs_take {L : List Nn.Name} (h : Nn.errs L = 0) (k : Nat) : Nn.errs (L.take k) = 0 := Gb.errsF_take L 0 k h
theorem errs_drop {L : List Nn.Name} (h : Nn.errs L = 0) (k : Nat) : Nn.errs (L.drop k) = 0 := Gb.errsF_drop L 0 k h
theorem join_of {L : List Nn.Name} (h : Nn.errs L = 0) : Nn.join L = (Nn.joinB L, 0) := by
  unfold Nn.join
  rw [if_neg (by simpa using h)]
theorem joinB_short {L : List Nn.Name} (h : Nn.errs L = 0) : (Nn.joinB L).length ≤ 777 := by
  unfold Nn.joinB
  split
  · simp
  · have := Nn.tails_few h; omega
/-- how far the loop is -/
def sofar (P Q : List (Option (List (Option Gb.Tst)))) (L : List Nn.Name) (k : Nat) : Bool := (List.range k).any (cutAt P Q L)
theorem sofar_step (P Q : List (Option (List (Option Gb.Tst)))) (L : List Nn.Name) (k : Nat) : sofar P Q L (k + 1) = (sofar P Q L k || cutAt P Q L k) := by
  unfold sofar
  rw [List.range_succ, List.any_append]
  simp
theorem sofar_all (P Q : List (Option (List (Option Gb.Tst)))) (L : List Nn.Name) : sofar P Q L (L.length + 1) = Gb.fits (P ++ Q) L := by
  rw [Bool.eq_iff_iff, Gb.fits_two]
  unfold sofar cutAt
  rw [List.any_eq_true]
  constructor
  · rintro ⟨k, hk, h⟩
    rw [Bool.and_eq_true] at h
    exact ⟨k, by have := List.mem_range.1 hk; omega, h.1, h.2⟩
  · rintro ⟨k, hk, h1, h2⟩
    exact ⟨k, List.mem_range.2 (by omega), by rw [h1, h2]; rfl⟩

theorem join_root (W : World) (hT : Tabs W) : Calls Tryd.prog 18 #[.slice none 0 0] W fun e w' => e = .returned (.tuple #[.string ⟨#[47]⟩, .int .i64 0]) ∧ Below W.heap.size W w' := by
  have := joinG_any (.slice none 0 0) [] W (Tx.none W) Cp.none (by simp) (fun s hs => by cases hs) hT
  exact this
theorem mtch_root {p : List UInt8} {P : List (Option (List (Option Gb.Tst)))} (hp : Gb.pat p = (P, 0)) : (Gb.mtch p [47]).1 = Gb.fits P [] := by
  have := mtch_joined (L := []) hp rfl
  exact this

set_option maxRecDepth 8000 in
set_option maxHeartbeats 4000000 in
theorem globSplits_root (a0 a1 : ByteArray) (z1 : a1.size ≤ 140737488351232) (w : World) (hT : Tabs w) :
    Calls Tryd.prog 6 #[.string a0, .string a1, .string ⟨#[47]⟩] w fun e w' => e = .returned (.bool true) ∧ Below w.heap.size w w' := by
  have HT : Hid (Tabs w) := hT
  have h1 := fits_of ⟨#[47, 97, 47, 42, 42]⟩ ⟨#[47, 97]⟩ w (by simp [ByteArray.size]) HT.out true (by decide +kernel)
  clear hT
  go_enter Tryd.func6, Tryd.ntmps6
  go_wp2_with fail
  refine h1.mono ?_
  rintro e w1 ⟨rfl, b1⟩
  have HB1 : Hid (Below w.heap.size w w1) := b1
  clear b1 h1
  have h2 := fits_of ⟨#[47, 42, 42, 47, 98]⟩ ⟨#[47, 97, 47, 99, 47, 98]⟩ w1 (by simp [ByteArray.size]) (HT.out.below HB1.out) true (by decide +kernel)
  go_wp2_with fail
  refine h2.mono ?_
  rintro e w2 ⟨rfl, b2⟩
  have HB3 : Hid (Below w.heap.size w w2) := HB1.out.trans (b2.mono HB1.out.size)
  clear b2 h2
  have h3 := split_root w2
  go_wp2_with fail
  refine h3.mono ?_
  rintro e u ⟨rfl, hu⟩
  obtain rfl := hu.symm
  clear h3 hu
  have h4 := gcheck_any a0 w2 (HT.out.below HB3.out)
  by_cases hP : (Gb.pat a0.data.toList).2 = 0
  · rw [hP] at h4
    have HP : Hid (Gb.pat a0.data.toList = ((Gb.pat a0.data.toList).1, 0)) := Prod.ext rfl hP
    generalize (Gb.pat a0.data.toList).1 = P at HP
    clear hP
    go_wp2_with fail
    refine h4.mono ?_
    rintro e w4 ⟨rfl, b4⟩
    have HBw4 : Hid (Below w.heap.size w w4) := HB3.out.trans (b4.mono HB3.out.size)
    clear b4 h4
    have h5 := gcheck_any a1 w4 (HT.out.below HBw4.out)
    by_cases hQ : (Gb.pat a1.data.toList).2 = 0
    · rw [hQ] at h5
      have HQ : Hid (Gb.pat a1.data.toList = ((Gb.pat a1.data.toList).1, 0)) := Prod.ext rfl hQ
      generalize (Gb.pat a1.data.toList).1 = Q at HQ
      clear hQ
      go_wp2_with fail
      refine h5.mono ?_
      rintro e w5 ⟨rfl, b5⟩
      have HBw5 : Hid (Below w.heap.size w w5) := HBw4.out.trans (b5.mono HBw4.out.size)
      clear b5 h5
      by_cases hlen : a0.size + a1.size ≤ 60
      · have q0 : ¬ ((60 : Int) - (a1.size : Int) < (a0.size : Int)) := by omega
        have HPQ : Hid ((Gb.mtch (a0 ++ a1).data.toList [47]).1 = (Gb.fits P [] && Gb.fits Q [])) := by
          show _ = _
          have e1 := Lib.size_eq a0
          have e2 := Lib.size_eq a1
          have hpp := Gb.pat_two HP.out HQ.out (by omega)
          rw [ByteArray.toList_data_append, mtch_root hpp, ← sofar_all]
          simp [sofar, cutAt]
        have HF1 : Hid ((Gb.mtch a0.data.toList [47]).1 = Gb.fits P []) := mtch_root HP.out
        have HF2 : Hid ((Gb.mtch a1.data.toList [47]).1 = Gb.fits Q []) := mtch_root HQ.out
        generalize Gb.fits P [] = A1 at *
        generalize Gb.fits Q [] = A2 at *
        clear hlen HP HQ
        go_wp2_with fail
        refine wp_loop_rounds 2 ?_
        rw [rounds_succ]
        go_wp2_with fail
        refine (join_root w5 (HT.out.below HBw5.out)).mono ?_
        rintro e w6 ⟨rfl, b6⟩
        have HB6 : Hid (Below w.heap.size w w6) := HBw5.out.trans (b6.mono HBw5.out.size)
        clear b6
        go_wp2_with fail
        refine (join_root w6 (HT.out.below HB6.out)).mono ?_
        rintro e w7 ⟨rfl, b7⟩
        have HB7 : Hid (Below w.heap.size w w7) := HB6.out.trans (b7.mono HB6.out.size)
        clear b7
        go_wp2_with fail
        refine (fits_of a0 ⟨#[47]⟩ w7 (by simp [ByteArray.size]) (HT.out.below HB7.out) A1 HF1.out).mono ?_
        rintro e w8 ⟨rfl, b8⟩
        have HB8 : Hid (Below w.heap.size w w8) := HB7.out.trans (b8.mono HB7.out.size)
        clear b8
        cases A1 with
        | false =>
          go_wp2_with fail
          rw [rounds_succ]
          go_wp2_with fail
          refine (fits_of (a0 ++ a1) ⟨#[47]⟩ w8 (by simp [ByteArray.size]) (HT.out.below HB8.out) false HPQ.out).mono ?_
          rintro e w9 ⟨rfl, b9⟩
          have HB9 : Hid (Below w.heap.size w w9) := HB8.out.trans (b9.mono HB8.out.size)
          clear b9
          go_wp2_with fail
          go_ret
          exact ⟨rfl, HB9.out⟩
        | true =>
          go_wp2_with fail
          refine (fits_of a1 ⟨#[47]⟩ w8 (by simp [ByteArray.size]) (HT.out.below HB8.out) A2 HF2.out).mono ?_
          rintro e w9 ⟨rfl, b9⟩
          have HB9 : Hid (Below w.heap.size w w9) := HB8.out.trans (b9.mono HB8.out.size)
          clear b9
          go_wp2_with fail
          rw [rounds_succ]
          go_wp2_with fail
          refine (fits_of (a0 ++ a1) ⟨#[47]⟩ w9 (by simp [ByteArray.size]) (HT.out.below HB9.out) A2 HPQ.out).mono ?_
          rintro e w10 ⟨rfl, b10⟩
          have HB10 : Hid (Below w.heap.size w w10) := HB9.out.trans (b10.mono HB9.out.size)
          clear b10
          go_wp2_with fail
          go_ret
          exact ⟨by cases A2 <;> rfl, HB10.out⟩
      · have q0 : ((60 : Int) - (a1.size : Int) < (a0.size : Int)) := by omega
        clear hlen
        go_wp2_with fail
        go_ret
        exact ⟨rfl, HBw5.out⟩
    · generalize (Gb.pat a1.data.toList).2 = E at *
      have hqn : (E != 0) = true := by rw [bne_iff_ne]; exact hQ
      clear hQ
      go_wp2_with fail
      refine h5.mono ?_
      rintro e w5 ⟨rfl, b5⟩
      have HBw5 : Hid (Below w.heap.size w w5) := HBw4.out.trans (b5.mono HBw4.out.size)
      clear b5 h5
      go_wp2_with fail
      go_ret
      exact ⟨rfl, HBw5.out⟩
  · generalize (Gb.pat a0.data.toList).2 = E at *
    have hqn : (E != 0) = true := by rw [bne_iff_ne]; exact hP
    clear hP
    go_wp2_with fail
    refine h4.mono ?_
    rintro e w4 ⟨rfl, b4⟩
    have HBw4 : Hid (Below w.heap.size w w4) := HB3.out.trans (b4.mono HB3.out.size)
    clear b4 h4
    go_wp2_with fail
    go_ret
    exact ⟨rfl, HBw4.out⟩

set_option maxRecDepth 8000 in
set_option maxHeartbeats 4000000 in
theorem globSplits_walk (a0 a1 a2 : ByteArray) (_ : a0.size ≤ 140737488351232) (z1 : a1.size ≤ 140737488351232) (z2 : a2.size ≤ 140737488351232) (w : World) (hT : Tabs w) :
    Calls Tryd.prog 6 #[.string a0, .string a1, .string a2] w fun e w' => e = .returned (.bool true) ∧ Below w.heap.size w w' := by
  by_cases hroot : a2.data.toList = [47]
  · obtain rfl := of_data hroot
    exact globSplits_root a0 a1 z1 w hT
  have HT : Hid (Tabs w) := hT
  have h1 := fits_of ⟨#[47, 97, 47, 42, 42]⟩ ⟨#[47, 97]⟩ w (by simp [ByteArray.size]) HT.out true (by decide +kernel)
  clear hT
  go_enter Tryd.func6, Tryd.ntmps6
  go_wp2_with fail
  refine h1.mono ?_
  rintro e w1 ⟨rfl, b1⟩
  have HB1 : Hid (Below w.heap.size w w1) := b1
  clear b1 h1
  have h2 := fits_of ⟨#[47, 42, 42, 47, 98]⟩ ⟨#[47, 97, 47, 99, 47, 98]⟩ w1 (by simp [ByteArray.size]) (HT.out.below HB1.out) true (by decide +kernel)
  go_wp2_with fail
  refine h2.mono ?_
  rintro e w2 ⟨rfl, b2⟩
  have HB2 : Hid (Below w.heap.size w w2) := HB1.out.trans (b2.mono HB1.out.size)
  clear b2 h2
  have h3 := split_any a2 w2 (by omega) (HT.out.below HB2.out)
  go_wp2_with fail
  refine h3.mono ?_
  rintro e w3 ⟨v, l, rfl, hd, hx, hcp, b3⟩
  have HB3 : Hid (Below w.heap.size w w3) := HB2.out.trans (b3.mono HB2.out.size)
  by_cases hE : (Nn.split a2.data.toList).2 = 0
  · have hsp : Nn.split a2.data.toList = (dl l, 0) := Prod.ext hd.symm hE
    have he := (Nn.join_ok (Nn.split_join hsp)).1
    have HL0 : Hid (l ≠ []) := fun e => hroot (by
      have h := (Nn.join_ok (Nn.split_join hsp)).2
      rw [e] at h
      exact h)
    have HX : Hid (Tx w3 v l) := hx
    have HSp : Hid (Nn.split a2.data.toList = (dl l, 0)) := hsp
    have HEr : Hid (Nn.errs (dl l) = 0) := he
    have hl8 := Nn.errs_len he
    rw [dl_length] at hl8
    have HCp : Hid (Cp v) := hcp
    rw [hE]
    clear h3 hd hE hsp he b3
    have h4 := gcheck_any a0 w3 (HT.out.below HB3.out)
    obtain ⟨a, c, rfl⟩ := hx.slice
    clear hx hcp
    by_cases hP : (Gb.pat a0.data.toList).2 = 0
    · rw [hP] at h4
      have HP : Hid (Gb.pat a0.data.toList = ((Gb.pat a0.data.toList).1, 0)) := Prod.ext rfl hP
      generalize (Gb.pat a0.data.toList).1 = P at HP
      clear hP
      go_wp2_with fail
      refine h4.mono ?_
      rintro e w4 ⟨rfl, b4⟩
      have HB4 : Hid (Below w3.heap.size w3 w4) := b4
      have HBw4 : Hid (Below w.heap.size w w4) := HB3.out.trans (b4.mono HB3.out.size)
      clear b4 h4
      have h5 := gcheck_any a1 w4 (HT.out.below HBw4.out)
      by_cases hQ : (Gb.pat a1.data.toList).2 = 0
      · rw [hQ] at h5
        have HQ : Hid (Gb.pat a1.data.toList = ((Gb.pat a1.data.toList).1, 0)) := Prod.ext rfl hQ
        generalize (Gb.pat a1.data.toList).1 = Q at HQ
        clear hQ
        go_wp2_with fail
        refine h5.mono ?_
        rintro e w5 ⟨rfl, b5⟩
        have HB5 : Hid (Below w3.heap.size w3 w5) := HB4.out.trans (b5.mono HB4.out.size)
        have HBw5 : Hid (Below w.heap.size w w5) := HBw4.out.trans (b5.mono HBw4.out.size)
        clear b5 h5
        by_cases hlen : a0.size + a1.size ≤ 60
        · have q0 : ¬ ((60 : Int) - (a1.size : Int) < (a0.size : Int)) := by omega
          obtain ⟨M, hM⟩ : ∃ M, M = l.length := ⟨_, rfl⟩
          have HM : Hid (M = l.length) := hM
          rw [← hM] at HX hl8 HCp ⊢
          have HPQ : Hid (Gb.mtch (a0 ++ a1).data.toList a2.data.toList = (Gb.fits (P ++ Q) (dl l), 0)) := by
            show _ = _
            have e1 := Lib.size_eq a0
            have e2 := Lib.size_eq a1
            have hpp := Gb.pat_two HP.out HQ.out (by omega)
            unfold Gb.mtch
            rw [ByteArray.toList_data_append, hpp, HSp.out]
            simp
          have HS0 : Hid (false = sofar P Q (dl l) 0) := rfl
          clear hM hlen
          go_wp2_with fail
          go_loopw [9, 49] (fun v9 x wr => ∃ k : Nat, k ≤ M + 1 ∧ x = .int .i64 k ∧ (∃ sm : Bool, v9 = .bool sm ∧ Hid (sm = sofar P Q (dl l) k)) ∧ Hid (Below w3.heap.size w3 wr)) (fun _ x _ => M + 1 - (intOf x).toNat)
          case atStart => exact ⟨0, by omega, rfl, ⟨false, rfl, HS0⟩, HB5⟩
          case round =>
            clear HS0
            obtain ⟨k, hk, rfl, ⟨sm, rfl, HSm⟩, HB⟩ := hrel
            have HBw : Hid (Below w.heap.size w wr) := HB3.out.trans (HB.out.mono HB3.out.size)
            by_cases hlt : k < M + 1
            · have hkl : k ≤ l.length := by rw [← HM.out]; omega
              have hcap : M ≤ c := HCp.out _ _ _ rfl
              have hl9 : l.length ≤ 8 := by rw [← HM.out]; exact hl8
              have hxr := HX.out.below HB.out
              have hdt : dl (l.take k) = (dl l).take k := List.map_take
              have hdd : dl (l.drop k) = (dl l).drop k := List.map_drop
              have het := errs_take HEr.out k
              have hed := errs_drop HEr.out k
              have hst := joinB_short het
              have hsd := joinB_short hed
              have hj1 := joinG_any (.slice a k c) (l.take k) wr (hxr.take k hkl) (fun _ _ _ h => by cases h; omega) (by rw [List.length_take]; omega) (few_names (by rw [hdt]; exact het)) (HT.out.below HBw.out)
              unfold JnOut at hj1
              rw [hdt, join_of het] at hj1
              have HStep : Hid (sofar P Q (dl l) (k + 1) = (sm || (Gb.fits P ((dl l).take k) && Gb.fits Q ((dl l).drop k)))) := by
                show _ = _
                rw [sofar_step, ← HSm.out]; rfl
              have HF1 : Hid ((Gb.mtch a0.data.toList (Nn.joinB ((dl l).take k))).1 = Gb.fits P ((dl l).take k)) := mtch_joined HP.out het
              have HF2 : Hid ((Gb.mtch a1.data.toList (Nn.joinB ((dl l).drop k))).1 = Gb.fits Q ((dl l).drop k)) := mtch_joined HQ.out hed
              have HJ2 : Hid (∀ W v', Below w3.heap.size w3 W → Tx W v' (l.drop k) → Cp v' → Calls Tryd.prog 18 #[v'] W fun e w' => e = .returned (.tuple #[St (Nn.joinB ((dl l).drop k)), .int .i64 0]) ∧ Below W.heap.size W w') := fun W v' hW hx' hc' => by
                have := joinG_any v' (l.drop k) W hx' hc' (by rw [List.length_drop]; omega) (few_names (by rw [hdd]; exact hed)) (HT.out.below (HB3.out.trans (hW.mono HB3.out.size)))
                unfold JnOut at this
                rw [hdd, join_of hed] at this
                exact this
              generalize Nn.joinB ((dl l).take k) = S1 at *
              generalize Nn.joinB ((dl l).drop k) = S2 at *
              generalize Gb.fits P ((dl l).take k) = A1 at *
              generalize Gb.fits Q ((dl l).drop k) = A2 at *
              have HG1 : Hid (∀ W, Below w.heap.size w W → Calls Tryd.prog 15 #[.string a0, .string ⟨S1.toArray⟩] W fun e w' => e = .returned (.bool A1) ∧ Below W.heap.size W w') := fun W hW => fits_of a0 ⟨S1.toArray⟩ W (by rw [Lib.size_eq]; simp; omega) (HT.out.below hW) A1 HF1.out
              have HG2 : Hid (∀ W, Below w.heap.size w W → Calls Tryd.prog 15 #[.string a1, .string ⟨S2.toArray⟩] W fun e w' => e = .returned (.bool A2) ∧ Below W.heap.size W w') := fun W hW => fits_of a1 ⟨S2.toArray⟩ W (by rw [Lib.size_eq]; simp; omega) (HT.out.below hW) A2 HF2.out
              have q1 : (k : Int) ≤ (c : Int) := by omega
              have q2 : (k : Int) ≤ (M : Int) := by omega
              clear HF1 HF2 hdt hdd het hed hst hsd hxr HSm
              obtain ⟨bk, o, rfl, _⟩ := HX.out.get 0 (List.length_pos_iff.2 HL0.out)
              obtain ⟨AD, hAD⟩ : ∃ AD, (if c = k then some (⟨bk, o, none⟩ : Addr) else some ⟨bk, o + k, none⟩) = AD := ⟨_, rfl⟩
              have HTd : Hid (Tx w3 (.slice AD (M - k) (c - k)) (l.drop k)) := by
                rcases tx_drop k HX.out hkl with q | q
                · rw [hAD, ← HM.out] at q; exact q
                · have := HM.out; omega
              go_wp2_with fail
              refine hj1.mono ?_
              rintro e w6 ⟨rfl, b6⟩
              have HB6 : Hid (Below w3.heap.size w3 w6) := HB.out.trans (b6.mono HB.out.size)
              clear hj1 b6
              rw [St]
              go_wp2_with fail
              refine (HJ2.out w6 _ HB6.out (HTd.out.below HB6.out) (fun _ _ _ h => by cases h; omega)).mono ?_
              rintro e w7 ⟨rfl, b7⟩
              have HB7 : Hid (Below w3.heap.size w3 w7) := HB6.out.trans (b7.mono HB6.out.size)
              have HBw7 : Hid (Below w.heap.size w w7) := HB3.out.trans (HB7.out.mono HB3.out.size)
              clear b7
              rw [St]
              cases sm with
              | true =>
                have HS2 : Hid (true = sofar P Q (dl l) (k + 1)) := by
                  show _ = _
                  rw [HStep.out, Bool.true_or]
                clear HStep
                go_wp2_with fail
                go_roundw
                case measure => simp only [intOf]; omega
                case rel => exact ⟨k + 1, by omega, by go_num, ⟨_, rfl, HS2⟩, HB7⟩
              | false =>
                have HS2 : Hid ((A1 && A2) = sofar P Q (dl l) (k + 1)) := by
                  show _ = _
                  rw [HStep.out, Bool.false_or]
                clear HStep
                go_wp2_with fail
                refine (HG1.out w7 HBw7.out).mono ?_
                rintro e w8 ⟨rfl, b8⟩
                have HB8 : Hid (Below w3.heap.size w3 w8) := HB7.out.trans (b8.mono HB7.out.size)
                have HBw8 : Hid (Below w.heap.size w w8) := HB3.out.trans (HB8.out.mono HB3.out.size)
                clear b8
                cases A1 with
                | false =>
                  have HS3 : Hid (false = sofar P Q (dl l) (k + 1)) := HS2.out
                  clear HS2
                  go_wp2_with fail
                  go_roundw
                  case measure => simp only [intOf]; omega
                  case rel => exact ⟨k + 1, by omega, by go_num, ⟨_, rfl, HS3⟩, HB8⟩
                | true =>
                  have HS3 : Hid (A2 = sofar P Q (dl l) (k + 1)) := HS2.out
                  clear HS2
                  go_wp2_with fail
                  refine (HG2.out w8 HBw8.out).mono ?_
                  rintro e w9 ⟨rfl, b9⟩
                  have HB9 : Hid (Below w3.heap.size w3 w9) := HB8.out.trans (b9.mono HB8.out.size)
                  clear b9
                  go_wp2_with fail
                  go_roundw
                  case measure => simp only [intOf]; omega
                  case rel => exact ⟨k + 1, by omega, by go_num, ⟨_, rfl, HS3⟩, HB9⟩
            · obtain rfl : k = M + 1 := by omega
              have HSe : Hid (sm = Gb.fits (P ++ Q) (dl l)) := by
                show _ = _
                rw [HSm.out, HM.out, ← dl_length, sofar_all]
              have hf := fits_of (a0 ++ a1) a2 wr (by omega) (HT.out.below HBw.out) _ (by rw [HPQ.out])
              generalize Gb.fits (P ++ Q) (dl l) = ANS at *
              clear HSm HPQ
              go_wp2_with fail
              refine hf.mono ?_
              rintro e w6 ⟨rfl, b6⟩
              have HB6 : Hid (Below w.heap.size w w6) := HBw.out.trans (b6.mono HBw.out.size)
              clear hf b6
              have hs : sm = ANS := HSe.out
              subst hs
              clear HSe
              go_wp2_with fail
              go_ret
              exact ⟨by cases sm <;> rfl, HB6.out⟩
        · have q0 : ((60 : Int) - (a1.size : Int) < (a0.size : Int)) := by omega
          clear hlen
          go_wp2_with fail
          go_ret
          exact ⟨rfl, HBw5.out⟩
      · generalize (Gb.pat a1.data.toList).2 = E at *
        have hqn : (E != 0) = true := by rw [bne_iff_ne]; exact hQ
        clear hQ
        go_wp2_with fail
        refine h5.mono ?_
        rintro e w5 ⟨rfl, b5⟩
        have HBw5 : Hid (Below w.heap.size w w5) := HBw4.out.trans (b5.mono HBw4.out.size)
        clear b5 h5
        go_wp2_with fail
        go_ret
        exact ⟨rfl, HBw5.out⟩
    · generalize (Gb.pat a0.data.toList).2 = E at *
      have hqn : (E != 0) = true := by rw [bne_iff_ne]; exact hP
      clear hP
      go_wp2_with fail
      refine h4.mono ?_
      rintro e w4 ⟨rfl, b4⟩
      have HBw4 : Hid (Below w.heap.size w w4) := HB3.out.trans (b4.mono HB3.out.size)
      clear b4 h4
      go_wp2_with fail
      go_ret
      exact ⟨rfl, HBw4.out⟩
  · generalize (Nn.split a2.data.toList).2 = E at *
    have hqn : (E != 0) = true := by rw [bne_iff_ne]; exact hE
    clear h3 hd hE hx hcp b3
    go_wp2_with fail
    go_ret
    exact ⟨rfl, HB3.out⟩
end Go.Proofs.YtfcnlfblfennaaaDoor
