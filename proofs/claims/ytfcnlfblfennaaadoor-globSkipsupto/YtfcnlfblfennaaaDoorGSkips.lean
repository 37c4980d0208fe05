/-
  lumref: what skipped answers.
  The walk of lumlaw.GlobSkips: it returns true.
  Whatever is handed in, glob.Skips answers what the document says (P42): lumlaw.GlobSkips returns true; arguments of bulk up to 1048576.
-/
import Derived.Test.YtfcnlfblfennaaaDoorRgAll
import Derived.Test.YtfcnlfblfennaaaDoorCards
import Derived.Test.YtfcnlfblfennaaaDoorTie
import Derived.Test.YtfcnlfblfennaaaDoorNnTabs
import Derived.Test.YtfcnlfblfennaaaDoorTxOpen
import Derived.Carry
import Derived.WalkKit
import Derived.ProofKit
import Derived.OpenShut
import Derived.ShutString
import Derived.ChangeOld
import Derived.Below
import Derived.SizedLaws
import Derived.Laws.Cover2
import Derived.Deep.DeepHandedRow
import Derived.Shelf.Vars

namespace Go.Proofs.YtfcnlfblfennaaaDoor
open Go.RowKit
set_option maxRecDepth 4000

/-- the rules' patterns -/
def Gb.pats (R : List (List UInt8)) : List (List (Option (List (Option Gb.Tst)))) := R.map fun s => (Gb.pat (Gb.rule s).2).1
theorem Gb.hit_not (R : List (List UInt8)) (s : List UInt8) (l : List Nn.Name) (h : Gb.fits (Gb.pat (Gb.rule s).2).1 l = false) : Gb.hit (R ++ [s]) l = Gb.hit R l := by
  unfold Gb.hit
  rw [List.reverse_append, List.reverse_singleton, List.singleton_append, List.find?_cons_of_neg (by rw [h]; simp)]
theorem Gb.rerr_all : ∀ {R : List (List UInt8)}, Gb.rerr R = 0 → ∀ s ∈ R, (Gb.pat (Gb.rule s).2).2 = 0
  | [], _, s, hs => by simp at hs
  | t :: R, h, s, hs => by
    rw [Gb.rerr_cons] at h
    by_cases ht : (Gb.pat (Gb.rule t).2).2 = 0
    · rw [if_neg (by simpa using ht)] at h
      rcases List.mem_cons.1 hs with e | hs
      · rw [e]; exact ht
      · exact Gb.rerr_all h s hs
    · rw [if_pos ht] at h; exact absurd h ht
theorem Gb.rule_ne {s : List UInt8} (h : (Gb.pat (Gb.rule s).2).2 = 0) : s ≠ [] := by
  rintro rfl
  have : Gb.pat (Gb.rule []).2 = ([], 13) := by
    show Gb.pat [] = _
    unfold Gb.pat
    rw [if_neg (by simp), if_pos (.inr (by simp))]
  rw [this] at h
  cases h
theorem bang_of (t : ByteArray) (h : 0 < t.size) : (Gb.rule t.data.toList).1 = decide (t[0].toNat = 33) := by
  unfold Gb.rule
  have e : t.data.toList.head? = some t[0] := by rw [List.head?_eq_getElem?, Lib.data_getElem? t 0 h]
  rw [e]
  by_cases q : t[0] = 33
  · rw [if_pos (by rw [q]), decide_eq_true (by rw [q]; rfl)]
  · rw [if_neg (by simpa using q), decide_eq_false (p := t[0].toNat = 33) (fun e => q (UInt8.toNat_inj.1 e))]

/-- a pattern as it lies in memory -/
def PaR (w : World) (P : List (Option (List (Option Gb.Tst)))) (c : List Value) : Prop := ∃ v, c = [v] ∧ Pms w v P ∧ FewP P ∧ P.length ≤ 4194304
abbrev Pas (w : World) (v : Value) (L : List (List (Option (List (Option Gb.Tst))))) : Prop := Ry 1 22 PaR w v L
theorem PaR.kt {w W : World} {P : List (Option (List (Option Gb.Tst)))} {c : List Value} (hk : Kt 22 w W) (h : PaR w P c) : PaR W P c := by
  obtain ⟨v, e, q, r⟩ := h
  exact ⟨v, e, Ry.kt q hk (by decide) fun _ _ x => PmR.kt hk (by decide) (by decide) (by decide) (by decide) x, r⟩
theorem PaR.below {w W : World} {P : List (Option (List (Option Gb.Tst)))} {c : List Value} (h : PaR w P c) (hb : Below w.heap.size w W) : PaR W P c := by
  obtain ⟨v, e, q, r⟩ := h
  exact ⟨v, e, q.below hb, r⟩
theorem Pas.below {w W : World} {v : Value} {L : List (List (Option (List (Option Gb.Tst))))} (h : Pas w v L) (hb : Below w.heap.size w W) : Pas W v L := Ry.below h hb fun _ _ q => q.below hb

/-! the walks -/

set_option maxHeartbeats 1000000 in
set_option maxRecDepth 10000 in
theorem rskipped_any : ∀ (n : Nat) (vr va vl : Value) (R l : List ByteArray) (w : World), Tx w vr R → (∀ s ∈ R, 0 < s.size) → R.length ≤ 4194304 → Pas w va (Gb.pats (dl R)) → Tx w vl l → Cp vl → Txt l → l.length = n → n ≤ 4194304 →
    Calls Tryd.prog 29 #[vr, va, vl] w fun e w' => e = .returned (.bool (Gb.out (dl R) (dl l))) ∧ Below w.heap.size w w'
  | 0, vr, va, vl, R, l, w, _, _, _, _, hl, _, _, hn, _ => by
    obtain rfl := List.length_eq_zero_iff.1 hn
    obtain ⟨al, cl, rfl⟩ := hl.slice
    rw [show Gb.out (dl R) (dl []) = false from rfl]
    simp only [List.length_nil]
    clear hl hn
    go_enter Tryd.func29, Tryd.ntmps29
    go_wp2_with fail
    go_ret
    exact ⟨rfl, Below.refl _ _⟩
  | n + 1, vr, va, vl, R, l, w, hr, hne, hR, ha, hl, hcp, ht, hn, hn4 => by
    obtain ⟨al, cl, rfl⟩ := hl.slice
    obtain ⟨ar, cr, rfl⟩ := hr.slice
    obtain ⟨aa, ca, rfl⟩ := ha.slice
    have hcap : l.length ≤ cl := hcp _ _ _ rfl
    rw [hn] at hcap
    have IH := rskipped_any n _ _ _ R (l.take n) w hr hne hR ha (hl.take n (by omega)) (fun a m c e => by cases e; omega) (fun s hs => ht s (List.mem_of_mem_take hs)) (by rw [List.length_take]; omega) (by omega)
    have hsn : dl l = dl (l.take n) ++ [(l[n]'(by omega)).data.toList] := by
      have hd : dl (l.take n ++ [l[n]'(by omega)]) = dl (l.take n) ++ [(l[n]'(by omega)).data.toList] := by simp only [dl, List.map_append, List.map_cons, List.map_nil]
      rw [← hd, ← List.take_succ_eq_append_getElem, List.take_of_length_le (by omega)]
    have HO : Hid (Gb.out (dl R) (dl l) = (Gb.out (dl R) (dl (l.take n)) || Gb.hit (dl R) (dl l))) := by
      show _ = _
      conv => lhs; rw [hsn]
      rw [Gb.out_snoc, ← hsn]
    have HPL : Hid ((Gb.pats (dl R)).length = R.length) := by show _ = _; simp [Gb.pats, dl]
    rw [HPL.out] at ha IH ⊢
    generalize Gb.out (dl R) (dl l) = ANS at *
    generalize Gb.out (dl R) (dl (l.take n)) = A1 at *
    have HR : Hid (Tx w (.slice ar R.length cr) R ∧ (∀ s ∈ R, 0 < s.size) ∧ Pas w (.slice aa R.length ca) (Gb.pats (dl R))) := ⟨hr, hne, ha⟩
    have HL : Hid (Tx w (.slice al l.length cl) l ∧ Txt l) := ⟨hl, ht⟩
    have HLL : Hid (l.length ≤ 4194304) := by show _ ≤ _; omega
    obtain ⟨N, hN⟩ : ∃ N, N = R.length := ⟨_, rfl⟩
    have HN : Hid (N = R.length) := hN
    rw [← hN] at HR hR IH ⊢
    rw [hn] at HL ⊢
    clear hr hne ha hl ht hsn HPL hN hn hcp
    go_enter Tryd.func29, Tryd.ntmps29
    go_wp2_with fail
    refine IH.mono ?_
    rintro e w1 ⟨rfl, b1⟩
    have HB1 : Hid (Below w.heap.size w w1) := b1
    clear IH b1
    cases A1 with
    | true =>
      have HA : Hid (ANS = true) := by show _ = _; rw [HO.out]; rfl
      clear HO
      go_wp2_with fail
      go_ret
      exact ⟨by rw [HA.out]; rfl, HB1.out⟩
    | false =>
      have HS : Hid (Gb.hit (dl (R.take N)) (dl l) = ANS) := by
        show _ = _
        rw [HO.out, HN.out, List.take_of_length_le (Nat.le_refl _)]; rfl
      clear HO
      go_wp2_with fail
      go_loopw [7] (fun x wr => ∃ k : Nat, k ≤ N ∧ x = .int .i64 ((k : Int) - 1) ∧ Hid (Gb.hit (dl (R.take k)) (dl l) = ANS) ∧ Hid (Below w.heap.size w wr)) (fun x _ => (intOf x + 1).toNat)
      case atStart => exact ⟨N, by omega, by go_num, HS, HB1⟩
      case round =>
        clear HS
        obtain ⟨k, hk, rfl, HS, HB⟩ := hrel
        by_cases hk0 : 0 < k
        · obtain ⟨j, rfl⟩ : ∃ j, k = j + 1 := ⟨k - 1, by omega⟩
          rw [show (((j + 1 : Nat) : Int) - 1) = (j : Int) from by omega]
          have hjl : j < R.length := by rw [← HN.out]; omega
          have hjd : R[j]? = some (R.getD j ByteArray.empty) := by rw [List.getD_eq_getElem?_getD, List.getElem?_eq_getElem hjl]; rfl
          have htk : dl (R.take (j + 1)) = dl (R.take j) ++ [(R.getD j ByteArray.empty).data.toList] := by
            rw [List.take_add_one, hjd]
            simp [dl]
          obtain ⟨rk, ro, rfl, hrk, ce⟩ := (HR.out.1.below HB.out).get j hjl
          have ht0 : 0 < (R.getD j ByteArray.empty).size := HR.out.2.1 _ (List.mem_of_getElem? hjd)
          obtain ⟨bk, o, cs, rfl, hbk, hcl, ⟨v, rfl, hPt, hFp, hLp⟩, hcell⟩ := (Pas.below HR.out.2.2 HB.out).get j (Gb.pat (Gb.rule (R.getD j ByteArray.empty).data.toList).2).1 (by
            simp only [Gb.pats, dl, List.getElem?_map, hjd, Option.map_some])
          generalize R.getD j ByteArray.empty = t at *
          have d0 : wr.cell? ⟨bk, o + j, none⟩ = some v := by
            have := hcell 0 _ rfl
            rwa [Nat.mul_one] at this
          have HY : Hid (Gb.fits (Gb.pat (Gb.rule t.data.toList).2).1 (dl l) = true → ANS = !decide (t[0].toNat = 33)) := fun h => by
            rw [← HS.out, htk, Gb.hit_last _ _ _ h, bang_of t ht0]
          have HNo : Hid (Gb.fits (Gb.pat (Gb.rule t.data.toList).2).1 (dl l) = false → Gb.hit (dl (R.take j)) (dl l) = ANS) := fun h => by
            rw [← HS.out, htk, Gb.hit_not _ _ _ h]
          generalize (Gb.pat (Gb.rule t.data.toList).2).1 = P at *
          have hf := rfits_any v _ P l wr hPt hFp hLp (HL.out.1.below HB.out) HL.out.2 HLL.out
          obtain ⟨pa, pc, rfl⟩ := hPt.slice
          clear hPt hFp hLp hcell htk hjd hcl HS
          generalize P.length = np at *
          go_wp2_with fail
          refine hf.mono ?_
          rintro e w2 ⟨rfl, b2⟩
          have HB2 : Hid (Below w.heap.size w w2) := HB.out.trans (b2.mono HB.out.size)
          cases hft : Gb.fits P (dl l) with
          | true =>
            have HA : Hid (ANS = !decide (t[0].toNat = 33)) := HY.out hft
            have c2 : w2.cell? ⟨rk, ro + j, none⟩ = some (.string t) := (Below.cell b2 (p := ⟨rk, ro + j, none⟩) hrk).trans ce
            clear HY HNo hf b2 ce d0
            go_wp2_with fail
            go_ret
            refine ⟨?_, HB2.out⟩
            rw [HA.out]
            generalize t[0].toNat = c0
            by_cases q : c0 = 33
            · subst q; rfl
            · have e1 : ((c0 : Int) != 33) = true := by rw [bne_iff_ne]; omega
              rw [decide_eq_false q]
              simp [e1]
          | false =>
            have HS2 : Hid (Gb.hit (dl (R.take j)) (dl l) = ANS) := HNo.out hft
            clear HY HNo hf b2 ce d0
            go_wp2_with fail
            go_roundw
            case measure => simp only [intOf]; omega
            case rel => exact ⟨j, by omega, by go_num, HS2, HB2⟩
        · obtain rfl : k = 0 := by omega
          have HE : Hid (ANS = false) := by
            have := HS.out
            rw [show R.take 0 = [] from rfl] at this
            exact this.symm
          clear HS
          go_wp2_with fail
          go_ret
          exact ⟨by rw [HE.out]; rfl, HB.out⟩

theorem info_mm : (Tryd.prog.info? 22).map (fun i => (i.zero, i.size, i.bytes)) = some (some (.slice none 0 0), 1, 24) := by kernel_rfl

set_option maxHeartbeats 4000000 in
set_option maxRecDepth 10000 in
theorem rskips_any (v : Value) (R : List ByteArray) (q : ByteArray) (w : World) (hx : Tx w v R) (hl : R.length ≤ 9223372036854775807) (hq : q.size ≤ 4194304) :
    Calls Tryd.prog 14 #[v, .string q] w fun e w' => e = .returned (.tuple #[.bool (Gb.skips (dl R) q.data.toList).1, .int .i64 (Gb.skips (dl R) q.data.toList).2]) ∧ Below w.heap.size w w' := by
  have HA : Hid (Gb.skips (dl R) q.data.toList = if 20 < (dl R).length then (false, 2) else if Gb.rerr (dl R) ≠ 0 then (false, Gb.rerr (dl R)) else if (Nn.split q.data.toList).2 ≠ 0 then (false, (Nn.split q.data.toList).2) else (Gb.out (dl R) (Nn.split q.data.toList).1, 0)) := rfl
  rw [dl_length] at HA
  generalize Gb.skips (dl R) q.data.toList = Z at *
  by_cases h20 : 20 < R.length
  · have HA2 : Hid (Z = (false, 2)) := by
      have := HA.out
      rwa [if_pos h20] at this
    obtain ⟨a, c, rfl⟩ := hx.slice
    have h1 : (20 : Int) < (R.length : Int) := by omega
    clear HA hx
    generalize R.length = N at *
    go_enter Tryd.func14, Tryd.ntmps14
    go_wp2_with fail
    go_ret2
    exact ⟨by rw [HA2.out]; rfl, Below.refl _ _⟩
  obtain ⟨E, hE0⟩ : ∃ E, E = Gb.rerr (dl R) := ⟨_, rfl⟩
  have HER : Hid (E = Gb.rerr (dl R)) := hE0
  have HZ : Hid (Z = if E ≠ 0 then (false, E) else if (Nn.split q.data.toList).2 ≠ 0 then (false, (Nn.split q.data.toList).2) else (Gb.out (dl R) (Nn.split q.data.toList).1, 0)) := by
    have := HA.out
    rw [if_neg h20, ← hE0] at this
    exact this
  have HS : Hid (Gb.rerr (dl (R.drop 0)) = E) := hE0.symm
  clear HA hE0
  obtain ⟨a, c, rfl⟩ := hx.slice
  have HX : Hid (Tx w (.slice a R.length c) R) := hx
  obtain ⟨N, hN⟩ : ∃ N, N = R.length := ⟨_, rfl⟩
  have HN : Hid (N = R.length) := hN
  rw [← hN] at HX hl h20 ⊢
  have h1 : ¬ ((20 : Int) < (N : Int)) := by omega
  obtain ⟨i0, hi, hz0, hz1, hz2⟩ := info_is info_mm
  clear hx hN
  go_enter Tryd.func14, Tryd.ntmps14
  go_wp2_with fail
  go_loopw [6, 18] (fun v4 x wr => ∃ k : Nat, k ≤ N ∧ x = .int .i64 k ∧ Hid (Oy 1 22 PaR w.heap.size wr v4 (Gb.pats (dl (R.take k)))) ∧ Hid (Gb.rerr (dl (R.drop k)) = E) ∧ Hid (Below w.heap.size w wr)) (fun _ x _ => N - (intOf x).toNat)
  case atStart => exact ⟨0, by omega, rfl, Oy.nil, HS, Below.refl _ _⟩
  case round =>
    clear HS
    obtain ⟨k, hk, rfl, HO, HS, HB⟩ := hrel
    by_cases hlt : k < N
    · have hkl : k < R.length := by rw [← HN.out]; exact hlt
      obtain ⟨bk, o, rfl, hbk, ce⟩ := (HX.out.below HB.out).get k hkl
      have hdr : dl (R.drop k) = (R.getD k ByteArray.empty).data.toList :: dl (R.drop (k + 1)) := by
        rw [List.getD_eq_getElem?_getD, List.getElem?_eq_getElem hkl, List.drop_eq_getElem_cons hkl]
        rfl
      have HTk : Hid (Gb.pats (dl (R.take (k + 1))) = Gb.pats (dl (R.take k)) ++ [(Gb.pat (Gb.rule (R.getD k ByteArray.empty).data.toList).2).1]) := by
        show _ = _
        rw [List.take_succ_eq_append_getElem hkl, List.getD_eq_getElem?_getD, List.getElem?_eq_getElem hkl]
        simp only [dl, Gb.pats, List.map_append, List.map_cons, List.map_nil, Option.getD_some]
      generalize R.getD k ByteArray.empty = t at *
      obtain ⟨q0, hq0⟩ : ∃ q0 : ByteArray, q0 = ⟨(Gb.rule t.data.toList).2.toArray⟩ := ⟨_, rfl⟩
      have hqd : q0.data.toList = (Gb.rule t.data.toList).2 := by rw [hq0]
      rw [← hqd] at HTk
      have hpa := rpattern_any q0 wr
      unfold PrOut at hpa
      have HSt : Hid (E = if (Gb.pat q0.data.toList).2 ≠ 0 then (Gb.pat q0.data.toList).2 else Gb.rerr (dl (R.drop (k + 1)))) := by
        show _ = _
        rw [← HS.out, hdr, Gb.rerr_cons, hqd]
      generalize (Gb.pat q0.data.toList).2 = E2 at *
      generalize (Gb.pat q0.data.toList).1 = P at *
      clear hdr hqd HS
      by_cases ht0 : t.data.toList = []
      · obtain rfl := of_data ht0
        obtain rfl : q0 = ByteArray.empty := by rw [hq0, ht0]; rfl
        clear hq0 ht0
        go_wp2_with fail
        refine hpa.mono ?_
        rintro e w3 ⟨v9, rfl, hPt, b3, hFp, hLp⟩
        have HB3 : Hid (Below w.heap.size w w3) := HB.out.trans (b3.mono HB.out.size)
        by_cases hE : E2 = 0
        · subst hE
          have HS2 : Hid (Gb.rerr (dl (R.drop (k + 1))) = E) := by
            have := HSt.out
            rw [if_neg (by simp)] at this
            exact this.symm
          have hO3 := HO.out.below b3 fun _ _ q => q.below b3
          obtain ⟨cc, o1, o2, o3, o4⟩ := hO3
          have hsw := HB3.out.size
          have hdl : (Gb.pats (dl (R.take k))).length ≤ 4194304 := by
            simp only [Gb.pats, dl, List.length_map, List.length_take]
            omega
          have HPt : Hid (PaR w3 P [v9]) := ⟨v9, rfl, hPt, hFp, hLp⟩
          have HO2 : Hid ((∀ c ∈ cc, c.length = 1) ∧ cc.length = (Gb.pats (dl (R.take k))).length ∧ ∀ (j : Nat) t c, (Gb.pats (dl (R.take k)))[j]? = some t → cc[j]? = some c → PaR w3 t c) := ⟨o2, o3, o4⟩
          obtain ⟨a9, c9, rfl⟩ := hPt.slice
          clear b3 hpa HSt o2 o3 o4 hPt hFp hLp HO
          generalize Gb.pats (dl (R.take k)) = done at *
          generalize hnp : P.length = np at *
          clear hnp
          go_wp2_with (at_builtin; refine wpList_append_own _ rfl (.tmp 39) (.tmp 41) 60 rfl w.heap.size 22 i0 (.slice none 0 0) 1 24 Tryd.underlying60 hi hz0 hz1 hz2 rfl (by decide) _ _ _ rfl (o1.alloc _) ⟨w3.heap.size, 0, none⟩ 1 1 [.slice a9 np c9] rfl rfl ?c1 ?c2 ?c3 ?c4 ?c5 ?_)
          case c1 =>
            intro j u hj
            match j, hj with
            | 0, hj => simp at hj; subst hj; simp [Addr.add]
          case c2 =>
            intro u hu
            simp only [List.mem_cons, List.not_mem_nil, or_false] at hu
            rcases hu with rfl <;> rfl
          case c3 => unfold maxLen; omega
          case c4 => omega
          case c5 => simp; omega
          intro v6 w4 hown4 hgrow _
          have hk4 : Kt 22 w3 w4 := ((Kt.refl _ w3).alloc _).trans (Kt.of_grown hgrow fun g hg => by
            obtain ⟨cur, q, _⟩ := own_block (o1.alloc _) hg
            exact ⟨cur, _, q⟩)
          have HB4 : Hid (Below w.heap.size w w4) := (HB3.out.alloc hsw _).grown hgrow (by simp; omega) fun g hg => by
            obtain ⟨_, _, q, _⟩ := own_block o1 hg
            exact q
          have HOn : Hid (Oy 1 22 PaR w.heap.size w4 v6 (Gb.pats (dl (R.take (k + 1))))) := by
            show Oy _ _ _ _ _ _ _
            rw [HTk.out]
            exact Oy.more HO2.out.1 HO2.out.2.1 (fun j t c a b => PaR.kt hk4 (HO2.out.2.2 j t c a b)) hown4 rfl (PaR.kt hk4 HPt.out)
          clear hown4 hgrow hk4 o1 HO2 HPt HB3 HTk
          go_wp2_with fail
          go_roundw
          case measure => simp only [intOf]; omega
          case rel => exact ⟨k + 1, by omega, by go_num, HOn, HS2, HB4⟩
        · have hqn : (E2 != 0) = true := by rw [bne_iff_ne]; exact hE
          have HE : Hid (Z = (false, E2)) := by
            have := HSt.out
            rw [if_pos hE] at this
            show _ = _
            rw [HZ.out, this, if_pos hE]
          clear hpa HSt hE hPt hFp hLp b3
          go_wp2_with fail
          go_ret2
          exact ⟨by rw [HE.out]; rfl, HB3.out⟩
      have e1 : (t.toList == []) = false := data_ne ht0
      have hp0 : 0 < t.size := by rw [Lib.size_eq]; exact List.length_pos_iff.2 ht0
      have htl : t.data.toList.head? = some t[0] := by rw [List.head?_eq_getElem?, Lib.data_getElem? t 0 hp0]
      by_cases h33 : t[0] = 33
      · have hqe : t.extract 1 t.size = q0 := by
          rw [hq0, Gb.rule, if_pos (by rw [htl, h33])]
          apply ByteArray.ext
          apply Array.toList_inj.1
          rw [Nn.ext_drop, List.drop_one]
        have hnb : ((t[0].toNat : Int) == 33) = true := by rw [h33]; rfl
        have q1 : (1 : Int) ≤ (t.size : Int) := by omega
        clear hq0 ht0 htl h33
        go_wp2_with fail
        clear hnb
        generalize t[0].toNat = c0
        refine hpa.mono ?_
        rintro e w3 ⟨v9, rfl, hPt, b3, hFp, hLp⟩
        have HB3 : Hid (Below w.heap.size w w3) := HB.out.trans (b3.mono HB.out.size)
        by_cases hE : E2 = 0
        · subst hE
          have HS2 : Hid (Gb.rerr (dl (R.drop (k + 1))) = E) := by
            have := HSt.out
            rw [if_neg (by simp)] at this
            exact this.symm
          have hO3 := HO.out.below b3 fun _ _ q => q.below b3
          obtain ⟨cc, o1, o2, o3, o4⟩ := hO3
          have hsw := HB3.out.size
          have hdl : (Gb.pats (dl (R.take k))).length ≤ 4194304 := by
            simp only [Gb.pats, dl, List.length_map, List.length_take]
            omega
          have HPt : Hid (PaR w3 P [v9]) := ⟨v9, rfl, hPt, hFp, hLp⟩
          have HO2 : Hid ((∀ c ∈ cc, c.length = 1) ∧ cc.length = (Gb.pats (dl (R.take k))).length ∧ ∀ (j : Nat) t c, (Gb.pats (dl (R.take k)))[j]? = some t → cc[j]? = some c → PaR w3 t c) := ⟨o2, o3, o4⟩
          obtain ⟨a9, c9, rfl⟩ := hPt.slice
          clear b3 hpa HSt o2 o3 o4 hPt hFp hLp HO
          generalize Gb.pats (dl (R.take k)) = done at *
          generalize hnp : P.length = np at *
          clear hnp
          go_wp2_with (at_builtin; refine wpList_append_own _ rfl (.tmp 39) (.tmp 41) 60 rfl w.heap.size 22 i0 (.slice none 0 0) 1 24 Tryd.underlying60 hi hz0 hz1 hz2 rfl (by decide) _ _ _ rfl (o1.alloc _) ⟨w3.heap.size, 0, none⟩ 1 1 [.slice a9 np c9] rfl rfl ?c1 ?c2 ?c3 ?c4 ?c5 ?_)
          case c1 =>
            intro j u hj
            match j, hj with
            | 0, hj => simp at hj; subst hj; simp [Addr.add]
          case c2 =>
            intro u hu
            simp only [List.mem_cons, List.not_mem_nil, or_false] at hu
            rcases hu with rfl <;> rfl
          case c3 => unfold maxLen; omega
          case c4 => omega
          case c5 => simp; omega
          intro v6 w4 hown4 hgrow _
          have hk4 : Kt 22 w3 w4 := ((Kt.refl _ w3).alloc _).trans (Kt.of_grown hgrow fun g hg => by
            obtain ⟨cur, q, _⟩ := own_block (o1.alloc _) hg
            exact ⟨cur, _, q⟩)
          have HB4 : Hid (Below w.heap.size w w4) := (HB3.out.alloc hsw _).grown hgrow (by simp; omega) fun g hg => by
            obtain ⟨_, _, q, _⟩ := own_block o1 hg
            exact q
          have HOn : Hid (Oy 1 22 PaR w.heap.size w4 v6 (Gb.pats (dl (R.take (k + 1))))) := by
            show Oy _ _ _ _ _ _ _
            rw [HTk.out]
            exact Oy.more HO2.out.1 HO2.out.2.1 (fun j t c a b => PaR.kt hk4 (HO2.out.2.2 j t c a b)) hown4 rfl (PaR.kt hk4 HPt.out)
          clear hown4 hgrow hk4 o1 HO2 HPt HB3 HTk
          go_wp2_with fail
          go_roundw
          case measure => simp only [intOf]; omega
          case rel => exact ⟨k + 1, by omega, by go_num, HOn, HS2, HB4⟩
        · have hqn : (E2 != 0) = true := by rw [bne_iff_ne]; exact hE
          have HE : Hid (Z = (false, E2)) := by
            have := HSt.out
            rw [if_pos hE] at this
            show _ = _
            rw [HZ.out, this, if_pos hE]
          clear hpa HSt hE hPt hFp hLp b3
          go_wp2_with fail
          go_ret2
          exact ⟨by rw [HE.out]; rfl, HB3.out⟩
      · have hqe : q0 = t := by
          rw [hq0, Gb.rule, if_neg (by rw [htl]; simpa using h33)]
        subst hqe
        have hnb : ((q0[0].toNat : Int) == 33) = false := by
          rw [beq_eq_false_iff_ne]
          intro e
          have e2 : q0[0].toNat = 33 := by omega
          exact h33 (UInt8.toNat_inj.1 e2)
        clear hq0 ht0 htl h33
        go_wp2_with fail
        clear hnb
        generalize q0[0].toNat = c0
        refine hpa.mono ?_
        rintro e w3 ⟨v9, rfl, hPt, b3, hFp, hLp⟩
        have HB3 : Hid (Below w.heap.size w w3) := HB.out.trans (b3.mono HB.out.size)
        by_cases hE : E2 = 0
        · subst hE
          have HS2 : Hid (Gb.rerr (dl (R.drop (k + 1))) = E) := by
            have := HSt.out
            rw [if_neg (by simp)] at this
            exact this.symm
          have hO3 := HO.out.below b3 fun _ _ q => q.below b3
          obtain ⟨cc, o1, o2, o3, o4⟩ := hO3
          have hsw := HB3.out.size
          have hdl : (Gb.pats (dl (R.take k))).length ≤ 4194304 := by
            simp only [Gb.pats, dl, List.length_map, List.length_take]
            omega
          have HPt : Hid (PaR w3 P [v9]) := ⟨v9, rfl, hPt, hFp, hLp⟩
          have HO2 : Hid ((∀ c ∈ cc, c.length = 1) ∧ cc.length = (Gb.pats (dl (R.take k))).length ∧ ∀ (j : Nat) t c, (Gb.pats (dl (R.take k)))[j]? = some t → cc[j]? = some c → PaR w3 t c) := ⟨o2, o3, o4⟩
          obtain ⟨a9, c9, rfl⟩ := hPt.slice
          clear b3 hpa HSt o2 o3 o4 hPt hFp hLp HO
          generalize Gb.pats (dl (R.take k)) = done at *
          generalize hnp : P.length = np at *
          clear hnp
          go_wp2_with (at_builtin; refine wpList_append_own _ rfl (.tmp 39) (.tmp 41) 60 rfl w.heap.size 22 i0 (.slice none 0 0) 1 24 Tryd.underlying60 hi hz0 hz1 hz2 rfl (by decide) _ _ _ rfl (o1.alloc _) ⟨w3.heap.size, 0, none⟩ 1 1 [.slice a9 np c9] rfl rfl ?c1 ?c2 ?c3 ?c4 ?c5 ?_)
          case c1 =>
            intro j u hj
            match j, hj with
            | 0, hj => simp at hj; subst hj; simp [Addr.add]
          case c2 =>
            intro u hu
            simp only [List.mem_cons, List.not_mem_nil, or_false] at hu
            rcases hu with rfl <;> rfl
          case c3 => unfold maxLen; omega
          case c4 => omega
          case c5 => simp; omega
          intro v6 w4 hown4 hgrow _
          have hk4 : Kt 22 w3 w4 := ((Kt.refl _ w3).alloc _).trans (Kt.of_grown hgrow fun g hg => by
            obtain ⟨cur, q, _⟩ := own_block (o1.alloc _) hg
            exact ⟨cur, _, q⟩)
          have HB4 : Hid (Below w.heap.size w w4) := (HB3.out.alloc hsw _).grown hgrow (by simp; omega) fun g hg => by
            obtain ⟨_, _, q, _⟩ := own_block o1 hg
            exact q
          have HOn : Hid (Oy 1 22 PaR w.heap.size w4 v6 (Gb.pats (dl (R.take (k + 1))))) := by
            show Oy _ _ _ _ _ _ _
            rw [HTk.out]
            exact Oy.more HO2.out.1 HO2.out.2.1 (fun j t c a b => PaR.kt hk4 (HO2.out.2.2 j t c a b)) hown4 rfl (PaR.kt hk4 HPt.out)
          clear hown4 hgrow hk4 o1 HO2 HPt HB3 HTk
          go_wp2_with fail
          go_roundw
          case measure => simp only [intOf]; omega
          case rel => exact ⟨k + 1, by omega, by go_num, HOn, HS2, HB4⟩
        · have hqn : (E2 != 0) = true := by rw [bne_iff_ne]; exact hE
          have HE : Hid (Z = (false, E2)) := by
            have := HSt.out
            rw [if_pos hE] at this
            show _ = _
            rw [HZ.out, this, if_pos hE]
          clear hpa HSt hE hPt hFp hLp b3
          go_wp2_with fail
          go_ret2
          exact ⟨by rw [HE.out]; rfl, HB3.out⟩
    · obtain rfl : k = N := by omega
      have hnl : R.length ≤ k := by rw [HN.out]; exact Nat.le_refl _
      have hE : E = 0 := by
        have := HS.out
        rw [List.drop_eq_nil_of_le hnl] at this
        exact this.symm
      have HR0 : Hid (Gb.rerr (dl R) = 0) := by show _ = _; rw [← HER.out]; exact hE
      have HP : Hid (Pas wr u6 (Gb.pats (dl R))) := by
        have h1 := HO.out.ry
        rw [List.take_of_length_le hnl] at h1
        exact h1
      have HZ2 : Hid (Z = if (Nn.split q.data.toList).2 ≠ 0 then (false, (Nn.split q.data.toList).2) else (Gb.out (dl R) (Nn.split q.data.toList).1, 0)) := by
        have := HZ.out
        rwa [if_neg (by simpa using hE)] at this
      have hs := rsplit_any q wr hq
      clear HO HS hnl hE HZ HER
      go_wp2_with fail
      refine hs.mono ?_
      rintro e w2 ⟨v2, l, rfl, hd, hx2, hcp, b2⟩
      have HB2 : Hid (Below w.heap.size w w2) := HB.out.trans (b2.mono HB.out.size)
      by_cases hF : (Nn.split q.data.toList).2 = 0
      · have hsp : Nn.split q.data.toList = (dl l, 0) := Prod.ext hd.symm hF
        have he := (Nn.join_ok (Nn.split_join hsp)).1
        have hl8 := Nn.errs_len he
        rw [dl_length] at hl8
        have hsk := rskipped_any l.length _ _ v2 R l w2 (HX.out.below HB2.out) (fun s hs => by
          have := Gb.rule_ne (Gb.rerr_all HR0.out s.data.toList (List.mem_map_of_mem hs))
          rw [Lib.size_eq]; exact List.length_pos_iff.2 this) (by rw [← HN.out]; omega) (HP.out.below b2) hx2 hcp (txt_of he) rfl (by omega)
        have HZ3 : Hid (Z = (Gb.out (dl R) (dl l), 0)) := by
          have := HZ2.out
          rwa [hsp, if_neg (by simp)] at this
        generalize Gb.out (dl R) (dl l) = ANS at *
        rw [hsp]
        obtain ⟨a2, c2, rfl⟩ := hx2.slice
        obtain ⟨a3, c3, hsl⟩ := HP.out.slice
        generalize (Gb.pats (dl R)).length = np at hsl
        subst hsl
        generalize l.length = nl at *
        clear hs hd hx2 hcp b2 hF hsp he HZ2 HP
        go_wp2_with fail
        refine hsk.mono ?_
        rintro e w3 ⟨rfl, b3⟩
        have HB3 : Hid (Below w.heap.size w w3) := HB2.out.trans (b3.mono HB2.out.size)
        clear hsk b3
        go_wp2_with fail
        go_ret2
        exact ⟨by rw [HZ3.out]; rfl, HB3.out⟩
      · have HZ3 : Hid (Z = (false, (Nn.split q.data.toList).2)) := by
          have := HZ2.out
          rwa [if_pos hF] at this
        generalize (Nn.split q.data.toList).2 = F at *
        have hqn : (F != 0) = true := by rw [bne_iff_ne]; exact hF
        clear hs hd hx2 hcp b2 hF HZ2 HP
        go_wp2_with fail
        go_ret2
        exact ⟨by rw [HZ3.out]; rfl, HB2.out⟩
end Go.Proofs.YtfcnlfblfennaaaDoor

namespace Go.Proofs.YtfcnlfblfennaaaDoor
open Go.RowKit
set_option maxRecDepth 4000

set_option maxRecDepth 8000 in
set_option maxHeartbeats 2000000 in
theorem globSkips_walk (v0 : Value) (l0 : List ByteArray) (a1 : ByteArray) (z0 : l0.length ≤ 140737488351232) (_ : ∀ s ∈ l0, s.size ≤ 1048576) (_ : Cp v0) (z1 : a1.size ≤ 1048576) (w : World) (t0 : Tx w v0 l0) (hT : Tabs w) :
    Calls Tryd.prog 4 #[v0, .string a1] w fun e w' => e = .returned (.bool true) ∧ Below w.heap.size w w' := by
  have HX : Hid (Tx w v0 l0) := t0
  have k2 := gskips_any v0 l0 a1 w t0 (by omega) (by omega) hT
  have h3 := fun W (hW : Tx W v0 l0) => rskips_any v0 l0 a1 W hW (by omega) (by omega)
  generalize (Gb.skips (dl l0) a1.data.toList).1 = A at *
  generalize (Gb.skips (dl l0) a1.data.toList).2 = F at *
  obtain ⟨a, c, rfl⟩ := t0.slice
  generalize l0.length = N at *
  clear hT
  go_enter Tryd.func4, Tryd.ntmps4
  go_wp2_with fail
  refine k2.mono ?_
  rintro e w2 ⟨rfl, b2⟩
  have HB2 : Hid (Below w.heap.size w w2) := b2
  have k3 := h3 w2 (HX.out.below b2)
  clear b2 k2 h3
  go_wp2_with fail
  refine k3.mono ?_
  rintro e w3 ⟨rfl, b3⟩
  have HB3 : Hid (Below w.heap.size w w3) := HB2.out.trans (b3.mono HB2.out.size)
  clear b3 k3
  go_wp2_with fail
  go_ret
  exact ⟨by cases A <;> simp, HB3.out⟩
end Go.Proofs.YtfcnlfblfennaaaDoor

namespace Go.Proofs.YtfcnlfblfennaaaDoor.globSkips
open Go.ChangeShapes Go.WideShapes Go.ChangeAt Go.RowKit
open Go.ChangeMaps (open_string shut_string)
set_option linter.unusedVariables false

theorem own : ownKnob Tryd.prog.godebug = none := by kernel_rfl

set_option maxRecDepth 100000 in
/-- what the walk gives, for every argument and every world in which the tables are as they are laid -/
theorem contract (H : Type) (enc : TypeId × Value → H) (F : Stop.Interp) (W : World) (base : Nat) (args : Array Value) (ds gs : List (DataW H)) (before : List MemPlace)
    (hval0 : ∀ (j : Nat) t v, Tryd.f4.params[j]? = some t → args[j]? = some v → Value.okWide Tryd.prog W .any base t v)
    (hW : DataW.Whole enc Tryd.prog Tryd.f4.params.toList Rows.globSkipsSpec.vars false W args.toList ds gs before)
    (hk : Rows.uptoSmall H (ds ++ gs) = true)
    (hsz0 : (DataW.weightsEach Tryd.prog (Tryd.f4.params.toList ++ Rows.globSkipsSpec.plain.varTypes Tryd.prog) (ds ++ gs)).all (· ≤ reachBytes) = true) (hT : Tabs W) :
    Calls Tryd.prog 4 args W fun e W' => ∃ v, e = .returned v ∧ ((Rows.OpenSpec.upto Rows.globSkipsSpec).at F).post enc Tryd.prog Tryd.f4 false true false false W args v W' := by
  have hval : ∀ (j : Nat) t v, Tryd.f4.params[j]? = some t → args[j]? = some v → Value.okWide Tryd.prog W .any base t v := hval0
  have hW' := hW
  obtain ⟨p, q, hA0, hV, rfl, hfz, hnd⟩ := hW
  have hA : DataW.TrodAll enc Tryd.prog W 0 (fun _ => true) true Tryd.f4.params.toList args.toList ds p := hA0
  have hsz : (DataW.weightsEach Tryd.prog (Tryd.f4.params.toList ++ Rows.globSkipsSpec.plain.varTypes Tryd.prog) (ds ++ gs)).all (· ≤ reachBytes) = true := hsz0
  rw [Tryd.params4] at hA hval hsz
  obtain ⟨v0, vs0, d0, ds0, p0, q0, hargs, rfl, rfl, h0, r0⟩ := trodAll_cons hA
  obtain ⟨v1, vs1, d1, ds1, p1, q1, rfl, rfl, rfl, h1, r1⟩ := trodAll_cons r0
  obtain ⟨rfl, rfl, rfl⟩ := trodAll_nil r1
  obtain rfl : args = #[v0, v1] := by cases args; simp_all
  obtain ⟨rfl, rfl⟩ := trodVars_none hV
  obtain ⟨sa0, len0, cap0, rfl⟩ := okWide_slice Tryd.underlying30 (hval 0 30 v0 rfl rfl)
  have h0k := h0
  obtain ⟨fuel0, hf0⟩ := h0
  obtain ⟨a1, rfl, rfl, rfl, w1⟩ := open_string Tryd.underlying9 (hval 1 9 v1 rfl rfl) h1
  have hlts : ∀ x ∈ p0, x.block < W.heap.size := fun x hx => Nat.lt_of_lt_of_eq (hW'.lt x (by simpa using hx)) (by simp)
  have hlt0 : ∀ x ∈ p0, x.block < W.heap.size := fun x hx => hlts x (hx)
  have hargs0 : ∀ (W' : World), Below W.heap.size W W' → DataW.Trod enc Tryd.prog W' 0 (fun b => decide (b < W.heap.size)) true 30 (.slice sa0 len0 cap0) d0 p0 :=
    fun W' hn => Below.trod (by kernel_rfl) (by kernel_rfl) (of_decide_eq_true (by kernel_rfl)) h0k hn hlt0
  obtain ⟨l0, hl0, hsize0, hf0, hcp0⟩ := open_txs2 hf0 hlt0
  have hc0 : Cp (.slice sa0 len0 cap0) := fun a n c h => by cases h; exact hcp0
  have z0 : l0.length ≤ 140737488351232 := by
    rcases hsize0 with h | ⟨sp, h⟩
    · rw [h]; simp
    · have h : d0 = .slice (ChangeShapes.strs l0) sp := h
      subst h
      have := sized_slice hsz (j := 0) (t := 30) rfl rfl Tryd.underlying30
      have hb : Tryd.prog.bytesOf 9 = 16 := by kernel_rfl
      rw [hb] at this
      simp only [reachBytes, strs_length] at this
      omega
  simp only [List.append_nil] at hk
  have hbulk := of_decide_eq_true hk
  simp only [Rows.uptoBulkAll, Rows.uptoBulk] at hbulk
  have z1 : a1.size ≤ 1048576 := by
    rw [Lib.size_eq]; omega
  have y0 : ∀ s ∈ l0, s.size ≤ 1048576 := by
    rcases hsize0 with h | ⟨sp, h⟩
    · rw [h]; exact fun s hs => (List.not_mem_nil hs).elim
    · have h : d0 = .slice (ChangeShapes.strs l0) sp := h
      subst h
      simp only [Rows.uptoBulk] at hbulk
      exact fun s hs => by have := bulk_strs (H := H) l0 s hs; omega
  clear hA0 hval0 hsz hsz0 hk hbulk
  refine (globSkips_walk _ l0 a1 z0 y0 hc0 z1 W hl0 hT).mono fun e W' ⟨he, bel⟩ => ?_
  subst he
  exact ⟨_, rfl, _, _, _, [], _, [], hW', trodAll_mk1 (shut_bool Tryd.underlying4 _), (trodAll_cons_mk (hargs0 _ bel) (trodAll_cons_mk (shut_string Tryd.underlying9 w1) trodAll_mk0)), rfl, bel.frame _, fun h => by cases h⟩

/-- a world in which the two tables hold what their initialisers lay -/
theorem laid_world (os : Os) : ∃ w0 : World, w0.os = os ∧
    (w0.forCall (fun _ _ => 0) ⟨#[], #[Value.slice none 0 0, .string ByteArray.empty], []⟩).variablesB Tryd.prog = true ∧
    ((w0.forCall (fun _ _ => 0) ⟨#[], #[Value.slice none 0 0, .string ByteArray.empty], []⟩).heap.toList.drop Tryd.prog.globals.size).take ((begin Tryd.prog (fun _ _ => 0) default).world.heap.size - Tryd.prog.globals.size) =
      (begin Tryd.prog (fun _ _ => 0) default).world.heap.toList.drop Tryd.prog.globals.size ∧
    Input.okWideB Tryd.prog (w0.forCall (fun _ _ => 0) ⟨#[], #[Value.slice none 0 0, .string ByteArray.empty], []⟩) 4 ⟨#[], #[Value.slice none 0 0, .string ByteArray.empty], []⟩ = true ∧
    laidMet Tryd.prog Rows.globSkipsUptoRow.laid (w0.forCall (fun _ _ => 0) ⟨#[], #[Value.slice none 0 0, .string ByteArray.empty], []⟩).memory ∧
    ∀ (H : Type) (enc : TypeId × Value → H), ∃ places, DataW.whole enc Tryd.prog (w0.forCall (fun _ _ => 0) ⟨#[], #[Value.slice none 0 0, .string ByteArray.empty], []⟩).memory Tryd.f4.params.toList Rows.globSkipsSpec.vars false #[Value.slice none 0 0, .string ByteArray.empty].toList 8 = some ([.nil, .lit (.string [])], [], places) :=
  ⟨{ World.holding Tryd.prog os ⟨#[], #[], []⟩ with
      heap := ((World.holding Tryd.prog os ⟨#[], #[], []⟩).heap.modify 0 (fun o => match o with
        | .cells _ t frozen => .cells (Go.Pinned.utf8FirstZ.map fun (n : Nat) => Value.int .u8 (n : Int)).toArray t frozen
        | o => o)).modify 1 (fun o => match o with
        | .cells _ t frozen => .cells ([128, 191, 160, 191, 128, 159, 144, 191, 128, 143, 0, 0, 0, 0, 0, 0, 0, 0, 0, 0, 0, 0, 0, 0, 0, 0, 0, 0, 0, 0, 0, 0].map fun n => Value.int .u8 n).toArray t frozen
        | o => o) }, rfl, by kernel_rfl, by kernel_rfl, by kernel_rfl, laidMet_of_run' 8 (by kernel_rfl) (by kernel_rfl), fun _ _ => ⟨[], by kernel_rfl⟩⟩

set_option maxRecDepth 100000 in
theorem lifted (os : Os) (started : os.Started) (H : Type) (enc : TypeId × Value → H) (F : Stop.Interp) :
    ReturnsInHanded {} Tryd.checked os 4 .any ((Rows.OpenSpec.upto Rows.globSkipsSpec).preRow enc Tryd.prog Tryd.f4 Rows.globSkipsUptoRow.domain false Rows.globSkipsUptoRow.laid) (((Rows.OpenSpec.upto Rows.globSkipsSpec).at F).post enc Tryd.prog Tryd.f4 false true false false) := by
  obtain ⟨w0, h1, h2, h3, h4, h5, h6⟩ := laid_world os
  obtain ⟨places, hx⟩ := h6 H enc
  refine returnsInHanded_of_row (C := Tryd.checked) (s := (Rows.OpenSpec.upto Rows.globSkipsSpec)) own started (by kernel_rfl) Tryd.func4
    (witness_row_at (enc := enc) (C := Tryd.checked) false w0 #[Value.slice none 0 0, .string ByteArray.empty] h1 h2 h3 h4
      (OpenSpec.preRow_of_cond 8 hx (by kernel_rfl) (fun k hk => by cases hk; rfl) (by kernel_rfl) h5)) ?_
  intro W base args ds gs before hval hW _ hk hsz hL _ _
  exact contract H enc F W base args ds gs before hval hW (hk _ rfl) hsz (tabs_of hL)

theorem said : Rows.globSkipsUptoRow.holds Tryd.pinned (Rows.OpenSpec.upto Rows.globSkipsSpec) :=
  OpenClaim.holds_of_cond 4 Tryd.f4 rfl rfl rfl rfl rfl rfl rfl ⟨rfl, rfl, rfl, rfl, rfl⟩ rfl rfl rfl rfl rfl (by kernel_rfl) Tryd.func4 (by kernel_rfl)
    (of_decide_eq_true (by kernel_rfl)) (by unfold Func.isWrapper; first | (rw [if_pos (by decide +kernel)]; kernel_rfl) | (rw [if_neg (by decide +kernel)]; exact ⟨rfl, rfl⟩))
    (fun os started H enc _ F => by rw [OpenClaim.pre_eq_preRow]; exact lifted os started H enc F)

theorem plain (f : FuncId) (fn : Func) (hf : Tryd.pinned.checked.prog.funcNamed Rows.globSkipsUptoRow.func = some f) (hfn : Tryd.pinned.checked.prog.funcs[f]? = some fn) :
    false = Tryd.pinned.checked.prog.looks [] ∧ ∀ (j : Nat) t, fn.params[j]? = some t → Tryd.pinned.checked.prog.wantsStandIn t = false := by
  obtain rfl : f = 4 := Option.some.inj ((show Tryd.prog.funcNamed Rows.globSkipsUptoRow.func = some 4 by kernel_rfl).symm.trans hf) |>.symm
  obtain rfl : fn = Tryd.f4 := (Option.some.inj (Tryd.func4.symm.trans hfn)).symm
  refine ⟨by kernel_rfl, fun j t ht => ?_⟩
  rw [Tryd.params4] at ht
  have hm : t ∈ ([30, 9] : List TypeId) := Array.mem_def.1 (Array.mem_of_getElem? ht)
  exact (show ∀ t ∈ ([30, 9] : List TypeId), Tryd.prog.wantsStandIn t = false by decide +kernel) t hm
end Go.Proofs.YtfcnlfblfennaaaDoor.globSkips

namespace Go.Proofs.YtfcnlfblfennaaaDoor
theorem globSkips_card : Rows.GlobSkipsUptoCardSaid :=
  Claim7.holds_tied_plain_at .later [] _ _ _ _ globSkips.said (fun _ h => by cases h) (by kernel_rfl) (fun _ h => by cases h) globSkipsUpto_row_tie rfl ⟨rfl, rfl⟩ (by kernel_rfl) rfl globSkips.plain (by kernel_rfl)
end Go.Proofs.YtfcnlfblfennaaaDoor
