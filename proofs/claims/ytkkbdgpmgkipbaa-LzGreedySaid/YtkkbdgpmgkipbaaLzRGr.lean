/-
  What Greedy of the document's answer (package lumref) answers.
-/
import Derived.Test.YtkkbdgpmgkipbaaLzGr
namespace Go.Proofs.Ytkkbdgpmgkipbaa
open Go.RowKit

namespace Lz
/-- the best token so far -/
def bTok (c : UInt8) (b : Nat × Nat) : Tr := ⟨if b.1 = 0 then c else 0, b.1, b.2⟩
theorem bTok_tokAt (s : Bs) (p : Nat) : bTok (s.getD p 0) (bst s p (min 1024 p)) = (tokAt s p).raw := by
  have h := bst_is s p (min 1024 p)
  unfold bTok tokAt Tk.raw
  unfold bestAt
  by_cases e : (bst s p (min 1024 p)).1 = 0
  · rcases h with h | h
    · rw [h]; rfl
    · omega
  · rw [if_neg e, if_neg e]
theorem bTok_size (s : Bs) (p : Nat) : (tokAt s p).size = if (bst s p (min 1024 p)).1 = 0 then 1 else (bst s p (min 1024 p)).1 := by
  unfold tokAt Tk.size bestAt
  by_cases e : (bst s p (min 1024 p)).1 = 0
  · rw [if_pos e, if_pos e]; rfl
  · rw [if_neg e, if_neg e]
/-- the count goes on -/
def goes (s : Bs) (p d k : Nat) : Bool := decide (k < 255 ∧ p + k < s.length ∧ s[p + k]? = s[p + k - d]?)
end Lz
theorem byte_eq (a b : UInt8) : ((a.toNat : Int) == (b.toNat : Int)) = decide (a = b) := by
  by_cases h : a = b
  · subst h; simp
  · rw [decide_eq_false h, beq_eq_false_iff_ne]
    intro e
    exact h (UInt8.toNat_inj.1 (by omega))

set_option maxRecDepth 100000 in
set_option maxHeartbeats 2000000 in
theorem rgreedy_of (s : ByteArray) (w : World) (hs : s.size ≤ 4096) (L : List UInt8) (hL : L.length = s.size) (hby : ∀ k (h : k < s.size), L[k]? = some s[k]) :
    Calls Try.prog 18 #[.string s] w fun e w' => ∃ v, e = .returned v ∧ w'.ownsRow w.heap.size 33 3 v (Lz.restR L 0).length (rowC (Lz.restR L 0)) ∧ Below w.heap.size w w' := by
  have HL : Hid (L.length = s.size) := hL
  have HY : Hid (∀ k (h : k < s.size), L[k]? = some s[k]) := hby
  clear hL hby
  obtain ⟨i0, hi, hz0, hz1, hz2⟩ := info_parts info_tok
  go_enter Try.func18, Try.ntmps18
  go_wp2_with fail
  go_loopw [3, 4] (fun v i wr => ∃ (p : Nat) (out : List Lz.Tr), p ≤ s.size ∧ out.length ≤ p ∧ i = .int .i64 p ∧ Hid (out ++ Lz.restR L p = Lz.restR L 0) ∧ wr.ownsRow w.heap.size 33 3 v out.length (rowC out) ∧ Below w.heap.size w wr) (fun _ i _ => s.size - (intOf i).toNat)
  case atStart => exact ⟨0, [], by omega, by simp, rfl, rfl, World.ownsRow_nil _ _ _ _, Below.refl _ _⟩
  case round =>
    obtain ⟨p, out, hp, ho, rfl, hout, hown, hbel⟩ := hrel
    rename World => wo
    by_cases hlt : p < s.size
    · obtain ⟨q, hq⟩ : ∃ q : Nat, q = min 1024 p := ⟨_, rfl⟩
      have HQ : Hid (q = min 1024 p) := hq
      have hq1 : q ≤ p := by omega
      clear hq
      have hsr := hbel.size
      generalize hc : s[p] = c
      have HC : Hid (L.getD p 0 = c) := by show _ = _; rw [List.getD_eq_getElem?_getD, HY.out p hlt, hc]; rfl
      obtain ⟨W4, hW4⟩ : ∃ W4, W4 = wo.alloc (.cells #[.int .u8 c.toNat, .int .i64 0, .int .i64 0] 33) := ⟨_, rfl⟩
      have X2 : Hid (Box W4 wo.heap.size (Lz.bTok c (Lz.bst L p 0))) := by rw [hW4]; exact Box.new wo ⟨c, 0, 0⟩
      have XB : Hid (Below wo.heap.size wo W4) := by rw [hW4]; exact (Below.refl _ wo).alloc (Nat.le_refl _) _
      go_wp2_with fail
      rw [← hW4]
      clear hW4
      go_loopw [6] (fun i wr2 => ∃ D : Nat, D ≤ q ∧ i = .int .i64 ((D : Int) + 1) ∧ Hid (Box wr2 wo.heap.size (Lz.bTok c (Lz.bst L p D))) ∧ Below wo.heap.size wo wr2) (fun i _ => q + 1 - (intOf i).toNat)
      case atStart => exact ⟨0, by omega, rfl, X2, XB.out⟩
      case round =>
        obtain ⟨D, hD, rfl, hx2, hbel2⟩ := hrel
        rename World => wp
        obtain ⟨b0, hb0⟩ : ∃ b, b = decide (D < q) := ⟨_, rfl⟩
        have HB0 : Hid (b0 = decide (D < q)) := hb0
        clear hb0
        go_upto_region 6 with fail
        go_cut [22] from 16 to 58 (fun x wx => x = .bool b0 ∧ wx = wp)
        case first =>
          go_wp2_with fail
          all_goals go_meet
          all_goals exact ⟨by rw [HB0.out]; first | exact congrArg Value.bool (decide_eq_decide.2 (by have := HQ.out; omega)) | exact congrArg Value.bool (decide_eq_false (by have := HQ.out; omega)).symm | exact congrArg Value.bool (decide_eq_true (by have := HQ.out; omega)).symm, rfl⟩
        case rest =>
        obtain ⟨rfl, rfl⟩ := hcut
        rename World => wd
        cases b0 with
        | true =>
          have hDq := of_decide_eq_true HB0.out.symm
          clear HB0
          go_wp2_with fail
          go_loopw [7] (fun n wr3 => ∃ k : Nat, k ≤ 255 ∧ p + k ≤ s.size ∧ n = .int .i64 k ∧ Hid (Lz.M L p (D + 1) k) ∧ Below wd.heap.size wd wr3) (fun n _ => 255 - (intOf n).toNat)
          case atStart => exact ⟨0, by omega, by omega, rfl, Lz.M.none (by rw [HL.out]; exact hp), Below.refl _ _⟩
          case round =>
            obtain ⟨k, hk, hpk, rfl, hM, hbel3⟩ := hrel
            rename World => wq
            obtain ⟨b, hb⟩ : ∃ b, b = Lz.goes L p (D + 1) k := ⟨_, rfl⟩
            have HB : Hid (b = Lz.goes L p (D + 1) k) := hb
            clear hb
            go_upto_region 9 with fail
            go_cut [49] from 25 to 51 (fun x wx => x = .bool b ∧ Below wd.heap.size wd wx)
            case first =>
              have hne : Nonempty (Since wq.heap.size wq) := ⟨⟨wq, Below.refl _ _⟩⟩
              by_cases h1 : k < 255
              · have e1 : decide ((k : Int) < 255) = true := by rw [decide_eq_true_eq]; omega
                by_cases h2 : p + k < s.size
                · have e2 : decide ((p : Int) + (k : Int) < (s.size : Int)) = true := by rw [decide_eq_true_eq]; omega
                  obtain ⟨m, hm⟩ : ∃ m, m = p + k - (D + 1) := ⟨_, rfl⟩
                  have hb2 : m < s.size := by omega
                  have G1 := HY.out (p + k) h2
                  have G2 := HY.out m hb2
                  have HG : Hid (b = decide (s[p + k] = s[m])) := by
                    show _ = _
                    rw [HB.out]
                    unfold Lz.goes
                    rw [← hm, G1, G2]
                    exact decide_eq_decide.2 ⟨fun h => by simpa using h.2.2, fun h => ⟨h1, by rw [HL.out]; exact h2, by rw [h]⟩⟩
                  have i1 : (0 : Int) ≤ (p : Int) + (k : Int) := by omega
                  have i2 : (p : Int) + (k : Int) < (s.size : Int) := by omega
                  have i3 : (p : Int) + (k : Int) - ((D : Int) + 1) = (m : Int) := by omega
                  have e3 := byte_eq s[p + k] s[m]
                  rw [← HG.out] at e3
                  clear G1 G2 hm
                  refine wp_region_since (B := wq.heap.size) (W0 := wq) (by kernel_rfl) (by kernel_rfl) (Below.refl _ _) ?_
                  repeat (go_big_quiet_step (fail))
                  refine wpQuiet_nil ?_
                  rintro w7 ⟨U, rfl⟩
                  have hU := hbel3.trans (U.property.mono hbel3.size)
                  go_wp2_with fail
                  go_meet
                  exact ⟨rfl, hU⟩
                · have e2 : decide ((p : Int) + (k : Int) < (s.size : Int)) = false := by rw [decide_eq_false_iff_not]; omega
                  obtain rfl : b = false := by rw [HB.out]; exact decide_eq_false fun h => h2 (by rw [← HL.out]; exact h.2.1)
                  refine wp_region_since (B := wq.heap.size) (W0 := wq) (by kernel_rfl) (by kernel_rfl) (Below.refl _ _) ?_
                  repeat (go_big_quiet_step (fail))
                  refine wpQuiet_nil ?_
                  rintro w7 ⟨U, rfl⟩
                  have hU := hbel3.trans (U.property.mono hbel3.size)
                  go_wp2_with fail
                  go_meet
                  exact ⟨rfl, hU⟩
              · have e1 : decide ((k : Int) < 255) = false := by rw [decide_eq_false_iff_not]; omega
                obtain rfl : b = false := by rw [HB.out]; exact decide_eq_false fun h => h1 h.1
                refine wp_region_since (B := wq.heap.size) (W0 := wq) (by kernel_rfl) (by kernel_rfl) (Below.refl _ _) ?_
                repeat (go_big_quiet_step (fail))
                refine wpQuiet_nil ?_
                rintro w7 ⟨U, rfl⟩
                have hU := hbel3.trans (U.property.mono hbel3.size)
                go_wp2_with fail
                go_meet
                exact ⟨rfl, hU⟩
            case rest =>
            obtain ⟨rfl, hbel4⟩ := hcut
            clear hbel3
            cases b with
            | true =>
              have hg := of_decide_eq_true HB.out.symm
              have HM : Hid (Lz.M L p (D + 1) (k + 1)) := hM.out.succ hg.2.1 hg.2.2
              have hg1 := hg.1
              have hg2 : p + k < s.size := by rw [← HL.out]; exact hg.2.1
              clear hg
              go_wp2_with fail
              go_roundw
              case rel => exact ⟨k + 1, by omega, by omega, by go_num, HM, hbel4⟩
              case measure => simp only [intOf]; omega
            | false =>
              have HK : Hid (k = Lz.ml L p (D + 1) 255) := Lz.ml_stop (by rw [HL.out]; exact hp) hk hM.out (of_decide_eq_false HB.out.symm)
              have HBS : Hid (Lz.bst L p (D + 1) = if (Lz.bst L p D).1 < k then (k, D + 1) else Lz.bst L p D) := by rw [HK.out]; rfl
              generalize hbd : Lz.bst L p D = bd at *
              have hlw := hx2.out.lt
              have HY2 : Hid (Box wc wo.heap.size (Lz.bTok c bd)) := hx2.out.below hbel4 hlw
              have HB2 : Hid (Below wo.heap.size wo wc) := hbel2.trans (hbel4.mono hbel2.size)
              have c0 := HY2.out.c0
              have c1 : wc.cell? ⟨wo.heap.size, 1, none⟩ = some (.int .i64 bd.1) := HY2.out.c1
              have c2 := HY2.out.c2
              have f0 := HY2.out.f0
              have f1 := HY2.out.f1
              have f2 := HY2.out.f2
              clear hx2 hbel4 hbel2 hM HB HK
              by_cases hgt : bd.1 < k
              · rw [if_pos hgt] at HBS
                have HN : Hid (Box (((wc.setCell ⟨wo.heap.size, 0, none⟩ (.int .u8 0)).setCell ⟨wo.heap.size, 1, none⟩ (.int .i64 k)).setCell ⟨wo.heap.size, 2, none⟩ (.int .i64 ((D : Int) + 1))) wo.heap.size ⟨0, (k : Int), (D : Int) + 1⟩) := HY2.out.store (u := ⟨0, (k : Int), (D : Int) + 1⟩)
                have HT : Hid (Lz.bTok c (k, D + 1) = ⟨0, (k : Int), (D : Int) + 1⟩) := by
                  show Lz.Tr.mk (if k = 0 then c else 0) _ _ = _
                  rw [if_neg (by omega)]; rfl
                go_wp2_with fail
                refine ⟨⟨D + 1, by omega, int_eq (by omega), ?_, ?_⟩, by simp only [intOf]; omega⟩
                · rw [HBS.out, HT.out]; exact HN.out
                · exact ((HB2.out.setCell (by simp) _).setCell (by simp) _).setCell (by simp) _
              · rw [if_neg hgt] at HBS
                go_wp2_with fail
                go_roundw
                case rel => exact ⟨D + 1, by omega, by go_num, by rw [HBS.out]; exact HY2, HB2.out⟩
                case measure => simp only [intOf]; omega
        | false =>
          have hDq := of_decide_eq_false HB0.out.symm
          obtain rfl : D = q := by omega
          clear HB0
          have HT : Hid (Lz.bTok c (Lz.bst L p D) = (Lz.tokAt L p).raw) := by
            show _ = _
            rw [← HC.out, HQ.out]; exact Lz.bTok_tokAt L p
          have hlp : p < L.length := by rw [HL.out]; exact hlt
          have HZ : Hid ((Lz.tokAt L p).size = if (Lz.bst L p D).1 = 0 then 1 else (Lz.bst L p D).1) := by rw [HQ.out]; exact Lz.bTok_size L p
          have hfs : p + (Lz.tokAt L p).size ≤ s.size := by rw [← HL.out]; exact (Lz.fits_tokAt hlp).size
          have HRp : Hid (Lz.restR L p = (Lz.tokAt L p).raw :: Lz.restR L (p + (Lz.tokAt L p).size)) := by
            show (Lz.rest _ _).map _ = _
            rw [Lz.rest_step _ _ hlp]; rfl
          have HX2 : Hid (Box wd wo.heap.size ⟨(Lz.bTok c (Lz.bst L p D)).lit, (Lz.bst L p D).1, (Lz.bst L p D).2⟩) := hx2
          have HTT : Hid (Lz.Tr.mk (Lz.bTok c (Lz.bst L p D)).lit (Lz.bst L p D).1 (Lz.bst L p D).2 = (Lz.tokAt L p).raw) := HT.out
          generalize (Lz.bTok c (Lz.bst L p D)).lit = l0 at *
          generalize Lz.bst L p D = bd at *
          generalize (Lz.tokAt L p).raw = t at *
          generalize hzz : (Lz.tokAt L p).size = z at *
          have HLO : Hid (∀ k, u3.ownBlock = some k → k < wo.heap.size) := fun k hk => (hown.lt k hk).2
          have hown2 : wd.ownsRow w.heap.size 33 3 u3 out.length (rowC out) := own_below hown hbel2
          have hB2 := hbel.trans (hbel2.mono hbel.size)
          have hs2 := hB2.size
          have hlw := HX2.out.lt
          have c0 := HX2.out.c0
          have c1 := HX2.out.c1
          have c2 := HX2.out.c2
          clear hx2 hown hbel hbel2 hlp hzz
          go_wp2_with (at_builtin; refine wpList_append_own _ rfl (.tmp 59) (.tmp 61) 22 rfl w.heap.size 33 i0 (.agg #[.int .u8 0, .int .i64 0, .int .i64 0]) 3 24 Try.underlying22 hi hz0 hz1 hz2 rfl (by decide) _ _ _ rfl (hown2.alloc _) ⟨wd.heap.size, 0, none⟩ 1 1 (tokC ⟨l0, bd.1, bd.2⟩) rfl rfl ?c1 ?c2 ?c3 ?c4 ?c5 ?_)
          case c1 =>
            intro j u hj
            match j, hj with
            | 0, hj => simp [tokC] at hj; subst hj; simp
            | 1, hj => simp [tokC] at hj; subst hj; simp
            | 2, hj => simp [tokC] at hj; subst hj; simp
          case c2 => intro u hu; simp [tokC] at hu; rcases hu with rfl | rfl | rfl <;> rfl
          case c3 => unfold maxLen; omega
          case c4 => omega
          case c5 => omega
          intro v' w4 hown4 hgrow _
          have hne : some wo.heap.size ≠ u3.ownBlock := fun e => by have := HLO.out _ e.symm; omega
          have x1 : w4.cell? ⟨wo.heap.size, 1, none⟩ = some (.int .i64 bd.1) := hgrow.cell ((((Below.refl _ wd).alloc (Nat.le_refl _) _).cell (p := ⟨wo.heap.size, 1, none⟩) hlw).trans c1) hne
          have HB4 : Hid (Below w.heap.size w w4) := (hB2.alloc hs2 _).grown hgrow (by simp; omega) fun k hk => (hown2.lt k hk).1
          have HO4 : Hid (w4.ownsRow w.heap.size 33 3 v' (out ++ [t]).length (rowC (out ++ [t]))) := by
            rw [HTT.out] at hown4
            exact own_tok hown4
          have HOU : Hid ((out ++ [t]) ++ Lz.restR L (p + z) = Lz.restR L 0) := by
            show _ = _
            rw [← hout.out, HRp.out]
            simp
          clear hown4 hgrow hown2 hB2 hne c0 c1 c2 HX2 HTT
          by_cases hzero : bd.1 = 0
          · have hq0 : ((bd.1 : Int) == 0) = true := by rw [hzero]; rfl
            have hz1 : z = 1 := by have := HZ.out; rw [if_pos hzero] at this; exact this
            rw [hz1] at HOU hfs
            clear hzero
            go_wp2_with fail
            go_roundw
            case rel => exact ⟨p + 1, out ++ [t], hfs, by simp; omega, by go_num, HOU, HO4.out, HB4.out⟩
            case measure => simp only [intOf]; omega
          · have hq0 : ((bd.1 : Int) == 0) = false := by rw [beq_eq_false_iff_ne]; omega
            have hz1 : z = bd.1 := by have := HZ.out; rw [if_neg hzero] at this; exact this
            rw [hz1] at HOU hfs
            go_wp2_with fail
            go_roundw
            case rel => exact ⟨p + bd.1, out ++ [t], hfs, by simp; omega, by go_num, HOU, HO4.out, HB4.out⟩
            case measure => simp only [intOf]; omega
    · have HE : Hid (out = Lz.restR L 0) := by
        show _ = _
        have h0 : Lz.restR L p = [] := by
          show (Lz.rest _ _).map _ = _
          rw [Lz.rest_end _ _ (by rw [HL.out]; omega)]; rfl
        rw [← hout.out, h0, List.append_nil]
      rw [HE.out] at hown
      clear HE hout
      go_wp2_with fail
      go_ret
      exact ⟨_, rfl, hown, hbel⟩
theorem rgreedy_any (s : ByteArray) (w : World) (hs : s.size ≤ 4096) :
    Calls Try.prog 18 #[.string s] w fun e w' => ∃ v, e = .returned v ∧ w'.ownsRow w.heap.size 33 3 v (Lz.greedyR s.data.toList).length (rowC (Lz.greedyR s.data.toList)) ∧ Below w.heap.size w w' :=
  rgreedy_of s w hs s.data.toList (Lib.size_eq s).symm (byte_get s)
end Go.Proofs.Ytkkbdgpmgkipbaa
