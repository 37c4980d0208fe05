/-
  What Mend of package shield answers.
-/
import Derived.Test.YtoeohnknpbdgdaaDoorShMake
import Derived.Test.YtoeohnknpbdgdaaDoorShelfClone
namespace Go.Proofs.YtoeohnknpbdgdaaDoor
open Go.RowKit
set_option maxRecDepth 4000

theorem clone_any (s : ByteArray) (w : World) (hs : s.size ≤ 4096) :
    Calls Tryd.prog 21 #[.string s] w fun e w' => e = .returned (.string s) ∧ Below w.heap.size w w' := by
  go_enter Tryd.func21, Tryd.ntmps21
  go_wp2_with (refine (Tryd.stringslite_Clone _ _ (by omega)).mono ?_; rintro e w' ⟨rfl, hb⟩)
  go_ret
  exact ⟨rfl, hb⟩

/-- P26: the parts -/
def mnd (l : List Shd) (n : Nat) : List ByteArray := (List.range n).map fun i => bn (Fd.part (hasF l) (bytF l) n (l.length - n) i)

set_option maxHeartbeats 1000000 in
theorem mend_bad (v : Value) (l : List Shd) (n : Int) (w : World) (h : Sx w v l) (hl : l.length ≤ 140737488351232) (he : mErr l n ≠ 0) :
    Calls Tryd.prog 13 #[v, .int .i64 n] w fun e w' => e = .returned (.tuple #[.slice none 0 0, .int .i64 (mErr l n : Nat)]) ∧ Below w.heap.size w w' := by
  have h1 := checkShards_any v l n w h hl
  obtain ⟨a, c, rfl, hc1, hc2⟩ := h.slice
  generalize mErr l n = Z at *
  have hq : ((Z : Int) != 0) = true := by rw [bne_iff_ne]; omega
  clear he h
  go_enter Tryd.func13, Tryd.ntmps13
  go_wp2_with fail
  refine h1.mono ?_
  rintro e w1 ⟨rfl, hb⟩
  have HB : Hid (Below w.heap.size w w1) := hb
  clear hb h1
  go_wp2_with fail
  go_ret2
  exact ⟨rfl, HB.out⟩
/-- the shards that are there have one length -/
theorem th_mem (l : List Shd) : ∀ k i, i < k → hasF l i = true → (l.getD i Shd.none).bytes ∈ th l k
  | 0, i, h, _ => by omega
  | k + 1, i, h, hi => by
    rw [th]
    by_cases e : i = k
    · subst e
      have hi' : (l.getD i Shd.none).has = true := hi
      rw [if_pos hi']
      exact List.mem_append_right _ (List.mem_singleton.mpr rfl)
    · have := th_mem l k i (by omega) hi
      split
      · exact List.mem_append_left _ this
      · exact this
/-- the length of the first that is there -/
def lenF (l : List Shd) : Nat := ((th l l.length).getD 0 ByteArray.empty).size
theorem len_there {l : List Shd} (h : sizes (th l l.length) = 0) : ∀ i, i < l.length → hasF l i = true → (bytF l i).length = lenF l := fun i hi ht => by
  unfold bytF lenF
  rw [nb_length]
  exact sizes_zero h _ (th_mem l _ i hi ht)
theorem lenF_le {l : List Shd} (h : sizes (th l l.length) = 0) : lenF l ≤ 4096 := sizes_le h

set_option maxHeartbeats 4000000 in
theorem mend_ok (v : Value) (l : List Shd) (n : Nat) (w : World) (h : Sx w v l) (he : mErr l n = 0) :
    Calls Tryd.prog 13 #[v, .int .i64 n] w fun e w' => ∃ u, e = .returned (.tuple #[u, .int .i64 0]) ∧ w'.ownsRow w.heap.size 9 1 u (mnd l n).length ((mnd l n).map Tv) ∧ Below w.heap.size w w' := by
  obtain ⟨g1, g2, g3, g4, g5, g6⟩ := mErr_zero he
  obtain ⟨i0, hi, hz0, hz1, hz2⟩ := info_parts info_str
  rw [th_cnt] at g6
  have hp0 : l.length = n + (l.length - n) := by omega
  obtain ⟨p, hp⟩ : ∃ p, l.length - n = p := ⟨_, rfl⟩
  have hcnt : n ≤ Fd.cnt (hasF l) (n + p) := by rw [show n + p = l.length from by omega]; omega
  have hLn := Fd.took_all hcnt
  have hX : ∀ i, i < n + p → hasF l i = true → (bytF l i).length = lenF l := fun i hi => len_there g5 i (by omega)
  have hBs : ∀ i, i < n + p → hasF l i = true → Fd.Bs (bytF l i) := fun i _ _ => nb_bs _
  have hsh := Fd.eqs_shape (by omega) (by omega) hcnt hX hBs
  have hlL := Fd.cnt_lost (hasF l) n
  have h1 := checkShards_any v l n w h (by omega)
  rw [he] at h1
  have h2 : ∀ W, Below w.heap.size w W → _ := fun W hW => equationsOf_any v l n (lenF l) W (h.below hW) (by omega) (by omega) (by omega) (by omega) (lenF_le g5) (len_there g5)
  rw [hp, hLn] at h2
  obtain ⟨L, hL⟩ : ∃ L, L = Fd.lostN (hasF l) n := ⟨_, rfl⟩
  rw [← hL] at h2 hsh
  have H3 : Hid (∀ W base u cs, Eqs W base u L cs (Fd.eqs (hasF l) (bytF l) n p) → Calls Tryd.prog 20 #[u] W fun e w' => e = .returned (.tuple #[]) ∧ Eqs w' base u L cs (Fd.solved (Fd.eqs (hasF l) (bytF l) n p) L L) ∧ Kept (Fre cs L) W w') := fun W base u cs hE => solve_any base u L (lenF l) cs _ W hE hsh (by omega) (lenF_le g5)
  have HSh : Hid (Fd.Shape (Fd.solved (Fd.eqs (hasF l) (bytF l) n p) L L) L (lenF l)) := hsh.solved L (Nat.le_refl _)
  obtain ⟨F, hF⟩ : ∃ F : Nat → ByteArray, F = fun i => bn (Fd.part (hasF l) (bytF l) n p i) := ⟨_, rfl⟩
  have HM : Hid ((mnd l n).length = n ∧ mnd l n = txTo F n n) := by
    refine ⟨by simp [mnd], ?_⟩
    rw [txTo_all, mnd, hp, hF]
  have HP : Hid (∀ i, i < n → (hasF l i = true → F i = (l.getD i Shd.none).bytes) ∧ (hasF l i = false → F i = bn (Fd.solved (Fd.eqs (hasF l) (bytF l) n p) L L (Fd.lostN (hasF l) i)).2 ∧ Fd.lostN (hasF l) i < L)) := by
    intro i hi
    rw [hF]
    refine ⟨fun ht => ?_, fun ht => ⟨?_, by rw [hL]; exact Fd.lost_lt hi ht⟩⟩
    · dsimp only
      rw [Fd.part, if_pos ht]; exact bn_nb _
    · dsimp only
      rw [Fd.part, if_neg (by rw [ht]; decide), hL]
  have HLl : Hid (∀ i, i < n → hasF l i = true → (l.getD i Shd.none).bytes.size ≤ 4096) := fun i hi ht => by
    have := len_there g5 i (by omega) ht
    rw [bytF, nb_length] at this
    have := lenF_le g5
    omega
  obtain ⟨a, c, rfl, hc1, hc2⟩ := h.slice
  obtain ⟨bk, o, rfl, hbk, hju⟩ := h.get 0 (by omega)
  clear hju
  have HX : Hid (Sx w (.slice (some ⟨bk, o, none⟩) l.length c) l) := h
  obtain ⟨N, hN⟩ : ∃ N, N = l.length := ⟨_, rfl⟩
  have HN : Hid (N = l.length) := hN
  have hnc : n ≤ c := by omega
  have hnN : n < N := by omega
  have hN24 : N ≤ 24 := by omega
  have hn16 : n ≤ 16 := by omega
  have hn1 : 1 ≤ n := by omega
  have hLL : L ≤ 16 := by omega
  rw [← hN] at HX h1 h2 ⊢
  generalize mnd l n = R at *
  clear hN h hX hBs hsh hcnt hLn g1 g2 g3 g4 g5 g6 hp0 hp hc1 hlL he hL hF
  go_enter Tryd.func13, Tryd.ntmps13
  go_wp2_with fail
  refine h1.mono ?_
  rintro e w1 ⟨rfl, hb⟩
  have HB1 : Hid (Below w.heap.size w w1) := hb
  have h2' := h2 w1 hb
  clear hb h1 h2
  go_wp2_with fail
  refine h2'.mono ?_
  rintro e w2 ⟨u, cs, rfl, hE, hb⟩
  have h3 := H3.out w2 _ u cs hE
  have HB2 : Hid (Below w.heap.size w w2) := HB1.out.trans (hb.mono HB1.out.size)
  have HFb : Hid (∀ W, Kept (Fre cs L) w2 W → Below w.heap.size w W) := fun W hW => HB2.out.trans (hW.below HB2.out.size fun k hk => hE.old (Nat.lt_of_lt_of_le hk HB1.out.size))
  obtain ⟨ua, uc, rfl⟩ := own_len hE.row
  clear hE hb h2' HB2
  go_wp2_with fail
  refine h3.mono ?_
  rintro e w3 ⟨rfl, hE, hK⟩
  have HB3 : Hid (Below w.heap.size w w3) := HFb.out w3 hK
  have HE3 : Hid (Eqs w3 w1.heap.size (.slice ua L uc) L cs (Fd.solved (Fd.eqs (hasF l) (bytF l) n p) L L)) := hE
  clear hE hK h3 H3 HFb
  have hw3 : w.heap.size ≤ w3.heap.size := HB3.out.size
  go_wp2_with (at_make; refine wpList_make_full _ rfl (.tmp 22) (.tmp 22) 22 rfl w3.heap.size 9 i0 (.string ⟨#[]⟩) 1 Tryd.underlying22 hi hz0 hz1 .i64 .i64 _ _ n rfl rfl rfl rfl (by rw [hz2]; omega) (by unfold maxLen; omega) (Nat.le_refl _) ?_; intro w4 hown hgrow)
  have hb4 : Below w3.heap.size w3 w4 := (Below.refl _ _).grown hgrow (Nat.le_refl _) (fun k hk => by cases hk)
  have HB4 : Hid (Below w.heap.size w w4) := HB3.out.trans (hb4.mono hw3)
  have HE4 : Hid (Eqs w4 w1.heap.size (.slice ua L uc) L cs (Fd.solved (Fd.eqs (hasF l) (bytF l) n p) L L)) := HE3.out.keep hb4
  have HO : Hid (w4.ownsRow w3.heap.size 9 1 (.slice (some ⟨w3.heap.size, 0, none⟩) n n) n ((txTo F n 0).map Tv)) := by
    rw [txTo_zero]; exact made_tx hown
  clear hown hgrow hi hz0 hz1 hz2 HE3 HB3 hb4
  generalize w3.heap.size = PB at *
  have huc : L ≤ uc ∧ uc ≤ 9223372036854775807 := by
    rcases HE4.out.row.2 with ⟨e, h0⟩ | ⟨g, cap, cur, e, _, _, h1, h2, _⟩
    · simp at e; omega
    · simp at e
      unfold maxLen at h2
      omega
  have HD0 : Hid (L = L - Fd.lostN (hasF l) 0 ∧ (0 < L → ∃ g, ua = some ⟨g, 0, none⟩ ∧ ua = some ⟨g, Fd.lostN (hasF l) 0 * 2, none⟩)) := by
    refine ⟨rfl, fun h => ?_⟩
    obtain ⟨g, c', e, _⟩ := own_some HE4.out.row h
    simp at e
    exact ⟨g, e.1, e.1⟩
  generalize Fd.solved (Fd.eqs (hasF l) (bytF l) n p) L L = Sol at *
  go_wp2_with fail
  go_loopw [7, 28] (fun s7 i wr => ∃ (k D : Nat) (sa : Option Addr) (sc : Nat), k ≤ n ∧ i = .int .i64 k ∧ s7 = .slice sa D sc ∧ D ≤ sc ∧ sc ≤ 9223372036854775807 ∧ Hid (D = L - Fd.lostN (hasF l) k ∧ (0 < D → ∃ g, ua = some ⟨g, 0, none⟩ ∧ sa = some ⟨g, Fd.lostN (hasF l) k * 2, none⟩)) ∧
    Hid (wr.ownsRow PB 9 1 (.slice (some ⟨PB, 0, none⟩) n n) n ((txTo F n k).map Tv)) ∧ Hid (Eqs wr w1.heap.size (.slice ua L uc) L cs Sol) ∧ Hid (Below w.heap.size w wr)) (fun _ i _ => n - (intOf i).toNat)
  case atStart => exact ⟨0, L, ua, uc, by omega, rfl, rfl, huc.1, huc.2, HD0, HO, HE4, HB4⟩
  case round =>
    clear HD0 HO HE4 HB4 huc
    obtain ⟨k, D, sa, sc, hk, rfl, rfl, hD1, hD2, HD, HO, HE, HB⟩ := hrel
    by_cases hlt : k < n
    · obtain ⟨bk2, o2, e2, hbk2, c0, c1⟩ := (HX.out.below HB.out).get k (by rw [← HN.out]; omega)
      rw [Option.some.injEq, Addr.mk.injEq] at e2
      obtain ⟨rfl, rfl, e3⟩ := e2
      clear e3
      have HF : Hid (hasF l k = (l.getD k Shd.none).has) := rfl
      have hPk := HP.out k hlt
      have hLk := HLl.out k hlt
      have HLN : Hid (Fd.lostN (hasF l) (k + 1) = Fd.lostN (hasF l) k + if hasF l k then 0 else 1) := rfl
      rw [HF.out] at hPk hLk HLN
      generalize l.getD k Shd.none = sd at *
      obtain ⟨hs1, sk⟩ := sd
      dsimp only at c0 c1 hPk hLk HLN
      have hB0 : ∀ ob, Below wr.heap.size wr (wr.alloc ob) := fun ob => (Below.refl _ _).alloc (Nat.le_refl _) _
      obtain ⟨W0, hW0⟩ : ∃ W0, W0 = wr.alloc (.cells #[.bool hs1, .string sk] 31) := ⟨_, rfl⟩
      have hBW : Below wr.heap.size wr W0 := by rw [hW0]; exact hB0 _
      have x1 : W0.cell? ⟨wr.heap.size, 1, none⟩ = some (.string sk) := by rw [hW0]; simp
      have x0 : W0.cell? ⟨wr.heap.size, 0, none⟩ = some (.bool hs1) := by rw [hW0]; simp
      have hO0 := own_below HO.out hBW
      have hE0 := HE.out.keep hBW
      have hb0 : Below w.heap.size w W0 := HB.out.trans (hBW.mono HB.out.size)
      -- what is stored
      have HSt : Hid (∀ V, Below W0.heap.size W0 V → (∃ x, V.cell? ⟨PB, k, none⟩ = some (.string x)) ∧ V.frozen? ⟨PB, k, none⟩ = false ∧ (V.setCell ⟨PB, k, none⟩ (.string (F k))).ownsRow PB 9 1 (.slice (some ⟨PB, 0, none⟩) n n) n ((txTo F n (k + 1)).map Tv) ∧ Eqs (V.setCell ⟨PB, k, none⟩ (.string (F k))) w1.heap.size (.slice ua L uc) L cs Sol ∧ Below w.heap.size w (V.setCell ⟨PB, k, none⟩ (.string (F k)))) := by
        intro V hV
        have hOV := own_below hO0 hV
        have hEV := hE0.keep hV
        have hkp : Kept (fun q => q ≠ PB) V (V.setCell ⟨PB, k, none⟩ (.string (F k))) := (Kept.refl _ _).setCell (by simp) _
        refine ⟨tx_cell hOV k hlt, hOV.frozenAt k, ?_, ⟨own_kept hEV.row hkp fun g hg e => ?_, fun i hi => (hEV.obs i hi).kept hkp fun g hg e => ?_, hEV.apart⟩, ?_⟩
        · rw [txTo_set]; exact tx_store hOV k _
        · exact own_unlike hEV.row hOV (by decide) g hg (by rw [e]; rfl)
        · exact (hEV.obs i hi).unlike hOV (by decide) g hg (by rw [e]; rfl)
        · exact (hb0.trans (hV.mono hb0.size)).setCell hw3 _
      cases hs1 with
      | true =>
        have hFk : F k = sk := hPk.1 rfl
        have hcl := clone_any sk W0 (hLk rfl)
        have HDn : Hid (D = L - Fd.lostN (hasF l) (k + 1) ∧ (0 < D → ∃ g, ua = some ⟨g, 0, none⟩ ∧ sa = some ⟨g, Fd.lostN (hasF l) (k + 1) * 2, none⟩)) := by
          rw [HLN.out]; exact HD.out
        rw [hFk] at HSt
        clear HO HE HB hO0 hE0 hb0 hB0 hPk hLk HLN HD HF hFk hBW
        go_upto_region 11 with fail
        rw [← hW0]
        clear hW0 c0 c1
        go_wp2_with fail
        refine hcl.mono ?_
        rintro e V ⟨rfl, hV⟩
        obtain ⟨⟨x, y0⟩, y1, y2, y3, y4⟩ := HSt.out V hV
        have HY : Hid ((V.setCell ⟨PB, k, none⟩ (.string sk)).ownsRow PB 9 1 (.slice (some ⟨PB, 0, none⟩) n n) n ((txTo F n (k + 1)).map Tv) ∧ Eqs (V.setCell ⟨PB, k, none⟩ (.string sk)) w1.heap.size (.slice ua L uc) L cs Sol ∧ Below w.heap.size w (V.setCell ⟨PB, k, none⟩ (.string sk))) := ⟨y2, y3, y4⟩
        clear y2 y3 y4 HSt hV hcl
        go_wp2_with fail
        go_roundw
        case rel => exact ⟨k + 1, D, sa, sc, by omega, by go_num, rfl, hD1, hD2, HDn, HY.out.1, HY.out.2.1, HY.out.2.2⟩
        case measure => simp only [intOf]; omega
      | false =>
        obtain ⟨hFk, hlk⟩ := hPk.2 rfl
        have hD0 : 0 < D := by rw [HD.out.1]; omega
        obtain ⟨g, eg, esa⟩ := HD.out.2 hD0
        subst eg esa
        have hit : (itm Sol (Fd.lostN (hasF l) k * 2 + 1)) = (Sol (Fd.lostN (hasF l) k)).2 := itm_b _ _
        have hob := hE0.obs (Fd.lostN (hasF l) k * 2 + 1) (by omega)
        rw [hit] at hob
        have hstr := hob.str (HSh.out.bs _ hlk)
        have hcell := (hE0.at_ _ hlk).2
        obtain ⟨ba, bc, eb⟩ := hob.len
        rw [eb] at hstr hcell
        rw [← hFk] at hstr
        have HDn : Hid (D - 1 = L - Fd.lostN (hasF l) (k + 1) ∧ (0 < D - 1 → ∃ g', (some ⟨g, 0, none⟩ : Option Addr) = some ⟨g', 0, none⟩ ∧ (some ⟨g, Fd.lostN (hasF l) k * 2 + 2, none⟩ : Option Addr) = some ⟨g', Fd.lostN (hasF l) (k + 1) * 2, none⟩)) := by
          have h1 := HLN.out
          simp only [Bool.false_eq_true, if_false] at h1
          refine ⟨by have := HD.out.1; omega, fun _ => ⟨g, rfl, ?_⟩⟩
          rw [h1]
          congr 2
          omega
        obtain ⟨⟨x, y0⟩, y1, y2, y3, y4⟩ := HSt.out W0 (Below.refl _ _)
        have HY : Hid ((W0.setCell ⟨PB, k, none⟩ (.string (F k))).ownsRow PB 9 1 (.slice (some ⟨PB, 0, none⟩) n n) n ((txTo F n (k + 1)).map Tv) ∧ Eqs (W0.setCell ⟨PB, k, none⟩ (.string (F k))) w1.heap.size (.slice (some ⟨g, 0, none⟩) L uc) L cs Sol ∧ Below w.heap.size w (W0.setCell ⟨PB, k, none⟩ (.string (F k)))) := ⟨y2, y3, y4⟩
        generalize Fd.lostN (hasF l) k * 2 = r2 at *
        generalize F k = fk at *
        clear HO HE HB hO0 hE0 hb0 hB0 hPk hLk HLN HD HF hFk hBW HSt y2 y3 y4 hob hit eb
        go_upto_region 12 with fail
        rw [← hW0]
        clear hW0 c0 c1
        go_wp2_with fail
        refine ⟨⟨k + 1, D - 1, _, sc - 1, by omega, by go_num, rfl, by omega, by omega, ⟨HDn.out.1, fun h0 => ?_⟩, HY.out.1, HY.out.2.1, HY.out.2.2⟩, by simp only [intOf]; omega⟩
        rw [if_neg (by omega)]
        exact HDn.out.2 h0
    · obtain rfl : k = n := by omega
      go_wp2_with fail
      go_ret2
      refine ⟨_, rfl, ?_, HB.out⟩
      rw [HM.out.1, HM.out.2]
      exact own_lower HO.out hw3
end Go.Proofs.YtoeohnknpbdgdaaDoor
