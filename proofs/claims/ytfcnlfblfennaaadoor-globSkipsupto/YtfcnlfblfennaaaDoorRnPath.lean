/-
  lumref: what nameErr, Split, Join, Clean, ahead and Less answer.
-/
import Derived.Test.YtfcnlfblfennaaaDoorRnName
import Derived.Test.YtfcnlfblfennaaaDoorRnCut
import Derived.Test.YtfcnlfblfennaaaDoorNnSplit
import Derived.Test.YtfcnlfblfennaaaDoorNnLess
namespace Go.Proofs.YtfcnlfblfennaaaDoor
open Go.RowKit
set_option maxRecDepth 4000

set_option maxHeartbeats 1000000 in
theorem rerr_any (v : Value) (l : List ByteArray) (w : World) (h : Tx w v l) (hl : l.length ≤ 140737488351232) (hf : ∀ s ∈ l, s.size ≤ 4194304) :
    Calls Tryd.prog 46 #[v] w fun e w' => e = .returned (.int .i64 (Nn.errs (dl l))) ∧ Below w.heap.size w w' := by
  obtain ⟨a, c, rfl⟩ := h.slice
  have HS : Hid (Nn.errsF 0 (dl (l.drop 0)) = Nn.errs (dl l)) := rfl
  have HX : Hid (Tx w (.slice a l.length c) l) := h
  have HF : Hid (∀ s ∈ l, s.size ≤ 4194304) := hf
  clear h hf
  obtain ⟨N, hN⟩ : ∃ N, N = l.length := ⟨_, rfl⟩
  have HN : Hid (N = l.length) := hN
  rw [← hN] at HX hl ⊢
  clear hN
  generalize Nn.errs (dl l) = Z at *
  go_enter Tryd.func46, Tryd.ntmps46
  go_wp2_with fail
  go_loopw [8] (fun i wr => ∃ k : Nat, k ≤ N ∧ i = .int .i64 k ∧ Hid (Nn.errsF k (dl (l.drop k)) = Z) ∧ Hid (Below w.heap.size w wr)) (fun i _ => N - (intOf i).toNat)
  case atStart => exact ⟨0, by omega, rfl, HS, Below.refl _ _⟩
  case round =>
    clear HS
    obtain ⟨k, hk, rfl, HS, HB⟩ := hrel
    by_cases hlt : k < N
    · obtain ⟨bk, o, rfl, hbk, c0⟩ := (HX.out.below HB.out).get k (by rw [← HN.out]; omega)
      have hz : (l.getD k ByteArray.empty).size ≤ 4194304 := by
        have hk' : k < l.length := by rw [← HN.out]; exact hlt
        rw [List.getD_eq_getElem?_getD, List.getElem?_eq_getElem hk']
        exact HF.out _ (List.getElem_mem hk')
      have HD : Hid (Z = if 8 ≤ k then 14 else if Nn.nm (l.getD k ByteArray.empty).data.toList ≠ 0 then Nn.nm (l.getD k ByteArray.empty).data.toList else Nn.errsF (k + 1) (dl (l.drop (k + 1)))) := by
        show _ = _
        rw [← errsF_drop _ _ (by rw [← HN.out]; omega)]; exact HS.out.symm
      have hq := rname_any (l.getD k ByteArray.empty) wr hz
      generalize l.getD k ByteArray.empty = s at *
      generalize Nn.nm s.data.toList = E at *
      clear HS
      by_cases h8 : 8 ≤ k
      · have HZ : Hid (Z = 14) := by have := HD.out; rwa [if_pos h8] at this
        clear hq
        go_wp2_with fail
        go_ret
        exact ⟨by rw [HZ.out]; rfl, HB.out⟩
      · by_cases h0 : E = 0
        · have HZ : Hid (Nn.errsF (k + 1) (dl (l.drop (k + 1))) = Z) := by have := HD.out; rw [if_neg h8, if_neg (by simpa using h0)] at this; exact this.symm
          rw [h0] at hq
          clear h0 HD
          go_wp2_with fail
          refine hq.mono ?_
          rintro e u ⟨rfl, bu⟩
          have HB2 : Hid (Below w.heap.size w u) := HB.out.trans (bu.mono HB.out.size)
          clear bu
          go_wp2_with fail
          go_roundw
          case rel => exact ⟨k + 1, by omega, by go_num, HZ, HB2⟩
          case measure => simp only [intOf]; omega
        · have HZ : Hid (Z = E) := by have := HD.out; rwa [if_neg h8, if_pos h0] at this
          have hqn : (E != 0) = true := by rw [bne_iff_ne]; exact h0
          clear HD
          go_wp2_with fail
          refine hq.mono ?_
          rintro e u ⟨rfl, bu⟩
          have HB2 : Hid (Below w.heap.size w u) := HB.out.trans (bu.mono HB.out.size)
          clear bu
          go_wp2_with fail
          go_ret
          exact ⟨by rw [HZ.out]; rfl, HB2.out⟩
    · have HZ : Hid (Z = 0) := by
        have := HS.out
        rw [List.drop_eq_nil_of_le (by rw [← HN.out]; omega)] at this
        exact this.symm
      obtain rfl : k = N := by omega
      go_wp2_with fail
      go_ret
      exact ⟨by rw [HZ.out]; rfl, HB.out⟩

theorem few_cut {s : ByteArray} (l : List ByteArray) (h : ∀ t ∈ l, t.size ≤ s.size) (hs : s.size ≤ 4194304) : ∀ t ∈ l, t.size ≤ 4194304 := fun t ht => Nat.le_trans (h t ht) hs
theorem tail_data (p : ByteArray) : (p.extract 1 p.size).data.toList = p.data.toList.tail := by rw [Nn.ext_drop, List.drop_one]
theorem cut_len_of {s : ByteArray} {l : List ByteArray} (h : dl l = Nn.cut s.data.toList) : l.length ≤ s.size + 1 := by
  rw [← dl_length, h, Lib.size_eq]
  exact Nn.cut_len _

set_option maxHeartbeats 2000000 in
theorem rsplit_any (p : ByteArray) (w : World) (hp : p.size ≤ 4194304) :
    Calls Tryd.prog 25 #[.string p] w (SpOut p w) := by
  by_cases h0 : p.data.toList = []
  · have HS : Hid (Nn.split p.data.toList = ([], 8)) := by
      show _ = _
      unfold Nn.split; rw [if_pos (by rw [h0]; simp)]
    obtain rfl := of_data h0
    clear h0
    go_enter Tryd.func25, Tryd.ntmps25
    go_wp2_with fail
    go_ret2
    exact ⟨_, [], by rw [HS.out]; rfl, by rw [HS.out]; rfl, Tx.none _, Cp.none, Below.refl _ _⟩
  have e0 : (p.toList == []) = false := data_ne h0
  have e0' : p.toList.isEmpty = false := by
    rw [Lib.toList_data]
    cases hx : p.data.toList with
    | nil => exact absurd hx h0
    | cons a b => rfl
  have h1 : 0 < p.size := by
    rw [Lib.size_eq]; exact List.length_pos_iff.2 h0
  have h1z : (0 : Int) < (p.size : Int) := by omega
  have h1y : (1 : Int) ≤ (p.size : Int) := by omega
  have hhd : p.data.toList.head? = some p[0] := by
    rw [List.head?_eq_getElem?]
    exact Lib.data_getElem? p 0 h1
  obtain ⟨b, hb⟩ : ∃ b, p[0] = b := ⟨_, rfl⟩
  rw [hb] at hhd
  by_cases h47 : b = 47
  · have d1 : ((b.toNat : Int) != 47) = false := by rw [h47]; rfl
    by_cases hr : p.data.toList = [47]
    · have HS : Hid (Nn.split p.data.toList = ([], 0)) := by
        show _ = _
        unfold Nn.split; rw [if_neg (by rw [hhd, h47]; simp), if_pos hr]
      have e1 : (p.toList == [47]) = true := by rw [Lib.toList_data, hr]; rfl
      clear h0 hhd h47 hr
      go_enter Tryd.func25, Tryd.ntmps25
      go_wp2_with fail
      go_ret2
      exact ⟨_, [], by rw [HS.out]; rfl, by rw [HS.out]; rfl, Tx.none _, Cp.none, Below.refl _ _⟩
    have e1 : (p.toList == [47]) = false := data_ne hr
    have hc := rcut_any (p.extract 1 p.size).size (p.extract 1 p.size) w (Nat.le_refl _) (by rw [ByteArray.size_extract]; omega)
    have htz : (p.extract 1 p.size).size ≤ 4194304 := by rw [ByteArray.size_extract]; omega
    have HD : Hid (Nn.split p.data.toList = if Nn.errs (Nn.cut p.data.toList.tail) ≠ 0 then ([], Nn.errs (Nn.cut p.data.toList.tail)) else (Nn.cut p.data.toList.tail, 0)) := by
      show _ = _
      unfold Nn.split; rw [if_neg (by rw [hhd, h47]; simp), if_neg hr]
    have HTl : Hid ((p.extract 1 p.size).data.toList = p.data.toList.tail) := tail_data p
    clear h0 hhd h47 hr
    obtain ⟨q, hqe⟩ : ∃ q, p.extract 1 p.size = q := ⟨_, rfl⟩
    rw [hqe] at hc htz HTl
    go_enter Tryd.func25, Tryd.ntmps25
    go_wp2_with fail
    refine hc.mono ?_
    rintro e w1 ⟨v, l, rfl, hd, hf, ho, hbl⟩
    have hln := cut_len_of hd
    have he := rerr_any v l w1 (Tx.of_own ho) (by omega) (few_cut l hf htz)
    rw [hd, HTl.out] at he
    have HO : Hid (w1.ownsRow w.heap.size 9 1 v l.length (l.map Tv)) := ho
    have HDl : Hid (dl l = Nn.cut p.data.toList.tail) := by rw [← HTl.out]; exact hd
    have HB : Hid (Below w.heap.size w w1) := hbl
    generalize Nn.cut p.data.toList.tail = L at *
    obtain ⟨a1, c1, rfl⟩ := own_len ho
    clear ho hbl hd hf hc HTl hqe
    by_cases hz : Nn.errs L = 0
    · have HS : Hid (Nn.split p.data.toList = (L, 0)) := by
        have := HD.out
        rwa [if_neg (by simpa using hz)] at this
      rw [hz] at he
      clear hz HD
      go_wp2_with fail
      refine he.mono ?_
      rintro e w2 ⟨rfl, b2⟩
      have HB2 : Hid (Below w.heap.size w w2) := HB.out.trans (b2.mono HB.out.size)
      have HX : Hid (Tx w2 (.slice a1 l.length c1) l) := (Tx.of_own HO.out).below b2
      clear b2 he
      go_wp2_with fail
      go_ret2
      exact ⟨_, l, by rw [HS.out]; rfl, by rw [HS.out]; exact HDl.out, HX.out, Cp.of_own HO.out, HB2.out⟩
    · have HS : Hid (Nn.split p.data.toList = ([], Nn.errs L)) := by
        have := HD.out
        rwa [if_pos hz] at this
      generalize Nn.errs L = E at *
      have hqn : (E != 0) = true := by rw [bne_iff_ne]; exact hz
      clear hz HD
      go_wp2_with fail
      refine he.mono ?_
      rintro e w2 ⟨rfl, b2⟩
      have HB2 : Hid (Below w.heap.size w w2) := HB.out.trans (b2.mono HB.out.size)
      clear b2 he
      go_wp2_with fail
      go_ret2
      exact ⟨_, [], by rw [HS.out]; rfl, by rw [HS.out]; rfl, Tx.none _, Cp.none, HB2.out⟩
  · have hbn : b.toNat ≠ 47 := fun h => h47 (UInt8.toNat_inj.1 (by rw [h]; rfl))
    have d1 : ((b.toNat : Int) != 47) = true := by rw [bne_iff_ne]; omega
    have HS : Hid (Nn.split p.data.toList = ([], 8)) := by
      show _ = _
      unfold Nn.split; rw [if_pos (by rw [hhd]; simpa using h47)]
    clear h0 hhd h47 hbn
    go_enter Tryd.func25, Tryd.ntmps25
    go_wp2_with fail
    go_ret2
    exact ⟨_, [], by rw [HS.out]; rfl, by rw [HS.out]; rfl, Tx.none _, Cp.none, Below.refl _ _⟩
end Go.Proofs.YtfcnlfblfennaaaDoor
