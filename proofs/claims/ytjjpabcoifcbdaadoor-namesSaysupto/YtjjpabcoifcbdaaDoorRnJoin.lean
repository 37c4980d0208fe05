/-
  lumref: what Join, Clean, ahead and Less answer.
-/
import Derived.Test.YtjjpabcoifcbdaaDoorRnPath
namespace Go.Proofs.YtjjpabcoifcbdaaDoor
open Go.RowKit
set_option maxRecDepth 4000

theorem tails_snoc (l : List Nn.Name) (s : Nn.Name) : Nn.tails (l ++ [s]) = Nn.tails l ++ 47 :: s := by simp [Nn.tails]
theorem dl_take (l : List ByteArray) (k : Nat) (hk : k < l.length) : dl (l.take (k + 1)) = dl (l.take k) ++ [(l.getD k ByteArray.empty).data.toList] := by
  rw [List.take_succ_eq_append_getElem hk, dl_app, List.getD_eq_getElem?_getD, List.getElem?_eq_getElem hk]
  rfl
theorem tails_take {l : List ByteArray} (h : (Nn.tails (dl l)).length ≤ 776) (k : Nat) : (Nn.tails (dl (l.take k))).length ≤ 776 := by
  have e : Nn.tails (dl l) = Nn.tails (dl (l.take k)) ++ Nn.tails (dl (l.drop k)) := by
    unfold Nn.tails
    rw [← List.flatMap_append]
    congr 1
    unfold dl
    rw [← List.map_append, List.take_append_drop]
  rw [e, List.length_append] at h
  omega
theorem cat_more (x : List UInt8) (t : ByteArray) : (⟨x.toArray⟩ : ByteArray) ++ ((⟨#[47]⟩ : ByteArray) ++ t) = ⟨(x ++ 47 :: t.data.toList).toArray⟩ := by
  apply ByteArray.ext
  apply Array.toList_inj.1
  simp

set_option maxHeartbeats 2000000 in
theorem rjoin_any (v : Value) (l : List ByteArray) (w : World) (h : Tx w v l) (hl : l.length ≤ 140737488351232) (hf : ∀ s ∈ l, s.size ≤ 4194304) :
    Calls Tryd.prog 10 #[v] w (JnOut (dl l) w) := by
  have he := rerr_any v l w h hl hf
  obtain ⟨a, c, rfl⟩ := h.slice
  by_cases h0 : Nn.errs (dl l) = 0
  · rw [h0] at he
    by_cases hn : l = []
    · have HJ : Hid (Nn.join (dl l) = ([47], 0)) := by
        show _ = _
        unfold Nn.join
        rw [if_neg (by simpa using h0), hn]; rfl
      subst hn
      clear h h0
      go_enter Tryd.func10, Tryd.ntmps10
      go_wp2_with fail
      refine he.mono ?_
      rintro e w1 ⟨rfl, b1⟩
      have HB : Hid (Below w.heap.size w w1) := b1
      clear b1 he
      go_wp2_with fail
      go_ret2
      exact ⟨by rw [HJ.out]; rfl, HB.out⟩
    · have HJ : Hid (Nn.join (dl l) = (Nn.tails (dl l), 0)) := by
        show _ = _
        unfold Nn.join Nn.joinB
        rw [if_neg (by simpa using h0), if_neg (fun e => hn (by simpa [dl] using e))]
      have HT : Hid ((Nn.tails (dl l)).length ≤ 776) := Nn.tails_few h0
      have HX : Hid (Tx w (.slice a l.length c) l) := h
      have hl8 : l.length ≤ 8 := by
        have := Nn.errs_len h0
        rwa [dl_length] at this
      have hl1 : 1 ≤ l.length := List.length_pos_iff.2 hn
      have HZ : Hid (∀ k, k < l.length → (l.getD k ByteArray.empty).size ≤ 96) := fun k hk => by
        rw [List.getD_eq_getElem?_getD, List.getElem?_eq_getElem hk]
        have := Nn.nm_long (Nn.errs_ok h0 _ (List.mem_map_of_mem (List.getElem_mem hk)))
        rw [← Lib.size_eq] at this
        exact this
      obtain ⟨N, hN⟩ : ∃ N, N = l.length := ⟨_, rfl⟩
      have HN : Hid (N = l.length) := hN
      rw [← hN] at HX he hl8 hl1 ⊢
      have hz : ((N : Int) == 0) = false := by rw [beq_eq_false_iff_ne]; omega
      clear h h0 hn hN hf hl
      go_enter Tryd.func10, Tryd.ntmps10
      go_wp2_with fail
      refine he.mono ?_
      rintro e w1 ⟨rfl, b1⟩
      have HB : Hid (Below w.heap.size w w1) := b1
      have HX1 : Hid (Tx w1 (.slice a N c) l) := HX.out.below b1
      clear b1 he HX
      go_wp2_with fail
      go_loop [5, 18] (fun o i => ∃ k : Nat, k ≤ N ∧ i = .int .i64 k ∧ o = St (Nn.tails (dl (l.take k)))) (fun _ i => N - (intOf i).toNat)
      case atStart => exact ⟨0, by omega, rfl, rfl⟩
      case round =>
        obtain ⟨k, hk, rfl, rfl⟩ := hrel
        by_cases hlt : k < N
        · have hkl : k < l.length := by rw [← HN.out]; exact hlt
          obtain ⟨bk, o, rfl, hbk, c0⟩ := HX1.out.get k hkl
          have h96 := HZ.out k hkl
          have hx := tails_take HT.out k
          have HK : Hid (Nn.tails (dl (l.take (k + 1))) = Nn.tails (dl (l.take k)) ++ 47 :: (l.getD k ByteArray.empty).data.toList) := by
            show _ = _
            rw [dl_take _ _ hkl, tails_snoc]
          generalize l.getD k ByteArray.empty = t at *
          generalize Nn.tails (dl (l.take k)) = X at *
          have hsum : ¬ 9223372036854775807 < X.length + (1 + t.size) := by omega
          have hsum1 : ¬ 9223372036854775807 < 1 + t.size := by omega
          rw [St]
          go_wp2_with fail
          go_round
          case rel => exact ⟨k + 1, by omega, by go_num, by rw [HK.out, cat_more]; rfl⟩
          case measure => simp only [intOf]; omega
        · obtain rfl : k = N := by omega
          have HK : Hid (Nn.tails (dl (l.take k)) = Nn.tails (dl l)) := by
            show _ = _
            rw [HN.out, List.take_length]
          go_wp2_with fail
          go_ret2
          exact ⟨by rw [HJ.out, ← HK.out]; rfl, HB.out⟩
  · have HJ : Hid (Nn.join (dl l) = ([], Nn.errs (dl l))) := by
      show _ = _
      unfold Nn.join
      rw [if_pos h0]
    generalize Nn.errs (dl l) = E at *
    have hqn : (E != 0) = true := by rw [bne_iff_ne]; exact h0
    clear h h0
    go_enter Tryd.func10, Tryd.ntmps10
    go_wp2_with fail
    refine he.mono ?_
    rintro e w1 ⟨rfl, b1⟩
    have HB : Hid (Below w.heap.size w w1) := b1
    clear b1 he
    go_wp2_with fail
    go_ret2
    exact ⟨by rw [HJ.out]; rfl, HB.out⟩

/-- how far Clean is: what is kept, and what is left of the parts -/
structure RlS (Z : Option (List Nn.Name)) (n : Nat) (K L : List ByteArray) (k : Nat) : Prop where
  stk : Nn.stk (dl K) (dl (L.drop k)) = Z
  few : ∀ s ∈ K, s.size ≤ n
  len : K.length ≤ k
theorem dl_cons (L : List ByteArray) (k : Nat) (hk : k < L.length) : dl (L.drop k) = (L.getD k ByteArray.empty).data.toList :: dl (L.drop (k + 1)) := by
  rw [List.drop_eq_getElem_cons hk, List.getD_eq_getElem?_getD, List.getElem?_eq_getElem hk]
  rfl

set_option maxHeartbeats 2000000 in
theorem rclean_any (p : ByteArray) (w : World) (hp : p.size ≤ 4194304) :
    Calls Tryd.prog 12 #[.string p] w (ClOut p.data.toList w) := by
  obtain ⟨i0, hi, hz0, hz1, hz2⟩ := info_of info_tx
  have hc := rcut_any p.size p w (Nat.le_refl _) hp
  go_enter Tryd.func12, Tryd.ntmps12
  go_wp2_with fail
  refine hc.mono ?_
  rintro e w1 ⟨v, L, rfl, hd, hf, ho, hb⟩
  have hln := cut_len_of hd
  obtain ⟨Z, hZ⟩ : ∃ Z, Nn.stk [] (Nn.cut p.data.toList) = Z := ⟨_, rfl⟩
  have HC : Hid (Nn.clean p.data.toList = Nn.clEnd Z) := by
    show _ = _
    rw [← hZ]
    rfl
  have HS : Hid (RlS Z p.size [] L 0) := ⟨by rw [← hZ, ← hd]; rfl, fun s hs => (List.not_mem_nil hs).elim, by simp⟩
  have HF : Hid (∀ t ∈ L, t.size ≤ p.size) := hf
  have HX : Hid (Tx w1 v L) := Tx.of_own ho
  have HB : Hid (Below w.heap.size w w1) := hb
  obtain ⟨a, c, rfl⟩ := own_len ho
  obtain ⟨N, hN⟩ : ∃ N, N = L.length := ⟨_, rfl⟩
  have HN : Hid (N = L.length) := hN
  rw [← hN] at HX hln ⊢
  clear hZ hN ho hd hf hb hc
  go_wp2_with fail
  go_loopw [4, 10] (fun v i wr => ∃ (k : Nat) (K : List ByteArray), k ≤ N ∧ i = .int .i64 k ∧ Hid (RlS Z p.size K L k) ∧ Hid (wr.ownsRow w1.heap.size 9 1 v K.length (K.map Tv)) ∧ Hid (Below w1.heap.size w1 wr)) (fun _ i _ => N - (intOf i).toNat)
  case atStart => exact ⟨0, [], by omega, rfl, HS, World.ownsRow_nil _ _ _ _, Below.refl _ _⟩
  case round =>
    clear HS
    obtain ⟨k, K, hk, rfl, HS, HO, HB1⟩ := hrel
    have hlen := HS.out.len
    obtain ⟨a1, c1, rfl⟩ := own_len HO.out
    by_cases hlt : k < N
    · have hkl : k < L.length := by rw [← HN.out]; exact hlt
      obtain ⟨bk, o, rfl, hbk, c0⟩ := (HX.out.below HB1.out).get k hkl
      have htz : (L.getD k ByteArray.empty).size ≤ p.size := by
        rw [List.getD_eq_getElem?_getD, List.getElem?_eq_getElem hkl]
        exact HF.out _ (List.getElem_mem hkl)
      have HK : Hid (Nn.stk (dl K) ((L.getD k ByteArray.empty).data.toList :: dl (L.drop (k + 1))) = Z) := by
        have := HS.out.stk
        rwa [dl_cons _ _ hkl] at this
      have HFk : Hid (∀ s ∈ K, s.size ≤ p.size) := HS.out.few
      generalize L.getD k ByteArray.empty = t at *
      clear HS
      by_cases h2 : t.data.toList = [46, 46]
      · have HK2 : Hid ((if dl K = [] then none else Nn.stk (dl K).dropLast (dl (L.drop (k + 1)))) = Z) := by
          have := HK.out
          rwa [h2, Nn.stk_up] at this
        obtain rfl := of_data h2
        clear HK h2
        by_cases hkn : K = []
        · subst hkn
          have HZ : Hid (Z = none) := by
            have := HK2.out
            rw [if_pos (by rfl)] at this
            exact this.symm
          have HB3 : Hid (Below w.heap.size w wr) := HB.out.trans (HB1.out.mono HB.out.size)
          clear HK2
          go_wp2_with fail
          go_ret2
          refine ⟨?_, HB3.out⟩
          rw [HC.out, HZ.out]
          rfl
        · have hk1 : 1 ≤ K.length := List.length_pos_iff.2 hkn
          have HZ : Hid (Nn.stk (dl K.dropLast) (dl (L.drop (k + 1))) = Z) := by
            have := HK2.out
            rwa [if_neg (fun h => hkn (by simpa [dl] using h)), ← dl_drop] at this
          obtain ⟨g, c, hv2, _⟩ := own_some HO.out (by omega)
          simp only [Value.slice.injEq, true_and] at hv2
          obtain ⟨rfl, rfl⟩ := hv2
          have HO3 := HO.out
          have HO4 : Hid (wr.ownsRow w1.heap.size 9 1 (.slice (some ⟨g, 0, none⟩) (K.length - 1) c1) (K.length - 1) (K.dropLast.map Tv)) := own_last HO3 hk1
          have hcap : K.length ≤ c1 := Cp.of_own HO3 _ _ _ rfl
          have HS2 : Hid (RlS Z p.size K.dropLast L (k + 1)) := ⟨HZ.out, fun s hs => HFk.out s (List.dropLast_subset K hs), by rw [List.length_dropLast]; omega⟩
          have HKL : Hid (K.dropLast.length = K.length - 1) := List.length_dropLast ..
          have hne : ((K.length : Int) == 0) = false := by rw [beq_eq_false_iff_ne]; omega
          obtain ⟨n, hn⟩ : ∃ n, K.length = n + 1 := ⟨K.length - 1, by omega⟩
          have hnb : n ≤ 4194304 := by omega
          rw [hn] at HO4 HKL hne hcap ⊢
          rw [Nat.add_sub_cancel] at HO4 HKL
          clear HO HO3 HK2 HZ hkn hk1 hn hlen
          go_wp2_with fail
          go_roundw
          case rel => exact ⟨k + 1, K.dropLast, by omega, by go_num, HS2, by rw [HKL.out]; exact HO4, HB1⟩
          case measure => simp only [intOf]; omega
      have e2 : (t.toList == [46, 46]) = false := data_ne h2
      by_cases h0 : t.data.toList = [] ∨ t.data.toList = [46]
      · have HS2 : Hid (RlS Z p.size K L (k + 1)) := by
          refine ⟨?_, HFk.out, by omega⟩
          have := HK.out
          rwa [Nn.stk_skip h0] at this
        rcases h0 with h0 | h0
        all_goals
          obtain rfl := of_data h0
          clear HK h0 h2 e2
          go_wp2_with fail
          go_roundw
          case rel => exact ⟨k + 1, K, by omega, by go_num, HS2, HO, HB1⟩
          case measure => simp only [intOf]; omega
      · simp only [not_or] at h0
        have e0 : (t.toList == []) = false := data_ne h0.1
        have e0' : t.toList.isEmpty = false := by
          rw [Lib.toList_data]
          cases hx : t.data.toList with
          | nil => exact absurd hx h0.1
          | cons a b => rfl
        have e1 : (t.toList == [46]) = false := data_ne h0.2
        have HS2 : Hid (RlS Z p.size (K ++ [t]) L (k + 1)) := by
          refine ⟨?_, fun s hs => ?_, by simp; omega⟩
          · have := HK.out
            rw [Nn.stk_keep h0.1 h0.2 h2, ← dl_app] at this
            exact this
          · rcases List.mem_append.1 hs with hs | hs
            · exact HFk.out s hs
            · rw [List.mem_singleton.1 hs]; omega
        have hown := HO.out
        have hbel := HB1.out
        have hbs := hbel.size
        clear HK h0 h2 HO HB1
        go_wp2_with (at_builtin; refine wpList_append_own _ rfl _ _ 22 rfl w1.heap.size 9 i0 (.string ⟨#[]⟩) 1 16 Tryd.underlying22 hi hz0 hz1 hz2 rfl (by decide) _ _ _ rfl (hown.alloc _) ⟨wr.heap.size, 0, none⟩ 1 1 [.string t] rfl rfl ?c1 ?c2 ?c3 ?c4 ?c5 ?_)
        case c1 =>
          intro j u hj
          match j, hj with
          | 0, hj => simp at hj; subst hj; simp [Addr.add]
        case c2 => intro u hu; simp at hu; subst hu; rfl
        case c3 => unfold maxLen; omega
        case c4 => omega
        case c5 => simp; omega
        intro v' w3 hown1 hgrow _
        have R := own_push hown hown1 hgrow hbel (Nat.le_refl _)
        have HR1 : Hid (w3.ownsRow w1.heap.size 9 1 v' (K ++ [t]).length ((K ++ [t]).map Tv)) := R.1
        have HR2 : Hid (Below w1.heap.size w1 w3) := R.2
        clear R hown1 hgrow hown hbel
        go_wp2_with fail
        go_roundw
        case rel => exact ⟨k + 1, K ++ [t], by omega, by go_num, HS2, HR1, HR2⟩
        case measure => simp only [intOf]; omega
    · obtain rfl : k = N := by omega
      have HZ : Hid (Z = some (dl K)) := by
        have := HS.out.stk
        rw [List.drop_eq_nil_of_le (by rw [← HN.out]; omega)] at this
        exact this.symm
      have HB3 : Hid (Below w.heap.size w wr) := HB.out.trans (HB1.out.mono HB.out.size)
      have hj := rjoin_any _ K wr (Tx.of_own HO.out) (by omega) (fun s hs => by have := HS.out.few s hs; omega)
      clear HO HS
      go_wp2_with fail
      refine hj.mono ?_
      rintro e w2 ⟨rfl, b2⟩
      have HB2 : Hid (Below w.heap.size w w2) := HB3.out.trans (b2.mono HB3.out.size)
      clear b2 hj
      go_wp2_with fail
      go_ret2
      refine ⟨?_, HB2.out⟩
      rw [HC.out, HZ.out]
      rfl
end Go.Proofs.YtjjpabcoifcbdaaDoor
