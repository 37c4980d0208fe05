/-
  The walk of lumkeep.NamesBack: it returns true.
-/
import Derived.Test.YtjjpabcoifcbdaaDoorNnSplit
import Derived.Test.YtjjpabcoifcbdaaDoorNnJoin
import Derived.Test.YtjjpabcoifcbdaaDoorTxEq
namespace Go.Proofs.YtjjpabcoifcbdaaDoor
open Go.RowKit
set_option maxRecDepth 4000

theorem Nn.join_short {l : List Nn.Name} {q : List UInt8} (h : Nn.join l = (q, 0)) : q.length ≤ 777 := by
  obtain ⟨h0, rfl⟩ := Nn.join_ok h
  unfold Nn.joinB
  split
  · simp
  · have := Nn.tails_few h0; omega
theorem dl_inj : ∀ {l m : List ByteArray}, dl l = dl m → l = m := by
  intro l m h
  exact (List.map_inj_right (f := fun x : ByteArray => x.data.toList) (fun x y h => ByteArray.ext (Array.toList_inj.1 h))).1 h
theorem Nn.few_of {l : List ByteArray} (h : Nn.errs (dl l) = 0) : Few l := fun s hs => by
  have := Nn.nm_long (Nn.errs_ok h _ (List.mem_map_of_mem hs))
  rw [← Lib.size_eq] at this
  omega
/-- Split of a text of bytes -/
def SpTx (p : List UInt8) (w : World) (e : Ending) (w' : World) : Prop :=
  ∃ v l, e = .returned (.tuple #[v, .int .i64 (Nn.split p).2]) ∧ dl l = (Nn.split p).1 ∧ Tx w' v l ∧ Cp v ∧ Below w.heap.size w w'
theorem split_text (p : List UInt8) (w : World) (hp : p.length ≤ 140737488351232) (hT : Tabs w) :
    Calls Tryd.prog 7 #[.string ⟨p.toArray⟩] w (SpTx p w) := by
  have := split_any ⟨p.toArray⟩ w (by rw [Lib.size_eq]; simpa using hp) hT
  exact this
theorem split_ab (w : World) (hT : Tabs w) :
    Calls Tryd.prog 7 #[.string ⟨#[47, 97, 47, 98]⟩] w fun e w' => ∃ a c, e = .returned (.tuple #[.slice a 2 c, .int .i64 0]) ∧ Below w.heap.size w w' := by
  have hs : Nn.split [47, 97, 47, 98] = ([[97], [98]], 0) := by decide +kernel
  refine (split_text [47, 97, 47, 98] w (by simp) hT).mono ?_
  rintro e w' ⟨v, l, rfl, hd, hx, _, hb⟩
  rw [hs] at hd ⊢
  obtain ⟨a, c, rfl⟩ := hx.slice
  have hl : l.length = 2 := by rw [← dl_length, hd]; rfl
  rw [hl]
  exact ⟨a, c, rfl, hb⟩

set_option maxRecDepth 8000 in
set_option maxHeartbeats 2000000 in
theorem namesBack_walk (a0 : ByteArray) (v1 : Value) (l1 : List ByteArray) (z0 : a0.size ≤ 140737488351232) (z1 : l1.length ≤ 140737488351232) (f1 : Few l1) (hc1 : Cp v1) (w : World) (t1 : Tx w v1 l1) (hT : Tabs w) :
    Calls Tryd.prog 4 #[.string a0, v1] w fun e w' => e = .returned (.bool true) ∧ Below w.heap.size w w' := by
  obtain ⟨a1, c1, rfl⟩ := t1.slice
  have HX : Hid (Tx w (.slice a1 l1.length c1) l1) := t1
  have HF : Hid (Few l1) := f1
  have HT : Hid (Tabs w) := hT
  clear t1 f1 hT
  have h0 := split_ab w HT.out
  go_enter Tryd.func4, Tryd.ntmps4
  go_wp2_with fail
  refine h0.mono ?_
  rintro e w1 ⟨a, c, rfl, b1⟩
  have HB1 : Hid (Below w.heap.size w w1) := b1
  clear b1 h0
  have h1 := split_any a0 w1 z0 (HT.out.below HB1.out)
  go_wp2_with fail
  refine h1.mono ?_
  rintro e w2 ⟨v2, l2, rfl, hd2, x2, c2, b2⟩
  have HB2 : Hid (Below w.heap.size w w2) := HB1.out.trans (b2.mono HB1.out.size)
  have HX2 : Hid (Tx w2 v2 l2) := x2
  have HC2 : Hid (Cp v2) := c2
  have hsl := x2.slice
  clear b2 h1 x2 c2
  by_cases hs : (Nn.split a0.data.toList).2 = 0
  · have hsp : Nn.split a0.data.toList = (dl l2, 0) := Prod.ext hd2.symm hs
    have hjn := Nn.split_join hsp
    have he := Nn.join_ok hjn
    have hn8 := Nn.errs_len he.1
    rw [dl_length] at hn8
    have hj0 := joinG_any v2 l2 w2 HX2.out HC2.out (by omega) (Nn.few_of he.1) (HT.out.below HB2.out)
    unfold JnOut at hj0
    rw [hjn, St, show (⟨a0.data.toList.toArray⟩ : ByteArray) = a0 from (of_data rfl).symm] at hj0
    rw [hs]
    obtain ⟨a2, c2, rfl⟩ := hsl
    clear hs hsp hjn he hd2 HX2 HC2
    go_wp2_with fail
    refine hj0.mono ?_
    rintro e w3 ⟨rfl, b3⟩
    have HB3 : Hid (Below w.heap.size w w3) := HB2.out.trans (b3.mono HB2.out.size)
    clear b3 hj0
    go_wp2_with fail
    have HJ := joinG_any (.slice a1 l1.length c1) l1 w3 (HX.out.below HB3.out) hc1 z1 HF.out (HT.out.below HB3.out)
    by_cases hj : (Nn.join (dl l1)).2 = 0
    · obtain ⟨Q, hQ⟩ : ∃ Q, (Nn.join (dl l1)).1 = Q := ⟨_, rfl⟩
      have hjq : Nn.join (dl l1) = (Q, 0) := Prod.ext hQ hj
      have hsq := Nn.join_split hjq
      have hqs : Q.length ≤ 777 := Nn.join_short hjq
      unfold JnOut at HJ
      rw [hjq] at HJ
      clear hj hQ hjq
      refine HJ.mono ?_
      rintro e w4 ⟨rfl, b4⟩
      have HB4 : Hid (Below w.heap.size w w4) := HB3.out.trans (b4.mono HB3.out.size)
      have hs2 := split_text Q w4 (by omega) (HT.out.below HB4.out)
      unfold SpTx at hs2
      rw [hsq] at hs2
      clear b4 HJ hsq hqs
      rw [St]
      go_wp2_with fail
      refine hs2.mono ?_
      rintro e w5 ⟨v5, l5, rfl, hd5, x5, _, b5⟩
      obtain rfl := dl_inj hd5
      have HB5 : Hid (Below w.heap.size w w5) := HB4.out.trans (b5.mono HB4.out.size)
      have he := equal_txs v5 _ l5 w5 x5 (HX.out.below HB5.out) z1
      obtain ⟨a5, c5, rfl⟩ := x5.slice
      clear b5 x5 hd5 hs2
      go_wp2_with fail
      refine he.mono ?_
      rintro e w6 ⟨rfl, b6⟩
      have HB6 : Hid (Below w.heap.size w w6) := HB5.out.trans (b6.mono HB5.out.size)
      clear b6 he
      go_wp2_with fail
      go_ret
      exact ⟨rfl, HB6.out⟩
    · have hjn : Nn.join (dl l1) = ([], (Nn.join (dl l1)).2) := Prod.ext (Nn.join_bad (e := (Nn.join (dl l1)).2) rfl hj) rfl
      unfold JnOut at HJ
      rw [hjn] at HJ
      dsimp only at HJ
      generalize (Nn.join (dl l1)).2 = E at *
      have hqn : (E != 0) = true := by rw [bne_iff_ne]; exact hj
      have hqe : (E == 0) = false := by rw [beq_eq_false_iff_ne]; exact hj
      clear hj hjn
      refine HJ.mono ?_
      rintro e w4 ⟨rfl, b4⟩
      have HB4 : Hid (Below w.heap.size w w4) := HB3.out.trans (b4.mono HB3.out.size)
      clear b4 HJ
      rw [St]
      go_wp2_with fail
      go_ret
      exact ⟨rfl, HB4.out⟩
  · generalize (Nn.split a0.data.toList).2 = E2 at *
    have hqe : (E2 == 0) = false := by rw [beq_eq_false_iff_ne]; exact hs
    obtain ⟨a2, c2, rfl⟩ := hsl
    clear hs hd2 HX2 HC2
    go_wp2_with fail
    have HJ := joinG_any (.slice a1 l1.length c1) l1 w2 (HX.out.below HB2.out) hc1 z1 HF.out (HT.out.below HB2.out)
    by_cases hj : (Nn.join (dl l1)).2 = 0
    · obtain ⟨Q, hQ⟩ : ∃ Q, (Nn.join (dl l1)).1 = Q := ⟨_, rfl⟩
      have hjq : Nn.join (dl l1) = (Q, 0) := Prod.ext hQ hj
      have hsq := Nn.join_split hjq
      have hqs : Q.length ≤ 777 := Nn.join_short hjq
      unfold JnOut at HJ
      rw [hjq] at HJ
      clear hj hQ hjq
      refine HJ.mono ?_
      rintro e w4 ⟨rfl, b4⟩
      have HB4 : Hid (Below w.heap.size w w4) := HB2.out.trans (b4.mono HB2.out.size)
      have hs2 := split_text Q w4 (by omega) (HT.out.below HB4.out)
      unfold SpTx at hs2
      rw [hsq] at hs2
      clear b4 HJ hsq hqs
      rw [St]
      go_wp2_with fail
      refine hs2.mono ?_
      rintro e w5 ⟨v5, l5, rfl, hd5, x5, _, b5⟩
      obtain rfl := dl_inj hd5
      have HB5 : Hid (Below w.heap.size w w5) := HB4.out.trans (b5.mono HB4.out.size)
      have he := equal_txs v5 _ l5 w5 x5 (HX.out.below HB5.out) z1
      obtain ⟨a5, c5, rfl⟩ := x5.slice
      clear b5 x5 hd5 hs2
      go_wp2_with fail
      refine he.mono ?_
      rintro e w6 ⟨rfl, b6⟩
      have HB6 : Hid (Below w.heap.size w w6) := HB5.out.trans (b6.mono HB5.out.size)
      clear b6 he
      go_wp2_with fail
      go_ret
      exact ⟨rfl, HB6.out⟩
    · have hjn : Nn.join (dl l1) = ([], (Nn.join (dl l1)).2) := Prod.ext (Nn.join_bad (e := (Nn.join (dl l1)).2) rfl hj) rfl
      unfold JnOut at HJ
      rw [hjn] at HJ
      dsimp only at HJ
      generalize (Nn.join (dl l1)).2 = E at *
      have hqn : (E != 0) = true := by rw [bne_iff_ne]; exact hj
      have hqe : (E == 0) = false := by rw [beq_eq_false_iff_ne]; exact hj
      clear hj hjn
      refine HJ.mono ?_
      rintro e w4 ⟨rfl, b4⟩
      have HB4 : Hid (Below w.heap.size w w4) := HB2.out.trans (b4.mono HB2.out.size)
      clear b4 HJ
      rw [St]
      go_wp2_with fail
      go_ret
      exact ⟨rfl, HB4.out⟩
end Go.Proofs.YtjjpabcoifcbdaaDoor
