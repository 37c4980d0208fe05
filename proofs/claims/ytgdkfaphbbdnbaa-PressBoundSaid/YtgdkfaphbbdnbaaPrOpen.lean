/-
  What Open of package press answers.
-/
import Derived.Test.YtgdkfaphbbdnbaaPrMake
import Derived.Test.YtgdkfaphbbdnbaaLzPackedW
import Derived.Test.YtgdkfaphbbdnbaaShelfClone
namespace Go.Proofs.Ytgdkfaphbbdnbaa
open Go.RowKit
set_option maxRecDepth 4000

namespace Pr
theorem expd_rd {T : Bs} {n : Nat} (hn : n ≤ 4096) (h : (Lz.rd T).2 = 0) : Lz.expd (Lz.rdR T) n = Lz.ex n [] (Lz.rd T).1 := by
  unfold Lz.expd
  rw [if_neg (by omega), if_pos (Lz.packd_read h).1, Int.toNat_natCast]
  unfold Lz.rdR
  rw [List.map_map]
  congr 1
  conv => rhs; rw [← List.map_id (Lz.rd T).1]
  exact List.map_congr_left fun t _ => Lz.raw_tok t
theorem opT_rd {n : Nat} {T : Bs} (h : (Lz.rd T).2 ≠ 0) : opT n T = ([], ((Lz.rd T).2 : Int)) := by
  unfold opT
  rw [if_pos (show ((Lz.rdA [] T).2 : Nat) ≠ 0 from h)]
  rfl
theorem opT_ex {n : Nat} {T : Bs} (hn : n ≤ 4096) (h : (Lz.rd T).2 = 0) (h2 : (Lz.expd (Lz.rdR T) n).2 ≠ 0) : opT n T = ([], ((Lz.expd (Lz.rdR T) n).2 : Int)) := by
  rw [expd_rd hn h] at h2 ⊢
  unfold opT
  rw [if_neg (fun h' => h' h), if_pos (show ((Lz.ex n [] (Lz.rdA [] T).1).2 : Nat) ≠ 0 from h2)]
  rfl
theorem opT_few {n : Nat} {T : Bs} (hn : n ≤ 4096) (h : (Lz.rd T).2 = 0) (h2 : (Lz.expd (Lz.rdR T) n).2 = 0) (h3 : (Lz.expd (Lz.rdR T) n).1.length < n) : opT n T = ([], 4) := by
  rw [expd_rd hn h] at h2 h3
  unfold opT
  rw [if_neg (fun h' => h' h), if_neg (fun h' => h' h2), if_pos (show (Lz.ex n [] (Lz.rdA [] T).1).1.length < n from h3)]
theorem opT_all {n : Nat} {T : Bs} (hn : n ≤ 4096) (h : (Lz.rd T).2 = 0) (h2 : (Lz.expd (Lz.rdR T) n).2 = 0) (h3 : ¬ (Lz.expd (Lz.rdR T) n).1.length < n) : opT n T = ((Lz.expd (Lz.rdR T) n).1, 0) := by
  rw [expd_rd hn h] at h2 h3 ⊢
  unfold opT
  rw [if_neg (fun h' => h' h), if_neg (fun h' => h' h2), if_neg (show ¬ (Lz.ex n [] (Lz.rdA [] T).1).1.length < n from h3)]
  rfl
theorem rs_len (l : List Nat) (m : Nat) (b : List Bool) : (rs l m b).1.length ≤ m := by
  unfold rs
  cases e : signs l m b with
  | inl q => cases q <;> exact Nat.zero_le _
  | inr q =>
    obtain ⟨t, r⟩ := q
    show (if clean r then (upB t, (0 : Int)) else ([], 4)).1.length ≤ m
    split
    · show (upB t).length ≤ m
      unfold upB
      rw [List.length_map, (signs_of e).1]
      exact Nat.le_refl _
    · exact Nat.zero_le _
theorem rdR_len (T : Bs) : (Lz.rdR T).length ≤ 4096 := by
  by_cases h : (Lz.rd T).2 = 0
  · exact (Lz.chk_zero (Lz.packd_read h).1).1
  · unfold Lz.rdR
    rw [List.length_map, show (Lz.rd T).1 = [] from (Lz.rdA_error _ [] _ (Nat.le_refl _) h).1]
    simp
theorem expd_len (l : List Lz.Tr) {n : Nat} (hn : n ≤ 4096) : (Lz.expd l n).1.length ≤ 4096 := by
  unfold Lz.expd
  split
  · exact Nat.zero_le _
  · split
    · have := Lz.ex_len (most := (n : Int).toNat) (out := []) (l := l.map Lz.Tr.tok) (Nat.zero_le _)
      omega
    · exact Nat.zero_le _
end Pr

set_option maxHeartbeats 400000 in
theorem clone_any (s : ByteArray) (w : World) (hs : s.size ≤ 281474976710656) :
    Calls Try.prog 37 #[.string s] w fun e w' => e = .returned (.string s) ∧ Below w.heap.size w w' := by
  go_enter Try.func37, Try.ntmps37
  go_wp2_with (refine (Try.stringslite_Clone _ _ hs).mono ?_; rintro e w' ⟨rfl, hb⟩)
  go_ret
  exact ⟨rfl, hb⟩

set_option maxHeartbeats 400000 in
theorem oplain_any (s : ByteArray) (w : World) (hs : s.size ≤ 140737488351232) (O : Pr.Bs × Int) (hO : (if 4096 < s.data.toList.length then ([], 2) else (s.data.toList, 0)) = O) :
    Calls Try.prog 13 #[.string s] w fun e w' => ∃ s' : ByteArray, e = .returned (.tuple #[.string s', .int .i64 O.2]) ∧ s'.data.toList = O.1 ∧ Below w.heap.size w w' := by
  rw [← Lib.size_eq] at hO
  by_cases h : 4096 < s.size
  · rw [if_pos h] at hO
    subst hO
    go_enter Try.func13, Try.ntmps13
    go_wp2_with fail
    go_ret2
    exact ⟨⟨#[]⟩, rfl, rfl, Below.refl _ _⟩
  · rw [if_neg h] at hO
    have HO : Hid ((s.data.toList, (0 : Int)) = O) := hO
    have hc := clone_any s w (by omega)
    clear hO
    go_enter Try.func13, Try.ntmps13
    go_wp2_with fail
    refine hc.mono ?_
    rintro e w' ⟨rfl, hb⟩
    go_wp2_with fail
    go_ret2
    exact ⟨s, by rw [← HO.out]; rfl, by rw [← HO.out], hb⟩

set_option maxHeartbeats 4000000 in
theorem ocoded_any (s : ByteArray) (w : World) (hs : s.size ≤ 140737488351232) (O : Pr.Bs × Int) (hO : Pr.opC s.data.toList = O) :
    Calls Try.prog 14 #[.string s] w fun e w' => ∃ s' : ByteArray, e = .returned (.tuple #[.string s', .int .i64 O.2]) ∧ s'.data.toList = O.1 ∧ Below w.heap.size w w' := by
  rw [Pr.opC_hd] at hO
  have HO : Hid ((if Pr.hdE s.data.toList ≠ 0 then ([], Pr.hdE s.data.toList) else Pr.opS ((Pr.H3 s.data.toList).1.getD 0 0) ((Pr.H3 s.data.toList).1.getD 1 0) (Pr.PP s.data.toList).1 (Pr.PP s.data.toList).2.1) = O) := hO
  have hh := rhead_any s w hs
  clear hO
  generalize s.data.toList = L at *
  go_enter Try.func14, Try.ntmps14
  go_wp2_with fail
  refine hh.mono ?_
  rintro e w1 ⟨n, m, v, s1, rfl, ⟨va, vn, vc, rfl⟩, z1, hH, hb1⟩
  clear hh
  have HB0 : Hid (Below w.heap.size w w1) := hb1
  by_cases x1 : Pr.hdE L = 0
  case neg =>
    have HE : Hid (O = ([], Pr.hdE L)) := by show O = _; rw [← HO.out, if_pos x1]
    generalize Pr.hdE L = E at *
    have hq : (E != 0) = true := by simpa using x1
    clear hH x1 HO hb1
    go_wp2_with fail
    go_ret2
    exact ⟨⟨#[]⟩, by rw [HE.out]; rfl, by rw [HE.out], HB0.out.alloc HB0.out.size _⟩
  obtain ⟨y1, y2, y3, y4, y5, y6, y7, y8⟩ := hH x1
  rw [x1, if_neg (by simp), y1, y3, Pr.opS_rs, ← y6] at HO
  generalize (Pr.PP L).1 = wide at *
  rw [x1]
  clear hH x1 y1 y3 y6 hb1
  obtain ⟨W1, hW1⟩ : ∃ W1, W1 = w1.alloc (.cells #[.int .i64 (n : Int), .int .i64 (m : Int), .slice va vn vc] 64) := ⟨_, rfl⟩
  have HX1 : Hid (W1.heap[w1.heap.size]? = some (.cells #[.int .i64 (n : Int), .int .i64 (m : Int), .slice va vn vc] 64 (0, 0))) := by rw [hW1]; exact heap_alloc_new w1 _
  have hb11 : Below w1.heap.size w1 W1 := by rw [hW1]; exact (Below.refl _ w1).alloc (Nat.le_refl _) _
  have HB1 : Hid (Below w.heap.size w W1) := HB0.out.trans (hb11.mono HB0.out.size)
  have hrow : W1.ownsRow w.heap.size 3 1 (.slice va vn vc) 256 ((Hf.up wide).map Iv) := row_below y5 hb11
  have hints : Ints W1 (.slice va vn vc) (Hf.up wide) := Ints.of_own (base := w.heap.size) (by rw [Hf.up_length, y7]; exact hrow)
  have HZ1 : Hid (w1.heap.size < W1.heap.size) := (Array.getElem?_eq_some_iff.1 HX1.out).1
  clear y5 hb11 hrow HB0
  by_cases hks : 2 ^ 48 < Hf.ksum wide
  · have hm := make_form (.slice va vn vc) wide W1 hints (by omega) (by omega) y8 hks
    rw [if_pos hks] at HO
    have HE : Hid (O = ([], 4)) := HO.out.symm
    rw [hW1] at hm
    clear HO hks hints y8 y7
    go_wp2_with fail
    refine hm.mono ?_
    rw [← hW1]
    rintro e w2 ⟨rfl, rfl⟩
    clear hm hW1
    go_wp2_with fail
    go_ret2
    exact ⟨⟨#[]⟩, by rw [HE.out]; rfl, by rw [HE.out], HB1.out⟩
  have hm := make_any (.slice va vn vc) wide W1 hints (by omega) (by omega) y8 (by omega)
  rw [if_neg hks] at HO
  have HG : Hid (Pr.Good wide) := ⟨Hf.getD_le y8, by show _ ≤ _; omega⟩
  have HL : Hid (wide.length = 256) := y7
  rw [hW1] at hm
  clear hks hints y8 y7
  go_wp2_with fail
  refine hm.mono ?_
  rw [← hW1]
  rintro e w2 ⟨G, V, rfl, hBk, hb2⟩
  clear hm hW1
  have HX2 : Hid (w2.heap[w1.heap.size]? = some (.cells #[.int .i64 (n : Int), .int .i64 (m : Int), .slice va vn vc] 64 (0, 0))) := (hb2.block _ HZ1.out).trans HX1.out
  have HB2 : Hid (Below w.heap.size w w2) := HB1.out.trans (hb2.mono HB1.out.size)
  have hr := rsigns_any W1.heap.size G wide V s1 m w2 hBk HG.out (by rw [HL.out]; omega) (by omega) y4 _ rfl
  unfold Pr.bitsS at hr
  have hTm := Pr.rs_len wide m (Pr.bitsB (Pr.dnB s1.data.toList))
  clear hBk hb2 HX1 HB1
  generalize Pr.rs wide m (Pr.bitsB (Pr.dnB s1.data.toList)) = X at *
  obtain ⟨T, e3⟩ := X
  dsimp only at hr HO hTm
  obtain ⟨S, hS⟩ : ∃ S : ByteArray, S = ⟨T.toArray⟩ := ⟨_, rfl⟩
  rw [← hS] at hr
  have hSl : S.data.toList = T := by rw [hS]
  have HSl : Hid (S.data.toList = T) := hSl
  have hSz : S.size ≤ 12288 := by rw [Lib.size_eq, hSl]; omega
  clear hS hSl hTm
  have c1 := (row_cells (cs := [.int .i64 (n : Int), .int .i64 (m : Int), .slice va vn vc]) HX2.out 1 (by simp)).1
  go_wp2_with fail
  refine hr.mono ?_
  rintro e w3 ⟨rfl, hb3⟩
  clear hr c1
  have HX3 : Hid (w3.heap[w1.heap.size]? = some (.cells #[.int .i64 (n : Int), .int .i64 (m : Int), .slice va vn vc] 64 (0, 0))) := (hb3.block _ (Array.getElem?_eq_some_iff.1 HX2.out).1).trans HX2.out
  have HB3 : Hid (Below w.heap.size w w3) := HB2.out.trans (hb3.mono HB2.out.size)
  clear hb3 HX2 HB2
  by_cases x3 : e3 = 0
  case neg =>
    have hq : (e3 != 0) = true := by simpa using x3
    have HE : Hid (O = ([], e3)) := by show O = _; rw [← HO.out, if_pos x3]
    clear HO
    go_wp2_with fail
    go_ret2
    exact ⟨⟨#[]⟩, by rw [HE.out]; rfl, by rw [HE.out], HB3.out⟩
  subst x3
  rw [if_neg (by simp)] at HO
  have hrd := read_any S w3 (by omega)
  rw [HSl.out] at hrd
  have hRl := Pr.rdR_len T
  go_wp2_with fail
  refine hrd.mono ?_
  rintro e w4 ⟨v4, rfl, hrow4, hb4⟩
  clear hrd
  obtain ⟨a4, c4, rfl⟩ := own_form hrow4
  have HX4 : Hid (w4.heap[w1.heap.size]? = some (.cells #[.int .i64 (n : Int), .int .i64 (m : Int), .slice va vn vc] 64 (0, 0))) := (hb4.block _ (Array.getElem?_eq_some_iff.1 HX3.out).1).trans HX3.out
  have HB4 : Hid (Below w.heap.size w w4) := HB3.out.trans (hb4.mono HB3.out.size)
  have htk : Toks w4 (.slice a4 (Lz.rdR T).length c4) (Lz.rdR T) := Toks.of_own hrow4
  clear hb4 HX3 HB3 hrow4
  by_cases x4 : (Lz.rd T).2 = 0
  case neg =>
    have HE : Hid (O = ([], ((Lz.rd T).2 : Int))) := by show O = _; rw [← HO.out]; exact Pr.opT_rd x4
    generalize (Lz.rd T).2 = e4 at *
    have hq : ((e4 : Int) != 0) = true := by rw [bne_iff_ne]; omega
    clear HO x4 htk
    generalize (Lz.rdR T).length = z at *
    go_wp2_with fail
    go_ret2
    exact ⟨⟨#[]⟩, by rw [HE.out]; rfl, by rw [HE.out], HB4.out⟩
  have hex := expand_any (.slice a4 (Lz.rdR T).length c4) (Lz.rdR T) n w4 htk (by omega)
  have HX4R : Hid ((Lz.rd T).2 = 0) := x4
  rw [x4]
  clear x4 htk
  have hEl := Pr.expd_len (Lz.rdR T) y2
  have HP : Hid ((Lz.expd (Lz.rdR T) n).2 ≠ 0 → O = ([], ((Lz.expd (Lz.rdR T) n).2 : Int))) := fun h => by rw [← HO.out]; exact Pr.opT_ex y2 HX4R.out h
  have HP2 : Hid ((Lz.expd (Lz.rdR T) n).2 = 0 → (Lz.expd (Lz.rdR T) n).1.length < n → O = ([], 4)) := fun h h' => by rw [← HO.out]; exact Pr.opT_few y2 HX4R.out h h'
  have HP3 : Hid ((Lz.expd (Lz.rdR T) n).2 = 0 → ¬ (Lz.expd (Lz.rdR T) n).1.length < n → O = ((Lz.expd (Lz.rdR T) n).1, 0)) := fun h h' => by rw [← HO.out]; exact Pr.opT_all y2 HX4R.out h h'
  clear HO HX4R
  generalize Lz.expd (Lz.rdR T) n = Y at *
  generalize (Lz.rdR T).length = z at *
  obtain ⟨U, e5⟩ := Y
  dsimp only at hex hEl HP HP2 HP3
  obtain ⟨S2, hS2⟩ : ∃ S2 : ByteArray, S2 = ⟨U.toArray⟩ := ⟨_, rfl⟩
  rw [← hS2] at hex
  have hSl2 : S2.data.toList = U := by rw [hS2]
  have HSl2 : Hid (S2.data.toList = U) := hSl2
  have HSz2 : Hid (S2.size = U.length) := by show _ = _; rw [Lib.size_eq, hSl2]
  clear hS2 hSl2
  have c0 := (row_cells (cs := [.int .i64 (n : Int), .int .i64 (m : Int), .slice va vn vc]) HX4.out 0 (by simp)).1
  go_wp2_with fail
  refine hex.mono ?_
  rintro e w5 ⟨rfl, hb5⟩
  clear hex c0
  have HX5 : Hid (w5.heap[w1.heap.size]? = some (.cells #[.int .i64 (n : Int), .int .i64 (m : Int), .slice va vn vc] 64 (0, 0))) := (hb5.block _ (Array.getElem?_eq_some_iff.1 HX4.out).1).trans HX4.out
  have HB5 : Hid (Below w.heap.size w w5) := HB4.out.trans (hb5.mono HB4.out.size)
  have c0 := (row_cells (cs := [.int .i64 (n : Int), .int .i64 (m : Int), .slice va vn vc]) HX5.out 0 (by simp)).1
  clear hb5 HX4 HB4 HX5
  by_cases x5 : e5 = 0
  case neg =>
    have HE : Hid (O = ([], (e5 : Int))) := HP.out x5
    have hq : ((e5 : Int) != 0) = true := by rw [bne_iff_ne]; omega
    clear HP HP2 HP3
    go_wp2_with fail
    go_ret2
    exact ⟨⟨#[]⟩, by rw [HE.out]; rfl, by rw [HE.out], HB5.out⟩
  subst x5
  by_cases x6 : U.length < n
  · have HE : Hid (O = ([], 4)) := HP2.out rfl x6
    have x7 : S2.size < n := by rw [HSz2.out]; exact x6
    clear HP HP2 HP3 x6
    go_wp2_with fail
    go_ret2
    exact ⟨⟨#[]⟩, by rw [HE.out]; rfl, by rw [HE.out], HB5.out⟩
  · have HE : Hid (O = (U, 0)) := HP3.out rfl x6
    have x7 : ¬ S2.size < n := by rw [HSz2.out]; exact x6
    clear HP HP2 HP3 x6
    go_wp2_with fail
    go_ret2
    exact ⟨S2, by rw [HE.out]; rfl, by rw [HE.out, HSl2.out], HB5.out⟩

theorem one_byte (t : ByteArray) (h : 1 ≤ t.size) : t.data.toList = t[0] :: t.data.toList.drop 1 := by
  have hl : t.data.toList.length = t.size := (Lib.size_eq t).symm
  conv => lhs; rw [← List.drop_zero (l := t.data.toList), List.drop_eq_getElem_cons (by omega)]
  rfl

set_option maxHeartbeats 1000000 in
theorem open_any (s : ByteArray) (w : World) (hs : s.size ≤ 140737488351232) :
    Calls Try.prog 9 #[.string s] w fun e w' => ∃ s' : ByteArray, e = .returned (.tuple #[.string s', .int .i64 (Pr.op s.data.toList).2]) ∧ s'.data.toList = (Pr.op s.data.toList).1 ∧ Below w.heap.size w w' := by
  by_cases h0 : s.size = 0
  · have hr : Pr.op s.data.toList = ([], 3) := by rw [List.length_eq_zero_iff.1 (show s.data.toList.length = 0 by rw [← Lib.size_eq]; exact h0)]; rfl
    rw [hr]
    go_enter Try.func9, Try.ntmps9
    go_wp2_with fail
    go_ret2
    exact ⟨⟨#[]⟩, rfl, rfl, Below.refl _ _⟩
  have hz : ((s.size : Int) == 0) = false := beq_eq_false_iff_ne.2 (by omega)
  have J0 : 0 < s.size := by omega
  have hb := one_byte s (by omega)
  have hx := ext_toList s 1
  have hxs : (s.extract 1 s.size).size ≤ 140737488351232 := by rw [ByteArray.size_extract]; omega
  have b0 := s[0].toNat_lt
  generalize ha : s[0] = a at *
  by_cases h1 : a = 0
  · have hr : Pr.op s.data.toList = if 4096 < (s.data.toList.drop 1).length then ([], 2) else (s.data.toList.drop 1, 0) := by
      rw [hb, h1]; exact Pr.op_zero _
    rw [← hx] at hr
    have hp := oplain_any (s.extract 1 s.size) w hxs _ hr.symm
    generalize Pr.op s.data.toList = O at *
    have hq : ((a.toNat : Int) == 0) = true := by rw [h1]; rfl
    clear hb hx hr h1 hxs
    go_enter Try.func9, Try.ntmps9
    go_wp2_with fail
    refine hp.mono ?_
    rintro e w' ⟨s', rfl, hs', hb'⟩
    go_wp2_with fail
    go_ret2
    exact ⟨s', rfl, hs', hb'⟩
  by_cases h2 : a = 1
  · have hr : Pr.op s.data.toList = Pr.opC (s.data.toList.drop 1) := by
      rw [hb, h2]; exact Pr.op_one _
    rw [← hx] at hr
    have hp := ocoded_any (s.extract 1 s.size) w hxs _ hr.symm
    generalize Pr.op s.data.toList = O at *
    have hq : ((a.toNat : Int) == 0) = false := by rw [h2]; rfl
    have hq2 : ((a.toNat : Int) == 1) = true := by rw [h2]; rfl
    clear hb hx hr h1 h2 hxs
    go_enter Try.func9, Try.ntmps9
    go_wp2_with fail
    refine hp.mono ?_
    rintro e w' ⟨s', rfl, hs', hb'⟩
    go_wp2_with fail
    go_ret2
    exact ⟨s', rfl, hs', hb'⟩
  have hr : Pr.op s.data.toList = ([], 5) := by
    rw [hb]
    show (if a = 0 then _ else if a = 1 then _ else _) = _
    rw [if_neg h1, if_neg h2]
  rw [hr]
  have hq : ((a.toNat : Int) == 0) = false := by rw [beq_eq_false_iff_ne]; intro e; exact h1 (UInt8.toNat_inj.1 (by show a.toNat = 0; omega))
  have hq2 : ((a.toNat : Int) == 1) = false := by rw [beq_eq_false_iff_ne]; intro e; exact h2 (UInt8.toNat_inj.1 (by show a.toNat = 1; omega))
  clear hb hx hr h1 h2 hxs
  go_enter Try.func9, Try.ntmps9
  go_wp2_with fail
  go_ret2
  exact ⟨⟨#[]⟩, rfl, rfl, Below.refl _ _⟩
end Go.Proofs.Ytgdkfaphbbdnbaa
