/-
  What readLengths of package press answers.
-/
import Derived.Test.YtgdkfaphbbdnbaaPrNum
import Derived.Test.YtgdkfaphbbdnbaaHfCodes
namespace Go.Proofs.Ytgdkfaphbbdnbaa
open Go.RowKit
set_option maxRecDepth 4000

namespace Pr
theorem up_set (l : List Nat) (i x : Nat) : Hf.up (l.set i x) = (Hf.up l).set i (x : Int) := by
  unfold Hf.up
  rw [List.map_set]
theorem set_le {l : List Nat} {B i x : Nat} (h : ∀ n ∈ l, n ≤ B) (hx : x ≤ B) : ∀ n ∈ l.set i x, n ≤ B := by
  intro n hn
  rcases List.mem_or_eq_of_mem_set hn with hn | rfl
  · exact h n hn
  · exact hx
theorem two_bytes (t : ByteArray) (h : 2 ≤ t.size) : t.data.toList = t[0] :: t[1] :: t.data.toList.drop 2 := by
  have hl : t.data.toList.length = t.size := (Lib.size_eq t).symm
  conv => lhs; rw [← List.drop_zero (l := t.data.toList), List.drop_eq_getElem_cons (by omega), List.drop_eq_getElem_cons (by omega)]
  rfl
theorem pairs_short (j : Nat) (p : Int) (wide : List Nat) (l : Bs) (h : l.length < 2) : pairs (j + 1) p wide l = ([], [], 3) := by
  match l, h with
  | [], _ => rfl
  | [_], _ => rfl
theorem pairs_cons (j : Nat) (p : Int) (wide : List Nat) (a b : UInt8) (l : Bs) : pairs (j + 1) p wide (a :: b :: l) = if (a.toNat : Int) ≤ p ∨ b.toNat = 0 ∨ 48 < b.toNat then ([], [], 4) else pairs j a.toNat (wide.set a.toNat b.toNat) l := rfl
/-- what Go's readLengths leaves -/
structure Lens (w w' : World) (R : List Nat × Bs × Int) (v : Value) (s' : ByteArray) : Prop where
  row : w'.ownsRow w.heap.size 3 1 v 256 ((Hf.up R.1).map Iv)
  rest : s'.data.toList = R.2.1
  len : R.1.length = 256
  le : ∀ n ∈ R.1, n ≤ 48
end Pr

set_option maxHeartbeats 2000000 in
theorem rlens_any (s : ByteArray) (N : Nat) (w : World) (hs : s.size ≤ 140737488351232) (hN : N ≤ 256) (R : List Nat × Pr.Bs × Int) (hR : Pr.pairs N (-1) (List.replicate 256 0) s.data.toList = R) :
    Calls Try.prog 70 #[.string s, .int .i64 N] w fun e w' => ∃ (v : Value) (s' : ByteArray), e = .returned (.tuple #[v, .string s', .int .i64 R.2.2]) ∧ (∃ a n c, v = .slice a n c) ∧ s'.size ≤ s.size ∧
      (R.2.2 = 0 → Pr.Lens w w' R v s') ∧ Below w.heap.size w w' := by
  obtain ⟨i0, hi, hz0, hz1, hz2⟩ := info_parts info_int
  have HR : Hid (Pr.pairs N (-1) (List.replicate 256 0) s.data.toList = R) := hR
  clear hR
  go_enter Try.func70, Try.ntmps70
  go_wp2_with (at_make; refine wpList_make_full _ rfl (.const (.int .i64 256)) (.const (.int .i64 256)) 31 rfl w.heap.size 3 i0 (.int .i64 0) 1 Try.underlying31 hi hz0 hz1 .i64 .i64 _ _ 256 rfl rfl rfl rfl (by rw [hz2]; omega) (by unfold maxLen; omega) (Nat.le_refl _) ?_; intro w1 hown hgrow)
  have hown1 := made_zeros hown
  have HB1 : Hid (Below w.heap.size w w1) := (Below.refl _ _).grown hgrow (Nat.le_refl _) (fun k hk => by cases hk)
  clear hown hgrow
  go_wp2_with fail
  go_loopw [0, 8, 13] (fun sv pv i wr => ∃ (k : Nat) (t : ByteArray) (p : Int) (wide : List Nat), k ≤ N ∧ i = .int .i64 k ∧ sv = .string t ∧ t.size ≤ s.size ∧ pv = .int .i64 p ∧ -1 ≤ p ∧ p ≤ 255 ∧ wide.length = 256 ∧ Hid (∀ n ∈ wide, n ≤ 48) ∧
      Hid (Pr.pairs (N - k) p wide t.data.toList = R) ∧ wr.ownsRow w.heap.size 3 1 (.slice (some ⟨w.heap.size, 0, none⟩) 256 256) 256 ((Hf.up wide).map Iv) ∧ Hid (Below w.heap.size w wr)) (fun _ _ i _ => N - (intOf i).toNat)
  case atStart => exact ⟨0, s, -1, List.replicate 256 0, by omega, rfl, rfl, Nat.le_refl _, rfl, by omega, by omega, by simp, fun n hn => by rw [List.eq_of_mem_replicate hn]; omega, HR, by simpa [Hf.up] using hown1, HB1⟩
  case round =>
    obtain ⟨k, t, p, wide, hk, rfl, rfl, hts, rfl, hp0, hp1, hwl, h48, HP, hown, hbel⟩ := hrel
    by_cases hlt : k < N
    · obtain ⟨j, hj⟩ : ∃ j, N - k = j + 1 := ⟨N - k - 1, by omega⟩
      have HJ : Hid (N - (k + 1) = j) := by show _ = _; omega
      rw [hj] at HP
      clear hj
      by_cases h2 : t.size < 2
      · have HE : Hid (R = ([], [], 3)) := by show R = _; rw [← HP.out]; exact (Pr.pairs_short j p wide _ (by rw [← Lib.size_eq]; exact h2))
        have hq : decide ((t.size : Int) < 2) = true := decide_eq_true (by omega)
        clear HP
        go_wp2_with fail
        go_ret3
        exact ⟨.slice none 0 0, ⟨#[]⟩, by rw [HE.out]; rfl, ⟨_, _, _, rfl⟩, Nat.zero_le _, fun h => by rw [HE.out] at h; simp at h, hbel.out⟩
      have hq : decide ((t.size : Int) < 2) = false := decide_eq_false (by omega)
      have J0 : (0 : Int) < (t.size : Int) := by omega
      have N0 : 0 < t.size := by omega
      have N1 : 1 < t.size := by omega
      have J1 : (1 : Int) < (t.size : Int) := by omega
      have b0 := t[0].toNat_lt
      have b1 := t[1].toNat_lt
      have hc := Pr.two_bytes t (by omega)
      rw [hc] at HP
      clear hc
      have HX : Hid ((t.extract 2 t.size).data.toList = t.data.toList.drop 2) := ext_toList t 2
      rw [← HX.out] at HP
      clear HX
      have HSZ : Hid ((t.extract 2 t.size).size ≤ s.size) := by show _ ≤ _; rw [ByteArray.size_extract]; omega
      generalize ha : t[0] = a at *
      generalize hb : t[1] = b at *
      have HC := Pr.pairs_cons j p wide a b (t.extract 2 t.size).data.toList
      by_cases hbad : (a.toNat : Int) ≤ p ∨ b.toNat = 0 ∨ 48 < b.toNat
      · have HE : Hid (R = ([], [], 4)) := by show R = _; rw [← HP.out, HC, if_pos hbad]
        clear HP HC
        by_cases x1 : (a.toNat : Int) ≤ p
        · clear hbad
          go_wp2_with fail
          go_region
          all_goals go_wp2_with fail
          all_goals go_ret3
          all_goals exact ⟨.slice none 0 0, ⟨#[]⟩, by rw [HE.out]; rfl, ⟨_, _, _, rfl⟩, Nat.zero_le _, fun h => by rw [HE.out] at h; simp at h, hbel.out.drew⟩
        by_cases x2 : (b.toNat : Int) < 1
        · clear hbad
          go_wp2_with fail
          go_region
          all_goals go_wp2_with fail
          all_goals go_ret3
          all_goals exact ⟨.slice none 0 0, ⟨#[]⟩, by rw [HE.out]; rfl, ⟨_, _, _, rfl⟩, Nat.zero_le _, fun h => by rw [HE.out] at h; simp at h, hbel.out.drew⟩
        have x3 : 48 < (b.toNat : Int) := by omega
        clear hbad
        go_wp2_with fail
        go_region
        all_goals go_wp2_with fail
        all_goals go_ret3
        all_goals exact ⟨.slice none 0 0, ⟨#[]⟩, by rw [HE.out]; rfl, ⟨_, _, _, rfl⟩, Nat.zero_le _, fun h => by rw [HE.out] at h; simp at h, hbel.out.drew⟩
      · rw [if_neg hbad] at HC
        have HN : Hid (Pr.pairs j a.toNat (wide.set a.toNat b.toNat) (t.extract 2 t.size).data.toList = R) := by show _ = R; rw [← HP.out, HC]
        have x1 : ¬ (a.toNat : Int) ≤ p := by omega
        have x2 : ¬ (b.toNat : Int) < 1 := by omega
        have x3 : ¬ 48 < (b.toNat : Int) := by omega
        have H48 : Hid (∀ n ∈ wide.set a.toNat b.toNat, n ≤ 48) := Pr.set_le h48.out (by omega)
        have HWL : Hid ((wide.set a.toNat b.toNat).length = 256) := by show _ = _; rw [List.length_set]; exact hwl
        clear HP HC hbad h48
        have y1 := own_at hown a.toNat (by rw [Hf.up_length, hwl]; exact b0)
        have y2 := hown.frozenAt a.toNat
        generalize (Hf.up wide)[a.toNat]'(by rw [Hf.up_length, hwl]; exact b0) = x at *
        have HO := own_store hown a.toNat (b.toNat : Int)
        rw [← Pr.up_set] at HO
        have HO' : Hid ((wr.setCell ⟨w.heap.size, a.toNat, none⟩ (.int .i64 (b.toNat : Int))).ownsRow w.heap.size 3 1 (.slice (some ⟨w.heap.size, 0, none⟩) 256 256) 256 ((Hf.up (wide.set a.toNat b.toNat)).map Iv)) := HO
        have HB2 : Hid (Below w.heap.size w (wr.setCell ⟨w.heap.size, a.toNat, none⟩ (.int .i64 (b.toNat : Int)))) := hbel.out.setCell (Nat.le_refl _) _
        clear HO hown hbel hwl
        go_wp2_with fail
        go_region
        all_goals go_wp2_with fail
        all_goals exact ⟨⟨k + 1, t.extract 2 t.size, a.toNat, wide.set a.toNat b.toNat, by omega, by go_num, rfl, HSZ.out, rfl, by omega, by omega, HWL.out, H48, by rw [HJ.out]; exact HN, row_below HO'.out ((Below.refl _ _).drew), HB2.out.drew⟩, by simp only [intOf]; omega⟩
    · obtain rfl : k = N := by omega
      have HE : Hid (R = (wide, t.data.toList, 0)) := by show R = _; rw [← HP.out, Nat.sub_self]; rfl
      clear HP HR
      go_wp2_with fail
      go_ret3
      exact ⟨_, t, by rw [HE.out]; rfl, ⟨_, _, _, rfl⟩, hts, fun _ => by rw [HE.out]; exact ⟨hown, rfl, hwl, h48.out⟩, hbel.out⟩
end Go.Proofs.Ytgdkfaphbbdnbaa
