/-
  What readNumber of package press answers.
  What readLengths of package press answers.
  What readHead of package press answers.
  What take and onlyFilling of package press answer.
  A book of codes as it lies in memory; what find of package press answers.
  What readSign of package press answers.
  What readSigns of package press answers.
  What makeBook of package press answers.
  The library's contracts at this program: stringslite_Clone (laid by the guide's own tools, written out in plain words).
  What Open of package press answers.
-/
import Derived.Test.YtgdkfaphbbdnbaaGNum
import Derived.Test.YtgdkfaphbbdnbaaGPrM
import Derived.Test.YtgdkfaphbbdnbaaGLzB
import Derived.Test.YtgdkfaphbbdnbaaGHfC
import Derived.Laws.BitsAllLaws
import Derived.BigQuiet
import Derived.Deep.QuietTactic
import Derived.Deep.RegionLaw
import Derived.Deep.RegionHeld3
import Derived.Deep.AppendLies
import Derived.Shelf.Strconv.Clone
import Derived.Test.YtgdkfaphbbdnbaaProg

namespace Go.Proofs.Ytgdkfaphbbdnbaa
open Go.RowKit
set_option maxRecDepth 4000

namespace Pr
/-- a number up to most, what is left, and the error -/
def num1 (most : Nat) (s : Bs) : Nat × Bs × Int := if (Nm.getN s).2.2 ≠ 0 then (0, [], (Nm.getN s).2.2) else if most < (Nm.getN s).1 then (0, [], 2) else ((Nm.getN s).1, s.drop (Nm.getN s).2.1, 0)
theorem num1_le (most : Nat) (s : Bs) : (num1 most s).1 ≤ most ∧ (num1 most s).2.1.length ≤ s.length := by
  unfold num1
  split
  · exact ⟨Nat.zero_le _, Nat.zero_le _⟩
  split
  · exact ⟨Nat.zero_le _, Nat.zero_le _⟩
  · rename_i h
    refine ⟨Nat.not_lt.1 h, ?_⟩
    show (s.drop (Nm.getN s).2.1).length ≤ _
    rw [List.length_drop]
    omega
theorem nums_cons (m : Nat) (ms : List Nat) (s : Bs) : nums (m :: ms) s = if (num1 m s).2.2 ≠ 0 then ([], [], (num1 m s).2.2) else
    if (nums ms (num1 m s).2.1).2.2 ≠ 0 then ([], [], (nums ms (num1 m s).2.1).2.2) else ((num1 m s).1 :: (nums ms (num1 m s).2.1).1, (nums ms (num1 m s).2.1).2.1, 0) := by
  unfold num1
  rw [nums]
  by_cases h1 : (Nm.getN s).2.2 ≠ 0
  · rw [if_pos h1, if_pos h1]
    rw [if_pos h1]
  · rw [if_neg h1, if_neg h1]
    by_cases h2 : m < (Nm.getN s).1
    · rw [if_pos h2, if_pos h2]
      rfl
    · rw [if_neg h2, if_neg h2]
      rfl
end Pr

set_option maxHeartbeats 1000000 in
theorem rnum_any (s : ByteArray) (m : Int) (w : World) (hs : s.size ≤ 140737488351232) (h0 : 0 ≤ m) (h1 : m ≤ 65536) :
    Calls Try.prog 69 #[.string s, .int .u64 m] w fun e w' => ∃ s' : ByteArray, e = .returned (.tuple #[.int .i64 (Pr.num1 m.toNat s.data.toList).1, .string s', .int .i64 (Pr.num1 m.toNat s.data.toList).2.2]) ∧
      s'.data.toList = (Pr.num1 m.toNat s.data.toList).2.1 ∧ Below w.heap.size w w' := by
  have hg := get_any s w (by omega)
  obtain ⟨M, rfl⟩ := Int.eq_ofNat_of_zero_le h0
  rw [Int.toNat_natCast]
  obtain ⟨n, k, q, hR⟩ : ∃ n k q, Nm.getN s.data.toList = (n, k, q) := ⟨_, _, _, rfl⟩
  unfold Pr.num1
  rw [hR] at hg ⊢
  dsimp only at hg ⊢
  by_cases he : q = 0
  · subst he
    obtain ⟨hk, hn, _⟩ := Nm.get_one hR
    have hk2 : k ≤ s.size := by rw [Lib.size_eq]; exact hk
    have HE : Hid ((s.extract k s.size).data.toList = s.data.toList.drop k) := ext_toList s k
    clear hR hk
    rw [if_neg (by simp)]
    by_cases hm : M < n
    · rw [if_pos hm]
      dsimp only
      go_enter Try.func69, Try.ntmps69
      go_wp2_with fail
      refine hg.mono ?_
      rintro e w' ⟨rfl, rfl⟩
      go_wp2_with fail
      go_ret3
      exact ⟨⟨#[]⟩, rfl, rfl, Below.refl _ _⟩
    · rw [if_neg hm]
      dsimp only
      have hn2 : n ≤ 65536 := by omega
      have hm2 : n ≤ M := by omega
      clear hn hm
      go_enter Try.func69, Try.ntmps69
      go_wp2_with fail
      refine hg.mono ?_
      rintro e w' ⟨rfl, rfl⟩
      clear hg
      go_wp2_with fail
      go_region
      all_goals go_wp2_with fail
      all_goals go_ret3
      all_goals exact ⟨s.extract k s.size, rfl, HE.out, (Below.refl _ _).drew⟩
  · have hq : (q != 0) = true := by simpa using he
    rw [if_pos he]
    dsimp only
    clear hR he
    go_enter Try.func69, Try.ntmps69
    go_wp2_with fail
    refine hg.mono ?_
    rintro e w' ⟨rfl, rfl⟩
    go_wp2_with fail
    go_ret3
    exact ⟨⟨#[]⟩, rfl, rfl, Below.refl _ _⟩
end Go.Proofs.Ytgdkfaphbbdnbaa

namespace Go.Proofs.Ytgdkfaphbbdnbaa
open Go.RowKit
set_option maxRecDepth 4000

namespace Pr
theorem up_set (l : List Nat) (i x : Nat) : Hf.up (l.set i x) = (Hf.up l).set i (x : Int) := by
  unfold Hf.up
  rw [List.map_set]
theorem set_le {l : List Nat} {B i x : Nat} (h : ∀ n ∈ l, n ≤ B) (hx : x ≤ B) : ∀ n ∈ l.set i x, n ≤ B := by
  intro n hn
  rcases List.mem_or_eq_of_mem_set hn with hn | rfl
  · exact h n hn
  · exact hx
theorem two_bytes (t : ByteArray) (h : 2 ≤ t.size) : t.data.toList = t[0] :: t[1] :: t.data.toList.drop 2 := by
  have hl : t.data.toList.length = t.size := (Lib.size_eq t).symm
  conv => lhs; rw [← List.drop_zero (l := t.data.toList), List.drop_eq_getElem_cons (by omega), List.drop_eq_getElem_cons (by omega)]
  rfl
theorem pairs_short (j : Nat) (p : Int) (wide : List Nat) (l : Bs) (h : l.length < 2) : pairs (j + 1) p wide l = ([], [], 3) := by
  match l, h with
  | [], _ => rfl
  | [_], _ => rfl
theorem pairs_cons (j : Nat) (p : Int) (wide : List Nat) (a b : UInt8) (l : Bs) : pairs (j + 1) p wide (a :: b :: l) = if (a.toNat : Int) ≤ p ∨ b.toNat = 0 ∨ 48 < b.toNat then ([], [], 4) else pairs j a.toNat (wide.set a.toNat b.toNat) l := rfl
/-- what Go's readLengths leaves -/
structure Lens (w w' : World) (R : List Nat × Bs × Int) (v : Value) (s' : ByteArray) : Prop where
  row : w'.ownsRow w.heap.size 3 1 v 256 ((Hf.up R.1).map Iv)
  rest : s'.data.toList = R.2.1
  len : R.1.length = 256
  le : ∀ n ∈ R.1, n ≤ 48
end Pr

set_option maxHeartbeats 2000000 in
theorem rlens_any (s : ByteArray) (N : Nat) (w : World) (hs : s.size ≤ 140737488351232) (hN : N ≤ 256) (R : List Nat × Pr.Bs × Int) (hR : Pr.pairs N (-1) (List.replicate 256 0) s.data.toList = R) :
    Calls Try.prog 70 #[.string s, .int .i64 N] w fun e w' => ∃ (v : Value) (s' : ByteArray), e = .returned (.tuple #[v, .string s', .int .i64 R.2.2]) ∧ (∃ a n c, v = .slice a n c) ∧ s'.size ≤ s.size ∧
      (R.2.2 = 0 → Pr.Lens w w' R v s') ∧ Below w.heap.size w w' := by
  obtain ⟨i0, hi, hz0, hz1, hz2⟩ := info_parts info_int
  have HR : Hid (Pr.pairs N (-1) (List.replicate 256 0) s.data.toList = R) := hR
  clear hR
  go_enter Try.func70, Try.ntmps70
  go_wp2_with (at_make; refine wpList_make_full _ rfl (.const (.int .i64 256)) (.const (.int .i64 256)) 31 rfl w.heap.size 3 i0 (.int .i64 0) 1 Try.underlying31 hi hz0 hz1 .i64 .i64 _ _ 256 rfl rfl rfl rfl (by rw [hz2]; omega) (by unfold maxLen; omega) (Nat.le_refl _) ?_; intro w1 hown hgrow)
  have hown1 := made_zeros hown
  have HB1 : Hid (Below w.heap.size w w1) := (Below.refl _ _).grown hgrow (Nat.le_refl _) (fun k hk => by cases hk)
  clear hown hgrow
  go_wp2_with fail
  go_loopw [0, 8, 13] (fun sv pv i wr => ∃ (k : Nat) (t : ByteArray) (p : Int) (wide : List Nat), k ≤ N ∧ i = .int .i64 k ∧ sv = .string t ∧ t.size ≤ s.size ∧ pv = .int .i64 p ∧ -1 ≤ p ∧ p ≤ 255 ∧ wide.length = 256 ∧ Hid (∀ n ∈ wide, n ≤ 48) ∧
      Hid (Pr.pairs (N - k) p wide t.data.toList = R) ∧ wr.ownsRow w.heap.size 3 1 (.slice (some ⟨w.heap.size, 0, none⟩) 256 256) 256 ((Hf.up wide).map Iv) ∧ Hid (Below w.heap.size w wr)) (fun _ _ i _ => N - (intOf i).toNat)
  case atStart => exact ⟨0, s, -1, List.replicate 256 0, by omega, rfl, rfl, Nat.le_refl _, rfl, by omega, by omega, by simp, fun n hn => by rw [List.eq_of_mem_replicate hn]; omega, HR, by simpa [Hf.up] using hown1, HB1⟩
  case round =>
    obtain ⟨k, t, p, wide, hk, rfl, rfl, hts, rfl, hp0, hp1, hwl, h48, HP, hown, hbel⟩ := hrel
    by_cases hlt : k < N
    · obtain ⟨j, hj⟩ : ∃ j, N - k = j + 1 := ⟨N - k - 1, by omega⟩
      have HJ : Hid (N - (k + 1) = j) := by show _ = _; omega
      rw [hj] at HP
      clear hj
      by_cases h2 : t.size < 2
      · have HE : Hid (R = ([], [], 3)) := by show R = _; rw [← HP.out]; exact (Pr.pairs_short j p wide _ (by rw [← Lib.size_eq]; exact h2))
        have hq : decide ((t.size : Int) < 2) = true := decide_eq_true (by omega)
        clear HP
        go_wp2_with fail
        go_ret3
        exact ⟨.slice none 0 0, ⟨#[]⟩, by rw [HE.out]; rfl, ⟨_, _, _, rfl⟩, Nat.zero_le _, fun h => by rw [HE.out] at h; simp at h, hbel.out⟩
      have hq : decide ((t.size : Int) < 2) = false := decide_eq_false (by omega)
      have J0 : (0 : Int) < (t.size : Int) := by omega
      have N0 : 0 < t.size := by omega
      have N1 : 1 < t.size := by omega
      have J1 : (1 : Int) < (t.size : Int) := by omega
      have b0 := t[0].toNat_lt
      have b1 := t[1].toNat_lt
      have hc := Pr.two_bytes t (by omega)
      rw [hc] at HP
      clear hc
      have HX : Hid ((t.extract 2 t.size).data.toList = t.data.toList.drop 2) := ext_toList t 2
      rw [← HX.out] at HP
      clear HX
      have HSZ : Hid ((t.extract 2 t.size).size ≤ s.size) := by show _ ≤ _; rw [ByteArray.size_extract]; omega
      generalize ha : t[0] = a at *
      generalize hb : t[1] = b at *
      have HC := Pr.pairs_cons j p wide a b (t.extract 2 t.size).data.toList
      by_cases hbad : (a.toNat : Int) ≤ p ∨ b.toNat = 0 ∨ 48 < b.toNat
      · have HE : Hid (R = ([], [], 4)) := by show R = _; rw [← HP.out, HC, if_pos hbad]
        clear HP HC
        by_cases x1 : (a.toNat : Int) ≤ p
        · clear hbad
          go_wp2_with fail
          go_region
          all_goals go_wp2_with fail
          all_goals go_ret3
          all_goals exact ⟨.slice none 0 0, ⟨#[]⟩, by rw [HE.out]; rfl, ⟨_, _, _, rfl⟩, Nat.zero_le _, fun h => by rw [HE.out] at h; simp at h, hbel.out.drew⟩
        by_cases x2 : (b.toNat : Int) < 1
        · clear hbad
          go_wp2_with fail
          go_region
          all_goals go_wp2_with fail
          all_goals go_ret3
          all_goals exact ⟨.slice none 0 0, ⟨#[]⟩, by rw [HE.out]; rfl, ⟨_, _, _, rfl⟩, Nat.zero_le _, fun h => by rw [HE.out] at h; simp at h, hbel.out.drew⟩
        have x3 : 48 < (b.toNat : Int) := by omega
        clear hbad
        go_wp2_with fail
        go_region
        all_goals go_wp2_with fail
        all_goals go_ret3
        all_goals exact ⟨.slice none 0 0, ⟨#[]⟩, by rw [HE.out]; rfl, ⟨_, _, _, rfl⟩, Nat.zero_le _, fun h => by rw [HE.out] at h; simp at h, hbel.out.drew⟩
      · rw [if_neg hbad] at HC
        have HN : Hid (Pr.pairs j a.toNat (wide.set a.toNat b.toNat) (t.extract 2 t.size).data.toList = R) := by show _ = R; rw [← HP.out, HC]
        have x1 : ¬ (a.toNat : Int) ≤ p := by omega
        have x2 : ¬ (b.toNat : Int) < 1 := by omega
        have x3 : ¬ 48 < (b.toNat : Int) := by omega
        have H48 : Hid (∀ n ∈ wide.set a.toNat b.toNat, n ≤ 48) := Pr.set_le h48.out (by omega)
        have HWL : Hid ((wide.set a.toNat b.toNat).length = 256) := by show _ = _; rw [List.length_set]; exact hwl
        clear HP HC hbad h48
        have y1 := own_at hown a.toNat (by rw [Hf.up_length, hwl]; exact b0)
        have y2 := hown.frozenAt a.toNat
        generalize (Hf.up wide)[a.toNat]'(by rw [Hf.up_length, hwl]; exact b0) = x at *
        have HO := own_store hown a.toNat (b.toNat : Int)
        rw [← Pr.up_set] at HO
        have HO' : Hid ((wr.setCell ⟨w.heap.size, a.toNat, none⟩ (.int .i64 (b.toNat : Int))).ownsRow w.heap.size 3 1 (.slice (some ⟨w.heap.size, 0, none⟩) 256 256) 256 ((Hf.up (wide.set a.toNat b.toNat)).map Iv)) := HO
        have HB2 : Hid (Below w.heap.size w (wr.setCell ⟨w.heap.size, a.toNat, none⟩ (.int .i64 (b.toNat : Int)))) := hbel.out.setCell (Nat.le_refl _) _
        clear HO hown hbel hwl
        go_wp2_with fail
        go_region
        all_goals go_wp2_with fail
        all_goals exact ⟨⟨k + 1, t.extract 2 t.size, a.toNat, wide.set a.toNat b.toNat, by omega, by go_num, rfl, HSZ.out, rfl, by omega, by omega, HWL.out, H48, by rw [HJ.out]; exact HN, row_below HO'.out ((Below.refl _ _).drew), HB2.out.drew⟩, by simp only [intOf]; omega⟩
    · obtain rfl : k = N := by omega
      have HE : Hid (R = (wide, t.data.toList, 0)) := by show R = _; rw [← HP.out, Nat.sub_self]; rfl
      clear HP HR
      go_wp2_with fail
      go_ret3
      exact ⟨_, t, by rw [HE.out]; rfl, ⟨_, _, _, rfl⟩, hts, fun _ => by rw [HE.out]; exact ⟨hown, rfl, hwl, h48.out⟩, hbel.out⟩
end Go.Proofs.Ytgdkfaphbbdnbaa

namespace Go.Proofs.Ytgdkfaphbbdnbaa
open Go.RowKit
set_option maxRecDepth 4000

namespace Pr
def H3 (s : Bs) : List Nat × Bs × Int := nums [4096, 12288, 256] s
def PP (s : Bs) : List Nat × Bs × Int := pairs ((H3 s).1.getD 2 0) (-1) (List.replicate 256 0) (H3 s).2.1
/-- what is wrong with a head -/
def hdE (s : Bs) : Int := if (H3 s).2.2 ≠ 0 then (H3 s).2.2 else (PP s).2.2
theorem opC_hd (s : Bs) : opC s = if hdE s ≠ 0 then ([], hdE s) else opS ((H3 s).1.getD 0 0) ((H3 s).1.getD 1 0) (PP s).1 (PP s).2.1 := by
  unfold opC hdE PP
  show (if (H3 s).2.2 ≠ 0 then _ else _) = _
  by_cases h : (H3 s).2.2 ≠ 0
  · rw [if_pos h, if_pos h, if_pos h]
    rfl
  · rw [if_neg h, if_neg h]
    rfl
theorem hd1 {L0 L1 : Bs} {n1 : Nat} {e1 : Int} (h : num1 4096 L0 = (n1, L1, e1)) (he : e1 ≠ 0) : hdE L0 = e1 := by
  have : H3 L0 = ([], [], e1) := by
    unfold H3
    rw [nums_cons, h, if_pos he]
  unfold hdE
  rw [this, if_pos he]
theorem hd2 {L0 L1 L2 : Bs} {n1 n2 : Nat} {e2 : Int} (h : num1 4096 L0 = (n1, L1, 0)) (h2 : num1 12288 L1 = (n2, L2, e2)) (he : e2 ≠ 0) : hdE L0 = e2 := by
  have : H3 L0 = ([], [], e2) := by
    unfold H3
    rw [nums_cons, h, if_neg (by simp), nums_cons, h2, if_pos he, if_pos he]
  unfold hdE
  rw [this, if_pos he]
theorem hd3 {L0 L1 L2 L3 : Bs} {n1 n2 n3 : Nat} {e3 : Int} (h : num1 4096 L0 = (n1, L1, 0)) (h2 : num1 12288 L1 = (n2, L2, 0)) (h3 : num1 256 L2 = (n3, L3, e3)) (he : e3 ≠ 0) : hdE L0 = e3 := by
  have a : nums [256] L2 = ([], [], e3) := by rw [nums_cons, h3, if_pos he]
  have b : nums [12288, 256] L1 = ([], [], e3) := by rw [nums_cons, h2, a, if_neg (by simp), if_pos he]
  have : H3 L0 = ([], [], e3) := by
    unfold H3
    rw [nums_cons, h, b, if_neg (by simp), if_pos he]
  unfold hdE
  rw [this, if_pos he]
theorem hd4 {L0 L1 L2 L3 : Bs} {n1 n2 n3 : Nat} (h : num1 4096 L0 = (n1, L1, 0)) (h2 : num1 12288 L1 = (n2, L2, 0)) (h3 : num1 256 L2 = (n3, L3, 0)) : H3 L0 = ([n1, n2, n3], L3, 0) := by
  have a : nums [256] L2 = ([n3], L3, 0) := by rw [nums_cons, h3, if_neg (by simp)]; rfl
  have b : nums [12288, 256] L1 = ([n2, n3], L3, 0) := by rw [nums_cons, h2, a, if_neg (by simp), if_neg (by simp)]
  unfold H3
  rw [nums_cons, h, b, if_neg (by simp), if_neg (by simp)]
theorem hdE_pairs {L0 L3 : Bs} {n1 n2 n3 : Nat} (h : H3 L0 = ([n1, n2, n3], L3, 0)) : hdE L0 = (PP L0).2.2 ∧ pairs n3 (-1) (List.replicate 256 0) L3 = PP L0 := by
  unfold hdE PP
  rw [h]
  exact ⟨rfl, rfl⟩
/-- what Go's readHead leaves -/
structure Head (w w' : World) (L : Bs) (n m : Nat) (v : Value) (s' : ByteArray) : Prop where
  size : (H3 L).1.getD 0 0 = n
  most : n ≤ 4096
  packed : (H3 L).1.getD 1 0 = m
  mostp : m ≤ 12288
  row : w'.ownsRow w.heap.size 3 1 v 256 ((Hf.up (PP L).1).map Iv)
  rest : s'.data.toList = (PP L).2.1
  len : (PP L).1.length = 256
  le : ∀ n ∈ (PP L).1, n ≤ 48
end Pr

theorem row_cells {W : World} {G : Nat} {cs : List Value} {T : TypeId} (h : W.heap[G]? = some (.cells cs.toArray T (0, 0))) (i : Nat) (_hi : i < cs.length) : W.cell? ⟨G, i, none⟩ = cs[i]? ∧ W.frozen? ⟨G, i, none⟩ = false := by
  refine ⟨?_, ?_⟩
  · rw [cell_of_row _ G i _ _ _ h]; simp
  · simp [World.frozen?, h]

set_option maxHeartbeats 4000000 in
theorem rhead_any (s : ByteArray) (w : World) (hs : s.size ≤ 140737488351232) :
    Calls Try.prog 38 #[.string s] w fun e w' => ∃ (n m : Nat) (v : Value) (s' : ByteArray), e = .returned (.tuple #[.agg #[.int .i64 n, .int .i64 m, v], .string s', .int .i64 (Pr.hdE s.data.toList)]) ∧ (∃ a n c, v = .slice a n c) ∧ s'.size ≤ s.size ∧
      (Pr.hdE s.data.toList = 0 → Pr.Head w w' s.data.toList n m v s') ∧ Below w.heap.size w w' := by
  obtain ⟨W0, hW0⟩ : ∃ W0, W0 = w.alloc (.cells #[.int .i64 0, .int .i64 0, .slice none 0 0] 64) := ⟨_, rfl⟩
  have HB0 : Hid (Below w.heap.size w W0) := by rw [hW0]; exact (Below.refl _ w).alloc (Nat.le_refl _) _
  have HX0 : Hid (W0.heap[w.heap.size]? = some (.cells #[.int .i64 0, .int .i64 0, .slice none 0 0] 64 (0, 0))) := by rw [hW0]; exact heap_alloc_new w _
  have h1 := rnum_any s 4096 W0 hs (by omega) (by omega)
  obtain ⟨n1, L1, e1, hr1⟩ : ∃ n1 L1 e1, Pr.num1 4096 s.data.toList = (n1, L1, e1) := ⟨_, _, _, rfl⟩
  have hn1 := Pr.num1_le 4096 s.data.toList
  rw [show (4096 : Int).toNat = 4096 from rfl, hr1] at h1
  rw [hr1] at hn1
  dsimp only at h1 hn1
  have HR1 : Hid (Pr.num1 4096 s.data.toList = (n1, L1, e1)) := hr1
  have HN1 : Hid (n1 ≤ 4096 ∧ L1.length ≤ s.data.toList.length) := hn1
  clear hr1 hn1
  rw [hW0] at h1
  go_enter Try.func38, Try.ntmps38
  go_wp2_with fail
  refine h1.mono ?_
  rw [← hW0]
  rintro e w1 ⟨s1, rfl, hs1, hb1⟩
  clear h1 hW0
  have HB1 : Hid (Below w.heap.size w w1) := HB0.out.trans (hb1.mono HB0.out.size)
  have HX1 : Hid (w1.heap[w.heap.size]? = some (.cells #[.int .i64 0, .int .i64 0, .slice none 0 0] 64 (0, 0))) := (hb1.block _ (Array.getElem?_eq_some_iff.1 HX0.out).1).trans HX0.out
  have HS1 : Hid (s1.data.toList = L1) := hs1
  have z1 : s1.size ≤ s.size := by rw [Lib.size_eq, Lib.size_eq, hs1]; exact HN1.out.2
  clear HX0 HB0 hs1 hb1
  by_cases x1 : e1 = 0
  case neg =>
    have hq : (e1 != 0) = true := by simpa using x1
    have HE : Hid (Pr.hdE s.data.toList = e1) := Pr.hd1 HR1.out x1
    obtain ⟨c0, f0⟩ := row_cells (cs := [.int .i64 0, .int .i64 0, .slice none 0 0]) HX1.out 0 (by simp)
    obtain ⟨c1, f1⟩ := row_cells (cs := [.int .i64 0, .int .i64 0, .slice none 0 0]) HX1.out 1 (by simp)
    obtain ⟨c2, f2⟩ := row_cells (cs := [.int .i64 0, .int .i64 0, .slice none 0 0]) HX1.out 2 (by simp)
    clear HX1
    go_wp2_with fail
    refine bodyPost_ret (v := .tuple #[.agg #[.int .i64 0, .int .i64 0, .slice none 0 0], .string ⟨#[]⟩, .int .i64 e1]) ?_ rfl
      ⟨0, 0, .slice none 0 0, ⟨#[]⟩, by rw [HE.out]; rfl, ⟨_, _, _, rfl⟩, Nat.zero_le _, fun h => absurd (HE.out.symm.trans h) x1, ((HB1.out.setCell (Nat.le_refl _) _).setCell (Nat.le_refl _) _).setCell (Nat.le_refl _) _⟩
    simp [results, asAddr, go_sem, c0, c1, c2]
  subst x1
  have h2 := rnum_any s1 12288 w1 (by omega) (by omega) (by omega)
  obtain ⟨n2, L2, e2, hr2⟩ : ∃ n2 L2 e2, Pr.num1 12288 s1.data.toList = (n2, L2, e2) := ⟨_, _, _, rfl⟩
  have hn2 := Pr.num1_le 12288 s1.data.toList
  rw [show (12288 : Int).toNat = 12288 from rfl, hr2] at h2
  rw [hr2] at hn2
  dsimp only at h2 hn2
  have HR2 : Hid (Pr.num1 12288 L1 = (n2, L2, e2)) := by rw [← HS1.out]; exact hr2
  have HN2 : Hid (n2 ≤ 12288 ∧ L2.length ≤ s1.data.toList.length) := hn2
  clear hr2 hn2
  go_wp2_with fail
  refine h2.mono ?_
  rintro e w2 ⟨s2, rfl, hs2, hb2⟩
  clear h2
  have HB2 : Hid (Below w.heap.size w w2) := HB1.out.trans (hb2.mono HB1.out.size)
  have HX2 : Hid (w2.heap[w.heap.size]? = some (.cells #[.int .i64 0, .int .i64 0, .slice none 0 0] 64 (0, 0))) := (hb2.block _ (Array.getElem?_eq_some_iff.1 HX1.out).1).trans HX1.out
  have HS2 : Hid (s2.data.toList = L2) := hs2
  have z2 : s2.size ≤ s.size := by
    have : s2.size ≤ s1.size := by rw [Lib.size_eq, Lib.size_eq, hs2]; exact HN2.out.2
    omega
  clear HX1 HB1 hs2 hb2
  by_cases x2 : e2 = 0
  case neg =>
    have hq : (e2 != 0) = true := by simpa using x2
    have HE : Hid (Pr.hdE s.data.toList = e2) := Pr.hd2 HR1.out HR2.out x2
    obtain ⟨c0, f0⟩ := row_cells (cs := [.int .i64 0, .int .i64 0, .slice none 0 0]) HX2.out 0 (by simp)
    obtain ⟨c1, f1⟩ := row_cells (cs := [.int .i64 0, .int .i64 0, .slice none 0 0]) HX2.out 1 (by simp)
    obtain ⟨c2, f2⟩ := row_cells (cs := [.int .i64 0, .int .i64 0, .slice none 0 0]) HX2.out 2 (by simp)
    clear HX2
    go_wp2_with fail
    refine bodyPost_ret (v := .tuple #[.agg #[.int .i64 0, .int .i64 0, .slice none 0 0], .string ⟨#[]⟩, .int .i64 e2]) ?_ rfl
      ⟨0, 0, .slice none 0 0, ⟨#[]⟩, by rw [HE.out]; rfl, ⟨_, _, _, rfl⟩, Nat.zero_le _, fun h => absurd (HE.out.symm.trans h) x2, ((HB2.out.setCell (Nat.le_refl _) _).setCell (Nat.le_refl _) _).setCell (Nat.le_refl _) _⟩
    simp [results, asAddr, go_sem, c0, c1, c2]
  subst x2
  have h3 := rnum_any s2 256 w2 (by omega) (by omega) (by omega)
  obtain ⟨n3, L3, e3, hr3⟩ : ∃ n3 L3 e3, Pr.num1 256 s2.data.toList = (n3, L3, e3) := ⟨_, _, _, rfl⟩
  have hn3 := Pr.num1_le 256 s2.data.toList
  rw [show (256 : Int).toNat = 256 from rfl, hr3] at h3
  rw [hr3] at hn3
  dsimp only at h3 hn3
  have HR3 : Hid (Pr.num1 256 L2 = (n3, L3, e3)) := by rw [← HS2.out]; exact hr3
  have HN3 : Hid (n3 ≤ 256 ∧ L3.length ≤ s2.data.toList.length) := hn3
  clear hr3 hn3
  go_wp2_with fail
  refine h3.mono ?_
  rintro e w3 ⟨s3, rfl, hs3, hb3⟩
  clear h3
  have HB3 : Hid (Below w.heap.size w w3) := HB2.out.trans (hb3.mono HB2.out.size)
  have HX3 : Hid (w3.heap[w.heap.size]? = some (.cells #[.int .i64 0, .int .i64 0, .slice none 0 0] 64 (0, 0))) := (hb3.block _ (Array.getElem?_eq_some_iff.1 HX2.out).1).trans HX2.out
  have HS3 : Hid (s3.data.toList = L3) := hs3
  have z3 : s3.size ≤ s.size := by
    have : s3.size ≤ s2.size := by rw [Lib.size_eq, Lib.size_eq, hs3]; exact HN3.out.2
    omega
  clear HX2 HB2 hs3 hb3
  by_cases x3 : e3 = 0
  case neg =>
    have hq : (e3 != 0) = true := by simpa using x3
    have HE : Hid (Pr.hdE s.data.toList = e3) := Pr.hd3 HR1.out HR2.out HR3.out x3
    obtain ⟨c0, f0⟩ := row_cells (cs := [.int .i64 0, .int .i64 0, .slice none 0 0]) HX3.out 0 (by simp)
    obtain ⟨c1, f1⟩ := row_cells (cs := [.int .i64 0, .int .i64 0, .slice none 0 0]) HX3.out 1 (by simp)
    obtain ⟨c2, f2⟩ := row_cells (cs := [.int .i64 0, .int .i64 0, .slice none 0 0]) HX3.out 2 (by simp)
    clear HX3
    go_wp2_with fail
    refine bodyPost_ret (v := .tuple #[.agg #[.int .i64 0, .int .i64 0, .slice none 0 0], .string ⟨#[]⟩, .int .i64 e3]) ?_ rfl
      ⟨0, 0, .slice none 0 0, ⟨#[]⟩, by rw [HE.out]; rfl, ⟨_, _, _, rfl⟩, Nat.zero_le _, fun h => absurd (HE.out.symm.trans h) x3, ((HB3.out.setCell (Nat.le_refl _) _).setCell (Nat.le_refl _) _).setCell (Nat.le_refl _) _⟩
    simp [results, asAddr, go_sem, c0, c1, c2]
  subst x3
  have hH := Pr.hd4 HR1.out HR2.out HR3.out
  obtain ⟨hE, hP⟩ := Pr.hdE_pairs hH
  have HH : Hid (Pr.H3 s.data.toList = ([n1, n2, n3], L3, 0)) := hH
  have hN3 := HN3.out.1
  have h4 := rlens_any s3 n3 w3 (by omega) hN3 (Pr.PP s.data.toList) (by rw [HS3.out]; exact hP)
  have HE : Hid (Pr.hdE s.data.toList = (Pr.PP s.data.toList).2.2) := hE
  clear hH hE hP
  obtain ⟨r, q, e4, hPP⟩ : ∃ r q e4, Pr.PP s.data.toList = (r, q, e4) := ⟨_, _, _, rfl⟩
  rw [hPP] at h4 HE
  have HPP : Hid (Pr.PP s.data.toList = (r, q, e4)) := hPP
  clear hPP
  dsimp only at h4 HE
  go_wp2_with fail
  refine h4.mono ?_
  rintro e w4 ⟨v4, s4, rfl, ⟨va, vn, vc, rfl⟩, z4, hL, hb4⟩
  clear h4
  have HL : Hid (e4 = 0 → Pr.Lens w3 w4 (r, q, e4) (.slice va vn vc) s4) := hL
  have HZ3 : Hid (w.heap.size < w3.heap.size) := (Array.getElem?_eq_some_iff.1 HX3.out).1
  have HB4 : Hid (Below w.heap.size w w4) := HB3.out.trans (hb4.mono HB3.out.size)
  have HX4 : Hid (w4.heap[w.heap.size]? = some (.cells #[.int .i64 0, .int .i64 0, .slice none 0 0] 64 (0, 0))) := (hb4.block _ (Array.getElem?_eq_some_iff.1 HX3.out).1).trans HX3.out
  clear HX3 HB3 hb4 hL
  by_cases x4 : e4 = 0
  case neg =>
    have hq : (e4 != 0) = true := by simpa using x4
    obtain ⟨c0, f0⟩ := row_cells (cs := [.int .i64 0, .int .i64 0, .slice none 0 0]) HX4.out 0 (by simp)
    obtain ⟨c1, f1⟩ := row_cells (cs := [.int .i64 0, .int .i64 0, .slice none 0 0]) HX4.out 1 (by simp)
    obtain ⟨c2, f2⟩ := row_cells (cs := [.int .i64 0, .int .i64 0, .slice none 0 0]) HX4.out 2 (by simp)
    clear HX4
    go_wp2_with fail
    refine bodyPost_ret (v := .tuple #[.agg #[.int .i64 0, .int .i64 0, .slice none 0 0], .string ⟨#[]⟩, .int .i64 e4]) ?_ rfl
      ⟨0, 0, .slice none 0 0, ⟨#[]⟩, by rw [HE.out]; rfl, ⟨_, _, _, rfl⟩, Nat.zero_le _, fun h => absurd (HE.out.symm.trans h) x4, ((HB4.out.setCell (Nat.le_refl _) _).setCell (Nat.le_refl _) _).setCell (Nat.le_refl _) _⟩
    simp [results, asAddr, go_sem, c0, c1, c2]
  subst x4
  obtain ⟨c0, f0⟩ := row_cells (cs := [.int .i64 0, .int .i64 0, .slice none 0 0]) HX4.out 0 (by simp)
  obtain ⟨c1, f1⟩ := row_cells (cs := [.int .i64 0, .int .i64 0, .slice none 0 0]) HX4.out 1 (by simp)
  obtain ⟨c2, f2⟩ := row_cells (cs := [.int .i64 0, .int .i64 0, .slice none 0 0]) HX4.out 2 (by simp)
  clear HX4
  go_wp2_with fail
  refine bodyPost_ret (v := .tuple #[.agg #[.int .i64 n1, .int .i64 n2, .slice va vn vc], .string s4, .int .i64 0]) ?_ rfl
    ⟨n1, n2, .slice va vn vc, s4, by rw [HE.out], ⟨_, _, _, rfl⟩, by omega, fun _ => ?_, ((HB4.out.setCell (Nat.le_refl _) _).setCell (Nat.le_refl _) _).setCell (Nat.le_refl _) _⟩
  · simp [results, asAddr, go_sem, c0, c1, c2]
  · obtain ⟨r1, r2, r3, r4⟩ := HL.out (by simp)
    have hk : Kept (fun k => k ≠ w.heap.size) w4 (((w4.setCell ⟨w.heap.size, 0, none⟩ (.int .i64 n1)).setCell ⟨w.heap.size, 1, none⟩ (.int .i64 n2)).setCell ⟨w.heap.size, 2, none⟩ (.slice va vn vc)) := (((Kept.refl _ _).setCell (by simp) _).setCell (by simp) _).setCell (by simp) _
    refine ⟨by rw [HH.out]; rfl, HN1.out.1, by rw [HH.out]; rfl, HN2.out.1, ?_, by rw [HPP.out]; exact r2, by rw [HPP.out]; exact r3, by rw [HPP.out]; exact r4⟩
    rw [HPP.out]
    refine row_lower (own_kept r1 hk fun g hg => ?_) (Nat.le_of_lt HZ3.out)
    obtain ⟨_, _, hb⟩ := own_block r1 hg
    have := HZ3.out
    omega
end Go.Proofs.Ytgdkfaphbbdnbaa

namespace Go.Proofs.Ytgdkfaphbbdnbaa
open Go.RowKit
set_option maxRecDepth 4000

/-- a reader of bits in a block of its own -/
def BR (W : World) (R : Nat) (s : ByteArray) (p : Nat) : Prop := W.heap[R]? = some (.cells #[.string s, .int .i64 p] 114 (0, 0))
theorem BR.cells {W : World} {R : Nat} {s : ByteArray} {p : Nat} (h : BR W R s p) : W.cell? ⟨R, 0, none⟩ = some (.string s) ∧ W.cell? ⟨R, 1, none⟩ = some (.int .i64 p) ∧ W.frozen? ⟨R, 1, none⟩ = false ∧ R < W.heap.size := by
  refine ⟨?_, ?_, ?_, (Array.getElem?_eq_some_iff.1 h).1⟩
  · rw [cell_of_row _ R 0 _ _ _ h]; rfl
  · rw [cell_of_row _ R 1 _ _ _ h]; rfl
  · simp [World.frozen?, show W.heap[R]? = _ from h]
theorem BR.kept {q : Nat → Prop} {W W' : World} {R : Nat} {s : ByteArray} {p : Nat} (h : BR W R s p) (hk : Kept q W W') (hR : q R) : BR W' R s p := hk.obj hR h
theorem BR.step {W : World} {R : Nat} {s : ByteArray} {p : Nat} (h : BR W R s p) (q : Nat) : BR (W.setCell ⟨R, 1, none⟩ (.int .i64 (q : Int))) R s q := by
  unfold BR at h ⊢
  rw [heap_setCell_same _ _ _ _ _ _ h]
  rfl
namespace Pr
/-- one bit of a text -/
def bt (s : ByteArray) (p : Nat) : Nat := (s.data.toList.getD (p / 8) 0).toNat / 2 ^ (7 - p % 8) % 2
end Pr
theorem i64_and_one (n : Nat) (h : n < 9223372036854775808) : bits .and .i64 (n : Int) 1 = ((n % 2 : Nat) : Int) := by
  show IntKind.i64.wrap ((BitVec.ofInt 64 (n : Int) &&& BitVec.ofInt 64 ((1 : Nat) : Int)).toNat : Int) = _
  rw [BitVec.toNat_and, ofInt_u64 n (by omega), ofInt_u64 1 (by omega), Nat.and_one_is_mod]
  simp [IntKind.wrap, IntKind.bits, IntKind.signed]
  omega
theorem bt_walk (s : ByteArray) (p q : Nat) (hq : q = p / 8) (h : q < s.size) : bits BinOp.and IntKind.i64 ((s[q].toNat : Int) / 2 ^ (7 - p % 8)) 1 = (Pr.bt s p : Int) := by
  have hb := s[q].toNat_lt
  have e : ((s[q].toNat : Int) / 2 ^ (7 - p % 8)) = ((s[q].toNat / 2 ^ (7 - p % 8) : Nat) : Int) := by simp
  have hd := Nat.div_le_self s[q].toNat (2 ^ (7 - p % 8))
  rw [e, i64_and_one _ (by omega)]
  unfold Pr.bt
  rw [← hq, List.getD_eq_getElem?_getD, byte_get s q h]
  rfl

set_option maxHeartbeats 1000000 in
theorem take_none (R : Nat) (s : ByteArray) (p : Nat) (w : World) (h : BR w R s p) (hs : s.size ≤ 140737488351232) (hp : p = 8 * s.size) :
    Calls Try.prog 92 #[.pointer (some ⟨R, 0, none⟩)] w fun e w' => e = .returned (.tuple #[.int .i64 0, .bool false]) ∧ Below w.heap.size w w' := by
  obtain ⟨c0, c1, f1, hR⟩ := h.cells
  have hq : ((p : Int) == 8 * (s.size : Int)) = true := by rw [beq_iff_eq]; omega
  have hp2 : p ≤ 1125899906809856 := by omega
  clear h hp
  go_enter Try.func92, Try.ntmps92
  go_wp2_with fail
  go_quiet (fail)
  go_wp2_with fail
  go_ret2
  exact ⟨rfl, below_drewN (Below.refl _ _) _⟩

set_option maxHeartbeats 1000000 in
theorem take_some (R : Nat) (s : ByteArray) (p : Nat) (w : World) (h : BR w R s p) (hs : s.size ≤ 140737488351232) (hp : p < 8 * s.size) :
    Calls Try.prog 92 #[.pointer (some ⟨R, 0, none⟩)] w fun e w' => e = .returned (.tuple #[.int .i64 (Pr.bt s p), .bool true]) ∧ BR w' R s (p + 1) ∧ Kept (fun k => k ≠ R) w w' := by
  obtain ⟨c0, c1, f1, hR⟩ := h.cells
  have hq : ((p : Int) == 8 * (s.size : Int)) = false := by rw [beq_eq_false_iff_ne]; omega
  have hp2 : p ≤ 1125899906809856 := by omega
  have HBR : Hid (BR w R s p) := h
  clear h
  go_enter Try.func92, Try.ntmps92
  go_wp2_with fail
  go_quiet (fail)
  obtain ⟨q, hq8⟩ : ∃ q, q = p / 8 := ⟨_, rfl⟩
  have i1 : (p : Int) / 8 = (q : Int) := by omega
  have i2 : q < s.size := by omega
  have i3 : (q : Int) < (s.size : Int) := by omega
  have HQ : Hid (q = p / 8) := hq8
  clear hq8 hp
  have b0 := s[q].toNat_lt
  have HBT : Hid (bits BinOp.and IntKind.i64 ((s[q].toNat : Int) / 2 ^ (7 - p % 8)) 1 = (Pr.bt s p : Int)) := bt_walk s p q HQ.out i2
  go_wp2_with fail
  refine wp_region_quiet_lit (by kernel_rfl) (by kernel_rfl) ?_
  repeat (go_big_quiet_step (fail))
  refine wpQuiet_nil ?_
  rintro w' ⟨nq', rfl⟩
  go_wp2_with fail
  go_ret2
  refine ⟨by rw [HBT.out]; rfl, ?_, ?_⟩
  · exact BR.step (W := w.drewN (nq + nq')) (HBR.out.kept (q := fun _ => True) (Kept.of_below (below_drewN (Below.refl _ _) _)) trivial) (p + 1)
  · exact Kept.setCell (p := fun k => k ≠ R) (Kept.of_below (below_drewN (Below.refl _ _) _)) (fun h => h rfl) _
/-- a bit that was taken, or none -/
def Took (W : World) (R : Nat) (s : ByteArray) (p : Nat) (b : Nat) (t : Bool) : Prop := (p < 8 * s.size ∧ t = true ∧ b = Pr.bt s p ∧ BR W R s (p + 1)) ∨ (p = 8 * s.size ∧ t = false ∧ b = 0 ∧ BR W R s p)
theorem btake_any (R : Nat) (s : ByteArray) (p : Nat) (w : World) (h : BR w R s p) (hs : s.size ≤ 140737488351232) (hp : p ≤ 8 * s.size) :
    Calls Try.prog 92 #[.pointer (some ⟨R, 0, none⟩)] w fun e w' => ∃ (b : Nat) (t : Bool), e = .returned (.tuple #[.int .i64 b, .bool t]) ∧ Took w' R s p b t ∧ Kept (fun k => k ≠ R) w w' := by
  by_cases hend : p = 8 * s.size
  · refine (take_none R s p w h hs hend).mono ?_
    rintro e w' ⟨rfl, hb⟩
    exact ⟨0, false, rfl, .inr ⟨hend, rfl, rfl, h.kept (q := fun _ => True) (Kept.of_below hb) trivial⟩, Kept.of_below hb⟩
  · refine (take_some R s p w h hs (by omega)).mono ?_
    rintro e w' ⟨rfl, hb, hk⟩
    exact ⟨_, true, rfl, .inl ⟨by omega, rfl, rfl, hb⟩, hk⟩
def brPos (w : World) (R : Nat) : Nat := match w.cell? ⟨R, 1, none⟩ with
  | some (.int _ n) => n.toNat
  | _ => 0
theorem BR.pos {W : World} {R : Nat} {s : ByteArray} {p : Nat} (h : BR W R s p) : brPos W R = p := by
  unfold brPos
  rw [h.cells.2.1]
  rfl
def boolN (t : Value) : Nat := match t with
  | .bool true => 1
  | _ => 0

namespace Pr
/-- the bits of a text -/
def bitsS (s : ByteArray) : List Bool := bitsB (dnB s.data.toList)
theorem bitsS_length (s : ByteArray) : (bitsS s).length = 8 * s.size := by
  unfold bitsS dnB
  rw [bitsB_length, List.length_map, ← Lib.size_eq]
theorem bitsS_get (s : ByteArray) (p : Nat) (h : p < 8 * s.size) : (bitsS s)[p]? = some (decide (bt s p = 1)) := by
  have hl : (dnB s.data.toList).length = s.size := by unfold dnB; rw [List.length_map, ← Lib.size_eq]
  unfold bitsS bt
  rw [bitsB_get (by rw [hl]; exact h)]
  unfold dnB
  rw [List.getD_eq_getElem?_getD, List.getD_eq_getElem?_getD, List.getElem?_map]
  cases e : s.data.toList[p / 8]? with
  | none => rfl
  | some b => rfl
theorem bt_lt (s : ByteArray) (p : Nat) : bt s p < 2 := Nat.mod_lt _ (by omega)
theorem bitsS_drop (s : ByteArray) (p : Nat) (h : p < 8 * s.size) : (bitsS s).drop p = decide (bt s p = 1) :: (bitsS s).drop (p + 1) := by
  rw [List.drop_eq_getElem_cons (by rw [bitsS_length]; exact h)]
  have := bitsS_get s p h
  rw [List.getElem?_eq_getElem (by rw [bitsS_length]; exact h)] at this
  rw [Option.some.inj this]
/-- nothing left but filling -/
theorem clean_more (s : ByteArray) (p : Nat) (h : (p + 7) / 8 < s.size) : clean ((bitsS s).drop p) = false := by
  have hl : ((bitsS s).drop p).length = 8 * s.size - p := by rw [List.length_drop, bitsS_length]
  unfold clean
  rw [hl, decide_eq_false (by omega), Bool.false_and]
theorem clean_few (s : ByteArray) (p : Nat) (h : ¬ (p + 7) / 8 < s.size) : clean ((bitsS s).drop p) = ((bitsS s).drop p).all fun b => !b := by
  have hl : ((bitsS s).drop p).length = 8 * s.size - p := by rw [List.length_drop, bitsS_length]
  unfold clean
  rw [hl, decide_eq_true (by omega), Bool.true_and]
theorem all_one (s : ByteArray) (p : Nat) (h : p < 8 * s.size) (hb : bt s p = 1) : (((bitsS s).drop p).all fun b => !b) = false := by
  rw [bitsS_drop s p h, List.all_cons, hb]
  rfl
theorem all_zero (s : ByteArray) (p : Nat) (h : p < 8 * s.size) (hb : bt s p ≠ 1) : (((bitsS s).drop p).all fun b => !b) = (((bitsS s).drop (p + 1)).all fun b => !b) := by
  rw [bitsS_drop s p h, List.all_cons, decide_eq_false hb]
  rfl
theorem all_none (s : ByteArray) (p : Nat) (h : 8 * s.size ≤ p) : (((bitsS s).drop p).all fun b => !b) = true := by
  rw [List.drop_eq_nil_of_le (by rw [bitsS_length]; exact h)]
  rfl
end Pr

set_option maxHeartbeats 2000000 in
theorem fill_any (R : Nat) (s : ByteArray) (p : Nat) (w : World) (h : BR w R s p) (hs : s.size ≤ 140737488351232) (hp : p ≤ 8 * s.size) :
    Calls Try.prog 72 #[.pointer (some ⟨R, 0, none⟩)] w fun e w' => e = .returned (.bool (Pr.clean ((Pr.bitsS s).drop p))) ∧ Kept (fun k => k ≠ R) w w' := by
  obtain ⟨c0, c1, f1, hR⟩ := h.cells
  have hp2 : p ≤ 1125899906809856 := by omega
  by_cases hmore : (p + 7) / 8 < s.size
  · have HC : Hid (Pr.clean ((Pr.bitsS s).drop p) = false) := Pr.clean_more s p hmore
    have hq : decide (((p : Int) + 8 - 1) / 8 < (s.size : Int)) = true := decide_eq_true (by omega)
    clear h hmore
    go_enter Try.func72, Try.ntmps72
    go_wp2_with fail
    go_ret
    exact ⟨by rw [HC.out]; rfl, Kept.refl _ _⟩
  have HC : Hid (Pr.clean ((Pr.bitsS s).drop p) = ((Pr.bitsS s).drop p).all fun b => !b) := Pr.clean_few s p hmore
  have hq : decide (((p : Int) + 8 - 1) / 8 < (s.size : Int)) = false := decide_eq_false (by omega)
  obtain ⟨A, hA⟩ : ∃ A, (((Pr.bitsS s).drop p).all fun b => !b) = A := ⟨_, rfl⟩
  rw [hA] at HC
  have HA : Hid ((((Pr.bitsS s).drop p).all fun b => !b) = A) := hA
  have HBR : Hid (BR w R s p) := h
  clear hmore hA h
  have ht := btake_any R s p w HBR.out hs hp
  go_enter Try.func72, Try.ntmps72
  go_wp2_with fail
  refine ht.mono ?_
  rintro e w1 ⟨b, t, rfl, htk, hk1⟩
  clear c0 c1 f1 ht hq
  have HT1 : Hid (Took w1 R s p b t) := htk
  have HK1 : Hid (Kept (fun k => k ≠ R) w w1) := hk1
  clear htk hk1
  go_wp2_with fail
  go_loopw [4, 5] (fun bv tv wr => ∃ (q b : Nat) (t : Bool), q ≤ 8 * s.size ∧ bv = .int .i64 b ∧ tv = .bool t ∧ Hid (Took wr R s q b t) ∧ Hid ((((Pr.bitsS s).drop q).all fun b => !b) = A) ∧ Hid (Kept (fun k => k ≠ R) w wr)) (fun _ tv wr => (8 * s.size - brPos wr R) + boolN tv)
  case atStart => exact ⟨p, b, t, hp, rfl, rfl, HT1, HA, HK1⟩
  case round =>
    clear HBR HT1 HK1
    obtain ⟨q, b, t, hq, rfl, rfl, htk, hall, hk⟩ := hrel
    rcases htk.out with ⟨h1, rfl, hbt, hbr⟩ | ⟨h1, rfl, hbt, hbr⟩
    · by_cases h2 : Pr.bt s q = 1
      · have HAF : Hid (A = false) := by show A = false; rw [← hall.out]; exact Pr.all_one s q h1 h2
        have hne : ((b : Int) != 0) = true := by rw [bne_iff_ne]; omega
        clear hall hbt h2 htk hbr
        go_wp2_with fail
        go_ret
        exact ⟨by rw [HC.out, HAF.out]; rfl, hk.out⟩
      · have hlt := Pr.bt_lt s q
        have hne : ((b : Int) != 0) = false := by rw [bne_eq_false_iff_eq]; omega
        have HN : Hid ((((Pr.bitsS s).drop (q + 1)).all fun b => !b) = A) := by show _ = A; rw [← hall.out]; exact (Pr.all_zero s q h1 h2).symm
        have HP : Hid (brPos wr R = q + 1) := hbr.pos
        have ht := btake_any R s (q + 1) wr hbr hs (by omega)
        clear hall hbt h2 htk hbr hlt
        go_wp2_with fail
        refine ht.mono ?_
        rintro e w2 ⟨b2, t2, rfl, htk, hk2⟩
        have HT2 : Hid (Took w2 R s (q + 1) b2 t2) := htk
        have HK2 : Hid (Kept (fun k => k ≠ R) w w2) := hk.out.trans hk2
        have HM : Hid ((8 * s.size - brPos w2 R) + boolN (.bool t2) < (8 * s.size - brPos wr R) + boolN (.bool true)) := by
          show _ < _
          rw [HP.out]
          rcases htk with ⟨g1, rfl, _, g2⟩ | ⟨g1, rfl, _, g2⟩
          · rw [g2.pos]; show _ + 1 < _ + 1; omega
          · rw [g2.pos]; show _ + 0 < _ + 1; omega
        clear htk hk2 ht hk
        go_wp2_with fail
        go_roundw
        case rel => exact ⟨q + 1, b2, t2, by omega, rfl, rfl, HT2, HN, HK2⟩
        case measure => exact HM.out
    · have HAT : Hid (A = true) := by show A = true; rw [← hall.out]; exact Pr.all_none s q (by omega)
      clear hall hbt htk hbr
      go_wp2_with fail
      go_ret
      exact ⟨by rw [HC.out, HAT.out]; rfl, hk.out⟩
end Go.Proofs.Ytgdkfaphbbdnbaa

namespace Go.Proofs.Ytgdkfaphbbdnbaa
open Go.RowKit
set_option maxRecDepth 4000

/-- the cells of a book: for each number of bits the first code and the signs -/
def bookC (f : Nat → Nat) (V : Nat → Value) : List Value := (List.range 49).flatMap fun n => [.int .i64 (f n), V n]
theorem flat_two (a b : Nat → Value) (N : Nat) : ((List.range N).flatMap fun n => [a n, b n]).length = 2 * N ∧ ∀ i, i < 2 * N → ((List.range N).flatMap fun n => [a n, b n])[i]? = some (if i % 2 = 0 then a (i / 2) else b (i / 2)) := by
  induction N with
  | zero => exact ⟨rfl, fun i h => by omega⟩
  | succ N ih =>
    obtain ⟨h1, h2⟩ := ih
    rw [List.range_succ, List.flatMap_append]
    refine ⟨by rw [List.length_append, h1]; simp; omega, fun i hi => ?_⟩
    by_cases h : i < 2 * N
    · rw [List.getElem?_append_left (by rw [h1]; exact h), h2 i h]
    · rw [List.getElem?_append_right (by rw [h1]; omega), h1]
      by_cases e : i = 2 * N
      · subst e
        rw [Nat.sub_self, if_pos (by omega), show 2 * N / 2 = N by omega]
        rfl
      · obtain rfl : i = 2 * N + 1 := by omega
        rw [show 2 * N + 1 - 2 * N = 1 by omega, if_neg (by omega), show (2 * N + 1) / 2 = N by omega]
        rfl
theorem bookC_length (f : Nat → Nat) (V : Nat → Value) : (bookC f V).length = 98 := (flat_two _ _ 49).1
theorem bookC_get (f : Nat → Nat) (V : Nat → Value) (i : Nat) (h : i < 98) : (bookC f V)[i]? = some (if i % 2 = 0 then .int .i64 (f (i / 2)) else V (i / 2)) := (flat_two _ _ 49).2 i h
theorem bookC_first (f : Nat → Nat) (V : Nat → Value) (n : Nat) (h : n ≤ 48) : (bookC f V)[n * 2]? = some (.int .i64 (f n)) := by
  rw [bookC_get _ _ _ (by omega), if_pos (by omega), show n * 2 / 2 = n by omega]
theorem bookC_signs (f : Nat → Nat) (V : Nat → Value) (n : Nat) (h : n ≤ 48) : (bookC f V)[n * 2 + 1]? = some (V n) := by
  rw [bookC_get _ _ _ (by omega), if_neg (by omega), show (n * 2 + 1) / 2 = n by omega]
theorem bookC_set0 (f : Nat → Nat) (V : Nat → Value) (n x : Nat) : (bookC f V).set (n * 2) (.int .i64 x) = bookC (fun m => if m = n then x else f m) V := by
  refine List.ext_getElem? fun i => ?_
  by_cases h : i < 98
  · rw [List.getElem?_set, bookC_length, bookC_get _ _ _ h, bookC_get _ _ _ h]
    by_cases e : n * 2 = i
    · rw [if_pos e, if_pos (by omega), if_pos (by omega), if_pos (by omega)]
    · rw [if_neg e]
      by_cases e2 : i % 2 = 0
      · rw [if_pos e2, if_pos e2, if_neg (by omega)]
      · rw [if_neg e2, if_neg e2]
  · rw [List.getElem?_eq_none (by rw [List.length_set, bookC_length]; omega), List.getElem?_eq_none (by rw [bookC_length]; omega)]
theorem bookC_set1 (f : Nat → Nat) (V : Nat → Value) (n : Nat) (v : Value) : (bookC f V).set (n * 2 + 1) v = bookC f (fun m => if m = n then v else V m) := by
  refine List.ext_getElem? fun i => ?_
  by_cases h : i < 98
  · rw [List.getElem?_set, bookC_length, bookC_get _ _ _ h, bookC_get _ _ _ h]
    by_cases e : n * 2 + 1 = i
    · rw [if_pos e, if_pos (by omega), if_neg (by omega), if_pos (by omega)]
    · rw [if_neg e]
      by_cases e2 : i % 2 = 0
      · rw [if_pos e2, if_pos e2]
      · rw [if_neg e2, if_neg e2, if_neg (by omega)]
  · rw [List.getElem?_eq_none (by rw [List.length_set, bookC_length]; omega), List.getElem?_eq_none (by rw [bookC_length]; omega)]
theorem bookC_congr {f g : Nat → Nat} {V U : Nat → Value} (h1 : ∀ n, n ≤ 48 → f n = g n) (h2 : ∀ n, n ≤ 48 → V n = U n) : bookC f V = bookC g U := by
  refine List.ext_getElem? fun i => ?_
  by_cases h : i < 98
  · rw [bookC_get _ _ _ h, bookC_get _ _ _ h, h1 _ (by omega), h2 _ (by omega)]
  · rw [List.getElem?_eq_none (by rw [bookC_length]; omega), List.getElem?_eq_none (by rw [bookC_length]; omega)]
/-- a book as it lies in memory: what stands first and the signs, for each number of bits -/
structure BookF (W : World) (base G : Nat) (f : Nat → Nat) (S : Nat → List Nat) (V : Nat → Value) : Prop where
  box : W.heap[G]? = some (.cells (bookC f V).toArray 112 (0, 0))
  old : base ≤ G
  row : ∀ n, n ≤ 48 → W.ownsRow base 5 1 (V n) (S n).length ((Pr.upB (S n)).map B)
  apart : ∀ n m, n ≤ 48 → m ≤ 48 → n ≠ m → ∀ g, (V n).ownBlock = some g → (V m).ownBlock ≠ some g
/-- a book of the codes of lengths l, the signs below k put in -/
abbrev Book (W : World) (base G : Nat) (l : List Nat) (k : Nat) (V : Nat → Value) : Prop := BookF W base G (fun n => Pr.fst l n k) (fun n => Pr.shelf l n k) V
theorem Book.below {W W' : World} {base G : Nat} {l : List Nat} {k : Nat} {V : Nat → Value} (h : Book W base G l k V) (hb : Below W.heap.size W W') : Book W' base G l k V :=
  ⟨(hb.block _ (Array.getElem?_eq_some_iff.1 h.box).1).trans h.box, h.old, fun n hn => row_below (h.row n hn) hb, h.apart⟩
theorem Book.kept {q : Nat → Prop} {W W' : World} {base G : Nat} {l : List Nat} {k : Nat} {V : Nat → Value} (h : Book W base G l k V) (hk : Kept q W W') (hG : q G) (hV : ∀ n, n ≤ 48 → ∀ g, (V n).ownBlock = some g → q g) : Book W' base G l k V :=
  ⟨hk.obj hG h.box, h.old, fun n hn => own_kept (h.row n hn) hk (hV n hn), h.apart⟩
theorem Book.lt {W : World} {base G : Nat} {l : List Nat} {k : Nat} {V : Nat → Value} (h : Book W base G l k V) : G < W.heap.size := (Array.getElem?_eq_some_iff.1 h.box).1
theorem Book.cells {W : World} {base G : Nat} {l : List Nat} {k : Nat} {V : Nat → Value} (h : Book W base G l k V) (n : Nat) (hn : n ≤ 48) :
    W.cell? ⟨G, n * 2, none⟩ = some (.int .i64 (Pr.fst l n k : Nat)) ∧ W.cell? ⟨G, n * 2 + 1, none⟩ = some (V n) ∧ W.frozen? ⟨G, n * 2, none⟩ = false ∧ W.frozen? ⟨G, n * 2 + 1, none⟩ = false := by
  obtain ⟨a1, a2⟩ := row_cells h.box (n * 2) (by rw [bookC_length]; omega)
  obtain ⟨b1, b2⟩ := row_cells h.box (n * 2 + 1) (by rw [bookC_length]; omega)
  exact ⟨a1.trans (bookC_first _ _ n hn), b1.trans (bookC_signs _ _ n hn), a2, b2⟩
theorem upB_length (l : List Nat) : (Pr.upB l).length = l.length := by simp [Pr.upB]
theorem Book.slice {W : World} {base G : Nat} {l : List Nat} {k : Nat} {V : Nat → Value} (h : Book W base G l k V) (n : Nat) (hn : n ≤ 48) : ∃ a c, V n = .slice a (Pr.shelf l n k).length c ∧ (0 < (Pr.shelf l n k).length → ∃ g, a = some ⟨g, 0, none⟩ ∧ g < W.heap.size ∧ (V n).ownBlock = some g) := by
  rcases (h.row n hn).2 with ⟨e, h0⟩ | ⟨g, cap, cur, e, _, hh, _⟩
  · exact ⟨none, 0, by rw [e, h0], fun h => by omega⟩
  · exact ⟨_, _, e, fun _ => ⟨g, rfl, (Array.getElem?_eq_some_iff.1 hh).1, by rw [e]; rfl⟩⟩
theorem Book.sign {W : World} {base G : Nat} {l : List Nat} {k : Nat} {V : Nat → Value} (h : Book W base G l k V) {n : Nat} (hn : n ≤ 48) {g : Nat} (hg : (V n).ownBlock = some g) {t i : Nat} (ht : (Pr.shelf l n k)[t]? = some i) (hi : i < 256) : W.cell? ⟨g, t, none⟩ = some (.int .u8 i) := by
  have hr := h.row n hn
  rcases hr.2 with ⟨e, h0⟩ | ⟨g', cap, cur, e, _⟩
  · rw [e] at hg
    simp [Value.ownBlock] at hg
  · rw [e] at hg
    obtain rfl : g' = g := by simpa [Value.ownBlock] using hg
    rw [e] at hr
    have hlt := (List.getElem?_eq_some_iff.1 ht).1
    have := hr.cellAt t (by omega)
    rw [this]
    simp only [Pr.upB, List.getElem?_map, ht, Option.map_some, B]
    rw [UInt8.toNat_ofNat', Nat.mod_eq_of_lt hi]

set_option maxHeartbeats 1000000 in
theorem find_any (base G : Nat) (l : List Nat) (V : Nat → Value) (n c : Nat) (w : World) (h : Book w base G l l.length V) (g : Pr.Good l) (hl : l.length ≤ 256) (h0 : 0 < n) (hn : n ≤ 48) (hc : c ≤ 281474976710656) :
    Calls Try.prog 93 #[.pointer (some ⟨G, 0, none⟩), .int .i64 c, .int .i64 n] w fun e w' => e = .returned (.tuple #[.int .u8 ((Pr.fnd l n c).getD 0 : Nat), .bool (Pr.fnd l n c).isSome]) ∧ Below w.heap.size w w' := by
  have hf := Pr.fst_le g hn l.length
  obtain ⟨c0, c1, _, _⟩ := h.cells n hn
  obtain ⟨a, cap, hV, hg⟩ := h.slice n hn
  rw [hV] at c1
  have HF := Pr.fnd_first l n c
  have HS : Hid (∀ t i, (Pr.shelf l n l.length)[t]? = some i → i < 256) := fun t i ht => by have := (Pr.shelf_code h0 (Nat.le_refl _) ht).1; omega
  have hsl := Pr.shelf_len l n l.length
  by_cases hlt : c < Pr.fst l n l.length
  · rw [if_neg (by omega)] at HF
    rw [HF]
    generalize Pr.fst l n l.length = F at *
    clear HF hg hV h
    go_enter Try.func93, Try.ntmps93
    go_wp2_with fail
    go_ret2
    exact ⟨rfl, (Below.refl _ w).alloc (Nat.le_refl _) _⟩
  rw [if_pos (by omega)] at HF
  obtain ⟨t, ht⟩ : ∃ t, c = Pr.fst l n l.length + t := ⟨c - Pr.fst l n l.length, by omega⟩
  rw [show c - Pr.fst l n l.length = t by omega] at HF
  by_cases hlen : t < (Pr.shelf l n l.length).length
  · obtain ⟨g', rfl, hg', hob⟩ := hg (by omega)
    rw [List.getElem?_eq_getElem hlen] at HF
    have hsg := h.sign hn hob (List.getElem?_eq_getElem hlen) (HS.out t _ (List.getElem?_eq_getElem hlen))
    generalize (Pr.shelf l n l.length)[t] = i at *
    rw [HF]
    have hct : (c : Int) - (Pr.fst l n l.length : Nat) = (t : Int) := by omega
    generalize (Pr.shelf l n l.length).length = sl at *
    generalize Pr.fst l n l.length = F at *
    have hgn : g' ≠ w.heap.size := by omega
    clear HF hV h ht hlt HS hg hob
    go_enter Try.func93, Try.ntmps93
    go_wp2_with fail
    go_ret2
    exact ⟨rfl, (Below.refl _ w).alloc (Nat.le_refl _) _⟩
  · rw [List.getElem?_eq_none (by omega)] at HF
    rw [HF]
    have hct : (c : Int) - (Pr.fst l n l.length : Nat) = (t : Int) := by omega
    generalize (Pr.shelf l n l.length).length = sl at *
    generalize Pr.fst l n l.length = F at *
    clear HF hV h ht hlt HS hg
    go_enter Try.func93, Try.ntmps93
    go_wp2_with fail
    go_ret2
    exact ⟨rfl, (Below.refl _ w).alloc (Nat.le_refl _) _⟩
end Go.Proofs.Ytgdkfaphbbdnbaa

namespace Go.Proofs.Ytgdkfaphbbdnbaa
open Go.RowKit
set_option maxRecDepth 4000

theorem i64_or_bit (c b : Nat) (hc : c < 1152921504606846976) (hb : b < 2) : bits .or .i64 ((c : Int) * 2) (b : Int) = ((2 * c + b : Nat) : Int) := by
  rw [show (c : Int) * 2 = ((c * 2 : Nat) : Int) from by omega]
  show IntKind.i64.wrap ((BitVec.ofInt 64 ((c * 2 : Nat) : Int) ||| BitVec.ofInt 64 (b : Int)).toNat : Int) = _
  have e : c * 2 ||| b = 2 * c + b := by
    have := Nat.two_pow_add_eq_or_of_lt (i := 1) (b := b) hb c
    rw [Nat.mul_comm]
    exact this.symm
  rw [BitVec.toNat_or, ofInt_u64 (c * 2) (by omega), ofInt_u64 b (by omega), e]
  simp [IntKind.wrap, IntKind.bits, IntKind.signed]
  omega
namespace Pr
def sgnV (l : List Nat) (b : List Bool) : Nat := (front l b).getD 0
def sgnE (l : List Nat) (b : List Bool) : Int := match front l b with
  | some _ => 0
  | none => if 48 ≤ b.length then 4 else 3
/-- one bit more -/
theorem val_more {s : ByteArray} {p k : Nat} (h : p + k < 8 * s.size) : val (((bitsS s).drop p).take (k + 1)) = 2 * val (((bitsS s).drop p).take k) + bt s (p + k) := by
  have hl : k < ((bitsS s).drop p).length := by rw [List.length_drop, bitsS_length]; omega
  have hg := bitsS_get s (p + k) h
  have hb := bt_lt s (p + k)
  rw [List.take_add_one, List.getElem?_drop, hg]
  show val (_ ++ [_]) = _
  rw [val_snoc]
  by_cases e : bt s (p + k) = 1
  · rw [e]; rfl
  · rw [decide_eq_false e]
    simp only [Bool.false_eq_true, if_false]
    omega
end Pr
/-- a book and a reader that lie apart -/
theorem Book.apart_br {W : World} {base G : Nat} {l : List Nat} {k : Nat} {V : Nat → Value} (h : Book W base G l k V) {R p : Nat} {s : ByteArray} (hb : BR W R s p) : G ≠ R ∧ ∀ n, n ≤ 48 → ∀ g, (V n).ownBlock = some g → g ≠ R := by
  refine ⟨fun e => ?_, fun n hn g hg e => ?_⟩
  · subst e
    have := h.box.symm.trans hb
    simp at this
  · subst e
    obtain ⟨cur, hc, _⟩ := own_block (h.row n hn) hg
    have := hc.symm.trans hb
    simp at this

set_option maxHeartbeats 2000000 in
theorem rsign_any (base G R : Nat) (l : List Nat) (V : Nat → Value) (s : ByteArray) (p : Nat) (w : World) (h : Book w base G l l.length V) (g : Pr.Good l) (hl : l.length ≤ 256) (hbr : BR w R s p) (hs : s.size ≤ 140737488351232) (hp : p ≤ 8 * s.size)
    (Q : List Bool) (hQ : (Pr.bitsS s).drop p = Q) :
    Calls Try.prog 71 #[.pointer (some ⟨G, 0, none⟩), .pointer (some ⟨R, 0, none⟩)] w fun e w' => e = .returned (.tuple #[.int .u8 (Pr.sgnV l Q), .int .i64 (Pr.sgnE l Q)]) ∧ Kept (fun k => k ≠ R) w w' ∧ ∀ i, Pr.front l Q = some i → BR w' R s (p + l.getD i 0) := by
  have HQL : Hid (Q.length = 8 * s.size - p) := by show _ = _; rw [← hQ, List.length_drop, Pr.bitsS_length]
  have HVM : Hid (∀ k, p + k < 8 * s.size → Pr.val (Q.take (k + 1)) = 2 * Pr.val (Q.take k) + Pr.bt s (p + k)) := by rw [← hQ]; exact fun k hk => Pr.val_more hk
  have HBK : Hid (Book w base G l l.length V) := h
  have HBR : Hid (BR w R s p) := hbr
  have HAP : Hid (G ≠ R ∧ ∀ n, n ≤ 48 → ∀ g, (V n).ownBlock = some g → g ≠ R) := h.apart_br hbr
  have HG : Hid (Pr.Good l) := g
  clear hQ h hbr g
  go_enter Try.func71, Try.ntmps71
  go_wp2_with fail
  go_loopw [6, 7] (fun cv nv wr => ∃ k : Nat, k ≤ 48 ∧ k ≤ 8 * s.size - p ∧ nv = .int .i64 ((k : Int) + 1) ∧ cv = .int .i64 (Pr.val (Q.take k) : Nat) ∧ Hid (BR wr R s (p + k)) ∧ Hid (Pr.Not l Q k) ∧ Hid (Kept (fun k => k ≠ R) w wr)) (fun _ nv _ => 49 - (intOf nv).toNat)
  case atStart => exact ⟨0, by omega, by omega, rfl, rfl, HBR, Pr.Not.start _ _, Kept.refl _ _⟩
  case round =>
    obtain ⟨k, hk, hkp, rfl, rfl, hbr, hnot, hkept⟩ := hrel
    by_cases hlt : k < 48
    · have ht := btake_any R s (p + k) wr hbr.out hs (by omega)
      have hv := Pr.val_take_lt Q k
      have hv2 : Pr.val (Q.take k) < 281474976710656 := Nat.lt_of_lt_of_le hv (Nat.pow_le_pow_right (by omega : 2 > 0) hk)
      have HV1 := HVM.out k
      clear hv
      generalize hC : Pr.val (Q.take k) = C at *
      clear hC
      go_wp2_with fail
      refine ht.mono ?_
      rintro e w1 ⟨b, t, rfl, htk, hk1⟩
      have HK1 : Hid (Kept (fun k => k ≠ R) w w1) := hkept.out.trans hk1
      clear ht hk1 hkept
      rcases htk with ⟨h1, rfl, hbt, hb1⟩ | ⟨h1, rfl, hbt, hb1⟩
      · have hb2 := Pr.bt_lt s (p + k)
        rw [← hbt] at hb2
        have HV2 : Hid (Pr.val (Q.take (k + 1)) = 2 * C + b) := by show _ = _; rw [HV1 h1, hbt]
        have hor := i64_or_bit C b (by omega) hb2
        have hv3 : 2 * C + b ≤ 281474976710656 := by
          have := Pr.val_take_lt Q (k + 1)
          rw [HV2.out] at this
          exact Nat.le_of_lt (Nat.lt_of_lt_of_le this (Nat.pow_le_pow_right (by omega : 2 > 0) (by omega : k + 1 ≤ 48)))
        have HB1 : Hid (BR w1 R s (p + (k + 1))) := hb1
        have hf := find_any base G l V (k + 1) (2 * C + b) w1 (HBK.out.kept HK1.out HAP.out.1 HAP.out.2) HG.out hl (by omega) (by omega) hv3
        have ek : ((k + 1 : Nat) : Int) = (k : Int) + 1 := by omega
        rw [ek] at hf
        generalize hD : 2 * C + b = D at *
        clear ek hbt hD HV1 hb1 hbr
        cases hF : Pr.fnd l (k + 1) D with
        | some i =>
          rw [hF] at hf
          dsimp only [Option.getD, Option.isSome] at hf
          obtain ⟨i1, i2, i3⟩ := Pr.fnd_some (by omega) hF
          have hfr : Pr.front l Q = some i := Pr.front_hit HG.out (k := k + 1) (by rw [HQL.out]; omega) i1 (by omega) i2 (by rw [HV2.out]; exact i3)
          have HSV : Hid (Pr.sgnV l Q = i) := by show (Pr.front l Q).getD 0 = i; rw [hfr]; rfl
          have HSE : Hid (Pr.sgnE l Q = 0) := by show Pr.sgnE l Q = 0; unfold Pr.sgnE; rw [hfr]
          have HFI : Hid (∀ i', Pr.front l Q = some i' → l.getD i' 0 = k + 1) := fun i' h' => by
            rw [hfr] at h'
            rw [← Option.some.inj h']
            exact i2
          clear hF i1 i2 i3 hfr hnot
          go_wp2_with fail
          refine hf.mono ?_
          rintro e w2 ⟨rfl, hb2⟩
          go_wp2_with fail
          go_ret2
          refine ⟨by rw [HSV.out, HSE.out]; rfl, HK1.out.trans (Kept.of_below hb2), fun i' h' => ?_⟩
          rw [HFI.out i' h']
          exact HB1.out.kept (q := fun _ => True) (Kept.of_below hb2) trivial
        | none =>
          rw [hF] at hf
          dsimp only [Option.getD, Option.isSome] at hf
          have HN : Hid (Pr.Not l Q (k + 1)) := hnot.out.next HG.out fun i hi e => by rw [HV2.out]; exact Pr.fnd_none (by omega) hF i hi e
          clear hF hnot
          go_wp2_with fail
          refine hf.mono ?_
          rintro e w2 ⟨rfl, hb2⟩
          have HK2 : Hid (Kept (fun k => k ≠ R) w w2) := HK1.out.trans (Kept.of_below hb2)
          have HB2 : Hid (BR w2 R s (p + (k + 1))) := HB1.out.kept (q := fun _ => True) (Kept.of_below hb2) trivial
          clear hb2 hf HB1
          go_wp2_with fail
          go_roundw
          case rel => exact ⟨k + 1, by omega, by omega, by go_num, by rw [HV2.out], HB2, HN, HK2⟩
          case measure => simp only [intOf]; omega
      · have hfr : Pr.front l Q = none := hnot.out.none HG.out (.inr (by rw [HQL.out]; omega))
        have HSV : Hid (Pr.sgnV l Q = 0) := by show (Pr.front l Q).getD 0 = 0; rw [hfr]; rfl
        have HSE : Hid (Pr.sgnE l Q = 3) := by
          show Pr.sgnE l Q = 3
          unfold Pr.sgnE
          rw [hfr]
          show (if 48 ≤ Q.length then (4 : Int) else 3) = 3
          rw [if_neg (by rw [HQL.out]; omega)]
        have HF : Hid (∀ i', Pr.front l Q = some i' → False) := fun i' h' => by rw [hfr] at h'; exact absurd h' (by simp)
        clear hfr hbt hb1 HV1 hnot hbr
        go_wp2_with fail
        go_ret2
        exact ⟨by rw [HSV.out, HSE.out]; rfl, HK1.out, fun i' h' => (HF.out i' h').elim⟩
    · have hfr : Pr.front l Q = none := hnot.out.none HG.out (.inl (by omega))
      have HSV : Hid (Pr.sgnV l Q = 0) := by show (Pr.front l Q).getD 0 = 0; rw [hfr]; rfl
      have HSE : Hid (Pr.sgnE l Q = 4) := by
        show Pr.sgnE l Q = 4
        unfold Pr.sgnE
        rw [hfr]
        show (if 48 ≤ Q.length then (4 : Int) else 3) = 4
        rw [if_pos (by rw [HQL.out]; omega)]
      have HF : Hid (∀ i', Pr.front l Q = some i' → False) := fun i' h' => by rw [hfr] at h'; exact absurd h' (by simp)
      clear hfr hnot hbr
      generalize Pr.val (Q.take k) = C at *
      go_wp2_with fail
      go_ret2
      exact ⟨by rw [HSV.out, HSE.out]; rfl, hkept.out, fun i' h' => (HF.out i' h').elim⟩
end Go.Proofs.Ytgdkfaphbbdnbaa

namespace Go.Proofs.Ytgdkfaphbbdnbaa
open Go.RowKit
set_option maxRecDepth 4000

namespace Pr
/-- so many signs and nothing but filling behind them: the answer, the error -/
def rsO : Sum Bool (List Nat × List Bool) → Bs × Int
  | .inl true => ([], 4)
  | .inl false => ([], 3)
  | .inr (t, r) => if clean r then (upB t, 0) else ([], 4)
def rs (l : List Nat) (m : Nat) (b : List Bool) : Bs × Int := rsO (signs l m b)
theorem opS_rs (n m : Nat) (wide : List Nat) (s : Bs) : opS n m wide s = if 2 ^ 48 < Hf.ksum wide then ([], 4) else if (rs wide m (bitsB (dnB s))).2 ≠ 0 then ([], (rs wide m (bitsB (dnB s))).2) else opT n (rs wide m (bitsB (dnB s))).1 := by
  unfold opS rs
  split
  · rfl
  · cases signs wide m (bitsB (dnB s)) with
    | inl e => cases e <;> rfl
    | inr q =>
      obtain ⟨t, r⟩ := q
      show (if clean r then opT n (upB t) else ([], 4)) = if (if clean r then (upB t, (0 : Int)) else ([], 4)).2 ≠ 0 then _ else _
      cases h : clean r <;> simp [rsO, h]
def cat (out : List Nat) : Sum Bool (List Nat × List Bool) → Sum Bool (List Nat × List Bool)
  | .inl e => .inl e
  | .inr (t, r) => .inr (out ++ t, r)
theorem cat_nil (x : Sum Bool (List Nat × List Bool)) : cat [] x = x := by
  cases x with
  | inl e => rfl
  | inr q => rfl
theorem cat_none {l : List Nat} {j : Nat} {b : List Bool} {out : List Nat} (h : front l b = none) : rsO (cat out (signs l (j + 1) b)) = ([], sgnE l b) := by
  rw [signs, h]
  unfold sgnE
  rw [h]
  show rsO (.inl (decide (48 ≤ b.length))) = ([], if 48 ≤ b.length then 4 else 3)
  by_cases e : 48 ≤ b.length
  · rw [decide_eq_true e, if_pos e]; rfl
  · rw [decide_eq_false e, if_neg e]; rfl
theorem cat_some {l : List Nat} {j i p : Nat} {b : List Bool} {out : List Nat} (h : front l (b.drop p) = some i) : cat out (signs l (j + 1) (b.drop p)) = cat (out ++ [i]) (signs l j (b.drop (p + l.getD i 0))) := by
  rw [signs, h]
  simp only [List.drop_drop]
  cases signs l j (b.drop (p + l.getD i 0)) with
  | inl e => rfl
  | inr q =>
    obtain ⟨t, r⟩ := q
    show Sum.inr (out ++ i :: t, r) = Sum.inr (out ++ [i] ++ t, r)
    rw [List.append_assoc]
    rfl
theorem cat_end (l : List Nat) (b : List Bool) (out : List Nat) : rsO (cat out (signs l 0 b)) = if clean b then (upB out, 0) else ([], 4) := by
  show (if clean b then (upB (out ++ []), 0) else ([], 4)) = _
  rw [List.append_nil]
theorem front_len {l : List Nat} (g : Good l) {b : List Bool} {i : Nat} (h : front l b = some i) : i < l.length ∧ l.getD i 0 ≤ b.length := by
  obtain ⟨h1, _, h3, _⟩ := (fits_val g).1 ((front_some g).1 h)
  exact ⟨h1, h3⟩
end Pr
/-- a row of bytes is no reader -/
theorem BR.apart {W : World} {base R p n : Nat} {s : ByteArray} {v : Value} {xs : List Value} (hb : BR W R s p) (h : W.ownsRow base 5 1 v n xs) : ∀ g, v.ownBlock = some g → g ≠ R := by
  intro g hg e
  subst e
  obtain ⟨cur, hc, _⟩ := own_block h hg
  have := hc.symm.trans hb
  simp at this
theorem up_more (out : List Nat) (i : Nat) : Pr.upB (out ++ [i]) = Pr.upB out ++ [UInt8.ofNat i] := by simp [Pr.upB]

set_option maxHeartbeats 4000000 in
theorem rsigns_any (base G : Nat) (l : List Nat) (V : Nat → Value) (s : ByteArray) (m : Nat) (w : World) (h : Book w base G l l.length V) (g : Pr.Good l) (hl : l.length ≤ 256) (hs : s.size ≤ 140737488351232) (hm : m ≤ 12288)
    (O : Pr.Bs × Int) (hO : Pr.rs l m (Pr.bitsS s) = O) :
    Calls Try.prog 40 #[.pointer (some ⟨G, 0, none⟩), .string s, .int .i64 m] w fun e w' => e = .returned (.tuple #[.string ⟨O.1.toArray⟩, .int .i64 O.2]) ∧ Below w.heap.size w w' := by
  obtain ⟨i0, hi, hz0, hz1, hz2⟩ := info_parts info_u8
  have HBK : Hid (Book w base G l l.length V) := h
  have HG : Hid (Pr.Good l) := g
  have HO : Hid (Pr.rsO (Pr.cat [] (Pr.signs l m ((Pr.bitsS s).drop 0))) = O) := by show _ = O; rw [Pr.cat_nil, List.drop_zero]; exact hO
  obtain ⟨W0, hW0⟩ : ∃ W0, W0 = w.alloc (.cells #[.string s, .int .i64 0] 114) := ⟨_, rfl⟩
  have HB0 : Hid (Below w.heap.size w W0) := by rw [hW0]; exact (Below.refl _ w).alloc (Nat.le_refl _) _
  have HR0 : Hid (BR W0 w.heap.size s 0) := by rw [hW0]; exact heap_alloc_new w _
  clear h g hO
  go_enter Try.func40, Try.ntmps40
  go_wp2_with fail
  rw [← hW0]
  clear hW0
  go_loopw [9, 15] (fun v i wr => ∃ (k p : Nat) (out : List Nat), k ≤ m ∧ i = .int .i64 k ∧ Hid (out.length = k) ∧ p ≤ 8 * s.size ∧ Hid (BR wr w.heap.size s p) ∧ wr.ownsRow w.heap.size 5 1 v (Pr.upB out).length ((Pr.upB out).map B) ∧ Hid (Pr.rsO (Pr.cat out (Pr.signs l (m - k) ((Pr.bitsS s).drop p))) = O) ∧ Hid (Below w.heap.size w wr)) (fun _ i _ => m - (intOf i).toNat)
  case atStart => exact ⟨0, 0, [], by omega, rfl, rfl, by omega, HR0, World.ownsRow_nil _ _ _ _, HO, HB0⟩
  case round =>
    obtain ⟨k, p, out, hk, rfl, hout, hp, hbr, hown, hO, hbel⟩ := hrel
    obtain ⟨a9, c9, rfl⟩ := own_form hown
    have hol : (Pr.upB out).length ≤ k := by rw [upB_length, hout.out]; exact Nat.le_refl _
    by_cases hlt : k < m
    · obtain ⟨j, hj⟩ : ∃ j, m - k = j + 1 := ⟨m - k - 1, by omega⟩
      have HJ : Hid (m - (k + 1) = j) := by show _ = _; omega
      rw [hj] at hO
      clear hj
      have hrs := rsign_any base G w.heap.size l V s p wr (HBK.out.below hbel.out) HG.out hl hbr.out hs hp _ rfl
      cases hF : Pr.front l ((Pr.bitsS s).drop p) with
      | none =>
        have HE : Hid (O = ([], Pr.sgnE l ((Pr.bitsS s).drop p))) := by show O = _; rw [← hO.out]; exact Pr.cat_none hF
        have hne : (Pr.sgnE l ((Pr.bitsS s).drop p) != 0) = true := by
          rw [bne_iff_ne]
          unfold Pr.sgnE
          rw [hF]
          show (if _ then (4 : Int) else 3) ≠ 0
          split <;> omega
        clear hO hF hol
        generalize Pr.sgnE l ((Pr.bitsS s).drop p) = E at *
        generalize Pr.sgnV l ((Pr.bitsS s).drop p) = F at *
        go_wp2_with fail
        refine hrs.mono ?_
        rintro e w1 ⟨rfl, hk1, _⟩
        have HB1 : Hid (Below w.heap.size w w1) := hbel.out.trans (hk1.below hbel.out.size fun k hk => by omega)
        clear hrs hk1
        go_wp2_with fail
        go_ret2
        exact ⟨by rw [HE.out]; rfl, HB1.out⟩
      | some i =>
        obtain ⟨i1, i2⟩ := Pr.front_len HG.out hF
        have hQl : ((Pr.bitsS s).drop p).length = 8 * s.size - p := by rw [List.length_drop, Pr.bitsS_length]
        have HO2 : Hid (Pr.rsO (Pr.cat (out ++ [i]) (Pr.signs l j ((Pr.bitsS s).drop (p + l.getD i 0)))) = O) := by show _ = O; rw [← hO.out, Pr.cat_some hF]
        have hsv : Pr.sgnV l ((Pr.bitsS s).drop p) = i := by show (Pr.front l _).getD 0 = i; rw [hF]; rfl
        have hse : Pr.sgnE l ((Pr.bitsS s).drop p) = 0 := by unfold Pr.sgnE; rw [hF]
        have HP2 : Hid (p + l.getD i 0 ≤ 8 * s.size) := by show _ ≤ _; omega
        rw [hsv, hse] at hrs
        have i256 : i < 256 := by omega
        have HF2 : Hid (Pr.front l ((Pr.bitsS s).drop p) = some i) := hF
        clear hO hF i2 hQl hsv hse
        go_wp2_with fail
        refine hrs.mono ?_
        rintro e w1 ⟨rfl, hk1, hbr1⟩
        have hbr1 := hbr1 i HF2.out
        generalize l.getD i 0 = d at *
        have hown1 := own_kept hown hk1 (hbr.out.apart hown)
        have hB1 : Below w.heap.size w w1 := hbel.out.trans (hk1.below hbel.out.size fun k hk => by omega)
        have HB1 : Hid (Below w.heap.size w w1) := hB1
        have HR1 : Hid (BR w1 w.heap.size s (p + d)) := hbr1
        have HAP : Hid (∀ g, (Value.slice a9 (Pr.upB out).length c9).ownBlock = some g → g ≠ w.heap.size) := hbr1.apart hown1
        have hw1 : w.heap.size < w1.heap.size := (Array.getElem?_eq_some_iff.1 hbr1).1
        clear hrs hk1 hbr1 hB1 hown hbel hbr HF2
        go_wp2_with (at_builtin; refine wpList_append_own _ rfl (.tmp 25) (.tmp 27) 26 rfl w.heap.size 5 i0 (.int .u8 0) 1 1 Try.underlying26 hi hz0 hz1 hz2 rfl (by decide) _ _ _ rfl (hown1.alloc _) ⟨w1.heap.size, 0, none⟩ 1 1 [.int .u8 (i : Int)] rfl rfl ?c1 ?c2 ?c3 ?c4 ?c5 ?_)
        case c1 =>
          intro j u hj
          match j, hj with
          | 0, hj => simp at hj; subst hj; simp [Addr.add]
        case c2 => intro u hu; simp at hu; subst hu; rfl
        case c3 => unfold maxLen; omega
        case c4 => omega
        case c5 => simp; omega
        intro v1 w3 hown3 hgrow _
        have HO3 : Hid (w3.ownsRow w.heap.size 5 1 v1 (Pr.upB (out ++ [i])).length ((Pr.upB (out ++ [i])).map B)) := by
          rw [up_more]
          refine own_byte ?_
          rw [UInt8.toNat_ofNat', Nat.mod_eq_of_lt i256]
          exact hown3
        have HB3 : Hid (Below w.heap.size w w3) := (HB1.out.alloc (by omega) _).grown hgrow (by simp; omega) fun j hj => (hown1.lt j hj).1
        have HR3 : Hid (BR w3 w.heap.size s (p + d)) := (hgrow.block _ (by simp; omega) (fun e => HAP.out _ e.symm rfl)).trans ((Below.heap_alloc _ _ _ hw1).trans HR1.out)
        clear hown3 hgrow hown1 HB1 HR1 HAP
        go_wp2_with fail
        go_roundw
        case rel => exact ⟨k + 1, p + d, out ++ [i], by omega, by go_num, by show _ = _; rw [List.length_append, hout.out]; rfl, HP2.out, HR3, HO3.out, by rw [HJ.out]; exact HO2, HB3⟩
        case measure => simp only [intOf]; omega
    · obtain rfl : k = m := by omega
      rw [Nat.sub_self, Pr.cat_end] at hO
      have hf := fill_any w.heap.size s p wr hbr.out hs hp
      have hap := hbr.out.apart hown
      generalize Pr.clean ((Pr.bitsS s).drop p) = C at *
      cases C with
      | false =>
        have HE : Hid (O = ([], 4)) := hO.out.symm
        clear hO
        go_wp2_with fail
        refine hf.mono ?_
        rintro e w1 ⟨rfl, hk1⟩
        have HB1 : Hid (Below w.heap.size w w1) := hbel.out.trans (hk1.below hbel.out.size fun k hk => by omega)
        clear hf hk1
        go_wp2_with fail
        go_ret2
        exact ⟨by rw [HE.out]; rfl, HB1.out⟩
      | true =>
        have HE : Hid (O = (Pr.upB out, 0)) := hO.out.symm
        clear hO
        go_wp2_with fail
        refine hf.mono ?_
        rintro e w1 ⟨rfl, hk1⟩
        have HB1 : Hid (Below w.heap.size w w1) := hbel.out.trans (hk1.below hbel.out.size fun k hk => by omega)
        have hstr := run_str (own_kept hown hk1 hap)
        clear hf hk1 hown
        go_wp2_with fail
        go_ret2
        exact ⟨by rw [HE.out]; rfl, HB1.out⟩
end Go.Proofs.Ytgdkfaphbbdnbaa

namespace Go.Proofs.Ytgdkfaphbbdnbaa
open Go.RowKit
set_option maxRecDepth 4000

set_option maxHeartbeats 1000000 in
theorem make_form (v : Value) (l : List Nat) (w : World) (h : Ints w v (Hf.up l)) (h1 : 1 ≤ l.length) (h2 : l.length ≤ 256) (h3 : ∀ n ∈ l, n ≤ 48) (hk : 281474976710656 < Hf.ksum l) :
    Calls Try.prog 39 #[v] w fun e w' => e = .returned (.tuple #[.pointer none, .int .i64 4]) ∧ w' = w := by
  have hc := codes_form v l w h h1 h2 h3 hk
  clear h3 hk
  go_enter Try.func39, Try.ntmps39
  go_wp2_with fail
  refine hc.mono ?_
  rintro e w' ⟨rfl, rfl⟩
  go_wp2_with fail
  go_ret2
  exact ⟨rfl, rfl⟩

/-- a book with nothing in it -/
theorem zero_book : Try.zeroCells112 = (bookC (fun _ => 0) fun _ => .slice none 0 0).toArray := by kernel_rfl
theorem Book.new (w : World) (base : Nat) (l : List Nat) (hb : base ≤ w.heap.size) : Book (w.alloc (.cells Try.zeroCells112 112)) base w.heap.size l 0 (fun _ => .slice none 0 0) := by
  rw [zero_book]
  refine ⟨heap_alloc_new w _, hb, fun n _ => World.ownsRow_nil _ _ _ _, fun n m _ _ _ g hg => ?_⟩
  simp [Value.ownBlock] at hg
theorem BookF.congr {W : World} {base G : Nat} {f f' : Nat → Nat} {S S' : Nat → List Nat} {V : Nat → Value} (h : BookF W base G f S V) (hf : ∀ n, n ≤ 48 → f n = f' n) (hS : ∀ n, n ≤ 48 → S n = S' n) : BookF W base G f' S' V :=
  ⟨by rw [← bookC_congr (V := V) hf fun _ _ => rfl]; exact h.box, h.old, fun n hn => by rw [← hS n hn]; exact h.row n hn, h.apart⟩
theorem BookF.not_row {W : World} {base G : Nat} {f : Nat → Nat} {S : Nat → List Nat} {V : Nat → Value} (h : BookF W base G f S V) {b n k : Nat} {e : TypeId} {v : Value} {xs : List Value} (hr : W.ownsRow b e k v n xs) (he : e ≠ 112) : ∀ g, v.ownBlock = some g → g ≠ G := by
  intro g hg e'
  subst e'
  obtain ⟨cur, hc, _⟩ := own_block hr hg
  have := hc.symm.trans h.box
  simp at this
  exact he this.2
theorem BookF.drew {W : World} {base G : Nat} {f : Nat → Nat} {S : Nat → List Nat} {V : Nat → Value} (h : BookF W base G f S V) : BookF W.drew base G f S V :=
  ⟨h.box, h.old, fun n hn => (h.row n hn).drew, h.apart⟩
theorem BookF.first {w : World} {base G n x : Nat} {f : Nat → Nat} {S : Nat → List Nat} {V : Nat → Value} (h : BookF w base G f S V) :
    BookF (w.setCell ⟨G, n * 2, none⟩ (.int .i64 (x : Int))) base G (fun m => if m = n then x else f m) S V := by
  have hk : Kept (fun k => k ≠ G) w (w.setCell ⟨G, n * 2, none⟩ (.int .i64 (x : Int))) := (Kept.refl _ _).setCell (by simp) _
  refine ⟨?_, h.old, fun m hm => own_kept (h.row m hm) hk (h.not_row (h.row m hm) (by decide)), h.apart⟩
  rw [heap_setCell_same _ _ _ _ _ _ h.box, ← bookC_set0]
  simp
/-- one sign more on a shelf -/
theorem BookF.pushed {w w1 : World} {base G g cap n x : Nat} {f : Nat → Nat} {S : Nat → List Nat} {V : Nat → Value} {o : Obj} (h : BookF w base G f S V) (hn : n ≤ 48) (hx : x < 256)
    (hown : w1.ownsRow base 5 1 (.slice (some ⟨g, 0, none⟩) ((S n).length + 1) cap) ((S n).length + 1) ((Pr.upB (S n)).map B ++ [.int .u8 (x : Int)]))
    (hg : ((w.alloc o).drew).grownBy w1 (V n).ownBlock) (hat : (V n).ownBlock = some g ∨ g = w.heap.size + 1) :
    BookF (w1.setCell ⟨G, n * 2 + 1, none⟩ (.slice (some ⟨g, 0, none⟩) ((S n).length + 1) cap)) base G f (fun m => if m = n then S n ++ [x] else S m) (fun m => if m = n then .slice (some ⟨g, 0, none⟩) ((S n).length + 1) cap else V m) := by
  have hlt : G < w.heap.size := (Array.getElem?_eq_some_iff.1 h.box).1
  have hG1 : (V n).ownBlock ≠ some G := fun e => h.not_row (h.row n hn) (by decide) G e rfl
  have hbox : w1.heap[G]? = some (.cells (bookC f V).toArray 112 (0, 0)) := by
    rw [hg.block G (by simp; omega) (fun e => hG1 e.symm)]
    exact (((Below.refl w.heap.size w).alloc (Nat.le_refl _) o).drew).block G hlt |>.trans h.box
  have hk2 : Kept (fun k => k ≠ G) w1 (w1.setCell ⟨G, n * 2 + 1, none⟩ (.slice (some ⟨g, 0, none⟩) ((S n).length + 1) cap)) := (Kept.refl _ _).setCell (by simp) _
  have hk1 : Kept (fun k => (V n).ownBlock ≠ some k) w w1 := (((Kept.refl _ w).alloc o).drew).grown hg fun k hk hp => hp hk
  have hlt2 : ∀ m, m ≤ 48 → ∀ b, (V m).ownBlock = some b → b < w.heap.size := fun m hm b hb => by
    obtain ⟨cur, hc, _⟩ := own_block (h.row m hm) hb
    exact (Array.getElem?_eq_some_iff.1 hc).1
  have hgG : g ≠ G := by
    rcases hat with e | e
    · intro e'
      rw [e'] at e
      exact hG1 e
    · omega
  refine ⟨?_, h.old, fun m hm => ?_, fun a b ha hb hab q hq => ?_⟩
  · rw [heap_setCell_same _ _ _ _ _ _ hbox, ← bookC_set1]
    simp
  · by_cases e : m = n
    · subst e
      simp only [if_true]
      rw [show (S m ++ [x]).length = (Pr.upB (S m) ++ [UInt8.ofNat x]).length by rw [← up_more, upB_length], up_more]
      refine own_kept (own_byte ?_) hk2 fun b hb => by simp [Value.ownBlock] at hb; omega
      rw [UInt8.toNat_ofNat', Nat.mod_eq_of_lt hx, upB_length]
      exact hown
    · simp only [if_neg e]
      exact own_kept (own_kept (h.row m hm) hk1 fun b hb => h.apart m n hm hn e b hb) hk2 (h.not_row (h.row m hm) (by decide))
  · by_cases e1 : a = n
    · subst e1
      simp only [if_true] at hq
      rw [if_neg (Ne.symm hab)]
      obtain rfl : g = q := by simpa [Value.ownBlock] using hq
      rcases hat with e | e
      · exact h.apart a b ha hb hab g e
      · intro e'
        have := hlt2 b hb g e'
        omega
    · simp only [if_neg e1] at hq
      by_cases e2 : b = n
      · subst e2
        simp only [if_true]
        intro e'
        obtain rfl : g = q := by simpa [Value.ownBlock] using e'
        rcases hat with e | e
        · exact h.apart a b ha hb hab g hq e
        · have := hlt2 a ha g hq
          omega
      · simp only [if_neg e2]
        exact h.apart a b ha hb hab q hq

theorem one_at {W : World} {B : Nat} {x : Value} (h0 : W.cell? ⟨B, 0, none⟩ = some x) : ∀ j u, [x][j]? = some u → W.cell? ((⟨B, 0, none⟩ : Addr).add j) = some u := by
  intro j u hj
  rw [Addr.add_mid, Nat.zero_add]
  match j, hj with
  | 0, hj => rw [h0]; exact hj
/-- the sign k put into a book -/
theorem Book.push {wc w2 : World} {base G g cap n k L : Nat} {l : List Nat} {V : Nat → Value} {u : Value} {xs : List Value} {o : Obj} (h : BookF wc base G (fun m => if m = n then Pr.fst l n (k + 1) else Pr.fst l m k) (fun m => Pr.shelf l m k) V) (hn : n ≤ 48) (h0 : 0 < n) (hk : k < 256) (hln : l.getD k 0 = n)
    (hrow : wc.ownsRow base 3 1 u L xs) (hB : base ≤ wc.heap.size)
    (hown : w2.ownsRow base 5 1 (.slice (some ⟨g, 0, none⟩) ((Pr.shelf l n k).length + 1) cap) ((Pr.shelf l n k).length + 1) ((Pr.upB (Pr.shelf l n k)).map B ++ [.int .u8 (k : Int)]))
    (hg : ((wc.alloc o).drew).grownBy w2 (V n).ownBlock) (hat : (V n).ownBlock = some g ∨ g = wc.heap.size + 1) :
    (∃ V', Book (w2.setCell ⟨G, n * 2 + 1, none⟩ (.slice (some ⟨g, 0, none⟩) ((Pr.shelf l n k).length + 1) cap)) base G l (k + 1) V') ∧ (w2.setCell ⟨G, n * 2 + 1, none⟩ (.slice (some ⟨g, 0, none⟩) ((Pr.shelf l n k).length + 1) cap)).ownsRow base 3 1 u L xs ∧
    Below base wc (w2.setCell ⟨G, n * 2 + 1, none⟩ (.slice (some ⟨g, 0, none⟩) ((Pr.shelf l n k).length + 1) cap)) := by
  have hk1 : Kept (fun q => (V n).ownBlock ≠ some q ∧ q ≠ G) wc (w2.setCell ⟨G, n * 2 + 1, none⟩ (.slice (some ⟨g, 0, none⟩) ((Pr.shelf l n k).length + 1) cap)) := ((((Kept.refl _ wc).alloc o).drew).grown hg fun q hq hp => hp.1 hq).setCell (fun h => h.2 rfl) _
  refine ⟨⟨_, (h.pushed hn hk hown hg hat).congr (fun m hm => ?_) (fun m hm => ?_)⟩, ?_, ?_⟩
  · by_cases e : m = n
    · subst e; simp only [if_true]
    · simp only [if_neg e]
      exact (Pr.fst_miss (by omega)).symm
  · by_cases e : m = n
    · subst e; simp only [if_true]
      exact (Pr.shelf_hit h0 hln).symm
    · simp only [if_neg e]
      exact (Pr.shelf_miss (by omega)).symm
  · refine own_kept hrow hk1 fun q hq => ⟨fun e => ?_, h.not_row hrow (by decide) q hq⟩
    obtain ⟨cur, hc, _⟩ := own_block hrow hq
    obtain ⟨cur', hc', _⟩ := own_block (h.row n hn) e
    have := hc.symm.trans hc'
    simp at this
  · refine hk1.below hB fun q hq => ⟨fun e => ?_, ?_⟩
    · obtain ⟨_, _, hb⟩ := own_block (h.row n hn) e
      omega
    · have := h.old
      omega
theorem Book.grown_cell {wc w2 : World} {base G n : Nat} {f : Nat → Nat} {S : Nat → List Nat} {V : Nat → Value} {o : Obj} (h : BookF wc base G f S V) (hn : n ≤ 48) (hg : ((wc.alloc o).drew).grownBy w2 (V n).ownBlock) : w2.cell? ⟨G, n * 2 + 1, none⟩ = some (V n) ∧ w2.frozen? ⟨G, n * 2 + 1, none⟩ = false := by
  have hlt : G < wc.heap.size := (Array.getElem?_eq_some_iff.1 h.box).1
  have hG1 : (V n).ownBlock ≠ some G := fun e => h.not_row (h.row n hn) (by decide) G e rfl
  have hbox : w2.heap[G]? = some (.cells (bookC f V).toArray 112 (0, 0)) := by
    rw [hg.block G (by simp; omega) (fun e => hG1 e.symm)]
    exact (((Below.refl wc.heap.size wc).alloc (Nat.le_refl _) o).drew).block G hlt |>.trans h.box
  obtain ⟨b1, b2⟩ := row_cells hbox (n * 2 + 1) (by rw [bookC_length]; omega)
  exact ⟨b1.trans (bookC_signs _ _ n hn), b2⟩

set_option maxHeartbeats 4000000 in
theorem make_any (v : Value) (l : List Nat) (w : World) (h : Ints w v (Hf.up l)) (h1 : 1 ≤ l.length) (h2 : l.length ≤ 256) (h3 : ∀ n ∈ l, n ≤ 48) (hk : Hf.ksum l ≤ 281474976710656) :
    Calls Try.prog 39 #[v] w fun e w' => ∃ (G : Nat) (V : Nat → Value), e = .returned (.tuple #[.pointer (some ⟨G, 0, none⟩), .int .i64 0]) ∧ Book w' w.heap.size G l l.length V ∧ Below w.heap.size w w' := by
  obtain ⟨i0, hi, hz0, hz1, hz2⟩ := info_parts info_u8
  have hc := codes_any v l w h h1 h2 h3 hk
  obtain ⟨a, c, rfl⟩ := h.slice
  rw [Hf.up_length] at h hc ⊢
  have HI : Hid (Ints w (.slice a l.length c) (Hf.up l)) := h
  have H3 : Hid (∀ n ∈ l, n ≤ 48) := h3
  clear h h3 hk
  go_enter Try.func39, Try.ntmps39
  go_wp2_with fail
  refine hc.mono ?_
  rintro e w1 ⟨v1, rfl, hown1, hb1⟩
  obtain ⟨g1, c1, rfl⟩ : ∃ g1 c1, v1 = .slice (some ⟨g1, 0, none⟩) l.length c1 := by
    rcases hown1.2 with ⟨_, h0⟩ | ⟨g, cap, _, hv, _⟩
    · omega
    · exact ⟨g, cap, hv⟩
  clear hc
  have HN : Hid (Book (w1.alloc (.cells Try.zeroCells112 112)) w.heap.size w1.heap.size l 0 (fun _ => .slice none 0 0)) := Book.new w1 w.heap.size l hb1.size
  have HB1 : Hid (Below w.heap.size w (w1.alloc (.cells Try.zeroCells112 112))) := hb1.alloc hb1.size _
  have HC1 : Hid ((w1.alloc (.cells Try.zeroCells112 112)).ownsRow w.heap.size 3 1 (.slice (some ⟨g1, 0, none⟩) l.length c1) l.length ((Hf.codes l).map Iv)) := hown1.alloc _
  have HWW : Hid (w.heap.size ≤ w1.heap.size) := hb1.size
  obtain ⟨W0, hW0⟩ : ∃ W0, W0 = w1.alloc (.cells Try.zeroCells112 112) := ⟨_, rfl⟩
  rw [← hW0] at HN HB1 HC1
  clear hown1 hb1
  go_wp2_with fail
  rw [← hW0]
  clear hW0
  go_loopw [21] (fun i wr => ∃ (k : Nat) (V : Nat → Value), k ≤ l.length ∧ i = .int .i64 k ∧ Hid (Book wr w.heap.size w1.heap.size l k V) ∧ Hid (wr.ownsRow w.heap.size 3 1 (.slice (some ⟨g1, 0, none⟩) l.length c1) l.length ((Hf.codes l).map Iv)) ∧ Hid (Below w.heap.size w wr)) (fun i _ => l.length - (intOf i).toNat)
  case atStart => exact ⟨0, _, by omega, rfl, HN, HC1, HB1⟩
  case round =>
    clear HN HC1 HB1
    obtain ⟨k, V, hk, rfl, hbk, hrow, hbel⟩ := hrel
    by_cases hlt : k < l.length
    · obtain ⟨bk, o, rfl, hbk0, c0⟩ := (HI.out.below (Nat.le_refl _) hbel.out).getN k hlt
      have hn48 := Hf.getD_le H3.out k
      by_cases hn0 : l.getD k 0 = 0
      · have HBK : Hid (Book wr w.heap.size w1.heap.size l (k + 1) V) := hbk.out.congr (fun m hm => by
            by_cases e : m = 0
            · subst e; unfold Pr.fst; rw [Pr.shelf_nought, Pr.shelf_nought]
            · exact (Pr.fst_miss (by omega)).symm) (fun m hm => by
            by_cases e : m = 0
            · subst e; rw [Pr.shelf_nought, Pr.shelf_nought]
            · exact (Pr.shelf_miss (by omega)).symm)
        have hq : ((0 : Int) == 0) = true := rfl
        rw [hn0] at c0
        clear hn0 hbk
        go_wp2_with fail
        exact ⟨⟨k + 1, V, by omega, by go_num, HBK, hrow, hbel⟩, by simp only [intOf]; omega⟩
      · obtain ⟨n, hn⟩ : ∃ n, l.getD k 0 = n := ⟨_, rfl⟩
        rw [hn] at c0 hn48 hn0
        have HN : Hid (l.getD k 0 = n) := hn
        have hq : ((n : Int) == 0) = false := beq_eq_false_iff_ne.2 (by omega)
        obtain ⟨d0, d1, f0, f1⟩ := hbk.out.cells n hn48
        obtain ⟨a9, c9, hV, _⟩ := hbk.out.slice n hn48
        rw [hV] at d1
        have HV : Hid (V n = .slice a9 (Pr.shelf l n k).length c9) := hV
        have hsl := Pr.shelf_len l n k
        have HFE := Pr.fst_first (l := l) (n := n) (k := k) (by omega) hlt hn
        clear hn hV
        by_cases hz : (Pr.shelf l n k).length = 0
        · rw [if_pos hz] at HFE
          have HF : Hid (∀ wx, BookF wx w.heap.size w1.heap.size (fun m => if m = n then Hf.code l k else Pr.fst l m k) (fun m => Pr.shelf l m k) V → BookF wx w.heap.size w1.heap.size (fun m => if m = n then Pr.fst l n (k + 1) else Pr.fst l m k) (fun m => Pr.shelf l m k) V) := fun wx h => by rw [HFE]; exact h
          have hc2 := own_at hrow.out k (by rw [Hf.codes_length]; exact hlt)
          have hc3 : (Hf.codes l)[k]'(by rw [Hf.codes_length]; exact hlt) = (Hf.code l k : Nat) := by simp [Hf.codes]
          rw [hc3] at hc2
          have HF1 : Hid (BookF (wr.setCell ⟨w1.heap.size, n * 2, none⟩ (.int .i64 (Hf.code l k : Nat))) w.heap.size w1.heap.size (fun m => if m = n then Hf.code l k else Pr.fst l m k) (fun m => Pr.shelf l m k) V) := hbk.out.first
          have hz' : (((Pr.shelf l n k).length : Int) == 0) = true := by rw [beq_iff_eq]; omega
          have HZ : Hid ((Pr.shelf l n k).length = 0) := hz
          have hgG : g1 ≠ w1.heap.size := hbk.out.not_row hrow.out (by decide) g1 rfl
          clear hc3 HFE hz
          generalize Hf.code l k = ck at *
          generalize Pr.fst l n k = fk at *
          go_wp2_with fail
          go_cut [] from 36 to 44 (fun wx => Hid (BookF wx w.heap.size w1.heap.size (fun m => if m = n then Pr.fst l n (k + 1) else Pr.fst l m k) (fun m => Pr.shelf l m k) V ∧ wx.ownsRow w.heap.size 3 1 (.slice (some ⟨g1, 0, none⟩) l.length c1) l.length ((Hf.codes l).map Iv) ∧ Below w.heap.size w wx))
          case first =>
            go_region
            all_goals go_wp2_with fail
            all_goals go_meet
            all_goals
              have hk3 : Kept (fun q => q ≠ w1.heap.size) wr (wr.setCell ⟨w1.heap.size, n * 2, none⟩ (.int .i64 (ck : Nat))).drew := ((Kept.refl _ _).setCell (by simp) _).drew
              exact ⟨HF.out _ (BookF.drew HF1.out), own_kept hrow.out hk3 (hbk.out.not_row hrow.out (by decide)), hbel.out.trans (hk3.below hbel.out.size fun q hq => by have := HWW.out; omega)⟩
          case rest =>
            obtain ⟨e1, e2, e3⟩ := hcut.out
            have HQ1 : Hid (BookF wc w.heap.size w1.heap.size (fun m => if m = n then Pr.fst l n (k + 1) else Pr.fst l m k) (fun m => Pr.shelf l m k) V) := e1
            have HQ2 : Hid (wc.ownsRow w.heap.size 3 1 (.slice (some ⟨g1, 0, none⟩) l.length c1) l.length ((Hf.codes l).map Iv)) := e2
            have HQ3 : Hid (Below w.heap.size w wc) := e3
            clear hcut e1 e2 e3 d0 d1 f0 f1 hc2 hrow hbel hbk c0 HF HF1 hz' HZ hgG hbk0
            have hsg := HQ1.out.row n hn48
            rw [HV.out] at hsg
            have hrow9 : ∀ o, ((wc.alloc o).drew).ownsRow w.heap.size 5 1 (.slice a9 (Pr.shelf l n k).length c9) (Pr.shelf l n k).length ((Pr.upB (Pr.shelf l n k)).map B) := fun o => (hsg.alloc o).drew
            have HQ : Hid (∀ o w2, ((wc.alloc o).drew).grownBy w2 (Value.slice a9 (Pr.shelf l n k).length c9).ownBlock → w2.cell? ⟨w1.heap.size, n * 2 + 1, none⟩ = some (.slice a9 (Pr.shelf l n k).length c9) ∧ w2.frozen? ⟨w1.heap.size, n * 2 + 1, none⟩ = false) := fun o w2 hg => by
              rw [← HV.out] at hg ⊢
              exact Book.grown_cell HQ1.out hn48 hg
            have d1 : wc.cell? ⟨w1.heap.size, n * 2 + 1, none⟩ = some (.slice a9 (Pr.shelf l n k).length c9) := by
              have := (row_cells HQ1.out.box (n * 2 + 1) (by rw [bookC_length]; omega)).1.trans (bookC_signs _ _ n hn48)
              rw [HV.out] at this
              exact this
            have hwc := HQ3.out.size
            have hk256 : k < 256 := by omega
            have n49 : n < 49 := by omega
            have n49' : (n : Int) < 49 := by omega
            have hw8 : IntKind.u8.wrap (k : Int) = (k : Int) := by simp only [IntKind.wrap, IntKind.bits, IntKind.signed]; simp; omega
            have hGlt : w1.heap.size < wc.heap.size := (Array.getElem?_eq_some_iff.1 HQ1.out.box).1
            clear hsg
            go_wp2_with fail
            go_region_law ((refine step_append_lies _ (by rfl) (.tmp 52) (.tmp 55) 26 (by rfl) w.heap.size 5 i0 (.int .u8 0) 1 1 Try.underlying26 hi hz0 hz1 hz2 rfl (by decide) (.slice a9 (Pr.shelf l n k).length c9) (Pr.shelf l n k).length ((Pr.upB (Pr.shelf l n k)).map B) (by rfl) (hrow9 _) ⟨wc.heap.size, 0, none⟩ 1 1 [.int .u8 (k : Int)] (by rfl) (by rfl) (one_at (by simp)) (by simp [Value.oneCell']) (by decide) (by unfold maxLen; omega) (by omega) (by simp; omega) (wc.heap.size + 1) (by simp) ?_; intro g cap w2 hown2 hgrow hat hlt2; obtain ⟨q1, q2⟩ := HQ.out _ _ hgrow))
            all_goals have HX : Hid _ := Book.push (o := _) HQ1.out hn48 (by omega) hk256 HN.out HQ2.out HQ3.out.size hown2 (by rw [HV.out]; exact hgrow) (by rw [HV.out]; exact hat)
            all_goals clear hown2 hgrow hat q1 q2
            all_goals go_wp2_with fail
            all_goals obtain ⟨⟨V', x1⟩, x2, x3⟩ := HX.out
            all_goals exact ⟨⟨k + 1, V', by omega, by go_num, x1, x2, HQ3.out.trans x3⟩, by simp only [intOf]; omega⟩
        · rw [if_neg hz] at HFE
          have hz' : (((Pr.shelf l n k).length : Int) == 0) = false := by rw [beq_eq_false_iff_ne]; omega
          have HQ1 : Hid (BookF wr w.heap.size w1.heap.size (fun m => if m = n then Pr.fst l n (k + 1) else Pr.fst l m k) (fun m => Pr.shelf l m k) V) := hbk.out.congr (fun m hm => by
            by_cases e : m = n
            · subst e; simp only [if_true]; exact HFE.symm
            · simp only [if_neg e]) fun _ _ => rfl
          have HQ2 : Hid (wr.ownsRow w.heap.size 3 1 (.slice (some ⟨g1, 0, none⟩) l.length c1) l.length ((Hf.codes l).map Iv)) := hrow
          have HQ3 : Hid (Below w.heap.size w wr) := hbel
          clear d0 f0 hrow hbel hbk HFE hz
          generalize Pr.fst l n k = fk at *
          have hsg := HQ1.out.row n hn48
          rw [HV.out] at hsg
          have hrow9 : ∀ o, ((wr.alloc o).drew).ownsRow w.heap.size 5 1 (.slice a9 (Pr.shelf l n k).length c9) (Pr.shelf l n k).length ((Pr.upB (Pr.shelf l n k)).map B) := fun o => (hsg.alloc o).drew
          have HQ : Hid (∀ o w2, ((wr.alloc o).drew).grownBy w2 (Value.slice a9 (Pr.shelf l n k).length c9).ownBlock → w2.cell? ⟨w1.heap.size, n * 2 + 1, none⟩ = some (.slice a9 (Pr.shelf l n k).length c9) ∧ w2.frozen? ⟨w1.heap.size, n * 2 + 1, none⟩ = false) := fun o w2 hg => by
            rw [← HV.out] at hg ⊢
            exact Book.grown_cell HQ1.out hn48 hg
          have d1' : wr.cell? ⟨w1.heap.size, n * 2 + 1, none⟩ = some (.slice a9 (Pr.shelf l n k).length c9) := by
            have := (row_cells HQ1.out.box (n * 2 + 1) (by rw [bookC_length]; omega)).1.trans (bookC_signs _ _ n hn48)
            rw [HV.out] at this
            exact this
          have hwr := HQ3.out.size
          have hk256 : k < 256 := by omega
          have n49 : n < 49 := by omega
          have n49' : (n : Int) < 49 := by omega
          have hw8 : IntKind.u8.wrap (k : Int) = (k : Int) := by simp only [IntKind.wrap, IntKind.bits, IntKind.signed]; simp; omega
          have hGlt : w1.heap.size < wr.heap.size := (Array.getElem?_eq_some_iff.1 HQ1.out.box).1
          clear hsg
          go_wp2_with fail
          go_region_law ((refine step_append_lies _ (by rfl) (.tmp 52) (.tmp 55) 26 (by rfl) w.heap.size 5 i0 (.int .u8 0) 1 1 Try.underlying26 hi hz0 hz1 hz2 rfl (by decide) (.slice a9 (Pr.shelf l n k).length c9) (Pr.shelf l n k).length ((Pr.upB (Pr.shelf l n k)).map B) (by rfl) (hrow9 _) ⟨wr.heap.size, 0, none⟩ 1 1 [.int .u8 (k : Int)] (by rfl) (by rfl) (one_at (by simp)) (by simp [Value.oneCell']) (by decide) (by unfold maxLen; omega) (by omega) (by simp; omega) (wr.heap.size + 1) (by simp) ?_; intro g cap w2 hown2 hgrow hat hlt2; obtain ⟨q1, q2⟩ := HQ.out _ _ hgrow))
          all_goals have HX : Hid _ := Book.push (o := _) HQ1.out hn48 (by omega) hk256 HN.out HQ2.out HQ3.out.size hown2 (by rw [HV.out]; exact hgrow) (by rw [HV.out]; exact hat)
          all_goals clear hown2 hgrow hat q1 q2
          all_goals go_wp2_with fail
          all_goals obtain ⟨⟨V', x1⟩, x2, x3⟩ := HX.out
          all_goals exact ⟨⟨k + 1, V', by omega, by go_num, x1, x2, HQ3.out.trans x3⟩, by simp only [intOf]; omega⟩
    · obtain rfl : k = l.length := by omega
      go_wp2_with fail
      go_ret2
      exact ⟨_, V, rfl, hbk.out, hbel.out⟩
end Go.Proofs.Ytgdkfaphbbdnbaa

namespace Go.Proofs
open Go.Shelf
def Try.laysM316_ren : Go.Shelf.Ren := ⟨fun | 316 => 68 | n => n, fun | 9 => 9 | 3 => 3 | 4 => 4 | 37 => 26 | 0 => 0 | 127 => 76 | 5 => 5 | n => n, fun | n => n⟩
theorem Try.laysM316 : Go.Proofs.LaysM.n316 Try.prog Try.laysM316_ren := {
  mixed := by kernel_rfl
  f316 := Try.func68.trans (congrArg some (by kernel_rfl))
  t0 := Try.underlying0
  a0 := Try.isAgg0
  z0 := Try.sizeOf0
  v0 := Try.zeroValue0
  t3 := Try.underlying3
  a3 := Try.isAgg3
  z3 := Try.sizeOf3
  v3 := Try.zeroValue3
  t4 := Try.underlying4
  a4 := Try.isAgg4
  z4 := Try.sizeOf4
  v4 := Try.zeroValue4
  t9 := Try.underlying9
  a9 := Try.isAgg9
  z9 := Try.sizeOf9
  v9 := Try.zeroValue9
  t37 := Try.underlying26
  a37 := Try.isAgg26
  z37 := Try.sizeOf26
  v37 := Try.zeroValue26
  t127 := Try.underlying76
  a127 := Try.isAgg76
  z127 := Try.sizeOf76
  v127 := Try.zeroValue76
  t5 := Try.underlying5
  a5 := Try.isAgg5
  z5 := Try.sizeOf5
  v5 := Try.zeroValue5
  i0 := by kernel_rfl
  i3 := by kernel_rfl
  i4 := by kernel_rfl
  i5 := by kernel_rfl
  i9 := by kernel_rfl
  i37 := by kernel_rfl
  i127 := by kernel_rfl }
open Go.RowKit in
theorem Try.stringslite_Clone (s : ByteArray) (w : World) (hlim : s.size ≤ 281474976710656) :
    Calls Try.prog 68 #[.string s] w fun e w' => e = .returned (.string s) ∧ Below w.heap.size w w' := Any.stringslite_Clone Try.laysM316 s w hlim
end Go.Proofs

namespace Go.Proofs.Ytgdkfaphbbdnbaa
open Go.RowKit
set_option maxRecDepth 4000

namespace Pr
theorem expd_rd {T : Bs} {n : Nat} (hn : n ≤ 4096) (h : (Lz.rd T).2 = 0) : Lz.expd (Lz.rdR T) n = Lz.ex n [] (Lz.rd T).1 := by
  unfold Lz.expd
  rw [if_neg (by omega), if_pos (Lz.packd_read h).1, Int.toNat_natCast]
  unfold Lz.rdR
  rw [List.map_map]
  congr 1
  conv => rhs; rw [← List.map_id (Lz.rd T).1]
  exact List.map_congr_left fun t _ => Lz.raw_tok t
theorem opT_rd {n : Nat} {T : Bs} (h : (Lz.rd T).2 ≠ 0) : opT n T = ([], ((Lz.rd T).2 : Int)) := by
  unfold opT
  rw [if_pos (show ((Lz.rdA [] T).2 : Nat) ≠ 0 from h)]
  rfl
theorem opT_ex {n : Nat} {T : Bs} (hn : n ≤ 4096) (h : (Lz.rd T).2 = 0) (h2 : (Lz.expd (Lz.rdR T) n).2 ≠ 0) : opT n T = ([], ((Lz.expd (Lz.rdR T) n).2 : Int)) := by
  rw [expd_rd hn h] at h2 ⊢
  unfold opT
  rw [if_neg (fun h' => h' h), if_pos (show ((Lz.ex n [] (Lz.rdA [] T).1).2 : Nat) ≠ 0 from h2)]
  rfl
theorem opT_few {n : Nat} {T : Bs} (hn : n ≤ 4096) (h : (Lz.rd T).2 = 0) (h2 : (Lz.expd (Lz.rdR T) n).2 = 0) (h3 : (Lz.expd (Lz.rdR T) n).1.length < n) : opT n T = ([], 4) := by
  rw [expd_rd hn h] at h2 h3
  unfold opT
  rw [if_neg (fun h' => h' h), if_neg (fun h' => h' h2), if_pos (show (Lz.ex n [] (Lz.rdA [] T).1).1.length < n from h3)]
theorem opT_all {n : Nat} {T : Bs} (hn : n ≤ 4096) (h : (Lz.rd T).2 = 0) (h2 : (Lz.expd (Lz.rdR T) n).2 = 0) (h3 : ¬ (Lz.expd (Lz.rdR T) n).1.length < n) : opT n T = ((Lz.expd (Lz.rdR T) n).1, 0) := by
  rw [expd_rd hn h] at h2 h3 ⊢
  unfold opT
  rw [if_neg (fun h' => h' h), if_neg (fun h' => h' h2), if_neg (show ¬ (Lz.ex n [] (Lz.rdA [] T).1).1.length < n from h3)]
  rfl
theorem rs_len (l : List Nat) (m : Nat) (b : List Bool) : (rs l m b).1.length ≤ m := by
  unfold rs
  cases e : signs l m b with
  | inl q => cases q <;> exact Nat.zero_le _
  | inr q =>
    obtain ⟨t, r⟩ := q
    show (if clean r then (upB t, (0 : Int)) else ([], 4)).1.length ≤ m
    split
    · show (upB t).length ≤ m
      unfold upB
      rw [List.length_map, (signs_of e).1]
      exact Nat.le_refl _
    · exact Nat.zero_le _
theorem rdR_len (T : Bs) : (Lz.rdR T).length ≤ 4096 := by
  by_cases h : (Lz.rd T).2 = 0
  · exact (Lz.chk_zero (Lz.packd_read h).1).1
  · unfold Lz.rdR
    rw [List.length_map, show (Lz.rd T).1 = [] from (Lz.rdA_error _ [] _ (Nat.le_refl _) h).1]
    simp
theorem expd_len (l : List Lz.Tr) {n : Nat} (hn : n ≤ 4096) : (Lz.expd l n).1.length ≤ 4096 := by
  unfold Lz.expd
  split
  · exact Nat.zero_le _
  · split
    · have := Lz.ex_len (most := (n : Int).toNat) (out := []) (l := l.map Lz.Tr.tok) (Nat.zero_le _)
      omega
    · exact Nat.zero_le _
end Pr

set_option maxHeartbeats 400000 in
theorem clone_any (s : ByteArray) (w : World) (hs : s.size ≤ 281474976710656) :
    Calls Try.prog 37 #[.string s] w fun e w' => e = .returned (.string s) ∧ Below w.heap.size w w' := by
  go_enter Try.func37, Try.ntmps37
  go_wp2_with (refine (Try.stringslite_Clone _ _ hs).mono ?_; rintro e w' ⟨rfl, hb⟩)
  go_ret
  exact ⟨rfl, hb⟩

set_option maxHeartbeats 400000 in
theorem oplain_any (s : ByteArray) (w : World) (hs : s.size ≤ 140737488351232) (O : Pr.Bs × Int) (hO : (if 4096 < s.data.toList.length then ([], 2) else (s.data.toList, 0)) = O) :
    Calls Try.prog 13 #[.string s] w fun e w' => ∃ s' : ByteArray, e = .returned (.tuple #[.string s', .int .i64 O.2]) ∧ s'.data.toList = O.1 ∧ Below w.heap.size w w' := by
  rw [← Lib.size_eq] at hO
  by_cases h : 4096 < s.size
  · rw [if_pos h] at hO
    subst hO
    go_enter Try.func13, Try.ntmps13
    go_wp2_with fail
    go_ret2
    exact ⟨⟨#[]⟩, rfl, rfl, Below.refl _ _⟩
  · rw [if_neg h] at hO
    have HO : Hid ((s.data.toList, (0 : Int)) = O) := hO
    have hc := clone_any s w (by omega)
    clear hO
    go_enter Try.func13, Try.ntmps13
    go_wp2_with fail
    refine hc.mono ?_
    rintro e w' ⟨rfl, hb⟩
    go_wp2_with fail
    go_ret2
    exact ⟨s, by rw [← HO.out]; rfl, by rw [← HO.out], hb⟩

set_option maxHeartbeats 4000000 in
theorem ocoded_any (s : ByteArray) (w : World) (hs : s.size ≤ 140737488351232) (O : Pr.Bs × Int) (hO : Pr.opC s.data.toList = O) :
    Calls Try.prog 14 #[.string s] w fun e w' => ∃ s' : ByteArray, e = .returned (.tuple #[.string s', .int .i64 O.2]) ∧ s'.data.toList = O.1 ∧ Below w.heap.size w w' := by
  rw [Pr.opC_hd] at hO
  have HO : Hid ((if Pr.hdE s.data.toList ≠ 0 then ([], Pr.hdE s.data.toList) else Pr.opS ((Pr.H3 s.data.toList).1.getD 0 0) ((Pr.H3 s.data.toList).1.getD 1 0) (Pr.PP s.data.toList).1 (Pr.PP s.data.toList).2.1) = O) := hO
  have hh := rhead_any s w hs
  clear hO
  generalize s.data.toList = L at *
  go_enter Try.func14, Try.ntmps14
  go_wp2_with fail
  refine hh.mono ?_
  rintro e w1 ⟨n, m, v, s1, rfl, ⟨va, vn, vc, rfl⟩, z1, hH, hb1⟩
  clear hh
  have HB0 : Hid (Below w.heap.size w w1) := hb1
  by_cases x1 : Pr.hdE L = 0
  case neg =>
    have HE : Hid (O = ([], Pr.hdE L)) := by show O = _; rw [← HO.out, if_pos x1]
    generalize Pr.hdE L = E at *
    have hq : (E != 0) = true := by simpa using x1
    clear hH x1 HO hb1
    go_wp2_with fail
    go_ret2
    exact ⟨⟨#[]⟩, by rw [HE.out]; rfl, by rw [HE.out], HB0.out.alloc HB0.out.size _⟩
  obtain ⟨y1, y2, y3, y4, y5, y6, y7, y8⟩ := hH x1
  rw [x1, if_neg (by simp), y1, y3, Pr.opS_rs, ← y6] at HO
  generalize (Pr.PP L).1 = wide at *
  rw [x1]
  clear hH x1 y1 y3 y6 hb1
  obtain ⟨W1, hW1⟩ : ∃ W1, W1 = w1.alloc (.cells #[.int .i64 (n : Int), .int .i64 (m : Int), .slice va vn vc] 64) := ⟨_, rfl⟩
  have HX1 : Hid (W1.heap[w1.heap.size]? = some (.cells #[.int .i64 (n : Int), .int .i64 (m : Int), .slice va vn vc] 64 (0, 0))) := by rw [hW1]; exact heap_alloc_new w1 _
  have hb11 : Below w1.heap.size w1 W1 := by rw [hW1]; exact (Below.refl _ w1).alloc (Nat.le_refl _) _
  have HB1 : Hid (Below w.heap.size w W1) := HB0.out.trans (hb11.mono HB0.out.size)
  have hrow : W1.ownsRow w.heap.size 3 1 (.slice va vn vc) 256 ((Hf.up wide).map Iv) := row_below y5 hb11
  have hints : Ints W1 (.slice va vn vc) (Hf.up wide) := Ints.of_own (base := w.heap.size) (by rw [Hf.up_length, y7]; exact hrow)
  have HZ1 : Hid (w1.heap.size < W1.heap.size) := (Array.getElem?_eq_some_iff.1 HX1.out).1
  clear y5 hb11 hrow HB0
  by_cases hks : 2 ^ 48 < Hf.ksum wide
  · have hm := make_form (.slice va vn vc) wide W1 hints (by omega) (by omega) y8 hks
    rw [if_pos hks] at HO
    have HE : Hid (O = ([], 4)) := HO.out.symm
    rw [hW1] at hm
    clear HO hks hints y8 y7
    go_wp2_with fail
    refine hm.mono ?_
    rw [← hW1]
    rintro e w2 ⟨rfl, rfl⟩
    clear hm hW1
    go_wp2_with fail
    go_ret2
    exact ⟨⟨#[]⟩, by rw [HE.out]; rfl, by rw [HE.out], HB1.out⟩
  have hm := make_any (.slice va vn vc) wide W1 hints (by omega) (by omega) y8 (by omega)
  rw [if_neg hks] at HO
  have HG : Hid (Pr.Good wide) := ⟨Hf.getD_le y8, by show _ ≤ _; omega⟩
  have HL : Hid (wide.length = 256) := y7
  rw [hW1] at hm
  clear hks hints y8 y7
  go_wp2_with fail
  refine hm.mono ?_
  rw [← hW1]
  rintro e w2 ⟨G, V, rfl, hBk, hb2⟩
  clear hm hW1
  have HX2 : Hid (w2.heap[w1.heap.size]? = some (.cells #[.int .i64 (n : Int), .int .i64 (m : Int), .slice va vn vc] 64 (0, 0))) := (hb2.block _ HZ1.out).trans HX1.out
  have HB2 : Hid (Below w.heap.size w w2) := HB1.out.trans (hb2.mono HB1.out.size)
  have hr := rsigns_any W1.heap.size G wide V s1 m w2 hBk HG.out (by rw [HL.out]; omega) (by omega) y4 _ rfl
  unfold Pr.bitsS at hr
  have hTm := Pr.rs_len wide m (Pr.bitsB (Pr.dnB s1.data.toList))
  clear hBk hb2 HX1 HB1
  generalize Pr.rs wide m (Pr.bitsB (Pr.dnB s1.data.toList)) = X at *
  obtain ⟨T, e3⟩ := X
  dsimp only at hr HO hTm
  obtain ⟨S, hS⟩ : ∃ S : ByteArray, S = ⟨T.toArray⟩ := ⟨_, rfl⟩
  rw [← hS] at hr
  have hSl : S.data.toList = T := by rw [hS]
  have HSl : Hid (S.data.toList = T) := hSl
  have hSz : S.size ≤ 12288 := by rw [Lib.size_eq, hSl]; omega
  clear hS hSl hTm
  have c1 := (row_cells (cs := [.int .i64 (n : Int), .int .i64 (m : Int), .slice va vn vc]) HX2.out 1 (by simp)).1
  go_wp2_with fail
  refine hr.mono ?_
  rintro e w3 ⟨rfl, hb3⟩
  clear hr c1
  have HX3 : Hid (w3.heap[w1.heap.size]? = some (.cells #[.int .i64 (n : Int), .int .i64 (m : Int), .slice va vn vc] 64 (0, 0))) := (hb3.block _ (Array.getElem?_eq_some_iff.1 HX2.out).1).trans HX2.out
  have HB3 : Hid (Below w.heap.size w w3) := HB2.out.trans (hb3.mono HB2.out.size)
  clear hb3 HX2 HB2
  by_cases x3 : e3 = 0
  case neg =>
    have hq : (e3 != 0) = true := by simpa using x3
    have HE : Hid (O = ([], e3)) := by show O = _; rw [← HO.out, if_pos x3]
    clear HO
    go_wp2_with fail
    go_ret2
    exact ⟨⟨#[]⟩, by rw [HE.out]; rfl, by rw [HE.out], HB3.out⟩
  subst x3
  rw [if_neg (by simp)] at HO
  have hrd := read_any S w3 (by omega)
  rw [HSl.out] at hrd
  have hRl := Pr.rdR_len T
  go_wp2_with fail
  refine hrd.mono ?_
  rintro e w4 ⟨v4, rfl, hrow4, hb4⟩
  clear hrd
  obtain ⟨a4, c4, rfl⟩ := own_form hrow4
  have HX4 : Hid (w4.heap[w1.heap.size]? = some (.cells #[.int .i64 (n : Int), .int .i64 (m : Int), .slice va vn vc] 64 (0, 0))) := (hb4.block _ (Array.getElem?_eq_some_iff.1 HX3.out).1).trans HX3.out
  have HB4 : Hid (Below w.heap.size w w4) := HB3.out.trans (hb4.mono HB3.out.size)
  have htk : Toks w4 (.slice a4 (Lz.rdR T).length c4) (Lz.rdR T) := Toks.of_own hrow4
  clear hb4 HX3 HB3 hrow4
  by_cases x4 : (Lz.rd T).2 = 0
  case neg =>
    have HE : Hid (O = ([], ((Lz.rd T).2 : Int))) := by show O = _; rw [← HO.out]; exact Pr.opT_rd x4
    generalize (Lz.rd T).2 = e4 at *
    have hq : ((e4 : Int) != 0) = true := by rw [bne_iff_ne]; omega
    clear HO x4 htk
    generalize (Lz.rdR T).length = z at *
    go_wp2_with fail
    go_ret2
    exact ⟨⟨#[]⟩, by rw [HE.out]; rfl, by rw [HE.out], HB4.out⟩
  have hex := expand_any (.slice a4 (Lz.rdR T).length c4) (Lz.rdR T) n w4 htk (by omega)
  have HX4R : Hid ((Lz.rd T).2 = 0) := x4
  rw [x4]
  clear x4 htk
  have hEl := Pr.expd_len (Lz.rdR T) y2
  have HP : Hid ((Lz.expd (Lz.rdR T) n).2 ≠ 0 → O = ([], ((Lz.expd (Lz.rdR T) n).2 : Int))) := fun h => by rw [← HO.out]; exact Pr.opT_ex y2 HX4R.out h
  have HP2 : Hid ((Lz.expd (Lz.rdR T) n).2 = 0 → (Lz.expd (Lz.rdR T) n).1.length < n → O = ([], 4)) := fun h h' => by rw [← HO.out]; exact Pr.opT_few y2 HX4R.out h h'
  have HP3 : Hid ((Lz.expd (Lz.rdR T) n).2 = 0 → ¬ (Lz.expd (Lz.rdR T) n).1.length < n → O = ((Lz.expd (Lz.rdR T) n).1, 0)) := fun h h' => by rw [← HO.out]; exact Pr.opT_all y2 HX4R.out h h'
  clear HO HX4R
  generalize Lz.expd (Lz.rdR T) n = Y at *
  generalize (Lz.rdR T).length = z at *
  obtain ⟨U, e5⟩ := Y
  dsimp only at hex hEl HP HP2 HP3
  obtain ⟨S2, hS2⟩ : ∃ S2 : ByteArray, S2 = ⟨U.toArray⟩ := ⟨_, rfl⟩
  rw [← hS2] at hex
  have hSl2 : S2.data.toList = U := by rw [hS2]
  have HSl2 : Hid (S2.data.toList = U) := hSl2
  have HSz2 : Hid (S2.size = U.length) := by show _ = _; rw [Lib.size_eq, hSl2]
  clear hS2 hSl2
  have c0 := (row_cells (cs := [.int .i64 (n : Int), .int .i64 (m : Int), .slice va vn vc]) HX4.out 0 (by simp)).1
  go_wp2_with fail
  refine hex.mono ?_
  rintro e w5 ⟨rfl, hb5⟩
  clear hex c0
  have HX5 : Hid (w5.heap[w1.heap.size]? = some (.cells #[.int .i64 (n : Int), .int .i64 (m : Int), .slice va vn vc] 64 (0, 0))) := (hb5.block _ (Array.getElem?_eq_some_iff.1 HX4.out).1).trans HX4.out
  have HB5 : Hid (Below w.heap.size w w5) := HB4.out.trans (hb5.mono HB4.out.size)
  have c0 := (row_cells (cs := [.int .i64 (n : Int), .int .i64 (m : Int), .slice va vn vc]) HX5.out 0 (by simp)).1
  clear hb5 HX4 HB4 HX5
  by_cases x5 : e5 = 0
  case neg =>
    have HE : Hid (O = ([], (e5 : Int))) := HP.out x5
    have hq : ((e5 : Int) != 0) = true := by rw [bne_iff_ne]; omega
    clear HP HP2 HP3
    go_wp2_with fail
    go_ret2
    exact ⟨⟨#[]⟩, by rw [HE.out]; rfl, by rw [HE.out], HB5.out⟩
  subst x5
  by_cases x6 : U.length < n
  · have HE : Hid (O = ([], 4)) := HP2.out rfl x6
    have x7 : S2.size < n := by rw [HSz2.out]; exact x6
    clear HP HP2 HP3 x6
    go_wp2_with fail
    go_ret2
    exact ⟨⟨#[]⟩, by rw [HE.out]; rfl, by rw [HE.out], HB5.out⟩
  · have HE : Hid (O = (U, 0)) := HP3.out rfl x6
    have x7 : ¬ S2.size < n := by rw [HSz2.out]; exact x6
    clear HP HP2 HP3 x6
    go_wp2_with fail
    go_ret2
    exact ⟨S2, by rw [HE.out]; rfl, by rw [HE.out, HSl2.out], HB5.out⟩

theorem one_byte (t : ByteArray) (h : 1 ≤ t.size) : t.data.toList = t[0] :: t.data.toList.drop 1 := by
  have hl : t.data.toList.length = t.size := (Lib.size_eq t).symm
  conv => lhs; rw [← List.drop_zero (l := t.data.toList), List.drop_eq_getElem_cons (by omega)]
  rfl

set_option maxHeartbeats 1000000 in
theorem open_any (s : ByteArray) (w : World) (hs : s.size ≤ 140737488351232) :
    Calls Try.prog 9 #[.string s] w fun e w' => ∃ s' : ByteArray, e = .returned (.tuple #[.string s', .int .i64 (Pr.op s.data.toList).2]) ∧ s'.data.toList = (Pr.op s.data.toList).1 ∧ Below w.heap.size w w' := by
  by_cases h0 : s.size = 0
  · have hr : Pr.op s.data.toList = ([], 3) := by rw [List.length_eq_zero_iff.1 (show s.data.toList.length = 0 by rw [← Lib.size_eq]; exact h0)]; rfl
    rw [hr]
    go_enter Try.func9, Try.ntmps9
    go_wp2_with fail
    go_ret2
    exact ⟨⟨#[]⟩, rfl, rfl, Below.refl _ _⟩
  have hz : ((s.size : Int) == 0) = false := beq_eq_false_iff_ne.2 (by omega)
  have J0 : 0 < s.size := by omega
  have hb := one_byte s (by omega)
  have hx := ext_toList s 1
  have hxs : (s.extract 1 s.size).size ≤ 140737488351232 := by rw [ByteArray.size_extract]; omega
  have b0 := s[0].toNat_lt
  generalize ha : s[0] = a at *
  by_cases h1 : a = 0
  · have hr : Pr.op s.data.toList = if 4096 < (s.data.toList.drop 1).length then ([], 2) else (s.data.toList.drop 1, 0) := by
      rw [hb, h1]; exact Pr.op_zero _
    rw [← hx] at hr
    have hp := oplain_any (s.extract 1 s.size) w hxs _ hr.symm
    generalize Pr.op s.data.toList = O at *
    have hq : ((a.toNat : Int) == 0) = true := by rw [h1]; rfl
    clear hb hx hr h1 hxs
    go_enter Try.func9, Try.ntmps9
    go_wp2_with fail
    refine hp.mono ?_
    rintro e w' ⟨s', rfl, hs', hb'⟩
    go_wp2_with fail
    go_ret2
    exact ⟨s', rfl, hs', hb'⟩
  by_cases h2 : a = 1
  · have hr : Pr.op s.data.toList = Pr.opC (s.data.toList.drop 1) := by
      rw [hb, h2]; exact Pr.op_one _
    rw [← hx] at hr
    have hp := ocoded_any (s.extract 1 s.size) w hxs _ hr.symm
    generalize Pr.op s.data.toList = O at *
    have hq : ((a.toNat : Int) == 0) = false := by rw [h2]; rfl
    have hq2 : ((a.toNat : Int) == 1) = true := by rw [h2]; rfl
    clear hb hx hr h1 h2 hxs
    go_enter Try.func9, Try.ntmps9
    go_wp2_with fail
    refine hp.mono ?_
    rintro e w' ⟨s', rfl, hs', hb'⟩
    go_wp2_with fail
    go_ret2
    exact ⟨s', rfl, hs', hb'⟩
  have hr : Pr.op s.data.toList = ([], 5) := by
    rw [hb]
    show (if a = 0 then _ else if a = 1 then _ else _) = _
    rw [if_neg h1, if_neg h2]
  rw [hr]
  have hq : ((a.toNat : Int) == 0) = false := by rw [beq_eq_false_iff_ne]; intro e; exact h1 (UInt8.toNat_inj.1 (by show a.toNat = 0; omega))
  have hq2 : ((a.toNat : Int) == 1) = false := by rw [beq_eq_false_iff_ne]; intro e; exact h2 (UInt8.toNat_inj.1 (by show a.toNat = 1; omega))
  clear hb hx hr h1 h2 hxs
  go_enter Try.func9, Try.ntmps9
  go_wp2_with fail
  go_ret2
  exact ⟨⟨#[]⟩, rfl, rfl, Below.refl _ _⟩
end Go.Proofs.Ytgdkfaphbbdnbaa
