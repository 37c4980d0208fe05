/-
  What readHead of package press answers.
-/
import Derived.Test.YtgdkfaphbbdnbaaPrLens
import Derived.Test.YtgdkfaphbbdnbaaHpMem
namespace Go.Proofs.Ytgdkfaphbbdnbaa
open Go.RowKit
set_option maxRecDepth 4000

namespace Pr
def H3 (s : Bs) : List Nat × Bs × Int := nums [4096, 12288, 256] s
def PP (s : Bs) : List Nat × Bs × Int := pairs ((H3 s).1.getD 2 0) (-1) (List.replicate 256 0) (H3 s).2.1
/-- what is wrong with a head -/
def hdE (s : Bs) : Int := if (H3 s).2.2 ≠ 0 then (H3 s).2.2 else (PP s).2.2
theorem opC_hd (s : Bs) : opC s = if hdE s ≠ 0 then ([], hdE s) else opS ((H3 s).1.getD 0 0) ((H3 s).1.getD 1 0) (PP s).1 (PP s).2.1 := by
  unfold opC hdE PP
  show (if (H3 s).2.2 ≠ 0 then _ else _) = _
  by_cases h : (H3 s).2.2 ≠ 0
  · rw [if_pos h, if_pos h, if_pos h]
    rfl
  · rw [if_neg h, if_neg h]
    rfl
theorem hd1 {L0 L1 : Bs} {n1 : Nat} {e1 : Int} (h : num1 4096 L0 = (n1, L1, e1)) (he : e1 ≠ 0) : hdE L0 = e1 := by
  have : H3 L0 = ([], [], e1) := by
    unfold H3
    rw [nums_cons, h, if_pos he]
  unfold hdE
  rw [this, if_pos he]
theorem hd2 {L0 L1 L2 : Bs} {n1 n2 : Nat} {e2 : Int} (h : num1 4096 L0 = (n1, L1, 0)) (h2 : num1 12288 L1 = (n2, L2, e2)) (he : e2 ≠ 0) : hdE L0 = e2 := by
  have : H3 L0 = ([], [], e2) := by
    unfold H3
    rw [nums_cons, h, if_neg (by simp), nums_cons, h2, if_pos he, if_pos he]
  unfold hdE
  rw [this, if_pos he]
theorem hd3 {L0 L1 L2 L3 : Bs} {n1 n2 n3 : Nat} {e3 : Int} (h : num1 4096 L0 = (n1, L1, 0)) (h2 : num1 12288 L1 = (n2, L2, 0)) (h3 : num1 256 L2 = (n3, L3, e3)) (he : e3 ≠ 0) : hdE L0 = e3 := by
  have a : nums [256] L2 = ([], [], e3) := by rw [nums_cons, h3, if_pos he]
  have b : nums [12288, 256] L1 = ([], [], e3) := by rw [nums_cons, h2, a, if_neg (by simp), if_pos he]
  have : H3 L0 = ([], [], e3) := by
    unfold H3
    rw [nums_cons, h, b, if_neg (by simp), if_pos he]
  unfold hdE
  rw [this, if_pos he]
theorem hd4 {L0 L1 L2 L3 : Bs} {n1 n2 n3 : Nat} (h : num1 4096 L0 = (n1, L1, 0)) (h2 : num1 12288 L1 = (n2, L2, 0)) (h3 : num1 256 L2 = (n3, L3, 0)) : H3 L0 = ([n1, n2, n3], L3, 0) := by
  have a : nums [256] L2 = ([n3], L3, 0) := by rw [nums_cons, h3, if_neg (by simp)]; rfl
  have b : nums [12288, 256] L1 = ([n2, n3], L3, 0) := by rw [nums_cons, h2, a, if_neg (by simp), if_neg (by simp)]
  unfold H3
  rw [nums_cons, h, b, if_neg (by simp), if_neg (by simp)]
theorem hdE_pairs {L0 L3 : Bs} {n1 n2 n3 : Nat} (h : H3 L0 = ([n1, n2, n3], L3, 0)) : hdE L0 = (PP L0).2.2 ∧ pairs n3 (-1) (List.replicate 256 0) L3 = PP L0 := by
  unfold hdE PP
  rw [h]
  exact ⟨rfl, rfl⟩
/-- what Go's readHead leaves -/
structure Head (w w' : World) (L : Bs) (n m : Nat) (v : Value) (s' : ByteArray) : Prop where
  size : (H3 L).1.getD 0 0 = n
  most : n ≤ 4096
  packed : (H3 L).1.getD 1 0 = m
  mostp : m ≤ 12288
  row : w'.ownsRow w.heap.size 3 1 v 256 ((Hf.up (PP L).1).map Iv)
  rest : s'.data.toList = (PP L).2.1
  len : (PP L).1.length = 256
  le : ∀ n ∈ (PP L).1, n ≤ 48
end Pr

theorem row_cells {W : World} {G : Nat} {cs : List Value} {T : TypeId} (h : W.heap[G]? = some (.cells cs.toArray T (0, 0))) (i : Nat) (_hi : i < cs.length) : W.cell? ⟨G, i, none⟩ = cs[i]? ∧ W.frozen? ⟨G, i, none⟩ = false := by
  refine ⟨?_, ?_⟩
  · rw [cell_of_row _ G i _ _ _ h]; simp
  · simp [World.frozen?, h]

set_option maxHeartbeats 4000000 in
theorem rhead_any (s : ByteArray) (w : World) (hs : s.size ≤ 140737488351232) :
    Calls Try.prog 38 #[.string s] w fun e w' => ∃ (n m : Nat) (v : Value) (s' : ByteArray), e = .returned (.tuple #[.agg #[.int .i64 n, .int .i64 m, v], .string s', .int .i64 (Pr.hdE s.data.toList)]) ∧ (∃ a n c, v = .slice a n c) ∧ s'.size ≤ s.size ∧
      (Pr.hdE s.data.toList = 0 → Pr.Head w w' s.data.toList n m v s') ∧ Below w.heap.size w w' := by
  obtain ⟨W0, hW0⟩ : ∃ W0, W0 = w.alloc (.cells #[.int .i64 0, .int .i64 0, .slice none 0 0] 64) := ⟨_, rfl⟩
  have HB0 : Hid (Below w.heap.size w W0) := by rw [hW0]; exact (Below.refl _ w).alloc (Nat.le_refl _) _
  have HX0 : Hid (W0.heap[w.heap.size]? = some (.cells #[.int .i64 0, .int .i64 0, .slice none 0 0] 64 (0, 0))) := by rw [hW0]; exact heap_alloc_new w _
  have h1 := rnum_any s 4096 W0 hs (by omega) (by omega)
  obtain ⟨n1, L1, e1, hr1⟩ : ∃ n1 L1 e1, Pr.num1 4096 s.data.toList = (n1, L1, e1) := ⟨_, _, _, rfl⟩
  have hn1 := Pr.num1_le 4096 s.data.toList
  rw [show (4096 : Int).toNat = 4096 from rfl, hr1] at h1
  rw [hr1] at hn1
  dsimp only at h1 hn1
  have HR1 : Hid (Pr.num1 4096 s.data.toList = (n1, L1, e1)) := hr1
  have HN1 : Hid (n1 ≤ 4096 ∧ L1.length ≤ s.data.toList.length) := hn1
  clear hr1 hn1
  rw [hW0] at h1
  go_enter Try.func38, Try.ntmps38
  go_wp2_with fail
  refine h1.mono ?_
  rw [← hW0]
  rintro e w1 ⟨s1, rfl, hs1, hb1⟩
  clear h1 hW0
  have HB1 : Hid (Below w.heap.size w w1) := HB0.out.trans (hb1.mono HB0.out.size)
  have HX1 : Hid (w1.heap[w.heap.size]? = some (.cells #[.int .i64 0, .int .i64 0, .slice none 0 0] 64 (0, 0))) := (hb1.block _ (Array.getElem?_eq_some_iff.1 HX0.out).1).trans HX0.out
  have HS1 : Hid (s1.data.toList = L1) := hs1
  have z1 : s1.size ≤ s.size := by rw [Lib.size_eq, Lib.size_eq, hs1]; exact HN1.out.2
  clear HX0 HB0 hs1 hb1
  by_cases x1 : e1 = 0
  case neg =>
    have hq : (e1 != 0) = true := by simpa using x1
    have HE : Hid (Pr.hdE s.data.toList = e1) := Pr.hd1 HR1.out x1
    obtain ⟨c0, f0⟩ := row_cells (cs := [.int .i64 0, .int .i64 0, .slice none 0 0]) HX1.out 0 (by simp)
    obtain ⟨c1, f1⟩ := row_cells (cs := [.int .i64 0, .int .i64 0, .slice none 0 0]) HX1.out 1 (by simp)
    obtain ⟨c2, f2⟩ := row_cells (cs := [.int .i64 0, .int .i64 0, .slice none 0 0]) HX1.out 2 (by simp)
    clear HX1
    go_wp2_with fail
    refine bodyPost_ret (v := .tuple #[.agg #[.int .i64 0, .int .i64 0, .slice none 0 0], .string ⟨#[]⟩, .int .i64 e1]) ?_ rfl
      ⟨0, 0, .slice none 0 0, ⟨#[]⟩, by rw [HE.out]; rfl, ⟨_, _, _, rfl⟩, Nat.zero_le _, fun h => absurd (HE.out.symm.trans h) x1, ((HB1.out.setCell (Nat.le_refl _) _).setCell (Nat.le_refl _) _).setCell (Nat.le_refl _) _⟩
    simp [results, asAddr, go_sem, c0, c1, c2]
  subst x1
  have h2 := rnum_any s1 12288 w1 (by omega) (by omega) (by omega)
  obtain ⟨n2, L2, e2, hr2⟩ : ∃ n2 L2 e2, Pr.num1 12288 s1.data.toList = (n2, L2, e2) := ⟨_, _, _, rfl⟩
  have hn2 := Pr.num1_le 12288 s1.data.toList
  rw [show (12288 : Int).toNat = 12288 from rfl, hr2] at h2
  rw [hr2] at hn2
  dsimp only at h2 hn2
  have HR2 : Hid (Pr.num1 12288 L1 = (n2, L2, e2)) := by rw [← HS1.out]; exact hr2
  have HN2 : Hid (n2 ≤ 12288 ∧ L2.length ≤ s1.data.toList.length) := hn2
  clear hr2 hn2
  go_wp2_with fail
  refine h2.mono ?_
  rintro e w2 ⟨s2, rfl, hs2, hb2⟩
  clear h2
  have HB2 : Hid (Below w.heap.size w w2) := HB1.out.trans (hb2.mono HB1.out.size)
  have HX2 : Hid (w2.heap[w.heap.size]? = some (.cells #[.int .i64 0, .int .i64 0, .slice none 0 0] 64 (0, 0))) := (hb2.block _ (Array.getElem?_eq_some_iff.1 HX1.out).1).trans HX1.out
  have HS2 : Hid (s2.data.toList = L2) := hs2
  have z2 : s2.size ≤ s.size := by
    have : s2.size ≤ s1.size := by rw [Lib.size_eq, Lib.size_eq, hs2]; exact HN2.out.2
    omega
  clear HX1 HB1 hs2 hb2
  by_cases x2 : e2 = 0
  case neg =>
    have hq : (e2 != 0) = true := by simpa using x2
    have HE : Hid (Pr.hdE s.data.toList = e2) := Pr.hd2 HR1.out HR2.out x2
    obtain ⟨c0, f0⟩ := row_cells (cs := [.int .i64 0, .int .i64 0, .slice none 0 0]) HX2.out 0 (by simp)
    obtain ⟨c1, f1⟩ := row_cells (cs := [.int .i64 0, .int .i64 0, .slice none 0 0]) HX2.out 1 (by simp)
    obtain ⟨c2, f2⟩ := row_cells (cs := [.int .i64 0, .int .i64 0, .slice none 0 0]) HX2.out 2 (by simp)
    clear HX2
    go_wp2_with fail
    refine bodyPost_ret (v := .tuple #[.agg #[.int .i64 0, .int .i64 0, .slice none 0 0], .string ⟨#[]⟩, .int .i64 e2]) ?_ rfl
      ⟨0, 0, .slice none 0 0, ⟨#[]⟩, by rw [HE.out]; rfl, ⟨_, _, _, rfl⟩, Nat.zero_le _, fun h => absurd (HE.out.symm.trans h) x2, ((HB2.out.setCell (Nat.le_refl _) _).setCell (Nat.le_refl _) _).setCell (Nat.le_refl _) _⟩
    simp [results, asAddr, go_sem, c0, c1, c2]
  subst x2
  have h3 := rnum_any s2 256 w2 (by omega) (by omega) (by omega)
  obtain ⟨n3, L3, e3, hr3⟩ : ∃ n3 L3 e3, Pr.num1 256 s2.data.toList = (n3, L3, e3) := ⟨_, _, _, rfl⟩
  have hn3 := Pr.num1_le 256 s2.data.toList
  rw [show (256 : Int).toNat = 256 from rfl, hr3] at h3
  rw [hr3] at hn3
  dsimp only at h3 hn3
  have HR3 : Hid (Pr.num1 256 L2 = (n3, L3, e3)) := by rw [← HS2.out]; exact hr3
  have HN3 : Hid (n3 ≤ 256 ∧ L3.length ≤ s2.data.toList.length) := hn3
  clear hr3 hn3
  go_wp2_with fail
  refine h3.mono ?_
  rintro e w3 ⟨s3, rfl, hs3, hb3⟩
  clear h3
  have HB3 : Hid (Below w.heap.size w w3) := HB2.out.trans (hb3.mono HB2.out.size)
  have HX3 : Hid (w3.heap[w.heap.size]? = some (.cells #[.int .i64 0, .int .i64 0, .slice none 0 0] 64 (0, 0))) := (hb3.block _ (Array.getElem?_eq_some_iff.1 HX2.out).1).trans HX2.out
  have HS3 : Hid (s3.data.toList = L3) := hs3
  have z3 : s3.size ≤ s.size := by
    have : s3.size ≤ s2.size := by rw [Lib.size_eq, Lib.size_eq, hs3]; exact HN3.out.2
    omega
  clear HX2 HB2 hs3 hb3
  by_cases x3 : e3 = 0
  case neg =>
    have hq : (e3 != 0) = true := by simpa using x3
    have HE : Hid (Pr.hdE s.data.toList = e3) := Pr.hd3 HR1.out HR2.out HR3.out x3
    obtain ⟨c0, f0⟩ := row_cells (cs := [.int .i64 0, .int .i64 0, .slice none 0 0]) HX3.out 0 (by simp)
    obtain ⟨c1, f1⟩ := row_cells (cs := [.int .i64 0, .int .i64 0, .slice none 0 0]) HX3.out 1 (by simp)
    obtain ⟨c2, f2⟩ := row_cells (cs := [.int .i64 0, .int .i64 0, .slice none 0 0]) HX3.out 2 (by simp)
    clear HX3
    go_wp2_with fail
    refine bodyPost_ret (v := .tuple #[.agg #[.int .i64 0, .int .i64 0, .slice none 0 0], .string ⟨#[]⟩, .int .i64 e3]) ?_ rfl
      ⟨0, 0, .slice none 0 0, ⟨#[]⟩, by rw [HE.out]; rfl, ⟨_, _, _, rfl⟩, Nat.zero_le _, fun h => absurd (HE.out.symm.trans h) x3, ((HB3.out.setCell (Nat.le_refl _) _).setCell (Nat.le_refl _) _).setCell (Nat.le_refl _) _⟩
    simp [results, asAddr, go_sem, c0, c1, c2]
  subst x3
  have hH := Pr.hd4 HR1.out HR2.out HR3.out
  obtain ⟨hE, hP⟩ := Pr.hdE_pairs hH
  have HH : Hid (Pr.H3 s.data.toList = ([n1, n2, n3], L3, 0)) := hH
  have hN3 := HN3.out.1
  have h4 := rlens_any s3 n3 w3 (by omega) hN3 (Pr.PP s.data.toList) (by rw [HS3.out]; exact hP)
  have HE : Hid (Pr.hdE s.data.toList = (Pr.PP s.data.toList).2.2) := hE
  clear hH hE hP
  obtain ⟨r, q, e4, hPP⟩ : ∃ r q e4, Pr.PP s.data.toList = (r, q, e4) := ⟨_, _, _, rfl⟩
  rw [hPP] at h4 HE
  have HPP : Hid (Pr.PP s.data.toList = (r, q, e4)) := hPP
  clear hPP
  dsimp only at h4 HE
  go_wp2_with fail
  refine h4.mono ?_
  rintro e w4 ⟨v4, s4, rfl, ⟨va, vn, vc, rfl⟩, z4, hL, hb4⟩
  clear h4
  have HL : Hid (e4 = 0 → Pr.Lens w3 w4 (r, q, e4) (.slice va vn vc) s4) := hL
  have HZ3 : Hid (w.heap.size < w3.heap.size) := (Array.getElem?_eq_some_iff.1 HX3.out).1
  have HB4 : Hid (Below w.heap.size w w4) := HB3.out.trans (hb4.mono HB3.out.size)
  have HX4 : Hid (w4.heap[w.heap.size]? = some (.cells #[.int .i64 0, .int .i64 0, .slice none 0 0] 64 (0, 0))) := (hb4.block _ (Array.getElem?_eq_some_iff.1 HX3.out).1).trans HX3.out
  clear HX3 HB3 hb4 hL
  by_cases x4 : e4 = 0
  case neg =>
    have hq : (e4 != 0) = true := by simpa using x4
    obtain ⟨c0, f0⟩ := row_cells (cs := [.int .i64 0, .int .i64 0, .slice none 0 0]) HX4.out 0 (by simp)
    obtain ⟨c1, f1⟩ := row_cells (cs := [.int .i64 0, .int .i64 0, .slice none 0 0]) HX4.out 1 (by simp)
    obtain ⟨c2, f2⟩ := row_cells (cs := [.int .i64 0, .int .i64 0, .slice none 0 0]) HX4.out 2 (by simp)
    clear HX4
    go_wp2_with fail
    refine bodyPost_ret (v := .tuple #[.agg #[.int .i64 0, .int .i64 0, .slice none 0 0], .string ⟨#[]⟩, .int .i64 e4]) ?_ rfl
      ⟨0, 0, .slice none 0 0, ⟨#[]⟩, by rw [HE.out]; rfl, ⟨_, _, _, rfl⟩, Nat.zero_le _, fun h => absurd (HE.out.symm.trans h) x4, ((HB4.out.setCell (Nat.le_refl _) _).setCell (Nat.le_refl _) _).setCell (Nat.le_refl _) _⟩
    simp [results, asAddr, go_sem, c0, c1, c2]
  subst x4
  obtain ⟨c0, f0⟩ := row_cells (cs := [.int .i64 0, .int .i64 0, .slice none 0 0]) HX4.out 0 (by simp)
  obtain ⟨c1, f1⟩ := row_cells (cs := [.int .i64 0, .int .i64 0, .slice none 0 0]) HX4.out 1 (by simp)
  obtain ⟨c2, f2⟩ := row_cells (cs := [.int .i64 0, .int .i64 0, .slice none 0 0]) HX4.out 2 (by simp)
  clear HX4
  go_wp2_with fail
  refine bodyPost_ret (v := .tuple #[.agg #[.int .i64 n1, .int .i64 n2, .slice va vn vc], .string s4, .int .i64 0]) ?_ rfl
    ⟨n1, n2, .slice va vn vc, s4, by rw [HE.out], ⟨_, _, _, rfl⟩, by omega, fun _ => ?_, ((HB4.out.setCell (Nat.le_refl _) _).setCell (Nat.le_refl _) _).setCell (Nat.le_refl _) _⟩
  · simp [results, asAddr, go_sem, c0, c1, c2]
  · obtain ⟨r1, r2, r3, r4⟩ := HL.out (by simp)
    have hk : Kept (fun k => k ≠ w.heap.size) w4 (((w4.setCell ⟨w.heap.size, 0, none⟩ (.int .i64 n1)).setCell ⟨w.heap.size, 1, none⟩ (.int .i64 n2)).setCell ⟨w.heap.size, 2, none⟩ (.slice va vn vc)) := (((Kept.refl _ _).setCell (by simp) _).setCell (by simp) _).setCell (by simp) _
    refine ⟨by rw [HH.out]; rfl, HN1.out.1, by rw [HH.out]; rfl, HN2.out.1, ?_, by rw [HPP.out]; exact r2, by rw [HPP.out]; exact r3, by rw [HPP.out]; exact r4⟩
    rw [HPP.out]
    refine row_lower (own_kept r1 hk fun g hg => ?_) (Nat.le_of_lt HZ3.out)
    obtain ⟨_, _, hb⟩ := own_block r1 hg
    have := HZ3.out
    omega
end Go.Proofs.Ytgdkfaphbbdnbaa
