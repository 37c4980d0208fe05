/-
  What readHead of package press answers.
  P22 (no Go in it): whatever is opened, no more than a file comes out, or an error and nothing; a sign's word bit by bit.
  Codes (no Go in it): signs of one length on a shelf, each code the one ahead plus 1; bits of bytes one by one.
  What take and onlyFilling of package press answer.
  A book of codes as it lies in memory; what find of package press answers.
  What readSign of package press answers.
  What readSigns of package press answers.
  Codes (no Go in it): bytes that are filled bit by bit.
  A writer of bits as it lies in memory; what put of package press does.
  What Pack of package lz answers.
  What swap of package huff does.
-/
import Derived.Test.YtkhejelmjkpgfaaG4
import Derived.Test.YtkhejelmjkpgfaaG3
import Derived.Test.YtkhejelmjkpgfaaG2
import Derived.Laws.BitsAllLaws
import Derived.BigQuiet
import Derived.Deep.QuietTactic
import Derived.BigRegion

namespace Go.Proofs.Ytkhejelmjkpgfaa
open Go.RowKit
set_option maxRecDepth 4000

namespace Pr
def H3 (s : Bs) : List Nat × Bs × Int := nums [4096, 12288, 256] s
def PP (s : Bs) : List Nat × Bs × Int := pairs ((H3 s).1.getD 2 0) (-1) (List.replicate 256 0) (H3 s).2.1
/-- what is wrong with a head -/
def hdE (s : Bs) : Int := if (H3 s).2.2 ≠ 0 then (H3 s).2.2 else (PP s).2.2
theorem opC_hd (s : Bs) : opC s = if hdE s ≠ 0 then ([], hdE s) else opS ((H3 s).1.getD 0 0) ((H3 s).1.getD 1 0) (PP s).1 (PP s).2.1 := by
  unfold opC hdE PP
  show (if (H3 s).2.2 ≠ 0 then _ else _) = _
  by_cases h : (H3 s).2.2 ≠ 0
  · rw [if_pos h, if_pos h, if_pos h]
    rfl
  · rw [if_neg h, if_neg h]
    rfl
theorem hd1 {L0 L1 : Bs} {n1 : Nat} {e1 : Int} (h : num1 4096 L0 = (n1, L1, e1)) (he : e1 ≠ 0) : hdE L0 = e1 := by
  have : H3 L0 = ([], [], e1) := by
    unfold H3
    rw [nums_cons, h, if_pos he]
  unfold hdE
  rw [this, if_pos he]
theorem hd2 {L0 L1 L2 : Bs} {n1 n2 : Nat} {e2 : Int} (h : num1 4096 L0 = (n1, L1, 0)) (h2 : num1 12288 L1 = (n2, L2, e2)) (he : e2 ≠ 0) : hdE L0 = e2 := by
  have : H3 L0 = ([], [], e2) := by
    unfold H3
    rw [nums_cons, h, if_neg (by simp), nums_cons, h2, if_pos he, if_pos he]
  unfold hdE
  rw [this, if_pos he]
theorem hd3 {L0 L1 L2 L3 : Bs} {n1 n2 n3 : Nat} {e3 : Int} (h : num1 4096 L0 = (n1, L1, 0)) (h2 : num1 12288 L1 = (n2, L2, 0)) (h3 : num1 256 L2 = (n3, L3, e3)) (he : e3 ≠ 0) : hdE L0 = e3 := by
  have a : nums [256] L2 = ([], [], e3) := by rw [nums_cons, h3, if_pos he]
  have b : nums [12288, 256] L1 = ([], [], e3) := by rw [nums_cons, h2, a, if_neg (by simp), if_pos he]
  have : H3 L0 = ([], [], e3) := by
    unfold H3
    rw [nums_cons, h, b, if_neg (by simp), if_pos he]
  unfold hdE
  rw [this, if_pos he]
theorem hd4 {L0 L1 L2 L3 : Bs} {n1 n2 n3 : Nat} (h : num1 4096 L0 = (n1, L1, 0)) (h2 : num1 12288 L1 = (n2, L2, 0)) (h3 : num1 256 L2 = (n3, L3, 0)) : H3 L0 = ([n1, n2, n3], L3, 0) := by
  have a : nums [256] L2 = ([n3], L3, 0) := by rw [nums_cons, h3, if_neg (by simp)]; rfl
  have b : nums [12288, 256] L1 = ([n2, n3], L3, 0) := by rw [nums_cons, h2, a, if_neg (by simp), if_neg (by simp)]
  unfold H3
  rw [nums_cons, h, b, if_neg (by simp), if_neg (by simp)]
theorem hdE_pairs {L0 L3 : Bs} {n1 n2 n3 : Nat} (h : H3 L0 = ([n1, n2, n3], L3, 0)) : hdE L0 = (PP L0).2.2 ∧ pairs n3 (-1) (List.replicate 256 0) L3 = PP L0 := by
  unfold hdE PP
  rw [h]
  exact ⟨rfl, rfl⟩
/-- what Go's readHead leaves -/
structure Head (w w' : World) (L : Bs) (n m : Nat) (v : Value) (s' : ByteArray) : Prop where
  size : (H3 L).1.getD 0 0 = n
  most : n ≤ 4096
  packed : (H3 L).1.getD 1 0 = m
  mostp : m ≤ 12288
  row : w'.ownsRow w.heap.size 3 1 v 256 ((Hf.up (PP L).1).map Iv)
  rest : s'.data.toList = (PP L).2.1
  len : (PP L).1.length = 256
  le : ∀ n ∈ (PP L).1, n ≤ 48
end Pr

theorem row_cells {W : World} {G : Nat} {cs : List Value} {T : TypeId} (h : W.heap[G]? = some (.cells cs.toArray T (0, 0))) (i : Nat) (_hi : i < cs.length) : W.cell? ⟨G, i, none⟩ = cs[i]? ∧ W.frozen? ⟨G, i, none⟩ = false := by
  refine ⟨?_, ?_⟩
  · rw [cell_of_row _ G i _ _ _ h]; simp
  · simp [World.frozen?, h]

set_option maxHeartbeats 4000000 in
theorem rhead_any (s : ByteArray) (w : World) (hs : s.size ≤ 140737488351232) :
    Calls Try.prog 83 #[.string s] w fun e w' => ∃ (n m : Nat) (v : Value) (s' : ByteArray), e = .returned (.tuple #[.agg #[.int .i64 n, .int .i64 m, v], .string s', .int .i64 (Pr.hdE s.data.toList)]) ∧ (∃ a n c, v = .slice a n c) ∧ s'.size ≤ s.size ∧
      (Pr.hdE s.data.toList = 0 → Pr.Head w w' s.data.toList n m v s') ∧ Below w.heap.size w w' := by
  obtain ⟨W0, hW0⟩ : ∃ W0, W0 = w.alloc (.cells #[.int .i64 0, .int .i64 0, .slice none 0 0] 118) := ⟨_, rfl⟩
  have HB0 : Hid (Below w.heap.size w W0) := by rw [hW0]; exact (Below.refl _ w).alloc (Nat.le_refl _) _
  have HX0 : Hid (W0.heap[w.heap.size]? = some (.cells #[.int .i64 0, .int .i64 0, .slice none 0 0] 118 (0, 0))) := by rw [hW0]; exact heap_alloc_new w _
  have h1 := rnum_any s 4096 W0 hs (by omega) (by omega)
  obtain ⟨n1, L1, e1, hr1⟩ : ∃ n1 L1 e1, Pr.num1 4096 s.data.toList = (n1, L1, e1) := ⟨_, _, _, rfl⟩
  have hn1 := Pr.num1_le 4096 s.data.toList
  rw [show (4096 : Int).toNat = 4096 from rfl, hr1] at h1
  rw [hr1] at hn1
  dsimp only at h1 hn1
  have HR1 : Hid (Pr.num1 4096 s.data.toList = (n1, L1, e1)) := hr1
  have HN1 : Hid (n1 ≤ 4096 ∧ L1.length ≤ s.data.toList.length) := hn1
  clear hr1 hn1
  rw [hW0] at h1
  go_enter Try.func83, Try.ntmps83
  go_wp2_with fail
  refine h1.mono ?_
  rw [← hW0]
  rintro e w1 ⟨s1, rfl, hs1, hb1⟩
  clear h1 hW0
  have HB1 : Hid (Below w.heap.size w w1) := HB0.out.trans (hb1.mono HB0.out.size)
  have HX1 : Hid (w1.heap[w.heap.size]? = some (.cells #[.int .i64 0, .int .i64 0, .slice none 0 0] 118 (0, 0))) := (hb1.block _ (Array.getElem?_eq_some_iff.1 HX0.out).1).trans HX0.out
  have HS1 : Hid (s1.data.toList = L1) := hs1
  have z1 : s1.size ≤ s.size := by rw [Lib.size_eq, Lib.size_eq, hs1]; exact HN1.out.2
  clear HX0 HB0 hs1 hb1
  by_cases x1 : e1 = 0
  case neg =>
    have hq : (e1 != 0) = true := by simpa using x1
    have HE : Hid (Pr.hdE s.data.toList = e1) := Pr.hd1 HR1.out x1
    obtain ⟨c0, f0⟩ := row_cells (cs := [.int .i64 0, .int .i64 0, .slice none 0 0]) HX1.out 0 (by simp)
    obtain ⟨c1, f1⟩ := row_cells (cs := [.int .i64 0, .int .i64 0, .slice none 0 0]) HX1.out 1 (by simp)
    obtain ⟨c2, f2⟩ := row_cells (cs := [.int .i64 0, .int .i64 0, .slice none 0 0]) HX1.out 2 (by simp)
    clear HX1
    go_wp2_with fail
    refine bodyPost_ret (v := .tuple #[.agg #[.int .i64 0, .int .i64 0, .slice none 0 0], .string ⟨#[]⟩, .int .i64 e1]) ?_ rfl
      ⟨0, 0, .slice none 0 0, ⟨#[]⟩, by rw [HE.out]; rfl, ⟨_, _, _, rfl⟩, Nat.zero_le _, fun h => absurd (HE.out.symm.trans h) x1, ((HB1.out.setCell (Nat.le_refl _) _).setCell (Nat.le_refl _) _).setCell (Nat.le_refl _) _⟩
    simp [results, asAddr, go_sem, c0, c1, c2]
  subst x1
  have h2 := rnum_any s1 12288 w1 (by omega) (by omega) (by omega)
  obtain ⟨n2, L2, e2, hr2⟩ : ∃ n2 L2 e2, Pr.num1 12288 s1.data.toList = (n2, L2, e2) := ⟨_, _, _, rfl⟩
  have hn2 := Pr.num1_le 12288 s1.data.toList
  rw [show (12288 : Int).toNat = 12288 from rfl, hr2] at h2
  rw [hr2] at hn2
  dsimp only at h2 hn2
  have HR2 : Hid (Pr.num1 12288 L1 = (n2, L2, e2)) := by rw [← HS1.out]; exact hr2
  have HN2 : Hid (n2 ≤ 12288 ∧ L2.length ≤ s1.data.toList.length) := hn2
  clear hr2 hn2
  go_wp2_with fail
  refine h2.mono ?_
  rintro e w2 ⟨s2, rfl, hs2, hb2⟩
  clear h2
  have HB2 : Hid (Below w.heap.size w w2) := HB1.out.trans (hb2.mono HB1.out.size)
  have HX2 : Hid (w2.heap[w.heap.size]? = some (.cells #[.int .i64 0, .int .i64 0, .slice none 0 0] 118 (0, 0))) := (hb2.block _ (Array.getElem?_eq_some_iff.1 HX1.out).1).trans HX1.out
  have HS2 : Hid (s2.data.toList = L2) := hs2
  have z2 : s2.size ≤ s.size := by
    have : s2.size ≤ s1.size := by rw [Lib.size_eq, Lib.size_eq, hs2]; exact HN2.out.2
    omega
  clear HX1 HB1 hs2 hb2
  by_cases x2 : e2 = 0
  case neg =>
    have hq : (e2 != 0) = true := by simpa using x2
    have HE : Hid (Pr.hdE s.data.toList = e2) := Pr.hd2 HR1.out HR2.out x2
    obtain ⟨c0, f0⟩ := row_cells (cs := [.int .i64 0, .int .i64 0, .slice none 0 0]) HX2.out 0 (by simp)
    obtain ⟨c1, f1⟩ := row_cells (cs := [.int .i64 0, .int .i64 0, .slice none 0 0]) HX2.out 1 (by simp)
    obtain ⟨c2, f2⟩ := row_cells (cs := [.int .i64 0, .int .i64 0, .slice none 0 0]) HX2.out 2 (by simp)
    clear HX2
    go_wp2_with fail
    refine bodyPost_ret (v := .tuple #[.agg #[.int .i64 0, .int .i64 0, .slice none 0 0], .string ⟨#[]⟩, .int .i64 e2]) ?_ rfl
      ⟨0, 0, .slice none 0 0, ⟨#[]⟩, by rw [HE.out]; rfl, ⟨_, _, _, rfl⟩, Nat.zero_le _, fun h => absurd (HE.out.symm.trans h) x2, ((HB2.out.setCell (Nat.le_refl _) _).setCell (Nat.le_refl _) _).setCell (Nat.le_refl _) _⟩
    simp [results, asAddr, go_sem, c0, c1, c2]
  subst x2
  have h3 := rnum_any s2 256 w2 (by omega) (by omega) (by omega)
  obtain ⟨n3, L3, e3, hr3⟩ : ∃ n3 L3 e3, Pr.num1 256 s2.data.toList = (n3, L3, e3) := ⟨_, _, _, rfl⟩
  have hn3 := Pr.num1_le 256 s2.data.toList
  rw [show (256 : Int).toNat = 256 from rfl, hr3] at h3
  rw [hr3] at hn3
  dsimp only at h3 hn3
  have HR3 : Hid (Pr.num1 256 L2 = (n3, L3, e3)) := by rw [← HS2.out]; exact hr3
  have HN3 : Hid (n3 ≤ 256 ∧ L3.length ≤ s2.data.toList.length) := hn3
  clear hr3 hn3
  go_wp2_with fail
  refine h3.mono ?_
  rintro e w3 ⟨s3, rfl, hs3, hb3⟩
  clear h3
  have HB3 : Hid (Below w.heap.size w w3) := HB2.out.trans (hb3.mono HB2.out.size)
  have HX3 : Hid (w3.heap[w.heap.size]? = some (.cells #[.int .i64 0, .int .i64 0, .slice none 0 0] 118 (0, 0))) := (hb3.block _ (Array.getElem?_eq_some_iff.1 HX2.out).1).trans HX2.out
  have HS3 : Hid (s3.data.toList = L3) := hs3
  have z3 : s3.size ≤ s.size := by
    have : s3.size ≤ s2.size := by rw [Lib.size_eq, Lib.size_eq, hs3]; exact HN3.out.2
    omega
  clear HX2 HB2 hs3 hb3
  by_cases x3 : e3 = 0
  case neg =>
    have hq : (e3 != 0) = true := by simpa using x3
    have HE : Hid (Pr.hdE s.data.toList = e3) := Pr.hd3 HR1.out HR2.out HR3.out x3
    obtain ⟨c0, f0⟩ := row_cells (cs := [.int .i64 0, .int .i64 0, .slice none 0 0]) HX3.out 0 (by simp)
    obtain ⟨c1, f1⟩ := row_cells (cs := [.int .i64 0, .int .i64 0, .slice none 0 0]) HX3.out 1 (by simp)
    obtain ⟨c2, f2⟩ := row_cells (cs := [.int .i64 0, .int .i64 0, .slice none 0 0]) HX3.out 2 (by simp)
    clear HX3
    go_wp2_with fail
    refine bodyPost_ret (v := .tuple #[.agg #[.int .i64 0, .int .i64 0, .slice none 0 0], .string ⟨#[]⟩, .int .i64 e3]) ?_ rfl
      ⟨0, 0, .slice none 0 0, ⟨#[]⟩, by rw [HE.out]; rfl, ⟨_, _, _, rfl⟩, Nat.zero_le _, fun h => absurd (HE.out.symm.trans h) x3, ((HB3.out.setCell (Nat.le_refl _) _).setCell (Nat.le_refl _) _).setCell (Nat.le_refl _) _⟩
    simp [results, asAddr, go_sem, c0, c1, c2]
  subst x3
  have hH := Pr.hd4 HR1.out HR2.out HR3.out
  obtain ⟨hE, hP⟩ := Pr.hdE_pairs hH
  have HH : Hid (Pr.H3 s.data.toList = ([n1, n2, n3], L3, 0)) := hH
  have hN3 := HN3.out.1
  have h4 := rlens_any s3 n3 w3 (by omega) hN3 (Pr.PP s.data.toList) (by rw [HS3.out]; exact hP)
  have HE : Hid (Pr.hdE s.data.toList = (Pr.PP s.data.toList).2.2) := hE
  clear hH hE hP
  obtain ⟨r, q, e4, hPP⟩ : ∃ r q e4, Pr.PP s.data.toList = (r, q, e4) := ⟨_, _, _, rfl⟩
  rw [hPP] at h4 HE
  have HPP : Hid (Pr.PP s.data.toList = (r, q, e4)) := hPP
  clear hPP
  dsimp only at h4 HE
  go_wp2_with fail
  refine h4.mono ?_
  rintro e w4 ⟨v4, s4, rfl, ⟨va, vn, vc, rfl⟩, z4, hL, hb4⟩
  clear h4
  have HL : Hid (e4 = 0 → Pr.Lens w3 w4 (r, q, e4) (.slice va vn vc) s4) := hL
  have HZ3 : Hid (w.heap.size < w3.heap.size) := (Array.getElem?_eq_some_iff.1 HX3.out).1
  have HB4 : Hid (Below w.heap.size w w4) := HB3.out.trans (hb4.mono HB3.out.size)
  have HX4 : Hid (w4.heap[w.heap.size]? = some (.cells #[.int .i64 0, .int .i64 0, .slice none 0 0] 118 (0, 0))) := (hb4.block _ (Array.getElem?_eq_some_iff.1 HX3.out).1).trans HX3.out
  clear HX3 HB3 hb4 hL
  by_cases x4 : e4 = 0
  case neg =>
    have hq : (e4 != 0) = true := by simpa using x4
    obtain ⟨c0, f0⟩ := row_cells (cs := [.int .i64 0, .int .i64 0, .slice none 0 0]) HX4.out 0 (by simp)
    obtain ⟨c1, f1⟩ := row_cells (cs := [.int .i64 0, .int .i64 0, .slice none 0 0]) HX4.out 1 (by simp)
    obtain ⟨c2, f2⟩ := row_cells (cs := [.int .i64 0, .int .i64 0, .slice none 0 0]) HX4.out 2 (by simp)
    clear HX4
    go_wp2_with fail
    refine bodyPost_ret (v := .tuple #[.agg #[.int .i64 0, .int .i64 0, .slice none 0 0], .string ⟨#[]⟩, .int .i64 e4]) ?_ rfl
      ⟨0, 0, .slice none 0 0, ⟨#[]⟩, by rw [HE.out]; rfl, ⟨_, _, _, rfl⟩, Nat.zero_le _, fun h => absurd (HE.out.symm.trans h) x4, ((HB4.out.setCell (Nat.le_refl _) _).setCell (Nat.le_refl _) _).setCell (Nat.le_refl _) _⟩
    simp [results, asAddr, go_sem, c0, c1, c2]
  subst x4
  obtain ⟨c0, f0⟩ := row_cells (cs := [.int .i64 0, .int .i64 0, .slice none 0 0]) HX4.out 0 (by simp)
  obtain ⟨c1, f1⟩ := row_cells (cs := [.int .i64 0, .int .i64 0, .slice none 0 0]) HX4.out 1 (by simp)
  obtain ⟨c2, f2⟩ := row_cells (cs := [.int .i64 0, .int .i64 0, .slice none 0 0]) HX4.out 2 (by simp)
  clear HX4
  go_wp2_with fail
  refine bodyPost_ret (v := .tuple #[.agg #[.int .i64 n1, .int .i64 n2, .slice va vn vc], .string s4, .int .i64 0]) ?_ rfl
    ⟨n1, n2, .slice va vn vc, s4, by rw [HE.out], ⟨_, _, _, rfl⟩, by omega, fun _ => ?_, ((HB4.out.setCell (Nat.le_refl _) _).setCell (Nat.le_refl _) _).setCell (Nat.le_refl _) _⟩
  · simp [results, asAddr, go_sem, c0, c1, c2]
  · obtain ⟨r1, r2, r3, r4⟩ := HL.out (by simp)
    have hk : Kept (fun k => k ≠ w.heap.size) w4 (((w4.setCell ⟨w.heap.size, 0, none⟩ (.int .i64 n1)).setCell ⟨w.heap.size, 1, none⟩ (.int .i64 n2)).setCell ⟨w.heap.size, 2, none⟩ (.slice va vn vc)) := (((Kept.refl _ _).setCell (by simp) _).setCell (by simp) _).setCell (by simp) _
    refine ⟨by rw [HH.out]; rfl, HN1.out.1, by rw [HH.out]; rfl, HN2.out.1, ?_, by rw [HPP.out]; exact r2, by rw [HPP.out]; exact r3, by rw [HPP.out]; exact r4⟩
    rw [HPP.out]
    refine row_lower (own_kept r1 hk fun g hg => ?_) (Nat.le_of_lt HZ3.out)
    obtain ⟨_, _, hb⟩ := own_block r1 hg
    have := HZ3.out
    omega
end Go.Proofs.Ytkhejelmjkpgfaa

namespace Go.Proofs.Ytkhejelmjkpgfaa
namespace Pr

/-- an answer of up to so many bytes, or an error and nothing -/
def Fine (m : Nat) (a : Bs × Int) : Prop := a.1.length ≤ m ∧ (a.2 = 0 ∨ a.1 = [])
theorem Fine.err (m : Nat) (e : Int) : Fine m ([], e) := ⟨Nat.zero_le _, .inr rfl⟩
theorem Fine.mono {m n : Nat} {a : Bs × Int} (h : Fine m a) (hm : m ≤ n) : Fine n a := ⟨Nat.le_trans h.1 hm, h.2⟩
theorem opT_fine (n : Nat) (T : Bs) : Fine n (opT n T) := by
  unfold opT
  split
  · exact .err _ _
  split
  · exact .err _ _
  split
  · exact .err _ _
  rename_i h1 h2 _
  refine ⟨?_, .inl rfl⟩
  cases e1 : Lz.rdA [] T with
  | mk l q =>
    rw [e1] at h1 h2
    obtain rfl : q = 0 := by simp at h1; omega
    obtain ⟨m, hm, _, hg, _⟩ := Lz.pack_read T.length T (Nat.le_refl _) [] l e1 (by simp)
    rw [List.nil_append] at hm
    subst hm
    cases e2 : Lz.ex n [] l with
    | mk u q =>
      rw [e2] at h2
      obtain rfl : q = 0 := by simp at h2; omega
      exact (Lz.ex_makes hg e2 (by simp)).2.2
theorem opS_fine (n m : Nat) (wide : List Nat) (s : Bs) : Fine n (opS n m wide s) := by
  unfold opS
  split
  · exact .err _ _
  split
  · exact .err _ _
  · exact .err _ _
  · split
    · exact opT_fine _ _
    · exact .err _ _
theorem nums_le (m : Nat) (ms : List Nat) (s : Bs) : (nums (m :: ms) s).1.getD 0 0 ≤ m := by
  rw [nums]
  split
  · exact Nat.zero_le _
  split
  · exact Nat.zero_le _
  split
  · exact Nat.zero_le _
  · rename_i h1 _
    show (Nm.getN s).1 ≤ m
    omega
theorem opC_fine (s : Bs) : Fine 4096 (opC s) := by
  unfold opC
  split
  · exact .err _ _
  have hn := nums_le 4096 [12288, 256] s
  simp only []
  split
  · exact .err _ _
  · exact (opS_fine _ _ _ _).mono hn
theorem op_fine (s : Bs) : Fine 4096 (op s) := by
  unfold op
  split
  · exact .err _ _
  split
  · split
    · exact .err _ _
    · rename_i h
      exact ⟨Nat.not_lt.1 h, .inl rfl⟩
  split
  · exact opC_fine _
  · exact .err _ _
theorem op_some {s : Bs} (h : (op s).2 = 0) : 0 < s.length := by
  cases s with
  | nil => exact absurd h (by decide)
  | cons _ _ => rw [List.length_cons]; omega
/-- a word stands in front where so many bits are there and their number is its code -/
theorem fits_val {l : List Nat} (g : Good l) {b : List Bool} {i : Nat} : fits l b i = true ↔ i < l.length ∧ 0 < l.getD i 0 ∧ l.getD i 0 ≤ b.length ∧ val (b.take (l.getD i 0)) = Hf.code l i := by
  rw [fits_iff]
  constructor
  · rintro ⟨h1, h2, h3⟩
    refine ⟨h1, h2, ?_, ?_⟩
    · have := congrArg List.length h3
      rw [W_length, List.length_take] at this
      omega
    · rw [h3]
      exact val_wd (g.lt h1 h2)
  · rintro ⟨h1, h2, h3, h4⟩
    refine ⟨h1, h2, ?_⟩
    have := wd_val (b.take (l.getD i 0))
    rw [List.length_take, Nat.min_eq_left h3, h4] at this
    exact this.symm
theorem val_take {b : List Bool} {k : Nat} (h : k < b.length) : val (b.take (k + 1)) = 2 * val (b.take k) + (if b[k] then 1 else 0) := by
  rw [List.take_add_one, List.getElem?_eq_getElem h]
  exact val_snoc _ _
theorem val_take_lt (b : List Bool) (k : Nat) : val (b.take k) < 2 ^ k := by
  refine Nat.lt_of_lt_of_le (val_lt _) (Nat.pow_le_pow_right (by omega : 2 > 0) ?_)
  rw [List.length_take]
  omega
/-- no sign of up to k bits stands in front -/
def Not (l : List Nat) (b : List Bool) (k : Nat) : Prop := ∀ i, fits l b i = true → k < l.getD i 0
theorem Not.start (l : List Nat) (b : List Bool) : Not l b 0 := fun _ h => (fits_iff.1 h).2.1
theorem Not.next {l : List Nat} (g : Good l) {b : List Bool} {k : Nat} (h : Not l b k) (hn : ∀ i, i < l.length → l.getD i 0 = k + 1 → val (b.take (k + 1)) ≠ Hf.code l i) : Not l b (k + 1) := by
  intro i hi
  have h1 := h i hi
  obtain ⟨f1, f2, f3, f4⟩ := (fits_val g).1 hi
  by_cases e : l.getD i 0 = k + 1
  · rw [e] at f4
    exact absurd f4 (hn i f1 e)
  · omega
theorem Not.none {l : List Nat} (g : Good l) {b : List Bool} {k : Nat} (h : Not l b k) (hk : k = 48 ∨ k = b.length) : front l b = .none := by
  rw [front_none]
  intro i
  cases e : fits l b i with
  | false => rfl
  | true =>
    have h1 := h i e
    obtain ⟨_, _, f3, _⟩ := (fits_val g).1 e
    have := g.le i
    omega
theorem front_hit {l : List Nat} (g : Good l) {b : List Bool} {k i : Nat} (hk : k ≤ b.length) (hi : i < l.length) (h0 : 0 < k) (e : l.getD i 0 = k) (hv : val (b.take k) = Hf.code l i) : front l b = some i :=
  (front_some g).2 ((fits_val g).2 ⟨hi, by omega, by omega, by rw [e]; exact hv⟩)
end Pr
end Go.Proofs.Ytkhejelmjkpgfaa

namespace Go.Proofs.Ytkhejelmjkpgfaa
namespace Pr

/-- the signs below k whose codes have n bits -/
def shelf (l : List Nat) (n k : Nat) : List Nat := (List.range k).filter fun i => decide (0 < n) && (l.getD i 0 == n)
theorem shelf_nought (l : List Nat) (k : Nat) : shelf l 0 k = [] := by
  unfold shelf
  exact List.filter_eq_nil_iff.2 fun _ _ => by simp
theorem shelf_zero (l : List Nat) (n : Nat) : shelf l n 0 = [] := rfl
theorem shelf_hit {l : List Nat} {n k : Nat} (hn : 0 < n) (h : l.getD k 0 = n) : shelf l n (k + 1) = shelf l n k ++ [k] := by
  unfold shelf
  rw [List.range_succ, List.filter_append]
  simp only [List.filter_cons, h, hn, decide_true, Bool.true_and, beq_self_eq_true, if_true, List.filter_nil]
theorem shelf_miss {l : List Nat} {n k : Nat} (h : l.getD k 0 ≠ n) : shelf l n (k + 1) = shelf l n k := by
  unfold shelf
  rw [List.range_succ, List.filter_append]
  simp only [List.filter_cons, beq_eq_false_iff_ne.2 h, Bool.and_false, Bool.false_eq_true, if_false, List.filter_nil, List.append_nil]
theorem shelf_len (l : List Nat) (n k : Nat) : (shelf l n k).length ≤ k := by
  have := List.length_filter_le (fun i => decide (0 < n) && (l.getD i 0 == n)) (List.range k)
  rw [List.length_range] at this
  exact this
theorem shelf_lt {l : List Nat} {n k : Nat} : ∀ i ∈ shelf l n k, i < k := by
  intro i hi
  exact List.mem_range.1 (List.mem_filter.1 hi).1
theorem nxt_shelf {l : List Nat} {n k : Nat} (hn : 0 < n) (hk : k ≤ l.length) : Hf.nxt l n k = Hf.nxt l n 0 + (shelf l n k).length := by
  induction k with
  | zero => rfl
  | succ k ih =>
    have ih := ih (by omega)
    by_cases h : l.getD k 0 = n
    · rw [Hf.nxt_hit (by omega) hn h, shelf_hit hn h, List.length_append, List.length_singleton, ih]
      omega
    · rw [Hf.nxt_miss h, shelf_miss h, ih]
theorem shelf_code {l : List Nat} {n k : Nat} (hn : 0 < n) (hk : k ≤ l.length) {t i : Nat} (ht : (shelf l n k)[t]? = some i) : i < k ∧ l.getD i 0 = n ∧ Hf.code l i = Hf.nxt l n 0 + t := by
  induction k with
  | zero => simp [shelf_zero] at ht
  | succ k ih =>
    have ih := ih (by omega)
    by_cases h : l.getD k 0 = n
    · rw [shelf_hit hn h] at ht
      by_cases hlt : t < (shelf l n k).length
      · rw [List.getElem?_append_left hlt] at ht
        have := ih ht
        exact ⟨by omega, this.2⟩
      · rw [List.getElem?_append_right (by omega)] at ht
        have h0 : t - (shelf l n k).length = 0 := by
          have := (List.getElem?_eq_some_iff.1 ht).1
          rw [List.length_singleton] at this
          omega
        rw [h0] at ht
        obtain rfl : k = i := by simpa using ht
        refine ⟨by omega, h, ?_⟩
        rw [Hf.code_nxt, h, nxt_shelf hn (by omega)]
        omega
    · rw [shelf_miss h] at ht
      have := ih ht
      exact ⟨by omega, this.2⟩
theorem shelf_there {l : List Nat} {n i : Nat} (hn : 0 < n) (hi : i < l.length) (h : l.getD i 0 = n) : ∃ t, (shelf l n l.length)[t]? = some i ∧ Hf.code l i = Hf.nxt l n 0 + t := by
  have hm : i ∈ shelf l n l.length := List.mem_filter.2 ⟨List.mem_range.2 hi, by rw [h]; simp [hn]⟩
  obtain ⟨t, ht⟩ := List.getElem?_of_mem hm
  exact ⟨t, ht, (shelf_code hn (Nat.le_refl _) ht).2.2⟩
/-- the sign of n bits with this code -/
def fnd (l : List Nat) (n c : Nat) : Option Nat := if Hf.nxt l n 0 ≤ c then (shelf l n l.length)[c - Hf.nxt l n 0]? else none
theorem fnd_some {l : List Nat} {n c i : Nat} (hn : 0 < n) (h : fnd l n c = some i) : i < l.length ∧ l.getD i 0 = n ∧ c = Hf.code l i := by
  unfold fnd at h
  split at h
  · have := shelf_code hn (Nat.le_refl _) h
    exact ⟨this.1, this.2.1, by omega⟩
  · simp at h
theorem fnd_none {l : List Nat} {n c : Nat} (hn : 0 < n) (h : fnd l n c = none) : ∀ i, i < l.length → l.getD i 0 = n → c ≠ Hf.code l i := by
  intro i hi e hc
  obtain ⟨t, h1, h2⟩ := shelf_there hn hi e
  unfold fnd at h
  rw [if_pos (by omega), show c - Hf.nxt l n 0 = t by omega, h1] at h
  simp at h
/-- what stands first on a shelf -/
def fst (l : List Nat) (n k : Nat) : Nat := if (shelf l n k).length = 0 then 0 else Hf.nxt l n 0
theorem fst_le {l : List Nat} (g : Good l) {n : Nat} (hn : n ≤ 48) (k : Nat) : fst l n k ≤ 281474976710656 := by
  unfold fst
  split
  · omega
  · exact Hf.nxt_bound hn g.sum
theorem fst_first {l : List Nat} {n k : Nat} (hn : 0 < n) (hk : k < l.length) (h : l.getD k 0 = n) : fst l n (k + 1) = if (shelf l n k).length = 0 then Hf.code l k else fst l n k := by
  unfold fst
  rw [shelf_hit hn h, List.length_append, List.length_singleton, if_neg (by omega)]
  split
  · rename_i h0
    have e := nxt_shelf hn (Nat.le_of_lt hk)
    rw [h0] at e
    rw [Hf.code_nxt, h, e]
    rfl
  · rfl
theorem fst_miss {l : List Nat} {n k : Nat} (h : l.getD k 0 ≠ n) : fst l n (k + 1) = fst l n k := by
  unfold fst
  rw [shelf_miss h]
/-- finding by what stands first -/
theorem fnd_first (l : List Nat) (n c : Nat) : fnd l n c = if fst l n l.length ≤ c then (shelf l n l.length)[c - fst l n l.length]? else none := by
  unfold fnd fst
  split
  · split
    · rename_i h
      rw [List.length_eq_zero_iff.1 h]
      simp
    · rfl
  · split
    · rename_i h
      rw [List.length_eq_zero_iff.1 h]
      simp
    · rfl
theorem wd_get {c n k : Nat} (h : k < n) : (wd c n)[k]? = some (decide (c / 2 ^ (n - 1 - k) % 2 = 1)) := by
  induction n generalizing c with
  | zero => omega
  | succ n ih =>
    rw [wd]
    by_cases hk : k < n
    · rw [List.getElem?_append_left (by rw [wd_length]; exact hk), ih hk, Nat.div_div_eq_div_mul, ← Nat.pow_succ', show n + 1 - 1 - k = n - 1 - k + 1 by omega]
    · obtain rfl : k = n := by omega
      rw [List.getElem?_append_right (by rw [wd_length]; exact Nat.le_refl _), wd_length, Nat.sub_self, show k + 1 - 1 - k = 0 by omega]
      simp
theorem bitsB_get {L : List Nat} {k : Nat} (h : k < 8 * L.length) : (bitsB L)[k]? = some (decide (L.getD (k / 8) 0 / 2 ^ (7 - k % 8) % 2 = 1)) := by
  induction L generalizing k with
  | nil => simp at h
  | cons b L ih =>
    rw [bitsB_cons]
    by_cases hk : k < 8
    · rw [List.getElem?_append_left (by rw [wd_length]; exact hk), wd_get hk, show k / 8 = 0 by omega, show k % 8 = k by omega]
      rfl
    · rw [List.length_cons] at h
      rw [List.getElem?_append_right (by rw [wd_length]; omega), wd_length, ih (by omega), show k / 8 = (k - 8) / 8 + 1 by omega, show k % 8 = (k - 8) % 8 by omega]
      rfl
end Pr
end Go.Proofs.Ytkhejelmjkpgfaa

namespace Go.Proofs.Ytkhejelmjkpgfaa
open Go.RowKit
set_option maxRecDepth 4000

/-- a reader of bits in a block of its own -/
def BR (W : World) (R : Nat) (s : ByteArray) (p : Nat) : Prop := W.heap[R]? = some (.cells #[.string s, .int .i64 p] 164 (0, 0))
theorem BR.cells {W : World} {R : Nat} {s : ByteArray} {p : Nat} (h : BR W R s p) : W.cell? ⟨R, 0, none⟩ = some (.string s) ∧ W.cell? ⟨R, 1, none⟩ = some (.int .i64 p) ∧ W.frozen? ⟨R, 1, none⟩ = false ∧ R < W.heap.size := by
  refine ⟨?_, ?_, ?_, (Array.getElem?_eq_some_iff.1 h).1⟩
  · rw [cell_of_row _ R 0 _ _ _ h]; rfl
  · rw [cell_of_row _ R 1 _ _ _ h]; rfl
  · simp [World.frozen?, show W.heap[R]? = _ from h]
theorem BR.kept {q : Nat → Prop} {W W' : World} {R : Nat} {s : ByteArray} {p : Nat} (h : BR W R s p) (hk : Kept q W W') (hR : q R) : BR W' R s p := hk.obj hR h
theorem BR.step {W : World} {R : Nat} {s : ByteArray} {p : Nat} (h : BR W R s p) (q : Nat) : BR (W.setCell ⟨R, 1, none⟩ (.int .i64 (q : Int))) R s q := by
  unfold BR at h ⊢
  rw [heap_setCell_same _ _ _ _ _ _ h]
  rfl
namespace Pr
/-- one bit of a text -/
def bt (s : ByteArray) (p : Nat) : Nat := (s.data.toList.getD (p / 8) 0).toNat / 2 ^ (7 - p % 8) % 2
end Pr
theorem i64_and_one (n : Nat) (h : n < 9223372036854775808) : bits .and .i64 (n : Int) 1 = ((n % 2 : Nat) : Int) := by
  show IntKind.i64.wrap ((BitVec.ofInt 64 (n : Int) &&& BitVec.ofInt 64 ((1 : Nat) : Int)).toNat : Int) = _
  rw [BitVec.toNat_and, ofInt_u64 n (by omega), ofInt_u64 1 (by omega), Nat.and_one_is_mod]
  simp [IntKind.wrap, IntKind.bits, IntKind.signed]
  omega
theorem bt_walk (s : ByteArray) (p q : Nat) (hq : q = p / 8) (h : q < s.size) : bits BinOp.and IntKind.i64 ((s[q].toNat : Int) / 2 ^ (7 - p % 8)) 1 = (Pr.bt s p : Int) := by
  have hb := s[q].toNat_lt
  have e : ((s[q].toNat : Int) / 2 ^ (7 - p % 8)) = ((s[q].toNat / 2 ^ (7 - p % 8) : Nat) : Int) := by simp
  have hd := Nat.div_le_self s[q].toNat (2 ^ (7 - p % 8))
  rw [e, i64_and_one _ (by omega)]
  unfold Pr.bt
  rw [← hq, List.getD_eq_getElem?_getD, byte_get s q h]
  rfl

set_option maxHeartbeats 1000000 in
theorem take_none (R : Nat) (s : ByteArray) (p : Nat) (w : World) (h : BR w R s p) (hs : s.size ≤ 140737488351232) (hp : p = 8 * s.size) :
    Calls Try.prog 133 #[.pointer (some ⟨R, 0, none⟩)] w fun e w' => e = .returned (.tuple #[.int .i64 0, .bool false]) ∧ Below w.heap.size w w' := by
  obtain ⟨c0, c1, f1, hR⟩ := h.cells
  have hq : ((p : Int) == 8 * (s.size : Int)) = true := by rw [beq_iff_eq]; omega
  have hp2 : p ≤ 1125899906809856 := by omega
  clear h hp
  go_enter Try.func133, Try.ntmps133
  go_wp2_with fail
  go_quiet (fail)
  go_wp2_with fail
  go_ret2
  exact ⟨rfl, below_drewN (Below.refl _ _) _⟩

set_option maxHeartbeats 1000000 in
theorem take_some (R : Nat) (s : ByteArray) (p : Nat) (w : World) (h : BR w R s p) (hs : s.size ≤ 140737488351232) (hp : p < 8 * s.size) :
    Calls Try.prog 133 #[.pointer (some ⟨R, 0, none⟩)] w fun e w' => e = .returned (.tuple #[.int .i64 (Pr.bt s p), .bool true]) ∧ BR w' R s (p + 1) ∧ Kept (fun k => k ≠ R) w w' := by
  obtain ⟨c0, c1, f1, hR⟩ := h.cells
  have hq : ((p : Int) == 8 * (s.size : Int)) = false := by rw [beq_eq_false_iff_ne]; omega
  have hp2 : p ≤ 1125899906809856 := by omega
  have HBR : Hid (BR w R s p) := h
  clear h
  go_enter Try.func133, Try.ntmps133
  go_wp2_with fail
  go_quiet (fail)
  obtain ⟨q, hq8⟩ : ∃ q, q = p / 8 := ⟨_, rfl⟩
  have i1 : (p : Int) / 8 = (q : Int) := by omega
  have i2 : q < s.size := by omega
  have i3 : (q : Int) < (s.size : Int) := by omega
  have HQ : Hid (q = p / 8) := hq8
  clear hq8 hp
  have b0 := s[q].toNat_lt
  have HBT : Hid (bits BinOp.and IntKind.i64 ((s[q].toNat : Int) / 2 ^ (7 - p % 8)) 1 = (Pr.bt s p : Int)) := bt_walk s p q HQ.out i2
  go_wp2_with fail
  refine wp_region_quiet_lit (by kernel_rfl) (by kernel_rfl) ?_
  repeat (go_big_quiet_step (fail))
  refine wpQuiet_nil ?_
  rintro w' ⟨nq', rfl⟩
  go_wp2_with fail
  go_ret2
  refine ⟨by rw [HBT.out]; rfl, ?_, ?_⟩
  · exact BR.step (W := w.drewN (nq + nq')) (HBR.out.kept (q := fun _ => True) (Kept.of_below (below_drewN (Below.refl _ _) _)) trivial) (p + 1)
  · exact Kept.setCell (p := fun k => k ≠ R) (Kept.of_below (below_drewN (Below.refl _ _) _)) (fun h => h rfl) _
/-- a bit that was taken, or none -/
def Took (W : World) (R : Nat) (s : ByteArray) (p : Nat) (b : Nat) (t : Bool) : Prop := (p < 8 * s.size ∧ t = true ∧ b = Pr.bt s p ∧ BR W R s (p + 1)) ∨ (p = 8 * s.size ∧ t = false ∧ b = 0 ∧ BR W R s p)
theorem btake_any (R : Nat) (s : ByteArray) (p : Nat) (w : World) (h : BR w R s p) (hs : s.size ≤ 140737488351232) (hp : p ≤ 8 * s.size) :
    Calls Try.prog 133 #[.pointer (some ⟨R, 0, none⟩)] w fun e w' => ∃ (b : Nat) (t : Bool), e = .returned (.tuple #[.int .i64 b, .bool t]) ∧ Took w' R s p b t ∧ Kept (fun k => k ≠ R) w w' := by
  by_cases hend : p = 8 * s.size
  · refine (take_none R s p w h hs hend).mono ?_
    rintro e w' ⟨rfl, hb⟩
    exact ⟨0, false, rfl, .inr ⟨hend, rfl, rfl, h.kept (q := fun _ => True) (Kept.of_below hb) trivial⟩, Kept.of_below hb⟩
  · refine (take_some R s p w h hs (by omega)).mono ?_
    rintro e w' ⟨rfl, hb, hk⟩
    exact ⟨_, true, rfl, .inl ⟨by omega, rfl, rfl, hb⟩, hk⟩
def brPos (w : World) (R : Nat) : Nat := match w.cell? ⟨R, 1, none⟩ with
  | some (.int _ n) => n.toNat
  | _ => 0
theorem BR.pos {W : World} {R : Nat} {s : ByteArray} {p : Nat} (h : BR W R s p) : brPos W R = p := by
  unfold brPos
  rw [h.cells.2.1]
  rfl
def boolN (t : Value) : Nat := match t with
  | .bool true => 1
  | _ => 0

namespace Pr
/-- the bits of a text -/
def bitsS (s : ByteArray) : List Bool := bitsB (dnB s.data.toList)
theorem bitsS_length (s : ByteArray) : (bitsS s).length = 8 * s.size := by
  unfold bitsS dnB
  rw [bitsB_length, List.length_map, ← Lib.size_eq]
theorem bitsS_get (s : ByteArray) (p : Nat) (h : p < 8 * s.size) : (bitsS s)[p]? = some (decide (bt s p = 1)) := by
  have hl : (dnB s.data.toList).length = s.size := by unfold dnB; rw [List.length_map, ← Lib.size_eq]
  unfold bitsS bt
  rw [bitsB_get (by rw [hl]; exact h)]
  unfold dnB
  rw [List.getD_eq_getElem?_getD, List.getD_eq_getElem?_getD, List.getElem?_map]
  cases e : s.data.toList[p / 8]? with
  | none => rfl
  | some b => rfl
theorem bt_lt (s : ByteArray) (p : Nat) : bt s p < 2 := Nat.mod_lt _ (by omega)
theorem bitsS_drop (s : ByteArray) (p : Nat) (h : p < 8 * s.size) : (bitsS s).drop p = decide (bt s p = 1) :: (bitsS s).drop (p + 1) := by
  rw [List.drop_eq_getElem_cons (by rw [bitsS_length]; exact h)]
  have := bitsS_get s p h
  rw [List.getElem?_eq_getElem (by rw [bitsS_length]; exact h)] at this
  rw [Option.some.inj this]
/-- nothing left but filling -/
theorem clean_more (s : ByteArray) (p : Nat) (h : (p + 7) / 8 < s.size) : clean ((bitsS s).drop p) = false := by
  have hl : ((bitsS s).drop p).length = 8 * s.size - p := by rw [List.length_drop, bitsS_length]
  unfold clean
  rw [hl, decide_eq_false (by omega), Bool.false_and]
theorem clean_few (s : ByteArray) (p : Nat) (h : ¬ (p + 7) / 8 < s.size) : clean ((bitsS s).drop p) = ((bitsS s).drop p).all fun b => !b := by
  have hl : ((bitsS s).drop p).length = 8 * s.size - p := by rw [List.length_drop, bitsS_length]
  unfold clean
  rw [hl, decide_eq_true (by omega), Bool.true_and]
theorem all_one (s : ByteArray) (p : Nat) (h : p < 8 * s.size) (hb : bt s p = 1) : (((bitsS s).drop p).all fun b => !b) = false := by
  rw [bitsS_drop s p h, List.all_cons, hb]
  rfl
theorem all_zero (s : ByteArray) (p : Nat) (h : p < 8 * s.size) (hb : bt s p ≠ 1) : (((bitsS s).drop p).all fun b => !b) = (((bitsS s).drop (p + 1)).all fun b => !b) := by
  rw [bitsS_drop s p h, List.all_cons, decide_eq_false hb]
  rfl
theorem all_none (s : ByteArray) (p : Nat) (h : 8 * s.size ≤ p) : (((bitsS s).drop p).all fun b => !b) = true := by
  rw [List.drop_eq_nil_of_le (by rw [bitsS_length]; exact h)]
  rfl
end Pr

set_option maxHeartbeats 2000000 in
theorem fill_any (R : Nat) (s : ByteArray) (p : Nat) (w : World) (h : BR w R s p) (hs : s.size ≤ 140737488351232) (hp : p ≤ 8 * s.size) :
    Calls Try.prog 118 #[.pointer (some ⟨R, 0, none⟩)] w fun e w' => e = .returned (.bool (Pr.clean ((Pr.bitsS s).drop p))) ∧ Kept (fun k => k ≠ R) w w' := by
  obtain ⟨c0, c1, f1, hR⟩ := h.cells
  have hp2 : p ≤ 1125899906809856 := by omega
  by_cases hmore : (p + 7) / 8 < s.size
  · have HC : Hid (Pr.clean ((Pr.bitsS s).drop p) = false) := Pr.clean_more s p hmore
    have hq : decide (((p : Int) + 8 - 1) / 8 < (s.size : Int)) = true := decide_eq_true (by omega)
    clear h hmore
    go_enter Try.func118, Try.ntmps118
    go_wp2_with fail
    go_ret
    exact ⟨by rw [HC.out]; rfl, Kept.refl _ _⟩
  have HC : Hid (Pr.clean ((Pr.bitsS s).drop p) = ((Pr.bitsS s).drop p).all fun b => !b) := Pr.clean_few s p hmore
  have hq : decide (((p : Int) + 8 - 1) / 8 < (s.size : Int)) = false := decide_eq_false (by omega)
  obtain ⟨A, hA⟩ : ∃ A, (((Pr.bitsS s).drop p).all fun b => !b) = A := ⟨_, rfl⟩
  rw [hA] at HC
  have HA : Hid ((((Pr.bitsS s).drop p).all fun b => !b) = A) := hA
  have HBR : Hid (BR w R s p) := h
  clear hmore hA h
  have ht := btake_any R s p w HBR.out hs hp
  go_enter Try.func118, Try.ntmps118
  go_wp2_with fail
  refine ht.mono ?_
  rintro e w1 ⟨b, t, rfl, htk, hk1⟩
  clear c0 c1 f1 ht hq
  have HT1 : Hid (Took w1 R s p b t) := htk
  have HK1 : Hid (Kept (fun k => k ≠ R) w w1) := hk1
  clear htk hk1
  go_wp2_with fail
  go_loopw [4, 5] (fun bv tv wr => ∃ (q b : Nat) (t : Bool), q ≤ 8 * s.size ∧ bv = .int .i64 b ∧ tv = .bool t ∧ Hid (Took wr R s q b t) ∧ Hid ((((Pr.bitsS s).drop q).all fun b => !b) = A) ∧ Hid (Kept (fun k => k ≠ R) w wr)) (fun _ tv wr => (8 * s.size - brPos wr R) + boolN tv)
  case atStart => exact ⟨p, b, t, hp, rfl, rfl, HT1, HA, HK1⟩
  case round =>
    clear HBR HT1 HK1
    obtain ⟨q, b, t, hq, rfl, rfl, htk, hall, hk⟩ := hrel
    rcases htk.out with ⟨h1, rfl, hbt, hbr⟩ | ⟨h1, rfl, hbt, hbr⟩
    · by_cases h2 : Pr.bt s q = 1
      · have HAF : Hid (A = false) := by show A = false; rw [← hall.out]; exact Pr.all_one s q h1 h2
        have hne : ((b : Int) != 0) = true := by rw [bne_iff_ne]; omega
        clear hall hbt h2 htk hbr
        go_wp2_with fail
        go_ret
        exact ⟨by rw [HC.out, HAF.out]; rfl, hk.out⟩
      · have hlt := Pr.bt_lt s q
        have hne : ((b : Int) != 0) = false := by rw [bne_eq_false_iff_eq]; omega
        have HN : Hid ((((Pr.bitsS s).drop (q + 1)).all fun b => !b) = A) := by show _ = A; rw [← hall.out]; exact (Pr.all_zero s q h1 h2).symm
        have HP : Hid (brPos wr R = q + 1) := hbr.pos
        have ht := btake_any R s (q + 1) wr hbr hs (by omega)
        clear hall hbt h2 htk hbr hlt
        go_wp2_with fail
        refine ht.mono ?_
        rintro e w2 ⟨b2, t2, rfl, htk, hk2⟩
        have HT2 : Hid (Took w2 R s (q + 1) b2 t2) := htk
        have HK2 : Hid (Kept (fun k => k ≠ R) w w2) := hk.out.trans hk2
        have HM : Hid ((8 * s.size - brPos w2 R) + boolN (.bool t2) < (8 * s.size - brPos wr R) + boolN (.bool true)) := by
          show _ < _
          rw [HP.out]
          rcases htk with ⟨g1, rfl, _, g2⟩ | ⟨g1, rfl, _, g2⟩
          · rw [g2.pos]; show _ + 1 < _ + 1; omega
          · rw [g2.pos]; show _ + 0 < _ + 1; omega
        clear htk hk2 ht hk
        go_wp2_with fail
        go_roundw
        case rel => exact ⟨q + 1, b2, t2, by omega, rfl, rfl, HT2, HN, HK2⟩
        case measure => exact HM.out
    · have HAT : Hid (A = true) := by show A = true; rw [← hall.out]; exact Pr.all_none s q (by omega)
      clear hall hbt htk hbr
      go_wp2_with fail
      go_ret
      exact ⟨by rw [HC.out, HAT.out]; rfl, hk.out⟩
end Go.Proofs.Ytkhejelmjkpgfaa

namespace Go.Proofs.Ytkhejelmjkpgfaa
open Go.RowKit
set_option maxRecDepth 4000

/-- the cells of a book: for each number of bits the first code and the signs -/
def bookC (f : Nat → Nat) (V : Nat → Value) : List Value := (List.range 49).flatMap fun n => [.int .i64 (f n), V n]
theorem flat_two (a b : Nat → Value) (N : Nat) : ((List.range N).flatMap fun n => [a n, b n]).length = 2 * N ∧ ∀ i, i < 2 * N → ((List.range N).flatMap fun n => [a n, b n])[i]? = some (if i % 2 = 0 then a (i / 2) else b (i / 2)) := by
  induction N with
  | zero => exact ⟨rfl, fun i h => by omega⟩
  | succ N ih =>
    obtain ⟨h1, h2⟩ := ih
    rw [List.range_succ, List.flatMap_append]
    refine ⟨by rw [List.length_append, h1]; simp; omega, fun i hi => ?_⟩
    by_cases h : i < 2 * N
    · rw [List.getElem?_append_left (by rw [h1]; exact h), h2 i h]
    · rw [List.getElem?_append_right (by rw [h1]; omega), h1]
      by_cases e : i = 2 * N
      · subst e
        rw [Nat.sub_self, if_pos (by omega), show 2 * N / 2 = N by omega]
        rfl
      · obtain rfl : i = 2 * N + 1 := by omega
        rw [show 2 * N + 1 - 2 * N = 1 by omega, if_neg (by omega), show (2 * N + 1) / 2 = N by omega]
        rfl
theorem bookC_length (f : Nat → Nat) (V : Nat → Value) : (bookC f V).length = 98 := (flat_two _ _ 49).1
theorem bookC_get (f : Nat → Nat) (V : Nat → Value) (i : Nat) (h : i < 98) : (bookC f V)[i]? = some (if i % 2 = 0 then .int .i64 (f (i / 2)) else V (i / 2)) := (flat_two _ _ 49).2 i h
theorem bookC_first (f : Nat → Nat) (V : Nat → Value) (n : Nat) (h : n ≤ 48) : (bookC f V)[n * 2]? = some (.int .i64 (f n)) := by
  rw [bookC_get _ _ _ (by omega), if_pos (by omega), show n * 2 / 2 = n by omega]
theorem bookC_signs (f : Nat → Nat) (V : Nat → Value) (n : Nat) (h : n ≤ 48) : (bookC f V)[n * 2 + 1]? = some (V n) := by
  rw [bookC_get _ _ _ (by omega), if_neg (by omega), show (n * 2 + 1) / 2 = n by omega]
theorem bookC_set0 (f : Nat → Nat) (V : Nat → Value) (n x : Nat) : (bookC f V).set (n * 2) (.int .i64 x) = bookC (fun m => if m = n then x else f m) V := by
  refine List.ext_getElem? fun i => ?_
  by_cases h : i < 98
  · rw [List.getElem?_set, bookC_length, bookC_get _ _ _ h, bookC_get _ _ _ h]
    by_cases e : n * 2 = i
    · rw [if_pos e, if_pos (by omega), if_pos (by omega), if_pos (by omega)]
    · rw [if_neg e]
      by_cases e2 : i % 2 = 0
      · rw [if_pos e2, if_pos e2, if_neg (by omega)]
      · rw [if_neg e2, if_neg e2]
  · rw [List.getElem?_eq_none (by rw [List.length_set, bookC_length]; omega), List.getElem?_eq_none (by rw [bookC_length]; omega)]
theorem bookC_set1 (f : Nat → Nat) (V : Nat → Value) (n : Nat) (v : Value) : (bookC f V).set (n * 2 + 1) v = bookC f (fun m => if m = n then v else V m) := by
  refine List.ext_getElem? fun i => ?_
  by_cases h : i < 98
  · rw [List.getElem?_set, bookC_length, bookC_get _ _ _ h, bookC_get _ _ _ h]
    by_cases e : n * 2 + 1 = i
    · rw [if_pos e, if_pos (by omega), if_neg (by omega), if_pos (by omega)]
    · rw [if_neg e]
      by_cases e2 : i % 2 = 0
      · rw [if_pos e2, if_pos e2]
      · rw [if_neg e2, if_neg e2, if_neg (by omega)]
  · rw [List.getElem?_eq_none (by rw [List.length_set, bookC_length]; omega), List.getElem?_eq_none (by rw [bookC_length]; omega)]
theorem bookC_congr {f g : Nat → Nat} {V U : Nat → Value} (h1 : ∀ n, n ≤ 48 → f n = g n) (h2 : ∀ n, n ≤ 48 → V n = U n) : bookC f V = bookC g U := by
  refine List.ext_getElem? fun i => ?_
  by_cases h : i < 98
  · rw [bookC_get _ _ _ h, bookC_get _ _ _ h, h1 _ (by omega), h2 _ (by omega)]
  · rw [List.getElem?_eq_none (by rw [bookC_length]; omega), List.getElem?_eq_none (by rw [bookC_length]; omega)]
/-- a book as it lies in memory: what stands first and the signs, for each number of bits -/
structure BookF (W : World) (base G : Nat) (f : Nat → Nat) (S : Nat → List Nat) (V : Nat → Value) : Prop where
  box : W.heap[G]? = some (.cells (bookC f V).toArray 162 (0, 0))
  old : base ≤ G
  row : ∀ n, n ≤ 48 → W.ownsRow base 5 1 (V n) (S n).length ((Pr.upB (S n)).map B)
  apart : ∀ n m, n ≤ 48 → m ≤ 48 → n ≠ m → ∀ g, (V n).ownBlock = some g → (V m).ownBlock ≠ some g
/-- a book of the codes of lengths l, the signs below k put in -/
abbrev Book (W : World) (base G : Nat) (l : List Nat) (k : Nat) (V : Nat → Value) : Prop := BookF W base G (fun n => Pr.fst l n k) (fun n => Pr.shelf l n k) V
theorem Book.below {W W' : World} {base G : Nat} {l : List Nat} {k : Nat} {V : Nat → Value} (h : Book W base G l k V) (hb : Below W.heap.size W W') : Book W' base G l k V :=
  ⟨(hb.block _ (Array.getElem?_eq_some_iff.1 h.box).1).trans h.box, h.old, fun n hn => row_below (h.row n hn) hb, h.apart⟩
theorem Book.kept {q : Nat → Prop} {W W' : World} {base G : Nat} {l : List Nat} {k : Nat} {V : Nat → Value} (h : Book W base G l k V) (hk : Kept q W W') (hG : q G) (hV : ∀ n, n ≤ 48 → ∀ g, (V n).ownBlock = some g → q g) : Book W' base G l k V :=
  ⟨hk.obj hG h.box, h.old, fun n hn => own_kept (h.row n hn) hk (hV n hn), h.apart⟩
theorem Book.lt {W : World} {base G : Nat} {l : List Nat} {k : Nat} {V : Nat → Value} (h : Book W base G l k V) : G < W.heap.size := (Array.getElem?_eq_some_iff.1 h.box).1
theorem Book.cells {W : World} {base G : Nat} {l : List Nat} {k : Nat} {V : Nat → Value} (h : Book W base G l k V) (n : Nat) (hn : n ≤ 48) :
    W.cell? ⟨G, n * 2, none⟩ = some (.int .i64 (Pr.fst l n k : Nat)) ∧ W.cell? ⟨G, n * 2 + 1, none⟩ = some (V n) ∧ W.frozen? ⟨G, n * 2, none⟩ = false ∧ W.frozen? ⟨G, n * 2 + 1, none⟩ = false := by
  obtain ⟨a1, a2⟩ := row_cells h.box (n * 2) (by rw [bookC_length]; omega)
  obtain ⟨b1, b2⟩ := row_cells h.box (n * 2 + 1) (by rw [bookC_length]; omega)
  exact ⟨a1.trans (bookC_first _ _ n hn), b1.trans (bookC_signs _ _ n hn), a2, b2⟩
theorem upB_length (l : List Nat) : (Pr.upB l).length = l.length := by simp [Pr.upB]
theorem Book.slice {W : World} {base G : Nat} {l : List Nat} {k : Nat} {V : Nat → Value} (h : Book W base G l k V) (n : Nat) (hn : n ≤ 48) : ∃ a c, V n = .slice a (Pr.shelf l n k).length c ∧ (0 < (Pr.shelf l n k).length → ∃ g, a = some ⟨g, 0, none⟩ ∧ g < W.heap.size ∧ (V n).ownBlock = some g) := by
  rcases (h.row n hn).2 with ⟨e, h0⟩ | ⟨g, cap, cur, e, _, hh, _⟩
  · exact ⟨none, 0, by rw [e, h0], fun h => by omega⟩
  · exact ⟨_, _, e, fun _ => ⟨g, rfl, (Array.getElem?_eq_some_iff.1 hh).1, by rw [e]; rfl⟩⟩
theorem Book.sign {W : World} {base G : Nat} {l : List Nat} {k : Nat} {V : Nat → Value} (h : Book W base G l k V) {n : Nat} (hn : n ≤ 48) {g : Nat} (hg : (V n).ownBlock = some g) {t i : Nat} (ht : (Pr.shelf l n k)[t]? = some i) (hi : i < 256) : W.cell? ⟨g, t, none⟩ = some (.int .u8 i) := by
  have hr := h.row n hn
  rcases hr.2 with ⟨e, h0⟩ | ⟨g', cap, cur, e, _⟩
  · rw [e] at hg
    simp [Value.ownBlock] at hg
  · rw [e] at hg
    obtain rfl : g' = g := by simpa [Value.ownBlock] using hg
    rw [e] at hr
    have hlt := (List.getElem?_eq_some_iff.1 ht).1
    have := hr.cellAt t (by omega)
    rw [this]
    simp only [Pr.upB, List.getElem?_map, ht, Option.map_some, B]
    rw [UInt8.toNat_ofNat', Nat.mod_eq_of_lt hi]

set_option maxHeartbeats 1000000 in
theorem find_any (base G : Nat) (l : List Nat) (V : Nat → Value) (n c : Nat) (w : World) (h : Book w base G l l.length V) (g : Pr.Good l) (hl : l.length ≤ 256) (h0 : 0 < n) (hn : n ≤ 48) (hc : c ≤ 281474976710656) :
    Calls Try.prog 134 #[.pointer (some ⟨G, 0, none⟩), .int .i64 c, .int .i64 n] w fun e w' => e = .returned (.tuple #[.int .u8 ((Pr.fnd l n c).getD 0 : Nat), .bool (Pr.fnd l n c).isSome]) ∧ Below w.heap.size w w' := by
  have hf := Pr.fst_le g hn l.length
  obtain ⟨c0, c1, _, _⟩ := h.cells n hn
  obtain ⟨a, cap, hV, hg⟩ := h.slice n hn
  rw [hV] at c1
  have HF := Pr.fnd_first l n c
  have HS : Hid (∀ t i, (Pr.shelf l n l.length)[t]? = some i → i < 256) := fun t i ht => by have := (Pr.shelf_code h0 (Nat.le_refl _) ht).1; omega
  have hsl := Pr.shelf_len l n l.length
  by_cases hlt : c < Pr.fst l n l.length
  · rw [if_neg (by omega)] at HF
    rw [HF]
    generalize Pr.fst l n l.length = F at *
    clear HF hg hV h
    go_enter Try.func134, Try.ntmps134
    go_wp2_with fail
    go_ret2
    exact ⟨rfl, (Below.refl _ w).alloc (Nat.le_refl _) _⟩
  rw [if_pos (by omega)] at HF
  obtain ⟨t, ht⟩ : ∃ t, c = Pr.fst l n l.length + t := ⟨c - Pr.fst l n l.length, by omega⟩
  rw [show c - Pr.fst l n l.length = t by omega] at HF
  by_cases hlen : t < (Pr.shelf l n l.length).length
  · obtain ⟨g', rfl, hg', hob⟩ := hg (by omega)
    rw [List.getElem?_eq_getElem hlen] at HF
    have hsg := h.sign hn hob (List.getElem?_eq_getElem hlen) (HS.out t _ (List.getElem?_eq_getElem hlen))
    generalize (Pr.shelf l n l.length)[t] = i at *
    rw [HF]
    have hct : (c : Int) - (Pr.fst l n l.length : Nat) = (t : Int) := by omega
    generalize (Pr.shelf l n l.length).length = sl at *
    generalize Pr.fst l n l.length = F at *
    have hgn : g' ≠ w.heap.size := by omega
    clear HF hV h ht hlt HS hg hob
    go_enter Try.func134, Try.ntmps134
    go_wp2_with fail
    go_ret2
    exact ⟨rfl, (Below.refl _ w).alloc (Nat.le_refl _) _⟩
  · rw [List.getElem?_eq_none (by omega)] at HF
    rw [HF]
    have hct : (c : Int) - (Pr.fst l n l.length : Nat) = (t : Int) := by omega
    generalize (Pr.shelf l n l.length).length = sl at *
    generalize Pr.fst l n l.length = F at *
    clear HF hV h ht hlt HS hg
    go_enter Try.func134, Try.ntmps134
    go_wp2_with fail
    go_ret2
    exact ⟨rfl, (Below.refl _ w).alloc (Nat.le_refl _) _⟩
end Go.Proofs.Ytkhejelmjkpgfaa

namespace Go.Proofs.Ytkhejelmjkpgfaa
open Go.RowKit
set_option maxRecDepth 4000

theorem i64_or_bit (c b : Nat) (hc : c < 1152921504606846976) (hb : b < 2) : bits .or .i64 ((c : Int) * 2) (b : Int) = ((2 * c + b : Nat) : Int) := by
  rw [show (c : Int) * 2 = ((c * 2 : Nat) : Int) from by omega]
  show IntKind.i64.wrap ((BitVec.ofInt 64 ((c * 2 : Nat) : Int) ||| BitVec.ofInt 64 (b : Int)).toNat : Int) = _
  have e : c * 2 ||| b = 2 * c + b := by
    have := Nat.two_pow_add_eq_or_of_lt (i := 1) (b := b) hb c
    rw [Nat.mul_comm]
    exact this.symm
  rw [BitVec.toNat_or, ofInt_u64 (c * 2) (by omega), ofInt_u64 b (by omega), e]
  simp [IntKind.wrap, IntKind.bits, IntKind.signed]
  omega
namespace Pr
def sgnV (l : List Nat) (b : List Bool) : Nat := (front l b).getD 0
def sgnE (l : List Nat) (b : List Bool) : Int := match front l b with
  | some _ => 0
  | none => if 48 ≤ b.length then 4 else 3
/-- one bit more -/
theorem val_more {s : ByteArray} {p k : Nat} (h : p + k < 8 * s.size) : val (((bitsS s).drop p).take (k + 1)) = 2 * val (((bitsS s).drop p).take k) + bt s (p + k) := by
  have hl : k < ((bitsS s).drop p).length := by rw [List.length_drop, bitsS_length]; omega
  have hg := bitsS_get s (p + k) h
  have hb := bt_lt s (p + k)
  rw [List.take_add_one, List.getElem?_drop, hg]
  show val (_ ++ [_]) = _
  rw [val_snoc]
  by_cases e : bt s (p + k) = 1
  · rw [e]; rfl
  · rw [decide_eq_false e]
    simp only [Bool.false_eq_true, if_false]
    omega
end Pr
/-- a book and a reader that lie apart -/
theorem Book.apart_br {W : World} {base G : Nat} {l : List Nat} {k : Nat} {V : Nat → Value} (h : Book W base G l k V) {R p : Nat} {s : ByteArray} (hb : BR W R s p) : G ≠ R ∧ ∀ n, n ≤ 48 → ∀ g, (V n).ownBlock = some g → g ≠ R := by
  refine ⟨fun e => ?_, fun n hn g hg e => ?_⟩
  · subst e
    have := h.box.symm.trans hb
    simp at this
  · subst e
    obtain ⟨cur, hc, _⟩ := own_block (h.row n hn) hg
    have := hc.symm.trans hb
    simp at this

set_option maxHeartbeats 2000000 in
theorem rsign_any (base G R : Nat) (l : List Nat) (V : Nat → Value) (s : ByteArray) (p : Nat) (w : World) (h : Book w base G l l.length V) (g : Pr.Good l) (hl : l.length ≤ 256) (hbr : BR w R s p) (hs : s.size ≤ 140737488351232) (hp : p ≤ 8 * s.size)
    (Q : List Bool) (hQ : (Pr.bitsS s).drop p = Q) :
    Calls Try.prog 117 #[.pointer (some ⟨G, 0, none⟩), .pointer (some ⟨R, 0, none⟩)] w fun e w' => e = .returned (.tuple #[.int .u8 (Pr.sgnV l Q), .int .i64 (Pr.sgnE l Q)]) ∧ Kept (fun k => k ≠ R) w w' ∧ ∀ i, Pr.front l Q = some i → BR w' R s (p + l.getD i 0) := by
  have HQL : Hid (Q.length = 8 * s.size - p) := by show _ = _; rw [← hQ, List.length_drop, Pr.bitsS_length]
  have HVM : Hid (∀ k, p + k < 8 * s.size → Pr.val (Q.take (k + 1)) = 2 * Pr.val (Q.take k) + Pr.bt s (p + k)) := by rw [← hQ]; exact fun k hk => Pr.val_more hk
  have HBK : Hid (Book w base G l l.length V) := h
  have HBR : Hid (BR w R s p) := hbr
  have HAP : Hid (G ≠ R ∧ ∀ n, n ≤ 48 → ∀ g, (V n).ownBlock = some g → g ≠ R) := h.apart_br hbr
  have HG : Hid (Pr.Good l) := g
  clear hQ h hbr g
  go_enter Try.func117, Try.ntmps117
  go_wp2_with fail
  go_loopw [6, 7] (fun cv nv wr => ∃ k : Nat, k ≤ 48 ∧ k ≤ 8 * s.size - p ∧ nv = .int .i64 ((k : Int) + 1) ∧ cv = .int .i64 (Pr.val (Q.take k) : Nat) ∧ Hid (BR wr R s (p + k)) ∧ Hid (Pr.Not l Q k) ∧ Hid (Kept (fun k => k ≠ R) w wr)) (fun _ nv _ => 49 - (intOf nv).toNat)
  case atStart => exact ⟨0, by omega, by omega, rfl, rfl, HBR, Pr.Not.start _ _, Kept.refl _ _⟩
  case round =>
    obtain ⟨k, hk, hkp, rfl, rfl, hbr, hnot, hkept⟩ := hrel
    by_cases hlt : k < 48
    · have ht := btake_any R s (p + k) wr hbr.out hs (by omega)
      have hv := Pr.val_take_lt Q k
      have hv2 : Pr.val (Q.take k) < 281474976710656 := Nat.lt_of_lt_of_le hv (Nat.pow_le_pow_right (by omega : 2 > 0) hk)
      have HV1 := HVM.out k
      clear hv
      generalize hC : Pr.val (Q.take k) = C at *
      clear hC
      go_wp2_with fail
      refine ht.mono ?_
      rintro e w1 ⟨b, t, rfl, htk, hk1⟩
      have HK1 : Hid (Kept (fun k => k ≠ R) w w1) := hkept.out.trans hk1
      clear ht hk1 hkept
      rcases htk with ⟨h1, rfl, hbt, hb1⟩ | ⟨h1, rfl, hbt, hb1⟩
      · have hb2 := Pr.bt_lt s (p + k)
        rw [← hbt] at hb2
        have HV2 : Hid (Pr.val (Q.take (k + 1)) = 2 * C + b) := by show _ = _; rw [HV1 h1, hbt]
        have hor := i64_or_bit C b (by omega) hb2
        have hv3 : 2 * C + b ≤ 281474976710656 := by
          have := Pr.val_take_lt Q (k + 1)
          rw [HV2.out] at this
          exact Nat.le_of_lt (Nat.lt_of_lt_of_le this (Nat.pow_le_pow_right (by omega : 2 > 0) (by omega : k + 1 ≤ 48)))
        have HB1 : Hid (BR w1 R s (p + (k + 1))) := hb1
        have hf := find_any base G l V (k + 1) (2 * C + b) w1 (HBK.out.kept HK1.out HAP.out.1 HAP.out.2) HG.out hl (by omega) (by omega) hv3
        have ek : ((k + 1 : Nat) : Int) = (k : Int) + 1 := by omega
        rw [ek] at hf
        generalize hD : 2 * C + b = D at *
        clear ek hbt hD HV1 hb1 hbr
        cases hF : Pr.fnd l (k + 1) D with
        | some i =>
          rw [hF] at hf
          dsimp only [Option.getD, Option.isSome] at hf
          obtain ⟨i1, i2, i3⟩ := Pr.fnd_some (by omega) hF
          have hfr : Pr.front l Q = some i := Pr.front_hit HG.out (k := k + 1) (by rw [HQL.out]; omega) i1 (by omega) i2 (by rw [HV2.out]; exact i3)
          have HSV : Hid (Pr.sgnV l Q = i) := by show (Pr.front l Q).getD 0 = i; rw [hfr]; rfl
          have HSE : Hid (Pr.sgnE l Q = 0) := by show Pr.sgnE l Q = 0; unfold Pr.sgnE; rw [hfr]
          have HFI : Hid (∀ i', Pr.front l Q = some i' → l.getD i' 0 = k + 1) := fun i' h' => by
            rw [hfr] at h'
            rw [← Option.some.inj h']
            exact i2
          clear hF i1 i2 i3 hfr hnot
          go_wp2_with fail
          refine hf.mono ?_
          rintro e w2 ⟨rfl, hb2⟩
          go_wp2_with fail
          go_ret2
          refine ⟨by rw [HSV.out, HSE.out]; rfl, HK1.out.trans (Kept.of_below hb2), fun i' h' => ?_⟩
          rw [HFI.out i' h']
          exact HB1.out.kept (q := fun _ => True) (Kept.of_below hb2) trivial
        | none =>
          rw [hF] at hf
          dsimp only [Option.getD, Option.isSome] at hf
          have HN : Hid (Pr.Not l Q (k + 1)) := hnot.out.next HG.out fun i hi e => by rw [HV2.out]; exact Pr.fnd_none (by omega) hF i hi e
          clear hF hnot
          go_wp2_with fail
          refine hf.mono ?_
          rintro e w2 ⟨rfl, hb2⟩
          have HK2 : Hid (Kept (fun k => k ≠ R) w w2) := HK1.out.trans (Kept.of_below hb2)
          have HB2 : Hid (BR w2 R s (p + (k + 1))) := HB1.out.kept (q := fun _ => True) (Kept.of_below hb2) trivial
          clear hb2 hf HB1
          go_wp2_with fail
          go_roundw
          case rel => exact ⟨k + 1, by omega, by omega, by go_num, by rw [HV2.out], HB2, HN, HK2⟩
          case measure => simp only [intOf]; omega
      · have hfr : Pr.front l Q = none := hnot.out.none HG.out (.inr (by rw [HQL.out]; omega))
        have HSV : Hid (Pr.sgnV l Q = 0) := by show (Pr.front l Q).getD 0 = 0; rw [hfr]; rfl
        have HSE : Hid (Pr.sgnE l Q = 3) := by
          show Pr.sgnE l Q = 3
          unfold Pr.sgnE
          rw [hfr]
          show (if 48 ≤ Q.length then (4 : Int) else 3) = 3
          rw [if_neg (by rw [HQL.out]; omega)]
        have HF : Hid (∀ i', Pr.front l Q = some i' → False) := fun i' h' => by rw [hfr] at h'; exact absurd h' (by simp)
        clear hfr hbt hb1 HV1 hnot hbr
        go_wp2_with fail
        go_ret2
        exact ⟨by rw [HSV.out, HSE.out]; rfl, HK1.out, fun i' h' => (HF.out i' h').elim⟩
    · have hfr : Pr.front l Q = none := hnot.out.none HG.out (.inl (by omega))
      have HSV : Hid (Pr.sgnV l Q = 0) := by show (Pr.front l Q).getD 0 = 0; rw [hfr]; rfl
      have HSE : Hid (Pr.sgnE l Q = 4) := by
        show Pr.sgnE l Q = 4
        unfold Pr.sgnE
        rw [hfr]
        show (if 48 ≤ Q.length then (4 : Int) else 3) = 4
        rw [if_pos (by rw [HQL.out]; omega)]
      have HF : Hid (∀ i', Pr.front l Q = some i' → False) := fun i' h' => by rw [hfr] at h'; exact absurd h' (by simp)
      clear hfr hnot hbr
      generalize Pr.val (Q.take k) = C at *
      go_wp2_with fail
      go_ret2
      exact ⟨by rw [HSV.out, HSE.out]; rfl, hkept.out, fun i' h' => (HF.out i' h').elim⟩
end Go.Proofs.Ytkhejelmjkpgfaa

namespace Go.Proofs.Ytkhejelmjkpgfaa
open Go.RowKit
set_option maxRecDepth 4000

namespace Pr
/-- so many signs and nothing but filling behind them: the answer, the error -/
def rsO : Sum Bool (List Nat × List Bool) → Bs × Int
  | .inl true => ([], 4)
  | .inl false => ([], 3)
  | .inr (t, r) => if clean r then (upB t, 0) else ([], 4)
def rs (l : List Nat) (m : Nat) (b : List Bool) : Bs × Int := rsO (signs l m b)
theorem opS_rs (n m : Nat) (wide : List Nat) (s : Bs) : opS n m wide s = if 2 ^ 48 < Hf.ksum wide then ([], 4) else if (rs wide m (bitsB (dnB s))).2 ≠ 0 then ([], (rs wide m (bitsB (dnB s))).2) else opT n (rs wide m (bitsB (dnB s))).1 := by
  unfold opS rs
  split
  · rfl
  · cases signs wide m (bitsB (dnB s)) with
    | inl e => cases e <;> rfl
    | inr q =>
      obtain ⟨t, r⟩ := q
      show (if clean r then opT n (upB t) else ([], 4)) = if (if clean r then (upB t, (0 : Int)) else ([], 4)).2 ≠ 0 then _ else _
      cases h : clean r <;> simp [rsO, h]
def cat (out : List Nat) : Sum Bool (List Nat × List Bool) → Sum Bool (List Nat × List Bool)
  | .inl e => .inl e
  | .inr (t, r) => .inr (out ++ t, r)
theorem cat_nil (x : Sum Bool (List Nat × List Bool)) : cat [] x = x := by
  cases x with
  | inl e => rfl
  | inr q => rfl
theorem cat_none {l : List Nat} {j : Nat} {b : List Bool} {out : List Nat} (h : front l b = none) : rsO (cat out (signs l (j + 1) b)) = ([], sgnE l b) := by
  rw [signs, h]
  unfold sgnE
  rw [h]
  show rsO (.inl (decide (48 ≤ b.length))) = ([], if 48 ≤ b.length then 4 else 3)
  by_cases e : 48 ≤ b.length
  · rw [decide_eq_true e, if_pos e]; rfl
  · rw [decide_eq_false e, if_neg e]; rfl
theorem cat_some {l : List Nat} {j i p : Nat} {b : List Bool} {out : List Nat} (h : front l (b.drop p) = some i) : cat out (signs l (j + 1) (b.drop p)) = cat (out ++ [i]) (signs l j (b.drop (p + l.getD i 0))) := by
  rw [signs, h]
  simp only [List.drop_drop]
  cases signs l j (b.drop (p + l.getD i 0)) with
  | inl e => rfl
  | inr q =>
    obtain ⟨t, r⟩ := q
    show Sum.inr (out ++ i :: t, r) = Sum.inr (out ++ [i] ++ t, r)
    rw [List.append_assoc]
    rfl
theorem cat_end (l : List Nat) (b : List Bool) (out : List Nat) : rsO (cat out (signs l 0 b)) = if clean b then (upB out, 0) else ([], 4) := by
  show (if clean b then (upB (out ++ []), 0) else ([], 4)) = _
  rw [List.append_nil]
theorem front_len {l : List Nat} (g : Good l) {b : List Bool} {i : Nat} (h : front l b = some i) : i < l.length ∧ l.getD i 0 ≤ b.length := by
  obtain ⟨h1, _, h3, _⟩ := (fits_val g).1 ((front_some g).1 h)
  exact ⟨h1, h3⟩
end Pr
/-- a row of bytes is no reader -/
theorem BR.apart {W : World} {base R p n : Nat} {s : ByteArray} {v : Value} {xs : List Value} (hb : BR W R s p) (h : W.ownsRow base 5 1 v n xs) : ∀ g, v.ownBlock = some g → g ≠ R := by
  intro g hg e
  subst e
  obtain ⟨cur, hc, _⟩ := own_block h hg
  have := hc.symm.trans hb
  simp at this
theorem up_more (out : List Nat) (i : Nat) : Pr.upB (out ++ [i]) = Pr.upB out ++ [UInt8.ofNat i] := by simp [Pr.upB]

set_option maxHeartbeats 4000000 in
theorem rsigns_any (base G : Nat) (l : List Nat) (V : Nat → Value) (s : ByteArray) (m : Nat) (w : World) (h : Book w base G l l.length V) (g : Pr.Good l) (hl : l.length ≤ 256) (hs : s.size ≤ 140737488351232) (hm : m ≤ 12288)
    (O : Pr.Bs × Int) (hO : Pr.rs l m (Pr.bitsS s) = O) :
    Calls Try.prog 85 #[.pointer (some ⟨G, 0, none⟩), .string s, .int .i64 m] w fun e w' => e = .returned (.tuple #[.string ⟨O.1.toArray⟩, .int .i64 O.2]) ∧ Below w.heap.size w w' := by
  obtain ⟨i0, hi, hz0, hz1, hz2⟩ := info_parts info_u8
  have HBK : Hid (Book w base G l l.length V) := h
  have HG : Hid (Pr.Good l) := g
  have HO : Hid (Pr.rsO (Pr.cat [] (Pr.signs l m ((Pr.bitsS s).drop 0))) = O) := by show _ = O; rw [Pr.cat_nil, List.drop_zero]; exact hO
  obtain ⟨W0, hW0⟩ : ∃ W0, W0 = w.alloc (.cells #[.string s, .int .i64 0] 164) := ⟨_, rfl⟩
  have HB0 : Hid (Below w.heap.size w W0) := by rw [hW0]; exact (Below.refl _ w).alloc (Nat.le_refl _) _
  have HR0 : Hid (BR W0 w.heap.size s 0) := by rw [hW0]; exact heap_alloc_new w _
  clear h g hO
  go_enter Try.func85, Try.ntmps85
  go_wp2_with fail
  rw [← hW0]
  clear hW0
  go_loopw [9, 15] (fun v i wr => ∃ (k p : Nat) (out : List Nat), k ≤ m ∧ i = .int .i64 k ∧ Hid (out.length = k) ∧ p ≤ 8 * s.size ∧ Hid (BR wr w.heap.size s p) ∧ wr.ownsRow w.heap.size 5 1 v (Pr.upB out).length ((Pr.upB out).map B) ∧ Hid (Pr.rsO (Pr.cat out (Pr.signs l (m - k) ((Pr.bitsS s).drop p))) = O) ∧ Hid (Below w.heap.size w wr)) (fun _ i _ => m - (intOf i).toNat)
  case atStart => exact ⟨0, 0, [], by omega, rfl, rfl, by omega, HR0, World.ownsRow_nil _ _ _ _, HO, HB0⟩
  case round =>
    obtain ⟨k, p, out, hk, rfl, hout, hp, hbr, hown, hO, hbel⟩ := hrel
    obtain ⟨a9, c9, rfl⟩ := own_form hown
    have hol : (Pr.upB out).length ≤ k := by rw [upB_length, hout.out]; exact Nat.le_refl _
    by_cases hlt : k < m
    · obtain ⟨j, hj⟩ : ∃ j, m - k = j + 1 := ⟨m - k - 1, by omega⟩
      have HJ : Hid (m - (k + 1) = j) := by show _ = _; omega
      rw [hj] at hO
      clear hj
      have hrs := rsign_any base G w.heap.size l V s p wr (HBK.out.below hbel.out) HG.out hl hbr.out hs hp _ rfl
      cases hF : Pr.front l ((Pr.bitsS s).drop p) with
      | none =>
        have HE : Hid (O = ([], Pr.sgnE l ((Pr.bitsS s).drop p))) := by show O = _; rw [← hO.out]; exact Pr.cat_none hF
        have hne : (Pr.sgnE l ((Pr.bitsS s).drop p) != 0) = true := by
          rw [bne_iff_ne]
          unfold Pr.sgnE
          rw [hF]
          show (if _ then (4 : Int) else 3) ≠ 0
          split <;> omega
        clear hO hF hol
        generalize Pr.sgnE l ((Pr.bitsS s).drop p) = E at *
        generalize Pr.sgnV l ((Pr.bitsS s).drop p) = F at *
        go_wp2_with fail
        refine hrs.mono ?_
        rintro e w1 ⟨rfl, hk1, _⟩
        have HB1 : Hid (Below w.heap.size w w1) := hbel.out.trans (hk1.below hbel.out.size fun k hk => by omega)
        clear hrs hk1
        go_wp2_with fail
        go_ret2
        exact ⟨by rw [HE.out]; rfl, HB1.out⟩
      | some i =>
        obtain ⟨i1, i2⟩ := Pr.front_len HG.out hF
        have hQl : ((Pr.bitsS s).drop p).length = 8 * s.size - p := by rw [List.length_drop, Pr.bitsS_length]
        have HO2 : Hid (Pr.rsO (Pr.cat (out ++ [i]) (Pr.signs l j ((Pr.bitsS s).drop (p + l.getD i 0)))) = O) := by show _ = O; rw [← hO.out, Pr.cat_some hF]
        have hsv : Pr.sgnV l ((Pr.bitsS s).drop p) = i := by show (Pr.front l _).getD 0 = i; rw [hF]; rfl
        have hse : Pr.sgnE l ((Pr.bitsS s).drop p) = 0 := by unfold Pr.sgnE; rw [hF]
        have HP2 : Hid (p + l.getD i 0 ≤ 8 * s.size) := by show _ ≤ _; omega
        rw [hsv, hse] at hrs
        have i256 : i < 256 := by omega
        have HF2 : Hid (Pr.front l ((Pr.bitsS s).drop p) = some i) := hF
        clear hO hF i2 hQl hsv hse
        go_wp2_with fail
        refine hrs.mono ?_
        rintro e w1 ⟨rfl, hk1, hbr1⟩
        have hbr1 := hbr1 i HF2.out
        generalize l.getD i 0 = d at *
        have hown1 := own_kept hown hk1 (hbr.out.apart hown)
        have hB1 : Below w.heap.size w w1 := hbel.out.trans (hk1.below hbel.out.size fun k hk => by omega)
        have HB1 : Hid (Below w.heap.size w w1) := hB1
        have HR1 : Hid (BR w1 w.heap.size s (p + d)) := hbr1
        have HAP : Hid (∀ g, (Value.slice a9 (Pr.upB out).length c9).ownBlock = some g → g ≠ w.heap.size) := hbr1.apart hown1
        have hw1 : w.heap.size < w1.heap.size := (Array.getElem?_eq_some_iff.1 hbr1).1
        clear hrs hk1 hbr1 hB1 hown hbel hbr HF2
        go_wp2_with (at_builtin; refine wpList_append_own _ rfl (.tmp 25) (.tmp 27) 51 rfl w.heap.size 5 i0 (.int .u8 0) 1 1 Try.underlying51 hi hz0 hz1 hz2 rfl (by decide) _ _ _ rfl (hown1.alloc _) ⟨w1.heap.size, 0, none⟩ 1 1 [.int .u8 (i : Int)] rfl rfl ?c1 ?c2 ?c3 ?c4 ?c5 ?_)
        case c1 =>
          intro j u hj
          match j, hj with
          | 0, hj => simp at hj; subst hj; simp [Addr.add]
        case c2 => intro u hu; simp at hu; subst hu; rfl
        case c3 => unfold maxLen; omega
        case c4 => omega
        case c5 => simp; omega
        intro v1 w3 hown3 hgrow _
        have HO3 : Hid (w3.ownsRow w.heap.size 5 1 v1 (Pr.upB (out ++ [i])).length ((Pr.upB (out ++ [i])).map B)) := by
          rw [up_more]
          refine own_byte ?_
          rw [UInt8.toNat_ofNat', Nat.mod_eq_of_lt i256]
          exact hown3
        have HB3 : Hid (Below w.heap.size w w3) := (HB1.out.alloc (by omega) _).grown hgrow (by simp; omega) fun j hj => (hown1.lt j hj).1
        have HR3 : Hid (BR w3 w.heap.size s (p + d)) := (hgrow.block _ (by simp; omega) (fun e => HAP.out _ e.symm rfl)).trans ((Below.heap_alloc _ _ _ hw1).trans HR1.out)
        clear hown3 hgrow hown1 HB1 HR1 HAP
        go_wp2_with fail
        go_roundw
        case rel => exact ⟨k + 1, p + d, out ++ [i], by omega, by go_num, by show _ = _; rw [List.length_append, hout.out]; rfl, HP2.out, HR3, HO3.out, by rw [HJ.out]; exact HO2, HB3⟩
        case measure => simp only [intOf]; omega
    · obtain rfl : k = m := by omega
      rw [Nat.sub_self, Pr.cat_end] at hO
      have hf := fill_any w.heap.size s p wr hbr.out hs hp
      have hap := hbr.out.apart hown
      generalize Pr.clean ((Pr.bitsS s).drop p) = C at *
      cases C with
      | false =>
        have HE : Hid (O = ([], 4)) := hO.out.symm
        clear hO
        go_wp2_with fail
        refine hf.mono ?_
        rintro e w1 ⟨rfl, hk1⟩
        have HB1 : Hid (Below w.heap.size w w1) := hbel.out.trans (hk1.below hbel.out.size fun k hk => by omega)
        clear hf hk1
        go_wp2_with fail
        go_ret2
        exact ⟨by rw [HE.out]; rfl, HB1.out⟩
      | true =>
        have HE : Hid (O = (Pr.upB out, 0)) := hO.out.symm
        clear hO
        go_wp2_with fail
        refine hf.mono ?_
        rintro e w1 ⟨rfl, hk1⟩
        have HB1 : Hid (Below w.heap.size w w1) := hbel.out.trans (hk1.below hbel.out.size fun k hk => by omega)
        have hstr := run_str (own_kept hown hk1 hap)
        clear hf hk1 hown
        go_wp2_with fail
        go_ret2
        exact ⟨by rw [HE.out]; rfl, HB1.out⟩
end Go.Proofs.Ytkhejelmjkpgfaa

namespace Go.Proofs.Ytkhejelmjkpgfaa
namespace Pr

theorem val_zeros (l : List Bool) (k : Nat) : val (l ++ List.replicate k false) = val l * 2 ^ k := by
  induction k with
  | zero => simp
  | succ k ih =>
    rw [List.replicate_succ', ← List.append_assoc, val_snoc, ih, Nat.pow_succ]
    simp only [Bool.false_eq_true, if_false, Nat.add_zero]
    rw [Nat.mul_comm 2, Nat.mul_assoc]
theorem bytesN_append {q k : Nat} {a c : List Bool} (h : a.length = 8 * q) : bytesN (q + k) (a ++ c) = bytesN q a ++ bytesN k c := by
  induction q generalizing a with
  | zero =>
    rw [List.length_eq_zero_iff.1 (by omega : a.length = 0), Nat.zero_add]
    rfl
  | succ q ih =>
    rw [show q + 1 + k = (q + k) + 1 by omega, bytesN, bytesN, List.take_append_of_le_length (by omega), List.drop_append_of_le_length (by omega), ih (by rw [List.length_drop]; omega)]
    rfl
theorem zs_add (q r : Nat) : zs (8 * q + r) = zs r := by
  unfold zs
  rw [show (8 * q + r) % 8 = r % 8 by omega]
theorem bytes_append {q : Nat} {a c : List Bool} (h : a.length = 8 * q) : bytes (a ++ c) = bytesN q a ++ bytes c := by
  unfold bytes
  rw [List.length_append, h, zs_add, show (8 * q + c.length + 7) / 8 = q + (c.length + 7) / 8 by omega, List.append_assoc, bytesN_append h]
theorem bytes_few {c : List Bool} (h0 : 0 < c.length) (h : c.length ≤ 8) : bytes c = [val c * 2 ^ (8 - c.length)] := by
  unfold bytes
  rw [show (c.length + 7) / 8 = 0 + 1 by omega, bytesN, bytesN]
  have hz : zs c.length = List.replicate (8 - c.length) false := by
    unfold zs
    rw [show (8 - c.length % 8) % 8 = 8 - c.length by omega]
  rw [hz, List.take_of_length_le (by rw [List.length_append, List.length_replicate]; omega), val_zeros]
/-- one bit more -/
theorem bytes_step (b : List Bool) (x : Bool) : ∃ (P : List Nat) (y : Nat), P.length = b.length / 8 ∧ (if b.length % 8 = 0 then bytes b ++ [0] else bytes b) = P ++ [y * 2 ^ (8 - b.length % 8)] ∧ y < 2 ^ (b.length % 8) ∧
    bytes (b ++ [x]) = P ++ [y * 2 ^ (8 - b.length % 8) + (if x then 2 ^ (7 - b.length % 8) else 0)] := by
  obtain ⟨a, c, rfl, ha, hc⟩ : ∃ a c, b = a ++ c ∧ a.length = 8 * (b.length / 8) ∧ c.length = b.length % 8 :=
    ⟨b.take (8 * (b.length / 8)), b.drop (8 * (b.length / 8)), (List.take_append_drop _ _).symm, by rw [List.length_take]; omega, by rw [List.length_drop]; omega⟩
  generalize hq : (a ++ c).length / 8 = q at *
  generalize hr : (a ++ c).length % 8 = r at *
  have hr8 : r < 8 := by omega
  refine ⟨bytesN q a, val c, bytesN_length _ _, ?_, ?_, ?_⟩
  · rw [bytes_append ha]
    by_cases h0 : r = 0
    · rw [if_pos h0, List.length_eq_zero_iff.1 (by omega : c.length = 0)]
      show bytesN q a ++ bytesN 0 _ ++ [0] = _
      rw [bytesN, List.append_nil]
      simp [val]
    · rw [if_neg h0, bytes_few (by omega) (by omega), hc]
  · have := val_lt c
    rw [hc] at this
    exact this
  · rw [List.append_assoc, bytes_append ha, bytes_few (by simp) (by rw [List.length_append, List.length_singleton]; omega), List.length_append, List.length_singleton, hc, val_snoc]
    congr 2
    have e : 2 ^ (8 - r) = 2 * 2 ^ (7 - r) := by rw [← Nat.pow_succ']; congr 1; omega
    rw [show 8 - (r + 1) = 7 - r by omega, e, Nat.add_mul]
    congr 1
    · rw [Nat.mul_comm 2 (val c), Nat.mul_assoc]
    · cases x
      · simp
      · simp
theorem or_bit {y r s : Nat} (hr : r < 8) (hs : s < 2) : y * 2 ^ (8 - r) ||| s * 2 ^ (7 - r) = y * 2 ^ (8 - r) + s * 2 ^ (7 - r) := by
  have hlt : s * 2 ^ (7 - r) < 2 ^ (8 - r) := by
    have e : 2 ^ (8 - r) = 2 * 2 ^ (7 - r) := by rw [← Nat.pow_succ']; congr 1; omega
    rw [e]
    exact Nat.mul_lt_mul_of_pos_right hs (Nat.two_pow_pos _)
  have := Nat.two_pow_add_eq_or_of_lt hlt y
  rw [Nat.mul_comm y]
  exact this.symm
/-- how many bits of the last byte are free -/
def free (n : Nat) : Nat := (8 - n % 8) % 8
end Pr
end Go.Proofs.Ytkhejelmjkpgfaa

namespace Go.Proofs.Ytkhejelmjkpgfaa
open Go.RowKit
set_option maxRecDepth 4000

/-- a writer of bits: its block, its bytes, how many bits are free -/
structure BW (W : World) (base Wb : Nat) (v : Value) (bs : List UInt8) (fr : Nat) : Prop where
  box : W.heap[Wb]? = some (.cells #[v, .int .i64 fr] 111 (0, 0))
  old : base ≤ Wb
  row : W.ownsRow base 5 1 v bs.length (bs.map B)
theorem BW.cells {W : World} {base Wb fr : Nat} {v : Value} {bs : List UInt8} (h : BW W base Wb v bs fr) : W.cell? ⟨Wb, 0, none⟩ = some v ∧ W.cell? ⟨Wb, 1, none⟩ = some (.int .i64 fr) ∧ W.frozen? ⟨Wb, 0, none⟩ = false ∧ W.frozen? ⟨Wb, 1, none⟩ = false ∧ Wb < W.heap.size := by
  refine ⟨?_, ?_, ?_, ?_, (Array.getElem?_eq_some_iff.1 h.box).1⟩
  · rw [cell_of_row _ Wb 0 _ _ _ h.box]; rfl
  · rw [cell_of_row _ Wb 1 _ _ _ h.box]; rfl
  · simp [World.frozen?, h.box]
  · simp [World.frozen?, h.box]
theorem BW.apart {W : World} {base Wb fr : Nat} {v : Value} {bs : List UInt8} (h : BW W base Wb v bs fr) : ∀ g, v.ownBlock = some g → g ≠ Wb := by
  intro g hg e
  subst e
  obtain ⟨cur, hc, _⟩ := own_block h.row hg
  have := hc.symm.trans h.box
  simp at this
theorem BW.below {W W' : World} {base Wb fr : Nat} {v : Value} {bs : List UInt8} (h : BW W base Wb v bs fr) (hb : Below W.heap.size W W') : BW W' base Wb v bs fr :=
  ⟨(hb.block _ (Array.getElem?_eq_some_iff.1 h.box).1).trans h.box, h.old, row_below h.row hb⟩
theorem BW.set1 {W : World} {base Wb fr : Nat} {v : Value} {bs : List UInt8} (h : BW W base Wb v bs fr) (q : Nat) : BW (W.setCell ⟨Wb, 1, none⟩ (.int .i64 (q : Int))) base Wb v bs q := by
  have hk : Kept (fun k => k ≠ Wb) W (W.setCell ⟨Wb, 1, none⟩ (.int .i64 (q : Int))) := (Kept.refl _ _).setCell (by simp) _
  refine ⟨?_, h.old, own_kept h.row hk h.apart⟩
  rw [heap_setCell_same _ _ _ _ _ _ h.box]
  rfl
/-- one byte more -/
theorem BW.more {W W1 : World} {base Wb fr : Nat} {v v1 : Value} {bs : List UInt8} {b : UInt8} {o : Obj} (h : BW W base Wb v bs fr) (hown : W1.ownsRow base 5 1 v1 (bs ++ [b]).length ((bs ++ [b]).map B)) (hg : (W.alloc o).grownBy W1 v.ownBlock) :
    BW (W1.setCell ⟨Wb, 0, none⟩ v1) base Wb v1 (bs ++ [b]) fr ∧ Below base W (W1.setCell ⟨Wb, 0, none⟩ v1) := by
  have hlt := (Array.getElem?_eq_some_iff.1 h.box).1
  have hbox : W1.heap[Wb]? = some (.cells #[v, .int .i64 fr] 111 (0, 0)) := by
    rw [hg.block Wb (by simp; omega) (fun e => h.apart Wb e.symm rfl)]
    exact (((Below.refl W.heap.size W).alloc (Nat.le_refl _) o)).block Wb hlt |>.trans h.box
  have hne : ∀ g, v1.ownBlock = some g → g ≠ Wb := by
    intro g hg e
    subst e
    obtain ⟨cur, hc, _⟩ := own_block hown hg
    have := hc.symm.trans hbox
    simp at this
  have hk2 : Kept (fun k => k ≠ Wb) W1 (W1.setCell ⟨Wb, 0, none⟩ v1) := (Kept.refl _ _).setCell (by simp) _
  have hk1 : Kept (fun k => v.ownBlock ≠ some k ∧ k ≠ Wb) W (W1.setCell ⟨Wb, 0, none⟩ v1) := (((Kept.refl _ W).alloc o).grown hg fun k hk hp => hp.1 hk).setCell (fun h => h.2 rfl) _
  have ho := h.old
  refine ⟨⟨?_, h.old, own_kept hown hk2 hne⟩, hk1.below (by omega) fun q hq => ⟨fun e => ?_, by omega⟩⟩
  · rw [heap_setCell_same _ _ _ _ _ _ hbox]
    rfl
  · obtain ⟨_, _, hb⟩ := own_block h.row e
    omega
/-- the last byte changed -/
theorem BW.last {W : World} {base Wb fr g n c : Nat} {bs : List UInt8} (h : BW W base Wb (.slice (some ⟨g, 0, none⟩) n c) bs fr) (k : Nat) (b : UInt8) : BW (W.setCell ⟨g, k, none⟩ (.int .u8 b.toNat)) base Wb (.slice (some ⟨g, 0, none⟩) n c) (bs.set k b) fr ∧ Below base W (W.setCell ⟨g, k, none⟩ (.int .u8 b.toNat)) := by
  have hn := own_form h.row
  obtain ⟨_, _, e⟩ := hn
  obtain rfl : n = bs.length := by simp at e; omega
  have hgW : g ≠ Wb := h.apart g rfl
  obtain ⟨cur, hc, hbg⟩ := own_block h.row (g := g) rfl
  refine ⟨⟨?_, h.old, ?_⟩, (Below.refl _ _).setCell hbg _⟩
  · exact (Below.heap_setCell _ _ _ _ (fun e => hgW e.symm)).trans h.box
  · have := (h.row.stored k (.int .u8 b.toNat)).1
    rw [List.length_set, List.map_set]
    exact this
theorem BW.last_cell {W : World} {base Wb fr g n c : Nat} {P : List UInt8} {y : UInt8} (h : BW W base Wb (.slice (some ⟨g, 0, none⟩) n c) (P ++ [y]) fr) : W.cell? ⟨g, P.length, none⟩ = some (.int .u8 y.toNat) ∧ W.frozen? ⟨g, P.length, none⟩ = false ∧ n = P.length + 1 := by
  obtain ⟨_, _, e⟩ := own_form h.row
  obtain rfl : n = (P ++ [y]).length := by simp at e; simp; omega
  have h1 := h.row.cellAt P.length (by simp)
  refine ⟨h1.trans ?_, h.row.frozenAt _, by simp⟩
  simp [B]
theorem BW.grown {W W1 : World} {base Wb fr : Nat} {v : Value} {bs : List UInt8} {o : Obj} (h : BW W base Wb v bs fr) (hg : (W.alloc o).grownBy W1 v.ownBlock) : W1.cell? ⟨Wb, 0, none⟩ = some v ∧ W1.cell? ⟨Wb, 1, none⟩ = some (.int .i64 fr) ∧ W1.frozen? ⟨Wb, 0, none⟩ = false ∧ W1.frozen? ⟨Wb, 1, none⟩ = false := by
  have hlt := (Array.getElem?_eq_some_iff.1 h.box).1
  have hbox : W1.heap[Wb]? = some (.cells #[v, .int .i64 fr] 111 (0, 0)) := by
    rw [hg.block Wb (by simp; omega) (fun e => h.apart Wb e.symm rfl)]
    exact (((Below.refl W.heap.size W).alloc (Nat.le_refl _) o)).block Wb hlt |>.trans h.box
  refine ⟨?_, ?_, ?_, ?_⟩
  · rw [cell_of_row _ Wb 0 _ _ _ hbox]; rfl
  · rw [cell_of_row _ Wb 1 _ _ _ hbox]; rfl
  · simp [World.frozen?, hbox]
  · simp [World.frozen?, hbox]
theorem u8_or_bit {y r s : Nat} (hr : r < 8) (hs : s < 2) (hy : y * 2 ^ (8 - r) < 256) : bits .or .u8 ((y * 2 ^ (8 - r) : Nat) : Int) ((s : Int) * 2 ^ (7 - r) % 256) = ((y * 2 ^ (8 - r) + s * 2 ^ (7 - r) : Nat) : Int) ∧ y * 2 ^ (8 - r) + s * 2 ^ (7 - r) < 256 := by
  have hp : 2 ^ (7 - r) ≤ 2 ^ 7 := Nat.pow_le_pow_right (by omega) (by omega)
  have h1 : s * 2 ^ (7 - r) < 256 := by
    have : s * 2 ^ (7 - r) ≤ 1 * 2 ^ 7 := Nat.mul_le_mul (by omega) hp
    omega
  have e : (s : Int) * 2 ^ (7 - r) % 256 = ((s * 2 ^ (7 - r) : Nat) : Int) := by
    have : ((s * 2 ^ (7 - r) : Nat) : Int) = (s : Int) * 2 ^ (7 - r) := by simp
    omega
  rw [e, u8_or_nat _ _ hy h1, Pr.or_bit hr hs]
  refine ⟨rfl, ?_⟩
  have := Nat.or_lt_two_pow (n := 8) hy h1
  rw [Pr.or_bit hr hs] at this
  exact this
theorem one_atp {W : World} {B : Nat} {x : Value} (h0 : W.cell? ⟨B, 0, none⟩ = some x) : ∀ j u, [x][j]? = some u → W.cell? ((⟨B, 0, none⟩ : Addr).add j) = some u := by
  intro j u hj
  rw [Addr.add_mid, Nat.zero_add]
  match j, hj with
  | 0, hj => rw [h0]; exact hj

set_option maxHeartbeats 4000000 in
theorem put_bits (base Wb : Nat) (v : Value) (hdr : List UInt8) (b : List Bool) (n m : Nat) (w : World) (h : BW w base Wb v (hdr ++ Pr.upB (Pr.bytes b)) (Pr.free b.length)) (hb : b.length ≤ 1048576) (hh : hdr.length ≤ 1048576) (hm : m ≤ 48) (hn : n ≤ 281474976710656) :
    Calls Try.prog 76 #[.pointer (some ⟨Wb, 0, none⟩), .int .i64 n, .int .i64 m] w fun e w' => e = .returned (.tuple #[]) ∧ (∃ v', BW w' base Wb v' (hdr ++ Pr.upB (Pr.bytes (b ++ Pr.wd n m))) (Pr.free (b.length + m))) ∧ Below base w w' := by
  obtain ⟨i0, hi, hz0, hz1, hz2⟩ := info_parts info_u8
  have HW : Hid (BW w base Wb v (hdr ++ Pr.upB (Pr.bytes b)) (Pr.free b.length)) := h
  clear h
  go_enter Try.func76, Try.ntmps76
  go_wp2_with fail
  go_loopw [6] (fun i wr => ∃ (j : Nat) (u : Value), j ≤ m ∧ i = .int .i64 ((m : Int) - 1 - j) ∧ Hid (BW wr base Wb u (hdr ++ Pr.upB (Pr.bytes (b ++ (Pr.wd n m).take j))) (Pr.free (b.length + j))) ∧ Hid (Below base w wr)) (fun i _ => (intOf i + 1).toNat)
  case atStart => exact ⟨0, v, by omega, by simp, by rw [List.take_zero, List.append_nil]; exact HW, Below.refl _ _⟩
  case round =>
    obtain ⟨j, u, hj, rfl, hbw, hbel⟩ := hrel
    by_cases hlt : j < m
    · obtain ⟨k, hk⟩ : ∃ k, m = j + k + 1 := ⟨m - j - 1, by omega⟩
      have hki : (m : Int) - 1 - j = (k : Int) := by omega
      obtain ⟨P, y, hP, hpre, hy, hpost⟩ := Pr.bytes_step (b ++ (Pr.wd n m).take j) (decide (n / 2 ^ k % 2 = 1))
      have hwl : ((Pr.wd n m).take j).length = j := by rw [List.length_take, Pr.wd_length]; omega
      have hLb : (b ++ (Pr.wd n m).take j).length = b.length + j := by rw [List.length_append, hwl]
      rw [hLb] at hP hpre hy hpost
      have hnext : b ++ (Pr.wd n m).take (j + 1) = b ++ (Pr.wd n m).take j ++ [decide (n / 2 ^ k % 2 = 1)] := by
        rw [List.take_add_one, Pr.wd_get hlt, show m - 1 - j = k by omega, List.append_assoc]
        rfl
      rw [← hnext] at hpost
      generalize b ++ (Pr.wd n m).take j = Bj at *
      obtain ⟨Bj1, hBj⟩ : ∃ Bj1, b ++ (Pr.wd n m).take (j + 1) = Bj1 := ⟨_, rfl⟩
      have HBJ : Hid (b ++ (Pr.wd n m).take (j + 1) = Bj1) := hBj
      rw [hBj] at hpost hnext
      clear hBj
      obtain ⟨r, hr⟩ : ∃ r, (b.length + j) % 8 = r := ⟨_, rfl⟩
      have hr8 : r < 8 := by omega
      rw [hr] at hpre hy hpost
      have hfr : Pr.free (b.length + j) = (8 - r) % 8 := by unfold Pr.free; rw [hr]
      have HFN : Hid (Pr.free (b.length + (j + 1)) = 7 - r) := by show _ = _; unfold Pr.free; omega
      rw [hfr] at hbw
      have HK : Hid (m = j + k + 1) := hk
      have HY : Hid (y * 2 ^ (8 - r) < 256) := by
        show _ < _
        have h1 : y * 2 ^ (8 - r) < 2 ^ r * 2 ^ (8 - r) := Nat.mul_lt_mul_of_pos_right hy (Nat.two_pow_pos _)
        rw [← Nat.pow_add, show r + (8 - r) = 8 by omega] at h1
        exact h1
      obtain ⟨c0, c1, f0, f1, hWb⟩ := hbw.out.cells
      obtain ⟨ua, uc, hu⟩ := own_form hbw.out.row
      subst hu
      have hzl : (hdr ++ Pr.upB (Pr.bytes Bj)).length ≤ 2000000 := by
        rw [List.length_append, upB_length, Pr.bytes_length, hLb]
        omega
      have HPO : Hid (Pr.bytes Bj1 = P ++ [y * 2 ^ (8 - r) + (if decide (n / 2 ^ k % 2 = 1) = true then 2 ^ (7 - r) else 0)]) := hpost
      clear hk hpost hy hP hLb hwl hnext hfr
      by_cases hr0 : r = 0
      · rw [if_pos hr0] at hpre
        have hrow := hbw.out.row
        have h00 : (8 - r) % 8 = 0 := by omega
        have HR0 : Hid (r = 0) := hr0
        rw [h00] at c1 hbw
        have hbs := hbw.out.old
        have HZ : Hid ((hdr ++ Pr.upB (Pr.bytes Bj)) ++ [0] = (hdr ++ Pr.upB P) ++ [UInt8.ofNat (y * 2 ^ (8 - r))]) := by
          show _ = _
          rw [List.append_assoc, List.append_assoc, ← up_more, ← hpre, up_more]
          rfl
        have hQl : (hdr ++ Pr.upB P).length ≤ 2000000 := by
          have := congrArg List.length HZ.out
          simp only [List.length_append, List.length_cons, List.length_nil] at this hzl ⊢
          omega
        generalize hdr ++ Pr.upB (Pr.bytes Bj) = Z at *
        clear h00 hpre hr0
        go_wp2_with (at_builtin; refine wpList_append_own _ rfl (.tmp 22) (.tmp 23) 51 rfl base 5 i0 (.int .u8 0) 1 1 Try.underlying51 hi hz0 hz1 hz2 rfl (by decide) _ _ _ rfl (hrow.alloc _) ⟨wr.heap.size, 0, none⟩ 1 1 [.int .u8 0] rfl rfl ?c1 ?c2 ?c3 ?c4 ?c5 ?_)
        case c1 => exact one_atp (by simp)
        case c2 => intro u hu; simp at hu; subst hu; rfl
        case c3 => unfold maxLen; omega
        case c4 => omega
        case c5 => simp; omega
        intro v1 w3 hown3 hgrow _
        obtain ⟨va, vc, rfl⟩ := own_form hown3
        obtain ⟨X1, X2⟩ := hbw.out.more (b := 0) (own_byte hown3) hgrow
        obtain ⟨q1, q2, q3, q4⟩ := hbw.out.grown hgrow
        obtain ⟨W7, hW7⟩ : ∃ W7, W7 = ((w3.setCell ⟨Wb, 0, none⟩ (.slice va (Z.length + 1) vc)).setCell ⟨Wb, 1, none⟩ (.int .i64 8)).setCell ⟨Wb, 1, none⟩ (.int .i64 7) := ⟨_, rfl⟩
        have hW7b : BW W7 base Wb (.slice va (Z.length + 1) vc) ((hdr ++ Pr.upB P) ++ [UInt8.ofNat (y * 2 ^ (8 - r))]) (7 - r) := by
          rw [hW7, ← HZ.out, HR0.out]
          exact (X1.set1 8).set1 7
        have hB7 : Below base w W7 := by
          rw [hW7]
          exact (((hbel.out.trans X2).setCell hbs _).setCell hbs _)
        clear hown3 hgrow X1 X2 hrow hbw hbel c0 c1 f0 f1 HZ
        go_wp2_with fail
        rw [← hW7]
        clear hW7 q1 q2 q3 q4
        obtain ⟨Q, hQ⟩ : ∃ Q, hdr ++ Pr.upB P = Q := ⟨_, rfl⟩
        rw [hQ] at hW7b hQl
        have HQ : Hid (hdr ++ Pr.upB P = Q) := hQ
        clear hQ
        generalize Z.length + 1 = nn at *
        have HB7 : Hid (Below base w W7) := hB7
        obtain ⟨g, rfl⟩ : ∃ g, va = some ⟨g, 0, none⟩ := by
          rcases hW7b.row.2 with ⟨_, h0⟩ | ⟨g, cap, cur, e, _⟩
          · simp at h0
          · simp at e; exact ⟨g, e.1⟩
        obtain ⟨e0, g0, hnn⟩ := hW7b.last_cell
        obtain ⟨d0, d1, _, _, _⟩ := hW7b.cells
        have hs2 : n / 2 ^ k % 2 < 2 := Nat.mod_lt _ (by omega)
        have hbit := i64_and_one (n / 2 ^ k) (by have := Nat.div_le_self n (2 ^ k); omega)
        rw [show ((n / 2 ^ k : Nat) : Int) = (n : Int) / 2 ^ k by simp] at hbit
        have hY : (UInt8.ofNat (y * 2 ^ (8 - r))).toNat = y * 2 ^ (8 - r) := by rw [UInt8.toNat_ofNat', Nat.mod_eq_of_lt HY.out]
        rw [hY] at e0
        have hY256 : y * 2 ^ (8 - r) < 256 := HY.out
        have HOR := u8_or_bit (y := y) hr8 hs2 HY.out
        have HFIN : Hid (BW ((W7.setCell ⟨g, Q.length, none⟩ (.int .u8 (bits .or .u8 ((y * 2 ^ (8 - r) : Nat) : Int) (((n / 2 ^ k % 2 : Nat) : Int) * 2 ^ (7 - r) % 256)))).drew) base Wb (.slice (some ⟨g, 0, none⟩) nn vc) (hdr ++ Pr.upB (Pr.bytes Bj1)) (Pr.free (b.length + (j + 1))) ∧
            Below base w ((W7.setCell ⟨g, Q.length, none⟩ (.int .u8 (bits .or .u8 ((y * 2 ^ (8 - r) : Nat) : Int) (((n / 2 ^ k % 2 : Nat) : Int) * 2 ^ (7 - r) % 256)))).drew)) := by
          have hZ : (UInt8.ofNat (y * 2 ^ (8 - r) + n / 2 ^ k % 2 * 2 ^ (7 - r))).toNat = y * 2 ^ (8 - r) + n / 2 ^ k % 2 * 2 ^ (7 - r) := by rw [UInt8.toNat_ofNat', Nat.mod_eq_of_lt HOR.2]
          obtain ⟨x1, x2⟩ := hW7b.last Q.length (UInt8.ofNat (y * 2 ^ (8 - r) + n / 2 ^ k % 2 * 2 ^ (7 - r)))
          rw [hZ] at x1 x2
          rw [HOR.1, HFN.out, HPO.out, up_more, ← List.append_assoc, HQ.out]
          have e : (if decide (n / 2 ^ k % 2 = 1) = true then 2 ^ (7 - r) else 0) = n / 2 ^ k % 2 * 2 ^ (7 - r) := by
            by_cases h1 : n / 2 ^ k % 2 = 1
            · rw [h1]; simp
            · rw [show n / 2 ^ k % 2 = 0 by omega]; simp
          rw [e]
          have es : (Q ++ [UInt8.ofNat (y * 2 ^ (8 - r))]).set Q.length (UInt8.ofNat (y * 2 ^ (8 - r) + n / 2 ^ k % 2 * 2 ^ (7 - r))) = Q ++ [UInt8.ofNat (y * 2 ^ (8 - r) + n / 2 ^ k % 2 * 2 ^ (7 - r))] := by
            rw [List.set_append_right _ _ (Nat.le_refl _), Nat.sub_self]
            rfl
          rw [es] at x1
          exact ⟨⟨x1.box, x1.old, x1.row.drew⟩, (HB7.out.trans x2).drew⟩
        obtain ⟨qq, hqq⟩ : ∃ qq, Q.length = qq := ⟨_, rfl⟩
        rw [hqq] at e0 g0 hnn HFIN
        have hidx : (nn : Int) - 1 = (qq : Int) := by omega
        have hqn : qq < nn := by omega
        generalize y * 2 ^ (8 - r) = Y at *
        have d1' : W7.cell? ⟨Wb, 1, none⟩ = some (.int .i64 ((7 : Int) - r)) := d1.trans (by rw [show ((7 - r : Nat) : Int) = (7 : Int) - r by omega])
        generalize n / 2 ^ k % 2 = s at *
        have hnn' : nn ≤ 3000000 := by omega
        clear hW7b hB7 hqq hnn hY d1 HOR HPO
        go_region
        all_goals go_wp2_with fail
        all_goals exact ⟨⟨j + 1, _, by omega, int_eq (by omega), by rw [HBJ.out]; exact HFIN.out.1, HFIN.out.2⟩, by simp only [intOf]; omega⟩
      · rw [if_neg hr0] at hpre
        have HZ : Hid ((hdr ++ Pr.upB (Pr.bytes Bj)) = (hdr ++ Pr.upB P) ++ [UInt8.ofNat (y * 2 ^ (8 - r))]) := by
          show _ = _
          rw [List.append_assoc, ← up_more, ← hpre]
        have hQl : (hdr ++ Pr.upB P).length ≤ 2000000 := by
          have := congrArg List.length HZ.out
          simp only [List.length_append, List.length_cons, List.length_nil] at this hzl ⊢
          omega
        have h00 : (((8 - r) % 8 : Nat) : Int) = (8 : Int) - r := by omega
        rw [h00] at c1
        have hne : (((8 : Int) - r) == 0) = false := by rw [beq_eq_false_iff_ne]; omega
        have hbs := hbw.out.old
        obtain ⟨W7, hW7⟩ : ∃ W7, W7 = wr.setCell ⟨Wb, 1, none⟩ (.int .i64 ((8 : Int) - r - 1)) := ⟨_, rfl⟩
        have hW7b : BW W7 base Wb (.slice ua (hdr ++ Pr.upB (Pr.bytes Bj)).length uc) ((hdr ++ Pr.upB P) ++ [UInt8.ofNat (y * 2 ^ (8 - r))]) (7 - r) := by
          rw [hW7, ← HZ.out, show (8 : Int) - r - 1 = ((7 - r : Nat) : Int) by omega]
          exact hbw.out.set1 (7 - r)
        have hB7 : Below base w W7 := by
          rw [hW7]
          exact hbel.out.setCell hbs _
        generalize hdr ++ Pr.upB (Pr.bytes Bj) = Z at *
        clear hpre hbw hbel h00 HZ
        go_wp2_with fail
        rw [← hW7]
        clear hW7 c0 c1 f0 f1
        obtain ⟨Q, hQ⟩ : ∃ Q, hdr ++ Pr.upB P = Q := ⟨_, rfl⟩
        rw [hQ] at hW7b hQl
        have HQ : Hid (hdr ++ Pr.upB P = Q) := hQ
        clear hQ
        generalize Z.length = nn at *
        have HB7 : Hid (Below base w W7) := hB7
        obtain ⟨g, rfl⟩ : ∃ g, ua = some ⟨g, 0, none⟩ := by
          rcases hW7b.row.2 with ⟨_, h0⟩ | ⟨g, cap, cur, e, _⟩
          · simp at h0
          · simp at e; exact ⟨g, e.1⟩
        obtain ⟨e0, g0, hnn⟩ := hW7b.last_cell
        obtain ⟨d0, d1, _, _, _⟩ := hW7b.cells
        have hs2 : n / 2 ^ k % 2 < 2 := Nat.mod_lt _ (by omega)
        have hbit := i64_and_one (n / 2 ^ k) (by have := Nat.div_le_self n (2 ^ k); omega)
        rw [show ((n / 2 ^ k : Nat) : Int) = (n : Int) / 2 ^ k by simp] at hbit
        have hY : (UInt8.ofNat (y * 2 ^ (8 - r))).toNat = y * 2 ^ (8 - r) := by rw [UInt8.toNat_ofNat', Nat.mod_eq_of_lt HY.out]
        rw [hY] at e0
        have hY256 : y * 2 ^ (8 - r) < 256 := HY.out
        have HOR := u8_or_bit (y := y) hr8 hs2 HY.out
        have HFIN : Hid (BW ((W7.setCell ⟨g, Q.length, none⟩ (.int .u8 (bits .or .u8 ((y * 2 ^ (8 - r) : Nat) : Int) (((n / 2 ^ k % 2 : Nat) : Int) * 2 ^ (7 - r) % 256)))).drew) base Wb (.slice (some ⟨g, 0, none⟩) nn uc) (hdr ++ Pr.upB (Pr.bytes Bj1)) (Pr.free (b.length + (j + 1))) ∧
            Below base w ((W7.setCell ⟨g, Q.length, none⟩ (.int .u8 (bits .or .u8 ((y * 2 ^ (8 - r) : Nat) : Int) (((n / 2 ^ k % 2 : Nat) : Int) * 2 ^ (7 - r) % 256)))).drew)) := by
          have hZ : (UInt8.ofNat (y * 2 ^ (8 - r) + n / 2 ^ k % 2 * 2 ^ (7 - r))).toNat = y * 2 ^ (8 - r) + n / 2 ^ k % 2 * 2 ^ (7 - r) := by rw [UInt8.toNat_ofNat', Nat.mod_eq_of_lt HOR.2]
          obtain ⟨x1, x2⟩ := hW7b.last Q.length (UInt8.ofNat (y * 2 ^ (8 - r) + n / 2 ^ k % 2 * 2 ^ (7 - r)))
          rw [hZ] at x1 x2
          rw [HOR.1, HFN.out, HPO.out, up_more, ← List.append_assoc, HQ.out]
          have e : (if decide (n / 2 ^ k % 2 = 1) = true then 2 ^ (7 - r) else 0) = n / 2 ^ k % 2 * 2 ^ (7 - r) := by
            by_cases h1 : n / 2 ^ k % 2 = 1
            · rw [h1]; simp
            · rw [show n / 2 ^ k % 2 = 0 by omega]; simp
          rw [e]
          have es : (Q ++ [UInt8.ofNat (y * 2 ^ (8 - r))]).set Q.length (UInt8.ofNat (y * 2 ^ (8 - r) + n / 2 ^ k % 2 * 2 ^ (7 - r))) = Q ++ [UInt8.ofNat (y * 2 ^ (8 - r) + n / 2 ^ k % 2 * 2 ^ (7 - r))] := by
            rw [List.set_append_right _ _ (Nat.le_refl _), Nat.sub_self]
            rfl
          rw [es] at x1
          exact ⟨⟨x1.box, x1.old, x1.row.drew⟩, (HB7.out.trans x2).drew⟩
        obtain ⟨qq, hqq⟩ : ∃ qq, Q.length = qq := ⟨_, rfl⟩
        rw [hqq] at e0 g0 hnn HFIN
        have hidx : (nn : Int) - 1 = (qq : Int) := by omega
        have hqn : qq < nn := by omega
        generalize y * 2 ^ (8 - r) = Y at *
        have d1' : W7.cell? ⟨Wb, 1, none⟩ = some (.int .i64 ((7 : Int) - r)) := d1.trans (by rw [show ((7 - r : Nat) : Int) = (7 : Int) - r by omega])
        generalize n / 2 ^ k % 2 = s at *
        have hnn' : nn ≤ 3000000 := by omega
        clear hW7b hB7 hqq hnn hY d1 HOR HPO
        go_region
        all_goals go_wp2_with fail
        all_goals exact ⟨⟨j + 1, _, by omega, int_eq (by omega), by rw [HBJ.out]; exact HFIN.out.1, HFIN.out.2⟩, by simp only [intOf]; omega⟩
    · obtain rfl : j = m := by omega
      have HF : Hid (BW wr base Wb u (hdr ++ Pr.upB (Pr.bytes (b ++ Pr.wd n j))) (Pr.free (b.length + j))) := by
        have := hbw.out
        rw [List.take_of_length_le (by rw [Pr.wd_length]; exact Nat.le_refl _)] at this
        exact this
      go_wp2_with fail
      go_end0
      exact ⟨rfl, ⟨_, HF.out⟩, hbel.out⟩
end Go.Proofs.Ytkhejelmjkpgfaa

namespace Go.Proofs.Ytkhejelmjkpgfaa
open Go.RowKit
set_option maxRecDepth 4000

namespace Lz
/-- P18's Pack -/
def packd (l : List Tr) : Bs := if chk l = 0 then pack (l.map Tr.tok) else []
theorem pack_snoc (l : List Tk) (t : Tk) : pack (l ++ [t]) = pack l ++ t.text := by simp [pack]
theorem text_length (t : Tk) : t.text.length ≤ 3 := by
  unfold Tk.text
  split <;> simp
theorem pack_length (l : List Tk) : (pack l).length ≤ 3 * l.length := by
  induction l with
  | nil => simp [pack]
  | cons t l ih =>
    have := text_length t
    show (t.text ++ pack l).length ≤ _
    rw [List.length_append, List.length_cons]
    omega
end Lz

set_option maxHeartbeats 400000 in
theorem pack_chk (v : Value) (l : List Lz.Tr) (w : World) (h : Toks w v l) (hl : l.length ≤ 140737488351232) (hc : Lz.chk l ≠ 0) :
    Calls Try.prog 70 #[v] w fun e w' => e = .returned (.tuple #[.string ⟨#[]⟩, .int .i64 (Lz.chk l)]) ∧ Below w.heap.size w w' := by
  have hk := check_any v l w h hl
  generalize Lz.chk l = c at *
  have hq : ((c : Int) != 0) = true := by rw [bne_iff_ne]; omega
  go_enter Try.func70, Try.ntmps70
  go_wp2_with fail
  refine hk.mono ?_
  rintro e w1 ⟨rfl, hb1⟩
  go_wp2_with fail
  go_ret2
  exact ⟨rfl, hb1⟩

set_option maxHeartbeats 2000000 in
theorem pack_in (v : Value) (l : List Lz.Tr) (F : Nat → List UInt8) (w : World) (h : Toks w v l) (hc : Lz.chk l = 0) (hF0 : F 0 = [])
    (hF : ∀ k (h : k < l.length), F (k + 1) = F k ++ l[k].tok.text) (hFl : ∀ k, k ≤ l.length → (F k).length ≤ 3 * k) :
    Calls Try.prog 70 #[v] w fun e w' => e = .returned (.tuple #[.string ⟨(F l.length).toArray⟩, .int .i64 0]) ∧ Below w.heap.size w w' := by
  obtain ⟨hl, hf⟩ := Lz.chk_zero hc
  have hk := check_any v l w h (by omega)
  rw [hc] at hk
  have HF : Hid (∀ t ∈ l, t.form) := hf
  have HF0 : Hid (F 0 = []) := hF0
  have HFS : Hid (∀ k (h : k < l.length), F (k + 1) = F k ++ l[k].tok.text) := hF
  have HFL : Hid (∀ k, k ≤ l.length → (F k).length ≤ 3 * k) := hFl
  have HT : Hid (Toks w v l) := h
  obtain ⟨a, c, rfl⟩ := h.slice
  obtain ⟨i0, hi, hz0, hz1, hz2⟩ := info_parts info_u8
  clear hf hc h hF0 hF hFl
  go_enter Try.func70, Try.ntmps70
  go_wp2_with fail
  refine hk.mono ?_
  rintro e w1 ⟨rfl, hb1⟩
  clear hk
  go_wp2_with fail
  go_loopw [5, 15] (fun v i wr => ∃ (k : Nat), k ≤ l.length ∧ i = .int .i64 k ∧ wr.ownsRow w.heap.size 5 1 v (F k).length ((F k).map B) ∧ Below w.heap.size w wr) (fun _ i _ => l.length - (intOf i).toNat)
  case atStart => exact ⟨0, by omega, rfl, by rw [HF0.out]; exact World.ownsRow_nil _ _ _ _, hb1⟩
  case round =>
    obtain ⟨k, hkl, rfl, hown, hbel⟩ := hrel
    have hFk := HFL.out k hkl
    by_cases hlt : k < l.length
    · obtain ⟨bk, o, rfl, _, hbk, c0, c1, c2⟩ := (HT.out.below (Nat.le_refl _) hbel).get k hlt
      obtain ⟨hraw, hgood⟩ := Lz.Tr.tok_raw (HF.out l[k] (List.getElem_mem hlt))
      have HE : Hid (F (k + 1) = F k ++ l[k].tok.text) := HFS.out k hlt
      generalize l[k] = t at *
      generalize t.tok = u at *
      subst hraw
      have hle := letter_any u.raw
      rw [letter_good hgood] at hle
      obtain ⟨b, n, d⟩ := u
      unfold tokV at hle
      dsimp only [Lz.Tk.raw] at c0 c1 c2 hle
      unfold Lz.Tk.text at HE
      dsimp only at HE
      generalize hFe : F k = out at *
      have hbs := hbel.size
      by_cases hn0 : n = 0
      · subst hn0
        rw [if_pos rfl] at HE
        rw [decide_eq_true rfl] at hle
        go_wp2_with fail
        refine (hle _).mono ?_
        rintro e w2 ⟨rfl, hb2⟩
        have x0 := (hb2.cell (p := ⟨wr.heap.size, 0, none⟩) (by simp)).trans (show _ = some (.int .u8 (b.toNat : Int)) from by simp)
        have hB2 : Below w.heap.size w w2 := (hbel.alloc hbs _).trans (hb2.mono (by simp; omega))
        have hown2 := own_below (hown.alloc _) hb2
        have hs2 := hB2.size
        clear hle hb2 hown hbel c0 c1 c2
        go_wp2_with (at_builtin; refine wpList_append_own _ rfl (.tmp 21) (.tmp 24) 51 rfl w.heap.size 5 i0 (.int .u8 0) 1 1 Try.underlying51 hi hz0 hz1 hz2 rfl (by decide) _ _ _ rfl (hown2.alloc _) ⟨w2.heap.size, 0, none⟩ 2 2 [.int .u8 0, .int .u8 (b.toNat : Int)] rfl rfl ?c1 ?c2 ?c3 ?c4 ?c5 ?_)
        case c1 =>
          intro j u hj
          match j, hj with
          | 0, hj => simp at hj; subst hj; simp [Addr.add]
          | 1, hj => simp at hj; subst hj; simp [Addr.add]
        case c2 => intro u hu; simp at hu; rcases hu with rfl | rfl <;> rfl
        case c3 => unfold maxLen; omega
        case c4 => omega
        case c5 => simp; omega
        intro v1 w3 hown3 hgrow _
        have HO : Hid (w3.ownsRow w.heap.size 5 1 v1 (F (k + 1)).length ((F (k + 1)).map B)) := by rw [HE.out]; show World.ownsRow _ _ _ _ _ _ _; simpa [B] using hown3
        have HB3 : Hid (Below w.heap.size w w3) := (hB2.alloc hs2 _).grown hgrow (by simp; omega) fun j hj => (hown2.lt j hj).1
        clear hown3 hgrow hown2 hB2 x0
        go_wp2_with fail
        go_roundw
        case rel => exact ⟨k + 1, by omega, by go_num, HO.out, HB3.out⟩
        case measure => simp only [intOf]; omega
      · have hg : n ≤ 255 ∧ d ≤ 1024 := by rcases hgood with ⟨h1, _⟩ | ⟨_, _, h1, _, h2⟩ <;> dsimp only at * <;> omega
        rw [if_neg hn0] at HE
        rw [decide_eq_false hn0] at hle
        have hg1 := hg.1
        have hg2 := hg.2
        clear hg
        go_wp2_with fail
        refine (hle _).mono ?_
        rintro e w2 ⟨rfl, hb2⟩
        have x0 := (hb2.cell (p := ⟨wr.heap.size, 0, none⟩) (by simp)).trans (show _ = some (.int .u8 (b.toNat : Int)) from by simp)
        have x1 := (hb2.cell (p := ⟨wr.heap.size, 1, none⟩) (by simp)).trans (show _ = some (.int .i64 (n : Int)) from by simp)
        have x2 := (hb2.cell (p := ⟨wr.heap.size, 2, none⟩) (by simp)).trans (show _ = some (.int .i64 (d : Int)) from by simp)
        have hB2 : Below w.heap.size w w2 := (hbel.alloc hbs _).trans (hb2.mono (by simp; omega))
        have hown2 := own_below (hown.alloc _) hb2
        have hs2 := hB2.size
        clear hle hb2 hown hbel c0 c1 c2
        go_wp2_with (at_builtin; refine wpList_append_own _ rfl (.tmp 26) (.tmp 37) 51 rfl w.heap.size 5 i0 (.int .u8 0) 1 1 Try.underlying51 hi hz0 hz1 hz2 rfl (by decide) _ _ _ rfl (hown2.alloc _) ⟨w2.heap.size, 0, none⟩ 3 3 [.int .u8 (n : Int), .int .u8 ((d : Int) % 256), .int .u8 ((d : Int) / 256)] rfl rfl ?d1 ?d2 ?d3 ?d4 ?d5 ?_)
        case d1 =>
          intro j u hj
          match j, hj with
          | 0, hj => simp at hj; subst hj; simp [Addr.add]
          | 1, hj => simp at hj; subst hj; simp [Addr.add]
          | 2, hj => simp at hj; subst hj; simp [Addr.add]
        case d2 => intro u hu; simp at hu; rcases hu with rfl | rfl | rfl <;> rfl
        case d3 => unfold maxLen; omega
        case d4 => omega
        case d5 => simp; omega
        intro v1 w3 hown3 hgrow _
        have HO : Hid (w3.ownsRow w.heap.size 5 1 v1 (F (k + 1)).length ((F (k + 1)).map B)) := by
          rw [HE.out, List.map_append]
          have e3 : [UInt8.ofNat n, UInt8.ofNat (d % 256), UInt8.ofNat (d / 256)].map B = [.int .u8 (n : Int), .int .u8 ((d : Int) % 256), .int .u8 ((d : Int) / 256)] := by
            have k1 : ((UInt8.ofNat n).toNat : Int) = n := by simp; omega
            have k2 : ((UInt8.ofNat (d % 256)).toNat : Int) = (d : Int) % 256 := by simp
            have k3 : ((UInt8.ofNat (d / 256)).toNat : Int) = (d : Int) / 256 := by simp; omega
            simp only [List.map_cons, List.map_nil, B, k1, k2, k3]
          rw [e3]
          show World.ownsRow _ _ _ _ _ _ _
          simpa using hown3
        have HB3 : Hid (Below w.heap.size w w3) := (hB2.alloc hs2 _).grown hgrow (by simp; omega) fun j hj => (hown2.lt j hj).1
        clear hown3 hgrow hown2 hB2 x0 x1 x2
        go_wp2_with fail
        go_roundw
        case rel => exact ⟨k + 1, by omega, by go_num, HO.out, HB3.out⟩
        case measure => simp only [intOf]; omega
    · obtain rfl : k = l.length := by omega
      have hstr := run_str hown
      clear hown
      go_wp2_with fail
      go_ret2
      exact ⟨rfl, hbel⟩
theorem pack_any (v : Value) (l : List Lz.Tr) (w : World) (h : Toks w v l) (hl : l.length ≤ 140737488351232) :
    Calls Try.prog 70 #[v] w fun e w' => e = .returned (.tuple #[.string ⟨(Lz.packd l).toArray⟩, .int .i64 (Lz.chk l)]) ∧ Below w.heap.size w w' := by
  unfold Lz.packd
  by_cases hc : Lz.chk l = 0
  · rw [if_pos hc, hc]
    have := pack_in v l (fun k => Lz.pack ((l.take k).map Lz.Tr.tok)) w h hc rfl (fun k hk => ?_) (fun k hk => ?_)
    · rw [List.take_length] at this
      exact this
    · show Lz.pack _ = Lz.pack _ ++ _
      rw [List.take_succ_eq_append_getElem hk, List.map_append, ← Lz.pack_snoc]
      rfl
    · refine Nat.le_trans (Lz.pack_length _) ?_
      rw [List.length_map, List.length_take]
      omega
  · rw [if_neg hc]
    exact pack_chk v l w h hl hc
end Go.Proofs.Ytkhejelmjkpgfaa

namespace Go.Proofs.Ytkhejelmjkpgfaa
open Go.RowKit
set_option maxRecDepth 4000

/-- a heap's three cells written anew -/
def put3 (W : World) (g i : Nat) (x : Hf.G) : World := ((W.setCell ⟨g, i * 3, none⟩ (.int .i64 x.wt)).setCell ⟨g, i * 3 + 1, none⟩ (.int .i64 x.low)).setCell ⟨g, i * 3 + 2, none⟩ x.sv
theorem Heap.put3 {W : World} {base Hb g n c : Nat} {l : List Hf.G} (h : Heap W base Hb (.slice (some ⟨g, 0, none⟩) n c) l) (hn : n = l.length) (i : Nat) (x : Hf.G) (hx : W.ownsRow base 3 1 x.sv x.sg.length ((Hf.up x.sg).map Iv)) :
    Heap (put3 W g i x) base Hb (.slice (some ⟨g, 0, none⟩) n c) (l.set i x) ∧ Kept (fun k => k ≠ g) W (put3 W g i x) := by
  subst hn
  have hk : Kept (fun k => k ≠ g) W (Go.Proofs.Ytkhejelmjkpgfaa.put3 W g i x) := (((Kept.refl _ W).setCell (by simp) _).setCell (by simp) _).setCell (by simp) _
  have hg : Hb ≠ g := fun e => h.apart (by rw [e]; rfl)
  refine ⟨⟨(hk.block _ (Array.getElem?_eq_some_iff.1 h.box).1 hg).trans h.box, h.old, ?_, fun y hy => ?_⟩, hk⟩
  · rw [rowG_set, List.length_set, show 3 * i = i * 3 from by omega]
    exact ((((h.row.stored (i * 3) _).1.stored (i * 3 + 1) _).1).stored (i * 3 + 2) _).1
  · have hy' : W.ownsRow base 3 1 y.sv y.sg.length ((Hf.up y.sg).map Iv) := by
      rcases List.mem_or_eq_of_mem_set hy with hy | rfl
      · exact h.signs y hy
      · exact hx
    exact own_kept hy' hk fun b hb e => (h.sign_apart hy' b hb).2 (by rw [e]; rfl)
theorem own_slice {base : Nat} {e : TypeId} {k : Nat} {v : Value} {n : Nat} {xs : List Value} {w : World} (h : w.ownsRow base e k v n xs) : ∃ a m c, v = .slice a m c := by
  rcases h.2 with ⟨rfl, _⟩ | ⟨g, cap, cur, rfl, _⟩
  · exact ⟨_, _, _, rfl⟩
  · exact ⟨_, _, _, rfl⟩
theorem Heap.drew {W : World} {base Hb : Nat} {v : Value} {l : List Hf.G} (h : Heap W base Hb v l) : Heap W.drew base Hb v l := h.keep (Below.refl _ W).drew

set_option maxHeartbeats 4000000 in
theorem swap_any (base Hb : Nat) (v : Value) (l : List Hf.G) (w : World) (h : Heap w base Hb v l) (i j : Nat) (hi : i < l.length) (hj : j < l.length) (hl : l.length ≤ 256) :
    Calls Try.prog 130 #[.pointer (some ⟨Hb, 0, none⟩), .int .i64 i, .int .i64 j] w fun e w' => e = .returned (.tuple #[]) ∧ Heap w' base Hb v (Hf.swp l i j) ∧ Stays Hb v w w' := by
  obtain ⟨g, c, rfl⟩ := h.slice1 (by omega)
  have HE : Hid (∀ W, W = (put3 (put3 w g i (Hf.nth l j)) g j (Hf.nth l i)).drew → Heap W base Hb (.slice (some ⟨g, 0, none⟩) l.length c) (Hf.swp l i j) ∧ Stays Hb (.slice (some ⟨g, 0, none⟩) l.length c) w W) := by
    rintro W rfl
    obtain ⟨h1, k1⟩ := h.put3 rfl i (Hf.nth l j) (h.signs _ (Hf.nth_mem hj))
    have hs := h.signs _ (Hf.nth_mem hi)
    obtain ⟨h2, k2⟩ := h1.put3 (by rw [List.length_set]) j (Hf.nth l i) (own_kept hs k1 fun b hb e => (h.sign_apart hs b hb).2 (by rw [e]; rfl))
    refine ⟨h2.drew, ((k1.trans k2).mono fun k hk => ?_).drew⟩
    rintro rfl
    exact hk.2 rfl
  obtain ⟨c0, c1, f1⟩ := h.cells
  obtain ⟨a0, a1, a2, af0, af1, af2, hg⟩ := h.at_ rfl i hi
  have hne : g ≠ Hb := fun e => h.apart (by rw [← e]; rfl)
  have hx := own_slice (h.signs _ (Hf.nth_mem hi))
  unfold put3 at HE
  by_cases hij : i = j
  · subst hij
    generalize Hf.nth l i = x at *
    obtain ⟨xw, xl, xs, xv⟩ := x
    dsimp only at *
    obtain ⟨xa, xm, xc, rfl⟩ := hx
    clear h xs
    go_enter Try.func130, Try.ntmps130
    go_wp2_with fail
    go_region
    go_wp2_with fail
    go_end0
    exact ⟨rfl, HE.out _ rfl⟩
  · obtain ⟨b0, b1, b2, bf0, bf1, bf2, _⟩ := h.at_ rfl j hj
    have hy := own_slice (h.signs _ (Hf.nth_mem hj))
    generalize Hf.nth l i = x at *
    generalize Hf.nth l j = y at *
    obtain ⟨xw, xl, xs, xv⟩ := x
    obtain ⟨yw, yl, ys, yv⟩ := y
    dsimp only at *
    obtain ⟨xa, xm, xc, rfl⟩ := hx
    obtain ⟨ya, ym, yc, rfl⟩ := hy
    clear h xs ys
    go_enter Try.func130, Try.ntmps130
    go_wp2_with fail
    go_region
    go_wp2_with fail
    go_end0
    exact ⟨rfl, HE.out _ rfl⟩
end Go.Proofs.Ytkhejelmjkpgfaa
