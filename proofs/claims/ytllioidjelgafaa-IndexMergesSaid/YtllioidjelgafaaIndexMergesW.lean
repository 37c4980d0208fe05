/-
  The walk of the statement IndexMerges: it answers true.
-/
import Derived.Test.YtllioidjelgafaaRMrg
import Derived.Test.YtllioidjelgafaaROf
import Derived.Test.YtllioidjelgafaaPlOpen
namespace Go.Proofs.Ytllioidjelgafaa
open Go.RowKit
set_option maxRecDepth 4000

theorem merge_len (a b : List Ix.Pl) : (Ix.merge a b).1.length ≤ 400 := by
  by_cases h : (Ix.merge a b).2 = 0
  · obtain ⟨_, _, h3, h4⟩ := Ix.merge_ok h
    rw [h4]
    exact h3
  · rw [Ix.merge_bad h]; simp
theorem of_len (n : Int) (l : List Ix.Pl) : (Ix.of n l).1.length ≤ 400 := by
  by_cases h : (Ix.of n l).2 = 0
  · obtain ⟨_, h3, _, h4⟩ := Ix.of_ok h
    rw [h4]
    have := Ix.puts_length l []
    simp only [List.length_nil] at this
    show (Ix.puts [] l).length ≤ 400
    omega
  · rw [Ix.of_bad h]; simp
theorem rmerge_tell {v u : Value} {a b : List Plc} {w : World} {out : List Ix.Pl} {er : Int} (he : Ix.merge (ps a) (ps b) = (out, er)) (hl : a.length ≤ 140737488351232) (hm : b.length ≤ 140737488351232) (h : Px w v a) (k : Px w u b) :
    Calls Try.prog 15 #[v, u] w fun e w' => ∃ s c l, e = .returned (.tuple #[.slice s l.length c, .int .i64 er]) ∧ MgOut w w' s c l out := by
  refine (rmerge_any v u a b w h k hl hm).mono fun e w' ⟨x, hx, ho⟩ => ?_
  rw [he] at hx ho
  obtain ⟨s, c, l, rfl, h2⟩ := MgOut.of ho
  exact ⟨s, c, l, hx, h2⟩
theorem rof_tell {n : Int} {v : Value} {l : List Ent} {w : World} {out : List Ix.Pl} {er : Int} (he : Ix.of n (ps (esP n l)) = (out, er)) (hl : l.length ≤ 140737488351232) (h : Ex w v l) :
    Calls Try.prog 17 #[.int .i64 n, v] w fun e w' => ∃ s c l, e = .returned (.tuple #[.slice s l.length c, .int .i64 er]) ∧ MgOut w w' s c l out := by
  refine (rof_pl n v l w h hl).mono fun e w' ⟨x, hx, ho⟩ => ?_
  rw [he] at hx ho
  obtain ⟨s, c, l, rfl, h2⟩ := MgOut.of ho
  exact ⟨s, c, l, hx, h2⟩

set_option maxHeartbeats 4000000 in
theorem indexMerges_walk (v0 : Value) (l0 : List Plc) (v1 : Value) (l1 : List Plc) (a2 : Int) (v3 : Value) (l3 : List Ent) (z0 : l0.length ≤ 140737488351232) (_ : PsOk l0) (z1 : l1.length ≤ 140737488351232) (_ : PsOk l1) (_ : (Lit.int .i64 a2).wf = true) (z3 : l3.length ≤ 140737488351232) (_ : EsOk l3) (w : World) (t0 : Px w v0 l0) (t1 : Px w v1 l1) (t3 : Ex w v3 l3) :
    Calls Try.prog 4 #[v0, v1, .int .i64 a2, v3] w fun e w' => e = .returned (.bool true) ∧ Below w.heap.size w w' := by
  obtain ⟨s0, c0, rfl, _, _⟩ := t0.slice
  obtain ⟨s1, c1, rfl, _, _⟩ := t1.slice
  obtain ⟨s3, c3, rfl, _, _⟩ := t3.slice
  obtain ⟨om, em, hm⟩ : ∃ o e, Ix.merge (ps l0) (ps l1) = (o, e) := ⟨_, _, rfl⟩
  obtain ⟨oo, eo, ho⟩ : ∃ o e, Ix.of a2 (ps (esP a2 l3)) = (o, e) := ⟨_, _, rfl⟩
  have HM : Hid (Ix.merge (ps l0) (ps l1) = (om, em)) := hm
  have HO : Hid (Ix.of a2 (ps (esP a2 l3)) = (oo, eo)) := ho
  have HML : Hid (om.length ≤ 400) := by show _ ≤ _; have := merge_len (ps l0) (ps l1); rwa [hm] at this
  have HOL : Hid (oo.length ≤ 400) := by show _ ≤ _; have := of_len a2 (ps (esP a2 l3)); rwa [ho] at this
  have T0 : Hid (Px w (.slice s0 l0.length c0) l0) := t0
  have T1 : Hid (Px w (.slice s1 l1.length c1) l1) := t1
  have T3 : Hid (Ex w (.slice s3 l3.length c3) l3) := t3
  clear hm ho t0 t1 t3
  go_enter Try.func4, Try.ntmps4
  go_upto_region 2 with (go_at_call 14; refine (merge_tell HM.out z0 z1 T0.out T1.out).mono ?_; rintro e w1 ⟨x1, y1, m1, rfl, g1⟩)
  have B1 : Hid (Below w.heap.size w w1) := g1.bel
  have P1 : Hid (Px w1 (.slice x1 m1.length y1) m1) := g1.px
  have I1 : Hid (ps m1 = om) := g1.is
  clear g1
  go_upto_region 3 with (go_at_call 15; refine (rmerge_tell HM.out z0 z1 (T0.out.below B1.out) (T1.out.below B1.out)).mono ?_; rintro e w2 ⟨x2, y2, m2, rfl, g2⟩)
  have B2 : Hid (Below w.heap.size w w2) := below_t B1.out g2.bel
  have P12 : Hid (Px w2 (.slice x1 m1.length y1) m1) := P1.out.below g2.bel
  have P2 : Hid (Px w2 (.slice x2 m2.length y2) m2) := g2.px
  have E12 : Hid (m1 = m2) := pls_once (I1.out.trans g2.is.symm)
  have L1 : Hid (m1.length ≤ 140737488351232) := by show _ ≤ _; have h := congrArg List.length I1.out; rw [List.length_map] at h; have := HML.out; omega
  clear g2 P1 B1 I1 HM HML T0 T1
  go_upto_region 4 with (go_at_call 16; refine (of_tell HO.out z3 (T3.out.below B2.out)).mono ?_; rintro e w3 ⟨x3, y3, m3, rfl, g3⟩)
  have B3 : Hid (Below w.heap.size w w3) := below_t B2.out g3.bel
  have P13 : Hid (Px w3 (.slice x1 m1.length y1) m1) := P12.out.below g3.bel
  have P23 : Hid (Px w3 (.slice x2 m2.length y2) m2) := P2.out.below g3.bel
  have P3 : Hid (Px w3 (.slice x3 m3.length y3) m3) := g3.px
  have I3 : Hid (ps m3 = oo) := g3.is
  clear g3 P12 P2 B2
  go_upto_region 5 with (go_at_call 17; refine (rof_tell HO.out z3 (T3.out.below B3.out)).mono ?_; rintro e w4 ⟨x4, y4, m4, rfl, g4⟩)
  have B4 : Hid (Below w.heap.size w w4) := below_t B3.out g4.bel
  have P14 : Hid (Px w4 (.slice x1 m1.length y1) m1) := P13.out.below g4.bel
  have P24 : Hid (Px w4 (.slice x2 m2.length y2) m2) := P23.out.below g4.bel
  have P34 : Hid (Px w4 (.slice x3 m3.length y3) m3) := P3.out.below g4.bel
  have P4 : Hid (Px w4 (.slice x4 m4.length y4) m4) := g4.px
  have E34 : Hid (m3 = m4) := pls_once (I3.out.trans g4.is.symm)
  have L3 : Hid (m3.length ≤ 140737488351232) := by show _ ≤ _; have h := congrArg List.length I3.out; rw [List.length_map] at h; have := HOL.out; omega
  clear g4 P13 P23 P3 B3 I3 HO HOL T3
  have h12 := equal_tell E12.out L1.out P14.out P24.out
  have H34 : Hid (∀ W, Below w4.heap.size w4 W → Calls Try.prog 18 #[.slice x3 m3.length y3, .slice x4 m4.length y4] W fun e w' => e = .returned (.bool true) ∧ Below W.heap.size W w') := fun W hW => equal_tell E34.out L3.out (P34.out.below hW) (P4.out.below hW)
  go_wp2_with (first
    | (go_at_call 18; with_reducible refine h12.mono ?_; rintro e w5 ⟨rfl, b5⟩)
    | (go_at_call 18; with_reducible refine (H34.out _ b5).mono ?_; rintro e w6 ⟨rfl, b6⟩))
  go_ret
  exact ⟨rfl, below_t (below_t B4.out b5) b6⟩
end Go.Proofs.Ytllioidjelgafaa
