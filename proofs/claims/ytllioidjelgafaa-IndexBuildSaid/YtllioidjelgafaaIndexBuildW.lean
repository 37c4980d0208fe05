/-
  The walk of the statement IndexBuild: it answers true.
-/
import Derived.Test.YtllioidjelgafaaPlRev
import Derived.Test.YtllioidjelgafaaPlOpen
namespace Go.Proofs.Ytllioidjelgafaa
open Go.RowKit
set_option maxRecDepth 4000

/-- the statement's own row -/
def en1 : Ent := ⟨List.replicate 8 0, rfl, 1, 0, 0⟩
theorem en1_of : ∃ p : Ix.Pl, Ix.of 3 (ps (esP 3 [en1, en1])) = ([p], 0) := by
  refine ⟨(en1.pl 3).p, ?_⟩
  rw [Ix.of_is (by omega) (by decide) (by
    intro p hp
    simp only [esP, ps, List.map_cons, List.map_nil, List.mem_cons, List.not_mem_nil, or_false, or_self] at hp
    rw [hp]
    decide)]
  rfl
theorem two_ex (w : World) : Ex (w.alloc (.cells #[.int .u8 0, .int .u8 0, .int .u8 0, .int .u8 0, .int .u8 0, .int .u8 0, .int .u8 0, .int .u8 0, .int .i64 1, .int .i64 0, .int .i64 0, .int .u8 0, .int .u8 0, .int .u8 0, .int .u8 0, .int .u8 0, .int .u8 0, .int .u8 0, .int .u8 0, .int .i64 1, .int .i64 0, .int .i64 0] 51)) (.slice (some ⟨w.heap.size, 0, none⟩) 2 2) [en1, en1] := by
  refine ⟨.inr ⟨w.heap.size, 0, 2, rfl, by show w.heap.size < (w.heap.push _).size; simp, fun j t hj r u hu => ?_⟩, _, _, _, rfl, by omega, by omega⟩
  have hj2 : j < 2 := by
    have := (List.getElem?_eq_some_iff.1 hj).1
    simpa using this
  have ht : t = en1 := by
    have : j = 0 ∨ j = 1 := by omega
    rcases this with rfl | rfl
    · simpa using hj.symm
    · simpa using hj.symm
  subst ht
  have hr : r < 11 := by have := (List.getElem?_eq_some_iff.1 hu).1; rwa [enC_length] at this
  rw [cell_of_row _ w.heap.size _ _ _ _ (heap_alloc_new w _)]
  have hx : ∀ i, i < 11 → (#[.int .u8 0, .int .u8 0, .int .u8 0, .int .u8 0, .int .u8 0, .int .u8 0, .int .u8 0, .int .u8 0, .int .i64 1, .int .i64 0, .int .i64 0, .int .u8 0, .int .u8 0, .int .u8 0, .int .u8 0, .int .u8 0, .int .u8 0, .int .u8 0, .int .u8 0, .int .i64 1, .int .i64 0, .int .i64 0] : Array Value)[0 + j * 11 + i]? = (enC en1)[i]? := fun i hi => by
    have : j = 0 ∨ j = 1 := by omega
    rcases this with rfl | rfl
    · match i, hi with
      | 0, _ => rfl
      | 1, _ => rfl
      | 2, _ => rfl
      | 3, _ => rfl
      | 4, _ => rfl
      | 5, _ => rfl
      | 6, _ => rfl
      | 7, _ => rfl
      | 8, _ => rfl
      | 9, _ => rfl
      | 10, _ => rfl
    · match i, hi with
      | 0, _ => rfl
      | 1, _ => rfl
      | 2, _ => rfl
      | 3, _ => rfl
      | 4, _ => rfl
      | 5, _ => rfl
      | 6, _ => rfl
      | 7, _ => rfl
      | 8, _ => rfl
      | 9, _ => rfl
      | 10, _ => rfl
  rw [hx r hr]
  exact hu
theorem es_rev (n : Int) (l : List Ent) : ps (esP n l.reverse) = (ps (esP n l)).reverse := by simp [ps, esP]
theorem es_app (n : Int) (l m : List Ent) : ps (esP n (l ++ m)) = ps (esP n l) ++ ps (esP n m) := by simp [ps, esP]
theorem es_len (n : Int) (l : List Ent) : (ps (esP n l)).length = l.length := by simp [ps, esP]

set_option maxHeartbeats 8000000 in
theorem indexBuild_walk (a0 : Int) (v1 : Value) (l1 : List Ent) (v2 : Value) (l2 : List Ent) (_ : (Lit.int .i64 a0).wf = true) (z1 : l1.length ≤ 140737488351232) (_ : EsOk l1) (z2 : l2.length ≤ 140737488351232) (_ : EsOk l2) (w : World) (t1 : Ex w v1 l1) (t2 : Ex w v2 l2) :
    Calls Try.prog 8 #[.int .i64 a0, v1, v2] w fun e w' => e = .returned (.bool true) ∧ Below w.heap.size w w' := by
  obtain ⟨s1, c1, rfl, _, _⟩ := t1.slice
  obtain ⟨s2, c2, rfl, _, _⟩ := t2.slice
  obtain ⟨i0, hi, hz0, hz1, hz2⟩ := info_c3 info_enz
  have T1 : Hid (Ex w (.slice s1 l1.length c1) l1) := t1
  have T2 : Hid (Ex w (.slice s2 l2.length c2) l2) := t2
  obtain ⟨p1, hp1⟩ := en1_of
  obtain ⟨ox, e1, hx⟩ : ∃ o e, Ix.of a0 (ps (esP a0 l1)) = (o, e) := ⟨_, _, rfl⟩
  obtain ⟨oy, e2, hy⟩ : ∃ o e, Ix.of a0 (ps (esP a0 l2)) = (o, e) := ⟨_, _, rfl⟩
  have HX : Hid (Ix.of a0 (ps (esP a0 l1)) = (ox, e1)) := hx
  have HY : Hid (Ix.of a0 (ps (esP a0 l2)) = (oy, e2)) := hy
  have HP1 : Hid (Ix.of 3 (ps (esP 3 [en1, en1])) = ([p1], 0)) := hp1
  clear t1 t2 hp1 hx hy
  go_enter Try.func8, Try.ntmps8
  go_upto_region 2 with (go_at_call 16; refine (of_tell HP1.out (by simp) (two_ex w)).mono ?_; rintro e w2 ⟨s3, c3, l3, rfl, m3⟩)
  have hl3 : l3.length = 1 := by have := congrArg List.length m3.is; simpa using this
  have B2 : Hid (Below w.heap.size w w2) := ((Below.refl w.heap.size w).alloc (Nat.le_refl _) _).trans (m3.bel.mono (by show _ ≤ (w.heap.push _).size; simp))
  rw [hl3]
  clear m3 hl3
  go_upto_region 5 with (go_at_call 16; refine (of_tell HX.out z1 (T1.out.below B2.out)).mono ?_; rintro e w3 ⟨s4, c4, l4, rfl, m4⟩)
  have B3 : Hid (Below w.heap.size w w3) := below_t B2.out m4.bel
  have M4 : Hid (MgOut w2 w3 s4 c4 l4 ox) := m4
  clear m4
  go_upto_region 6 with (go_at_call 16; refine (of_tell HY.out z2 (T2.out.below B3.out)).mono ?_; rintro e w4 ⟨s5, c5, l5, rfl, m5⟩)
  have B4 : Hid (Below w.heap.size w w4) := below_t B3.out m5.bel
  have M5 : Hid (MgOut w3 w4 s5 c5 l5 oy) := m5
  clear m5
  by_cases h1 : e1 = 0
  · subst h1
    by_cases h2 : e2 = 0
    · subst h2
      have ok1 := Ix.of_ok (n := a0) (l := ps (esP a0 l1)) (by rw [HX.out])
      have ok2 := Ix.of_ok (n := a0) (l := ps (esP a0 l2)) (by rw [HY.out])
      have LL1 : l1.length ≤ 400 := by have := ok1.2.1; rwa [es_len] at this
      have LL2 : l2.length ≤ 400 := by have := ok2.2.1; rwa [es_len] at this
      have HZ : Hid (Ix.of a0 (ps (esP a0 l1.reverse)) = (ox, 0)) := by
        show _ = _
        rw [es_rev, Ix.of_turned (ps_ids _) (by rw [HX.out]), HX.out]
      have CX : Hid (Ix.check ox = 0) := by
        have := (Ix.of_check (n := a0) (ps_ids (esP a0 l1)) (by rw [HX.out])).1
        rw [HX.out] at this
        exact this
      have CY : Hid (Ix.check oy = 0) := by
        have := (Ix.of_check (n := a0) (ps_ids (esP a0 l2)) (by rw [HY.out])).1
        rw [HY.out] at this
        exact this
      have L4 : Hid (l4.length ≤ 140737488351232) := by show l4.length ≤ _; have h := (Ix.check_ok.1 CX.out).1; have h2 := congrArg List.length M4.out.is; rw [List.length_map] at h2; omega
      have L5 : Hid (l5.length ≤ 140737488351232) := by show l5.length ≤ _; have h := (Ix.check_ok.1 CY.out).1; have h2 := congrArg List.length M5.out.is; rw [List.length_map] at h2; omega
      have C4 : Hid (Ix.check (ps l4) = 0) := by show _ = _; rw [M4.out.is]; exact CX.out
      clear ok1 ok2
      have hcl := fun W hW => clone_ents (.slice s1 l1.length c1) l1 W hW (by omega)
      go_upto_region 9 with (go_at_call 26; refine (hcl _ (T1.out.below B4.out)).mono ?_; rintro e w5 ⟨v5, rfl, o5, b5⟩)
      have B5 : Hid (Below w.heap.size w w5) := below_t B4.out b5
      have hrv := reverse_any v5 l1 w5 w4.heap.size o5 (by omega)
      have M4' : Hid (Px w5 (.slice s4 l4.length c4) l4) := M4.out.px.below (below_t M5.out.bel b5)
      have M5' : Hid (Px w5 (.slice s5 l5.length c5) l5) := M5.out.px.below b5
      have HZ4 : Hid (w4.heap.size ≤ w5.heap.size ∧ w.heap.size ≤ w4.heap.size) := ⟨b5.size, B4.out.size⟩
      have P4a : Hid (Px w4 (.slice s4 l4.length c4) l4) := M4.out.px.below M5.out.bel
      have B45 : Hid (Below w4.heap.size w4 w5) := b5
      clear o5 b5
      go_upto_region 10 with (go_at_call 27; refine hrv.mono ?_; rintro e w6 ⟨rfl, hx6, b6⟩)
      have B46 : Hid (Below w4.heap.size w4 w6) := B45.out.trans b6
      have B6 : Hid (Below w.heap.size w w6) := below_t B4.out B46.out
      have X6 : Hid (Ex w6 v5 l1.reverse) := hx6
      obtain ⟨s6, c6, hv6, _, _⟩ := hx6.slice
      rw [List.length_reverse] at hv6
      clear hx6 b6 hrv M4' M5' B45
      subst hv6
      go_upto_region 11 with (go_at_call 16; refine (of_tell HZ.out (by rw [List.length_reverse]; exact z1) X6.out).mono ?_; rintro e w7 ⟨s7, c7, l7, rfl, m7⟩)
      have M7 : Hid (MgOut w6 w7 s7 c7 l7 ox) := m7
      have B7 : Hid (Below w.heap.size w w7) := below_t B6.out m7.bel
      have B47 : Hid (Below w4.heap.size w4 w7) := below_t B46.out m7.bel
      clear m7
      have E47 : Hid (l4 = l7) := pls_once (by rw [M4.out.is, M7.out.is])
      have P4 : Hid (Px w7 (.slice s4 l4.length c4) l4) := P4a.out.below B47.out
      go_upto_region 13 with (first
        | (go_at_call 18; with_reducible refine (equal_tell E47.out L4.out P4.out M7.out.px).mono ?_; rintro e w8 ⟨rfl, b8⟩)
        | (go_at_call 13; with_reducible refine (check_tell C4.out L4.out (P4.out.below b8)).mono ?_; rintro e w9 ⟨rfl, b9⟩))
      have B9 : Hid (Below w.heap.size w w9) := below_t B7.out (below_t b8 b9)
      have B49 : Hid (Below w4.heap.size w4 w9) := below_t B47.out (below_t b8 b9)
      have P49 : Hid (Px w9 (.slice s4 l4.length c4) l4) := P4.out.below (below_t b8 b9)
      clear b8 b9 M7 X6 B7 B47 P4 E47
      obtain ⟨ou, eg, hu⟩ : ∃ o e, Ix.of a0 (ps (esP a0 (l1 ++ l2))) = (o, e) := ⟨_, _, rfl⟩
      have HU : Hid (Ix.of a0 (ps (esP a0 (l1 ++ l2))) = (ou, eg)) := hu
      obtain ⟨ov, eh, hv⟩ : ∃ o e, Ix.merge (ps l4) (ps l5) = (o, e) := ⟨_, _, rfl⟩
      have HV : Hid (Ix.merge (ps l4) (ps l5) = (ov, eh)) := hv
      have HTWO : Hid (eg = 0 → ov = ou ∧ eh = 0) := fun h0 => by
        have h := Ix.of_two (n := a0) (ps_ids (esP a0 l1)) (ps_ids (esP a0 l2)) (by rw [HX.out]) (by rw [HY.out]) (by rw [← es_app, HU.out]; exact h0)
        rw [HX.out, HY.out, ← es_app, HU.out, ← M4.out.is, ← M5.out.is, HV.out] at h
        have h1 := congrArg Prod.fst h
        have h2 := congrArg Prod.snd h
        exact ⟨h1, h2.trans h0⟩
      clear hu hv
      go_upto_region 13 with fail
      refine wp_region_lit ?_
      refine wpList_plain rfl fun C hC => ?_
      go_simp
      refine hC _ _ ?_
      clear hC C
      refine wpList_plain rfl fun C hC => ?_
      go_simp
      refine hC _ _ ?_
      clear hC C
      refine wpList_plain rfl fun C hC => ?_
      go_simp
      refine (hcl _ (T1.out.below B9.out)).mono ?_
      rintro e w10 ⟨v10, rfl, o10, b10⟩
      refine hC _ _ ?_
      clear hC C hcl
      have B10 : Hid (Below w.heap.size w w10) := below_t B9.out b10
      have B410 : Hid (Below w4.heap.size w4 w10) := below_t B49.out b10
      have P410 : Hid (Px w10 (.slice s4 l4.length c4) l4) := P49.out.below b10
      have hz9 : w9.heap.size ≤ w10.heap.size := b10.size
      have HB910 : Hid (Below w9.heap.size w9 w10) := b10
      clear b10
      refine wpList_plain rfl fun C hC => ?_
      go_simp
      refine hC _ _ ?_
      clear hC C
      obtain ⟨hsA, hsB⟩ := (T2.out.below B10.out).src enC_length (by omega)
      refine wpList_append_row _ rfl (.tmp 77) (.tmp 78) 34 rfl w9.heap.size 51 i0 (enV en0) 11 32 Try.underlying34 hi hz0 hz1 hz2 (by kernel_rfl) (by decide) _ _ _ rfl o10 s2 l2.length c2 (rowR enC l2) rfl (rowR_length enC_length l2) hsA hsB (rowR_one enC_one l2) (by unfold maxLen; omega) (by omega) hz9 ?_
      intro v11 w11 o11 g11
      have B911 : Hid (Below w9.heap.size w9 w11) := HB910.out.grown g11 hz9 fun j hj => (o10.lt j hj).1
      have hown11 : w11.ownsRow w9.heap.size 51 11 v11 (l1 ++ l2).length (rowR enC (l1 ++ l2)) := by
        rw [List.length_append, show rowR enC (l1 ++ l2) = rowR enC l1 ++ rowR enC l2 from by simp [rowR]]
        exact o11
      have X11 := Rx.of_own (l := l1 ++ l2) enC_length hown11
      obtain ⟨s11, c11, hv11, _, _⟩ := X11.slice
      rw [List.length_append] at hv11
      subst hv11
      have B11 : Hid (Below w.heap.size w w11) := below_t B9.out B911.out
      have P411 : Hid (Px w11 (.slice s4 l4.length c4) l4) := P49.out.below B911.out
      have P511 : Hid (Px w11 (.slice s5 l5.length c5) l5) := M5.out.px.below (below_t B49.out B911.out)
      have hof := of_tell HU.out (by rw [List.length_append]; omega) X11
      clear o11 g11 o10 hsA hsB hown11 X11
      refine wpList_plain rfl fun C hC => ?_
      go_simp
      refine hof.mono ?_
      rintro e w12 ⟨s12, c12, l12, rfl, m12⟩
      refine hC _ _ ?_
      clear hC C hof
      have M12 : Hid (MgOut w11 w12 s12 c12 l12 ou) := m12
      have B12 : Hid (Below w.heap.size w w12) := below_t B11.out m12.bel
      clear m12
      go_upto_region 15 with (go_at_call 14; refine (merge_tell HV.out L4.out L5.out (P411.out.below M12.out.bel) (P511.out.below M12.out.bel)).mono ?_; rintro e w13 ⟨s13, c13, l13, rfl, m13⟩)
      have M13 : Hid (MgOut w12 w13 s13 c13 l13 ov) := m13
      have B13 : Hid (Below w.heap.size w w13) := below_t B12.out m13.bel
      clear m13
      by_cases hg : eg = 0
      · subst hg
        obtain ⟨hov, heh⟩ := HTWO.out rfl
        subst heh
        have E1213 : Hid (l12 = l13) := pls_once (by rw [M12.out.is, M13.out.is, hov])
        have L12 : Hid (l12.length ≤ 140737488351232) := by
          show l12.length ≤ _
          have h := (Ix.check_ok.1 (Ix.of_check (n := a0) (ps_ids (esP a0 (l1 ++ l2))) (by rw [HU.out])).1).1
          rw [HU.out] at h
          have h2 := congrArg List.length M12.out.is
          rw [List.length_map] at h2
          have h3 : ou.length ≤ 400 := h
          omega
        clear hov
        go_wp2_with (go_at_call 18; refine (equal_tell E1213.out L12.out (M12.out.px.below M13.out.bel) M13.out.px).mono ?_; rintro e w14 ⟨rfl, b14⟩)
        go_ret
        exact ⟨rfl, below_t B13.out b14⟩
      · have he : (eg == 0) = false := by simpa using hg
        have he' : (eg != 0) = true := by simpa using hg
        clear hg
        go_wp2_with fail
        go_ret
        exact ⟨rfl, B13.out⟩
    · have he : (e2 == 0) = false := by simpa using h2
      have he' : (e2 != 0) = true := by simpa using h2
      clear h2
      go_wp2_with fail
      go_ret
      exact ⟨rfl, B4.out⟩
  · have he : (e1 == 0) = false := by simpa using h1
    have he' : (e1 != 0) = true := by simpa using h1
    clear h1
    go_wp2_with fail
    go_ret
    exact ⟨rfl, B4.out⟩
end Go.Proofs.Ytllioidjelgafaa
