/-
  The walk of the statement IndexLattice: it answers true.
-/
import Derived.Test.YtllioidjelgafaaPlTell
import Derived.Test.YtllioidjelgafaaPlOpen
namespace Go.Proofs.Ytllioidjelgafaa
open Go.RowKit
set_option maxRecDepth 4000

set_option maxHeartbeats 8000000 in
theorem indexLattice_walk (v0 : Value) (l0 : List Plc) (v1 : Value) (l1 : List Plc) (v2 : Value) (l2 : List Plc) (z0 : l0.length ≤ 140737488351232) (_ : PsOk l0) (z1 : l1.length ≤ 140737488351232) (_ : PsOk l1) (z2 : l2.length ≤ 140737488351232) (_ : PsOk l2) (w : World) (t0 : Px w v0 l0) (t1 : Px w v1 l1) (t2 : Px w v2 l2) :
    Calls Try.prog 7 #[v0, v1, v2] w fun e w' => e = .returned (.bool true) ∧ Below w.heap.size w w' := by
  obtain ⟨s0, c0, rfl, _, _⟩ := t0.slice
  obtain ⟨s1, c1, rfl, _, _⟩ := t1.slice
  obtain ⟨s2, c2, rfl, _, _⟩ := t2.slice
  have T0 : Hid (Px w (.slice s0 l0.length c0) l0) := t0
  have T1 : Hid (Px w (.slice s1 l1.length c1) l1) := t1
  have T2 : Hid (Px w (.slice s2 l2.length c2) l2) := t2
  have hsp := fun W => some_place W
  clear t0 t1 t2
  go_enter Try.func7, Try.ntmps7
  go_upto_region 2 with (first
    | (go_at_call 23; refine (hsp _).mono ?_; rintro e w1 ⟨rfl, b1⟩)
    | (go_at_call 14; refine (merge_tell sp1_merge (by simp) (by simp) (one_px w1) (px_nil _)).mono ?_; rintro e w2 ⟨s3, c3, l3, rfl, m3⟩))
  have hl3 : l3.length = 1 := by have := congrArg List.length m3.is; simpa using this
  have B2 : Hid (Below w.heap.size w w2) := b1.trans (((Below.refl _ w1).alloc (Nat.le_refl _) _).mono b1.size |>.trans (m3.bel.mono (by show _ ≤ (w1.heap.push _).size; have := b1.size; simp; omega)))
  rw [hl3]
  clear m3 b1 hsp hl3
  by_cases ea : Ix.check (ps l0) = 0
  · have LA : Hid (l0.length ≤ 400) := by have := (Ix.check_ok.1 ea).1; rwa [List.length_map] at this
    obtain ⟨oab, f, hab⟩ : ∃ o f, Ix.merge (ps l0) (ps l1) = (o, f) := ⟨_, _, rfl⟩
    obtain ⟨oba, g, hba⟩ : ∃ o g, Ix.merge (ps l1) (ps l0) = (o, g) := ⟨_, _, rfl⟩
    obtain ⟨obc, h, hbc⟩ : ∃ o h, Ix.merge (ps l1) (ps l2) = (o, h) := ⟨_, _, rfl⟩
    have EA : Hid (Ix.check (ps l0) = 0) := ea
    have HAB : Hid (Ix.merge (ps l0) (ps l1) = (oab, f)) := hab
    have HBA : Hid (Ix.merge (ps l1) (ps l0) = (oba, g)) := hba
    have HBC : Hid (Ix.merge (ps l1) (ps l2) = (obc, h)) := hbc
    have HAA : Hid (Ix.merge (ps l0) (ps l0) = (ps l0, 0)) := Ix.merge_self (ps_ids _) ea
    clear ea hab hba hbc
    go_upto_region 7 with (go_at_call 14; refine (merge_tell HAA.out z0 z0 (T0.out.below B2.out) (T0.out.below B2.out)).mono ?_; rintro e w3 ⟨s4, c4, l4, rfl, m4⟩)
    have B3 : Hid (Below w.heap.size w w3) := below_t B2.out m4.bel
    have M4 : Hid (MgOut w2 w3 s4 c4 l4 (ps l0)) := m4
    clear m4
    go_upto_region 8 with (go_at_call 14; refine (merge_tell HAB.out z0 z1 (T0.out.below B3.out) (T1.out.below B3.out)).mono ?_; rintro e w4 ⟨s5, c5, l5, rfl, m5⟩)
    have B4 : Hid (Below w.heap.size w w4) := below_t B3.out m5.bel
    have M5 : Hid (MgOut w3 w4 s5 c5 l5 oab) := m5
    clear m5
    go_upto_region 9 with (go_at_call 14; refine (merge_tell HBA.out z1 z0 (T1.out.below B4.out) (T0.out.below B4.out)).mono ?_; rintro e w5 ⟨s6, c6, l6, rfl, m6⟩)
    have B5 : Hid (Below w.heap.size w w5) := below_t B4.out m6.bel
    have M6 : Hid (MgOut w4 w5 s6 c6 l6 oba) := m6
    have E4 : Hid (l4 = l0) := pls_once M4.out.is
    have P4 : Hid (Px w5 (.slice s4 l4.length c4) l4) := M4.out.px.below (below_t M5.out.bel m6.bel)
    have P5 : Hid (Px w5 (.slice s5 l5.length c5) l5) := M5.out.px.below m6.bel
    have L4 : Hid (l4.length ≤ 140737488351232) := by show l4.length ≤ _; rw [E4.out]; exact z0
    clear m6
    obtain ⟨eb, heb⟩ : ∃ eb, Ix.check (ps l1) = eb := ⟨_, rfl⟩
    have HEB : Hid (Ix.check (ps l1) = eb) := heb
    clear heb
    go_cut [76] from 57 (fun x wx => x = .bool false ∧ Hid (Below w5.heap.size w5 wx))
    case first =>
      have L1 : Hid (l1.length ≤ 140737488351232) := z1
      by_cases he : eb = 0
      · subst he
        have HC : Hid (oab = oba ∧ f = g) := by
          have := Ix.merge_comm (ps_ids l0) (ps_ids l1) EA.out HEB.out
          rw [HAB.out, HBA.out] at this
          exact ⟨congrArg Prod.fst this, congrArg Prod.snd this⟩
        have E56 : Hid (l5 = l6) := pls_once (by rw [M5.out.is, M6.out.is]; exact HC.out.1)
        have efg := HC.out.2
        subst efg
        have L5 : Hid (l5.length ≤ 140737488351232) := by
          show l5.length ≤ _
          have h1 := congrArg List.length M5.out.is
          rw [List.length_map] at h1
          have h2 : oab = (Ix.merge (ps l0) (ps l1)).1 := by rw [HAB.out]
          rw [h1, h2]
          by_cases h3 : (Ix.merge (ps l0) (ps l1)).2 = 0
          · have := (Ix.check_ok.1 (Ix.merge_check (ps_ids _) (ps_ids _) h3).1).1; omega
          · rw [Ix.merge_bad h3]; simp
        clear HC
        go_wp2_with (first
          | (go_at_call 18; with_reducible refine (equal_tell E4.out L4.out P4.out (T0.out.below B5.out)).mono ?_; rintro e w6 ⟨rfl, b6⟩)
          | (go_at_call 13; with_reducible refine (check_tell HEB.out L1.out (T1.out.below (below_t B5.out b6))).mono ?_; rintro e w7 ⟨rfl, b7⟩)
          | (go_at_call 18; with_reducible refine (equal_tell E56.out L5.out (P5.out.below (below_t b6 b7)) (M6.out.px.below (below_t b6 b7))).mono ?_; rintro e w8 ⟨rfl, b8⟩))
        go_meet
        exact ⟨rfl, below_t b6 (below_t b7 b8)⟩
      · have he2 : (eb == 0) = false := by simpa using he
        clear he
        go_wp2_with (first
          | (go_at_call 18; with_reducible refine (equal_tell E4.out L4.out P4.out (T0.out.below B5.out)).mono ?_; rintro e w6 ⟨rfl, b6⟩)
          | (go_at_call 13; with_reducible refine (check_tell HEB.out L1.out (T1.out.below (below_t B5.out b6))).mono ?_; rintro e w7 ⟨rfl, b7⟩))
        go_meet
        exact ⟨rfl, below_t b6 b7⟩
    case rest =>
      obtain ⟨rfl, hcw⟩ := hcut
      have B8 : Hid (Below w.heap.size w wc) := below_t B5.out hcw.out
      have P5' : Hid (Px wc (.slice s5 l5.length c5) l5) := P5.out.below hcw.out
      clear hcw P4 M6 HBA HEB
      go_upto_region 12 with (go_at_call 14; refine (merge_tell HBC.out z1 z2 (T1.out.below B8.out) (T2.out.below B8.out)).mono ?_; rintro e w9 ⟨s7, c7, l7, rfl, m7⟩)
      have B9 : Hid (Below w.heap.size w w9) := below_t B8.out m7.bel
      have M7 : Hid (MgOut wc w9 s7 c7 l7 obc) := m7
      have P5'' : Hid (Px w9 (.slice s5 l5.length c5) l5) := P5'.out.below m7.bel
      clear m7 P5'
      by_cases hf : f = 0
      · subst hf
        by_cases hh : h = 0
        · subst hh
          obtain ⟨ox, i, hx⟩ : ∃ o i, Ix.merge (ps l5) (ps l2) = (o, i) := ⟨_, _, rfl⟩
          have hab0 : (Ix.merge (ps l0) (ps l1)).2 = 0 := by rw [HAB.out]
          have hbc0 : (Ix.merge (ps l1) (ps l2)).2 = 0 := by rw [HBC.out]
          have e5 : ps l5 = (Ix.merge (ps l0) (ps l1)).1 := by rw [HAB.out]; exact M5.out.is
          have e7 : ps l7 = (Ix.merge (ps l1) (ps l2)).1 := by rw [HBC.out]; exact M7.out.is
          have HX : Hid (Ix.merge (ps l5) (ps l2) = (ox, i)) := hx
          have HY : Hid (Ix.merge (ps l0) (ps l7) = (ox, i)) := by
            show _ = _
            rw [e7, ← Ix.merge_assoc (ps_ids _) (ps_ids _) (ps_ids _) hab0 hbc0, ← e5]
            exact hx
          have C5 : Hid (Ix.check (ps l5) = 0) := by show _ = _; rw [e5]; exact (Ix.merge_check (ps_ids _) (ps_ids _) hab0).1
          have C7 : Hid (Ix.check (ps l7) = 0) := by show _ = _; rw [e7]; exact (Ix.merge_check (ps_ids _) (ps_ids _) hbc0).1
          have L5 : Hid (l5.length ≤ 140737488351232) := by show l5.length ≤ _; have := (Ix.check_ok.1 C5.out).1; rw [List.length_map] at this; omega
          have L7 : Hid (l7.length ≤ 140737488351232) := by show l7.length ≤ _; have := (Ix.check_ok.1 C7.out).1; rw [List.length_map] at this; omega
          have LX : Hid (ox.length ≤ 400) := by
            have h2 : ox = (Ix.merge (ps l5) (ps l2)).1 := by rw [hx]
            show ox.length ≤ _
            rw [h2]
            by_cases h3 : (Ix.merge (ps l5) (ps l2)).2 = 0
            · exact (Ix.check_ok.1 (Ix.merge_check (ps_ids _) (ps_ids _) h3).1).1
            · rw [Ix.merge_bad h3]; simp
          clear hx hab0 hbc0 e5 e7
          go_upto_region 15 with (go_at_call 14; refine (merge_tell HX.out L5.out z2 P5''.out (T2.out.below B9.out)).mono ?_; rintro e w10 ⟨s8, c8, l8, rfl, m8⟩)
          have M8 : Hid (MgOut w9 w10 s8 c8 l8 ox) := m8
          clear m8
          go_upto_region 16 with (go_at_call 14; refine (merge_tell HY.out z0 L7.out (T0.out.below (below_t B9.out M8.out.bel)) (M7.out.px.below M8.out.bel)).mono ?_; rintro e w11 ⟨s9, c9, l9, rfl, m9⟩)
          have M9 : Hid (MgOut w10 w11 s9 c9 l9 ox) := m9
          clear m9
          have E89 : Hid (l8 = l9) := pls_once (by rw [M8.out.is, M9.out.is])
          have L8 : Hid (l8.length ≤ 140737488351232) := by
            show l8.length ≤ _
            have h1 := congrArg List.length M8.out.is
            rw [List.length_map] at h1
            have := LX.out
            omega
          go_wp2_with (first
            | (go_at_call 18; with_reducible refine (equal_tell E89.out L8.out (M8.out.px.below M9.out.bel) M9.out.px).mono ?_; rintro e w12 ⟨rfl, b12⟩)
            | (go_at_call 13; with_reducible refine (check_tell C5.out L5.out (P5''.out.below (below_t (below_t M8.out.bel M9.out.bel) b12))).mono ?_; rintro e w13 ⟨rfl, b13⟩))
          go_ret
          exact ⟨rfl, below_t (below_t B9.out (below_t M8.out.bel M9.out.bel)) (below_t b12 b13)⟩
        · have hh2 : (h == 0) = false := by simpa using hh
          clear hh
          go_wp2_with fail
          go_ret
          exact ⟨rfl, B9.out⟩
      · have hf2 : (f == 0) = false := by simpa using hf
        clear hf
        go_wp2_with fail
        go_ret
        exact ⟨rfl, B9.out⟩
  · have HAA : Hid (Ix.merge (ps l0) (ps l0) = ([], Ix.check (ps l0))) := Ix.merge_left ea
    obtain ⟨er, her⟩ : ∃ er, Ix.check (ps l0) = er := ⟨_, rfl⟩
    rw [her] at HAA ea
    have he2 : (er == 0) = false := by simpa using ea
    clear her ea
    go_upto_region 5 with (go_at_call 14; refine (merge_tell HAA.out z0 z0 (T0.out.below B2.out) (T0.out.below B2.out)).mono ?_; rintro e w3 ⟨s4, c4, l4, rfl, m4⟩)
    have hl4 : l4.length = 0 := by have := congrArg List.length m4.is; simpa using this
    rw [hl4]
    have B3 : Hid (Below w.heap.size w w3) := below_t B2.out m4.bel
    clear m4 hl4
    go_wp2_with fail
    go_ret
    exact ⟨rfl, B3.out⟩
end Go.Proofs.Ytllioidjelgafaa
