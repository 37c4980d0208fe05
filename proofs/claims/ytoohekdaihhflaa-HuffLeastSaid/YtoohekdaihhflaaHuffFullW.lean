/-
  The walk of lumkeep.HuffFull: it returns true.
-/
import Derived.Test.YtoohekdaihhflaaHpLen
import Derived.Test.YtoohekdaihhflaaHfFull
import Derived.Test.YtoohekdaihhflaaHfEq
import Derived.BigQuiet
namespace Go.Proofs.Ytoohekdaihhflaa
open Go.RowKit

theorem ints_two (w : World) (x y : Int) : Ints (w.alloc (.cells #[.int .i64 x, .int .i64 y] 3)) (.slice (some ⟨w.heap.size, 0, none⟩) 2 2) [x, y] := by
  refine ⟨.inr ⟨w.heap.size, 0, 2, rfl, by simp, fun j hj => ?_⟩⟩
  have hj : j < 2 := hj
  match j, hj with
  | 0, _ => simp
  | 1, _ => simp
theorem Ints.of_own' {base n : Nat} {w : World} {v : Value} {l : List Nat} (h : w.ownsRow base 3 1 v n ((Hf.up l).map Iv)) (hn : l.length = n) : Ints w v (Hf.up l) := Ints.of_own (by rw [Hf.up_length, hn]; exact h)
theorem len03 (w : World) : Calls Try.prog 9 #[.slice (some ⟨w.heap.size, 0, none⟩) 2 2] (w.alloc (.cells #[.int .i64 0, .int .i64 3] 3)) fun e w' => ∃ v', e = .returned (.tuple #[v', .int .i64 0]) ∧ Ints w' v' [0, 1] ∧ Below w.heap.size w w' := by
  refine (lengths_any (.slice (some ⟨w.heap.size, 0, none⟩) 2 2) [0, 3] (w.alloc (.cells #[.int .i64 0, .int .i64 3] 3)) (ints_two w 0 3) (by decide) (by decide) (by decide)).mono ?_
  rintro e w' ⟨v', out, rfl, hl, ho, hb⟩
  refine ⟨v', rfl, ?_, ((Below.refl _ w).alloc (Nat.le_refl _) _).trans (hb.mono (by simp))⟩
  have : out = [0, 1] := hl.one (3, 1, [1]) (by decide)
  subst this
  exact Ints.of_own' ho rfl
set_option maxHeartbeats 1000000 in
theorem huffFull_no (v : Value) (w : World)
    (c1 : ∀ W, Below w.heap.size w W → Calls Try.prog 9 #[v] W fun e w' => e = .returned (.tuple #[.slice none 0 0, .int .i64 1]) ∧ w' = W) :
    Calls Try.prog 7 #[v] w fun e w' => e = .returned (.bool true) ∧ Below w.heap.size w w' := by
  go_enter Try.func7, Try.ntmps7
  go_wp2_with fail
  refine (len03 w).mono ?_
  rintro e w1 ⟨v1, rfl, o1, hb1⟩
  have heq := equal_ints v1 (.slice (some ⟨w1.heap.size, 0, none⟩) 2 2) [0, 1] (w1.alloc (.cells #[.int .i64 0, .int .i64 1] 3)) (o1.below (Nat.le_refl _) ((Below.refl _ _).alloc (Nat.le_refl _) _)) (ints_two w1 0 1) (by simp)
  go_wp2_with fail
  refine heq.mono ?_
  rintro e w2 ⟨rfl, hb2⟩
  clear heq o1
  have hB : Below w.heap.size w w2 := (hb1.alloc hb1.size _).trans (hb2.mono (by have := hb1.size; simp; omega))
  have hc := c1 w2 hB
  clear c1 hb1 hb2
  go_wp2_with fail
  refine hc.mono ?_
  rintro e w4 ⟨rfl, rfl⟩
  go_wp2_with fail
  go_ret
  exact ⟨rfl, hB⟩
theorem Hf.ksum_three {F out : List Nat} (h : Hf.HL F out) (h2 : F.length ≤ 256) (h3 : ∀ n ∈ F, n ≤ 1048576) :
    ((Hf.init F F.length).length = 0 ∧ Hf.ksum out = 0) ∨ ((Hf.init F F.length).length = 1 ∧ Hf.ksum out = 140737488355328) ∨ (2 ≤ (Hf.init F F.length).length ∧ Hf.ksum out = 281474976710656) := by
  have := h.ksum h2 h3
  by_cases e : (Hf.init F F.length).length = 0
  · rw [if_pos e] at this
    exact .inl ⟨e, this⟩
  · rw [if_neg e] at this
    by_cases e1 : (Hf.init F F.length).length = 1
    · rw [if_pos e1] at this
      exact .inr (.inl ⟨e1, this⟩)
    · rw [if_neg e1] at this
      exact .inr (.inr ⟨by omega, this⟩)

set_option maxRecDepth 5000 in
set_option maxHeartbeats 8000000 in
theorem huffFull_yes (v : Value) (F : List Nat) (w : World) (h : Ints w v (Hf.up F)) (h1 : 1 ≤ F.length) (h2 : F.length ≤ 256) (h3 : ∀ n ∈ F, n ≤ 1048576) :
    Calls Try.prog 7 #[v] w fun e w' => e = .returned (.bool true) ∧ Below w.heap.size w w' := by
  have c1 : ∀ W, Below w.heap.size w W → _ := fun W hW => lengths_any v F W (h.below (Nat.le_refl _) hW) h1 h2 h3
  have H3 : Hid (∀ n ∈ F, n ≤ 1048576) := h3
  obtain ⟨a, c, rfl⟩ := h.slice
  rw [Hf.up_length] at h c1 ⊢
  clear h3
  go_enter Try.func7, Try.ntmps7
  go_wp2_with fail
  refine (len03 w).mono ?_
  rintro e w1 ⟨v1, rfl, o1, hb1⟩
  have heq := equal_ints v1 (.slice (some ⟨w1.heap.size, 0, none⟩) 2 2) [0, 1] (w1.alloc (.cells #[.int .i64 0, .int .i64 1] 3)) (o1.below (Nat.le_refl _) ((Below.refl _ _).alloc (Nat.le_refl _) _)) (ints_two w1 0 1) (by simp)
  go_wp2_with fail
  refine heq.mono ?_
  rintro e w2 ⟨rfl, hb2⟩
  clear heq o1
  have hB : Below w.heap.size w w2 := (hb1.alloc hb1.size _).trans (hb2.mono (by have := hb1.size; simp; omega))
  have hcc := c1 w2 hB
  clear c1 hb1 hb2
  go_wp2_with fail
  refine hcc.mono ?_
  rintro e w4 ⟨v4, out, rfl, hl, o4, hb4⟩
  clear hcc
  have hB4 : Below w.heap.size w w4 := hB.trans (hb4.mono hB.size)
  have hlen := hl.len
  have o4 : Ints w4 v4 (Hf.up out) := Ints.of_own' o4 hlen
  have hkr := kraft_any v4 out w4 o4 (by omega) (by omega) (hl.le48 h2 H3.out)
  have HTH : Hid (∀ i, 0 < F.getD i 0 ↔ 0 < out.getD i 0) := hl.there h2 H3.out
  have HOR : Hid (∀ i j, i < F.length → j < F.length → 0 < F.getD j 0 → F.getD j 0 < F.getD i 0 → out.getD i 0 ≤ out.getD j 0) := fun i j hi hj => hl.order h2 H3.out hi hj
  have HK3 : Hid (_) := Hf.ksum_three hl h2 H3.out
  have HLE : Hid (∀ i, out.getD i 0 ≤ 48) := fun i => Hf.getD_le (hl.le48 h2 H3.out) i
  obtain ⟨a4, c4, rfl⟩ := o4.slice
  rw [Hf.up_length, hlen] at o4 hkr
  have HLN : Hid (out.length = F.length) := hlen
  have hi4 := h.below (Nat.le_refl _) hB4
  have HB4 : Hid (Below w.heap.size w w4) := hB4
  obtain ⟨K, hK⟩ : ∃ K, Hf.ksum out = K := ⟨_, rfl⟩
  rw [hK] at hkr HK3
  have hup : (Hf.up out).length = F.length := by rw [Hf.up_length]; exact hlen
  rw [hup]
  clear h hb4 hB hB4 hl hlen hK hup
  go_wp2_with fail
  refine hkr.mono ?_
  rintro e w5 ⟨rfl, rfl⟩
  clear hkr
  go_wp2_with fail
  go_loopw [8, 52] (fun t x wr => ∃ i : Nat, i ≤ F.length ∧ x = .int .i64 i ∧ t = .int .i64 (Hf.init F i).length ∧ Hid (Below w5.heap.size w5 wr)) (fun _ x _ => F.length - (intOf x).toNat)
  case atStart => exact ⟨0, by omega, rfl, rfl, Below.refl _ _⟩
  case round =>
    obtain ⟨i, hil, rfl, rfl, hbel⟩ := hrel
    by_cases hlt : i < F.length
    · obtain ⟨bk, o, rfl, hbk, c0⟩ := (hi4.below (Nat.le_refl _) hbel.out).getN i hlt
      obtain ⟨bc, oc, rfl, hbc, _⟩ := (o4.below (Nat.le_refl _) hbel.out).getN i (by rw [HLN.out]; exact hlt)
      have hn := Hf.getD_le H3.out i
      have hcl := HLE.out i
      have hth := HTH.out i
      have HOi : Hid (∀ j, j < F.length → 0 < F.getD j 0 → F.getD j 0 < F.getD i 0 → out.getD i 0 ≤ out.getD j 0) := fun j hj => HOR.out i j hlt hj
      have hil2 := Hf.init_length F i
      have HIS : Hid ((Hf.init F (i + 1)).length = (Hf.init F i).length + if 0 < F.getD i 0 then 1 else 0) := by
        show _ = _
        rw [Hf.init_succ, List.length_append]
        split <;> rfl
      generalize hni : F.getD i 0 = n at *
      generalize hci : out.getD i 0 = ci at *
      have HCI : Hid (out.getD i 0 = ci) := hci
      clear hni hci
      by_cases hn0 : 0 < n
      · have HT : Hid ((Hf.init F (i + 1)).length = (Hf.init F i).length + 1) := by rw [HIS.out, if_pos hn0]; rfl
        have hc0 : 0 < ci := hth.1 hn0
        clear HIS hth
        generalize (Hf.init F i).length = T0 at *
        go_wp2_with fail
        clear c0
        go_loopw [63] (fun x wr => ∃ j : Nat, j ≤ F.length ∧ x = .int .i64 j ∧ Hid (Below w5.heap.size w5 wr)) (fun x _ => F.length - (intOf x).toNat)
        case atStart => exact ⟨0, by omega, rfl, hbel⟩
        case round =>
          obtain ⟨j, hjl, rfl, hbel⟩ := hrel
          by_cases hlt2 : j < F.length
          · obtain ⟨bk', o', ha', hbk', d0⟩ := (hi4.below (Nat.le_refl _) hbel.out).getN j hlt2
            obtain ⟨rfl, rfl⟩ : bk = bk' ∧ o = o' := by simpa using ha'
            obtain ⟨bc', oc', hc', hbc', d1⟩ := (o4.below (Nat.le_refl _) hbel.out).getN j (by rw [HLN.out]; exact hlt2)
            obtain ⟨rfl, rfl⟩ : bc = bc' ∧ oc = oc' := by simpa using hc'
            obtain ⟨bc2, oc2, hc2, _, d2⟩ := (o4.below (Nat.le_refl _) hbel.out).getN i (by rw [HLN.out]; exact hlt)
            obtain ⟨rfl, rfl⟩ : bc = bc2 ∧ oc = oc2 := by simpa using hc2
            rw [HCI.out] at d2
            clear ha' hc' hc2
            have hm := Hf.getD_le H3.out j
            have hcj := HLE.out j
            have hor := HOi.out j hlt2
            generalize F.getD j 0 = m at *
            generalize out.getD j 0 = cj at *
            have x1 : ∀ X : Since wr.heap.size wr, X.val.cell? ⟨bc, oc + j, none⟩ = some (.int .i64 (cj : Int)) := fun X => (X.property.cell (p := ⟨bc, oc + j, none⟩) hbc').trans d1
            have x2 : ∀ X : Since wr.heap.size wr, X.val.cell? ⟨bc, oc + i, none⟩ = some (.int .i64 (ci : Int)) := fun X => (X.property.cell (p := ⟨bc, oc + i, none⟩) hbc').trans d2
            have hne : Nonempty (Since wr.heap.size wr) := ⟨⟨wr, Below.refl _ _⟩⟩
            clear d1 d2
            go_wp2_with fail
            refine wp_region_since (B := wr.heap.size) (W0 := wr) (by kernel_rfl) (by kernel_rfl) (Below.refl _ _) ?_
            clear d0
            by_cases hm0 : 0 < m
            · by_cases hmn : m < n
              · have q1 : decide ((cj : Int) < (ci : Int)) = false := decide_eq_false (by have := hor hm0 hmn; omega)
                have q2 : decide (cj < ci) = false := decide_eq_false (by have := hor hm0 hmn; omega)
                clear hor
                repeat (go_big_quiet_step (fail))
                refine wpQuiet_nil ?_
                rintro w7 ⟨U, rfl⟩
                have HB3 : Hid (Below w5.heap.size w5 U.val) := hbel.out.trans (U.property.mono hbel.out.size)
                generalize U.val = w7 at *
                clear x1 x2 hne hbel
                go_wp2_with fail
                go_roundw
                case rel => exact ⟨j + 1, by omega, by go_num, HB3⟩
                case measure => simp only [intOf]; omega
              · have q1 : decide ((m : Int) < (n : Int)) = false := decide_eq_false (by omega)
                have q2 : decide (m < n) = false := decide_eq_false hmn
                clear hor
                repeat (go_big_quiet_step (fail))
                refine wpQuiet_nil ?_
                rintro w7 ⟨U, rfl⟩
                have HB3 : Hid (Below w5.heap.size w5 U.val) := hbel.out.trans (U.property.mono hbel.out.size)
                generalize U.val = w7 at *
                clear x1 x2 hne hbel
                go_wp2_with fail
                go_roundw
                case rel => exact ⟨j + 1, by omega, by go_num, HB3⟩
                case measure => simp only [intOf]; omega
            · have q1 : decide ((0 : Int) < (m : Int)) = false := decide_eq_false (by omega)
              have q2 : decide (0 < m) = false := decide_eq_false hm0
              clear hor
              repeat (go_big_quiet_step (fail))
              refine wpQuiet_nil ?_
              rintro w7 ⟨U, rfl⟩
              have HB3 : Hid (Below w5.heap.size w5 U.val) := hbel.out.trans (U.property.mono hbel.out.size)
              generalize U.val = w7 at *
              clear x1 x2 hne hbel
              go_wp2_with fail
              go_roundw
              case rel => exact ⟨j + 1, by omega, by go_num, HB3⟩
              case measure => simp only [intOf]; omega
          · clear HOi
            go_wp2_with fail
            go_roundw
            case rel => exact ⟨i + 1, by omega, by go_num, by rw [HT.out]; go_num, hbel⟩
            case measure => simp only [intOf]; omega
      · have HT : Hid ((Hf.init F (i + 1)).length = (Hf.init F i).length) := by rw [HIS.out, if_neg hn0]; rfl
        have hc0 : ¬ 0 < ci := fun e => hn0 (hth.2 e)
        have k1 : decide ((0 : Int) < (n : Int)) = false := decide_eq_false (by omega)
        have k2 : decide (0 < n) = false := decide_eq_false hn0
        have k3 : decide ((0 : Int) < (ci : Int)) = false := decide_eq_false (by omega)
        have k4 : decide (0 < ci) = false := decide_eq_false hc0
        clear HIS hth
        generalize (Hf.init F i).length = T0 at *
        go_wp2_with fail
        clear c0
        go_loopw [63] (fun x wr => ∃ j : Nat, j ≤ F.length ∧ x = .int .i64 j ∧ Hid (Below w5.heap.size w5 wr)) (fun x _ => F.length - (intOf x).toNat)
        case atStart => exact ⟨0, by omega, rfl, hbel⟩
        case round =>
          obtain ⟨j, hjl, rfl, hbel⟩ := hrel
          by_cases hlt2 : j < F.length
          · obtain ⟨bk', o', ha', hbk', d0⟩ := (hi4.below (Nat.le_refl _) hbel.out).getN j hlt2
            obtain ⟨rfl, rfl⟩ : bk = bk' ∧ o = o' := by simpa using ha'
            obtain ⟨bc', oc', hc', hbc', d1⟩ := (o4.below (Nat.le_refl _) hbel.out).getN j (by rw [HLN.out]; exact hlt2)
            obtain ⟨rfl, rfl⟩ : bc = bc' ∧ oc = oc' := by simpa using hc'
            obtain ⟨bc2, oc2, hc2, _, d2⟩ := (o4.below (Nat.le_refl _) hbel.out).getN i (by rw [HLN.out]; exact hlt)
            obtain ⟨rfl, rfl⟩ : bc = bc2 ∧ oc = oc2 := by simpa using hc2
            rw [HCI.out] at d2
            clear ha' hc' hc2
            have hm := Hf.getD_le H3.out j
            have hcj := HLE.out j
            have hor := HOi.out j hlt2
            generalize F.getD j 0 = m at *
            generalize out.getD j 0 = cj at *
            have x1 : ∀ X : Since wr.heap.size wr, X.val.cell? ⟨bc, oc + j, none⟩ = some (.int .i64 (cj : Int)) := fun X => (X.property.cell (p := ⟨bc, oc + j, none⟩) hbc').trans d1
            have x2 : ∀ X : Since wr.heap.size wr, X.val.cell? ⟨bc, oc + i, none⟩ = some (.int .i64 (ci : Int)) := fun X => (X.property.cell (p := ⟨bc, oc + i, none⟩) hbc').trans d2
            have hne : Nonempty (Since wr.heap.size wr) := ⟨⟨wr, Below.refl _ _⟩⟩
            clear d1 d2
            go_wp2_with fail
            refine wp_region_since (B := wr.heap.size) (W0 := wr) (by kernel_rfl) (by kernel_rfl) (Below.refl _ _) ?_
            clear d0
            by_cases hm0 : 0 < m
            · have q1 : decide ((m : Int) < (n : Int)) = false := decide_eq_false (by omega)
              have q2 : decide (m < n) = false := decide_eq_false (by omega)
              clear hor
              repeat (go_big_quiet_step (fail))
              refine wpQuiet_nil ?_
              rintro w7 ⟨U, rfl⟩
              have HB3 : Hid (Below w5.heap.size w5 U.val) := hbel.out.trans (U.property.mono hbel.out.size)
              generalize U.val = w7 at *
              clear x1 x2 hne hbel
              go_wp2_with fail
              go_roundw
              case rel => exact ⟨j + 1, by omega, by go_num, HB3⟩
              case measure => simp only [intOf]; omega
            · have q1 : decide ((0 : Int) < (m : Int)) = false := decide_eq_false (by omega)
              have q2 : decide (0 < m) = false := decide_eq_false hm0
              clear hor
              repeat (go_big_quiet_step (fail))
              refine wpQuiet_nil ?_
              rintro w7 ⟨U, rfl⟩
              have HB3 : Hid (Below w5.heap.size w5 U.val) := hbel.out.trans (U.property.mono hbel.out.size)
              generalize U.val = w7 at *
              clear x1 x2 hne hbel
              go_wp2_with fail
              go_roundw
              case rel => exact ⟨j + 1, by omega, by go_num, HB3⟩
              case measure => simp only [intOf]; omega
          · clear HOi
            go_wp2_with fail
            go_roundw
            case rel => exact ⟨i + 1, by omega, by go_num, by rw [HT.out], hbel⟩
            case measure => simp only [intOf]; omega
    · obtain rfl : i = F.length := by omega
      have hk3 := HK3.out
      generalize (Hf.init F F.length).length = c at *
      rcases hk3 with ⟨rfl, rfl⟩ | ⟨rfl, rfl⟩ | ⟨hc2, rfl⟩
      · go_wp2_with fail
        go_ret
        exact ⟨rfl, HB4.out.trans (hbel.out.mono HB4.out.size)⟩
      · go_wp2_with fail
        go_ret
        exact ⟨rfl, HB4.out.trans (hbel.out.mono HB4.out.size)⟩
      · have e0 : ((c : Int) == 0) = false := by simp; omega
        have e1 : ((c : Int) == 1) = false := by simp; omega
        go_wp2_with fail
        go_ret
        exact ⟨rfl, HB4.out.trans (hbel.out.mono HB4.out.size)⟩
theorem huffFull_walk (v0 : Value) (l0 : List Int) (z0 : l0.length ≤ 140737488351232) (_ : ∀ n ∈ l0, (Lit.int .i64 n).wf = true) (w : World) (t0 : Ints w v0 l0) :
    Calls Try.prog 7 #[v0] w fun e w' => e = .returned (.bool true) ∧ Below w.heap.size w w' := by
  cases hs : Hf.sgn 1048576 l0 with
  | false => exact huffFull_no v0 w fun W hW => lengths_bad v0 l0 W (t0.below (Nat.le_refl _) hW) z0 hs
  | true =>
    obtain ⟨L, rfl, h1, h2, h3⟩ := Hf.sgn_up (most := 1048576) hs
    exact huffFull_yes v0 L w t0 h1 h2 h3
end Go.Proofs.Ytoohekdaihhflaa
