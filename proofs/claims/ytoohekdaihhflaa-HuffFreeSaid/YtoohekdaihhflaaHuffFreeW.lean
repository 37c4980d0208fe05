/-
  The walk of lumkeep.HuffFree: it returns true.
-/
import Derived.Test.YtoohekdaihhflaaHfCodes
import Derived.Test.YtoohekdaihhflaaHfEq
import Derived.BigQuiet
import Derived.Deep.QuietTactic
namespace Go.Proofs.Ytoohekdaihhflaa
open Go.RowKit

/-- three numbers that were just laid -/
theorem ints_three (w : World) (x y z : Int) : Ints (w.alloc (.cells #[.int .i64 x, .int .i64 y, .int .i64 z] 3)) (.slice (some ⟨w.heap.size, 0, none⟩) 3 3) [x, y, z] := by
  refine ⟨.inr ⟨w.heap.size, 0, 3, rfl, by simp, fun j hj => ?_⟩⟩
  have hj : j < 3 := hj
  match j, hj with
  | 0, _ => simp
  | 1, _ => simp
  | 2, _ => simp
theorem Hf.codes_122 : Hf.codes [1, 2, 2] = [0, 2, 3] ∧ Hf.ksum [1, 2, 2] ≤ 281474976710656 := by decide +kernel
theorem code122 (w : World) : Calls Try.prog 14 #[.slice (some ⟨w.heap.size, 0, none⟩) 3 3] (w.alloc (.cells #[.int .i64 1, .int .i64 2, .int .i64 2] 3)) fun e w' => ∃ v', e = .returned (.tuple #[v', .int .i64 0]) ∧ Ints w' v' [0, 2, 3] ∧ Below w.heap.size w w' := by
  refine (codes_any (.slice (some ⟨w.heap.size, 0, none⟩) 3 3) [1, 2, 2] (w.alloc (.cells #[.int .i64 1, .int .i64 2, .int .i64 2] 3)) (ints_three w 1 2 2) (by decide) (by decide) (by decide) Hf.codes_122.2).mono ?_
  rintro e w' ⟨v', rfl, ho, hb⟩
  refine ⟨v', rfl, ?_, ((Below.refl _ w).alloc (Nat.le_refl _) _).trans (hb.mono (by simp))⟩
  rw [Hf.codes_122.1] at ho
  exact Ints.of_own ho
set_option maxHeartbeats 1000000 in
theorem huffFree_no (v : Value) (w : World) (F : Int) (hF : F = 1)
    (k1 : ∀ W, Below w.heap.size w W → Calls Try.prog 12 #[v] W fun e w' => e = .returned (.tuple #[.int .i64 0, .int .i64 F]) ∧ w' = W)
    (c1 : ∀ W, Below w.heap.size w W → Calls Try.prog 14 #[v] W fun e w' => e = .returned (.tuple #[.slice none 0 0, .int .i64 F]) ∧ w' = W) :
    Calls Try.prog 5 #[v] w fun e w' => e = .returned (.bool true) ∧ Below w.heap.size w w' := by
  subst hF
  go_enter Try.func5, Try.ntmps5
  go_wp2_with fail
  refine (code122 w).mono ?_
  rintro e w1 ⟨v1, rfl, o1, hb1⟩
  have heq := equal_ints v1 (.slice (some ⟨w1.heap.size, 0, none⟩) 3 3) [0, 2, 3] (w1.alloc (.cells #[.int .i64 0, .int .i64 2, .int .i64 3] 3)) (o1.below (Nat.le_refl _) ((Below.refl _ _).alloc (Nat.le_refl _) _)) (ints_three w1 0 2 3) (by simp)
  go_wp2_with fail
  refine heq.mono ?_
  rintro e w2 ⟨rfl, hb2⟩
  clear heq o1
  have hB : Below w.heap.size w w2 := (hb1.alloc hb1.size _).trans (hb2.mono (by have := hb1.size; simp; omega))
  have hk := k1 w2 hB
  have hc := c1 w2 hB
  clear k1 c1 hb1 hb2
  go_wp2_with fail
  refine hk.mono ?_
  rintro e w3 ⟨rfl, rfl⟩
  go_wp2_with fail
  refine hc.mono ?_
  rintro e w4 ⟨rfl, rfl⟩
  go_wp2_with fail
  go_ret
  exact ⟨rfl, hB⟩
set_option maxHeartbeats 1000000 in
theorem huffFree_form (v : Value) (w : World) (K : Nat) (hK : 281474976710656 < K) (hK2 : K ≤ 72057594037927936)
    (k1 : ∀ W, Below w.heap.size w W → Calls Try.prog 12 #[v] W fun e w' => e = .returned (.tuple #[.int .i64 K, .int .i64 0]) ∧ w' = W)
    (c1 : ∀ W, Below w.heap.size w W → Calls Try.prog 14 #[v] W fun e w' => e = .returned (.tuple #[.slice none 0 0, .int .i64 4]) ∧ w' = W) :
    Calls Try.prog 5 #[v] w fun e w' => e = .returned (.bool true) ∧ Below w.heap.size w w' := by
  have hK3 : decide ((K : Int) ≤ 281474976710656) = false := decide_eq_false (by omega)
  go_enter Try.func5, Try.ntmps5
  go_wp2_with fail
  refine (code122 w).mono ?_
  rintro e w1 ⟨v1, rfl, o1, hb1⟩
  have heq := equal_ints v1 (.slice (some ⟨w1.heap.size, 0, none⟩) 3 3) [0, 2, 3] (w1.alloc (.cells #[.int .i64 0, .int .i64 2, .int .i64 3] 3)) (o1.below (Nat.le_refl _) ((Below.refl _ _).alloc (Nat.le_refl _) _)) (ints_three w1 0 2 3) (by simp)
  go_wp2_with fail
  refine heq.mono ?_
  rintro e w2 ⟨rfl, hb2⟩
  clear heq o1
  have hB : Below w.heap.size w w2 := (hb1.alloc hb1.size _).trans (hb2.mono (by have := hb1.size; simp; omega))
  have hk := k1 w2 hB
  have hc := c1 w2 hB
  clear k1 c1 hb1 hb2
  go_wp2_with fail
  refine hk.mono ?_
  rintro e w3 ⟨rfl, rfl⟩
  go_wp2_with fail
  refine hc.mono ?_
  rintro e w4 ⟨rfl, rfl⟩
  go_wp2_with fail
  go_ret
  exact ⟨rfl, hB⟩
theorem div_low {x n : Nat} (h : x < 2 ^ n) : (x : Int) / 2 ^ n = 0 := by
  have : x / 2 ^ n = 0 := Nat.div_eq_of_lt h
  have e : ((x / 2 ^ n : Nat) : Int) = 0 := by rw [this]; rfl
  simpa using e
theorem div_not {x y d : Nat} (h : x / 2 ^ d ≠ y) : (((x : Int) / 2 ^ d) == (y : Int)) = false := by
  have e : ((x / 2 ^ d : Nat) : Int) = (x : Int) / 2 ^ d := by simp
  rw [← e]
  simp only [beq_eq_false_iff_ne, ne_eq]
  omega
theorem Hf.codes_get (L : List Nat) (i : Nat) (hi : i < (Hf.codes L).length) : (Hf.codes L)[i] = (Hf.code L i : Int) := by simp [Hf.codes]
theorem Ints.getC {w : World} {a : Option Addr} {n c : Nat} {L : List Nat} (h : Ints w (.slice a n c) (Hf.codes L)) (j : Nat) (hj : j < L.length) : ∃ bk o, a = some ⟨bk, o, none⟩ ∧ bk < w.heap.size ∧
    w.cell? ⟨bk, o + j, none⟩ = some (.int .i64 (Hf.code L j : Nat)) := by
  obtain ⟨bk, o, h1, _, h2, h3⟩ := h.get j (by rw [Hf.codes_length]; exact hj)
  exact ⟨bk, o, h1, h2, h3.trans (by rw [Hf.codes_get])⟩
set_option maxRecDepth 5000 in
set_option maxHeartbeats 4000000 in
theorem huffFree_yes (v : Value) (L : List Nat) (w : World) (h : Ints w v (Hf.up L)) (h1 : 1 ≤ L.length) (h2 : L.length ≤ 256) (h3 : ∀ n ∈ L, n ≤ 48) (hk : Hf.ksum L ≤ 281474976710656) :
    Calls Try.prog 5 #[v] w fun e w' => e = .returned (.bool true) ∧ Below w.heap.size w w' := by
  have k1 : ∀ W, Below w.heap.size w W → _ := fun W hW => kraft_any v L W (h.below (Nat.le_refl _) hW) h1 h2 h3
  have c1 : ∀ W, Below w.heap.size w W → _ := fun W hW => codes_any v L W (h.below (Nat.le_refl _) hW) h1 h2 h3 hk
  have HF : Hid (∀ i j, i < L.length → j < L.length → i ≠ j → 0 < L.getD i 0 → L.getD i 0 ≤ L.getD j 0 → Hf.code L j / 2 ^ (L.getD j 0 - L.getD i 0) ≠ Hf.code L i) := fun i j hi hj hij h0 hle => Hf.code_free hi hj hij h0 hle (Hf.getD_le h3 j)
  have HL : Hid (∀ i, i < L.length → 0 < L.getD i 0 → Hf.code L i < 2 ^ L.getD i 0) := fun i hi h0 => Hf.code_lt hi h0 (Hf.getD_le h3 i) hk
  have H3 : Hid (∀ n ∈ L, n ≤ 48) := h3
  have HCB : Hid (∀ i, Hf.code L i ≤ 281474976710656) := fun i => by rw [Hf.code_nxt]; exact Hf.nxt_bound (Hf.getD_le h3 i) hk
  have hK3 : decide ((Hf.ksum L : Int) ≤ 281474976710656) = true := decide_eq_true (by omega)
  obtain ⟨a, c, rfl⟩ := h.slice
  rw [Hf.up_length] at h k1 c1 ⊢
  generalize Hf.ksum L = K at *
  clear h3
  go_enter Try.func5, Try.ntmps5
  go_wp2_with fail
  refine (code122 w).mono ?_
  rintro e w1 ⟨v1, rfl, o1, hb1⟩
  have heq := equal_ints v1 (.slice (some ⟨w1.heap.size, 0, none⟩) 3 3) [0, 2, 3] (w1.alloc (.cells #[.int .i64 0, .int .i64 2, .int .i64 3] 3)) (o1.below (Nat.le_refl _) ((Below.refl _ _).alloc (Nat.le_refl _) _)) (ints_three w1 0 2 3) (by simp)
  go_wp2_with fail
  refine heq.mono ?_
  rintro e w2 ⟨rfl, hb2⟩
  clear heq o1
  have hB : Below w.heap.size w w2 := (hb1.alloc hb1.size _).trans (hb2.mono (by have := hb1.size; simp; omega))
  have hkk := k1 w2 hB
  have hcc := c1 w2 hB
  clear k1 c1 hb1 hb2
  go_wp2_with fail
  refine hkk.mono ?_
  rintro e w3 ⟨rfl, rfl⟩
  go_wp2_with fail
  refine hcc.mono ?_
  rintro e w4 ⟨v4, rfl, o4, hb4⟩
  clear hkk hcc
  have hB4 : Below w.heap.size w w4 := hB.trans (hb4.mono hB.size)
  have o4 : Ints w4 v4 (Hf.codes L) := Ints.of_own (by rw [Hf.codes_length]; exact o4)
  obtain ⟨a4, c4, rfl⟩ := o4.slice
  rw [Hf.codes_length] at o4 ⊢
  have hi4 := h.below (Nat.le_refl _) hB4
  clear h hb4 hB
  have HB4 : Hid (Below w.heap.size w w4) := hB4
  clear hB4
  go_wp2_with fail
  clear hK3 hk
  go_loopw [71] (fun x wr => ∃ i : Nat, i ≤ L.length ∧ x = .int .i64 i ∧ Hid (Below w4.heap.size w4 wr)) (fun x _ => L.length - (intOf x).toNat)
  case atStart => exact ⟨0, by omega, rfl, Below.refl _ _⟩
  case round =>
    obtain ⟨i, hil, rfl, hbel⟩ := hrel
    by_cases hlt : i < L.length
    · obtain ⟨bk, o, rfl, hbk, c0⟩ := (hi4.below (Nat.le_refl _) hbel.out).getN i hlt
      obtain ⟨bc, oc, rfl, hbc, c1⟩ := (o4.below (Nat.le_refl _) hbel.out).getC i hlt
      have hn := Hf.getD_le H3.out i
      have hcb := HCB.out i
      have hl := HL.out i hlt
      have HFi : Hid (∀ j, j < L.length → i ≠ j → 0 < L.getD i 0 → L.getD i 0 ≤ L.getD j 0 → Hf.code L j / 2 ^ (L.getD j 0 - L.getD i 0) ≠ Hf.code L i) := fun j hj => HF.out i j hlt hj
      generalize hni : L.getD i 0 = n at *
      generalize hci : Hf.code L i = ci at *
      have HNI : Hid (L.getD i 0 = n) := hni
      have HCI : Hid (Hf.code L i = ci) := hci
      clear hni hci HF
      have key : ((0 : Int) < n ∧ (ci : Int) / 2 ^ n = 0) ∨ n = 0 := by
        by_cases e : 0 < n
        · exact .inl ⟨by omega, div_low (hl e)⟩
        · exact .inr (by omega)
      have key' : (0 < n ∧ (ci : Int) / 2 ^ n = 0) ∨ ¬ 0 < n := by
        rcases key with ⟨e1, e2⟩ | e
        · exact .inl ⟨by omega, e2⟩
        · exact .inr (by omega)
      clear key hl
      rcases key' with ⟨hn0, hsh⟩ | hn0
      all_goals
        go_wp2_with fail
        clear c0 c1
        go_loopw [96] (fun x wr => ∃ j : Nat, j ≤ L.length ∧ x = .int .i64 j ∧ Hid (Below w4.heap.size w4 wr)) (fun x _ => L.length - (intOf x).toNat)
        case atStart => exact ⟨0, by omega, rfl, hbel⟩
        case round =>
          obtain ⟨j, hjl, rfl, hbel⟩ := hrel
          by_cases hlt2 : j < L.length
          · obtain ⟨bk', o', ha', hbk', d0⟩ := (hi4.below (Nat.le_refl _) hbel.out).getN j hlt2
            obtain ⟨rfl, rfl⟩ : bk = bk' ∧ o = o' := by simpa using ha'
            obtain ⟨bc', oc', hc', hbc', d1⟩ := (o4.below (Nat.le_refl _) hbel.out).getC j hlt2
            obtain ⟨rfl, rfl⟩ : bc = bc' ∧ oc = oc' := by simpa using hc'
            obtain ⟨bc2, oc2, hc2, _, d2⟩ := (o4.below (Nat.le_refl _) hbel.out).getC i hlt
            obtain ⟨rfl, rfl⟩ : bc = bc2 ∧ oc = oc2 := by simpa using hc2
            rw [HCI.out] at d2
            clear ha' hc' hc2
            have hm := Hf.getD_le H3.out j
            have hcj := HCB.out j
            have hf := HFi.out j hlt2
            generalize L.getD j 0 = m at *
            generalize Hf.code L j = cj at *
            have key : (((i : Int) != (j : Int)) = false) ∨ (((i : Int) != (j : Int)) = true ∧ ¬ 0 < n) ∨ (((i : Int) != (j : Int)) = true ∧ 0 < n ∧ m < n) ∨ (((i : Int) != (j : Int)) = true ∧ 0 < n ∧ n ≤ m ∧ ∃ d : Nat, (m : Int) - (n : Int) = (d : Int) ∧ d ≤ 48 ∧ (((cj : Int) / 2 ^ d) == (ci : Int)) = false) := by
              by_cases e : i = j
              · exact .inl (by simp [e])
              · have e' : ((i : Int) != (j : Int)) = true := by simp; omega
                by_cases e0 : 0 < n
                · by_cases e1 : m < n
                  · exact .inr (.inr (.inl ⟨e', e0, e1⟩))
                  · exact .inr (.inr (.inr ⟨e', e0, by omega, m - n, by omega, by omega, div_not (hf e e0 (by omega))⟩))
                · exact .inr (.inl ⟨e', e0⟩)
            have x1 : ∀ X : Since wr.heap.size wr, X.val.cell? ⟨bc, oc + j, none⟩ = some (.int .i64 (cj : Int)) := fun X => (X.property.cell (p := ⟨bc, oc + j, none⟩) hbc').trans d1
            have x2 : ∀ X : Since wr.heap.size wr, X.val.cell? ⟨bc, oc + i, none⟩ = some (.int .i64 (ci : Int)) := fun X => (X.property.cell (p := ⟨bc, oc + i, none⟩) hbc').trans d2
            have hne : Nonempty (Since wr.heap.size wr) := ⟨⟨wr, Below.refl _ _⟩⟩
            clear hf d1 d2
            go_wp2_with fail
            refine wp_region_since (B := wr.heap.size) (W0 := wr) (by kernel_rfl) (by kernel_rfl) (Below.refl _ _) ?_
            clear d0
            rcases key with hij | ⟨hij, hz⟩ | ⟨hij, hz, hmn⟩ | ⟨hij, hz, hmn, d, hd, hd48, hq⟩
            rotate_left 3
            · first
                | exact absurd hz hn0
                | (clear hz
                   repeat (go_big_quiet_step (fail))
                   (refine wpQuiet_nil ?_; rintro w7 ⟨U, rfl⟩; have HB3 : Hid (Below w4.heap.size w4 U.val) := hbel.out.trans (U.property.mono hbel.out.size); generalize U.val = w7 at *; clear x1 x2 hne hbel; go_wp2_with fail; go_roundw; (case rel => exact ⟨j + 1, by omega, by go_num, HB3⟩); (case measure => simp only [intOf]; omega)))
            · (repeat (go_big_quiet_step (fail))); (refine wpQuiet_nil ?_; rintro w7 ⟨U, rfl⟩; have HB3 : Hid (Below w4.heap.size w4 U.val) := hbel.out.trans (U.property.mono hbel.out.size); generalize U.val = w7 at *; clear x1 x2 hne hbel; go_wp2_with fail; go_roundw; (case rel => exact ⟨j + 1, by omega, by go_num, HB3⟩); (case measure => simp only [intOf]; omega))
            · first
                | exact absurd hn0 hz
                | (clear hz; (repeat (go_big_quiet_step (fail))); (refine wpQuiet_nil ?_; rintro w7 ⟨U, rfl⟩; have HB3 : Hid (Below w4.heap.size w4 U.val) := hbel.out.trans (U.property.mono hbel.out.size); generalize U.val = w7 at *; clear x1 x2 hne hbel; go_wp2_with fail; go_roundw; (case rel => exact ⟨j + 1, by omega, by go_num, HB3⟩); (case measure => simp only [intOf]; omega)))
            · first
                | exact absurd hz hn0
                | (clear hz; have hd1 : decide (n ≤ m) = false := decide_eq_false (by omega); have hd2 : decide ((n : Int) ≤ (m : Int)) = false := decide_eq_false (by omega); (repeat (go_big_quiet_step (fail))); (refine wpQuiet_nil ?_; rintro w7 ⟨U, rfl⟩; have HB3 : Hid (Below w4.heap.size w4 U.val) := hbel.out.trans (U.property.mono hbel.out.size); generalize U.val = w7 at *; clear x1 x2 hne hbel; go_wp2_with fail; go_roundw; (case rel => exact ⟨j + 1, by omega, by go_num, HB3⟩); (case measure => simp only [intOf]; omega)))
          · clear hcb
            (try clear hsh)
            go_wp2_with fail
            go_roundw
            case rel => exact ⟨i + 1, by omega, by go_num, hbel⟩
            case measure => simp only [intOf]; omega
    · go_wp2_with fail
      go_ret
      exact ⟨rfl, HB4.out.trans (hbel.out.mono HB4.out.size)⟩
theorem huffFree_walk (v0 : Value) (l0 : List Int) (z0 : l0.length ≤ 140737488351232) (_ : ∀ n ∈ l0, (Lit.int .i64 n).wf = true) (w : World) (t0 : Ints w v0 l0) :
    Calls Try.prog 5 #[v0] w fun e w' => e = .returned (.bool true) ∧ Below w.heap.size w w' := by
  cases hs : Hf.sgn 48 l0 with
  | false => exact huffFree_no v0 w 1 rfl (fun W hW => kraft_bad v0 l0 W (t0.below (Nat.le_refl _) hW) z0 hs) (fun W hW => codes_bad v0 l0 W (t0.below (Nat.le_refl _) hW) z0 hs)
  | true =>
    obtain ⟨L, rfl, h1, h2, h3⟩ := Hf.sgn_up (most := 48) hs
    by_cases hk : 281474976710656 < Hf.ksum L
    · have hb := Hf.kto_le L L.length
      rw [Hf.kto_all] at hb
      exact huffFree_form v0 w _ hk (by omega) (fun W hW => kraft_any v0 L W (t0.below (Nat.le_refl _) hW) h1 h2 h3) (fun W hW => codes_form v0 L W (t0.below (Nat.le_refl _) hW) h1 h2 h3 hk)
    · exact huffFree_yes v0 L w t0 h1 h2 h3 (by omega)
end Go.Proofs.Ytoohekdaihhflaa
