/-
  The walk of lumkeep.HuffLeast: it returns true.
-/
import Derived.Test.YtoohekdaihhflaaHuffFullW
namespace Go.Proofs.Ytoohekdaihhflaa
open Go.RowKit

theorem ints_tri (w : World) (x y z : Int) : Ints (w.alloc (.cells #[.int .i64 x, .int .i64 y, .int .i64 z] 3)) (.slice (some ⟨w.heap.size, 0, none⟩) 3 3) [x, y, z] := by
  refine ⟨.inr ⟨w.heap.size, 0, 3, rfl, by simp, fun j hj => ?_⟩⟩
  have hj : j < 3 := hj
  match j, hj with
  | 0, _ => simp
  | 1, _ => simp
  | 2, _ => simp
namespace Hf
theorem tot_le {F L : List Nat} {k : Nat} (h1 : ∀ n ∈ F, n ≤ 1048576) (h2 : ∀ n ∈ L, n ≤ 48) : tot F L k ≤ k * 50331648 := by
  induction k with
  | zero => simp [tot]
  | succ k ih =>
    have h : F.getD k 0 * L.getD k 0 ≤ 1048576 * 48 := Nat.mul_le_mul (getD_le h1 k) (getD_le h2 k)
    rw [tot_succ, Nat.succ_mul]
    exact Nat.add_le_add ih h
end Hf

set_option maxHeartbeats 1000000 in
theorem total_any (v u : Value) (F L : List Nat) (w : World) (h : Ints w v (Hf.up F)) (k : Ints w u (Hf.up L)) (hl : L.length = F.length) (h2 : F.length ≤ 256) (h3 : ∀ n ∈ F, n ≤ 1048576) (h4 : ∀ n ∈ L, n ≤ 48) :
    Calls Try.prog 16 #[v, u] w fun e w' => e = .returned (.int .i64 (Hf.tot F L F.length : Nat)) ∧ Below w.heap.size w w' := by
  obtain ⟨a, c, rfl⟩ := h.slice
  obtain ⟨a2, c2, rfl⟩ := k.slice
  rw [Hf.up_length] at h k ⊢
  rw [Hf.up_length, hl]
  rw [hl] at k
  have HL : Hid (L.length = F.length) := hl
  have H3 : Hid (∀ n ∈ F, n ≤ 1048576) := h3
  have H4 : Hid (∀ n ∈ L, n ≤ 48) := h4
  clear hl h3 h4
  go_enter Try.func16, Try.ntmps16
  go_wp2_with fail
  go_loopw [5, 14] (fun s x wr => ∃ i : Nat, i ≤ F.length ∧ x = .int .i64 i ∧ s = .int .i64 (Hf.tot F L i : Nat) ∧ Hid (Below w.heap.size w wr)) (fun _ x _ => F.length - (intOf x).toNat)
  case atStart => exact ⟨0, by omega, rfl, rfl, Below.refl _ _⟩
  case round =>
    obtain ⟨i, hil, rfl, rfl, hbel⟩ := hrel
    by_cases hlt : i < F.length
    · obtain ⟨bk, o, rfl, hbk, c0⟩ := (h.below (Nat.le_refl _) hbel.out).getN i hlt
      obtain ⟨bc, oc, rfl, hbc, c1⟩ := (k.below (Nat.le_refl _) hbel.out).getN i (by rw [HL.out]; exact hlt)
      have hn := Hf.getD_le H3.out i
      have hm := Hf.getD_le H4.out i
      have ht := Hf.tot_le (k := i) H3.out H4.out
      have HN : Hid (Hf.tot F L (i + 1) = Hf.tot F L i + F.getD i 0 * L.getD i 0) := Hf.tot_succ F L i
      have hp : F.getD i 0 * L.getD i 0 ≤ 50331648 := Nat.mul_le_mul hn hm
      generalize F.getD i 0 = n at *
      generalize L.getD i 0 = m at *
      generalize Hf.tot F L i = T at *
      obtain ⟨q, hq⟩ : ∃ q, n * m = q := ⟨_, rfl⟩
      have hqi : (n : Int) * (m : Int) = (q : Int) := by rw [← hq]; simp
      rw [hq] at HN hp
      have x1 : ∀ X : Since wr.heap.size wr, X.val.cell? ⟨bk, o + i, none⟩ = some (.int .i64 (n : Int)) := fun X => (X.property.cell (p := ⟨bk, o + i, none⟩) hbk).trans c0
      have x2 : ∀ X : Since wr.heap.size wr, X.val.cell? ⟨bc, oc + i, none⟩ = some (.int .i64 (m : Int)) := fun X => (X.property.cell (p := ⟨bc, oc + i, none⟩) hbc).trans c1
      have hne : Nonempty (Since wr.heap.size wr) := ⟨⟨wr, Below.refl _ _⟩⟩
      clear c0 c1 hq h k
      go_wp2_with fail
      refine wp_region_since (B := wr.heap.size) (W0 := wr) (by kernel_rfl) (by kernel_rfl) (Below.refl _ _) ?_
      repeat (go_big_quiet_step (fail))
      refine wpQuiet_nil ?_
      rintro w7 ⟨U, rfl⟩
      have HB3 : Hid (Below w.heap.size w U.val) := hbel.out.trans (U.property.mono hbel.out.size)
      generalize U.val = w7 at *
      clear x1 x2 hne hbel
      go_wp2_with fail
      go_roundw
      case rel => exact ⟨i + 1, by omega, by go_num, by rw [HN.out]; go_num, HB3⟩
      case measure => simp only [intOf]; omega
    · obtain rfl : i = F.length := by omega
      go_wp2_with fail
      go_ret
      exact ⟨rfl, hbel.out⟩
theorem Hf.hl511 : Hf.HL [5, 1, 1] [1, 2, 2] := by
  refine ⟨rfl, fun e => absurd e (by decide), fun x e => absurd (congrArg List.length e) (by show ¬ (3 = 1); omega), fun _ => ?_⟩
  have h0 : Hf.Inv [5, 1, 1] [(1, 1, [1]), (1, 2, [2]), (5, 0, [0])] [0, 0, 0] := (Hf.Inv.start (F := [5, 1, 1]) (by decide) (by decide)).perm (by decide)
  have h1 : Hf.Inv [5, 1, 1] [(2, 1, [1, 2]), (5, 0, [0])] [0, 1, 1] := h0.step (s := [1, 2]) (by unfold Hf.nlt; simp) (by unfold Hf.nlt; simp) (List.Perm.refl _)
  have h2 : Hf.Inv [5, 1, 1] [(7, 0, [1, 2, 0])] [1, 2, 2] := h1.step (s := [1, 2, 0]) (by unfold Hf.nlt; simp) (by unfold Hf.nlt; simp) (List.Perm.refl _)
  exact h2.done
theorem len511 (w : World) : Calls Try.prog 9 #[.slice (some ⟨w.heap.size, 0, none⟩) 3 3] (w.alloc (.cells #[.int .i64 5, .int .i64 1, .int .i64 1] 3)) fun e w' => ∃ v', e = .returned (.tuple #[v', .int .i64 0]) ∧ Ints w' v' (Hf.up [1, 2, 2]) ∧ Below w.heap.size w w' := by
  refine (lengths_any (.slice (some ⟨w.heap.size, 0, none⟩) 3 3) [5, 1, 1] (w.alloc (.cells #[.int .i64 5, .int .i64 1, .int .i64 1] 3)) (ints_tri w 5 1 1) (by decide) (by decide) (by decide)).mono ?_
  rintro e w' ⟨v', out, rfl, hl, ho, hb⟩
  refine ⟨v', rfl, ?_, ((Below.refl _ w).alloc (Nat.le_refl _) _).trans (hb.mono (by simp))⟩
  have : out = [1, 2, 2] := hl.once Hf.hl511
  subst this
  exact Ints.of_own' ho rfl
set_option maxHeartbeats 1000000 in
theorem huffLeast_no (v u : Value) (w : World)
    (c1 : ∀ W, Below w.heap.size w W → Calls Try.prog 9 #[v] W fun e w' => e = .returned (.tuple #[.slice none 0 0, .int .i64 1]) ∧ w' = W) :
    Calls Try.prog 6 #[v, u] w fun e w' => e = .returned (.bool true) ∧ Below w.heap.size w w' := by
  go_enter Try.func6, Try.ntmps6
  go_wp2_with fail
  refine (len511 w).mono ?_
  rintro e w1 ⟨v1, rfl, o1, hb1⟩
  have htt := total_any (.slice (some ⟨w1.heap.size, 0, none⟩) 3 3) v1 [5, 1, 1] [1, 2, 2] (w1.alloc (.cells #[.int .i64 5, .int .i64 1, .int .i64 1] 3)) (ints_tri w1 5 1 1) (o1.below (Nat.le_refl _) ((Below.refl _ _).alloc (Nat.le_refl _) _)) rfl (by decide) (by decide) (by decide)
  rw [show (Hf.tot [5, 1, 1] [1, 2, 2] [5, 1, 1].length : Nat) = 9 from by decide] at htt
  go_wp2_with fail
  refine htt.mono ?_
  rintro e w2 ⟨rfl, hb2⟩
  clear htt o1
  have hB : Below w.heap.size w w2 := (hb1.alloc hb1.size _).trans (hb2.mono (by have := hb1.size; simp; omega))
  have hc := c1 w2 hB
  clear c1 hb1 hb2
  go_wp2_with fail
  refine hc.mono ?_
  rintro e w4 ⟨rfl, rfl⟩
  go_wp2_with fail
  go_ret
  exact ⟨rfl, hB⟩
set_option maxHeartbeats 2000000 in
theorem huffLeast_err (a : Option Addr) (c : Nat) (u : Value) (F : List Nat) (E : Int) (hE : E = 1 ∨ E = 4) (w : World)
    (c1 : ∀ W, Below w.heap.size w W → Calls Try.prog 9 #[.slice a F.length c] W fun e w' => ∃ v' out, e = .returned (.tuple #[v', .int .i64 0]) ∧ Hf.HL F out ∧ w'.ownsRow W.heap.size 3 1 v' F.length ((Hf.up out).map Iv) ∧ Below W.heap.size W w')
    (k1 : ∀ W, Below w.heap.size w W → Calls Try.prog 14 #[u] W fun e w' => e = .returned (.tuple #[.slice none 0 0, .int .i64 E]) ∧ w' = W) :
    Calls Try.prog 6 #[.slice a F.length c, u] w fun e w' => e = .returned (.bool true) ∧ Below w.heap.size w w' := by
  go_enter Try.func6, Try.ntmps6
  go_wp2_with fail
  refine (len511 w).mono ?_
  rintro e w1 ⟨v1, rfl, o1, hb1⟩
  have htt := total_any (.slice (some ⟨w1.heap.size, 0, none⟩) 3 3) v1 [5, 1, 1] [1, 2, 2] (w1.alloc (.cells #[.int .i64 5, .int .i64 1, .int .i64 1] 3)) (ints_tri w1 5 1 1) (o1.below (Nat.le_refl _) ((Below.refl _ _).alloc (Nat.le_refl _) _)) rfl (by decide) (by decide) (by decide)
  rw [show (Hf.tot [5, 1, 1] [1, 2, 2] [5, 1, 1].length : Nat) = 9 from by decide] at htt
  go_wp2_with fail
  refine htt.mono ?_
  rintro e w2 ⟨rfl, hb2⟩
  clear htt o1
  have hB : Below w.heap.size w w2 := (hb1.alloc hb1.size _).trans (hb2.mono (by have := hb1.size; simp; omega))
  have hc := c1 w2 hB
  clear c1 hb1 hb2
  go_wp2_with fail
  refine hc.mono ?_
  rintro e w4 ⟨v4, out, rfl, hl, o4, hb4⟩
  clear hc
  have hB4 : Below w.heap.size w w4 := hB.trans (hb4.mono hB.size)
  have hlen := hl.len
  have o4 : Ints w4 v4 (Hf.up out) := Ints.of_own' o4 hlen
  obtain ⟨a4, c4, rfl⟩ := o4.slice
  have hup : (Hf.up out).length = F.length := by rw [Hf.up_length]; exact hlen
  rw [hup] at o4
  rw [hup]
  have hk := k1 w4 hB4
  clear k1
  rcases hE with rfl | rfl
  all_goals
    go_wp2_with fail
    refine hk.mono ?_
    rintro e w5 ⟨rfl, rfl⟩
    go_wp2_with fail
    go_ret
    exact ⟨rfl, hB4⟩
set_option maxHeartbeats 2000000 in
theorem huffLeast_len (a : Option Addr) (c : Nat) (a' : Option Addr) (c' : Nat) (F M : List Nat) (w : World) (hne : M.length ≠ F.length)
    (c1 : ∀ W, Below w.heap.size w W → Calls Try.prog 9 #[.slice a F.length c] W fun e w' => ∃ v' out, e = .returned (.tuple #[v', .int .i64 0]) ∧ Hf.HL F out ∧ w'.ownsRow W.heap.size 3 1 v' F.length ((Hf.up out).map Iv) ∧ Below W.heap.size W w')
    (k1 : ∀ W, Below w.heap.size w W → Calls Try.prog 14 #[.slice a' M.length c'] W fun e w' => ∃ v', e = .returned (.tuple #[v', .int .i64 0]) ∧ w'.ownsRow W.heap.size 3 1 v' M.length ((Hf.codes M).map Iv) ∧ Below W.heap.size W w') :
    Calls Try.prog 6 #[.slice a F.length c, .slice a' M.length c'] w fun e w' => e = .returned (.bool true) ∧ Below w.heap.size w w' := by
  have hnb : ((M.length : Int) != (F.length : Int)) = true := by simp; omega
  have HNE : Hid (M.length ≠ F.length) := hne
  clear hne
  go_enter Try.func6, Try.ntmps6
  go_wp2_with fail
  refine (len511 w).mono ?_
  rintro e w1 ⟨v1, rfl, o1, hb1⟩
  have htt := total_any (.slice (some ⟨w1.heap.size, 0, none⟩) 3 3) v1 [5, 1, 1] [1, 2, 2] (w1.alloc (.cells #[.int .i64 5, .int .i64 1, .int .i64 1] 3)) (ints_tri w1 5 1 1) (o1.below (Nat.le_refl _) ((Below.refl _ _).alloc (Nat.le_refl _) _)) rfl (by decide) (by decide) (by decide)
  rw [show (Hf.tot [5, 1, 1] [1, 2, 2] [5, 1, 1].length : Nat) = 9 from by decide] at htt
  go_wp2_with fail
  refine htt.mono ?_
  rintro e w2 ⟨rfl, hb2⟩
  clear htt o1
  have hB : Below w.heap.size w w2 := (hb1.alloc hb1.size _).trans (hb2.mono (by have := hb1.size; simp; omega))
  have hc := c1 w2 hB
  clear c1 hb1 hb2
  go_wp2_with fail
  refine hc.mono ?_
  rintro e w4 ⟨v4, out, rfl, hl, o4, hb4⟩
  clear hc
  have hB4 : Below w.heap.size w w4 := hB.trans (hb4.mono hB.size)
  have hlen := hl.len
  have o4 : Ints w4 v4 (Hf.up out) := Ints.of_own' o4 hlen
  obtain ⟨a4, c4, rfl⟩ := o4.slice
  have hup : (Hf.up out).length = F.length := by rw [Hf.up_length]; exact hlen
  rw [hup] at o4
  rw [hup]
  have hk := k1 w4 hB4
  clear k1
  go_wp2_with fail
  refine hk.mono ?_
  rintro e w5 ⟨v5, rfl, o5, hb5⟩
  have HB5 : Hid (Below w.heap.size w w5) := hB4.trans (hb5.mono hB4.size)
  clear hk o5 hb5 hB4 o4 hl hlen hup hb4 hB
  go_wp2_with fail
  go_ret
  exact ⟨rfl, HB5.out⟩
set_option maxRecDepth 5000 in
set_option maxHeartbeats 4000000 in
theorem huffLeast_yes (a : Option Addr) (c : Nat) (a' : Option Addr) (c' : Nat) (F M : List Nat) (w : World) (hF : Ints w (.slice a F.length c) (Hf.up F)) (hM : Ints w (.slice a' F.length c') (Hf.up M)) (h2 : F.length ≤ 256) (h3 : ∀ n ∈ F, n ≤ 1048576) (hML : M.length = F.length) (h4 : ∀ n ∈ M, n ≤ 48) (hks : Hf.ksum M ≤ 281474976710656)
    (c1 : ∀ W, Below w.heap.size w W → Calls Try.prog 9 #[.slice a F.length c] W fun e w' => ∃ v' out, e = .returned (.tuple #[v', .int .i64 0]) ∧ Hf.HL F out ∧ w'.ownsRow W.heap.size 3 1 v' F.length ((Hf.up out).map Iv) ∧ Below W.heap.size W w')
    (k1 : ∀ W, Below w.heap.size w W → Calls Try.prog 14 #[.slice a' F.length c'] W fun e w' => ∃ v', e = .returned (.tuple #[v', .int .i64 0]) ∧ w'.ownsRow W.heap.size 3 1 v' F.length ((Hf.codes M).map Iv) ∧ Below W.heap.size W w') :
    Calls Try.prog 6 #[.slice a F.length c, .slice a' F.length c'] w fun e w' => e = .returned (.bool true) ∧ Below w.heap.size w w' := by
  have HML : Hid (M.length = F.length) := hML
  have H3 : Hid (∀ n ∈ F, n ≤ 1048576) := h3
  have H4 : Hid (∀ n ∈ M, n ≤ 48) := h4
  have HKS : Hid (Hf.ksum M ≤ 281474976710656) := hks
  clear hML h3 h4 hks
  go_enter Try.func6, Try.ntmps6
  go_wp2_with fail
  refine (len511 w).mono ?_
  rintro e w1 ⟨v1, rfl, o1, hb1⟩
  have htt := total_any (.slice (some ⟨w1.heap.size, 0, none⟩) 3 3) v1 [5, 1, 1] [1, 2, 2] (w1.alloc (.cells #[.int .i64 5, .int .i64 1, .int .i64 1] 3)) (ints_tri w1 5 1 1) (o1.below (Nat.le_refl _) ((Below.refl _ _).alloc (Nat.le_refl _) _)) rfl (by decide) (by decide) (by decide)
  rw [show (Hf.tot [5, 1, 1] [1, 2, 2] [5, 1, 1].length : Nat) = 9 from by decide] at htt
  go_wp2_with fail
  refine htt.mono ?_
  rintro e w2 ⟨rfl, hb2⟩
  clear htt o1
  have hB : Below w.heap.size w w2 := (hb1.alloc hb1.size _).trans (hb2.mono (by have := hb1.size; simp; omega))
  have hc := c1 w2 hB
  clear c1 hb1 hb2
  go_wp2_with fail
  refine hc.mono ?_
  rintro e w4 ⟨v4, out, rfl, hl, o4, hb4⟩
  clear hc
  have hB4 : Below w.heap.size w w4 := hB.trans (hb4.mono hB.size)
  have hlen := hl.len
  have o4 : Ints w4 v4 (Hf.up out) := Ints.of_own' o4 hlen
  obtain ⟨a4, c4, rfl⟩ := o4.slice
  have hup : (Hf.up out).length = F.length := by rw [Hf.up_length]; exact hlen
  rw [hup] at o4
  rw [hup]
  have hk := k1 w4 hB4
  clear k1
  go_wp2_with fail
  refine hk.mono ?_
  rintro e w5 ⟨v5, rfl, o5, hb5⟩
  have hB5 : Below w.heap.size w w5 := hB4.trans (hb5.mono hB4.size)
  have hF5 := hF.below (Nat.le_refl _) hB5
  have hM5 := hM.below (Nat.le_refl _) hB5
  have hO5 := o4.below (Nat.le_refl _) hb5
  have HB5 : Hid (Below w.heap.size w w5) := hB5
  have HHL : Hid (Hf.HL F out) := hl
  have HLN : Hid (out.length = F.length) := hlen
  clear hk o5 hb5 hB4 o4 hl hlen hup hb4 hB hB5 hF hM
  go_wp2_with fail
  go_loopw [64] (fun x wr => ∃ i : Nat, i ≤ F.length ∧ x = .int .i64 i ∧ Hid (∀ j, j < i → 0 < F.getD j 0 → 0 < M.getD j 0) ∧ wr = w5) (fun x _ => F.length - (intOf x).toNat)
  case atStart => exact ⟨0, by omega, rfl, fun j h => by omega, rfl⟩
  case round =>
    obtain ⟨i, hil, rfl, hall, rfl⟩ := hrel
    by_cases hlt : i < F.length
    · obtain ⟨bk, o, rfl, hbk, d0⟩ := hF5.getN i hlt
      obtain ⟨bc, oc, rfl, hbc, d1⟩ := hM5.getN i (by rw [HML.out]; exact hlt)
      have HA : Hid ((0 < F.getD i 0 → 0 < M.getD i 0) → ∀ j, j < i + 1 → 0 < F.getD j 0 → 0 < M.getD j 0) := fun h j hj => by
        by_cases e : j = i
        · rw [e]; exact h
        · exact hall.out j (by omega)
      generalize F.getD i 0 = n at *
      generalize M.getD i 0 = m at *
      by_cases hn0 : 0 < n
      · by_cases hm0 : 0 < m
        · have HA2 := HA.out fun _ => hm0
          have HA3 : Hid (∀ j, j < i + 1 → 0 < F.getD j 0 → 0 < M.getD j 0) := HA2
          have hz : ((m : Int) == 0) = false := by simp; omega
          clear HA HA2 hall
          go_wp2_with fail
          go_roundw
          case rel => exact ⟨i + 1, by omega, by go_num, HA3, trivial⟩
          case measure => simp only [intOf]; omega
        · have hz : ((m : Int) == 0) = true := by simp; omega
          clear HA hall
          go_wp2_with fail
          go_ret
          exact ⟨rfl, HB5.out⟩
      · have HA2 := HA.out fun h => absurd h hn0
        have HA3 : Hid (∀ j, j < i + 1 → 0 < F.getD j 0 → 0 < M.getD j 0) := HA2
        clear HA HA2 hall
        go_wp2_with fail
        go_roundw
        case rel => exact ⟨i + 1, by omega, by go_num, HA3, trivial⟩
        case measure => simp only [intOf]; omega
    · obtain rfl : i = F.length := by omega
      have hm : ∀ j, 0 < F.getD j 0 → 0 < M.getD j 0 := fun j h => hall.out j (by
        apply Classical.byContradiction
        intro hn
        rw [Hf.getD_out (by omega)] at h
        omega) h
      have hle := HHL.out.least h2 H3.out HML.out H4.out HKS.out hm
      have t1 := total_any _ _ F out wr hF5 hO5 HLN.out h2 H3.out (HHL.out.le48 h2 H3.out)
      have t2 := fun W (hW : Below wr.heap.size wr W) => total_any _ _ F M W (hF5.below (Nat.le_refl _) hW) (hM5.below (Nat.le_refl _) hW) HML.out h2 H3.out H4.out
      have b1 := Hf.tot_le (k := F.length) H3.out (HHL.out.le48 h2 H3.out)
      have b2 := Hf.tot_le (k := F.length) H3.out H4.out
      generalize Hf.tot F out F.length = X at *
      generalize Hf.tot F M F.length = Y at *
      clear hm hall hF5 hM5 hO5
      go_wp2_with fail
      refine t1.mono ?_
      rintro e w6 ⟨rfl, hb6⟩
      have t3 := t2 w6 hb6
      clear t1 t2
      go_wp2_with fail
      refine t3.mono ?_
      rintro e w7 ⟨rfl, hb7⟩
      clear t3
      go_wp2_with fail
      go_ret
      have hB6 := HB5.out.trans (hb6.mono HB5.out.size)
      exact ⟨rfl, hB6.trans (hb7.mono hB6.size)⟩
theorem huffLeast_walk (v0 : Value) (l0 : List Int) (v1 : Value) (l1 : List Int) (z0 : l0.length ≤ 140737488351232) (_ : ∀ n ∈ l0, (Lit.int .i64 n).wf = true) (z1 : l1.length ≤ 140737488351232) (_ : ∀ n ∈ l1, (Lit.int .i64 n).wf = true) (w : World) (t0 : Ints w v0 l0) (t1 : Ints w v1 l1) :
    Calls Try.prog 6 #[v0, v1] w fun e w' => e = .returned (.bool true) ∧ Below w.heap.size w w' := by
  cases hs : Hf.sgn 1048576 l0 with
  | false => exact huffLeast_no v0 v1 w fun W hW => lengths_bad v0 l0 W (t0.below (Nat.le_refl _) hW) z0 hs
  | true =>
    obtain ⟨F, rfl, h1, h2, h3⟩ := Hf.sgn_up (most := 1048576) hs
    have c1 : ∀ W, Below w.heap.size w W → _ := fun W hW => lengths_any v0 F W (t0.below (Nat.le_refl _) hW) h1 h2 h3
    obtain ⟨a, c, rfl⟩ := t0.slice
    rw [Hf.up_length] at t0 c1 ⊢
    cases hs1 : Hf.sgn 48 l1 with
    | false => exact huffLeast_err a c v1 F 1 (.inl rfl) w c1 fun W hW => codes_bad v1 l1 W (t1.below (Nat.le_refl _) hW) z1 hs1
    | true =>
      obtain ⟨M, rfl, k1, k2, k3⟩ := Hf.sgn_up (most := 48) hs1
      by_cases hk : 281474976710656 < Hf.ksum M
      · exact huffLeast_err a c v1 F 4 (.inr rfl) w c1 fun W hW => codes_form v1 M W (t1.below (Nat.le_refl _) hW) k1 k2 k3 hk
      · have d1 : ∀ W, Below w.heap.size w W → _ := fun W hW => codes_any v1 M W (t1.below (Nat.le_refl _) hW) k1 k2 k3 (by omega)
        obtain ⟨a', c', rfl⟩ := t1.slice
        rw [Hf.up_length] at t1 d1 ⊢
        by_cases hne : M.length = F.length
        · rw [hne] at t1 d1 ⊢
          exact huffLeast_yes a c a' c' F M w t0 t1 h2 h3 hne k3 (by omega) c1 d1
        · exact huffLeast_len a c a' c' F M w hne c1 d1
end Go.Proofs.Ytoohekdaihhflaa
