/-
  The walk of lumkeep.MixChain over what the calls answer: it returns true.
-/
import Derived.Test.YtkeckdfjgnacnaaStepsAt
namespace Go.Proofs.Ytkeckdfjgnacnaa
open Go.RowKit

set_option maxHeartbeats 1000000 in
theorem mixChain_in (W x y n1 n2 la lb : Nat) (a b : ByteArray) (A P A' P' : Nat → Nat) (w : World) (hla : la ≤ 131072) (hlb : lb ≤ 131072) (hn : n1 ≠ n2)
    (e1 : ∀ V, Calls Try.prog 9 #[.int .u64 1, .int .u64 2] V fun e w' => e = .returned (.int .u64 n1) ∧ Below V.heap.size V w')
    (e2 : ∀ V, Calls Try.prog 9 #[.int .u64 1, .int .u64 3] V fun e w' => e = .returned (.int .u64 n2) ∧ Below V.heap.size V w')
    (e3 : ∀ V, Calls Try.prog 7 #[.int .i64 W, .string a] V fun e w' => e = .returned (.tuple #[.int .u64 x, .int .i64 0]) ∧ Below V.heap.size V w')
    (e4 : ∀ V, Calls Try.prog 7 #[.int .i64 W, .string b] V fun e w' => e = .returned (.tuple #[.int .u64 y, .int .i64 0]) ∧ Below V.heap.size V w')
    (e5 : ∀ V, Calls Try.prog 16 #[.int .i64 W, .string a] V fun e w' => ∃ g cap, e = .returned (.slice (some ⟨g, 0, none⟩) (la + 1) cap) ∧ V.heap.size ≤ g ∧ g < w'.heap.size ∧ stepsAt w' g (la + 1) A P ∧ Below V.heap.size V w')
    (e6 : ∀ V, Calls Try.prog 16 #[.int .i64 W, .string b] V fun e w' => ∃ g cap, e = .returned (.slice (some ⟨g, 0, none⟩) (lb + 1) cap) ∧ V.heap.size ≤ g ∧ g < w'.heap.size ∧ stepsAt w' g (lb + 1) A' P' ∧ Below V.heap.size V w')
    (hx : A (la + 1) = x) (hy : A' (lb + 1) = y)
    (hmd : x = y → a ≠ b → ∃ i j, i < la + 1 ∧ j < lb + 1 ∧ A (i + 1) = A' (j + 1) ∧ (A i ≠ A' j ∨ P i ≠ P' j)) :
    Calls Try.prog 6 #[.int .i64 W, .string a, .string b] w fun e w' => e = .returned (.bool true) ∧ Below w.heap.size w w' := by
  have hn' : ((n1 : Int) == (n2 : Int)) = false := by rw [beq_eq_false_iff_ne]; omega
  have HM : Hid (x = y → a ≠ b → ∃ i j, i < la + 1 ∧ j < lb + 1 ∧ A (i + 1) = A' (j + 1) ∧ (A i ≠ A' j ∨ P i ≠ P' j)) := hmd
  clear hmd
  go_enter Try.func6, Try.ntmps6
  go_wp2_with fail
  refine (e1 _).mono ?_
  rintro e w1 ⟨rfl, hB1⟩
  go_wp2_with fail
  refine (e2 _).mono ?_
  rintro e w2 ⟨rfl, hb2⟩
  have hB2 := hB1.trans (hb2.mono hB1.size)
  clear hb2 hB1
  go_wp2_with fail
  refine (e3 _).mono ?_
  rintro e w3 ⟨rfl, hb3⟩
  have hB3 := hB2.trans (hb3.mono hB2.size)
  clear hb3 hB2
  go_wp2_with fail
  refine (e4 _).mono ?_
  rintro e w4 ⟨rfl, hb4⟩
  have hB4 := hB3.trans (hb4.mono hB3.size)
  clear hb4 hB3
  go_wp2_with fail
  refine (e5 _).mono ?_
  rintro e w5 ⟨g, cap, rfl, hg1, hg2, hst, hb5⟩
  have hB5 := hB4.trans (hb5.mono hB4.size)
  have hgw := Nat.le_trans hB4.size hg1
  clear hb5 hB4 hg1
  go_wp2_with fail
  refine (e6 _).mono ?_
  rintro e w6 ⟨g', cap', rfl, hg3, hg4, hst', hb6⟩
  have hB6 := hB5.trans (hb6.mono hB5.size)
  have hst6 := hst.below hg2 hb6
  have hgl := Nat.lt_of_lt_of_le hg2 hb6.size
  clear hb6 hB5 hg2 hst
  have HS : Hid (stepsAt w6 g (la + 1) A P) := hst6
  have HS' : Hid (stepsAt w6 g' (lb + 1) A' P') := hst'
  have c1 := (hst6 la (by omega)).2.2
  have c2 := (hst' lb (by omega)).2.2
  rw [hx] at c1
  rw [hy] at c2
  clear hst6 hst'
  have HB6 : Hid (Below w.heap.size w w6) := hB6
  have hw6 := hB6.size
  clear hB6
  by_cases hxy : x = y
  case neg =>
    have q1 : ((x : Int) != (y : Int)) = true := by rw [bne_iff_ne]; omega
    clear hxy
    go_wp2_with fail
    go_ret
    exact ⟨rfl, HB6.out⟩
  case pos =>
  have q1 : ((x : Int) != (y : Int)) = false := by rw [bne_eq_false_iff_eq]; omega
  by_cases hab : a = b
  case pos =>
    have q2 : (a.toList == b.toList) = true := by rw [hab]; exact beq_self_eq_true _
    clear hxy hab
    go_wp2_with fail
    go_ret
    exact ⟨rfl, HB6.out⟩
  case neg =>
    have q2 : (a.toList == b.toList) = false := by
      rw [beq_eq_false_iff_ne]
      intro h
      rw [Lib.toList_data, Lib.toList_data] at h
      exact hab (ByteArray.ext (Array.toList_inj.1 h))
    have HNE : Hid (∃ i j, i < la + 1 ∧ j < lb + 1 ∧ hit A P A' P' i j) := HM.out hxy hab
    clear hxy hab HM
    go_wp2_with fail
    go_loopw [85] (fun k wr => ∃ i : Nat, i ≤ la + 1 ∧ k = .int .i64 i ∧ Hid (∀ i', i' < i → ∀ j, j < lb + 1 → ¬ hit A P A' P' i' j) ∧ Below w6.heap.size w6 wr) (fun k _ => la + 1 - (intOf k).toNat)
    case atStart => exact ⟨0, by omega, rfl, fun i' h => by omega, Below.refl _ _⟩
    case round =>
      obtain ⟨i, hi, rfl, hno, hbel⟩ := hrel
      by_cases hlt : i < la + 1
      · have HS2 := (HS.out.below hgl hbel) i hlt
        obtain ⟨d1, d2, d3⟩ := HS2
        have hbs := hbel.size
        have hltI : (i : Int) < (la : Int) + 1 := by omega
        go_wp2_with fail
        clear d1 d2 d3
        rename World => wo
        go_loopw [91] (fun k wr2 => ∃ j : Nat, j ≤ lb + 1 ∧ k = .int .i64 j ∧ Hid (∀ j', j' < j → ¬ hit A P A' P' i j') ∧ Below (wo.heap.size + 1) (wo.alloc (.cells #[.int .u64 (A i : Nat), .int .u64 (P i : Nat), .int .u64 (A (i + 1) : Nat)] 40)) wr2) (fun k _ => lb + 1 - (intOf k).toNat)
        case atStart => exact ⟨0, by omega, rfl, fun j' h => by omega, Below.refl _ _⟩
        case round =>
          obtain ⟨j, hj, rfl, hnj, hbel2⟩ := hrel
          by_cases hlj : j < lb + 1
          · have hB := (hbel.alloc (by omega) _).trans (hbel2.mono (by omega))
            obtain ⟨d1, d2, d3⟩ := (HS'.out.below hg4 hB) j hlj
            have hws := hbel2.size
            simp at hws
            have hbq := hbel2.alloc (by omega) (.cells #[.int .u64 (A' j : Nat), .int .u64 (P' j : Nat), .int .u64 (A' (j + 1) : Nat)] 40)
            have p0 : (wr.alloc (.cells #[.int .u64 (A' j : Nat), .int .u64 (P' j : Nat), .int .u64 (A' (j + 1) : Nat)] 40)).cell? ⟨wo.heap.size, 0, none⟩ = some (.int .u64 (A i : Nat)) := (hbq.cell (p := ⟨wo.heap.size, 0, none⟩) (by simp)).trans (by simp)
            have p1 : (wr.alloc (.cells #[.int .u64 (A' j : Nat), .int .u64 (P' j : Nat), .int .u64 (A' (j + 1) : Nat)] 40)).cell? ⟨wo.heap.size, 1, none⟩ = some (.int .u64 (P i : Nat)) := (hbq.cell (p := ⟨wo.heap.size, 1, none⟩) (by simp)).trans (by simp)
            have p2 : (wr.alloc (.cells #[.int .u64 (A' j : Nat), .int .u64 (P' j : Nat), .int .u64 (A' (j + 1) : Nat)] 40)).cell? ⟨wo.heap.size, 2, none⟩ = some (.int .u64 (A (i + 1) : Nat)) := (hbq.cell (p := ⟨wo.heap.size, 2, none⟩) (by simp)).trans (by simp)
            have hbr := (hbel.alloc (by omega) _).trans (hbq.mono (by omega))
            clear hbel hB
            by_cases g1 : A (i + 1) = A' (j + 1)
            case neg =>
              have q3 : ((A (i + 1) : Int) == (A' (j + 1) : Int)) = false := by rw [beq_eq_false_iff_ne]; omega
              have HNH : Hid (¬ hit A P A' P' i j) := fun h => g1 h.1
              clear g1
              go_wp2_with fail
              go_round
              case rel =>
                refine ⟨j + 1, by omega, int_eq (by omega), ?_, hbq⟩
                intro j' hj'
                by_cases h : j' = j
                · subst h; exact HNH.out
                · exact hnj.out j' (by omega)
              case measure => simp only [intOf]; omega
            case pos =>
            have q3 : ((A (i + 1) : Int) == (A' (j + 1) : Int)) = true := by rw [beq_iff_eq]; omega
            by_cases g2 : A i = A' j
            case neg =>
              have q4 : ((A i : Int) != (A' j : Int)) = true := by rw [bne_iff_ne]; omega
              clear g1 g2
              go_wp2_with fail
              go_ret
              exact ⟨rfl, HB6.out.trans (hbr.mono hw6)⟩
            case pos =>
            have q4 : ((A i : Int) != (A' j : Int)) = false := by rw [bne_eq_false_iff_eq]; omega
            by_cases g3 : P i = P' j
            case neg =>
              have q5 : ((P i : Int) != (P' j : Int)) = true := by rw [bne_iff_ne]; omega
              clear g1 g2 g3
              go_wp2_with fail
              go_ret
              exact ⟨rfl, HB6.out.trans (hbr.mono hw6)⟩
            case pos =>
              have q5 : ((P i : Int) != (P' j : Int)) = false := by rw [bne_eq_false_iff_eq]; omega
              have HNH : Hid (¬ hit A P A' P' i j) := fun h => h.2.elim (fun h => h g2) (fun h => h g3)
              clear g1 g2 g3
              go_wp2_with fail
              go_round
              case rel =>
                refine ⟨j + 1, by omega, int_eq (by omega), ?_, hbq⟩
                intro j' hj'
                by_cases h : j' = j
                · subst h; exact HNH.out
                · exact hnj.out j' (by omega)
              case measure => simp only [intOf]; omega
          · go_wp2_with fail
            go_round
            case rel =>
              refine ⟨i + 1, by omega, int_eq (by omega), ?_, (hbel.alloc (by omega) _).trans (hbel2.mono (by omega))⟩
              intro i' hi' j' hj'
              by_cases h : i' = i
              · subst h; exact hnj.out j' (by omega)
              · exact hno.out i' (by omega) j' hj'
            case measure => simp only [intOf]; omega
      · go_wp2_with fail
        obtain ⟨i', j', h1, h2, h3⟩ := HNE.out
        exact absurd h3 (hno.out i' (by omega) j' h2)
end Go.Proofs.Ytkeckdfjgnacnaa
