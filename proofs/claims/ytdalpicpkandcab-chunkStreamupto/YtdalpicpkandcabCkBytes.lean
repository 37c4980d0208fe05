/-
  What ruledBytes of package chunk answers.
-/
import Derived.Test.YtdalpicpkandcabCkRef
import Derived.Test.YtdalpicpkandcabRollWin
import Derived.Test.YtdalpicpkandcabChunkMath3
namespace Go.Proofs.Ytdalpicpkandcab
open Go.RowKit

/-- a Roll in a variable of the call's own -/
structure RT (G : Nat) (w W : World) (r : Rst) : Prop where
  len : r.l.length = 16
  rng : W.rangeAt G 0 r.cells
  fz : ∀ j, j < 18 → W.frozen? ⟨G, j, none⟩ = false
  bel : Below G w W
theorem RT.drew {G : Nat} {w W : World} {r : Rst} (h : RT G w W r) : RT G w W.drew r := ⟨h.len, h.rng, h.fz, h.bel.drew⟩
theorem RT.lt {G : Nat} {w W : World} {r : Rst} (h : RT G w W r) : G < W.heap.size := by
  have h16 := h.rng 16 _ (rollCells_16 h.len r.i r.o)
  exact World.block_lt_of_cell? W _ h16
theorem RT.c17 {G : Nat} {w W : World} {r : Rst} (h : RT G w W r) : W.cell? ⟨G, 17, none⟩ = some (.int .u32 (r.o : Int)) := by
  have := h.rng 17 _ (rollCells_17 h.len r.i r.o)
  simpa using this
theorem RT.past {G : Nat} {w W W' : World} {r : Rst} (h : RT G w W r) (hb : Below W.heap.size W W') : RT G w W' r := by
  have hg := h.lt
  refine ⟨h.len, ?_, ?_, h.bel.trans (hb.mono (by omega))⟩
  · intro j v hv
    rw [hb.cell (p := ⟨G, 0 + j, none⟩) hg]
    exact h.rng j v hv
  · intro j hj
    rw [hb.frozen (p := ⟨G, j, none⟩) hg]
    exact h.fz j hj
theorem RT.whole {G : Nat} {w W : World} {r r' : Rst} (h : RT G w W r) (hl : r'.l.length = 16) : RT G w (W.setCells G 0 r'.cells) r' := by
  have hlen : r'.cells.length = 18 := rollCells_length hl r'.i r'.o
  have ht : W.there G 0 r'.cells.length := by
    intro j hj
    rw [hlen] at hj
    rw [Nat.zero_add]
    refine ⟨?_, h.fz j hj⟩
    have := h.rng.isSome j (by rw [Rst.cells, rollCells_length h.len]; exact hj)
    simpa using this
  refine ⟨hl, World.rangeAt_setCells_same W G 0 _ ht, ?_, below_setCells (Nat.le_refl _) _ _ _ h.bel⟩
  intro j hj
  rw [World.frozen?_setCells]
  exact h.fz j hj
theorem RT.start (W : World) : RT W.heap.size W (W.alloc (.cells Z18 66)) Rst.zero := by
  refine ⟨rfl, ?_, ?_, (Below.refl _ W).alloc (Nat.le_refl _) _⟩
  · intro j v hv
    rw [Nat.zero_add, cell_of_row _ W.heap.size j _ _ _ (heap_alloc_new W _), ← Array.getElem?_toList]
    exact hv
  · intro j hj
    simp

set_option maxHeartbeats 1000000 in
theorem bytes_of (mn mx bt : Nat) (hb1 : 1 ≤ bt) (hb2 : bt ≤ 12) (s : ByteArray) (w : World) (f : Nat → Rst) (b : Nat → Bool) (hs : s.size ≤ 4096)
    (hf0 : f 0 = Rst.zero) (hf : ∀ k (hk : k < s.size), f (k + 1) = (f k).push s[k]) (hok : ∀ k, (f k).Ok) (n : Nat) (hn : n = 0 ∨ (1 ≤ n ∧ n ≤ s.size ∧ b n = true)) (hno : ∀ k, 1 ≤ k → k ≤ s.size → (n = 0 ∨ k < n) → b k = false)
    (hb : ∀ k, b k = (k == mx || (decide (mn ≤ k) && (f k).o % 2 ^ bt == 0))) :
    Calls Try.prog 21 #[cutV mn mx bt, .string s] w fun e w' => e = .returned (.int .i64 n) ∧ Below w.heap.size w w' := by
  obtain ⟨M, hM⟩ : ∃ M, M = 2 ^ bt := ⟨_, rfl⟩
  have hM0 : 0 < M := by rw [hM]; exact Nat.pow_pos (by omega)
  have hM1 : M ≤ 4096 := by rw [hM]; exact Nat.pow_le_pow_right (n := 2) (j := 12) (by omega) hb2
  have hpw : (2 : Int) ^ bt % 4294967296 = (M : Int) := by
    rw [show (2 : Int) ^ bt = ((2 ^ bt : Nat) : Int) from by simp, ← hM]
    omega
  have HM : Hid (M = 2 ^ bt) := hM
  clear hM
  unfold cutV
  go_enter Try.func21, Try.ntmps21
  go_upto_region 2 with fail
  obtain ⟨W4, hW4⟩ : ∃ W4, W4 = w.alloc (Obj.cells #[Value.int IntKind.i64 mn, Value.int IntKind.i64 mx, Value.int IntKind.i64 bt] 23) := ⟨_, rfl⟩
  have HB : Hid (Below w.heap.size w W4) := by rw [hW4]; exact (Below.refl _ w).alloc (Nat.le_refl _) _
  have hsz : W4.heap.size = w.heap.size + 1 := by rw [hW4]; simp
  have c0 : W4.cell? ⟨w.heap.size, 0, none⟩ = some (.int .i64 (mn : Int)) := by rw [hW4]; simp
  have c1 : W4.cell? ⟨w.heap.size, 1, none⟩ = some (.int .i64 (mx : Int)) := by rw [hW4]; simp
  have c2 : W4.cell? ⟨w.heap.size, 2, none⟩ = some (.int .i64 (bt : Int)) := by rw [hW4]; simp
  have HR : Hid (RT (w.heap.size + 1) W4 (W4.alloc (.cells Z18 66)) (f 0)) := by
    rw [hf0, ← hsz]; exact RT.start W4
  rw [← hW4]
  dsimp only [Z18] at HR
  generalize W4.alloc (Obj.cells #[.int .u8 0, .int .u8 0, .int .u8 0, .int .u8 0, .int .u8 0, .int .u8 0, .int .u8 0, .int .u8 0, .int .u8 0, .int .u8 0, .int .u8 0, .int .u8 0, .int .u8 0, .int .u8 0, .int .u8 0, .int .u8 0, .int .i64 0, .int .u32 0] 66) = W1 at HR ⊢
  have HSZ : Hid (W4.heap.size = w.heap.size + 1) := hsz
  clear hW4 hsz
  have d2 : W1.cell? ⟨w.heap.size, 2, none⟩ = some (.int .i64 (bt : Int)) := (HR.out.bel.cell (p := ⟨w.heap.size, 2, none⟩) (by show w.heap.size < w.heap.size + 1; omega)).trans c2
  go_wp2_with fail
  simp only [hpw]
  clear hpw
  go_loopw [15] (fun i wr => ∃ k : Nat, k ≤ s.size ∧ i = .int .i64 k ∧ (n = 0 ∨ k < n) ∧ Hid (RT (w.heap.size + 1) W4 wr (f k))) (fun i _ => s.size - (intOf i).toNat)
  case atStart => exact ⟨0, Nat.zero_le _, rfl, by omega, HR⟩
  case round =>
    obtain ⟨k, hk, rfl, hnk, hr⟩ := hrel
    clear HR d2 hf0
    by_cases hlt : k < s.size
    · have hp := push_rst (f k) (hok k) s[k]
      have hok2 := hok (k + 1)
      have hN := hf k hlt
      have hrd := hr.out.drew
      have hrng : wr.drew.rangeAt (w.heap.size + 1) 0 (f k).cells := hrd.rng
      have hl0 : (f k).cells.length = 18 := rollCells_length hrd.len _ _
      rw [← hN] at hp
      have HBb : Hid (b (k + 1) = (k + 1 == mx || (decide (mn ≤ k + 1) && (f (k + 1)).o % 2 ^ bt == 0))) := hb (k + 1)
      have hno1 := hno (k + 1) (by omega) (by omega)
      generalize hR1 : f (k + 1) = R1 at *
      have hl1 : R1.cells.length = 18 := rollCells_length hok2.len _ _
      have h1c : R1.cells.toArray.all (·.oneCell') = true := rollCells_one _ _ _
      clear hN hf hok hb
      go_upto_region 6 with fail
      refine wp_region_any (by kernel_rfl) ?_
      change wpAny _ _ _ _ _ _ _ (World.drew _)
      refine wpAny_take (i := 1) (v := .string s) rfl (by kernel_rfl) (by kernel_rfl) (by kernel_rfl) (fun _ _ _ h => h) (Or.inl ⟨by rfl, fun V => by go_simp⟩) ?_
      refine wpAny_take (i := 2) (v := .int .i64 (k : Int)) rfl (by kernel_rfl) (by kernel_rfl) (by kernel_rfl) (fun _ _ _ h => h) (Or.inl ⟨by rfl, fun V => by go_simp⟩) ?_
      refine wpAny_take (i := 3) (v := .int .u8 (s[k].toNat : Int)) rfl (by kernel_rfl) (by kernel_rfl) (by kernel_rfl) (fun _ _ _ h => h) (Or.inl ⟨by rfl, fun V => by go_simp⟩) ?_
      refine wpAny_ready (rs := [0]) (by kernel_rfl) (by simp) ?_
      refine AllReady.cons rfl (fun K hK => ?_) AllReady.nil
      rw [if_pos (by rfl)]
      refine wp_load_mid 66 (.tmp 5) rfl (w.heap.size + 1) 0 rfl (f k).cells _ hrng Try.underlying66 rfl (by rw [info_roll, hl0]) ?_
      refine hK _ _ ?_
      clear hK K
      refine wpAny_ready (rs := [4]) (by kernel_rfl) (by simp) ?_
      refine AllReady.cons rfl (fun K hK => ?_) AllReady.nil
      go_simp
      refine (hp _).mono ?_
      rintro e w1 ⟨rfl, hb1⟩
      refine hK _ _ ?_
      clear hK K
      have hr1 := hrd.past hb1
      have hth : w1.there (w.heap.size + 1) 0 R1.cells.toArray.size := by
        intro j hj
        have hj' : j < 18 := by simpa [hl1] using hj
        have h1 := hr1.rng.isSome j (by rw [Rst.cells, rollCells_length hr1.len]; exact hj')
        have h2 := hr1.fz j hj'
        rw [Nat.zero_add] at h1 ⊢
        exact ⟨h1, h2⟩
      have hin : (Try.prog.info? 66).map (·.size) = some R1.cells.toArray.size := by rw [info_roll]; simp [hl1]
      have HW : Hid (RT (w.heap.size + 1) W4 (w1.setCells (w.heap.size + 1) 0 R1.cells) R1) := hr1.whole hok2.len
      refine wpAny_take (i := 5) (v := .tuple #[.agg R1.cells.toArray, .int .i64 0]) rfl (by kernel_rfl) (by kernel_rfl) (by kernel_rfl) (fun _ _ _ h => h) (Or.inl ⟨by rfl, fun V => by go_simp⟩) ?_
      refine wpAny_take (i := 6) (v := .agg R1.cells.toArray) rfl (by kernel_rfl) (by kernel_rfl) (by kernel_rfl) (fun _ _ _ h => h) (Or.inl ⟨by rfl, fun V => by go_simp⟩) ?_
      refine wpAny_take (i := 7) (v := .int .i64 0) rfl (by kernel_rfl) (by kernel_rfl) (by kernel_rfl) (fun _ _ _ h => h) (Or.inl ⟨by rfl, fun V => by go_simp⟩) ?_
      refine wpAny_ready (rs := [8]) (by kernel_rfl) (by simp) ?_
      refine AllReady.cons rfl (fun K hK => ?_) AllReady.nil
      rw [if_pos (by rfl)]
      refine wp_store_mid 66 (.tmp 5) (.tmp 24) rfl (w.heap.size + 1) 0 R1.cells.toArray rfl rfl hth hin h1c ?_
      refine hK _ _ ?_
      clear hK K
      rw [show R1.cells.toArray.toList = R1.cells from rfl]
      generalize w1.setCells (w.heap.size + 1) 0 R1.cells = w2 at HW ⊢
      refine wpAny_done (by kernel_rfl) ?_ _
      clear hr1 hth hin hb1 hrd hrng hr hp
      have e0 : w2.cell? ⟨w.heap.size, 0, none⟩ = some (.int .i64 (mn : Int)) := (HW.out.bel.cell (p := ⟨w.heap.size, 0, none⟩) (by show w.heap.size < w.heap.size + 1; omega)).trans c0
      have e1 : w2.cell? ⟨w.heap.size, 1, none⟩ = some (.int .i64 (mx : Int)) := (HW.out.bel.cell (p := ⟨w.heap.size, 1, none⟩) (by show w.heap.size < w.heap.size + 1; omega)).trans c1
      have e17 := HW.out.c17
      have hbelow : Below w.heap.size w w2 := HB.out.trans (HW.out.bel.mono (by omega))
      have HBel : Hid (Below w.heap.size w w2) := hbelow
      clear hbelow
      have ho := hok2.sum
      have HA : Hid (bits .and .u32 (R1.o : Int) ((M : Int) - 1) = ((R1.o % M : Nat) : Int)) := by
        show _ = _
        rw [show (M : Int) - 1 = ((M - 1 : Nat) : Int) from by omega, u32_and_nat _ _ (by omega) (by omega), HM.out, Nat.and_two_pow_sub_one_eq_mod]
      have hit : b (k + 1) = true → (k : Int) + 1 = (n : Int) := fun h => by
        have : ¬ (n = 0 ∨ k + 1 < n) := fun h2 => by rw [hno1 h2] at h; cases h
        omega
      have miss : b (k + 1) = false → (n = 0 ∨ k + 1 < n) := fun h => by
        rcases hnk with h1 | h1
        · exact .inl h1
        · refine .inr ?_
          rcases hn with h2 | ⟨_, _, h2⟩
          · omega
          · by_cases h3 : n = k + 1
            · rw [h3, h] at h2; cases h2
            · omega
      have HHit : Hid (b (k + 1) = true → (k : Int) + 1 = (n : Int)) := hit
      have HMiss : Hid (b (k + 1) = false → (n = 0 ∨ k + 1 < n)) := miss
      clear hit miss hno1 hno hn hnk hl0 hl1 h1c
      by_cases g1 : k + 1 = mx
      · have q1 : ((k : Int) + 1 == (mx : Int)) = true := by rw [beq_iff_eq]; omega
        have HN : Hid ((k : Int) + 1 = (n : Int)) := HHit.out (by rw [HBb.out, beq_iff_eq.2 g1]; rfl)
        clear g1 HHit HMiss HA
        go_wp2_with fail
        go_ret
        exact ⟨ret_int HN.out, HBel.out⟩
      · have q1 : ((k : Int) + 1 == (mx : Int)) = false := by rw [beq_eq_false_iff_ne]; omega
        by_cases g2 : mn ≤ k + 1
        · have q2 : decide ((mn : Int) ≤ (k : Int) + 1) = true := by rw [decide_eq_true_eq]; omega
          by_cases g3 : R1.o % M = 0
          · have q3 : (bits .and .u32 (R1.o : Int) ((M : Int) - 1) == 0) = true := by rw [HA.out, g3]; rfl
            have HN : Hid ((k : Int) + 1 = (n : Int)) := HHit.out (by rw [HBb.out, beq_eq_false_iff_ne.2 g1, decide_eq_true g2, ← HM.out, g3]; rfl)
            clear g1 g2 g3 HHit HMiss HA
            go_wp2_with fail
            go_ret
            exact ⟨ret_int HN.out, HBel.out⟩
          · have q3 : (bits .and .u32 (R1.o : Int) ((M : Int) - 1) == 0) = false := by rw [HA.out, beq_eq_false_iff_ne]; omega
            have HN : Hid (n = 0 ∨ k + 1 < n) := HMiss.out (by rw [HBb.out, beq_eq_false_iff_ne.2 g1, decide_eq_true g2, ← HM.out, beq_eq_false_iff_ne.2 g3]; rfl)
            clear g1 g2 g3 HHit HMiss HA
            go_wp2_with fail
            go_roundw
            case rel => exact ⟨k + 1, by omega, by go_num, HN.out, by rw [hR1]; exact HW⟩
            case measure => simp only [intOf]; omega
        · have q2 : decide ((mn : Int) ≤ (k : Int) + 1) = false := by rw [decide_eq_false_iff_not]; omega
          have HN : Hid (n = 0 ∨ k + 1 < n) := HMiss.out (by rw [HBb.out, beq_eq_false_iff_ne.2 g1, decide_eq_false g2]; rfl)
          clear g1 g2 HHit HMiss HA
          go_wp2_with fail
          go_roundw
          case rel => exact ⟨k + 1, by omega, by go_num, HN.out, by rw [hR1]; exact HW⟩
          case measure => simp only [intOf]; omega
    · obtain rfl : k = s.size := by omega
      have hB2 := HB.out.trans (hr.out.bel.mono (show w.heap.size ≤ w.heap.size + 1 by omega))
      have HN : Hid ((0 : Int) = (n : Int)) := by show _ = _; omega
      clear hno hn hnk
      go_wp2_with fail
      go_ret
      exact ⟨ret_int HN.out, hB2⟩

theorem bytes_any (mn mx bt : Nat) (hb1 : 1 ≤ bt) (hb2 : bt ≤ 12) (s : ByteArray) (w : World) (hs : s.size ≤ 4096) (n : Nat) (h : Ck.First (Ck.ends mn mx bt Rl.ofL) s.data.toList n) :
    Calls Try.prog 21 #[cutV mn mx bt, .string s] w fun e w' => e = .returned (.int .i64 n) ∧ Below w.heap.size w w' := by
  have hof : ∀ k, (Rst.zero.all (s.data.toList.take k)).Of (s.data.toList.take k) := fun k => by
    have := Rst.Of.zero.all (s.data.toList.take k)
    rwa [List.nil_append] at this
  have hbk : ∀ k, k ≤ s.size → Ck.ends mn mx bt Rl.ofL (s.data.toList.take k) = (k == mx || (decide (mn ≤ k) && (Rst.zero.all (s.data.toList.take k)).o % 2 ^ bt == 0)) := fun k hk => by
    rw [Ck.ends, (hof k).sum, List.length_take, ← Lib.size_eq, Nat.min_eq_left hk]
  refine bytes_of mn mx bt hb1 hb2 s w (fun k => Rst.zero.all (s.data.toList.take k)) _ hs rfl (Rst.all_take Rst.zero s) (fun k => (hof k).ok) n ?_ ?_ (fun k => rfl)
  · rcases h.hit with h1 | ⟨h1, h2, h3⟩
    · exact .inl h1
    · rw [← Lib.size_eq] at h2
      exact .inr ⟨h1, h2, by rw [← hbk n h2]; exact h3⟩
  · intro k h1 h2 h3
    rw [← hbk k h2]
    exact h.miss k h1 (by rw [← Lib.size_eq]; exact h2) h3
end Go.Proofs.Ytdalpicpkandcab
