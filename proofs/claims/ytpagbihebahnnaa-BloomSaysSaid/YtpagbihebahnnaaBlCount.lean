/-
  What Count of package bloom answers.
-/
import Derived.Test.YtpagbihebahnnaaBlMem
import Derived.Deep.Cut
namespace Go.Proofs.Ytpagbihebahnnaa
open Go.RowKit
set_option maxRecDepth 4000

theorem ones_le (x : Nat) : Bm.ones x ≤ 64 := by
  unfold Bm.ones
  exact Nat.le_trans List.countP_le_length (by simp)
theorem sum_next {b : List Nat} {j : Nat} (hj : j < b.length) : ((b.take (j + 1)).map Bm.ones).sum = ((b.take j).map Bm.ones).sum + Bm.ones (b.getD j 0) := by
  rw [List.take_succ_eq_append_getElem hj, List.map_append, List.sum_append, List.getD_eq_getElem?_getD, List.getElem?_eq_getElem hj]
  simp
theorem sum_le : ∀ (l : List Nat), (l.map Bm.ones).sum ≤ 64 * l.length
  | [] => by simp
  | x :: l => by
    have := sum_le l
    have := ones_le x
    simp only [List.map_cons, List.sum_cons, List.length_cons]
    omega

set_option maxHeartbeats 1000000 in
theorem count_any (b : List Nat) (w : World) (hb : Bm.Ok b) :
    Calls Try.prog 12 #[.agg (blmC b).toArray] w fun e w' => e = .returned (.int .i64 (Bm.count b : Nat)) ∧ Below w.heap.size w w' := by
  have hlen := blmC_length hb
  have HC : Hid (((b.take 16).map Bm.ones).sum = Bm.count b) := by
    show _ = _
    rw [Bm.count_ones hb, List.take_of_length_le (Nat.le_of_eq hb.len)]
  obtain ⟨W2, hW2⟩ : ∃ W2, W2 = w.alloc (.cells (blmC b).toArray 24) := ⟨_, rfl⟩
  have HA : Hid (Bb W2 w.heap.size b ∧ Below w.heap.size w W2) := by
    show Bb W2 w.heap.size b ∧ Below w.heap.size w W2
    rw [hW2]
    exact ⟨Bb.new hb w _, (Below.refl _ w).alloc (Nat.le_refl _) _⟩
  have HO : Hid (Bm.Ok b) := hb
  clear hb
  go_enter Try.func12, Try.ntmps12
  go_upto_region 2 with fail
  rw [← hW2]
  clear hW2 hlen
  refine wp_region_lit ?_
  refine wpList_load_mid rfl 24 (.tmp 1) rfl w.heap.size 0 rfl (blmC b) _ HA.out.1.rng Try.underlying24 rfl (info_blmC HO.out) ?_
  go_wp2_with fail
  go_loop [3, 7] (fun s i => ∃ j : Nat, j ≤ 16 ∧ i = .int .i64 j ∧ s = .int .i64 (((b.take j).map Bm.ones).sum : Nat)) (fun _ i => 16 - (intOf i).toNat)
  case atStart => exact ⟨0, by omega, rfl, rfl⟩
  case round =>
    obtain ⟨i, hi, rfl, rfl⟩ := hrel
    by_cases hlt : i < 16
    · have hix := fun W => run_ix16 b i W HO.out hlt
      have hon := fun W => ones_any (b.getD i 0) W (HO.out.get i)
      have HN : Hid (((b.take (i + 1)).map Bm.ones).sum = ((b.take i).map Bm.ones).sum + Bm.ones (b.getD i 0)) := sum_next (by rw [HO.out.len]; exact hlt)
      have hle : ((b.take i).map Bm.ones).sum ≤ 1024 := Nat.le_trans (sum_le _) (by rw [List.length_take]; omega)
      have h64 := ones_le (b.getD i 0)
      generalize Bm.ones (b.getD i 0) = o at *
      generalize b.getD i 0 = v at *
      generalize ((b.take i).map Bm.ones).sum = s at *
      go_wp2_with fail
      refine (hon _).mono ?_
      rintro e w1 ⟨rfl, rfl⟩
      go_wp2_with fail
      go_round
      case rel => exact ⟨i + 1, by omega, by go_num, int_eq (by rw [HN.out]; omega)⟩
      case measure => simp only [intOf]; omega
    · obtain rfl : i = 16 := by omega
      go_wp2_with fail
      go_ret
      exact ⟨ret_int (by rw [← HC.out, List.map_take]), HA.out.2⟩
end Go.Proofs.Ytpagbihebahnnaa
