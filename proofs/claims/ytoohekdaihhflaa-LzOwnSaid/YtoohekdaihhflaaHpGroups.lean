/-
  What groupsOf of package huff answers.
-/
import Derived.Test.YtoohekdaihhflaaHpPut
import Derived.Test.YtoohekdaihhflaaHfLen
namespace Go.Proofs.Ytoohekdaihhflaa
open Go.RowKit

theorem Heap.below {W W' : World} {base Hb : Nat} {v : Value} {l : List Hf.G} (h : Heap W base Hb v l) (hk : Stays Hb v W W') : Below base W W' := by
  have hlt := h.lt
  have hold := h.old
  refine ⟨hk.os, hk.tape, hk.output, hk.size, fun k hk' => hk.block k (by omega) ⟨by omega, fun e => ?_⟩⟩
  obtain ⟨_, _, hb⟩ := own_block h.row e
  omega
set_option maxHeartbeats 2000000 in
theorem groups_any (v : Value) (F : List Nat) (w : World) (h : Ints w v (Hf.up F)) (h2 : F.length ≤ 256) (h3 : ∀ n ∈ F, n ≤ 1048576) :
    Calls Try.prog 31 #[v] w fun e w' => e = .returned (.pointer (some ⟨w.heap.size, 0, none⟩)) ∧ ∃ u l, Heap w' w.heap.size w.heap.size u l ∧ Hf.Ord l ∧ (l.map Hf.ab).Perm (Hf.init F F.length) ∧ Below w.heap.size w w' := by
  obtain ⟨a, c, rfl⟩ := h.slice
  rw [Hf.up_length] at h ⊢
  have H3 : Hid (∀ n ∈ F, n ≤ 1048576) := h3
  clear h3
  obtain ⟨W1, hW1⟩ : ∃ W1, W1 = w.alloc (.cells #[fnV, .slice none 0 0] 76) := ⟨_, rfl⟩
  have hH1 : Hid (Heap W1 w.heap.size w.heap.size (.slice none 0 0) []) := by
    rw [hW1]
    exact ⟨heap_alloc_new w _, Nat.le_refl _, World.ownsRow_nil _ _ _ _, fun g hg => by simp at hg⟩
  have hB1 : Hid (Below w.heap.size w W1) := by rw [hW1]; exact (Below.refl _ w).alloc (Nat.le_refl _) _
  unfold fnV at hW1
  go_enter Try.func31, Try.ntmps31
  go_wp2_with fail
  rw [← hW1]
  clear hW1
  go_loopw [10] (fun x wr => ∃ k : Nat, k ≤ F.length ∧ x = .int .i64 k ∧ Hid (∃ u l, Heap wr w.heap.size w.heap.size u l ∧ Hf.Ord l ∧ (l.map Hf.ab).Perm (Hf.init F k) ∧ Below w.heap.size w wr)) (fun x _ => F.length - (intOf x).toNat)
  case atStart => exact ⟨0, by omega, rfl, _, _, hH1.out, Hf.Ord.nil, List.Perm.refl _, hB1.out⟩
  case round =>
    obtain ⟨k, hk, rfl, hI⟩ := hrel
    by_cases hlt : k < F.length
    · obtain ⟨u, l, hH, hO, hP, hbel⟩ := hI.out
      obtain ⟨bk, o, rfl, hbk, c0⟩ := (h.below (Nat.le_refl _) hbel).getN k hlt
      have hn := Hf.getD_le H3.out k
      have HN : Hid (_) := Hf.init_succ F k
      have hll : l.length < 256 := by
        have e1 := hP.length_eq
        rw [List.length_map] at e1
        have := Hf.init_length F k
        omega
      generalize F.getD k 0 = n at *
      by_cases hn0 : 0 < n
      · have hsz := hbel.size
        have hH' := hH.keep ((Below.refl _ _).alloc (Nat.le_refl _) (.cells #[.int .i64 (k : Int)] 3))
        have hput := put_any w.heap.size w.heap.size u l ⟨n, k, [k], .slice (some ⟨wr.heap.size, 0, none⟩) 1 1⟩ (wr.alloc (.cells #[.int .i64 (k : Int)] 3)) hH' (World.ownsRow_lit wr #[.int .i64 (k : Int)] 1 hsz (by unfold maxLen; omega) rfl) hll hO
        unfold gV at hput
        dsimp only at hput
        have HBA : Hid (Below w.heap.size w (wr.alloc (.cells #[.int .i64 (k : Int)] 3))) := hbel.alloc hsz _
        have HP : Hid ((l.map Hf.ab).Perm (Hf.init F k)) := hP
        have HH : Hid (Heap (wr.alloc (.cells #[.int .i64 (k : Int)] 3)) w.heap.size w.heap.size u l) := hH'
        clear hH hO hP hbel hH' hI
        go_wp2_with fail
        refine hput.mono ?_
        rintro e w2 ⟨rfl, u2, l2, p2, o2, h2', k2⟩
        have HB2 : Hid (Below w.heap.size w w2) := HBA.out.trans (HH.out.below k2)
        have HI2 : Hid (∃ u l, Heap w2 w.heap.size w.heap.size u l ∧ Hf.Ord l ∧ (l.map Hf.ab).Perm (Hf.init F (k + 1)) ∧ Below w.heap.size w w2) := by
          refine ⟨u2, l2, h2', o2, ?_, HB2.out⟩
          rw [HN.out, if_pos hn0]
          refine (p2.map Hf.ab).trans ?_
          exact (HP.out.cons _).trans (List.perm_append_comm (l₁ := [(n, k, [k])]))
        clear hput p2 o2 h2' k2 HB2 HBA HH HP HN
        go_wp2_with fail
        go_roundw
        case rel => exact ⟨k + 1, by omega, by go_num, HI2⟩
        case measure => simp only [intOf]; omega
      · have HI2 : Hid (∃ u l, Heap wr w.heap.size w.heap.size u l ∧ Hf.Ord l ∧ (l.map Hf.ab).Perm (Hf.init F (k + 1)) ∧ Below w.heap.size w wr) := by
          refine ⟨u, l, hH, hO, ?_, hbel⟩
          rw [HN.out, if_neg hn0, List.append_nil]
          exact hP
        clear hH hO hP hbel hI HN
        go_wp2_with fail
        go_roundw
        case rel => exact ⟨k + 1, by omega, by go_num, HI2⟩
        case measure => simp only [intOf]; omega
    · obtain rfl : k = F.length := by omega
      go_wp2_with fail
      go_ret
      exact ⟨rfl, hI.out⟩
end Go.Proofs.Ytoohekdaihhflaa
