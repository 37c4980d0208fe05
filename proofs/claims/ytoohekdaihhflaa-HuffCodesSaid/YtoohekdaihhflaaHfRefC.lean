/-
  What Codes of package lumref answers.
-/
import Derived.Test.YtoohekdaihhflaaHfRef
namespace Go.Proofs.Ytoohekdaihhflaa
open Go.RowKit

set_option maxHeartbeats 1000000 in
theorem rcodes_bad (v : Value) (l : List Int) (w : World) (h : Ints w v l) (hl : l.length ≤ 140737488351232) (hb : Hf.sgn 48 l = false) :
    Calls Try.prog 15 #[v] w fun e w' => e = .returned (.tuple #[.slice none 0 0, .int .i64 1]) ∧ w' = w := by
  have hs := rkraft_bad v l w h hl hb
  clear hb
  go_enter Try.func15, Try.ntmps15
  go_wp2_with fail
  refine hs.mono ?_
  rintro e w' ⟨rfl, rfl⟩
  go_wp2_with fail
  go_ret2
  exact ⟨rfl, rfl⟩

set_option maxHeartbeats 1000000 in
theorem rcodes_form (v : Value) (L : List Nat) (w : World) (h : Ints w v (Hf.up L)) (h1 : 1 ≤ L.length) (h2 : L.length ≤ 256) (h3 : ∀ n ∈ L, n ≤ 48) (hk : 281474976710656 < Hf.ksum L) :
    Calls Try.prog 15 #[v] w fun e w' => e = .returned (.tuple #[.slice none 0 0, .int .i64 4]) ∧ w' = w := by
  have hs := rkraft_any v L w h h1 h2 h3
  have hb := Hf.kto_le L L.length
  rw [Hf.kto_all] at hb
  generalize Hf.ksum L = K at *
  clear h h3
  go_enter Try.func15, Try.ntmps15
  go_wp2_with fail
  refine hs.mono ?_
  rintro e w' ⟨rfl, rfl⟩
  go_wp2_with fail
  go_ret2
  exact ⟨rfl, rfl⟩

theorem Hf.ahead_is {L : List Nat} {i k : Nat} {n m : Nat} (hn : L.getD i 0 = n) (hm : L.getD k 0 = m) : Hf.ahead L i k = true ↔ 0 < m ∧ (m < n ∨ (m = n ∧ k < i)) := by
  unfold Hf.ahead
  rw [hn, hm]
  simp
set_option maxHeartbeats 4000000 in
theorem rcodes_any (v : Value) (L : List Nat) (w : World) (h : Ints w v (Hf.up L)) (h1 : 1 ≤ L.length) (h2 : L.length ≤ 256) (h3 : ∀ n ∈ L, n ≤ 48) (hk : Hf.ksum L ≤ 281474976710656) :
    Calls Try.prog 15 #[v] w fun e w' => ∃ v', e = .returned (.tuple #[v', .int .i64 0]) ∧ w'.ownsRow w.heap.size 3 1 v' L.length ((Hf.codes L).map Iv) ∧ Below w.heap.size w w' := by
  have hs := rkraft_any v L w h h1 h2 h3
  obtain ⟨i0, hi, hz0, hz1, hz2⟩ := info_parts info_int
  obtain ⟨a, c, rfl⟩ := h.slice
  rw [Hf.up_length] at h hs ⊢
  have HB : Hid (∀ i k, k ≤ L.length → Hf.cto L i k ≤ 281474976710656) := fun i k hb => Hf.cto_le hb h3 hk
  have H3 : Hid (∀ n ∈ L, n ≤ 48) := h3
  generalize Hf.ksum L = K at *
  clear h3
  go_enter Try.func15, Try.ntmps15
  go_wp2_with fail
  refine hs.mono ?_
  rintro e w' ⟨rfl, rfl⟩
  clear hs
  go_wp2_with (at_make; refine wpList_make_full _ rfl (.tmp 22) (.tmp 22) 22 rfl w'.heap.size 3 i0 (.int .i64 0) 1 Try.underlying22 hi hz0 hz1 .i64 .i64 _ _ L.length rfl rfl rfl rfl (by rw [hz2]; omega) (by unfold maxLen; omega) (Nat.le_refl _) ?_; intro w1 hown hgrow)
  have hown1 := made_zeros hown
  rw [← Hf.part_start] at hown1
  have HB1 : Hid (Below w'.heap.size w' w1) := (Below.refl _ _).grown hgrow (Nat.le_refl _) (fun k hk => by cases hk)
  clear hown hgrow
  go_wp2_with fail
  go_loopw [26] (fun x wr => ∃ i : Nat, i ≤ L.length ∧ x = .int .i64 i ∧ wr.ownsRow w'.heap.size 3 1 (.slice (some ⟨w'.heap.size, 0, none⟩) L.length L.length) L.length ((Hf.part L i 0).map Iv) ∧ Hid (Below w'.heap.size w' wr)) (fun x _ => L.length - (intOf x).toNat)
  case atStart => exact ⟨0, by omega, rfl, hown1, HB1⟩
  case round =>
    obtain ⟨i, hil, rfl, hown, hbel⟩ := hrel
    by_cases hlt : i < L.length
    · obtain ⟨bk, o, rfl, hbk, c0⟩ := (h.below (Nat.le_refl _) hbel.out).getN i hlt
      have hn := Hf.getD_le H3.out i
      obtain ⟨n, HN0⟩ : ∃ n, L.getD i 0 = n := ⟨_, rfl⟩
      rw [HN0] at c0 hn
      have HN : Hid (L.getD i 0 = n) := HN0
      clear HN0
      go_wp2_with fail
      clear c0
      go_loopw [33] (fun x wr => ∃ k : Nat, k ≤ L.length ∧ x = .int .i64 k ∧ wr.ownsRow w'.heap.size 3 1 (.slice (some ⟨w'.heap.size, 0, none⟩) L.length L.length) L.length ((Hf.part L i k).map Iv) ∧ Hid (Below w'.heap.size w' wr)) (fun x _ => L.length - (intOf x).toNat)
      case atStart => exact ⟨0, by omega, rfl, hown, hbel⟩
      case round =>
        obtain ⟨k, hkl, rfl, hown, hbel⟩ := hrel
        by_cases hlt2 : k < L.length
        · have hpl : i < (Hf.part L i k).length := by rw [Hf.part_length]; exact hlt
          obtain ⟨bk', o', ha, hbk', c0⟩ := (h.below (Nat.le_refl _) hbel.out).getN k hlt2
          obtain ⟨rfl, rfl⟩ : bk = bk' ∧ o = o' := by simpa using ha
          clear ha
          have hm := Hf.getD_le H3.out k
          obtain ⟨m, HM0⟩ : ∃ m, L.getD k 0 = m := ⟨_, rfl⟩
          rw [HM0] at c0 hm
          have HA := Hf.ahead_is HN.out HM0
          have HM : Hid (L.getD k 0 = m) := HM0
          clear HM0
          by_cases hA : 0 < m ∧ (m < n ∨ (m = n ∧ k < i))
          · obtain ⟨d, hd⟩ : ∃ d, n - m = d := ⟨_, rfl⟩
            have HG : Hid (Hf.part L i (k + 1) = (Hf.part L i k).set i ((Hf.cto L i k : Nat) + (2 ^ d : Nat))) := by
              have := Hf.part_hit (HA.2 hA)
              rw [HN.out, HM.out, hd] at this
              exact this
            have x1 := own_at hown i hpl
            have x1' : (Hf.part L i k)[i] = (Hf.cto L i k : Int) := by
              have := Hf.part_get (k := k) hlt
              rw [List.getElem?_eq_getElem hpl] at this
              simpa using this
            rw [x1'] at x1
            have hC := HB.out i k hkl
            have x2 := hown.frozenAt i
            have hd48 : d ≤ 48 := by omega
            have hnm : (n : Int) - (m : Int) = (d : Int) := by omega
            have HO := own_store hown i ((Hf.cto L i k : Nat) + (2 ^ d : Nat))
            rw [← HG.out] at HO
            have hm0 : 0 < m := hA.1
            have hn0 : 0 < n := by omega
            have hcase : (m < n) ∨ (¬ m < n ∧ ((m : Int) == (n : Int)) = true ∧ k < i) := by
              rcases hA.2 with h | ⟨h1, h2⟩
              · exact .inl h
              · exact .inr ⟨by omega, by simp [h1], h2⟩
            clear HG HA x1' hown hA hd
            generalize Hf.cto L i k = C at *
            have hp2 : (2 : Int) ^ d = ((2 ^ d : Nat) : Int) := by simp
            have hpb : 2 ^ d ≤ 281474976710656 := two_pow_le hd48
            generalize 2 ^ d = P at *
            have HO2 : Hid ((wr.setCell ⟨w'.heap.size, i, none⟩ (.int .i64 ((C : Int) + (P : Int)))).drew.ownsRow w'.heap.size 3 1 (.slice (some ⟨w'.heap.size, 0, none⟩) L.length L.length) L.length ((Hf.part L i (k + 1)).map Iv)) := HO.drew
            have HB2 : Hid (Below w'.heap.size w' (wr.setCell ⟨w'.heap.size, i, none⟩ (.int .i64 ((C : Int) + (P : Int)))).drew) := (hbel.out.setCell (Nat.le_refl _) _).drew
            clear HO
            rcases hcase with hmn | ⟨hmn, heq, hki⟩
            all_goals
              go_wp2_with fail
              go_region
              go_wp2_with fail
              go_roundw
              case rel => exact ⟨k + 1, by omega, by go_num, HO2.out, HB2⟩
              case measure => simp only [intOf]; omega
          · have HG : Hid (Hf.part L i (k + 1) = Hf.part L i k) := Hf.part_miss (Bool.eq_false_iff.2 fun h => hA (HA.1 h))
            have hcase : n = 0 ∨ (0 < n ∧ m = 0) ∨ (0 < n ∧ 0 < m ∧ n < m) ∨ (0 < n ∧ 0 < m ∧ ¬ m < n ∧ ((m : Int) == (n : Int)) = true ∧ ¬ k < i) := by
              by_cases e : m = n
              · subst e
                by_cases e0 : m = 0
                · exact .inl e0
                · exact .inr (.inr (.inr ⟨by omega, by omega, by omega, by simp, by omega⟩))
              · omega
            clear HA hA
            rcases hcase with rfl | ⟨hn0, rfl⟩ | ⟨hn0, hm0, hnm⟩ | ⟨hn0, hm0, hnm, heq, hki⟩
            rotate_left 2
            · have heq : ((m : Int) == (n : Int)) = false := by simp; omega
              have hmn : ¬ m < n := by omega
              go_wp2_with fail
              go_roundw
              case rel => exact ⟨k + 1, by omega, by go_num, by rw [HG.out]; exact hown, hbel⟩
              case measure => simp only [intOf]; omega
            all_goals
              go_wp2_with fail
              go_roundw
              case rel => exact ⟨k + 1, by omega, by go_num, by rw [HG.out]; exact hown, hbel⟩
              case measure => simp only [intOf]; omega
        · obtain rfl : k = L.length := by omega
          rw [Hf.part_next] at hown
          go_wp2_with fail
          go_roundw
          case rel => exact ⟨i + 1, by omega, by go_num, hown, hbel⟩
          case measure => simp only [intOf]; omega
    · obtain rfl : i = L.length := by omega
      rw [Hf.part_end] at hown
      have HO : Hid (wr.ownsRow w'.heap.size 3 1 (.slice (some ⟨w'.heap.size, 0, none⟩) L.length L.length) L.length ((Hf.codes L).map Iv)) := hown
      clear hown
      go_wp2_with fail
      go_ret2
      exact ⟨_, rfl, HO.out, hbel.out⟩
end Go.Proofs.Ytoohekdaihhflaa
