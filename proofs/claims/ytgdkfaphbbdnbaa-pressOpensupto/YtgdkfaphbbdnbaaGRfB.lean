/-
  What Kraft and Codes of package lumref answer.
  What Codes of package lumref answers.
  Bunches of signs as they lie in memory; what has and least of package lumref answer.
  What Lengths of package lumref answers.
  What Lengths of package lumref answers to a right list.
-/
import Derived.Test.YtgdkfaphbbdnbaaGHfC
import Derived.Test.YtgdkfaphbbdnbaaGHfM
import Derived.Test.YtgdkfaphbbdnbaaGLzA
import Derived.BigQuiet
import Derived.Deep.AppendLies

namespace Go.Proofs.Ytgdkfaphbbdnbaa
open Go.RowKit
set_option maxRecDepth 4000

theorem two_pow_le {m : Nat} (h : m ≤ 48) : 2 ^ m ≤ 281474976710656 := Nat.le_trans (Nat.pow_le_pow_right (by omega) h) (by decide : 2 ^ 48 ≤ 281474976710656)

set_option maxHeartbeats 1000000 in
theorem rkraft_short (v : Value) (l : List Int) (w : World) (h : Ints w v l) (hl : l.length ≤ 140737488351232) (hb : l.length = 0 ∨ 256 < l.length) :
    Calls Try.prog 44 #[v] w fun e w' => e = .returned (.tuple #[.int .i64 0, .int .i64 1]) ∧ w' = w := by
  obtain ⟨a, c, rfl⟩ := h.slice
  rcases hb with hb | hb
  · obtain rfl := List.length_eq_zero_iff.1 hb
    go_enter Try.func44, Try.ntmps44
    go_wp2_with fail
    go_ret2
    exact ⟨rfl, rfl⟩
  · have hne : ((l.length : Int) == 0) = false := by simp; rintro rfl; simp at hb
    go_enter Try.func44, Try.ntmps44
    go_wp2_with fail
    go_ret2
    exact ⟨rfl, rfl⟩

def rkE (L : List Nat) (l : List Int) : Ending := if L.length = l.length then .returned (.tuple #[.int .i64 (Hf.ksum L : Nat), .int .i64 0]) else .returned (.tuple #[.int .i64 0, .int .i64 1])
set_option maxHeartbeats 2000000 in
/-- of a list of which the first m numbers are right: all of them, or one that isn't follows -/
theorem rkraft_of (v : Value) (l : List Int) (L : List Nat) (w : World) (h : Ints w v l) (h1 : 1 ≤ l.length) (h2 : l.length ≤ 256) (hL : L.length ≤ l.length) (hp : Hid (∀ j (_ : j < L.length) (hj' : j < l.length), l[j] = ((L.getD j 0 : Nat) : Int))) (h3 : Hid (∀ n ∈ L, n ≤ 48))
    (he : Hid (∀ hj : L.length < l.length, l[L.length] < 0 ∨ 48 < l[L.length])) :
    Calls Try.prog 44 #[v] w fun e w' => e = rkE L l ∧ w' = w := by
  obtain ⟨a, c, rfl⟩ := h.slice
  have hne : ((l.length : Int) == 0) = false := by simp; rintro rfl; simp at h1
  go_enter Try.func44, Try.ntmps44
  go_wp2_with fail
  go_loop [4, 18] (fun s i => ∃ k : Nat, k ≤ L.length ∧ i = .int .i64 k ∧ s = .int .i64 (Hf.kto L k : Nat)) (fun _ i => l.length - (intOf i).toNat)
  case atStart => exact ⟨0, by omega, rfl, rfl⟩
  case round =>
    obtain ⟨k, hk, rfl, rfl⟩ := hrel
    have hkl := Hf.kto_le L k
    by_cases hlt : k < L.length
    · have hltl : k < l.length := by omega
      obtain ⟨bk, o, rfl, _, hbk, c0⟩ := h.get k hltl
      rw [hp.out k hlt hltl] at c0
      have hn := Hf.getD_le h3.out k
      have HS : Hid (Hf.kto L (k + 1) = Hf.kto L k + if 0 < L.getD k 0 then 2 ^ (48 - L.getD k 0) else 0) := Hf.kto_succ L k
      generalize L.getD k 0 = n at *
      generalize Hf.kto L k = S at *
      clear h
      go_wp2_with fail
      go_loop [7, 30] (fun s i => ∃ q : Nat, q ≤ 48 - n ∧ i = .int .i64 q ∧ s = .int .i64 (2 ^ q : Nat)) (fun _ i => 48 - n - (intOf i).toNat)
      case atStart => exact ⟨0, by omega, rfl, rfl⟩
      case round =>
        obtain ⟨q, hq, rfl, rfl⟩ := hrel
        by_cases hql : q < 48 - n
        · have hqb : 2 ^ q ≤ 281474976710656 := two_pow_le (by omega)
          have HQ : Hid (2 ^ (q + 1) = 2 ^ q * 2) := Nat.pow_succ ..
          have hqi : (q : Int) < 48 - (n : Int) := by omega
          generalize 2 ^ q = T at *
          go_wp2_with fail
          go_round
          case rel => exact ⟨q + 1, by omega, by go_num, by rw [HQ.out]; go_num⟩
          case measure => simp only [intOf]; omega
        · obtain rfl : q = 48 - n := by omega
          have hqb : 2 ^ (48 - n) ≤ 281474976710656 := two_pow_le (by omega)
          have hqi : ¬ ((48 - n : Nat) : Int) < 48 - (n : Int) := by omega
          by_cases hn0 : 0 < n
          · have HP : Hid (Hf.kto L (k + 1) = S + 2 ^ (48 - n)) := by rw [HS.out, if_pos hn0]; rfl
            generalize 2 ^ (48 - n) = p at *
            clear HS
            go_wp2_with fail
            go_round
            case rel => exact ⟨k + 1, by omega, by go_num, by rw [HP.out]; go_num⟩
            case measure => simp only [intOf]; omega
          · have HP : Hid (Hf.kto L (k + 1) = S) := by rw [HS.out, if_neg hn0]; rfl
            generalize 2 ^ (48 - n) = p at *
            clear HS
            go_wp2_with fail
            go_round
            case rel => exact ⟨k + 1, by omega, by go_num, by rw [HP.out]⟩
            case measure => simp only [intOf]; omega
    · obtain rfl : k = L.length := by omega
      by_cases hll : L.length < l.length
      · obtain ⟨bk, o, rfl, _, hbk, c0⟩ := h.get L.length hll
        have hx := he.out hll
        have HE : Hid (rkE L l = .returned (.tuple #[.int .i64 0, .int .i64 1])) := if_neg (by omega)
        generalize l[L.length] = t at *
        generalize Hf.kto L L.length = S at *
        clear h
        rcases hx with hx | hx
        · go_wp2_with fail
          go_ret2
          exact ⟨by rw [HE.out]; rfl, rfl⟩
        · have hx0 : ¬ t < 0 := by omega
          go_wp2_with fail
          go_ret2
          exact ⟨by rw [HE.out]; rfl, rfl⟩
      · have HE : Hid (rkE L l = .returned (.tuple #[.int .i64 (Hf.kto L L.length : Nat), .int .i64 0])) := (if_pos (by omega)).trans (by rw [Hf.kto_all])
        generalize Hf.kto L L.length = S at *
        go_wp2_with fail
        go_ret2
        exact ⟨by rw [HE.out]; rfl, rfl⟩
namespace Hf
/-- the right numbers at a list's beginning, and what stands behind them -/
theorem front (l : List Int) : ∃ L : List Nat, L.length ≤ l.length ∧ (∀ j (_ : j < L.length) (hj' : j < l.length), l[j] = ((L.getD j 0 : Nat) : Int)) ∧ (∀ n ∈ L, n ≤ 48) ∧ ∀ hj : L.length < l.length, l[L.length] < 0 ∨ 48 < l[L.length] := by
  induction l with
  | nil => exact ⟨[], Nat.le_refl _, fun j hj => by simp at hj, fun n hn => by simp at hn, fun hj => by simp at hj⟩
  | cons x l ih =>
    obtain ⟨L, h1, h2, h3, h4⟩ := ih
    by_cases hx : x < 0 ∨ 48 < x
    · exact ⟨[], Nat.zero_le _, fun j hj => by simp at hj, fun n hn => by simp at hn, fun _ => hx⟩
    · refine ⟨x.toNat :: L, by simpa using h1, fun j hj hj' => ?_, fun n hn => ?_, fun hj => ?_⟩
      · cases j with
        | zero => simp; omega
        | succ j => simpa using h2 j (by simpa using hj) (by simpa using hj')
      · rcases List.mem_cons.1 hn with rfl | hn
        · omega
        · exact h3 n hn
      · simpa using h4 (by simpa using hj)
theorem sgn_front {l : List Int} {L : List Nat} (hL : L.length < l.length) (h : l[L.length] < 0 ∨ 48 < l[L.length]) : sgn 48 l = false := sgn_one _ hL h
theorem up_front {L M : List Nat} (hL : L.length = (up M).length) (h : ∀ j (_ : j < L.length) (hj' : j < (up M).length), (up M)[j] = ((L.getD j 0 : Nat) : Int)) : L = M := by
  have hl : L.length = M.length := by rw [hL, up_length]
  refine List.ext_getElem hl fun j h1 h2 => ?_
  have := h j h1 (by rw [up_length]; exact h2)
  rw [up_get] at this
  have : M.getD j 0 = L.getD j 0 := by omega
  rw [List.getD_eq_getElem?_getD, List.getD_eq_getElem?_getD, List.getElem?_eq_getElem h1, List.getElem?_eq_getElem h2] at this
  exact this.symm
end Hf

theorem rkraft_any (v : Value) (L : List Nat) (w : World) (h : Ints w v (Hf.up L)) (h1 : 1 ≤ L.length) (h2 : L.length ≤ 256) (h3 : ∀ n ∈ L, n ≤ 48) :
    Calls Try.prog 44 #[v] w fun e w' => e = .returned (.tuple #[.int .i64 (Hf.ksum L : Nat), .int .i64 0]) ∧ w' = w := by
  have := rkraft_of v (Hf.up L) L w h (by rw [Hf.up_length]; exact h1) (by rw [Hf.up_length]; exact h2) (by rw [Hf.up_length]; exact Nat.le_refl _) (fun j hj hj' => Hf.up_get L j hj') h3 (fun hj => by rw [Hf.up_length] at hj; omega)
  rw [show rkE L (Hf.up L) = _ from if_pos (Hf.up_length L).symm] at this
  exact this
theorem rkraft_bad (v : Value) (l : List Int) (w : World) (h : Ints w v l) (hl : l.length ≤ 140737488351232) (hb : Hf.sgn 48 l = false) :
    Calls Try.prog 44 #[v] w fun e w' => e = .returned (.tuple #[.int .i64 0, .int .i64 1]) ∧ w' = w := by
  by_cases hn : l.length = 0 ∨ 256 < l.length
  · exact rkraft_short v l w h hl hn
  · obtain ⟨L, e1, e2, e3, e4⟩ := Hf.front l
    have := rkraft_of v l L w h (by omega) (by omega) e1 e2 e3 e4
    rw [show rkE L l = _ from if_neg fun e => ?_] at this
    · exact this
    · refine absurd hb (Bool.eq_false_iff.1 · (Hf.sgn_all (by omega) (by omega) fun j hj => ?_))
      have hj' : j < L.length := by omega
      rw [e2 j hj' hj]
      have := Hf.getD_le e3 j
      omega
end Go.Proofs.Ytgdkfaphbbdnbaa

namespace Go.Proofs.Ytgdkfaphbbdnbaa
open Go.RowKit
set_option maxRecDepth 4000

set_option maxHeartbeats 1000000 in
theorem rcodes_bad (v : Value) (l : List Int) (w : World) (h : Ints w v l) (hl : l.length ≤ 140737488351232) (hb : Hf.sgn 48 l = false) :
    Calls Try.prog 16 #[v] w fun e w' => e = .returned (.tuple #[.slice none 0 0, .int .i64 1]) ∧ w' = w := by
  have hs := rkraft_bad v l w h hl hb
  clear hb
  go_enter Try.func16, Try.ntmps16
  go_wp2_with fail
  refine hs.mono ?_
  rintro e w' ⟨rfl, rfl⟩
  go_wp2_with fail
  go_ret2
  exact ⟨rfl, rfl⟩

set_option maxHeartbeats 1000000 in
theorem rcodes_form (v : Value) (L : List Nat) (w : World) (h : Ints w v (Hf.up L)) (h1 : 1 ≤ L.length) (h2 : L.length ≤ 256) (h3 : ∀ n ∈ L, n ≤ 48) (hk : 281474976710656 < Hf.ksum L) :
    Calls Try.prog 16 #[v] w fun e w' => e = .returned (.tuple #[.slice none 0 0, .int .i64 4]) ∧ w' = w := by
  have hs := rkraft_any v L w h h1 h2 h3
  have hb := Hf.kto_le L L.length
  rw [Hf.kto_all] at hb
  generalize Hf.ksum L = K at *
  clear h h3
  go_enter Try.func16, Try.ntmps16
  go_wp2_with fail
  refine hs.mono ?_
  rintro e w' ⟨rfl, rfl⟩
  go_wp2_with fail
  go_ret2
  exact ⟨rfl, rfl⟩

theorem Hf.ahead_is {L : List Nat} {i k : Nat} {n m : Nat} (hn : L.getD i 0 = n) (hm : L.getD k 0 = m) : Hf.ahead L i k = true ↔ 0 < m ∧ (m < n ∨ (m = n ∧ k < i)) := by
  unfold Hf.ahead
  rw [hn, hm]
  simp
set_option maxHeartbeats 4000000 in
theorem rcodes_any (v : Value) (L : List Nat) (w : World) (h : Ints w v (Hf.up L)) (h1 : 1 ≤ L.length) (h2 : L.length ≤ 256) (h3 : ∀ n ∈ L, n ≤ 48) (hk : Hf.ksum L ≤ 281474976710656) :
    Calls Try.prog 16 #[v] w fun e w' => ∃ v', e = .returned (.tuple #[v', .int .i64 0]) ∧ w'.ownsRow w.heap.size 3 1 v' L.length ((Hf.codes L).map Iv) ∧ Below w.heap.size w w' := by
  have hs := rkraft_any v L w h h1 h2 h3
  obtain ⟨i0, hi, hz0, hz1, hz2⟩ := info_parts info_int
  obtain ⟨a, c, rfl⟩ := h.slice
  rw [Hf.up_length] at h hs ⊢
  have HB : Hid (∀ i k, k ≤ L.length → Hf.cto L i k ≤ 281474976710656) := fun i k hb => Hf.cto_le hb h3 hk
  have H3 : Hid (∀ n ∈ L, n ≤ 48) := h3
  generalize Hf.ksum L = K at *
  clear h3
  go_enter Try.func16, Try.ntmps16
  go_wp2_with fail
  refine hs.mono ?_
  rintro e w' ⟨rfl, rfl⟩
  clear hs
  go_wp2_with (at_make; refine wpList_make_full _ rfl (.tmp 22) (.tmp 22) 31 rfl w'.heap.size 3 i0 (.int .i64 0) 1 Try.underlying31 hi hz0 hz1 .i64 .i64 _ _ L.length rfl rfl rfl rfl (by rw [hz2]; omega) (by unfold maxLen; omega) (Nat.le_refl _) ?_; intro w1 hown hgrow)
  have hown1 := made_zeros hown
  rw [← Hf.part_start] at hown1
  have HB1 : Hid (Below w'.heap.size w' w1) := (Below.refl _ _).grown hgrow (Nat.le_refl _) (fun k hk => by cases hk)
  clear hown hgrow
  go_wp2_with fail
  go_loopw [26] (fun x wr => ∃ i : Nat, i ≤ L.length ∧ x = .int .i64 i ∧ wr.ownsRow w'.heap.size 3 1 (.slice (some ⟨w'.heap.size, 0, none⟩) L.length L.length) L.length ((Hf.part L i 0).map Iv) ∧ Hid (Below w'.heap.size w' wr)) (fun x _ => L.length - (intOf x).toNat)
  case atStart => exact ⟨0, by omega, rfl, hown1, HB1⟩
  case round =>
    obtain ⟨i, hil, rfl, hown, hbel⟩ := hrel
    by_cases hlt : i < L.length
    · obtain ⟨bk, o, rfl, hbk, c0⟩ := (h.below (Nat.le_refl _) hbel.out).getN i hlt
      have hn := Hf.getD_le H3.out i
      obtain ⟨n, HN0⟩ : ∃ n, L.getD i 0 = n := ⟨_, rfl⟩
      rw [HN0] at c0 hn
      have HN : Hid (L.getD i 0 = n) := HN0
      clear HN0
      go_wp2_with fail
      clear c0
      go_loopw [33] (fun x wr => ∃ k : Nat, k ≤ L.length ∧ x = .int .i64 k ∧ wr.ownsRow w'.heap.size 3 1 (.slice (some ⟨w'.heap.size, 0, none⟩) L.length L.length) L.length ((Hf.part L i k).map Iv) ∧ Hid (Below w'.heap.size w' wr)) (fun x _ => L.length - (intOf x).toNat)
      case atStart => exact ⟨0, by omega, rfl, hown, hbel⟩
      case round =>
        obtain ⟨k, hkl, rfl, hown, hbel⟩ := hrel
        by_cases hlt2 : k < L.length
        · have hpl : i < (Hf.part L i k).length := by rw [Hf.part_length]; exact hlt
          obtain ⟨bk', o', ha, hbk', c0⟩ := (h.below (Nat.le_refl _) hbel.out).getN k hlt2
          obtain ⟨rfl, rfl⟩ : bk = bk' ∧ o = o' := by simpa using ha
          clear ha
          have hm := Hf.getD_le H3.out k
          obtain ⟨m, HM0⟩ : ∃ m, L.getD k 0 = m := ⟨_, rfl⟩
          rw [HM0] at c0 hm
          have HA := Hf.ahead_is HN.out HM0
          have HM : Hid (L.getD k 0 = m) := HM0
          clear HM0
          by_cases hA : 0 < m ∧ (m < n ∨ (m = n ∧ k < i))
          · obtain ⟨d, hd⟩ : ∃ d, n - m = d := ⟨_, rfl⟩
            have HG : Hid (Hf.part L i (k + 1) = (Hf.part L i k).set i ((Hf.cto L i k : Nat) + (2 ^ d : Nat))) := by
              have := Hf.part_hit (HA.2 hA)
              rw [HN.out, HM.out, hd] at this
              exact this
            have x1 := own_at hown i hpl
            have x1' : (Hf.part L i k)[i] = (Hf.cto L i k : Int) := by
              have := Hf.part_get (k := k) hlt
              rw [List.getElem?_eq_getElem hpl] at this
              simpa using this
            rw [x1'] at x1
            have hC := HB.out i k hkl
            have x2 := hown.frozenAt i
            have hd48 : d ≤ 48 := by omega
            have hnm : (n : Int) - (m : Int) = (d : Int) := by omega
            have HO := own_store hown i ((Hf.cto L i k : Nat) + (2 ^ d : Nat))
            rw [← HG.out] at HO
            have hm0 : 0 < m := hA.1
            have hn0 : 0 < n := by omega
            have hcase : (m < n) ∨ (¬ m < n ∧ ((m : Int) == (n : Int)) = true ∧ k < i) := by
              rcases hA.2 with h | ⟨h1, h2⟩
              · exact .inl h
              · exact .inr ⟨by omega, by simp [h1], h2⟩
            clear HG HA x1' hown hA hd
            generalize Hf.cto L i k = C at *
            have hp2 : (2 : Int) ^ d = ((2 ^ d : Nat) : Int) := by simp
            have hpb : 2 ^ d ≤ 281474976710656 := two_pow_le hd48
            generalize 2 ^ d = P at *
            have HO2 : Hid ((wr.setCell ⟨w'.heap.size, i, none⟩ (.int .i64 ((C : Int) + (P : Int)))).drew.ownsRow w'.heap.size 3 1 (.slice (some ⟨w'.heap.size, 0, none⟩) L.length L.length) L.length ((Hf.part L i (k + 1)).map Iv)) := HO.drew
            have HB2 : Hid (Below w'.heap.size w' (wr.setCell ⟨w'.heap.size, i, none⟩ (.int .i64 ((C : Int) + (P : Int)))).drew) := (hbel.out.setCell (Nat.le_refl _) _).drew
            clear HO
            rcases hcase with hmn | ⟨hmn, heq, hki⟩
            all_goals
              go_wp2_with fail
              go_region
              go_wp2_with fail
              go_roundw
              case rel => exact ⟨k + 1, by omega, by go_num, HO2.out, HB2⟩
              case measure => simp only [intOf]; omega
          · have HG : Hid (Hf.part L i (k + 1) = Hf.part L i k) := Hf.part_miss (Bool.eq_false_iff.2 fun h => hA (HA.1 h))
            have hcase : n = 0 ∨ (0 < n ∧ m = 0) ∨ (0 < n ∧ 0 < m ∧ n < m) ∨ (0 < n ∧ 0 < m ∧ ¬ m < n ∧ ((m : Int) == (n : Int)) = true ∧ ¬ k < i) := by
              by_cases e : m = n
              · subst e
                by_cases e0 : m = 0
                · exact .inl e0
                · exact .inr (.inr (.inr ⟨by omega, by omega, by omega, by simp, by omega⟩))
              · omega
            clear HA hA
            rcases hcase with rfl | ⟨hn0, rfl⟩ | ⟨hn0, hm0, hnm⟩ | ⟨hn0, hm0, hnm, heq, hki⟩
            rotate_left 2
            · have heq : ((m : Int) == (n : Int)) = false := by simp; omega
              have hmn : ¬ m < n := by omega
              go_wp2_with fail
              go_roundw
              case rel => exact ⟨k + 1, by omega, by go_num, by rw [HG.out]; exact hown, hbel⟩
              case measure => simp only [intOf]; omega
            all_goals
              go_wp2_with fail
              go_roundw
              case rel => exact ⟨k + 1, by omega, by go_num, by rw [HG.out]; exact hown, hbel⟩
              case measure => simp only [intOf]; omega
        · obtain rfl : k = L.length := by omega
          rw [Hf.part_next] at hown
          go_wp2_with fail
          go_roundw
          case rel => exact ⟨i + 1, by omega, by go_num, hown, hbel⟩
          case measure => simp only [intOf]; omega
    · obtain rfl : i = L.length := by omega
      rw [Hf.part_end] at hown
      have HO : Hid (wr.ownsRow w'.heap.size 3 1 (.slice (some ⟨w'.heap.size, 0, none⟩) L.length L.length) L.length ((Hf.codes L).map Iv)) := hown
      clear hown
      go_wp2_with fail
      go_ret2
      exact ⟨_, rfl, HO.out, hbel.out⟩
end Go.Proofs.Ytgdkfaphbbdnbaa

namespace Go.Proofs.Ytgdkfaphbbdnbaa
open Go.RowKit
set_option maxRecDepth 4000

set_option maxHeartbeats 1000000 in
theorem has_any (v : Value) (s : List Nat) (n : Nat) (w : World) (h : Ints w v (Hf.up s)) (hs : s.length ≤ 256) :
    Calls Try.prog 63 #[v, .int .i64 n] w fun e w' => e = .returned (.bool (decide (n ∈ s))) ∧ w' = w := by
  obtain ⟨a, c, rfl⟩ := h.slice
  rw [Hf.up_length] at h ⊢
  go_enter Try.func63, Try.ntmps63
  go_wp2_with fail
  go_loop [9] (fun i => ∃ k : Nat, k ≤ s.length ∧ i = .int .i64 k ∧ Hid (n ∉ s.take k)) (fun i => s.length - (intOf i).toNat)
  case atStart => exact ⟨0, by omega, rfl, (show n ∉ s.take 0 from by simp)⟩
  case round =>
    obtain ⟨k, hk, rfl, hno⟩ := hrel
    by_cases hlt : k < s.length
    · obtain ⟨bk, o, rfl, hbk, c0⟩ := h.getN k hlt
      have hg : s.getD k 0 = s[k] := by rw [List.getD_eq_getElem?_getD, List.getElem?_eq_getElem hlt]; rfl
      by_cases he : s.getD k 0 = n
      · have HD : Hid (decide (n ∈ s) = true) := decide_eq_true (by rw [← he, hg]; exact List.getElem_mem hlt)
        have hb : ((s.getD k 0 : Int) == (n : Int)) = true := by rw [he]; simp
        clear he hg h
        generalize s.getD k 0 = x at *
        go_wp2_with fail
        go_ret
        exact ⟨by rw [HD.out]; rfl, rfl⟩
      · have hb : ((s.getD k 0 : Int) == (n : Int)) = false := by simp; simp at he; omega
        have HN : Hid (n ∉ s.take (k + 1)) := by
          rw [List.take_succ_eq_append_getElem hlt]
          intro hm
          rcases List.mem_append.1 hm with hm | hm
          · exact hno.out hm
          · rw [hg] at he
            exact he (List.mem_singleton.1 hm).symm
        clear he hg
        generalize s.getD k 0 = x at *
        go_wp2_with fail
        go_round
        case rel => exact ⟨k + 1, by omega, by go_num, HN⟩
        case measure => simp only [intOf]; omega
    · have HD : Hid (decide (n ∈ s) = false) := decide_eq_false (by have := hno.out; rwa [List.take_of_length_le (by omega)] at this)
      go_wp2_with fail
      go_ret
      exact ⟨by rw [HD.out]; rfl, rfl⟩

theorem own_kept' {p : Nat → Prop} {base : Nat} {e : TypeId} {k : Nat} {v : Value} {n : Nat} {xs : List Value} {w w' : World} (h : w.ownsRow base e k v n xs) (hk : Kept p w w') (hp : ∀ g, base ≤ g → p g) : w'.ownsRow base e k v n xs := by
  obtain ⟨h1, h2⟩ := h
  refine ⟨h1, ?_⟩
  rcases h2 with h2 | ⟨g, cap, cur, hv, hg, hh, r⟩
  · exact .inl h2
  · refine .inr ⟨g, cap, cur, hv, hg, ?_, r⟩
    rw [hk.block g (Array.getElem?_eq_some_iff.1 hh).1 (hp g hg), hh]
def bC (g : Hf.G) : List Value := [.int .i64 g.wt, g.sv]
def rowB (l : List Hf.G) : List Value := l.flatMap bC
theorem rowB_length (l : List Hf.G) : (rowB l).length = 2 * l.length := by
  induction l with
  | nil => rfl
  | cons t l ih => show (bC t ++ rowB l).length = _; rw [List.length_append, ih, List.length_cons]; simp [bC]; omega
theorem rowB_more (l : List Hf.G) (t : Hf.G) : rowB (l ++ [t]) = rowB l ++ bC t := by simp [rowB]
theorem rowB_get (l : List Hf.G) (i r : Nat) (hi : i < l.length) (hr : r < 2) : (rowB l)[2 * i + r]? = (bC (Hf.nth l i))[r]? := by
  rw [Hf.nth_get hi]
  induction l generalizing i with
  | nil => simp at hi
  | cons t l ih =>
    show (bC t ++ rowB l)[2 * i + r]? = _
    cases i with
    | zero => rw [List.getElem?_append_left (by simp [bC]; omega)]; simp
    | succ i =>
      rw [List.getElem?_append_right (by simp [bC]; omega), show 2 * (i + 1) + r - (bC t).length = 2 * i + r from by simp [bC]; omega, ih i (by simpa using hi)]
      rfl
/-- a list of bunches v, each with its signs in a row of their own, the least one first -/
structure Bun (W : World) (base : Nat) (v : Value) (l : List Hf.G) : Prop where
  row : W.ownsRow base 99 2 v l.length (rowB l)
  signs : ∀ g ∈ l, W.ownsRow base 3 1 g.sv g.sg.length ((Hf.up g.sg).map Iv)
  low : ∀ g ∈ l, 1 ≤ g.sg.length ∧ g.sg.getD 0 0 = g.low
theorem Bun.keep {W W' : World} {base : Nat} {v : Value} {l : List Hf.G} (h : Bun W base v l) (hb : Below W.heap.size W W') : Bun W' base v l :=
  ⟨row_below h.row hb, fun g hg => row_below (h.signs g hg) hb, h.low⟩
theorem Bun.slice {W : World} {base : Nat} {v : Value} {l : List Hf.G} (h : Bun W base v l) (hl : 0 < l.length) : ∃ g c, v = .slice (some ⟨g, 0, none⟩) l.length c := by
  rcases h.row.2 with ⟨_, h0⟩ | ⟨g, cap, cur, rfl, _⟩
  · omega
  · exact ⟨_, _, rfl⟩
/-- the signs of one of them: their slice, and the first one -/
theorem Bun.sign {W : World} {base : Nat} {v : Value} {l : List Hf.G} (h : Bun W base v l) {x : Hf.G} (hx : x ∈ l) : ∃ b c, x.sv = .slice (some ⟨b, 0, none⟩) x.sg.length c ∧ b < W.heap.size ∧ W.cell? ⟨b, 0, none⟩ = some (.int .i64 x.low) := by
  have hs := h.signs x hx
  obtain ⟨h1, h2⟩ := h.low x hx
  rcases hs.2 with ⟨_, h0⟩ | ⟨b, cap, cur, e, _, hh, _⟩
  · omega
  · refine ⟨b, cap, e, (Array.getElem?_eq_some_iff.1 hh).1, ?_⟩
    rw [e] at hs
    have := own_at hs 0 (by rw [Hf.up_length]; exact h1)
    rw [Hf.up_get, h2] at this
    exact this
theorem Bun.at_ {W : World} {base g n c : Nat} {l : List Hf.G} (h : Bun W base (.slice (some ⟨g, 0, none⟩) n c) l) (hn : n = l.length) (i : Nat) (hi : i < l.length) :
    W.cell? ⟨g, i * 2, none⟩ = some (.int .i64 (Hf.nth l i).wt) ∧ W.cell? ⟨g, i * 2 + 1, none⟩ = some (Hf.nth l i).sv ∧ g < W.heap.size := by
  subst hn
  have e := fun r (hr : r < 2) => (h.row.cellAt (2 * i + r) (by omega)).trans (rowB_get l i r hi hr)
  have e0 := e 0 (by omega)
  have e1 := e 1 (by omega)
  rw [show 2 * i = i * 2 from by omega] at e0 e1
  refine ⟨e0, e1, ?_⟩
  rcases h.row.2 with ⟨h1, _⟩ | ⟨g', cap, cur, h1, _, hh, _⟩
  · simp at h1
  · simp at h1
    rw [h1.1]
    exact (Array.getElem?_eq_some_iff.1 hh).1
namespace Hf
/-- which one of the first i comes first -/
def amin (l : List G) : Nat → Nat
  | 0 => 0
  | i + 1 => if ltG (nth l i) (nth l (amin l i)) = true then i else amin l i
theorem amin_le (l : List G) (i : Nat) : amin l i ≤ i := by
  induction i with
  | zero => exact Nat.le_refl _
  | succ i ih => unfold amin; split <;> omega
theorem amin_lt (l : List G) (i : Nat) (h : 0 < i) : amin l i < i := by
  cases i with
  | zero => omega
  | succ i => unfold amin; have := amin_le l i; split <;> omega
theorem amin_first (l : List G) (i : Nat) : ∀ j, j < i → ltG (nth l j) (nth l (amin l i)) = false := by
  induction i with
  | zero => intro j h; omega
  | succ i ih =>
    intro j hj
    unfold amin
    by_cases h : ltG (nth l i) (nth l (amin l i)) = true
    · rw [if_pos h]
      by_cases e : j = i
      · subst e; exact ge_refl _
      · exact ge_trans (lt_ge h) (ih j (by omega))
    · rw [if_neg h]
      by_cases e : j = i
      · subst e; exact Bool.eq_false_iff.2 h
      · exact ih j (by omega)
theorem amin_mem (l : List G) : ∀ c ∈ l, ltG c (nth l (amin l l.length)) = false := by
  intro c hc
  obtain ⟨i, hi, rfl⟩ := List.getElem_of_mem hc
  rw [← nth_get hi]
  exact amin_first l l.length i hi
/-- the first i of them, without the k-th -/
def rest (l : List G) (k i : Nat) : List G := (l.take i).eraseIdx k
theorem rest_skip (l : List G) (k : Nat) (hk : k < l.length) : rest l k (k + 1) = rest l k k := by
  unfold rest
  rw [List.take_succ_eq_append_getElem hk, List.eraseIdx_append_of_length_le (by rw [List.length_take]; omega), List.eraseIdx_of_length_le (l := l.take k) (by rw [List.length_take]; omega), List.length_take,
    show k - min k l.length = 0 by omega]
  simp
theorem rest_more (l : List G) (k i : Nat) (hi : i < l.length) (hne : i ≠ k) : rest l k (i + 1) = rest l k i ++ [nth l i] := by
  unfold rest
  rw [nth_get hi, List.take_succ_eq_append_getElem hi]
  by_cases h : k < i
  · rw [List.eraseIdx_append_of_lt_length (by rw [List.length_take]; omega)]
  · rw [List.eraseIdx_append_of_length_le (by rw [List.length_take]; omega)]
    rw [List.eraseIdx_of_length_le (l := l.take i) (by rw [List.length_take]; omega), List.eraseIdx_of_length_le (by rw [List.length_take]; simp; omega)]
theorem rest_length (l : List G) (k i : Nat) : (rest l k i).length ≤ i := by
  unfold rest
  have h1 := List.length_eraseIdx_le (l.take i) k
  rw [List.length_take] at h1
  omega
theorem rest_perm (l : List G) (k : Nat) (hk : k < l.length) : l.Perm (nth l k :: rest l k l.length) := by
  unfold rest
  rw [List.take_length, nth_get hk, List.eraseIdx_eq_take_drop_succ]
  conv => lhs; rw [← List.take_append_drop k l, List.drop_eq_getElem_cons hk]
  exact List.perm_middle
end Hf
/-- a bunch in a block of its own -/
structure BBox (W : World) (G : Nat) (x : Hf.G) : Prop where
  c0 : W.cell? ⟨G, 0, none⟩ = some (.int .i64 x.wt)
  c1 : W.cell? ⟨G, 1, none⟩ = some x.sv
  f0 : W.frozen? ⟨G, 0, none⟩ = false
  f1 : W.frozen? ⟨G, 1, none⟩ = false
  lt : G < W.heap.size
theorem BBox.new (w : World) (x : Hf.G) : BBox (w.alloc (.cells #[.int .i64 x.wt, x.sv] 99)) w.heap.size x := ⟨by simp, by simp, by simp, by simp, by simp⟩
theorem BBox.kept {p : Nat → Prop} {W W' : World} {G : Nat} {x : Hf.G} (h : BBox W G x) (hk : Kept p W W') (hp : p G) : BBox W' G x := by
  have e := hk.block G h.lt hp
  refine ⟨?_, ?_, ?_, ?_, Nat.lt_of_lt_of_le h.lt hk.size⟩
  · rw [World.cell?_of_block (a := ⟨G, 0, none⟩) e]; exact h.c0
  · rw [World.cell?_of_block (a := ⟨G, 1, none⟩) e]; exact h.c1
  · rw [World.frozen?_of_block (a := ⟨G, 0, none⟩) e]; exact h.f0
  · rw [World.frozen?_of_block (a := ⟨G, 1, none⟩) e]; exact h.f1
theorem BBox.below {W W' : World} {G B : Nat} {x : Hf.G} (h : BBox W G x) (hb : Below B W W') (hg : G < B) : BBox W' G x :=
  h.kept (p := fun k => k < B) ⟨hb.os, hb.tape, hb.output, hb.size, fun k _ hk => hb.block k hk⟩ hg
theorem info_bunch : (Try.prog.info? 99).map (fun i => (i.zero, i.size, i.bytes)) = some (some (.agg #[.int .i64 0, .slice none 0 0]), 2, 32) := by kernel_rfl
theorem Hf.amin_next (l : List Hf.G) (i : Nat) : Hf.amin l (i + 1) = if Hf.ltG (Hf.nth l i) (Hf.nth l (Hf.amin l i)) = true then i else Hf.amin l i := rfl
theorem two_at {W : World} {B : Nat} {x : Hf.G} (h0 : W.cell? ⟨B, 0, none⟩ = some (.int .i64 x.wt)) (h1 : W.cell? ⟨B, 1, none⟩ = some x.sv) : ∀ j u, (bC x)[j]? = some u → W.cell? ((⟨B, 0, none⟩ : Addr).add j) = some u := by
  intro j u hj
  rw [show ((⟨B, 0, none⟩ : Addr).add j) = ⟨B, j, none⟩ from by unfold Addr.add; split <;> simp_all]
  match j, hj with
  | 0, hj => rw [h0]; exact hj
  | 1, hj => rw [h1]; exact hj

set_option maxHeartbeats 4000000 in
theorem least_any (base : Nat) (v : Value) (l : List Hf.G) (w : World) (h : Bun w base v l) (hbase : base ≤ w.heap.size) (h0 : 0 < l.length) (hl : l.length ≤ 256) :
    Calls Try.prog 62 #[v] w fun e w' => ∃ v', e = .returned (.tuple #[.agg #[.int .i64 (Hf.nth l (Hf.amin l l.length)).wt, (Hf.nth l (Hf.amin l l.length)).sv], v']) ∧ Bun w' base v' (Hf.rest l (Hf.amin l l.length) l.length) ∧ (∀ b, v'.ownBlock = some b → w.heap.size ≤ b) ∧ Below w.heap.size w w' := by
  obtain ⟨i0, hi, hz0, hz1, hz2⟩ := info_parts info_bunch
  obtain ⟨g, c, rfl⟩ := h.slice h0
  obtain ⟨W1, hW1⟩ : ∃ W1, W1 = w.alloc (.cells #[.int .i64 0, .slice none 0 0] 99) := ⟨_, rfl⟩
  have HB1 : Hid (Below w.heap.size w W1) := by rw [hW1]; exact (Below.refl _ w).alloc (Nat.le_refl _) _
  have HX1 : Hid (BBox W1 w.heap.size Hf.G.z) := by rw [hW1]; exact BBox.new w Hf.G.z
  go_enter Try.func62, Try.ntmps62
  go_wp2_with fail
  rw [← hW1]
  clear hW1
  go_loopw [4, 12] (fun x y wr => ∃ i : Nat, i ≤ l.length ∧ y = .int .i64 i ∧ x = .int .i64 (Hf.amin l i : Nat) ∧ Hid (Below W1.heap.size W1 wr)) (fun _ y _ => l.length - (intOf y).toNat)
  case atStart => exact ⟨0, by omega, rfl, rfl, Below.refl _ _⟩
  case round =>
    obtain ⟨i, hil, rfl, rfl, hbel⟩ := hrel
    have hB : Below w.heap.size w wr := HB1.out.trans (hbel.out.mono HB1.out.size)
    by_cases hlt : i < l.length
    · have hk := Hf.amin_le l i
      have HN : Hid (_) := Hf.amin_next l i
      have hh := h.keep hB
      obtain ⟨a0, a1, hg⟩ := hh.at_ rfl i hlt
      obtain ⟨b0, b1, _⟩ := hh.at_ rfl (Hf.amin l i) (by omega)
      obtain ⟨sb, sc, es, hsb, s0⟩ := hh.sign (Hf.nth_mem hlt)
      obtain ⟨tb, tc, et, htb, t0⟩ := hh.sign (Hf.nth_mem (show Hf.amin l i < l.length by omega))
      have hsl := (hh.low _ (Hf.nth_mem hlt)).1
      have htl := (hh.low _ (Hf.nth_mem (show Hf.amin l i < l.length by omega))).1
      generalize Hf.amin l i = k at *
      generalize Hf.nth l i = x at *
      generalize Hf.nth l k = y at *
      rw [es] at a1
      rw [et] at b1
      generalize x.sg.length = xn at *
      generalize y.sg.length = yn at *
      obtain ⟨W2, hW2⟩ : ∃ W2, W2 = wr.alloc (.cells #[.int .i64 x.wt, .slice (some ⟨sb, 0, none⟩) xn sc] 99) := ⟨_, rfl⟩
      have hb2 : Below wr.heap.size wr W2 := by rw [hW2]; exact (Below.refl _ _).alloc (Nat.le_refl _) _
      have x0 : ∀ X : Since W2.heap.size W2, X.val.cell? ⟨wr.heap.size, 0, none⟩ = some (.int .i64 (x.wt : Int)) := fun X => (X.property.cell (p := ⟨wr.heap.size, 0, none⟩) (by rw [hW2]; simp)).trans (by rw [hW2]; simp)
      have x1 : ∀ X : Since W2.heap.size W2, X.val.cell? ⟨wr.heap.size, 1, none⟩ = some (.slice (some ⟨sb, 0, none⟩) xn sc) := fun X => (X.property.cell (p := ⟨wr.heap.size, 1, none⟩) (by rw [hW2]; simp)).trans (by rw [hW2]; simp)
      have hz2' := hb2.size
      have y0 : ∀ X : Since W2.heap.size W2, X.val.cell? ⟨g, k * 2, none⟩ = some (.int .i64 (y.wt : Int)) := fun X => (X.property.cell (p := ⟨g, k * 2, none⟩) (by show g < _; omega)).trans ((hb2.cell (p := ⟨g, k * 2, none⟩) hg).trans b0)
      have y1 : ∀ X : Since W2.heap.size W2, X.val.cell? ⟨g, k * 2 + 1, none⟩ = some (.slice (some ⟨tb, 0, none⟩) yn tc) := fun X => (X.property.cell (p := ⟨g, k * 2 + 1, none⟩) (by show g < _; omega)).trans ((hb2.cell (p := ⟨g, k * 2 + 1, none⟩) hg).trans b1)
      have s1 : ∀ X : Since W2.heap.size W2, X.val.cell? ⟨sb, 0, none⟩ = some (.int .i64 (x.low : Int)) := fun X => (X.property.cell (p := ⟨sb, 0, none⟩) (by show sb < _; omega)).trans ((hb2.cell (p := ⟨sb, 0, none⟩) hsb).trans s0)
      have t1 : ∀ X : Since W2.heap.size W2, X.val.cell? ⟨tb, 0, none⟩ = some (.int .i64 (y.low : Int)) := fun X => (X.property.cell (p := ⟨tb, 0, none⟩) (by show tb < _; omega)).trans ((hb2.cell (p := ⟨tb, 0, none⟩) htb).trans t0)
      have hne : Nonempty (Since W2.heap.size W2) := ⟨⟨W2, Below.refl _ _⟩⟩
      have HB2 : Hid (Below W1.heap.size W1 W2) := hbel.out.trans (hb2.mono hbel.out.size)
      have hsl' : (0 : Int) < (xn : Int) := by omega
      have htl' : (0 : Int) < (yn : Int) := by omega
      clear hh es et hbel hB b0 b1 s0 t0 hb2 hz2'
      go_upto_region 5 with fail
      rw [← hW2]
      clear hW2 a0 a1
      refine wp_region_since (B := W2.heap.size) (W0 := W2) (by kernel_rfl) (by kernel_rfl) (Below.refl _ _) ?_
      by_cases hw : x.wt < y.wt
      · have HL : Hid (Hf.amin l (i + 1) = i) := HN.out.trans (if_pos (Hf.ltG_iff.2 (.inl hw)))
        clear HN
        repeat (go_big_quiet_step (fail))
        refine wpQuiet_nil ?_
        rintro w7 ⟨U, rfl⟩
        have HB3 : Hid (Below W1.heap.size W1 U.val) := HB2.out.trans (U.property.mono HB2.out.size)
        generalize U.val = w7 at *
        clear x0 x1 y0 y1 s1 t1 hne HB2
        go_wp2_with fail
        go_roundw
        case rel => exact ⟨i + 1, by omega, by go_num, by rw [HL.out], HB3⟩
        case measure => simp only [intOf]; omega
      · have q1 : decide ((x.wt : Int) < (y.wt : Int)) = false := decide_eq_false (by omega)
        have q2 : decide (x.wt < y.wt) = false := decide_eq_false hw
        by_cases he : x.wt = y.wt
        · have q3 : ((x.wt : Int) == (y.wt : Int)) = true := by rw [he]; simp
          have HE : Hid (x.wt = y.wt) := he
          clear he
          by_cases hlw : x.low < y.low
          · have HL : Hid (Hf.amin l (i + 1) = i) := HN.out.trans (if_pos (Hf.ltG_iff.2 (.inr ⟨HE.out, hlw⟩)))
            clear HN
            repeat (go_big_quiet_step (fail))
            refine wpQuiet_nil ?_
            rintro w7 ⟨U, rfl⟩
            have HB3 : Hid (Below W1.heap.size W1 U.val) := HB2.out.trans (U.property.mono HB2.out.size)
            generalize U.val = w7 at *
            clear x0 x1 y0 y1 s1 t1 hne HB2
            go_wp2_with fail
            go_roundw
            case rel => exact ⟨i + 1, by omega, by go_num, by rw [HL.out], HB3⟩
            case measure => simp only [intOf]; omega
          · have q4 : decide ((x.low : Int) < (y.low : Int)) = false := decide_eq_false (by omega)
            have q5 : decide (x.low < y.low) = false := decide_eq_false hlw
            have HL : Hid (Hf.amin l (i + 1) = k) := HN.out.trans (if_neg (fun e => by have := Hf.ltG_iff.1 e; omega))
            clear HN
            repeat (go_big_quiet_step (fail))
            refine wpQuiet_nil ?_
            rintro w7 ⟨U, rfl⟩
            have HB3 : Hid (Below W1.heap.size W1 U.val) := HB2.out.trans (U.property.mono HB2.out.size)
            generalize U.val = w7 at *
            clear x0 x1 y0 y1 s1 t1 hne HB2
            go_wp2_with fail
            go_roundw
            case rel => exact ⟨i + 1, by omega, by go_num, by rw [HL.out], HB3⟩
            case measure => simp only [intOf]; omega
        · have q3 : ((x.wt : Int) == (y.wt : Int)) = false := by simp; omega
          have HL : Hid (Hf.amin l (i + 1) = k) := HN.out.trans (if_neg (fun e => by have := Hf.ltG_iff.1 e; omega))
          clear HN
          repeat (go_big_quiet_step (fail))
          refine wpQuiet_nil ?_
          rintro w7 ⟨U, rfl⟩
          have HB3 : Hid (Below W1.heap.size W1 U.val) := HB2.out.trans (U.property.mono HB2.out.size)
          generalize U.val = w7 at *
          clear x0 x1 y0 y1 s1 t1 hne HB2
          go_wp2_with fail
          go_roundw
          case rel => exact ⟨i + 1, by omega, by go_num, by rw [HL.out], HB3⟩
          case measure => simp only [intOf]; omega
    · obtain rfl : i = l.length := by omega
      have hkl := Hf.amin_lt l l.length h0
      obtain ⟨k, hkk⟩ : ∃ k, Hf.amin l l.length = k := ⟨_, rfl⟩
      rw [hkk] at hkl ⊢
      have HKK : Hid (Hf.amin l l.length = k) := hkk
      clear hkk
      have HBw : Hid (Below w.heap.size w wr) := hB
      clear hB
      go_wp2_with fail
      go_loopw [7, 53] (fun x y wr' => ∃ i : Nat, i ≤ l.length ∧ y = .int .i64 i ∧ wr'.ownsRow W1.heap.size 99 2 x (Hf.rest l k i).length (rowB (Hf.rest l k i)) ∧ Hid (Below W1.heap.size W1 wr')) (fun _ y _ => l.length - (intOf y).toNat)
      case atStart => exact ⟨0, by omega, rfl, World.ownsRow_nil _ _ _ _, hbel⟩
      case round =>
        obtain ⟨i, hil, rfl, hown, hbel⟩ := hrel
        have hB : Below w.heap.size w wr := HB1.out.trans (hbel.out.mono HB1.out.size)
        by_cases hlt : i < l.length
        · have hh := h.keep hB
          obtain ⟨a0, a1, hg⟩ := hh.at_ rfl i hlt
          obtain ⟨sb, sc, es, _, _⟩ := hh.sign (Hf.nth_mem hlt)
          have hrl := Hf.rest_length l k i
          have hsz := hB.size
          have hszb := hbel.out.size
          by_cases hik : i = k
          · have hb : ((i : Int) != (k : Int)) = false := by simp [hik]
            have HR : Hid (Hf.rest l k (i + 1) = Hf.rest l k i) := by show _ = _; rw [hik]; exact Hf.rest_skip l k hkl
            have HB2 : Hid (∀ o, Below W1.heap.size W1 (wr.alloc o)) := fun o => hbel.out.alloc hbel.out.size o
            have HO2 : Hid (∀ o, (wr.alloc o).ownsRow W1.heap.size 99 2 u7 (Hf.rest l k (i + 1)).length (rowB (Hf.rest l k (i + 1)))) := fun o => by rw [HR.out]; exact hown.alloc o
            generalize Hf.nth l i = x at *
            rw [es] at a1
            clear hik hh es hbel hB hown
            go_wp2_with fail
            go_roundw
            case rel => exact ⟨i + 1, by omega, by go_num, HO2.out _, HB2.out _⟩
            case measure => simp only [intOf]; omega
          · have hb : ((i : Int) != (k : Int)) = true := by simp; omega
            have HR : Hid (Hf.rest l k (i + 1) = Hf.rest l k i ++ [Hf.nth l i]) := Hf.rest_more l k i hlt hik
            have ex : ∃ xw xl xs, Hf.nth l i = (⟨xw, xl, xs, .slice (some ⟨sb, 0, none⟩) (Hf.nth l i).sg.length sc⟩ : Hf.G) := ⟨_, _, _, by rw [← es]⟩
            obtain ⟨xw, xl, xs, ex⟩ := ex
            generalize (Hf.nth l i).sg.length = xn at *
            rw [ex] at a0 a1 HR
            dsimp only at a0 a1
            clear hik hh es ex
            go_wp2_with (at_builtin; refine wpList_append_own _ rfl (.tmp 61) (.tmp 63) 97 rfl W1.heap.size 99 i0 (.agg #[.int .i64 0, .slice none 0 0]) 2 32 Try.underlying97 hi hz0 hz1 hz2 rfl (by decide) _ _ _ rfl ((hown.alloc _).alloc _) ⟨wr.heap.size + 1, 0, none⟩ 1 1 (bC ⟨xw, xl, xs, .slice (some ⟨sb, 0, none⟩) xn sc⟩) rfl rfl (two_at (by simp) (by simp)) (by simp [bC, Value.oneCell']) (by unfold maxLen; omega) (by omega) (by simp; omega) ?_; intro v1 w3 hown3 hgrow _)
            have HO3 : Hid (w3.ownsRow W1.heap.size 99 2 v1 (Hf.rest l k (i + 1)).length (rowB (Hf.rest l k (i + 1)))) := by rw [HR.out, rowB_more, List.length_append]; exact hown3
            have HB3 : Hid (Below W1.heap.size W1 w3) := ((hbel.out.alloc hszb _).alloc (by simp; omega) _).grown hgrow (by simp; omega) fun j hj => (hown.lt j hj).1
            clear hown3 hgrow hown hbel hB a0 a1
            go_wp2_with fail
            go_roundw
            case rel => exact ⟨i + 1, by omega, by go_num, HO3.out, HB3⟩
            case measure => simp only [intOf]; omega
        · obtain rfl : i = l.length := by omega
          have hh := h.keep hB
          obtain ⟨a0, a1, hg⟩ := hh.at_ rfl k hkl
          obtain ⟨sb, sc, es, _, _⟩ := hh.sign (Hf.nth_mem hkl)
          obtain ⟨d0, d1, f0, f1, hwl⟩ := HX1.out.below hbel.out HX1.out.lt
          have HF : Hid (∀ W v', Below w.heap.size w W → W.ownsRow W1.heap.size 99 2 v' (Hf.rest l k l.length).length (rowB (Hf.rest l k l.length)) → Bun W base v' (Hf.rest l k l.length)) := fun W v' hW hr => by
            have hm : ∀ g ∈ Hf.rest l k l.length, g ∈ l := fun g hg => (Hf.rest_perm l k hkl).mem_iff.2 (List.mem_cons_of_mem _ hg)
            exact ⟨row_lower hr (by have := HB1.out.size; omega), fun g hg => row_below (h.signs g (hm g hg)) hW, fun g hg => h.low g (hm g hg)⟩
          have HE : Hid ((Hf.nth l k).sv = .slice (some ⟨sb, 0, none⟩) (Hf.nth l k).sg.length sc) := es
          have HW1 : Hid (w.heap.size < W1.heap.size) := HX1.out.lt
          rw [es] at a1
          clear hh es h
          generalize (Hf.nth l k).sg.length = xn at *
          generalize hnk : Hf.nth l k = x at *
          have HNK : Hid (Hf.nth l k = x) := hnk
          clear hnk
          have HOW : Hid (wr.ownsRow W1.heap.size 99 2 u7 (Hf.rest l k l.length).length (rowB (Hf.rest l k l.length))) := hown
          have HBF : Hid (Below w.heap.size w wr) := hB
          clear hown hB hbel
          have ex : ∃ oa om oc, u7 = .slice oa om oc := by
            rcases HOW.out.2 with ⟨rfl, _⟩ | ⟨_, _, _, rfl, _⟩
            · exact ⟨_, _, _, rfl⟩
            · exact ⟨_, _, _, rfl⟩
          obtain ⟨oa, om, oc, rfl⟩ := ex
          go_wp2_with fail
          have hk2 : Kept (fun q => q ≠ w.heap.size) wr ((wr.setCell ⟨w.heap.size, 0, none⟩ (.int .i64 x.wt)).setCell ⟨w.heap.size, 1, none⟩ (.slice (some ⟨sb, 0, none⟩) xn sc)) := ((Kept.refl _ wr).setCell (by simp) _).setCell (by simp) _
          refine bodyPost_ret (v := .tuple #[.agg #[.int .i64 x.wt, .slice (some ⟨sb, 0, none⟩) xn sc], .slice oa om oc]) ?_ rfl ⟨.slice oa om oc, by rw [HKK.out, HNK.out, HE.out], by rw [HKK.out]; exact HF.out _ _ ((HBF.out.setCell (Nat.le_refl _) _).setCell (Nat.le_refl _) _) (own_kept' HOW.out hk2 fun q hq => by have := HW1.out; omega), fun b hb => by have := (HOW.out.lt b hb).1; have := HW1.out; omega, ?_⟩
          · simp [results, asAddr, go_sem, d0, d1]
          · exact (HBF.out.setCell (Nat.le_refl _) _).setCell (Nat.le_refl _) _
end Go.Proofs.Ytgdkfaphbbdnbaa

namespace Go.Proofs.Ytgdkfaphbbdnbaa
open Go.RowKit

namespace Hf
/-- the right numbers at a list's beginning, and what stands behind them -/
theorem front2 (l : List Int) (most : Nat) : ∃ L : List Nat, L.length ≤ l.length ∧ (∀ j (_ : j < L.length) (hj' : j < l.length), l[j] = ((L.getD j 0 : Nat) : Int)) ∧ (∀ n ∈ L, n ≤ most) ∧ ∀ hj : L.length < l.length, l[L.length] < 0 ∨ (most : Int) < l[L.length] := by
  induction l with
  | nil => exact ⟨[], Nat.le_refl _, fun j hj => by simp at hj, fun n hn => by simp at hn, fun hj => by simp at hj⟩
  | cons x l ih =>
    obtain ⟨L, h1, h2, h3, h4⟩ := ih
    by_cases hx : x < 0 ∨ (most : Int) < x
    · exact ⟨[], Nat.zero_le _, fun j hj => by simp at hj, fun n hn => by simp at hn, fun _ => hx⟩
    · refine ⟨x.toNat :: L, by simpa using h1, fun j hj hj' => ?_, fun n hn => ?_, fun hj => ?_⟩
      · cases j with
        | zero => simp; omega
        | succ j => simpa using h2 j (by simpa using hj) (by simpa using hj')
      · rcases List.mem_cons.1 hn with rfl | hn
        · omega
        · exact h3 n hn
      · simpa using h4 (by simpa using hj)
/-- the signs below k that are in one of two lists -/
def both (xs ys : List Nat) (k : Nat) : List Nat := (List.range k).filter fun i => decide (i ∈ xs) || decide (i ∈ ys)
theorem both_next (xs ys : List Nat) (k : Nat) : both xs ys (k + 1) = both xs ys k ++ if k ∈ xs ∨ k ∈ ys then [k] else [] := by
  unfold both
  rw [List.range_succ, List.filter_append]
  congr 1
  by_cases h : k ∈ xs ∨ k ∈ ys
  · rw [if_pos h, List.filter_cons, if_pos (by simpa using h)]; rfl
  · rw [if_neg h, List.filter_cons, if_neg (by simpa using h)]; rfl
theorem both_length (xs ys : List Nat) (k : Nat) : (both xs ys k).length ≤ k := by
  have := List.length_filter_le (fun i => decide (i ∈ xs) || decide (i ∈ ys)) (List.range k)
  rw [List.length_range] at this
  exact this
theorem both_lt {xs ys : List Nat} {k i : Nat} (h : i ∈ both xs ys k) : i < k := List.mem_range.1 (List.mem_filter.1 h).1
theorem both_nodup (xs ys : List Nat) (k : Nat) : (both xs ys k).Nodup := List.nodup_range.filter _
theorem both_perm {xs ys : List Nat} {n : Nat} (hn : (xs ++ ys).Nodup) (hl : ∀ i ∈ xs ++ ys, i < n) : (both xs ys n).Perm (xs ++ ys) := by
  refine (List.perm_ext_iff_of_nodup (both_nodup _ _ _) hn).2 fun i => ?_
  unfold both
  rw [List.mem_filter, List.mem_range, List.mem_append]
  constructor
  · rintro ⟨_, h⟩
    simpa using h
  · intro h
    exact ⟨hl i (List.mem_append.2 h), by simpa using h⟩
theorem both_low {xs ys : List Nat} {n a b : Nat} (hp : (both xs ys n).Perm (xs ++ ys)) (ha : a ∈ xs) (hb : b ∈ ys) (ha2 : ∀ i ∈ xs, a ≤ i) (hb2 : ∀ i ∈ ys, b ≤ i) : (both xs ys n).getD 0 0 = min a b ∧ (∀ i ∈ both xs ys n, min a b ≤ i) ∧ 1 ≤ (both xs ys n).length := by
  have h1 : ∀ i ∈ both xs ys n, min a b ≤ i := fun i hi => by
    rcases List.mem_append.1 (hp.mem_iff.1 hi) with h | h
    · have := ha2 i h; omega
    · have := hb2 i h; omega
  have h2 : min a b ∈ both xs ys n := by
    rw [hp.mem_iff, List.mem_append]
    rcases Nat.le_total a b with e | e
    · rw [Nat.min_eq_left e]; exact .inl ha
    · rw [Nat.min_eq_right e]; exact .inr hb
  have hs : (both xs ys n).Pairwise (· < ·) := List.pairwise_lt_range.filter _
  refine ⟨?_, h1, List.length_pos_of_mem h2⟩
  cases e : both xs ys n with
  | nil => rw [e] at h2; simp at h2
  | cons x r =>
    rw [e] at h1 h2 hs
    have h3 := h1 x List.mem_cons_self
    have h4 : x ≤ min a b := by
      rcases List.mem_cons.1 h2 with h | h
      · omega
      · have := (List.pairwise_cons.1 hs).1 _ h; omega
    show x = _
    omega
theorem bump_bound {out s : List Nat} (hn : s.Nodup) (hs : ∀ i ∈ s, i < out.length) (h : ∀ i, out.getD i 0 ≤ 256) (i : Nat) : (bump out s).getD i 0 ≤ 257 := by
  rw [bump_get hn hs]
  have := h i
  split <;> omega
end Hf
theorem Bun.kept {p : Nat → Prop} {W W' : World} {base : Nat} {v : Value} {l : List Hf.G} (h : Bun W base v l) (hk : Kept p W W') (hv : ∀ b, v.ownBlock = some b → p b) (hs : ∀ g ∈ l, ∀ b, g.sv.ownBlock = some b → p b) : Bun W' base v l := by
  have key : ∀ {e : TypeId} {k : Nat} {u : Value} {n : Nat} {xs : List Value}, W.ownsRow base e k u n xs → (∀ b, u.ownBlock = some b → p b) → W'.ownsRow base e k u n xs := by
    intro e k u n xs hr hp
    obtain ⟨h1, h2⟩ := hr
    refine ⟨h1, ?_⟩
    rcases h2 with h2 | ⟨g, cap, cur, hv, hg, hh, r⟩
    · exact .inl h2
    · refine .inr ⟨g, cap, cur, hv, hg, ?_, r⟩
      rw [hk.block g (Array.getElem?_eq_some_iff.1 hh).1 (hp g (by rw [hv]; rfl)), hh]
  exact ⟨key h.row hv, fun g hg => key (h.signs g hg) (hs g hg), h.low⟩
theorem own_lt {base : Nat} {e : TypeId} {k : Nat} {v : Value} {n : Nat} {xs : List Value} {w : World} (h : w.ownsRow base e k v n xs) {g : Nat} (hg : v.ownBlock = some g) : base ≤ g ∧ g < w.heap.size := h.lt g hg
theorem own_kept2 {p : Nat → Prop} {base : Nat} {e : TypeId} {k : Nat} {v : Value} {n : Nat} {xs : List Value} {w w' : World} (h : w.ownsRow base e k v n xs) (hk : Kept p w w') (hp : ∀ g, v.ownBlock = some g → p g) : w'.ownsRow base e k v n xs := by
  obtain ⟨h1, h2⟩ := h
  refine ⟨h1, ?_⟩
  rcases h2 with h2 | ⟨g, cap, cur, hv, hg, hh, r⟩
  · exact .inl h2
  · refine .inr ⟨g, cap, cur, hv, hg, ?_, r⟩
    rw [hk.block g (Array.getElem?_eq_some_iff.1 hh).1 (hp g (by rw [hv]; rfl)), hh]
theorem BBox.store {W : World} {G : Nat} {x : Hf.G} (h : BBox W G x) (y : Hf.G) : BBox ((W.setCell ⟨G, 0, none⟩ (.int .i64 y.wt)).setCell ⟨G, 1, none⟩ y.sv) G y := by
  refine ⟨?_, ?_, by simpa using h.f0, by simpa using h.f1, by simpa using h.lt⟩
  · rw [World.cell?_setCell_other _ _ _ _ (by simp)]
    exact World.cell?_setCell_same _ _ _ h.c0
  · refine World.cell?_setCell_same _ _ _ (u := x.sv) ?_
    rw [World.cell?_setCell_other _ _ _ _ (by simp)]
    exact h.c1
theorem BBox.store1 {W : World} {G : Nat} {x : Hf.G} (h : BBox W G x) (u : Value) (s : List Nat) (lo : Nat) : BBox (W.setCell ⟨G, 1, none⟩ u) G ⟨x.wt, lo, s, u⟩ :=
  ⟨by rw [World.cell?_setCell_other _ _ _ _ (by simp)]; exact h.c0, World.cell?_setCell_same _ _ _ h.c1, by simpa using h.f0, by simpa using h.f1, by simpa using h.lt⟩
theorem Kept.setNew' {p : Nat → Prop} {A B : World} (h : Kept p A B) {a : Addr} (ha : A.heap.size ≤ a.block) (v : Value) : Kept p A (B.setCell a v) :=
  ⟨h.os, h.tape, h.output, by simpa using h.size, fun k hk hp => (Below.heap_setCell _ _ _ _ (by omega)).trans (h.block k hk hp)⟩
theorem Kept.grownNew {p : Nat → Prop} {A B C : World} {row : Option Nat} (h : Kept p A B) (hg : B.grownBy C row) (hr : ∀ k, row = some k → A.heap.size ≤ k) : Kept p A C :=
  ⟨hg.os.trans h.os, hg.tape.trans h.tape, hg.output.trans h.output, Nat.le_trans h.size hg.size, fun k hk hp => (hg.block k (Nat.lt_of_lt_of_le hk h.size) (fun e => by have := hr k e.symm; omega)).trans (h.block k hk hp)⟩
def sliceLen : Value → Nat
  | .slice _ n _ => n
  | _ => 0
theorem Bun.len {W : World} {base : Nat} {v : Value} {l : List Hf.G} (h : Bun W base v l) : sliceLen v = l.length := by
  rcases h.row.2 with ⟨rfl, h0⟩ | ⟨g, cap, cur, rfl, _⟩
  · rw [h0]; rfl
  · rfl
theorem Bun.form {W : World} {base : Nat} {v : Value} {l : List Hf.G} (h : Bun W base v l) : ∃ a c, v = .slice a l.length c := by
  rcases h.row.2 with ⟨rfl, h0⟩ | ⟨g, cap, cur, rfl, _⟩
  · rw [h0]; exact ⟨_, _, rfl⟩
  · exact ⟨_, _, rfl⟩
/-- bunches, the numbers that they have made so far, and the row that these lie in -/
structure Rst (F : List Nat) (w wr : World) (Ob : Nat) (v : Value) (l : List Hf.G) (out : List Nat) : Prop where
  bun : Bun wr w.heap.size v l
  inv : Hf.Inv F (l.map Hf.ab) out
  row : wr.ownsRow w.heap.size 3 1 (.slice (some ⟨Ob, 0, none⟩) F.length F.length) F.length ((Hf.up out).map Iv)
  apart : ∀ g ∈ l, g.sv.ownBlock ≠ some Ob
  least : ∀ g ∈ l, ∀ i ∈ g.sg, g.low ≤ i
  bel : Below w.heap.size w wr
/-- one more bunch of one sign -/
theorem Bun.more {wr w1 : World} {v v1 : Value} {bl : List Hf.G} {g : Hf.G} {o1 o2 : Obj} {base : Nat} (h : Bun wr base v bl) (hown : w1.ownsRow base 99 2 v1 (bl.length + 1) (rowB bl ++ bC g)) (hs : w1.ownsRow base 3 1 g.sv g.sg.length ((Hf.up g.sg).map Iv)) (hl : 1 ≤ g.sg.length ∧ g.sg.getD 0 0 = g.low)
    (hg : ((wr.alloc o1).alloc o2).grownBy w1 v.ownBlock) : Bun w1 base v1 (bl ++ [g]) := by
  refine ⟨by rw [rowB_more, List.length_append]; exact hown, fun y hy => ?_, fun y hy => ?_⟩
  · rcases List.mem_append.1 hy with hy | hy
    · have hr := h.signs y hy
      have hr2 := (hr.alloc o1).alloc o2
      refine own_kept2 hr2 (p := fun k => v.ownBlock ≠ some k) ⟨hg.os, hg.tape, hg.output, hg.size, fun k hk hp => hg.block k hk fun e => hp e.symm⟩ fun b hb e => ?_
      have t1 := hr.2
      have t2 := h.row.2
      rcases t1 with ⟨e1, _⟩ | ⟨b1, c1, u1, e1, _, q1, _⟩
      · rw [e1] at hb; simp [Value.ownBlock] at hb
      · rcases t2 with ⟨e2, _⟩ | ⟨b2, c2, u2, e2, _, q2, _⟩
        · rw [e2] at e; simp [Value.ownBlock] at e
        · rw [e1] at hb; rw [e2] at e
          simp [Value.ownBlock] at hb e
          subst hb
          subst e
          rw [q1] at q2
          simp at q2
    · rw [List.mem_singleton.1 hy]; exact hs
  · rcases List.mem_append.1 hy with hy | hy
    · exact h.low y hy
    · rw [List.mem_singleton.1 hy]; exact hl
end Go.Proofs.Ytgdkfaphbbdnbaa

namespace Go.Proofs.Ytgdkfaphbbdnbaa
open Go.RowKit
set_option maxRecDepth 4000

theorem Hf.up_set' (l : List Nat) (i x : Nat) : Hf.up (l.set i x) = (Hf.up l).set i (x : Int) := by
  unfold Hf.up
  rw [List.map_set]
theorem Hf.up_zero' (n : Nat) : Hf.up (List.replicate n 0) = List.replicate n 0 := by simp [Hf.up]
theorem Hf.nlt_of' {c a : Hf.G} (h : Hf.ltG c a = false) : Hf.nlt (Hf.ab c) (Hf.ab a) := by
  rw [Hf.ltG_not] at h
  unfold Hf.nlt Hf.ab
  dsimp only
  omega
/-- one more bunch, whose signs lie in a row already -/
theorem Bun.more1 {wr w1 : World} {v v1 : Value} {bl : List Hf.G} {g : Hf.G} {o1 : Obj} {base : Nat} (h : Bun wr base v bl) (hown : w1.ownsRow base 99 2 v1 (bl.length + 1) (rowB bl ++ bC g)) (hs : wr.ownsRow base 3 1 g.sv g.sg.length ((Hf.up g.sg).map Iv)) (hl : 1 ≤ g.sg.length ∧ g.sg.getD 0 0 = g.low)
    (hg : (wr.alloc o1).grownBy w1 v.ownBlock) : Bun w1 base v1 (bl ++ [g]) := by
  have key : ∀ y : Hf.G, wr.ownsRow base 3 1 y.sv y.sg.length ((Hf.up y.sg).map Iv) → w1.ownsRow base 3 1 y.sv y.sg.length ((Hf.up y.sg).map Iv) := fun y hr => by
    refine own_kept2 (hr.alloc o1) (p := fun k => v.ownBlock ≠ some k) ⟨hg.os, hg.tape, hg.output, hg.size, fun k hk hp => hg.block k hk fun e => hp e.symm⟩ fun b hb e => ?_
    rcases hr.2 with ⟨e1, _⟩ | ⟨b1, c1, u1, e1, _, q1, _⟩
    · rw [e1] at hb; simp [Value.ownBlock] at hb
    · rcases h.row.2 with ⟨e2, _⟩ | ⟨b2, c2, u2, e2, _, q2, _⟩
      · rw [e2] at e; simp [Value.ownBlock] at e
      · rw [e1] at hb; rw [e2] at e
        simp [Value.ownBlock] at hb e
        subst hb
        subst e
        rw [q1] at q2
        simp at q2
  refine ⟨by rw [rowB_more, List.length_append]; exact hown, fun y hy => ?_, fun y hy => ?_⟩
  · rcases List.mem_append.1 hy with hy | hy
    · exact key y (h.signs y hy)
    · rw [List.mem_singleton.1 hy]; exact key g hs
  · rcases List.mem_append.1 hy with hy | hy
    · exact h.low y hy
    · rw [List.mem_singleton.1 hy]; exact hl
set_option maxHeartbeats 8000000 in
theorem rlen_any (v : Value) (F : List Nat) (w : World) (h : Ints w v (Hf.up F)) (h1 : 1 ≤ F.length) (h2 : F.length ≤ 256) (h3 : ∀ n ∈ F, n ≤ 1048576) :
    Calls Try.prog 34 #[v] w fun e w' => ∃ v' out, e = .returned (.tuple #[v', .int .i64 0]) ∧ Hf.HL F out ∧ w'.ownsRow w.heap.size 3 1 v' F.length ((Hf.up out).map Iv) ∧ Below w.heap.size w w' := by
  obtain ⟨i0, hi, hz0, hz1, hz2⟩ := info_parts info_bunch
  obtain ⟨j0, hj, hy0, hy1, hy2⟩ := info_parts info_int
  obtain ⟨a, c, rfl⟩ := h.slice
  rw [Hf.up_length] at h ⊢
  have HST : Hid (Hf.Inv F (Hf.init F F.length) (List.replicate F.length 0)) := Hf.Inv.start h2 h3
  have H3 : Hid (∀ n ∈ F, n ≤ 1048576) := h3
  have hne : ((F.length : Int) == 0) = false := by simp; rintro rfl; simp at h1
  clear h3
  go_enter Try.func34, Try.ntmps34
  go_wp2_with fail
  go_loopw [4, 22] (fun x y wr => ∃ (k : Nat) (bl : List Hf.G), k ≤ F.length ∧ y = .int .i64 k ∧ Hid (Bun wr w.heap.size x bl) ∧ Hid (bl.map Hf.ab = Hf.init F k) ∧ Hid (Below w.heap.size w wr)) (fun _ y _ => F.length - (intOf y).toNat)
  case atStart => exact ⟨0, [], by omega, rfl, ⟨World.ownsRow_nil _ _ _ _, fun g hg => by simp at hg, fun g hg => by simp at hg⟩, rfl, Below.refl _ _⟩
  case round =>
    obtain ⟨k, bl, hk, rfl, hbun, hab, hbel⟩ := hrel
    have hsz := hbel.out.size
    have hbl : bl.length ≤ k := by
      have e1 := congrArg List.length hab.out
      rw [List.length_map] at e1
      have := Hf.init_length F k
      omega
    by_cases hlt : k < F.length
    · obtain ⟨bk, o, rfl, hbk, c0⟩ := (h.below (Nat.le_refl _) hbel.out).getN k hlt
      have hn := Hf.getD_le H3.out k
      have HN : Hid (_) := Hf.init_succ F k
      generalize F.getD k 0 = n at *
      by_cases hn0 : 0 < n
      · have hown := hbun.out.row
        go_wp2_with (at_builtin; refine wpList_append_own _ rfl (.tmp 35) (.tmp 40) 97 rfl w.heap.size 99 i0 (.agg #[.int .i64 0, .slice none 0 0]) 2 32 Try.underlying97 hi hz0 hz1 hz2 rfl (by decide) _ _ _ rfl ((hown.alloc _).alloc _) ⟨wr.heap.size + 1, 0, none⟩ 1 1 (bC ⟨n, k, [k], .slice (some ⟨wr.heap.size, 0, none⟩) 1 1⟩) rfl rfl (two_at (by simp) (by simp)) (by simp [bC, Value.oneCell']) (by unfold maxLen; omega) (by omega) (by simp; omega) ?_; intro v1 w3 hown3 hgrow _)
        have HB3 : Hid (Below w.heap.size w w3) := ((hbel.out.alloc hsz _).alloc (by simp; omega) _).grown hgrow (by simp; omega) fun j hj => (hown.lt j hj).1
        have HBUN : Hid (Bun w3 w.heap.size v1 (bl ++ [⟨n, k, [k], .slice (some ⟨wr.heap.size, 0, none⟩) 1 1⟩])) := by
          refine hbun.out.more hown3 ?_ ⟨by simp, by simp⟩ hgrow
          have hs : (wr.alloc (.cells #[.int .i64 (k : Int)] 3)).ownsRow w.heap.size 3 1 (.slice (some ⟨wr.heap.size, 0, none⟩) 1 1) 1 [.int .i64 (k : Int)] := World.ownsRow_lit wr #[.int .i64 (k : Int)] 1 hsz (by unfold maxLen; omega) rfl
          refine own_kept2 (hs.alloc _) (p := fun q => u4.ownBlock ≠ some q) ⟨hgrow.os, hgrow.tape, hgrow.output, hgrow.size, fun q hq hp => hgrow.block q hq fun e => hp e.symm⟩ fun q hq e => ?_
          have := (hown.lt q e).2
          simp [Value.ownBlock] at hq
          omega
        have HAB : Hid ((bl ++ [(⟨n, k, [k], .slice (some ⟨wr.heap.size, 0, none⟩) 1 1⟩ : Hf.G)]).map Hf.ab = Hf.init F (k + 1)) := by
          show _ = _
          rw [List.map_append, hab.out, HN.out, if_pos hn0]
          rfl
        clear hown3 hgrow hown hbel c0 hbun hab HN
        go_wp2_with fail
        go_roundw
        case rel => exact ⟨k + 1, _, by omega, by go_num, HBUN, HAB, HB3⟩
        case measure => simp only [intOf]; omega
      · have HAB : Hid (bl.map Hf.ab = Hf.init F (k + 1)) := by
          show _ = _
          rw [hab.out, HN.out, if_neg hn0, List.append_nil]
        clear HN
        go_wp2_with fail
        go_roundw
        case rel => exact ⟨k + 1, bl, by omega, by go_num, hbun, HAB, hbel⟩
        case measure => simp only [intOf]; omega
    · obtain rfl : k = F.length := by omega
      obtain ⟨av, cv, rfl⟩ := hbun.out.form
      obtain ⟨N0, hN0⟩ : ∃ N0, bl.length = N0 := ⟨_, rfl⟩
      rw [hN0] at hbun
      rw [hN0]
      have HN : Hid (bl.length = N0) := hN0
      rw [hN0] at hbl
      clear hN0
      by_cases hone : N0 = 1
      · subst hone
        obtain ⟨x, rfl⟩ := List.length_eq_one_iff.1 HN.out
        have HI : Hid (Hf.init F F.length = [Hf.ab x]) := hab.out.symm
        obtain ⟨b, cb, hv⟩ := hbun.out.slice (by simp)
        obtain ⟨rfl, rfl⟩ : av = some ⟨b, 0, none⟩ ∧ cv = cb := by simpa using hv
        obtain ⟨_, a1, hb⟩ := hbun.out.at_ rfl 0 (by simp)
        have hn0 : Hf.nth [x] 0 = x := rfl
        rw [hn0] at a1
        obtain ⟨sb, sc, es, hsb, s0⟩ := hbun.out.sign (List.mem_singleton.2 rfl)
        have hsl := (hbun.out.low x (List.mem_singleton.2 rfl)).1
        have hxl : x.low < F.length := by
          obtain ⟨j, hj', _, e⟩ := Hf.init_mem (show Hf.ab x ∈ Hf.init F F.length by rw [HI.out]; exact List.mem_singleton.2 rfl)
          have e2 : x.low = j := congrArg (·.2.1) e
          omega
        have HHL : Hid (Hf.HL F ((List.replicate F.length 0).set x.low 1)) := by
          refine ⟨by simp, fun e => by rw [HI.out] at e; simp at e, fun y e => ?_, fun e => by rw [HI.out] at e; simp at e⟩
          rw [HI.out] at e
          have : y = Hf.ab x := by simpa using e.symm
          rw [this]
          rfl
        rw [es] at a1
        simp only [Nat.zero_mul, Nat.zero_add] at a1
        have HQ : Hid (∀ w1, w1.ownsRow wr.heap.size 3 1 (.slice (some ⟨wr.heap.size, 0, none⟩) F.length F.length) F.length (madeCells (Value.int .i64 0).cells (F.length * 1)).toList → wr.grownBy w1 none →
            w1.cell? ⟨b, 1, none⟩ = some (.slice (some ⟨sb, 0, none⟩) x.sg.length sc) ∧ w1.cell? ⟨sb, 0, none⟩ = some (.int .i64 (x.low : Int)) ∧ w1.cell? ⟨wr.heap.size, x.low, none⟩ = some (.int .i64 0) ∧ w1.frozen? ⟨wr.heap.size, x.low, none⟩ = false ∧
            (w1.setCell ⟨wr.heap.size, x.low, none⟩ (.int .i64 1)).ownsRow w.heap.size 3 1 (.slice (some ⟨wr.heap.size, 0, none⟩) F.length F.length) F.length ((Hf.up ((List.replicate F.length 0).set x.low 1)).map Iv) ∧ Below w.heap.size w (w1.setCell ⟨wr.heap.size, x.low, none⟩ (.int .i64 1))) := by
          intro w1 hown hgrow
          have hown1 := made_zeros hown
          have hB1 : Below wr.heap.size wr w1 := (Below.refl _ _).grown hgrow (Nat.le_refl _) (fun k hk => by cases hk)
          refine ⟨(hB1.cell (p := ⟨b, 1, none⟩) hb).trans a1, (hB1.cell (p := ⟨sb, 0, none⟩) hsb).trans s0, ?_, hown1.frozenAt _, ?_, ?_⟩
          · rw [own_at hown1 x.low (by simpa using hxl)]; simp
          · rw [Hf.up_set', Hf.up_zero']; exact row_lower (own_store hown1 x.low 1) hsz
          · exact (hbel.out.trans (hB1.mono hsz)).setCell hsz _
        generalize x.sg.length = xn at *
        generalize x.low = xl at *
        have hsl' : (0 : Int) < (xn : Int) := by omega
        clear hbun hab hbel a1 s0 es HST hn0 hv
        go_wp2_with (at_make; refine wpList_make_full _ rfl (.tmp 44) (.tmp 44) 31 rfl wr.heap.size 3 j0 (.int .i64 0) 1 Try.underlying31 hj hy0 hy1 .i64 .i64 _ _ F.length rfl rfl rfl rfl (by rw [hy2]; omega) (by unfold maxLen; omega) (Nat.le_refl _) ?_; intro w1 hown hgrow; obtain ⟨e0, e1, e2, e3, e4, e5⟩ := HQ.out w1 hown hgrow; clear hown hgrow)
        have HO : Hid ((w1.setCell ⟨wr.heap.size, xl, none⟩ (.int .i64 1)).ownsRow w.heap.size 3 1 (.slice (some ⟨wr.heap.size, 0, none⟩) F.length F.length) F.length ((Hf.up ((List.replicate F.length 0).set xl 1)).map Iv)) := e4
        have HB : Hid (Below w.heap.size w (w1.setCell ⟨wr.heap.size, xl, none⟩ (.int .i64 1))) := e5
        clear e4 e5
        generalize w1.setCell ⟨wr.heap.size, xl, none⟩ (.int .i64 1) = w2 at *
        go_loopw [4] (fun x wq => x = .slice (some ⟨b, 0, none⟩) 1 cv ∧ wq = w2) (fun _ _ => 0)
        case atStart => exact ⟨rfl, rfl⟩
        case round =>
          obtain ⟨rfl, rfl⟩ := hrel
          go_wp2_with fail
          go_ret2
          exact ⟨_, _, rfl, HHL.out, HO.out, HB.out⟩
      have hne1 : ((N0 : Int) == 1) = false := by simp; omega
      go_wp2_with (at_make; refine wpList_make_full _ rfl (.tmp 44) (.tmp 44) 31 rfl wr.heap.size 3 j0 (.int .i64 0) 1 Try.underlying31 hj hy0 hy1 .i64 .i64 _ _ F.length rfl rfl rfl rfl (by rw [hy2]; omega) (by unfold maxLen; omega) (Nat.le_refl _) ?_; intro w1 hown hgrow)
      have hown1 := made_zeros hown
      rw [← Hf.up_zero'] at hown1
      have hB1 : Below wr.heap.size wr w1 := (Below.refl _ _).grown hgrow (Nat.le_refl _) (fun k hk => by cases hk)
      have hbun1 := hbun.out.keep hB1
      have HR : Hid (Rst F w w1 wr.heap.size (.slice av N0 cv) bl (List.replicate F.length 0)) := by
        refine ⟨hbun1, HST.out.perm (by rw [hab.out]), row_lower hown1 hsz, fun g hg e => ?_, fun g hg i hi => ?_, hbel.out.trans (hB1.mono hsz)⟩
        · have := (own_lt (hbun.out.signs g hg) e).2
          omega
        · have hm : Hf.ab g ∈ Hf.init F F.length := by rw [← hab.out]; exact List.mem_map_of_mem hg
          obtain ⟨j, _, _, e⟩ := Hf.init_mem hm
          have e1 : g.sg = [j] := congrArg (·.2.2) e
          have e2 : g.low = j := congrArg (·.2.1) e
          rw [e1] at hi
          rw [e2, List.mem_singleton.1 hi]
          exact Nat.le_refl _
      have HN0 : Hid (N0 = (Hf.init F F.length).length) := by rw [← HN.out, ← hab.out, List.length_map]; rfl
      have HN1 : Hid (N0 ≠ 1) := hone
      have HST2 : Hid (∃ l out, Rst F w w1 wr.heap.size (.slice av N0 cv) l out ∧ (N0 = 0 → out = List.replicate F.length 0 ∧ l.length = 0) ∧ (N0 ≠ 0 → 1 ≤ l.length)) := ⟨bl, _, HR.out, fun e => ⟨rfl, by rw [HN.out]; exact e⟩, fun h => by rw [HN.out]; omega⟩
      clear hown hgrow hown1 hB1 hbun1 hbun hab hbel HR HST HN hone
      generalize hOb : wr.heap.size = Ob at *
      clear hOb
      go_wp2_with fail
      clear hne1
      go_loopw [4] (fun x wq => Hid (∃ l out, Rst F w wq Ob x l out ∧ (N0 = 0 → out = List.replicate F.length 0 ∧ l.length = 0) ∧ (N0 ≠ 0 → 1 ≤ l.length))) (fun x _ => sliceLen x)
      case atStart => exact HST2
      case round =>
        obtain ⟨l, out, hS, hz, hnz⟩ := hrel.out
        have hll : l.length ≤ 256 := by have := hS.inv.few 0; rw [List.length_map] at this; omega
        obtain ⟨av, cv, rfl⟩ := hS.bun.form
        have HS : Hid (Rst F w wr Ob (.slice av l.length cv) l out) := hS
        have HZ : Hid (N0 = 0 → out = List.replicate F.length 0 ∧ l.length = 0) := hz
        have HNZ : Hid (N0 ≠ 0 → 1 ≤ l.length) := hnz
        clear hS hz hnz hrel
        by_cases hlt : 1 < l.length
        · have hsz := HS.out.bel.size
          obtain ⟨W1, hW1⟩ : ∃ W1, W1 = (wr.alloc (.cells #[.int .i64 0, .slice none 0 0] 99)).alloc (.cells #[.int .i64 0, .slice none 0 0] 99) := ⟨_, rfl⟩
          have hb1 : Below wr.heap.size wr W1 := by rw [hW1]; exact ((Below.refl _ _).alloc (Nat.le_refl _) _).alloc (by simp) _
          have A1 : BBox W1 wr.heap.size Hf.G.z := by rw [hW1]; exact (BBox.new wr Hf.G.z).below ((Below.refl _ _).alloc (Nat.le_refl _) _) (by simp)
          have B1 : BBox W1 (wr.heap.size + 1) Hf.G.z := by
            rw [hW1]
            have := BBox.new (wr.alloc (.cells #[.int .i64 0, .slice none 0 0] 99)) Hf.G.z
            rw [World.size_alloc] at this
            exact this
          have hbun1 := HS.out.bun.keep hb1
          have hle := least_any w.heap.size _ l W1 hbun1 (by have := hb1.size; omega) (by omega) hll
          have hka := Hf.amin_lt l l.length (by omega)
          have HPX : Hid (_) := Hf.rest_perm l _ hka
          have HFX : Hid (_) := Hf.amin_mem l
          obtain ⟨sb, sc, es, _, _⟩ := hbun1.sign (Hf.nth_mem hka)
          have HXL : Hid (∀ g ∈ l, ∀ b, g.sv.ownBlock = some b → b < wr.heap.size ∧ b ≠ Ob) := fun g hg b hb => ⟨(own_lt (HS.out.bun.signs g hg) hb).2, fun e => HS.out.apart g hg (by rw [← e]; exact hb)⟩
          rw [es] at hle
          obtain ⟨x, hx⟩ : ∃ x, Hf.nth l (Hf.amin l l.length) = x := ⟨_, rfl⟩
          rw [hx] at hle HPX HFX es
          obtain ⟨R, hR⟩ : ∃ R, Hf.rest l (Hf.amin l l.length) l.length = R := ⟨_, rfl⟩
          rw [hR] at hle HPX
          have HES : Hid (x.sv = .slice (some ⟨sb, 0, none⟩) x.sg.length sc) := es
          have HLR : Hid (l.length = R.length + 1) := by have := HPX.out.length_eq; show _ = _; simpa using this
          obtain ⟨a0, a1, af0, af1, alt⟩ := A1
          have HA1 : Hid (BBox W1 wr.heap.size Hf.G.z) := ⟨a0, a1, af0, af1, alt⟩
          have HB1 : Hid (BBox W1 (wr.heap.size + 1) Hf.G.z) := B1
          have Hb1 : Hid (Below wr.heap.size wr W1) := hb1
          have HW1 : Hid (W1.heap.size = wr.heap.size + 2) := by rw [hW1]; show _ = _; simp
          clear hbun1 hka es hx hR a0 a1 af0 af1 alt B1 hb1
          rw [hW1] at hle
          generalize x.sg.length = xn at *
          go_wp2_with fail
          refine hle.mono ?_
          rw [← hW1]
          rintro e w2 ⟨v2, rfl, hbun2, hv2, hb2⟩
          clear hle hW1
          have hRl : R.length ≤ 256 := by have := HLR.out; omega
          have hw1 := HW1.out
          have A2 := HA1.out.below hb2 HA1.out.lt
          have B2 := HB1.out.below hb2 HB1.out.lt
          obtain ⟨W3, hW3⟩ : ∃ W3, W3 = (w2.setCell ⟨wr.heap.size, 0, none⟩ (.int .i64 x.wt)).setCell ⟨wr.heap.size, 1, none⟩ (.slice (some ⟨sb, 0, none⟩) xn sc) := ⟨_, rfl⟩
          have hk3 : Kept (fun q => q ≠ wr.heap.size) w2 W3 := by rw [hW3]; exact ((Kept.refl _ _).setCell (by simp) _).setCell (by simp) _
          have A3 : BBox W3 wr.heap.size ⟨x.wt, x.low, x.sg, .slice (some ⟨sb, 0, none⟩) xn sc⟩ := by rw [hW3]; exact A2.store ⟨x.wt, x.low, x.sg, .slice (some ⟨sb, 0, none⟩) xn sc⟩
          have B3 := B2.kept hk3 (by omega)
          have hRm : ∀ g ∈ R, g ∈ l := fun g hg => HPX.out.mem_iff.2 (List.mem_cons_of_mem _ hg)
          have hbun3 : Bun W3 w.heap.size v2 R := hbun2.kept hk3 (fun b hb => by have := hv2 b hb; omega) (fun g hg b hb => by have := (HXL.out g (hRm g hg) b hb).1; omega)
          have hz3 : w2.heap.size ≤ W3.heap.size := hk3.size
          have hle := least_any w.heap.size _ R W3 hbun3 (by have := hb2.size; omega) (by have := HLR.out; omega) hRl
          have hka := Hf.amin_lt R R.length (by have := HLR.out; omega)
          have HPY : Hid (_) := Hf.rest_perm R _ hka
          have HFY : Hid (_) := Hf.amin_mem R
          obtain ⟨tb, tc, et, _, _⟩ := hbun3.sign (Hf.nth_mem hka)
          rw [et] at hle
          obtain ⟨y, hy⟩ : ∃ y, Hf.nth R (Hf.amin R R.length) = y := ⟨_, rfl⟩
          rw [hy] at hle HPY HFY et
          obtain ⟨R2, hR2⟩ : ∃ R2, Hf.rest R (Hf.amin R R.length) R.length = R2 := ⟨_, rfl⟩
          rw [hR2] at hle HPY
          have HET : Hid (y.sv = .slice (some ⟨tb, 0, none⟩) y.sg.length tc) := et
          have HLR2 : Hid (R.length = R2.length + 1) := by have := HPY.out.length_eq; show _ = _; simpa using this
          have HA3 : Hid (BBox W3 wr.heap.size ⟨x.wt, x.low, x.sg, .slice (some ⟨sb, 0, none⟩) xn sc⟩) := A3
          have HB3 : Hid (BBox W3 (wr.heap.size + 1) Hf.G.z) := B3
          have HZ3 : Hid (W1.heap.size ≤ W3.heap.size ∧ Below wr.heap.size wr W3) := by
            have h12 := hb2.size
            refine ⟨by omega, (Hb1.out.trans (hb2.mono (by omega))).trans (hk3.below (by omega) fun q hq => by omega)⟩
          have HRM : Hid (∀ g ∈ R, g ∈ l) := hRm
          obtain ⟨a0, a1, af0, af1, _⟩ := A2
          rw [hW3] at hle
          generalize y.sg.length = yn at *
          clear hbun2 hv2 hb2 hk3 A3 B3 B2 hRm hbun3 hz3 hka et hy hR2 HA1 HB1 Hb1
          go_wp2_with fail
          refine hle.mono ?_
          rw [← hW3]
          rintro e w4 ⟨v4, rfl, hbun4, hv4, hb4⟩
          clear hle hW3 a0 a1 af0 af1
          have hz34 := hb4.size
          have hz13 := HZ3.out.1
          have A4 := HA3.out.below hb4 HA3.out.lt
          have B4 := HB3.out.below hb4 HB3.out.lt
          obtain ⟨W5, hW5⟩ : ∃ W5, W5 = (w4.setCell ⟨wr.heap.size + 1, 0, none⟩ (.int .i64 y.wt)).setCell ⟨wr.heap.size + 1, 1, none⟩ (.slice (some ⟨tb, 0, none⟩) yn tc) := ⟨_, rfl⟩
          have hk5 : Kept (fun q => q ≠ wr.heap.size + 1) w4 W5 := by rw [hW5]; exact ((Kept.refl _ _).setCell (by simp) _).setCell (by simp) _
          have hs5 : W5.heap.size = w4.heap.size := by rw [hW5]; simp
          have B5 : BBox W5 (wr.heap.size + 1) ⟨y.wt, y.low, y.sg, .slice (some ⟨tb, 0, none⟩) yn tc⟩ := by rw [hW5]; exact B4.store ⟨y.wt, y.low, y.sg, .slice (some ⟨tb, 0, none⟩) yn tc⟩
          have A5 := A4.kept hk5 (by omega)
          have hR2m : ∀ g ∈ R2, g ∈ l := fun g hg => HRM.out g (HPY.out.mem_iff.2 (List.mem_cons_of_mem _ hg))
          have hbun5 : Bun W5 w.heap.size v4 R2 := hbun4.kept hk5 (fun b hb => by have := hv4 b hb; omega) (fun g hg b hb => by have := (HXL.out g (hR2m g hg) b hb).1; omega)
          have hxm : x ∈ l := HPX.out.mem_iff.2 List.mem_cons_self
          have hym : y ∈ l := HRM.out y (HPY.out.mem_iff.2 List.mem_cons_self)
          have hwr5 : Below wr.heap.size wr W5 := (HZ3.out.2.trans (hb4.mono (by omega))).trans (hk5.below (by omega) fun q hq => by omega)
          have hOb : w.heap.size ≤ Ob ∧ Ob < wr.heap.size := own_lt HS.out.row rfl
          have hinv : Hf.Inv F (Hf.ab x :: Hf.ab y :: R2.map Hf.ab) out := HS.out.inv.perm ((HPX.out.map Hf.ab).trans ((HPY.out.map Hf.ab).cons _))
          have hA : ∀ c ∈ Hf.ab y :: R2.map Hf.ab, Hf.nlt c (Hf.ab x) := fun c hc => by
            have hc : c ∈ (y :: R2).map Hf.ab := hc
            obtain ⟨q, hq, rfl⟩ := List.mem_map.1 hc
            exact Hf.nlt_of' (HFX.out q (HRM.out q (HPY.out.mem_iff.2 hq)))
          have hBq : ∀ c ∈ R2.map Hf.ab, Hf.nlt c (Hf.ab y) := fun c hc => by
            obtain ⟨q, hq, rfl⟩ := List.mem_map.1 hc
            exact Hf.nlt_of' (HFY.out q (HPY.out.mem_iff.2 (List.mem_cons_of_mem _ hq)))
          have hnd : (x.sg ++ y.sg).Nodup := by
            have := hinv.st.nodup
            simp only [List.flatMap_cons] at this
            rw [← List.append_assoc, List.nodup_append] at this
            exact this.1
          have hltF : ∀ i ∈ x.sg ++ y.sg, i < F.length := fun i hi => by
            rcases List.mem_append.1 hi with h | h
            · exact hinv.st.lt (Hf.ab x) List.mem_cons_self i h
            · exact hinv.st.lt (Hf.ab y) (List.mem_cons_of_mem _ List.mem_cons_self) i h
          have hperm := Hf.both_perm hnd hltF
          have hstep := hinv.step (s := Hf.both x.sg y.sg F.length) hA hBq hperm
          have hlow := Hf.both_low hperm (hinv.st.low (Hf.ab x) List.mem_cons_self) (hinv.st.low (Hf.ab y) (List.mem_cons_of_mem _ List.mem_cons_self)) (HS.out.least x hxm) (HS.out.least y hym)
          have hsl : x.sg.length ≤ 256 ∧ y.sg.length ≤ 256 := by
            have := hinv.st.count
            simp only [List.flatMap_cons, List.length_append, Hf.ab] at this
            omega
          have hwt : x.wt + y.wt ≤ 268435456 := by
            have := hinv.st.wt
            simp only [List.map_cons, List.sum_cons, Hf.ab] at this
            omega
          obtain ⟨jw, hjw⟩ : ∃ jw, x.wt + y.wt = jw := ⟨_, rfl⟩
          have hjwi : (x.wt : Int) + (y.wt : Int) = (jw : Int) := by omega
          have hjb : jw ≤ 268435456 := by omega
          obtain ⟨W6, hW6⟩ : ∃ W6, W6 = W5.alloc (.cells #[.int .i64 jw, .slice none 0 0] 99) := ⟨_, rfl⟩
          have hb6 : Below W5.heap.size W5 W6 := by rw [hW6]; exact (Below.refl _ _).alloc (Nat.le_refl _) _
          have hs6 : W6.heap.size = w4.heap.size + 1 := by rw [hW6]; simp [hs5]
          have C6 : Hid (BBox W6 w4.heap.size ⟨jw, 0, [], .slice none 0 0⟩) := by
            rw [hW6, ← hs5]; exact BBox.new W5 ⟨jw, 0, [], .slice none 0 0⟩
          have HA6 : Hid (BBox W6 wr.heap.size ⟨x.wt, x.low, x.sg, .slice (some ⟨sb, 0, none⟩) xn sc⟩) := A5.below hb6 A5.lt
          have HB6 : Hid (BBox W6 (wr.heap.size + 1) ⟨y.wt, y.low, y.sg, .slice (some ⟨tb, 0, none⟩) yn tc⟩) := B5.below hb6 B5.lt
          have HBUN6 : Hid (Bun W6 w.heap.size v4 R2) := hbun5.keep hb6
          have hwr6 : Below wr.heap.size wr W6 := hwr5.trans (hb6.mono (by omega))
          have HWR6 : Hid (Below wr.heap.size wr W6) := hwr6
          have HXR6 : Hid (W6.ownsRow w.heap.size 3 1 x.sv x.sg.length ((Hf.up x.sg).map Iv)) := row_below (HS.out.bun.signs x hxm) hwr6
          have HYR6 : Hid (W6.ownsRow w.heap.size 3 1 y.sv y.sg.length ((Hf.up y.sg).map Iv)) := row_below (HS.out.bun.signs y hym) hwr6
          have HOUT6 : Hid (W6.ownsRow w.heap.size 3 1 (.slice (some ⟨Ob, 0, none⟩) F.length F.length) F.length ((Hf.up out).map Iv)) := row_below HS.out.row hwr6
          have HV4 : Hid (∀ b, v4.ownBlock = some b → w4.heap.size ≠ b ∧ Ob ≠ b ∧ w.heap.size ≤ b) := fun b hb => by
            have h1 := hv4 b hb
            have h2 := (own_lt hbun4.row hb).2
            exact ⟨by omega, by omega, by omega⟩
          have HSTEP : Hid (Hf.Inv F ((jw, min x.low y.low, Hf.both x.sg y.sg F.length) :: R2.map Hf.ab) (Hf.bump out (Hf.both x.sg y.sg F.length))) := by
            have : Hf.Inv F ((x.wt + y.wt, min x.low y.low, Hf.both x.sg y.sg F.length) :: R2.map Hf.ab) (Hf.bump out (Hf.both x.sg y.sg F.length)) := hstep
            rw [hjw] at this
            exact this
          have HLOW : Hid (_) := hlow
          have HOWN : Hid (out.length = F.length ∧ ∀ i, out.getD i 0 ≤ 256) := ⟨hinv.len, fun i => by have := hinv.few i; omega⟩
          have HXY : Hid (x ∈ l ∧ y ∈ l ∧ ∀ g ∈ R2, g ∈ l) := ⟨hxm, hym, hR2m⟩
          have HSL : Hid (x.sg.length ≤ 256 ∧ y.sg.length ≤ 256) := hsl
          have HSZ : Hid (W6.heap.size = w4.heap.size + 1 ∧ wr.heap.size + 1 < w4.heap.size) := ⟨hs6, by have := B4.lt; omega⟩
          have a40 := A4.c0
          have b40 := B4.c0
          have b41 := B4.c1
          have bf0 := B4.f0
          have bf1 := B4.f1
          dsimp only at a40
          have hOb1 := hOb.1
          have hOb2 := hOb.2
          have hrb : wr.heap.size + 1 < w4.heap.size := HSZ.out.2
          rw [hW5] at hW6
          clear hOb hinv hA hBq hnd hltF hperm hstep hlow hsl hwt hjw hb6 hs6 hs5 hwr6 hwr5 hbun5 hbun4 hv4 hb4 hk5 A4 B4 A5 B5 hR2m hxm hym hz34 hz13 hW5 HA3 HB3 HZ3 HRM
          go_wp2_with fail
          rw [← hW6]
          have HXB : Hid (∀ g ∈ l, ∀ b, g.sv.ownBlock = some b → b ≠ Ob ∧ b ≠ w4.heap.size) := fun g hg b hb => by
            obtain ⟨q1, q2⟩ := HXL.out g hg b hb
            exact ⟨q2, by omega⟩
          have HHF : Hid (∀ wq, Kept (fun q => q ≠ Ob ∧ q ≠ w4.heap.size) W6 wq → Ints wq (.slice (some ⟨sb, 0, none⟩) xn sc) (Hf.up x.sg) ∧ Ints wq (.slice (some ⟨tb, 0, none⟩) yn tc) (Hf.up y.sg) ∧ BBox wq wr.heap.size ⟨x.wt, x.low, x.sg, .slice (some ⟨sb, 0, none⟩) xn sc⟩ ∧ BBox wq (wr.heap.size + 1) ⟨y.wt, y.low, y.sg, .slice (some ⟨tb, 0, none⟩) yn tc⟩) := by
            intro wq hq
            have hx := own_kept2 HXR6.out hq (HXB.out x HXY.out.1)
            have hy := own_kept2 HYR6.out hq (HXB.out y HXY.out.2.1)
            rw [HES.out] at hx
            rw [HET.out] at hy
            refine ⟨Ints.of_own (by rw [Hf.up_length]; exact hx), Ints.of_own (by rw [Hf.up_length]; exact hy), HA6.out.kept hq ⟨by omega, by omega⟩, HB6.out.kept hq ⟨by omega, by omega⟩⟩
          clear hW6 a40 b40 b41 bf0 bf1 hjwi
          generalize hBa : wr.heap.size = Ba at *
          have HBA : Hid (wr.heap.size = Ba) := hBa
          clear hBa
          generalize hBo : w4.heap.size = Bo at *
          have HBO : Hid (w4.heap.size = Bo) := hBo
          clear hBo
          go_loopw [78] (fun t wq => ∃ (k : Nat) (u : Value), k ≤ F.length ∧ t = .int .i64 k ∧ wq.ownsRow W6.heap.size 3 1 u (Hf.both x.sg y.sg k).length ((Hf.up (Hf.both x.sg y.sg k)).map Iv) ∧ Hid (BBox wq Bo ⟨jw, 0, [], u⟩) ∧ wq.ownsRow w.heap.size 3 1 (.slice (some ⟨Ob, 0, none⟩) F.length F.length) F.length ((Hf.up (Hf.bump out (Hf.both x.sg y.sg k))).map Iv) ∧ Hid (Kept (fun q => q ≠ Ob ∧ q ≠ Bo) W6 wq)) (fun t _ => F.length - (intOf t).toNat)
          case atStart => exact ⟨0, .slice none 0 0, by omega, rfl, World.ownsRow_nil _ _ _ _, C6, HOUT6.out, Kept.refl _ _⟩
          case round =>
            obtain ⟨k, u, hkF, rfl, hown, hbo, hrow, hkp⟩ := hrel
            by_cases hlt3 : k < F.length
            · obtain ⟨hIx, hIy, hBa, hBb⟩ := HHF.out wr hkp.out
              have hhx := has_any _ x.sg k wr hIx HSL.out.1
              have hhy := has_any _ y.sg k wr hIy HSL.out.2
              have p1 := hBa.c1
              have p2 := hBb.c1
              dsimp only at p1 p2
              clear hIx hIy hBa hBb
              by_cases hmx : k ∈ x.sg
              · rw [decide_eq_true hmx] at hhx
                have hmem : k ∈ x.sg ∨ k ∈ y.sg := .inl hmx
                clear hhy hmx
                have HBN : Hid (Hf.both x.sg y.sg (k + 1) = Hf.both x.sg y.sg k ++ [k]) := (Hf.both_next x.sg y.sg k).trans (by rw [if_pos hmem])
                have HUN : Hid (Hf.bump out (Hf.both x.sg y.sg (k + 1)) = (Hf.bump out (Hf.both x.sg y.sg k)).set k ((Hf.bump out (Hf.both x.sg y.sg k)).getD k 0 + 1)) := by show _ = _; rw [HBN.out, Hf.bump_more]
                have hX := Hf.bump_bound (out := out) (Hf.both_nodup x.sg y.sg k) (fun i hi => by have := Hf.both_lt hi; have := HOWN.out.1; omega) HOWN.out.2 k
                have hbl := Hf.both_length x.sg y.sg k
                have hc1 := own_at hrow k (by rw [Hf.up_length, Hf.bump_length, HOWN.out.1]; exact hlt3)
                rw [Hf.up_get] at hc1
                have hfz := hrow.frozenAt k
                have HO1 : Hid ((wr.ownsRow w.heap.size 3 1 (.slice (some ⟨Ob, 0, none⟩) F.length F.length) F.length ((Hf.up (Hf.bump out (Hf.both x.sg y.sg k))).map Iv))) := hrow
                generalize (Hf.bump out (Hf.both x.sg y.sg k)).getD k 0 = X at *
                have hwq := hkp.out.size
                have HQ : Hid (∀ g9 cap9 w9, w9.ownsRow W6.heap.size 3 1 (.slice (some ⟨g9, 0, none⟩) ((Hf.both x.sg y.sg k).length + 1) cap9) ((Hf.both x.sg y.sg k).length + 1) ((Hf.up (Hf.both x.sg y.sg k)).map Iv ++ [.int .i64 (k : Int)]) → (wr.alloc (.cells #[.int .i64 (k : Int)] 3)).grownBy w9 u.ownBlock →
                    w9.cell? ⟨Bo, 1, none⟩ = some u ∧ w9.frozen? ⟨Bo, 1, none⟩ = false ∧ w9.cell? ⟨Ob, k, none⟩ = some (.int .i64 (X : Int)) ∧ w9.frozen? ⟨Ob, k, none⟩ = false ∧
                    (((w9.setCell ⟨Bo, 1, none⟩ (.slice (some ⟨g9, 0, none⟩) ((Hf.both x.sg y.sg k).length + 1) cap9)).setCell ⟨Ob, k, none⟩ (.int .i64 ((X : Int) + 1))).ownsRow W6.heap.size 3 1 (.slice (some ⟨g9, 0, none⟩) ((Hf.both x.sg y.sg k).length + 1) cap9) (Hf.both x.sg y.sg (k + 1)).length ((Hf.up (Hf.both x.sg y.sg (k + 1))).map Iv) ∧
                      BBox ((w9.setCell ⟨Bo, 1, none⟩ (.slice (some ⟨g9, 0, none⟩) ((Hf.both x.sg y.sg k).length + 1) cap9)).setCell ⟨Ob, k, none⟩ (.int .i64 ((X : Int) + 1))) Bo ⟨jw, 0, [], .slice (some ⟨g9, 0, none⟩) ((Hf.both x.sg y.sg k).length + 1) cap9⟩ ∧
                      ((w9.setCell ⟨Bo, 1, none⟩ (.slice (some ⟨g9, 0, none⟩) ((Hf.both x.sg y.sg k).length + 1) cap9)).setCell ⟨Ob, k, none⟩ (.int .i64 ((X : Int) + 1))).ownsRow w.heap.size 3 1 (.slice (some ⟨Ob, 0, none⟩) F.length F.length) F.length ((Hf.up (Hf.bump out (Hf.both x.sg y.sg (k + 1)))).map Iv) ∧
                      Kept (fun q => q ≠ Ob ∧ q ≠ Bo) W6 ((w9.setCell ⟨Bo, 1, none⟩ (.slice (some ⟨g9, 0, none⟩) ((Hf.both x.sg y.sg k).length + 1) cap9)).setCell ⟨Ob, k, none⟩ (.int .i64 ((X : Int) + 1))))) := by
                  intro g9 cap9 w9 ho9 hg9
                  have hnu : ∀ q, u.ownBlock = some q → W6.heap.size ≤ q := fun q hq => (own_lt hown hq).1
                  have hs6 := HSZ.out.1
                  have hkA : Kept (fun q => u.ownBlock ≠ some q) wr w9 := ((Kept.refl _ wr).alloc _).grown hg9 fun q hq hp => hp hq
                  have hBO := hbo.out.kept hkA (fun e => by have := hnu _ e; omega)
                  have hR9 := own_kept2 HO1.out hkA (fun q hq e => by have := hnu _ e; simp [Value.ownBlock] at hq; omega)
                  have hc9 := own_at hR9 k (by rw [Hf.up_length, Hf.bump_length, HOWN.out.1]; exact hlt3)
                  have hcE : w9.cell? ⟨Ob, k, none⟩ = some (.int .i64 (X : Int)) := by
                    have e1 := hkA.block Ob (own_lt HO1.out rfl).2 (fun e => by have := hnu _ e; omega)
                    rw [World.cell?_of_block (a := ⟨Ob, k, none⟩) e1]
                    exact hc1
                  have hk2 : Kept (fun q => q ≠ Bo) w9 (w9.setCell ⟨Bo, 1, none⟩ (.slice (some ⟨g9, 0, none⟩) ((Hf.both x.sg y.sg k).length + 1) cap9)) := (Kept.refl _ _).setCell (by simp) _
                  have hk3 : Kept (fun q => q ≠ Ob) (w9.setCell ⟨Bo, 1, none⟩ (.slice (some ⟨g9, 0, none⟩) ((Hf.both x.sg y.sg k).length + 1) cap9)) ((w9.setCell ⟨Bo, 1, none⟩ (.slice (some ⟨g9, 0, none⟩) ((Hf.both x.sg y.sg k).length + 1) cap9)).setCell ⟨Ob, k, none⟩ (.int .i64 ((X : Int) + 1))) := (Kept.refl _ _).setCell (by simp) _
                  have hg9b := (own_lt ho9 (show (Value.slice (some ⟨g9, 0, none⟩) ((Hf.both x.sg y.sg k).length + 1) cap9).ownBlock = some g9 from rfl)).1
                  refine ⟨hBO.c1, hBO.f1, hcE, hR9.frozenAt k, ?_, ?_, ?_, ?_⟩
                  · have h1 := own_kept2 (own_kept2 ho9 hk2 (fun q hq => by simp [Value.ownBlock] at hq; omega)) hk3 (fun q hq => by simp [Value.ownBlock] at hq; omega)
                    rw [HBN.out, List.length_append]
                    have e : (Hf.up (Hf.both x.sg y.sg k ++ [k])).map Iv = (Hf.up (Hf.both x.sg y.sg k)).map Iv ++ [.int .i64 (k : Int)] := by simp [Hf.up, Iv]
                    rw [e]
                    exact h1
                  · exact (hBO.store1 (.slice (some ⟨g9, 0, none⟩) ((Hf.both x.sg y.sg k).length + 1) cap9) [] 0).kept hk3 (by omega)
                  · have h1 := own_store (own_kept2 hR9 hk2 (fun q hq => by simp [Value.ownBlock] at hq; omega)) k (((X + 1 : Nat) : Int))
                    rw [← Hf.up_set', ← HUN.out] at h1
                    exact h1
                  · exact ((hkp.out.alloc _).grownNew hg9 hnu).setCell (by simp) _ |>.setCell (by simp) _
                obtain ⟨ua, un, uc, hu⟩ : ∃ a n c, u = .slice a n c := by
                  rcases hown.2 with ⟨e, _⟩ | ⟨_, _, _, e, _⟩
                  · exact ⟨_, _, _, e⟩
                  · exact ⟨_, _, _, e⟩
                subst hu
                have bo1 := hbo.out.c1
                dsimp only at bo1
                clear hrow hmem hbo
                go_wp2_with fail
                refine hhx.mono ?_
                rintro e w8 ⟨rfl, hw8⟩
                have hw8 := hw8.symm
                subst hw8
                clear hhx
                go_wp2_with (at_builtin; refine wpList_append_lies _ rfl (.tmp 92) (.tmp 94) 31 rfl W6.heap.size 3 j0 (.int .i64 0) 1 8 Try.underlying31 hj hy0 hy1 hy2 rfl (by decide) _ _ _ rfl (hown.alloc _) ⟨wr.heap.size, 0, none⟩ 1 1 [.int .i64 (k : Int)] rfl rfl (by intro j u' hj'; match j, hj' with | 0, hj' => simp at hj'; subst hj'; simp [Addr.add]) (by intro u' hu'; simp at hu'; subst hu'; rfl) (by decide) (by unfold maxLen; omega) (by omega) (by simp; omega) (wr.heap.size + 1) (by simp) ?_; intro g9 cap9 w9 hown9 hgrow9 _ hlt9; obtain ⟨e0, e1, e2, e3, e4⟩ := HQ.out _ _ _ hown9 hgrow9; clear hown9 hgrow9)
                have HFIN : Hid (_) := e4
                clear e4 e0 e1 e2 e3 hc1 hown
                go_wp2_with fail
                go_roundw
                case rel => exact ⟨k + 1, _, by omega, by go_num, HFIN.out.1, HFIN.out.2.1, HFIN.out.2.2.1, HFIN.out.2.2.2⟩
                case measure => simp only [intOf]; omega
              · rw [decide_eq_false hmx] at hhx
                by_cases hmy : k ∈ y.sg
                · rw [decide_eq_true hmy] at hhy
                  have hmem : k ∈ x.sg ∨ k ∈ y.sg := .inr hmy
                  clear hmx hmy
                  have HBN : Hid (Hf.both x.sg y.sg (k + 1) = Hf.both x.sg y.sg k ++ [k]) := (Hf.both_next x.sg y.sg k).trans (by rw [if_pos hmem])
                  have HUN : Hid (Hf.bump out (Hf.both x.sg y.sg (k + 1)) = (Hf.bump out (Hf.both x.sg y.sg k)).set k ((Hf.bump out (Hf.both x.sg y.sg k)).getD k 0 + 1)) := by show _ = _; rw [HBN.out, Hf.bump_more]
                  have hX := Hf.bump_bound (out := out) (Hf.both_nodup x.sg y.sg k) (fun i hi => by have := Hf.both_lt hi; have := HOWN.out.1; omega) HOWN.out.2 k
                  have hbl := Hf.both_length x.sg y.sg k
                  have hc1 := own_at hrow k (by rw [Hf.up_length, Hf.bump_length, HOWN.out.1]; exact hlt3)
                  rw [Hf.up_get] at hc1
                  have hfz := hrow.frozenAt k
                  have HO1 : Hid ((wr.ownsRow w.heap.size 3 1 (.slice (some ⟨Ob, 0, none⟩) F.length F.length) F.length ((Hf.up (Hf.bump out (Hf.both x.sg y.sg k))).map Iv))) := hrow
                  generalize (Hf.bump out (Hf.both x.sg y.sg k)).getD k 0 = X at *
                  have hwq := hkp.out.size
                  have HQ : Hid (∀ g9 cap9 w9, w9.ownsRow W6.heap.size 3 1 (.slice (some ⟨g9, 0, none⟩) ((Hf.both x.sg y.sg k).length + 1) cap9) ((Hf.both x.sg y.sg k).length + 1) ((Hf.up (Hf.both x.sg y.sg k)).map Iv ++ [.int .i64 (k : Int)]) → (wr.alloc (.cells #[.int .i64 (k : Int)] 3)).grownBy w9 u.ownBlock →
                      w9.cell? ⟨Bo, 1, none⟩ = some u ∧ w9.frozen? ⟨Bo, 1, none⟩ = false ∧ w9.cell? ⟨Ob, k, none⟩ = some (.int .i64 (X : Int)) ∧ w9.frozen? ⟨Ob, k, none⟩ = false ∧
                      (((w9.setCell ⟨Bo, 1, none⟩ (.slice (some ⟨g9, 0, none⟩) ((Hf.both x.sg y.sg k).length + 1) cap9)).setCell ⟨Ob, k, none⟩ (.int .i64 ((X : Int) + 1))).ownsRow W6.heap.size 3 1 (.slice (some ⟨g9, 0, none⟩) ((Hf.both x.sg y.sg k).length + 1) cap9) (Hf.both x.sg y.sg (k + 1)).length ((Hf.up (Hf.both x.sg y.sg (k + 1))).map Iv) ∧
                        BBox ((w9.setCell ⟨Bo, 1, none⟩ (.slice (some ⟨g9, 0, none⟩) ((Hf.both x.sg y.sg k).length + 1) cap9)).setCell ⟨Ob, k, none⟩ (.int .i64 ((X : Int) + 1))) Bo ⟨jw, 0, [], .slice (some ⟨g9, 0, none⟩) ((Hf.both x.sg y.sg k).length + 1) cap9⟩ ∧
                        ((w9.setCell ⟨Bo, 1, none⟩ (.slice (some ⟨g9, 0, none⟩) ((Hf.both x.sg y.sg k).length + 1) cap9)).setCell ⟨Ob, k, none⟩ (.int .i64 ((X : Int) + 1))).ownsRow w.heap.size 3 1 (.slice (some ⟨Ob, 0, none⟩) F.length F.length) F.length ((Hf.up (Hf.bump out (Hf.both x.sg y.sg (k + 1)))).map Iv) ∧
                        Kept (fun q => q ≠ Ob ∧ q ≠ Bo) W6 ((w9.setCell ⟨Bo, 1, none⟩ (.slice (some ⟨g9, 0, none⟩) ((Hf.both x.sg y.sg k).length + 1) cap9)).setCell ⟨Ob, k, none⟩ (.int .i64 ((X : Int) + 1))))) := by
                    intro g9 cap9 w9 ho9 hg9
                    have hnu : ∀ q, u.ownBlock = some q → W6.heap.size ≤ q := fun q hq => (own_lt hown hq).1
                    have hs6 := HSZ.out.1
                    have hkA : Kept (fun q => u.ownBlock ≠ some q) wr w9 := ((Kept.refl _ wr).alloc _).grown hg9 fun q hq hp => hp hq
                    have hBO := hbo.out.kept hkA (fun e => by have := hnu _ e; omega)
                    have hR9 := own_kept2 HO1.out hkA (fun q hq e => by have := hnu _ e; simp [Value.ownBlock] at hq; omega)
                    have hc9 := own_at hR9 k (by rw [Hf.up_length, Hf.bump_length, HOWN.out.1]; exact hlt3)
                    have hcE : w9.cell? ⟨Ob, k, none⟩ = some (.int .i64 (X : Int)) := by
                      have e1 := hkA.block Ob (own_lt HO1.out rfl).2 (fun e => by have := hnu _ e; omega)
                      rw [World.cell?_of_block (a := ⟨Ob, k, none⟩) e1]
                      exact hc1
                    have hk2 : Kept (fun q => q ≠ Bo) w9 (w9.setCell ⟨Bo, 1, none⟩ (.slice (some ⟨g9, 0, none⟩) ((Hf.both x.sg y.sg k).length + 1) cap9)) := (Kept.refl _ _).setCell (by simp) _
                    have hk3 : Kept (fun q => q ≠ Ob) (w9.setCell ⟨Bo, 1, none⟩ (.slice (some ⟨g9, 0, none⟩) ((Hf.both x.sg y.sg k).length + 1) cap9)) ((w9.setCell ⟨Bo, 1, none⟩ (.slice (some ⟨g9, 0, none⟩) ((Hf.both x.sg y.sg k).length + 1) cap9)).setCell ⟨Ob, k, none⟩ (.int .i64 ((X : Int) + 1))) := (Kept.refl _ _).setCell (by simp) _
                    have hg9b := (own_lt ho9 (show (Value.slice (some ⟨g9, 0, none⟩) ((Hf.both x.sg y.sg k).length + 1) cap9).ownBlock = some g9 from rfl)).1
                    refine ⟨hBO.c1, hBO.f1, hcE, hR9.frozenAt k, ?_, ?_, ?_, ?_⟩
                    · have h1 := own_kept2 (own_kept2 ho9 hk2 (fun q hq => by simp [Value.ownBlock] at hq; omega)) hk3 (fun q hq => by simp [Value.ownBlock] at hq; omega)
                      rw [HBN.out, List.length_append]
                      have e : (Hf.up (Hf.both x.sg y.sg k ++ [k])).map Iv = (Hf.up (Hf.both x.sg y.sg k)).map Iv ++ [.int .i64 (k : Int)] := by simp [Hf.up, Iv]
                      rw [e]
                      exact h1
                    · exact (hBO.store1 (.slice (some ⟨g9, 0, none⟩) ((Hf.both x.sg y.sg k).length + 1) cap9) [] 0).kept hk3 (by omega)
                    · have h1 := own_store (own_kept2 hR9 hk2 (fun q hq => by simp [Value.ownBlock] at hq; omega)) k (((X + 1 : Nat) : Int))
                      rw [← Hf.up_set', ← HUN.out] at h1
                      exact h1
                    · exact ((hkp.out.alloc _).grownNew hg9 hnu).setCell (by simp) _ |>.setCell (by simp) _
                  obtain ⟨ua, un, uc, hu⟩ : ∃ a n c, u = .slice a n c := by
                    rcases hown.2 with ⟨e, _⟩ | ⟨_, _, _, e, _⟩
                    · exact ⟨_, _, _, e⟩
                    · exact ⟨_, _, _, e⟩
                  subst hu
                  have bo1 := hbo.out.c1
                  dsimp only at bo1
                  clear hrow hmem hbo
                  go_wp2_with fail
                  refine hhx.mono ?_
                  rintro e w8 ⟨rfl, hw8⟩
                  have hw8 := hw8.symm
                  subst hw8
                  clear hhx
                  go_wp2_with fail
                  refine hhy.mono ?_
                  rintro e w8 ⟨rfl, hw8⟩
                  have hw8 := hw8.symm
                  subst hw8
                  clear hhy
                  go_wp2_with (at_builtin; refine wpList_append_lies _ rfl (.tmp 92) (.tmp 94) 31 rfl W6.heap.size 3 j0 (.int .i64 0) 1 8 Try.underlying31 hj hy0 hy1 hy2 rfl (by decide) _ _ _ rfl (hown.alloc _) ⟨wr.heap.size, 0, none⟩ 1 1 [.int .i64 (k : Int)] rfl rfl (by intro j u' hj'; match j, hj' with | 0, hj' => simp at hj'; subst hj'; simp [Addr.add]) (by intro u' hu'; simp at hu'; subst hu'; rfl) (by decide) (by unfold maxLen; omega) (by omega) (by simp; omega) (wr.heap.size + 1) (by simp) ?_; intro g9 cap9 w9 hown9 hgrow9 _ hlt9; obtain ⟨e0, e1, e2, e3, e4⟩ := HQ.out _ _ _ hown9 hgrow9; clear hown9 hgrow9)
                  have HFIN : Hid (_) := e4
                  clear e4 e0 e1 e2 e3 hc1 hown
                  go_wp2_with fail
                  go_roundw
                  case rel => exact ⟨k + 1, _, by omega, by go_num, HFIN.out.1, HFIN.out.2.1, HFIN.out.2.2.1, HFIN.out.2.2.2⟩
                  case measure => simp only [intOf]; omega
                · rw [decide_eq_false hmy] at hhy
                  have HBN : Hid (Hf.both x.sg y.sg (k + 1) = Hf.both x.sg y.sg k) := (Hf.both_next x.sg y.sg k).trans (by rw [if_neg (fun h => h.elim hmx hmy), List.append_nil])
                  clear hmx hmy
                  go_wp2_with fail
                  refine hhx.mono ?_
                  rintro e w8 ⟨rfl, hw8⟩
                  have hw8 := hw8.symm
                  subst hw8
                  clear hhx
                  go_wp2_with fail
                  refine hhy.mono ?_
                  rintro e w8 ⟨rfl, hw8⟩
                  have hw8 := hw8.symm
                  subst hw8
                  clear hhy
                  go_wp2_with fail
                  go_roundw
                  case rel => exact ⟨k + 1, u, by omega, by go_num, by rw [HBN.out]; exact hown, hbo, by rw [HBN.out]; exact hrow, hkp⟩
                  case measure => simp only [intOf]; omega
            · obtain rfl : k = F.length := by omega
              have hS1 := HLOW.out.2.2
              obtain ⟨ug, ucap, hu⟩ : ∃ g c, u = .slice (some ⟨g, 0, none⟩) (Hf.both x.sg y.sg F.length).length c := by
                rcases hown.2 with ⟨_, h0⟩ | ⟨g, cap, _, e, _⟩
                · omega
                · exact ⟨g, cap, e⟩
              subst hu
              have hbunq : Bun wr w.heap.size v4 R2 := HBUN6.out.kept hkp.out (fun b hb => ⟨fun e => (HV4.out b hb).2.1 e.symm, fun e => (HV4.out b hb).1 e.symm⟩) (fun g hg => HXB.out g (HXY.out.2.2 g hg))
              have hrow4 := hbunq.row
              have hs6 := HSZ.out.1
              have hq6 := hkp.out.size
              have hbw : w.heap.size ≤ W6.heap.size := by omega
              have hr2l : R2.length ≤ 256 := by have := HLR.out; have := HLR2.out; omega
              obtain ⟨S, hS⟩ : ∃ S, Hf.both x.sg y.sg F.length = S := ⟨_, rfl⟩
              rw [hS] at hown hbo hrow HLOW HSTEP hS1
              have HFIN : Hid (∀ v10 w10 o1, w10.ownsRow w.heap.size 99 2 v10 (R2.length + 1) (rowB R2 ++ bC ⟨jw, min x.low y.low, S, .slice (some ⟨ug, 0, none⟩) S.length ucap⟩) → (wr.alloc o1).grownBy w10 v4.ownBlock →
                  Rst F w w10 Ob v10 (R2 ++ [⟨jw, min x.low y.low, S, .slice (some ⟨ug, 0, none⟩) S.length ucap⟩]) (Hf.bump out S)) := by
                intro v10 w10 o1 ho10 hg10
                have hkv : Kept (fun q => v4.ownBlock ≠ some q) wr w10 := ((Kept.refl _ wr).alloc _).grown hg10 fun q hq hp => hp hq
                refine ⟨hbunq.more1 ho10 (row_lower hown hbw) ⟨hS1, HLOW.out.1⟩ hg10, ?_, ?_, fun g hg e => ?_, fun g hg i hi => ?_, ?_⟩
                · rw [List.map_append]
                  exact HSTEP.out.perm (List.perm_append_comm (l₁ := [(jw, min x.low y.low, S)]))
                · refine own_kept2 hrow hkv fun q hq e => ?_
                  simp [Value.ownBlock] at hq
                  exact (HV4.out q e).2.1 hq
                · rcases List.mem_append.1 hg with hg | hg
                  · exact (HXB.out g (HXY.out.2.2 g hg) _ e).1 rfl
                  · rw [List.mem_singleton.1 hg] at e
                    have := (own_lt hown e).1
                    omega
                · rcases List.mem_append.1 hg with hg | hg
                  · exact HS.out.least g (HXY.out.2.2 g hg) i hi
                  · rw [List.mem_singleton.1 hg] at hi ⊢
                    exact HLOW.out.2.1 i hi
                · have hb1 : Below w.heap.size w W6 := HS.out.bel.trans (HWR6.out.mono (by have := HBA.out; have := HS.out.bel.size; omega))
                  have hb2 : Below w.heap.size w wr := hb1.trans (hkp.out.below hbw fun q hq => ⟨by omega, by omega⟩)
                  exact (hb2.alloc (by omega) _).grown hg10 (by simp; omega) fun q hq => (HV4.out q hq).2.2
              have bo0 := hbo.out.c0
              have bo1 := hbo.out.c1
              dsimp only at bo0 bo1
              generalize S.length = SL at *
              go_wp2_with (at_builtin; refine wpList_append_own _ rfl (.tmp 104) (.tmp 106) 97 rfl w.heap.size 99 i0 (.agg #[.int .i64 0, .slice none 0 0]) 2 32 Try.underlying97 hi hz0 hz1 hz2 rfl (by decide) _ _ _ rfl (hrow4.alloc _) ⟨wr.heap.size, 0, none⟩ 1 1 (bC ⟨jw, min x.low y.low, S, .slice (some ⟨ug, 0, none⟩) SL ucap⟩) rfl rfl (two_at (by simp) (by simp)) (by simp [bC, Value.oneCell']) (by unfold maxLen; omega) (by omega) (by simp; omega) ?_; intro v10 w10 hown10 hgrow10 _)
              have hR10 := HFIN.out v10 w10 _ hown10 hgrow10
              have HI10 : Hid (∃ l out, Rst F w w10 Ob v10 l out ∧ (N0 = 0 → out = List.replicate F.length 0 ∧ l.length = 0) ∧ (N0 ≠ 0 → 1 ≤ l.length)) := by
                refine ⟨_, _, hR10, fun e => ?_, fun _ => by simp⟩
                have := (HZ.out e).2
                omega
              have HM : Hid (sliceLen v10 < l.length) := by
                show _ < _
                rw [hR10.bun.len]
                have := HLR.out
                have := HLR2.out
                simp
                omega
              clear hR10 hown10 hgrow10 hrow4 hbunq bo0 bo1 hown hrow
              go_wp2_with fail
              go_roundw
              case rel => exact HI10
              case measure => exact HM.out
        · have HHL : Hid (Hf.HL F out) := by
            refine ⟨HS.out.inv.len, fun e => (HZ.out (by rw [HN0.out]; exact e)).1, fun x e => absurd (by rw [HN0.out, e]; rfl) HN1.out, fun e => ?_⟩
            have h1 : l.length = 1 := by have := HNZ.out (by rw [HN0.out]; omega); omega
            obtain ⟨y, rfl⟩ := List.length_eq_one_iff.1 h1
            exact HS.out.inv.done
          go_wp2_with fail
          go_ret2
          exact ⟨_, _, rfl, HHL.out, HS.out.row, HS.out.bel⟩
end Go.Proofs.Ytgdkfaphbbdnbaa
