/-
  What Kraft and Codes of package lumref answer.
-/
import Derived.Test.YtoohekdaihhflaaHfCodes
namespace Go.Proofs.Ytoohekdaihhflaa
open Go.RowKit

theorem two_pow_le {m : Nat} (h : m ≤ 48) : 2 ^ m ≤ 281474976710656 := Nat.le_trans (Nat.pow_le_pow_right (by omega) h) (by decide : 2 ^ 48 ≤ 281474976710656)

set_option maxHeartbeats 1000000 in
theorem rkraft_short (v : Value) (l : List Int) (w : World) (h : Ints w v l) (hl : l.length ≤ 140737488351232) (hb : l.length = 0 ∨ 256 < l.length) :
    Calls Try.prog 13 #[v] w fun e w' => e = .returned (.tuple #[.int .i64 0, .int .i64 1]) ∧ w' = w := by
  obtain ⟨a, c, rfl⟩ := h.slice
  rcases hb with hb | hb
  · obtain rfl := List.length_eq_zero_iff.1 hb
    go_enter Try.func13, Try.ntmps13
    go_wp2_with fail
    go_ret2
    exact ⟨rfl, rfl⟩
  · have hne : ((l.length : Int) == 0) = false := by simp; rintro rfl; simp at hb
    go_enter Try.func13, Try.ntmps13
    go_wp2_with fail
    go_ret2
    exact ⟨rfl, rfl⟩

def rkE (L : List Nat) (l : List Int) : Ending := if L.length = l.length then .returned (.tuple #[.int .i64 (Hf.ksum L : Nat), .int .i64 0]) else .returned (.tuple #[.int .i64 0, .int .i64 1])
set_option maxHeartbeats 2000000 in
/-- of a list of which the first m numbers are right: all of them, or one that isn't follows -/
theorem rkraft_of (v : Value) (l : List Int) (L : List Nat) (w : World) (h : Ints w v l) (h1 : 1 ≤ l.length) (h2 : l.length ≤ 256) (hL : L.length ≤ l.length) (hp : Hid (∀ j (_ : j < L.length) (hj' : j < l.length), l[j] = ((L.getD j 0 : Nat) : Int))) (h3 : Hid (∀ n ∈ L, n ≤ 48))
    (he : Hid (∀ hj : L.length < l.length, l[L.length] < 0 ∨ 48 < l[L.length])) :
    Calls Try.prog 13 #[v] w fun e w' => e = rkE L l ∧ w' = w := by
  obtain ⟨a, c, rfl⟩ := h.slice
  have hne : ((l.length : Int) == 0) = false := by simp; rintro rfl; simp at h1
  go_enter Try.func13, Try.ntmps13
  go_wp2_with fail
  go_loop [4, 18] (fun s i => ∃ k : Nat, k ≤ L.length ∧ i = .int .i64 k ∧ s = .int .i64 (Hf.kto L k : Nat)) (fun _ i => l.length - (intOf i).toNat)
  case atStart => exact ⟨0, by omega, rfl, rfl⟩
  case round =>
    obtain ⟨k, hk, rfl, rfl⟩ := hrel
    have hkl := Hf.kto_le L k
    by_cases hlt : k < L.length
    · have hltl : k < l.length := by omega
      obtain ⟨bk, o, rfl, _, hbk, c0⟩ := h.get k hltl
      rw [hp.out k hlt hltl] at c0
      have hn := Hf.getD_le h3.out k
      have HS : Hid (Hf.kto L (k + 1) = Hf.kto L k + if 0 < L.getD k 0 then 2 ^ (48 - L.getD k 0) else 0) := Hf.kto_succ L k
      generalize L.getD k 0 = n at *
      generalize Hf.kto L k = S at *
      clear h
      go_wp2_with fail
      go_loop [7, 30] (fun s i => ∃ q : Nat, q ≤ 48 - n ∧ i = .int .i64 q ∧ s = .int .i64 (2 ^ q : Nat)) (fun _ i => 48 - n - (intOf i).toNat)
      case atStart => exact ⟨0, by omega, rfl, rfl⟩
      case round =>
        obtain ⟨q, hq, rfl, rfl⟩ := hrel
        by_cases hql : q < 48 - n
        · have hqb : 2 ^ q ≤ 281474976710656 := two_pow_le (by omega)
          have HQ : Hid (2 ^ (q + 1) = 2 ^ q * 2) := Nat.pow_succ ..
          have hqi : (q : Int) < 48 - (n : Int) := by omega
          generalize 2 ^ q = T at *
          go_wp2_with fail
          go_round
          case rel => exact ⟨q + 1, by omega, by go_num, by rw [HQ.out]; go_num⟩
          case measure => simp only [intOf]; omega
        · obtain rfl : q = 48 - n := by omega
          have hqb : 2 ^ (48 - n) ≤ 281474976710656 := two_pow_le (by omega)
          have hqi : ¬ ((48 - n : Nat) : Int) < 48 - (n : Int) := by omega
          by_cases hn0 : 0 < n
          · have HP : Hid (Hf.kto L (k + 1) = S + 2 ^ (48 - n)) := by rw [HS.out, if_pos hn0]; rfl
            generalize 2 ^ (48 - n) = p at *
            clear HS
            go_wp2_with fail
            go_round
            case rel => exact ⟨k + 1, by omega, by go_num, by rw [HP.out]; go_num⟩
            case measure => simp only [intOf]; omega
          · have HP : Hid (Hf.kto L (k + 1) = S) := by rw [HS.out, if_neg hn0]; rfl
            generalize 2 ^ (48 - n) = p at *
            clear HS
            go_wp2_with fail
            go_round
            case rel => exact ⟨k + 1, by omega, by go_num, by rw [HP.out]⟩
            case measure => simp only [intOf]; omega
    · obtain rfl : k = L.length := by omega
      by_cases hll : L.length < l.length
      · obtain ⟨bk, o, rfl, _, hbk, c0⟩ := h.get L.length hll
        have hx := he.out hll
        have HE : Hid (rkE L l = .returned (.tuple #[.int .i64 0, .int .i64 1])) := if_neg (by omega)
        generalize l[L.length] = t at *
        generalize Hf.kto L L.length = S at *
        clear h
        rcases hx with hx | hx
        · go_wp2_with fail
          go_ret2
          exact ⟨by rw [HE.out]; rfl, rfl⟩
        · have hx0 : ¬ t < 0 := by omega
          go_wp2_with fail
          go_ret2
          exact ⟨by rw [HE.out]; rfl, rfl⟩
      · have HE : Hid (rkE L l = .returned (.tuple #[.int .i64 (Hf.kto L L.length : Nat), .int .i64 0])) := (if_pos (by omega)).trans (by rw [Hf.kto_all])
        generalize Hf.kto L L.length = S at *
        go_wp2_with fail
        go_ret2
        exact ⟨by rw [HE.out]; rfl, rfl⟩
namespace Hf
/-- the right numbers at a list's beginning, and what stands behind them -/
theorem front (l : List Int) : ∃ L : List Nat, L.length ≤ l.length ∧ (∀ j (_ : j < L.length) (hj' : j < l.length), l[j] = ((L.getD j 0 : Nat) : Int)) ∧ (∀ n ∈ L, n ≤ 48) ∧ ∀ hj : L.length < l.length, l[L.length] < 0 ∨ 48 < l[L.length] := by
  induction l with
  | nil => exact ⟨[], Nat.le_refl _, fun j hj => by simp at hj, fun n hn => by simp at hn, fun hj => by simp at hj⟩
  | cons x l ih =>
    obtain ⟨L, h1, h2, h3, h4⟩ := ih
    by_cases hx : x < 0 ∨ 48 < x
    · exact ⟨[], Nat.zero_le _, fun j hj => by simp at hj, fun n hn => by simp at hn, fun _ => hx⟩
    · refine ⟨x.toNat :: L, by simpa using h1, fun j hj hj' => ?_, fun n hn => ?_, fun hj => ?_⟩
      · cases j with
        | zero => simp; omega
        | succ j => simpa using h2 j (by simpa using hj) (by simpa using hj')
      · rcases List.mem_cons.1 hn with rfl | hn
        · omega
        · exact h3 n hn
      · simpa using h4 (by simpa using hj)
theorem sgn_front {l : List Int} {L : List Nat} (hL : L.length < l.length) (h : l[L.length] < 0 ∨ 48 < l[L.length]) : sgn 48 l = false := sgn_one _ hL h
theorem up_front {L M : List Nat} (hL : L.length = (up M).length) (h : ∀ j (_ : j < L.length) (hj' : j < (up M).length), (up M)[j] = ((L.getD j 0 : Nat) : Int)) : L = M := by
  have hl : L.length = M.length := by rw [hL, up_length]
  refine List.ext_getElem hl fun j h1 h2 => ?_
  have := h j h1 (by rw [up_length]; exact h2)
  rw [up_get] at this
  have : M.getD j 0 = L.getD j 0 := by omega
  rw [List.getD_eq_getElem?_getD, List.getD_eq_getElem?_getD, List.getElem?_eq_getElem h1, List.getElem?_eq_getElem h2] at this
  exact this.symm
end Hf

theorem rkraft_any (v : Value) (L : List Nat) (w : World) (h : Ints w v (Hf.up L)) (h1 : 1 ≤ L.length) (h2 : L.length ≤ 256) (h3 : ∀ n ∈ L, n ≤ 48) :
    Calls Try.prog 13 #[v] w fun e w' => e = .returned (.tuple #[.int .i64 (Hf.ksum L : Nat), .int .i64 0]) ∧ w' = w := by
  have := rkraft_of v (Hf.up L) L w h (by rw [Hf.up_length]; exact h1) (by rw [Hf.up_length]; exact h2) (by rw [Hf.up_length]; exact Nat.le_refl _) (fun j hj hj' => Hf.up_get L j hj') h3 (fun hj => by rw [Hf.up_length] at hj; omega)
  rw [show rkE L (Hf.up L) = _ from if_pos (Hf.up_length L).symm] at this
  exact this
theorem rkraft_bad (v : Value) (l : List Int) (w : World) (h : Ints w v l) (hl : l.length ≤ 140737488351232) (hb : Hf.sgn 48 l = false) :
    Calls Try.prog 13 #[v] w fun e w' => e = .returned (.tuple #[.int .i64 0, .int .i64 1]) ∧ w' = w := by
  by_cases hn : l.length = 0 ∨ 256 < l.length
  · exact rkraft_short v l w h hl hn
  · obtain ⟨L, e1, e2, e3, e4⟩ := Hf.front l
    have := rkraft_of v l L w h (by omega) (by omega) e1 e2 e3 e4
    rw [show rkE L l = _ from if_neg fun e => ?_] at this
    · exact this
    · refine absurd hb (Bool.eq_false_iff.1 · (Hf.sgn_all (by omega) (by omega) fun j hj => ?_))
      have hj' : j < L.length := by omega
      rw [e2 j hj' hj]
      have := Hf.getD_le e3 j
      omega
end Go.Proofs.Ytoohekdaihhflaa
