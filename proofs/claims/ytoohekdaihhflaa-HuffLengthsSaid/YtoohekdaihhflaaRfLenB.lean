/-
  What Lengths of package lumref answers to a list that isn't right.
-/
import Derived.Test.YtoohekdaihhflaaRfLen
namespace Go.Proofs.Ytoohekdaihhflaa
open Go.RowKit

set_option maxHeartbeats 1000000 in
theorem rlen_short (v : Value) (l : List Int) (w : World) (h : Ints w v l) (hl : l.length ≤ 140737488351232) (hb : l.length = 0 ∨ 256 < l.length) :
    Calls Try.prog 10 #[v] w fun e w' => e = .returned (.tuple #[.slice none 0 0, .int .i64 1]) ∧ Below w.heap.size w w' := by
  obtain ⟨a, c, rfl⟩ := h.slice
  rcases hb with hb | hb
  · obtain rfl := List.length_eq_zero_iff.1 hb
    go_enter Try.func10, Try.ntmps10
    go_wp2_with fail
    go_ret2
    exact ⟨rfl, Below.refl _ _⟩
  · have hne : ((l.length : Int) == 0) = false := by simp; rintro rfl; simp at hb
    go_enter Try.func10, Try.ntmps10
    go_wp2_with fail
    go_ret2
    exact ⟨rfl, Below.refl _ _⟩
set_option maxHeartbeats 4000000 in
theorem rlen_front (v : Value) (l : List Int) (L : List Nat) (w : World) (h : Ints w v l) (h1 : 1 ≤ l.length) (h2 : l.length ≤ 256) (hL : L.length < l.length) (hp : Hid (∀ j (_ : j < L.length) (hj' : j < l.length), l[j] = ((L.getD j 0 : Nat) : Int))) (h3 : Hid (∀ n ∈ L, n ≤ 1048576))
    (he : Hid (l[L.length] < 0 ∨ (1048576 : Int) < l[L.length])) :
    Calls Try.prog 10 #[v] w fun e w' => e = .returned (.tuple #[.slice none 0 0, .int .i64 1]) ∧ Below w.heap.size w w' := by
  obtain ⟨i0, hi, hz0, hz1, hz2⟩ := info_parts info_bunch
  obtain ⟨a, c, rfl⟩ := h.slice
  have hne : ((l.length : Int) == 0) = false := by simp; rintro rfl; simp at h1
  go_enter Try.func10, Try.ntmps10
  go_wp2_with fail
  go_loopw [4, 22] (fun x y wr => ∃ (k m : Nat) (xs : List Value), k ≤ L.length ∧ y = .int .i64 k ∧ m ≤ k ∧ wr.ownsRow w.heap.size 60 2 x m xs ∧ Hid (Below w.heap.size w wr)) (fun _ y _ => l.length - (intOf y).toNat)
  case atStart => exact ⟨0, 0, [], by omega, rfl, by omega, World.ownsRow_nil _ _ _ _, Below.refl _ _⟩
  case round =>
    obtain ⟨k, m, xs, hk, rfl, hmk, hown, hbel⟩ := hrel
    have hsz := hbel.out.size
    by_cases hlt : k < L.length
    · have hltl : k < l.length := by omega
      obtain ⟨bk, o, rfl, _, hbk, c0⟩ := (h.below (Nat.le_refl _) hbel.out).get k hltl
      rw [hp.out k hlt hltl] at c0
      have hn := Hf.getD_le h3.out k
      generalize L.getD k 0 = n at *
      by_cases hn0 : 0 < n
      · go_wp2_with (at_builtin; refine wpList_append_own _ rfl (.tmp 35) (.tmp 40) 58 rfl w.heap.size 60 i0 (.agg #[.int .i64 0, .slice none 0 0]) 2 32 Try.underlying58 hi hz0 hz1 hz2 rfl (by decide) _ _ _ rfl ((hown.alloc _).alloc _) ⟨wr.heap.size + 1, 0, none⟩ 1 1 (bC ⟨n, k, [k], .slice (some ⟨wr.heap.size, 0, none⟩) 1 1⟩) rfl rfl (two_at (by simp) (by simp)) (by simp [bC, Value.oneCell']) (by unfold maxLen; omega) (by omega) (by simp; omega) ?_; intro v1 w3 hown3 hgrow _)
        have HB3 : Hid (Below w.heap.size w w3) := ((hbel.out.alloc hsz _).alloc (by simp; omega) _).grown hgrow (by simp; omega) fun j hj => (hown.lt j hj).1
        have HO3 : Hid (w3.ownsRow w.heap.size 60 2 v1 (m + 1) (xs ++ bC ⟨n, k, [k], .slice (some ⟨wr.heap.size, 0, none⟩) 1 1⟩)) := hown3
        clear hown3 hgrow hown hbel c0
        go_wp2_with fail
        go_roundw
        case rel => exact ⟨k + 1, m + 1, _, by omega, by go_num, by omega, HO3.out, HB3⟩
        case measure => simp only [intOf]; omega
      · go_wp2_with fail
        go_roundw
        case rel => exact ⟨k + 1, m, xs, by omega, by go_num, by omega, hown, hbel⟩
        case measure => simp only [intOf]; omega
    · obtain rfl : k = L.length := by omega
      obtain ⟨bk, o, rfl, _, hbk, c0⟩ := (h.below (Nat.le_refl _) hbel.out).get L.length hL
      have hx := he.out
      clear he
      generalize l[L.length] = t at *
      rcases hx with hx | hx
      · go_wp2_with fail
        go_ret2
        exact ⟨rfl, hbel.out⟩
      · have hx0 : ¬ t < 0 := by omega
        go_wp2_with fail
        go_ret2
        exact ⟨rfl, hbel.out⟩
theorem rlen_bad (v : Value) (l : List Int) (w : World) (h : Ints w v l) (hl : l.length ≤ 140737488351232) (hb : Hf.sgn 1048576 l = false) :
    Calls Try.prog 10 #[v] w fun e w' => e = .returned (.tuple #[.slice none 0 0, .int .i64 1]) ∧ Below w.heap.size w w' := by
  by_cases hn : l.length = 0 ∨ 256 < l.length
  · exact rlen_short v l w h hl hn
  · obtain ⟨L, e1, e2, e3, e4⟩ := Hf.front2 l 1048576
    by_cases e : L.length < l.length
    · exact rlen_front v l L w h (by omega) (by omega) e e2 e3 (e4 e)
    · refine absurd hb (Bool.eq_false_iff.1 · (Hf.sgn_all (by omega) (by omega) fun j hj => ?_))
      have hj' : j < L.length := by omega
      rw [e2 j hj' hj]
      have := Hf.getD_le e3 j
      omega
end Go.Proofs.Ytoohekdaihhflaa
