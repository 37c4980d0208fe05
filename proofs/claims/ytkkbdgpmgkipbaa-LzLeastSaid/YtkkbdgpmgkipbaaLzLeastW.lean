/-
  The walk of lumkeep.LzLeast: it returns true.
-/
import Derived.Test.YtkkbdgpmgkipbaaLzExp
namespace Go.Proofs.Ytkkbdgpmgkipbaa
open Go.RowKit

set_option maxHeartbeats 1000000 in
theorem lzLeast_no (v : Value) (l G0 : List Lz.Tr) (k : Nat) (w : World) (ht : Toks w v l) (h0 : G0.length = 2) (hk : k ≠ 0)
    (e1 : ∀ V, Calls Try.prog 17 #[.string ⟨#[97, 97, 97, 97]⟩] V fun e w' => ∃ v, e = .returned (.tuple #[v, .int .i64 0]) ∧ w'.ownsRow V.heap.size 33 3 v G0.length (rowC G0) ∧ Below V.heap.size V w')
    (e2 : ∀ V, Toks V v l → Calls Try.prog 9 #[v, .int .i64 4096] V fun e w' => e = .returned (.tuple #[.string ⟨#[]⟩, .int .i64 k]) ∧ Below V.heap.size V w') :
    Calls Try.prog 6 #[v] w fun e w' => e = .returned (.bool true) ∧ Below w.heap.size w w' := by
  have hq : ((k : Int) != 0) = true := by rw [bne_iff_ne]; omega
  go_enter Try.func6, Try.ntmps6
  go_wp2_with fail
  refine (e1 _).mono ?_
  rintro e w1 ⟨v1, rfl, o1, hb1⟩
  obtain ⟨a1, c1, rfl⟩ := own_slice o1
  rw [h0]
  have t1 := ht.below (Nat.le_refl _) hb1
  clear e1 o1 ht
  go_wp2_with fail
  refine (e2 _ t1).mono ?_
  rintro e w2 ⟨rfl, hb2⟩
  have hB2 := hb1.trans (hb2.mono hb1.size)
  clear e2 t1 hb1 hb2
  go_wp2_with fail
  go_ret
  exact ⟨rfl, hB2⟩

set_option maxHeartbeats 1000000 in
theorem lzLeast_yes (v : Value) (l G0 G : List Lz.Tr) (T : ByteArray) (w : World) (ht : Toks w v l) (h0 : G0.length = 2) (hG : G.length ≤ l.length)
    (e1 : ∀ V, Calls Try.prog 17 #[.string ⟨#[97, 97, 97, 97]⟩] V fun e w' => ∃ v, e = .returned (.tuple #[v, .int .i64 0]) ∧ w'.ownsRow V.heap.size 33 3 v G0.length (rowC G0) ∧ Below V.heap.size V w')
    (e2 : ∀ V, Toks V v l → Calls Try.prog 9 #[v, .int .i64 4096] V fun e w' => e = .returned (.tuple #[.string T, .int .i64 0]) ∧ Below V.heap.size V w')
    (e3 : ∀ V, Calls Try.prog 17 #[.string T] V fun e w' => ∃ v, e = .returned (.tuple #[v, .int .i64 0]) ∧ w'.ownsRow V.heap.size 33 3 v G.length (rowC G) ∧ Below V.heap.size V w') :
    Calls Try.prog 6 #[v] w fun e w' => e = .returned (.bool true) ∧ Below w.heap.size w w' := by
  go_enter Try.func6, Try.ntmps6
  go_wp2_with fail
  refine (e1 _).mono ?_
  rintro e w1 ⟨v1, rfl, o1, hb1⟩
  obtain ⟨a1, c1, rfl⟩ := own_slice o1
  rw [h0]
  have t1 := ht.below (Nat.le_refl _) hb1
  obtain ⟨a, c, rfl⟩ := ht.slice
  clear e1 o1 ht
  go_wp2_with fail
  refine (e2 _ t1).mono ?_
  rintro e w2 ⟨rfl, hb2⟩
  have hB2 := hb1.trans (hb2.mono hb1.size)
  clear e2 t1 hb1 hb2
  go_wp2_with fail
  refine (e3 _).mono ?_
  rintro e w3 ⟨v3, rfl, o3, hb3⟩
  obtain ⟨a3, c3, rfl⟩ := own_slice o3
  have hB3 := hB2.trans (hb3.mono hB2.size)
  clear e3 hb3 hB2 o3
  have hq : decide ((G.length : Int) ≤ (l.length : Int)) = true := decide_eq_true (by omega)
  have hq' : decide (G.length ≤ l.length) = true := decide_eq_true (by omega)
  go_wp2_with fail
  go_ret
  exact ⟨rfl, hB3⟩

theorem Lz.greedy_four : (Lz.greedyR (⟨#[97, 97, 97, 97]⟩ : ByteArray).data.toList).length = 2 := by decide +kernel
theorem lzLeast_walk (v : Value) (l : List Lz.Tr) (hl : l.length ≤ 140737488351232) (w : World) (ht : Toks w v l) :
    Calls Try.prog 6 #[v] w fun e w' => e = .returned (.bool true) ∧ Below w.heap.size w w' := by
  have e1 := fun V => greedy_any ⟨#[97, 97, 97, 97]⟩ V (by decide)
  have e2 := fun V h => expand_any v l 4096 V h hl
  by_cases hk : (Lz.expd l 4096).2 = 0
  · have hx : Lz.chk l = 0 ∧ Lz.ex 4096 [] (l.map Lz.Tr.tok) = Lz.expd l 4096 := by
      unfold Lz.expd at hk ⊢
      rw [if_neg (by omega)] at hk ⊢
      by_cases h : Lz.chk l = 0
      · rw [if_pos h]; exact ⟨h, rfl⟩
      · rw [if_neg h] at hk; exact absurd hk h
    obtain ⟨hc, hex⟩ := hx
    obtain ⟨_, hf⟩ := Lz.chk_zero hc
    have hg : ∀ t ∈ l.map Lz.Tr.tok, Lz.Good t := fun t h => by
      obtain ⟨u, hu, rfl⟩ := List.mem_map.1 h
      exact (Lz.Tr.tok_raw (hf u hu)).2
    have hpair : Lz.ex 4096 [] (l.map Lz.Tr.tok) = ((Lz.expd l 4096).1, 0) := by rw [hex, ← hk]
    obtain ⟨_, hm, hle⟩ := Lz.ex_makes hg hpair (Nat.zero_le _)
    have hleast := Lz.greedy_least _ _ hm
    rw [List.length_map] at hleast
    rw [hk] at e2
    generalize (Lz.expd l 4096).1 = T at *
    refine lzLeast_yes v l _ (Lz.greedyR T) ⟨T.toArray⟩ w ht Lz.greedy_four (by unfold Lz.greedyR; rw [List.length_map]; exact hleast) e1 e2 (fun V => ?_)
    have := greedy_any ⟨T.toArray⟩ V (by show T.toArray.size ≤ 4096; simpa using hle)
    exact this
  · have he : (Lz.expd l 4096).1 = [] := by
      unfold Lz.expd at hk ⊢
      rw [if_neg (by omega)] at hk ⊢
      by_cases h : Lz.chk l = 0
      · rw [if_pos h] at hk ⊢; exact Lz.ex_error hk
      · rw [if_neg h]
    rw [he] at e2
    exact lzLeast_no v l _ _ w ht Lz.greedy_four hk e1 e2
end Go.Proofs.Ytkkbdgpmgkipbaa
