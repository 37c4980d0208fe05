/-
  The walk of lumkeep.LzBack: it returns true.
-/
import Derived.Test.YtkkbdgpmgkipbaaLzExp
namespace Go.Proofs.Ytkkbdgpmgkipbaa
open Go.RowKit

theorem toks_two (w : World) : Toks (w.alloc (.cells #[.int .u8 97, .int .i64 0, .int .i64 0, .int .u8 0, .int .i64 3, .int .i64 1] 33)) (.slice (some ⟨w.heap.size, 0, none⟩) 2 2) [⟨97, 0, 0⟩, ⟨0, 3, 1⟩] := by
  refine ⟨.inr ⟨w.heap.size, 0, 2, rfl, by simp, fun j hj => ?_⟩⟩
  match j, hj with
  | 0, _ => exact ⟨by simp, by simp, by simp⟩
  | 1, _ => exact ⟨by simp, by simp, by simp⟩

set_option maxHeartbeats 1000000 in
theorem lzBack_of (s : ByteArray) (G : List Lz.Tr) (k3 : Nat) (w : World) (hs : s.size ≤ 4096) (hG : G.length ≤ s.size)
    (e0 : ∀ V v, Toks V v [⟨97, 0, 0⟩, ⟨0, 3, 1⟩] → Calls Try.prog 9 #[v, .int .i64 4] V fun e w' => e = .returned (.tuple #[.string ⟨#[97, 97, 97, 97]⟩, .int .i64 0]) ∧ Below V.heap.size V w')
    (e1 : ∀ V, Calls Try.prog 17 #[.string s] V fun e w' => ∃ v, e = .returned (.tuple #[v, .int .i64 0]) ∧ w'.ownsRow V.heap.size 33 3 v G.length (rowC G) ∧ Below V.heap.size V w')
    (e2 : ∀ V v, Toks V v G → Calls Try.prog 9 #[v, .int .i64 s.size] V fun e w' => e = .returned (.tuple #[.string s, .int .i64 0]) ∧ Below V.heap.size V w')
    (e3 : ∀ V v, Toks V v G → Calls Try.prog 9 #[v, .int .i64 ((s.size : Int) - 1)] V fun e w' => e = .returned (.tuple #[.string ⟨#[]⟩, .int .i64 k3]) ∧ Below V.heap.size V w')
    (hk : (s = ⟨#[]⟩ ∧ k3 = 1) ∨ (s ≠ ⟨#[]⟩ ∧ k3 = 2)) :
    Calls Try.prog 5 #[.string s] w fun e w' => e = .returned (.bool true) ∧ Below w.heap.size w w' := by
  go_enter Try.func5, Try.ntmps5
  go_wp2_with fail
  refine (e0 _ _ (toks_two w)).mono ?_
  rintro e w1 ⟨rfl, hb1⟩
  have hB1 := below_past hb1
  clear e0 hb1
  go_wp2_with fail
  refine (e1 _).mono ?_
  rintro e w2 ⟨v2, rfl, o2, hb2⟩
  have hB2 := hB1.trans (hb2.mono hB1.size)
  have t2 := Toks.of_own o2
  obtain ⟨a2, c2, rfl⟩ := own_slice o2
  clear e1 hb2 hB1 o2
  go_wp2_with fail
  refine (e2 _ _ t2).mono ?_
  rintro e w3 ⟨rfl, hb3⟩
  have hB3 := hB2.trans (hb3.mono hB2.size)
  have t3 := t2.below (Nat.le_refl _) hb3
  clear e2 hb3 hB2 t2
  have hq : decide (s.size < G.length) = false := decide_eq_false (by omega)
  have hq' : decide ((s.size : Int) < (G.length : Int)) = false := decide_eq_false (by omega)
  go_wp2_with fail
  refine (e3 _ _ t3).mono ?_
  rintro e w4 ⟨rfl, hb4⟩
  have hB4 := hB3.trans (hb4.mono hB3.size)
  clear e3 hb4 hB3 t3
  rcases hk with ⟨rfl, rfl⟩ | ⟨hne, rfl⟩
  · go_wp2_with fail
    go_ret
    exact ⟨rfl, hB4⟩
  · have hl : ¬ s.toList = [] := fun h => hne (by
      rw [Lib.toList_data] at h
      exact ByteArray.ext (Array.toList_inj.1 h))
    have hl2 : s.toList.isEmpty = false := by rw [List.isEmpty_eq_false_iff]; exact hl
    clear hne
    go_wp2_with fail
    go_ret
    exact ⟨rfl, hB4⟩

set_option maxHeartbeats 1000000 in
theorem lzBack_large (s : ByteArray) (w : World) (hs : 4096 < s.size) (hz : s.size ≤ 140737488351232)
    (e0 : ∀ V v, Toks V v [⟨97, 0, 0⟩, ⟨0, 3, 1⟩] → Calls Try.prog 9 #[v, .int .i64 4] V fun e w' => e = .returned (.tuple #[.string ⟨#[97, 97, 97, 97]⟩, .int .i64 0]) ∧ Below V.heap.size V w') :
    Calls Try.prog 5 #[.string s] w fun e w' => e = .returned (.bool true) ∧ Below w.heap.size w w' := by
  go_enter Try.func5, Try.ntmps5
  go_wp2_with fail
  refine (e0 _ _ (toks_two w)).mono ?_
  rintro e w1 ⟨rfl, hb1⟩
  have hB1 := below_past hb1
  clear e0 hb1
  go_wp2_with fail
  refine (greedy_large s _ hs hz).mono ?_
  rintro e w2 ⟨rfl, rfl⟩
  go_wp2_with fail
  go_ret
  exact ⟨rfl, hB1⟩

namespace Lz
theorem expd_two : expd [⟨97, 0, 0⟩, ⟨0, 3, 1⟩] 4 = ([97, 97, 97, 97], 0) := by decide
theorem greedyR_chk (L : Bs) (h : L.length ≤ 4096) : chk (greedyR L) = 0 ∧ (greedyR L).map Tr.tok = greedy L ∧ (greedyR L).length ≤ L.length := by
  have hm := makes_greedy L
  have hl := makes_length L (greedy L) 0 hm
  have hg := hm.good
  refine ⟨?_, ?_, ?_⟩
  · unfold chk greedyR
    rw [if_neg (by rw [List.length_map]; omega), if_pos]
    intro t ht
    obtain ⟨u, hu, rfl⟩ := List.mem_map.1 ht
    exact (hg u hu).form
  · unfold greedyR
    rw [List.map_map]
    conv => rhs; rw [← List.map_id (greedy L)]
    exact List.map_congr_left fun t _ => raw_tok t
  · unfold greedyR
    rw [List.length_map]; omega
theorem expd_greedy (L : Bs) (h : L.length ≤ 4096) : expd (greedyR L) L.length = (L, 0) := by
  obtain ⟨h1, h2, _⟩ := greedyR_chk L h
  unfold expd
  rw [if_neg (by omega), if_pos h1, h2]
  have := makes_ex (most := L.length) (makes_greedy L) (Nat.le_refl _)
  exact this
theorem expd_less (L : Bs) (h : L.length ≤ 4096) : expd (greedyR L) ((L.length : Int) - 1) = ([], if L = [] then 1 else 2) := by
  obtain ⟨h1, h2, _⟩ := greedyR_chk L h
  unfold expd
  by_cases e : L = []
  · subst e
    rfl
  · have hp : 0 < L.length := List.length_pos_iff.2 e
    rw [if_neg (by omega), if_pos h1, h2, if_neg e]
    exact makes_ex_less (most := ((L.length : Int) - 1).toNat) (makes_greedy L) (by omega) (Nat.zero_le _)
end Lz

theorem lzBack_walk (a0 : ByteArray) (z0 : a0.size ≤ 140737488351232) (w : World) :
    Calls Try.prog 5 #[.string a0] w fun e w' => e = .returned (.bool true) ∧ Below w.heap.size w w' := by
  have e0 : ∀ V v, Toks V v [⟨97, 0, 0⟩, ⟨0, 3, 1⟩] → Calls Try.prog 9 #[v, .int .i64 4] V fun e w' => e = .returned (.tuple #[.string ⟨#[97, 97, 97, 97]⟩, .int .i64 0]) ∧ Below V.heap.size V w' := fun V v h => by
    have := expand_any v _ 4 V h (by simp)
    rw [Lz.expd_two] at this
    exact this
  by_cases h : 4096 < a0.size
  · exact lzBack_large a0 w h z0 e0
  · have hl : a0.data.toList.length = a0.size := (Lib.size_eq a0).symm
    have h' : a0.data.toList.length ≤ 4096 := by omega
    obtain ⟨_, _, hg⟩ := Lz.greedyR_chk _ h'
    refine lzBack_of a0 (Lz.greedyR a0.data.toList) (if a0.data.toList = [] then 1 else 2) w (by omega) (by omega) e0 (fun V => greedy_any a0 V (by omega)) (fun V v ht => ?_) (fun V v ht => ?_) ?_
    · have := expand_any v _ a0.data.toList.length V ht (by omega)
      rw [Lz.expd_greedy _ h', hl] at this
      exact this
    · have := expand_any v _ ((a0.data.toList.length : Int) - 1) V ht (by omega)
      rw [Lz.expd_less _ h', hl] at this
      exact this
    · by_cases e : a0.data.toList = []
      · exact .inl ⟨ByteArray.ext (Array.toList_inj.1 e), if_pos e⟩
      · exact .inr ⟨fun q => e (by rw [q]), if_neg e⟩
end Go.Proofs.Ytkkbdgpmgkipbaa
