/-
  The walk of lumlaw.LzGreedy: it returns true.
-/
import Derived.Test.YtkkbdgpmgkipbaaLzRGr
namespace Go.Proofs.Ytkkbdgpmgkipbaa
open Go.RowKit

set_option maxHeartbeats 1000000 in
theorem lzGreedy_of (s : ByteArray) (G : List Lz.Tr) (w : World) (hs : s.size ≤ 4096) (hG : G.length ≤ 4096)
    (e1 : ∀ V, Calls Try.prog 17 #[.string s] V fun e w' => ∃ v, e = .returned (.tuple #[v, .int .i64 0]) ∧ w'.ownsRow V.heap.size 33 3 v G.length (rowC G) ∧ Below V.heap.size V w')
    (e2 : ∀ V, Calls Try.prog 18 #[.string s] V fun e w' => ∃ v, e = .returned v ∧ w'.ownsRow V.heap.size 33 3 v G.length (rowC G) ∧ Below V.heap.size V w') :
    Calls Try.prog 4 #[.string s] w fun e w' => e = .returned (.bool true) ∧ Below w.heap.size w w' := by
  go_enter Try.func4, Try.ntmps4
  go_wp2_with fail
  refine (e1 _).mono ?_
  rintro e w1 ⟨v1, rfl, o1, hb1⟩
  clear e1
  go_wp2_with fail
  refine (e2 _).mono ?_
  rintro e w2 ⟨v2, rfl, o2, hb2⟩
  clear e2
  have heq := equal_toks v1 v2 G w2 (Toks.of_own (own_below o1 hb2)) (Toks.of_own o2) (by omega)
  have hB2 := hb1.trans (hb2.mono hb1.size)
  clear o1 o2 hb1 hb2
  go_wp2_with fail
  refine heq.mono ?_
  rintro e w3 ⟨rfl, hb3⟩
  clear heq
  go_wp2_with fail
  go_ret
  exact ⟨rfl, hB2.trans (hb3.mono hB2.size)⟩

set_option maxHeartbeats 1000000 in
theorem lzGreedy_large (s : ByteArray) (w : World) (hs : 4096 < s.size) (hz : s.size ≤ 140737488351232) :
    Calls Try.prog 4 #[.string s] w fun e w' => e = .returned (.bool true) ∧ Below w.heap.size w w' := by
  go_enter Try.func4, Try.ntmps4
  go_wp2_with fail
  refine (greedy_large s _ hs hz).mono ?_
  rintro e w1 ⟨rfl, rfl⟩
  go_wp2_with fail
  go_ret
  exact ⟨rfl, Below.refl _ _⟩

theorem Lz.greedyR_length (L : Lz.Bs) : (Lz.greedyR L).length ≤ L.length := by
  have := Lz.makes_length L (Lz.greedy L) 0 (Lz.makes_greedy L)
  unfold Lz.greedyR
  rw [List.length_map]
  omega
theorem lzGreedy_walk (a0 : ByteArray) (z0 : a0.size ≤ 140737488351232) (w : World) :
    Calls Try.prog 4 #[.string a0] w fun e w' => e = .returned (.bool true) ∧ Below w.heap.size w w' := by
  by_cases h : 4096 < a0.size
  · exact lzGreedy_large a0 w h z0
  · exact lzGreedy_of a0 _ w (by omega) (by have := Lz.greedyR_length a0.data.toList; rw [← Lib.size_eq] at this; omega) (fun V => greedy_any a0 V (by omega)) (fun V => rgreedy_any a0 V (by omega))
end Go.Proofs.Ytkkbdgpmgkipbaa
