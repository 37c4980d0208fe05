/-
  What chained of package lumkeep answers, where Reach and Order of package graph answer as they are asked to.
-/
import Derived.Test.YtoibiaikbgkbpaaGraphSaysOf
namespace Go.Proofs.Ytoibiaikbgkbpaa
open Go.RowKit
set_option maxRecDepth 4000

theorem small_chain : Gr.rErr [[1], [], []] [0] = 0 ∧ Gr.reach [[1], [], []] [0] = [true, true, false] ∧ Gr.oErr [[1], [], []] = 0 ∧ Gr.order [[1], [], []] = [1, 0, 2] := by decide +kernel

/-- three things, laid -/
theorem Kz.laid3 (w : World) : Kz ((w.alloc (.cells #[.int .i64 1] 3)).alloc (.cells #[.slice (some ⟨w.heap.size, 0, none⟩) 1 1, .slice none 0 0, .slice none 0 0] 23)) (.slice (some ⟨w.heap.size + 1, 0, none⟩) 3 3) [[1], [], []] := by
  have h1 := Ints.laid w [1] 1
  have h2 : Ints ((w.alloc (.cells #[.int .i64 1] 3)).alloc (.cells #[.slice (some ⟨w.heap.size, 0, none⟩) 1 1, .slice none 0 0, .slice none 0 0] 23)) (.slice (some ⟨w.heap.size, 0, none⟩) 1 1) [1] := h1.past ((Below.refl _ _).alloc (Nat.le_refl _) _)
  have hn : ∀ V : World, Ints V (.slice none 0 0) [] := fun V => ⟨.inl ⟨⟨_, _, rfl⟩, rfl⟩⟩
  have hc : ∀ j, ((w.alloc (.cells #[.int .i64 1] 3)).alloc (.cells #[.slice (some ⟨w.heap.size, 0, none⟩) 1 1, .slice none 0 0, .slice none 0 0] 23)).cell? ⟨w.heap.size + 1, 0 + j, none⟩ = (#[Value.slice (some ⟨w.heap.size, 0, none⟩) 1 1, .slice none 0 0, .slice none 0 0] : Array Value)[j]? := by
    intro j
    have := heap_alloc_new (w.alloc (.cells #[.int .i64 1] 3)) (.cells #[.slice (some ⟨w.heap.size, 0, none⟩) 1 1, .slice none 0 0, .slice none 0 0] 23)
    rw [World.size_alloc] at this
    rw [Nat.zero_add, cell_of_row _ (w.heap.size + 1) j _ _ _ this]
  refine ⟨.inr ⟨w.heap.size + 1, 0, 3, rfl, by simp, fun j hj => ?_⟩⟩
  have hj3 : j < 3 := hj
  rcases j with _ | _ | _ | j
  · exact ⟨_, _, (hc 0).trans rfl, h2⟩
  · exact ⟨_, _, (hc 1).trans rfl, hn _⟩
  · exact ⟨_, _, (hc 2).trans rfl, hn _⟩
  · omega

set_option maxHeartbeats 4000000 in
theorem chained_any (w : World) (hGR : GReachOk w) (hGO : GOrderOk w) :
    Calls Try.prog 15 #[] w fun e w' => e = .returned (.bool true) ∧ Below w.heap.size w w' := by
  obtain ⟨W1, hW1⟩ : ∃ W1, W1 = ((w.alloc (.cells #[.int .i64 1] 3)).alloc (.cells #[.slice (some ⟨w.heap.size, 0, none⟩) 1 1, .slice none 0 0, .slice none 0 0] 23)).alloc (.cells #[.int .i64 0] 3) := ⟨_, rfl⟩
  have HB1 : Hid (Below w.heap.size w W1) := by rw [hW1]; exact (((Below.refl _ w).alloc (Nat.le_refl _) _).alloc (by simp) _).alloc (by simp; omega) _
  have hK1 : Kz W1 (.slice (some ⟨w.heap.size + 1, 0, none⟩) 3 3) [[1], [], []] := by
    rw [hW1]; exact (Kz.laid3 w).past ((Below.refl _ _).alloc (Nat.le_refl _) _)
  have hR1 : Ints W1 (.slice (some ⟨w.heap.size + 2, 0, none⟩) 1 1) [0] := by
    rw [hW1]
    have := Ints.laid ((w.alloc (.cells #[.int .i64 1] 3)).alloc (.cells #[.slice (some ⟨w.heap.size, 0, none⟩) 1 1, .slice none 0 0, .slice none 0 0] 23)) [0] 1
    rw [World.size_alloc, World.size_alloc] at this
    exact this
  have k1 := hGR W1 HB1.out _ _ [[1], [], []] [0] hK1 hR1 (by simp) (by intro i; rcases i with _ | _ | _ | i <;> simp [Gr.kd]) (by simp)
  rw [small_chain.1, small_chain.2.1] at k1
  have hll : ∀ i, (Gr.kd [[1], [], []] i).length ≤ 9223372036854775807 := by intro i; rcases i with _ | _ | _ | i <;> simp [Gr.kd]
  clear hGR hK1 hR1
  go_enter Try.func15, Try.ntmps15
  go_wp2_with fail
  rw [← hW1]
  clear hW1
  refine k1.mono ?_
  rintro e w2 ⟨x2, rfl, o2, b2⟩
  have HB2 : Hid (Below w.heap.size w w2) := HB1.out.trans (b2.mono HB1.out.size)
  have HO2 : Hid (Bls w2 x2 [true, true, false]) := Bls.of_own o2
  clear k1 o2 b2 HB1
  obtain ⟨W3, hW3⟩ : ∃ W3, W3 = (w2.alloc (.cells #[.int .i64 1] 3)).alloc (.cells #[.slice (some ⟨w2.heap.size, 0, none⟩) 1 1, .slice none 0 0, .slice none 0 0] 23) := ⟨_, rfl⟩
  have hb3 : Below w2.heap.size w2 W3 := by rw [hW3]; exact ((Below.refl _ w2).alloc (Nat.le_refl _) _).alloc (by simp) _
  have HB3 : Hid (Below w.heap.size w W3) := HB2.out.trans (hb3.mono HB2.out.size)
  have HO3 : Hid (Bls W3 x2 [true, true, false]) := HO2.out.past hb3
  have k3 := hGO W3 HB3.out (.slice (some ⟨w2.heap.size + 1, 0, none⟩) 3 3) [[1], [], []] (by rw [hW3]; exact Kz.laid3 w2) (by simp) hll
  rw [small_chain.2.2.1, small_chain.2.2.2] at k3
  clear hGO HO2 HB2 hb3
  go_wp2_with fail
  rw [← hW3]
  clear hW3
  refine k3.mono ?_
  rintro e w4 ⟨x4, rfl, o4, b4⟩
  have HB4 : Hid (Below w.heap.size w w4) := HB3.out.trans (b4.mono HB3.out.size)
  have HO4 : Hid (Bls w4 x2 [true, true, false]) := HO3.out.past b4
  have HI4 : Hid (Ints w4 x4 [1, 0, 2]) := Ints.of_own o4
  clear k3 o4 b4 HB3 HO3
  obtain ⟨W5, hW5⟩ : ∃ W5, W5 = w4.alloc (.cells #[.bool true, .bool true, .bool false] 4) := ⟨_, rfl⟩
  have hb5 : Below w4.heap.size w4 W5 := by rw [hW5]; exact (Below.refl _ w4).alloc (Nat.le_refl _) _
  have HT5 : Hid (Bls W5 (.slice (some ⟨w4.heap.size, 0, none⟩) 3 3) [true, true, false]) := by rw [hW5]; exact Bls.laid w4 [true, true, false] 3
  have k5 := equal_bools x2 _ [true, true, false] W5 (HO4.out.past hb5) HT5.out (by simp)
  have HB5 : Hid (Below w.heap.size w W5) := HB4.out.trans (hb5.mono HB4.out.size)
  have HI5 : Hid (Ints W5 x4 [1, 0, 2]) := HI4.out.past hb5
  clear HB4 HO4 HI4 hb5 HT5
  go_wp2_with fail
  rw [← hW5]
  clear hW5
  refine k5.mono ?_
  rintro e w6 ⟨rfl, b6⟩
  have HB6 : Hid (Below w.heap.size w w6) := HB5.out.trans (b6.mono HB5.out.size)
  have HI6 : Hid (Ints w6 x4 [1, 0, 2]) := HI5.out.past b6
  clear HB5 HI5 k5 b6
  obtain ⟨W7, hW7⟩ : ∃ W7, W7 = w6.alloc (.cells #[.int .i64 1, .int .i64 0, .int .i64 2] 3) := ⟨_, rfl⟩
  have hb7 : Below w6.heap.size w6 W7 := by rw [hW7]; exact (Below.refl _ w6).alloc (Nat.le_refl _) _
  have HT7 : Hid (Ints W7 (.slice (some ⟨w6.heap.size, 0, none⟩) 3 3) [1, 0, 2]) := by rw [hW7]; exact Ints.laid w6 [1, 0, 2] 3
  have k7 := equal_ints x4 _ [1, 0, 2] W7 (HI6.out.past hb7) HT7.out (by simp)
  have HB7 : Hid (Below w.heap.size w W7) := HB6.out.trans (hb7.mono HB6.out.size)
  clear HB6 HI6 hb7 HT7
  go_wp2_with fail
  rw [← hW7]
  clear hW7
  refine k7.mono ?_
  rintro e w8 ⟨rfl, b8⟩
  have hB8 := HB7.out.trans (b8.mono HB7.out.size)
  clear k7 b8
  go_wp2_with fail
  go_ret
  exact ⟨rfl, hB8⟩

end Go.Proofs.Ytoibiaikbgkbpaa
