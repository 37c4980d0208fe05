/-
  What slices.Grow (of nil) and slices.Concat answer, at numbers.
-/
import Derived.Test.YtoohekdaihhflaaHfCodes
import Derived.Lib.AppendZerosOnto
namespace Go.Proofs.Ytoohekdaihhflaa
open Go.RowKit

set_option maxHeartbeats 2000000 in
theorem grow_nil (n : Nat) (w : World) (h1 : 1 ≤ n) (h2 : n ≤ 1000) :
    Calls Try.prog 51 #[.slice none 0 0, .int .i64 n] w fun e w' => ∃ v, e = .returned v ∧ w'.ownsRow w.heap.size 3 1 v 0 [] ∧ Below w.heap.size w w' := by
  obtain ⟨i0, hi, hz0, hz1, hz2⟩ := info_parts info_int
  have hge := grownCap_ge w n 0 3
  have hle := grownCap_le_maxLen w n 0 3 (by unfold maxLen; omega)
  have hr : ∀ ty, (Builtin.append_ #[22, 3] ty #[.slice none 0 0, .int .i64 n]).run Try.prog w = .ok (.slice (some ⟨w.heap.size, 0, none⟩) n (grownCap w n 0 3))
      (w.drew.alloc (.cells (([] : List Value).toArray ++ Builtin.zeroCells (Value.int .i64 0).cells n ++ Builtin.zeroCells (Value.int .i64 0).cells (grownCap w n 0 3 - n)) 3)) := fun ty => by
    have := Lib.run_append_grow_zeros w 22 3 ty 3 i0 (.int .i64 0) .i64 .i64 Try.underlying22 Try.underlying3 hi hz0 none 0 0 [] (run_firstCells_none w.drew i0.size 0 0 0) n (by omega) (by omega) (by omega) (by omega) (by rw [hz2]; omega) (growslice_fits (by omega) (by rw [hz2]; omega))
    rw [Nat.zero_add] at this
    exact this
  have HO : Hid (∀ W, W = w.drew.alloc (.cells (([] : List Value).toArray ++ Builtin.zeroCells (Value.int .i64 0).cells n ++ Builtin.zeroCells (Value.int .i64 0).cells (grownCap w n 0 3 - n)) 3) →
      W.ownsRow w.heap.size 3 1 (.slice (some ⟨w.heap.size, 0, none⟩) 0 (grownCap w n 0 3)) 0 [] ∧ Below w.heap.size w W) := by
    rintro W rfl
    refine ⟨?_, (Below.refl _ w).drew.alloc (Nat.le_refl _) _⟩
    refine World.ownsRow_made w.drew _ _ (Nat.le_refl _) hle ?_
    simp only [Array.size_append, List.size_toArray, size_zeroCells, List.length_nil]
    show 0 + n * 1 + (grownCap w n 0 3 - n) * 1 = grownCap w n 0 3 * 1
    omega
  generalize w.drew.alloc (.cells (([] : List Value).toArray ++ Builtin.zeroCells (Value.int .i64 0).cells n ++ Builtin.zeroCells (Value.int .i64 0).cells (grownCap w n 0 3 - n)) 3) = W at *
  generalize grownCap w n 0 3 = G at *
  unfold maxLen at hle
  go_enter Try.func51, Try.ntmps51
  go_wp2_with (at_builtin; refine Lib.wpList_append_run _ rfl _ _ _ _ rfl _ _ rfl rfl _ _ (hr _) ?_)
  all_goals go_ret
  all_goals exact ⟨_, rfl, HO.out _ rfl⟩

/-- the numbers of the first k parts -/
def catTo (ps : List (Value × List Int)) (k : Nat) : List Int := ((ps.take k).map (·.2)).flatten
theorem catTo_next (ps : List (Value × List Int)) (k : Nat) (hk : k < ps.length) : catTo ps (k + 1) = catTo ps k ++ ps[k].2 := by
  unfold catTo
  rw [List.take_succ_eq_append_getElem hk, List.map_append, List.flatten_append]
  simp
theorem catTo_le (ps : List (Value × List Int)) (k : Nat) (hk : k ≤ ps.length) : (catTo ps k).length ≤ (catTo ps ps.length).length := by
  obtain ⟨d, hd⟩ : ∃ d, ps.length = k + d := ⟨ps.length - k, by omega⟩
  rw [hd]
  clear hd hk
  induction d with
  | zero => exact Nat.le_refl _
  | succ d ih =>
    refine Nat.le_trans ih ?_
    by_cases h : k + d < ps.length
    · rw [← Nat.add_assoc, catTo_next _ _ h, List.length_append]
      omega
    · unfold catTo
      rw [List.take_of_length_le (by omega), List.take_of_length_le (by omega)]
      exact Nat.le_refl _

set_option maxHeartbeats 4000000 in
theorem concat_any (Bk b c : Nat) (ps : List (Value × List Int)) (w : World) (hB : Bk < w.heap.size) (hp : ps.length ≤ 4) (hc : ∀ j (hj : j < ps.length), w.cell? ⟨Bk, j, none⟩ = some ps[j].1)
    (hs : ∀ j (hj : j < ps.length), w.ownsRow b 3 1 ps[j].1 ps[j].2.length (ps[j].2.map Iv) ∧ 1 ≤ ps[j].2.length) (ht : (catTo ps ps.length).length ≤ 1000) (h1 : 1 ≤ (catTo ps ps.length).length) :
    Calls Try.prog 47 #[.slice (some ⟨Bk, 0, none⟩) ps.length c] w fun e w' => ∃ v, e = .returned v ∧ w'.ownsRow w.heap.size 3 1 v (catTo ps ps.length).length ((catTo ps ps.length).map Iv) ∧ Below w.heap.size w w' := by
  obtain ⟨i0, hi, hz0, hz1, hz2⟩ := info_parts info_int
  have HL : Hid (∀ k, k ≤ ps.length → (catTo ps k).length ≤ 1000) := fun k hk => Nat.le_trans (catTo_le ps k hk) ht
  have HC : Hid (∀ j (hj : j < ps.length), w.cell? ⟨Bk, j, none⟩ = some ps[j].1) := hc
  have HS : Hid (∀ j (hj : j < ps.length), w.ownsRow b 3 1 ps[j].1 ps[j].2.length (ps[j].2.map Iv) ∧ 1 ≤ ps[j].2.length) := hs
  have hg := fun W => grow_nil (catTo ps ps.length).length W h1 ht
  clear hc hs
  go_enter Try.func47, Try.ntmps47
  go_wp2_with fail
  go_loop [3, 11] (fun s i => ∃ k : Nat, k ≤ ps.length ∧ i = .int .i64 k ∧ s = .int .i64 (catTo ps k).length) (fun _ i => ps.length - (intOf i).toNat)
  case atStart => exact ⟨0, by omega, rfl, rfl⟩
  case round =>
    obtain ⟨k, hk, rfl, rfl⟩ := hrel
    by_cases hlt : k < ps.length
    · have hx := HC.out k hlt
      obtain ⟨ho, h1'⟩ := HS.out k hlt
      obtain ⟨g, cap, hv⟩ : ∃ g cap, ps[k].1 = .slice (some ⟨g, 0, none⟩) ps[k].2.length cap := by
        rcases ho.2 with ⟨_, h0⟩ | ⟨g, cap, _, hv, _⟩
        · omega
        · exact ⟨g, cap, hv⟩
      rw [hv] at hx
      have hl0 := HL.out k hk
      have hl1 := HL.out (k + 1) hlt
      have HN : Hid ((catTo ps (k + 1)).length = (catTo ps k).length + ps[k].2.length) := by show _ = _; rw [catTo_next ps k hlt, List.length_append]
      have hsum : (catTo ps k).length + ps[k].2.length ≤ 1000 := by rw [← HN.out]; exact hl1
      clear ho hv hl1
      generalize ps[k].2.length = m at *
      generalize (catTo ps k).length = S at *
      go_wp2_with fail
      go_round
      case rel => exact ⟨k + 1, by omega, by go_num, by rw [HN.out]; go_num⟩
      case measure => simp only [intOf]; omega
    · obtain rfl : k = ps.length := by omega
      go_wp2_with fail
      refine (hg _).mono ?_
      rintro e w1 ⟨v1, rfl, o1, hb1⟩
      clear hg
      have HB1 : Hid (Below w.heap.size w w1) := hb1
      have HO1 : Hid (w1.ownsRow w.heap.size 3 1 v1 0 []) := o1
      clear o1 hb1
      go_wp2_with fail
      go_loopw [6, 27] (fun v i wr => ∃ k : Nat, k ≤ ps.length ∧ i = .int .i64 k ∧ wr.ownsRow w.heap.size 3 1 v (catTo ps k).length ((catTo ps k).map Iv) ∧ Hid (Below w.heap.size w wr)) (fun _ i _ => ps.length - (intOf i).toNat)
      case atStart => exact ⟨0, by omega, rfl, HO1.out, HB1⟩
      case round =>
        obtain ⟨k, hk, rfl, hown, hbel⟩ := hrel
        by_cases hlt : k < ps.length
        · have hx := (hbel.out.cell (p := ⟨Bk, k, none⟩) hB).trans (HC.out k hlt)
          obtain ⟨ho, h1'⟩ := HS.out k hlt
          have ho' := row_below ho hbel.out
          obtain ⟨g, cap, hv⟩ : ∃ g cap, ps[k].1 = .slice (some ⟨g, 0, none⟩) ps[k].2.length cap := by
            rcases ho.2 with ⟨_, h0⟩ | ⟨g, cap, _, hv, _⟩
            · omega
            · exact ⟨g, cap, hv⟩
          rw [hv] at hx ho'
          have hl0 := HL.out k hk
          have hl1 := HL.out (k + 1) hlt
          have HT : Hid (catTo ps (k + 1) = catTo ps k ++ ps[k].2) := catTo_next ps k hlt
          have hsum : (catTo ps k).length + ps[k].2.length ≤ 1000 := by rw [← List.length_append, ← HT.out]; exact hl1
          have hcell : ∀ j u, (ps[k].2.map Iv)[j]? = some u → wr.cell? ((⟨g, 0, none⟩ : Addr).add j) = some u := fun j u hu => by
            have hj : j < ps[k].2.length := by
              have := (List.getElem?_eq_some_iff.1 hu).1
              simpa using this
            rw [show ((⟨g, 0, none⟩ : Addr).add j) = ⟨g, j, none⟩ from by unfold Addr.add; split <;> simp_all, ho'.cellAt j (by omega)]
            exact hu
          have hsz := hbel.out.size
          clear ho ho' hv hl1
          generalize ps[k].2 = m at *
          generalize catTo ps k = S at *
          go_wp2_with (at_builtin; refine wpList_append_own _ rfl (.tmp 31) (.tmp 32) 22 rfl w.heap.size 3 i0 (.int .i64 0) 1 8 Try.underlying22 hi hz0 hz1 hz2 rfl (by decide) _ _ _ rfl hown ⟨g, 0, none⟩ m.length _ (m.map Iv) rfl (by simp) hcell ?c2 ?c3 ?c4 ?c5 ?_)
          case c2 => intro u hu; obtain ⟨x, _, rfl⟩ := List.mem_map.1 hu; rfl
          case c3 => unfold maxLen; omega
          case c4 => omega
          case c5 => omega
          intro v1 w3 hown3 hgrow _
          have HO : Hid (w3.ownsRow w.heap.size 3 1 v1 (catTo ps (k + 1)).length ((catTo ps (k + 1)).map Iv)) := by rw [HT.out, List.length_append, List.map_append]; exact hown3
          have HB3 : Hid (Below w.heap.size w w3) := hbel.out.grown hgrow (by omega) fun j hj => (hown.lt j hj).1
          clear hown3 hgrow hown hbel hx hcell
          go_wp2_with fail
          go_roundw
          case rel => exact ⟨k + 1, by omega, by go_num, HO.out, HB3⟩
          case measure => simp only [intOf]; omega
        · obtain rfl : k = ps.length := by omega
          go_wp2_with fail
          go_ret
          exact ⟨_, rfl, hown, hbel.out⟩
end Go.Proofs.Ytoohekdaihhflaa
