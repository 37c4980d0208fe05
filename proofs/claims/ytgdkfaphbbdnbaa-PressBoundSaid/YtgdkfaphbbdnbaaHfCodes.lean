/-
  What Codes of package huff answers.
-/
import Derived.Test.YtgdkfaphbbdnbaaHfKraft
namespace Go.Proofs.Ytgdkfaphbbdnbaa
open Go.RowKit

theorem row_below {base : Nat} {e : TypeId} {k : Nat} {v : Value} {n : Nat} {xs : List Value} {w w' : World} (h : w.ownsRow base e k v n xs) (hb : Below w.heap.size w w') : w'.ownsRow base e k v n xs := by
  obtain ⟨h1, h2⟩ := h
  refine ⟨h1, ?_⟩
  rcases h2 with h2 | ⟨g, cap, cur, hv, hg, hh, r⟩
  · exact .inl h2
  · refine .inr ⟨g, cap, cur, hv, hg, ?_, r⟩
    rw [hb.block g ?_, hh]
    exact (Array.getElem?_eq_some_iff.1 hh).1
theorem row_lower {base base' : Nat} {e : TypeId} {k : Nat} {v : Value} {n : Nat} {xs : List Value} {w : World} (h : w.ownsRow base e k v n xs) (hb : base' ≤ base) : w.ownsRow base' e k v n xs := by
  obtain ⟨h1, h2⟩ := h
  refine ⟨h1, ?_⟩
  rcases h2 with h2 | ⟨g, cap, cur, hv, hg, r⟩
  · exact .inl h2
  · exact .inr ⟨g, cap, cur, hv, by omega, r⟩
/-- a row of noughts that was made -/
theorem made_zeros {base g n : Nat} {w : World} (h : w.ownsRow base 3 1 (.slice (some ⟨g, 0, none⟩) n n) n (madeCells (Value.int .i64 0).cells (n * 1)).toList) :
    w.ownsRow base 3 1 (.slice (some ⟨g, 0, none⟩) n n) n ((List.replicate n (0 : Int)).map Iv) := by
  have e : (madeCells (Value.int .i64 0).cells (n * 1)).toList = (List.replicate n (0 : Int)).map Iv := by
    rw [Nat.mul_one]
    refine List.ext_getElem (by simp [size_madeCells]) fun i h1 h2 => ?_
    simp [madeCells, Value.cells, Iv, Nat.mod_one]
  rw [← e]
  exact h
/-- a number stored in a row of one's own -/
theorem own_store {base g n cap : Nat} {w : World} {l : List Int} (h : w.ownsRow base 3 1 (.slice (some ⟨g, 0, none⟩) n cap) n (l.map Iv)) (k : Nat) (x : Int) :
    (w.setCell ⟨g, k, none⟩ (.int .i64 x)).ownsRow base 3 1 (.slice (some ⟨g, 0, none⟩) n cap) n ((l.set k x).map Iv) := by
  have := (h.stored k (.int .i64 x)).1
  rw [List.map_set]
  exact this
theorem own_at {base g n cap : Nat} {w : World} {l : List Int} (h : w.ownsRow base 3 1 (.slice (some ⟨g, 0, none⟩) n cap) n (l.map Iv)) (k : Nat) (hk : k < l.length) :
    w.cell? ⟨g, k, none⟩ = some (.int .i64 l[k]) := by
  have hn : l.length = n := by have := h.1; simpa using this
  rw [h.cellAt k (by omega), List.getElem?_map, List.getElem?_eq_getElem hk]
  rfl

set_option maxHeartbeats 1000000 in
theorem codes_bad (v : Value) (l : List Int) (w : World) (h : Ints w v l) (hl : l.length ≤ 140737488351232) (hb : Hf.sgn 48 l = false) :
    Calls Try.prog 28 #[v] w fun e w' => e = .returned (.tuple #[.slice none 0 0, .int .i64 1]) ∧ w' = w := by
  have hs := kraft_bad v l w h hl hb
  clear hb
  go_enter Try.func28, Try.ntmps28
  go_wp2_with fail
  refine hs.mono ?_
  rintro e w' ⟨rfl, rfl⟩
  go_wp2_with fail
  go_ret2
  exact ⟨rfl, rfl⟩

set_option maxHeartbeats 1000000 in
theorem codes_form (v : Value) (L : List Nat) (w : World) (h : Ints w v (Hf.up L)) (h1 : 1 ≤ L.length) (h2 : L.length ≤ 256) (h3 : ∀ n ∈ L, n ≤ 48) (hk : 281474976710656 < Hf.ksum L) :
    Calls Try.prog 28 #[v] w fun e w' => e = .returned (.tuple #[.slice none 0 0, .int .i64 4]) ∧ w' = w := by
  have hs := kraft_any v L w h h1 h2 h3
  have hb := Hf.kto_le L L.length
  rw [Hf.kto_all] at hb
  generalize Hf.ksum L = K at *
  clear h h3
  go_enter Try.func28, Try.ntmps28
  go_wp2_with fail
  refine hs.mono ?_
  rintro e w' ⟨rfl, rfl⟩
  go_wp2_with fail
  go_ret2
  exact ⟨rfl, rfl⟩

set_option maxRecDepth 4000 in
set_option maxHeartbeats 2000000 in
theorem codes_any (v : Value) (L : List Nat) (w : World) (h : Ints w v (Hf.up L)) (h1 : 1 ≤ L.length) (h2 : L.length ≤ 256) (h3 : ∀ n ∈ L, n ≤ 48) (hk : Hf.ksum L ≤ 281474976710656) :
    Calls Try.prog 28 #[v] w fun e w' => ∃ v', e = .returned (.tuple #[v', .int .i64 0]) ∧ w'.ownsRow w.heap.size 3 1 v' L.length ((Hf.codes L).map Iv) ∧ Below w.heap.size w w' := by
  have hs := kraft_any v L w h h1 h2 h3
  obtain ⟨i0, hi, hz0, hz1, hz2⟩ := info_parts info_int
  obtain ⟨a, c, rfl⟩ := h.slice
  rw [Hf.up_length] at h hs ⊢
  have HB : Hid (∀ b k, b ≤ 48 → Hf.nxt L b k ≤ 281474976710656) := fun b k hb => Hf.nxt_bound hb hk
  have H3 : Hid (∀ n ∈ L, n ≤ 48) := h3
  have HC : Hid (Hf.given L 49 0 = Hf.codes L) := Hf.given_end h3
  generalize Hf.ksum L = K at *
  clear h3
  go_enter Try.func28, Try.ntmps28
  go_wp2_with fail
  refine hs.mono ?_
  rintro e w' ⟨rfl, rfl⟩
  clear hs
  go_wp2_with (at_make; refine wpList_make_full _ rfl (.tmp 22) (.tmp 22) 31 rfl w'.heap.size 3 i0 (.int .i64 0) 1 Try.underlying31 hi hz0 hz1 .i64 .i64 _ _ L.length rfl rfl rfl rfl (by rw [hz2]; omega) (by unfold maxLen; omega) (Nat.le_refl _) ?_; intro w1 hown hgrow)
  have hown1 := made_zeros hown
  rw [← Hf.given_start] at hown1
  have HB1 : Hid (Below w'.heap.size w' w1) := (Below.refl _ _).grown hgrow (Nat.le_refl _) (fun k hk => by cases hk)
  clear hown hgrow
  go_wp2_with fail
  go_loopw [7, 8] (fun s i wr => ∃ b : Nat, b ≤ 48 ∧ i = .int .i64 ((b : Int) + 1) ∧ s = .int .i64 (Hf.nxt L b L.length : Nat) ∧ wr.ownsRow w'.heap.size 3 1 (.slice (some ⟨w'.heap.size, 0, none⟩) L.length L.length) L.length ((Hf.given L (b + 1) 0).map Iv) ∧ Hid (Below w'.heap.size w' wr)) (fun _ i _ => 49 - (intOf i).toNat)
  case atStart => exact ⟨0, by omega, rfl, by rw [Hf.nxt_zero]; rfl, hown1, HB1⟩
  case round =>
    obtain ⟨b, hb, rfl, rfl, hown, hbel⟩ := hrel
    by_cases hlt : b < 48
    · have hN := HB.out b L.length hb
      have HD : Hid (Hf.nxt L (b + 1) 0 = Hf.nxt L b L.length * 2) := Hf.nxt_double L b
      generalize Hf.nxt L b L.length = N at *
      go_wp2_with fail
      go_loopw [7, 32] (fun s i wr => ∃ k : Nat, k ≤ L.length ∧ i = .int .i64 k ∧ s = .int .i64 (Hf.nxt L (b + 1) k : Nat) ∧ wr.ownsRow w'.heap.size 3 1 (.slice (some ⟨w'.heap.size, 0, none⟩) L.length L.length) L.length ((Hf.given L (b + 1) k).map Iv) ∧ Hid (Below w'.heap.size w' wr)) (fun _ i _ => L.length - (intOf i).toNat)
      case atStart => exact ⟨0, by omega, rfl, by rw [HD.out]; go_num, hown, hbel⟩
      case round =>
        obtain ⟨k, hkl, rfl, rfl, hown, hbel⟩ := hrel
        by_cases hlt2 : k < L.length
        · obtain ⟨bk, o, rfl, hbk, c0⟩ := (h.below (Nat.le_refl _) hbel.out).getN k hlt2
          have hM := HB.out (b + 1) k (by omega)
          have hn := Hf.getD_le H3.out k
          by_cases hnb : L.getD k 0 = b + 1
          · have HH : Hid (Hf.nxt L (b + 1) (k + 1) = Hf.nxt L (b + 1) k + 1) := Hf.nxt_hit hlt2 (by omega) hnb
            have HG : Hid (Hf.given L (b + 1) (k + 1) = (Hf.given L (b + 1) k).set k (Hf.nxt L (b + 1) k : Nat)) := Hf.given_hit (by omega) hnb
            rw [hnb] at c0
            clear hnb hn
            generalize Hf.nxt L (b + 1) k = M at *
            have x1 := own_at hown k (by rw [Hf.given_length]; exact hlt2)
            have x2 := hown.frozenAt k
            generalize (Hf.given L (b + 1) k)[k]'(by rw [Hf.given_length]; exact hlt2) = x at *
            have HO := own_store hown k (M : Int)
            rw [← HG.out] at HO
            have HO' : Hid ((wr.setCell ⟨w'.heap.size, k, none⟩ (.int .i64 (M : Int))).ownsRow w'.heap.size 3 1 (.slice (some ⟨w'.heap.size, 0, none⟩) L.length L.length) L.length ((Hf.given L (b + 1) (k + 1)).map Iv)) := HO
            have HB2 : Hid (Below w'.heap.size w' (wr.setCell ⟨w'.heap.size, k, none⟩ (.int .i64 (M : Int)))) := hbel.out.setCell (Nat.le_refl _) _
            clear HO hown
            go_wp2_with fail
            go_roundw
            case rel => exact ⟨k + 1, by omega, by go_num, by rw [HH.out]; go_num, HO'.out, HB2⟩
            case measure => simp only [intOf]; omega
          · have HH : Hid (Hf.nxt L (b + 1) (k + 1) = Hf.nxt L (b + 1) k) := Hf.nxt_miss hnb
            have HG : Hid (Hf.given L (b + 1) (k + 1) = Hf.given L (b + 1) k) := Hf.given_miss hnb
            generalize L.getD k 0 = n at *
            generalize Hf.nxt L (b + 1) k = M at *
            go_wp2_with fail
            go_roundw
            case rel => exact ⟨k + 1, by omega, by go_num, by rw [HH.out], by rw [HG.out]; exact hown, hbel⟩
            case measure => simp only [intOf]; omega
        · obtain rfl : k = L.length := by omega
          rw [Hf.given_next] at hown
          go_wp2_with fail
          go_roundw
          case rel => exact ⟨b + 1, by omega, by go_num, rfl, hown, hbel⟩
          case measure => simp only [intOf]; omega
    · obtain rfl : b = 48 := by omega
      have HO : Hid (wr.ownsRow w'.heap.size 3 1 (.slice (some ⟨w'.heap.size, 0, none⟩) L.length L.length) L.length ((Hf.codes L).map Iv)) := by rw [← HC.out]; exact hown
      clear hown
      generalize Hf.nxt L 48 L.length = N at *
      go_wp2_with fail
      go_ret2
      exact ⟨_, rfl, HO.out, hbel.out⟩
end Go.Proofs.Ytgdkfaphbbdnbaa
