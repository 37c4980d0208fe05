/-
  Numbers as they lie in memory; what allSigns and Kraft of package huff answer.
  What Kraft of package huff answers.
  What Codes of package huff answers.
  What stays: every block of which something holds.
  Heaps of signs as they lie in memory; what comesFirst, size and swap of package huff do.
  What swap of package huff does.
  What leastAt of package huff answers.
  What take of package huff does.
-/
import Derived.Test.YtgdkfaphbbdnbaaGNum
import Derived.Test.YtgdkfaphbbdnbaaGHfM
import Derived.Test.YtgdkfaphbbdnbaaGLzA
import Derived.Deep.Cut
import Derived.Below
import Derived.WalkKit
import Derived.BigRegion
import Derived.BigQuiet

namespace Go.Proofs.Ytgdkfaphbbdnbaa
open Go.RowKit

/-- numbers that lie in memory -/
structure Ints (w : World) (v : Value) (l : List Int) : Prop where
  at_ : ((∃ a c, v = .slice a 0 c) ∧ l = []) ∨ ∃ bk o cap, v = .slice (some ⟨bk, o, none⟩) l.length cap ∧ bk < w.heap.size ∧
    ∀ j (hj : j < l.length), w.cell? ⟨bk, o + j, none⟩ = some (.int .i64 l[j])
theorem Ints.slice {w : World} {v : Value} {l : List Int} (h : Ints w v l) : ∃ a c, v = .slice a l.length c := by
  rcases h.at_ with ⟨⟨a, c, rfl⟩, rfl⟩ | ⟨bk, o, cap, rfl, _⟩
  · exact ⟨_, _, rfl⟩
  · exact ⟨_, _, rfl⟩
theorem Ints.below {w w' : World} {v : Value} {l : List Int} (h : Ints w v l) {B : Nat} (hB : w.heap.size ≤ B) (hb : Below B w w') : Ints w' v l := by
  rcases h.at_ with h | ⟨bk, o, cap, h1, h3, h4⟩
  · exact ⟨.inl h⟩
  · exact ⟨.inr ⟨bk, o, cap, h1, Nat.lt_of_lt_of_le h3 hb.size, fun j hj => (hb.cell (p := ⟨bk, o + j, none⟩) (Nat.lt_of_lt_of_le h3 hB)).trans (h4 j hj)⟩⟩
/-- one of them -/
theorem Ints.get {w : World} {a : Option Addr} {n c : Nat} {l : List Int} (h : Ints w (.slice a n c) l) (j : Nat) (hj : j < l.length) : ∃ bk o, a = some ⟨bk, o, none⟩ ∧ n = l.length ∧ bk < w.heap.size ∧
    w.cell? ⟨bk, o + j, none⟩ = some (.int .i64 l[j]) := by
  rcases h.at_ with ⟨_, rfl⟩ | ⟨bk, o, cap, h1, h3, h4⟩
  · simp at hj
  · simp at h1
    obtain ⟨rfl, rfl, rfl⟩ := h1
    exact ⟨bk, o, rfl, rfl, h3, h4 j hj⟩
theorem Ints.getN {w : World} {a : Option Addr} {n c : Nat} {L : List Nat} (h : Ints w (.slice a n c) (Hf.up L)) (j : Nat) (hj : j < L.length) : ∃ bk o, a = some ⟨bk, o, none⟩ ∧ bk < w.heap.size ∧
    w.cell? ⟨bk, o + j, none⟩ = some (.int .i64 (L.getD j 0 : Nat)) := by
  obtain ⟨bk, o, h1, _, h2, h3⟩ := h.get j (by rw [Hf.up_length]; exact hj)
  exact ⟨bk, o, h1, h2, h3.trans (by rw [Hf.up_get])⟩
def Iv (n : Int) : Value := .int .i64 n
theorem info_int : (Try.prog.info? 3).map (fun i => (i.zero, i.size, i.bytes)) = some (some (.int .i64 0), 1, 8) := by kernel_rfl
theorem Ints.of_own {base : Nat} {w : World} {v : Value} {l : List Int} (h : w.ownsRow base 3 1 v l.length (l.map Iv)) : Ints w v l := by
  rcases h.2 with ⟨rfl, h0⟩ | ⟨g, cap, cur, rfl, hg, hh, _⟩
  · exact ⟨.inl ⟨⟨_, _, rfl⟩, List.length_eq_zero_iff.1 h0⟩⟩
  · refine ⟨.inr ⟨g, 0, cap, rfl, (Array.getElem?_eq_some_iff.1 hh).1, fun j hj => ?_⟩⟩
    have e := h.cellAt j (by omega)
    rw [Nat.zero_add, e, List.getElem?_map, List.getElem?_eq_getElem hj]
    rfl

namespace Hf
theorem sgn_empty (most : Int) : sgn most [] = false := decide_eq_false (by simp)
theorem sgn_long {most : Int} {l : List Int} (h : 256 < l.length) : sgn most l = false := decide_eq_false (by omega)
theorem sgn_one {most : Int} {l : List Int} (j : Nat) (hj : j < l.length) (h : l[j] < 0 ∨ most < l[j]) : sgn most l = false :=
  decide_eq_false fun ⟨_, _, h3⟩ => by have := h3 _ (List.getElem_mem hj); omega
theorem sgn_all {most : Int} {l : List Int} (h1 : 1 ≤ l.length) (h2 : l.length ≤ 256) (h : ∀ j (hj : j < l.length), 0 ≤ l[j] ∧ l[j] ≤ most) : sgn most l = true :=
  decide_eq_true ⟨h1, h2, fun n hn => by obtain ⟨j, hj, rfl⟩ := List.getElem_of_mem hn; exact h j hj⟩
end Hf

set_option maxHeartbeats 1000000 in
theorem signs_any (v : Value) (l : List Int) (most : Int) (w : World) (h : Ints w v l) (hl : l.length ≤ 140737488351232) :
    Calls Try.prog 53 #[v, .int .i64 most] w fun e w' => e = .returned (.bool (Hf.sgn most l)) ∧ w' = w := by
  obtain ⟨a, c, rfl⟩ := h.slice
  by_cases h0 : l.length < 1
  · have HK : Hid (Hf.sgn most l = false) := decide_eq_false (by omega)
    go_enter Try.func53, Try.ntmps53
    go_wp2_with fail
    go_ret
    exact ⟨by rw [HK.out]; rfl, rfl⟩
  by_cases h1 : 256 < l.length
  · have HK : Hid (Hf.sgn most l = false) := Hf.sgn_long h1
    go_enter Try.func53, Try.ntmps53
    go_wp2_with fail
    go_ret
    exact ⟨by rw [HK.out]; rfl, rfl⟩
  go_enter Try.func53, Try.ntmps53
  go_wp2_with fail
  go_loop [17] (fun i => ∃ k : Nat, k ≤ l.length ∧ i = .int .i64 k ∧ Hid (∀ j (hj : j < l.length), j < k → 0 ≤ l[j] ∧ l[j] ≤ most)) (fun i => l.length - (intOf i).toNat)
  case atStart => exact ⟨0, by omega, rfl, fun j _ h => by omega⟩
  case round =>
    obtain ⟨k, hk, rfl, hall⟩ := hrel
    by_cases hlt : k < l.length
    · obtain ⟨bk, o, rfl, _, hbk, c0⟩ := h.get k hlt
      generalize ht : l[k] = t at *
      have HT : Hid (l[k] = t) := ht
      clear ht h
      by_cases hb : t < 0 ∨ most < t
      · have HK : Hid (Hf.sgn most l = false) := Hf.sgn_one k hlt (by rw [HT.out]; exact hb)
        rcases hb with hb | hb
        · go_wp2_with fail
          go_ret
          exact ⟨by rw [HK.out]; rfl, rfl⟩
        · by_cases hb' : t < 0
          all_goals
            go_wp2_with fail
            go_ret
            exact ⟨by rw [HK.out]; rfl, rfl⟩
      · have hb1 : 0 ≤ t := by omega
        have hb2 : t ≤ most := by omega
        clear hb
        go_wp2_with fail
        go_round
        case rel =>
          refine ⟨k + 1, by omega, by go_num, fun j hj hjk => ?_⟩
          by_cases e : j = k
          · subst e; rw [HT.out]; exact ⟨hb1, hb2⟩
          · exact hall.out j hj (by omega)
        case measure => simp only [intOf]; omega
    · have HK : Hid (Hf.sgn most l = true) := Hf.sgn_all (by omega) (by omega) fun j hj => hall.out j hj (by omega)
      go_wp2_with fail
      go_ret
      exact ⟨by rw [HK.out]; rfl, rfl⟩
end Go.Proofs.Ytgdkfaphbbdnbaa

namespace Go.Proofs.Ytgdkfaphbbdnbaa
open Go.RowKit

theorem shr_full {n : Nat} (hn : n ≤ 48) : (281474976710656 : Int) / 2 ^ n = ((2 ^ (48 - n) : Nat) : Int) ∧ 2 ^ (48 - n) ≤ 281474976710656 := by
  have e : (281474976710656 : Nat) = 2 ^ n * 2 ^ (48 - n) := by
    rw [← Nat.pow_add, show n + (48 - n) = 48 from by omega]
  have hp := Nat.two_pow_pos n
  constructor
  · have : (281474976710656 : Nat) / 2 ^ n = 2 ^ (48 - n) := by rw [e, Nat.mul_div_cancel_left _ hp]
    rw [← this]
    simp
  · generalize 2 ^ (48 - n) = x at *
    rw [e]
    exact Nat.le_mul_of_pos_left _ hp

set_option maxHeartbeats 1000000 in
theorem kraft_bad (v : Value) (l : List Int) (w : World) (h : Ints w v l) (hl : l.length ≤ 140737488351232) (hb : Hf.sgn 48 l = false) :
    Calls Try.prog 59 #[v] w fun e w' => e = .returned (.tuple #[.int .i64 0, .int .i64 1]) ∧ w' = w := by
  have hs := signs_any v l 48 w h hl
  rw [hb] at hs
  clear hb
  go_enter Try.func59, Try.ntmps59
  go_wp2_with fail
  refine hs.mono ?_
  rintro e w' ⟨rfl, rfl⟩
  go_wp2_with fail
  go_ret2
  exact ⟨rfl, rfl⟩

set_option maxHeartbeats 1000000 in
theorem kraft_any (v : Value) (L : List Nat) (w : World) (h : Ints w v (Hf.up L)) (h1 : 1 ≤ L.length) (h2 : L.length ≤ 256) (h3 : ∀ n ∈ L, n ≤ 48) :
    Calls Try.prog 59 #[v] w fun e w' => e = .returned (.tuple #[.int .i64 (Hf.ksum L : Nat), .int .i64 0]) ∧ w' = w := by
  have hs := signs_any v (Hf.up L) 48 w h (by rw [Hf.up_length]; omega)
  rw [show Hf.sgn 48 (Hf.up L) = true from Hf.sgn_all (by rw [Hf.up_length]; exact h1) (by rw [Hf.up_length]; exact h2) fun j hj => by
    rw [Hf.up_get]; have := Hf.getD_le h3 j; omega] at hs
  obtain ⟨a, c, rfl⟩ := h.slice
  rw [Hf.up_length] at h hs ⊢
  have H3 : Hid (∀ n ∈ L, n ≤ 48) := h3
  clear h3
  go_enter Try.func59, Try.ntmps59
  go_wp2_with fail
  refine hs.mono ?_
  rintro e w' ⟨rfl, rfl⟩
  clear hs
  go_wp2_with fail
  go_loop [4, 12] (fun s i => ∃ k : Nat, k ≤ L.length ∧ i = .int .i64 k ∧ s = .int .i64 (Hf.kto L k : Nat)) (fun _ i => L.length - (intOf i).toNat)
  case atStart => exact ⟨0, by omega, rfl, rfl⟩
  case round =>
    obtain ⟨k, hk, rfl, rfl⟩ := hrel
    by_cases hlt : k < L.length
    · obtain ⟨bk, o, rfl, hbk, c0⟩ := h.getN k hlt
      have hkl := Hf.kto_le L k
      have hn := Hf.getD_le H3.out k
      have HS : Hid (Hf.kto L (k + 1) = Hf.kto L k + if 0 < L.getD k 0 then 2 ^ (48 - L.getD k 0) else 0) := Hf.kto_succ L k
      generalize L.getD k 0 = n at *
      generalize Hf.kto L k = S at *
      clear h
      by_cases hn0 : 0 < n
      · obtain ⟨hsh, hpb⟩ := shr_full hn
        have HP : Hid (Hf.kto L (k + 1) = S + 2 ^ (48 - n)) := by rw [HS.out, if_pos hn0]; rfl
        generalize 2 ^ (48 - n) = p at *
        clear HS
        go_wp2_with fail
        go_round
        case rel => exact ⟨k + 1, by omega, by go_num, by rw [HP.out]; go_num⟩
        case measure => simp only [intOf]; omega
      · go_wp2_with fail
        go_round
        case rel => exact ⟨k + 1, by omega, by go_num, by rw [HS.out, if_neg hn0]; go_num⟩
        case measure => simp only [intOf]; omega
    · obtain rfl : k = L.length := by omega
      go_wp2_with fail
      go_ret2
      exact ⟨by rw [Hf.kto_all]; rfl, rfl⟩
end Go.Proofs.Ytgdkfaphbbdnbaa

namespace Go.Proofs.Ytgdkfaphbbdnbaa
open Go.RowKit

theorem row_below {base : Nat} {e : TypeId} {k : Nat} {v : Value} {n : Nat} {xs : List Value} {w w' : World} (h : w.ownsRow base e k v n xs) (hb : Below w.heap.size w w') : w'.ownsRow base e k v n xs := by
  obtain ⟨h1, h2⟩ := h
  refine ⟨h1, ?_⟩
  rcases h2 with h2 | ⟨g, cap, cur, hv, hg, hh, r⟩
  · exact .inl h2
  · refine .inr ⟨g, cap, cur, hv, hg, ?_, r⟩
    rw [hb.block g ?_, hh]
    exact (Array.getElem?_eq_some_iff.1 hh).1
theorem row_lower {base base' : Nat} {e : TypeId} {k : Nat} {v : Value} {n : Nat} {xs : List Value} {w : World} (h : w.ownsRow base e k v n xs) (hb : base' ≤ base) : w.ownsRow base' e k v n xs := by
  obtain ⟨h1, h2⟩ := h
  refine ⟨h1, ?_⟩
  rcases h2 with h2 | ⟨g, cap, cur, hv, hg, r⟩
  · exact .inl h2
  · exact .inr ⟨g, cap, cur, hv, by omega, r⟩
/-- a row of noughts that was made -/
theorem made_zeros {base g n : Nat} {w : World} (h : w.ownsRow base 3 1 (.slice (some ⟨g, 0, none⟩) n n) n (madeCells (Value.int .i64 0).cells (n * 1)).toList) :
    w.ownsRow base 3 1 (.slice (some ⟨g, 0, none⟩) n n) n ((List.replicate n (0 : Int)).map Iv) := by
  have e : (madeCells (Value.int .i64 0).cells (n * 1)).toList = (List.replicate n (0 : Int)).map Iv := by
    rw [Nat.mul_one]
    refine List.ext_getElem (by simp [size_madeCells]) fun i h1 h2 => ?_
    simp [madeCells, Value.cells, Iv, Nat.mod_one]
  rw [← e]
  exact h
/-- a number stored in a row of one's own -/
theorem own_store {base g n cap : Nat} {w : World} {l : List Int} (h : w.ownsRow base 3 1 (.slice (some ⟨g, 0, none⟩) n cap) n (l.map Iv)) (k : Nat) (x : Int) :
    (w.setCell ⟨g, k, none⟩ (.int .i64 x)).ownsRow base 3 1 (.slice (some ⟨g, 0, none⟩) n cap) n ((l.set k x).map Iv) := by
  have := (h.stored k (.int .i64 x)).1
  rw [List.map_set]
  exact this
theorem own_at {base g n cap : Nat} {w : World} {l : List Int} (h : w.ownsRow base 3 1 (.slice (some ⟨g, 0, none⟩) n cap) n (l.map Iv)) (k : Nat) (hk : k < l.length) :
    w.cell? ⟨g, k, none⟩ = some (.int .i64 l[k]) := by
  have hn : l.length = n := by have := h.1; simpa using this
  rw [h.cellAt k (by omega), List.getElem?_map, List.getElem?_eq_getElem hk]
  rfl

set_option maxHeartbeats 1000000 in
theorem codes_bad (v : Value) (l : List Int) (w : World) (h : Ints w v l) (hl : l.length ≤ 140737488351232) (hb : Hf.sgn 48 l = false) :
    Calls Try.prog 28 #[v] w fun e w' => e = .returned (.tuple #[.slice none 0 0, .int .i64 1]) ∧ w' = w := by
  have hs := kraft_bad v l w h hl hb
  clear hb
  go_enter Try.func28, Try.ntmps28
  go_wp2_with fail
  refine hs.mono ?_
  rintro e w' ⟨rfl, rfl⟩
  go_wp2_with fail
  go_ret2
  exact ⟨rfl, rfl⟩

set_option maxHeartbeats 1000000 in
theorem codes_form (v : Value) (L : List Nat) (w : World) (h : Ints w v (Hf.up L)) (h1 : 1 ≤ L.length) (h2 : L.length ≤ 256) (h3 : ∀ n ∈ L, n ≤ 48) (hk : 281474976710656 < Hf.ksum L) :
    Calls Try.prog 28 #[v] w fun e w' => e = .returned (.tuple #[.slice none 0 0, .int .i64 4]) ∧ w' = w := by
  have hs := kraft_any v L w h h1 h2 h3
  have hb := Hf.kto_le L L.length
  rw [Hf.kto_all] at hb
  generalize Hf.ksum L = K at *
  clear h h3
  go_enter Try.func28, Try.ntmps28
  go_wp2_with fail
  refine hs.mono ?_
  rintro e w' ⟨rfl, rfl⟩
  go_wp2_with fail
  go_ret2
  exact ⟨rfl, rfl⟩

set_option maxRecDepth 4000 in
set_option maxHeartbeats 2000000 in
theorem codes_any (v : Value) (L : List Nat) (w : World) (h : Ints w v (Hf.up L)) (h1 : 1 ≤ L.length) (h2 : L.length ≤ 256) (h3 : ∀ n ∈ L, n ≤ 48) (hk : Hf.ksum L ≤ 281474976710656) :
    Calls Try.prog 28 #[v] w fun e w' => ∃ v', e = .returned (.tuple #[v', .int .i64 0]) ∧ w'.ownsRow w.heap.size 3 1 v' L.length ((Hf.codes L).map Iv) ∧ Below w.heap.size w w' := by
  have hs := kraft_any v L w h h1 h2 h3
  obtain ⟨i0, hi, hz0, hz1, hz2⟩ := info_parts info_int
  obtain ⟨a, c, rfl⟩ := h.slice
  rw [Hf.up_length] at h hs ⊢
  have HB : Hid (∀ b k, b ≤ 48 → Hf.nxt L b k ≤ 281474976710656) := fun b k hb => Hf.nxt_bound hb hk
  have H3 : Hid (∀ n ∈ L, n ≤ 48) := h3
  have HC : Hid (Hf.given L 49 0 = Hf.codes L) := Hf.given_end h3
  generalize Hf.ksum L = K at *
  clear h3
  go_enter Try.func28, Try.ntmps28
  go_wp2_with fail
  refine hs.mono ?_
  rintro e w' ⟨rfl, rfl⟩
  clear hs
  go_wp2_with (at_make; refine wpList_make_full _ rfl (.tmp 22) (.tmp 22) 31 rfl w'.heap.size 3 i0 (.int .i64 0) 1 Try.underlying31 hi hz0 hz1 .i64 .i64 _ _ L.length rfl rfl rfl rfl (by rw [hz2]; omega) (by unfold maxLen; omega) (Nat.le_refl _) ?_; intro w1 hown hgrow)
  have hown1 := made_zeros hown
  rw [← Hf.given_start] at hown1
  have HB1 : Hid (Below w'.heap.size w' w1) := (Below.refl _ _).grown hgrow (Nat.le_refl _) (fun k hk => by cases hk)
  clear hown hgrow
  go_wp2_with fail
  go_loopw [7, 8] (fun s i wr => ∃ b : Nat, b ≤ 48 ∧ i = .int .i64 ((b : Int) + 1) ∧ s = .int .i64 (Hf.nxt L b L.length : Nat) ∧ wr.ownsRow w'.heap.size 3 1 (.slice (some ⟨w'.heap.size, 0, none⟩) L.length L.length) L.length ((Hf.given L (b + 1) 0).map Iv) ∧ Hid (Below w'.heap.size w' wr)) (fun _ i _ => 49 - (intOf i).toNat)
  case atStart => exact ⟨0, by omega, rfl, by rw [Hf.nxt_zero]; rfl, hown1, HB1⟩
  case round =>
    obtain ⟨b, hb, rfl, rfl, hown, hbel⟩ := hrel
    by_cases hlt : b < 48
    · have hN := HB.out b L.length hb
      have HD : Hid (Hf.nxt L (b + 1) 0 = Hf.nxt L b L.length * 2) := Hf.nxt_double L b
      generalize Hf.nxt L b L.length = N at *
      go_wp2_with fail
      go_loopw [7, 32] (fun s i wr => ∃ k : Nat, k ≤ L.length ∧ i = .int .i64 k ∧ s = .int .i64 (Hf.nxt L (b + 1) k : Nat) ∧ wr.ownsRow w'.heap.size 3 1 (.slice (some ⟨w'.heap.size, 0, none⟩) L.length L.length) L.length ((Hf.given L (b + 1) k).map Iv) ∧ Hid (Below w'.heap.size w' wr)) (fun _ i _ => L.length - (intOf i).toNat)
      case atStart => exact ⟨0, by omega, rfl, by rw [HD.out]; go_num, hown, hbel⟩
      case round =>
        obtain ⟨k, hkl, rfl, rfl, hown, hbel⟩ := hrel
        by_cases hlt2 : k < L.length
        · obtain ⟨bk, o, rfl, hbk, c0⟩ := (h.below (Nat.le_refl _) hbel.out).getN k hlt2
          have hM := HB.out (b + 1) k (by omega)
          have hn := Hf.getD_le H3.out k
          by_cases hnb : L.getD k 0 = b + 1
          · have HH : Hid (Hf.nxt L (b + 1) (k + 1) = Hf.nxt L (b + 1) k + 1) := Hf.nxt_hit hlt2 (by omega) hnb
            have HG : Hid (Hf.given L (b + 1) (k + 1) = (Hf.given L (b + 1) k).set k (Hf.nxt L (b + 1) k : Nat)) := Hf.given_hit (by omega) hnb
            rw [hnb] at c0
            clear hnb hn
            generalize Hf.nxt L (b + 1) k = M at *
            have x1 := own_at hown k (by rw [Hf.given_length]; exact hlt2)
            have x2 := hown.frozenAt k
            generalize (Hf.given L (b + 1) k)[k]'(by rw [Hf.given_length]; exact hlt2) = x at *
            have HO := own_store hown k (M : Int)
            rw [← HG.out] at HO
            have HO' : Hid ((wr.setCell ⟨w'.heap.size, k, none⟩ (.int .i64 (M : Int))).ownsRow w'.heap.size 3 1 (.slice (some ⟨w'.heap.size, 0, none⟩) L.length L.length) L.length ((Hf.given L (b + 1) (k + 1)).map Iv)) := HO
            have HB2 : Hid (Below w'.heap.size w' (wr.setCell ⟨w'.heap.size, k, none⟩ (.int .i64 (M : Int)))) := hbel.out.setCell (Nat.le_refl _) _
            clear HO hown
            go_wp2_with fail
            go_roundw
            case rel => exact ⟨k + 1, by omega, by go_num, by rw [HH.out]; go_num, HO'.out, HB2⟩
            case measure => simp only [intOf]; omega
          · have HH : Hid (Hf.nxt L (b + 1) (k + 1) = Hf.nxt L (b + 1) k) := Hf.nxt_miss hnb
            have HG : Hid (Hf.given L (b + 1) (k + 1) = Hf.given L (b + 1) k) := Hf.given_miss hnb
            generalize L.getD k 0 = n at *
            generalize Hf.nxt L (b + 1) k = M at *
            go_wp2_with fail
            go_roundw
            case rel => exact ⟨k + 1, by omega, by go_num, by rw [HH.out], by rw [HG.out]; exact hown, hbel⟩
            case measure => simp only [intOf]; omega
        · obtain rfl : k = L.length := by omega
          rw [Hf.given_next] at hown
          go_wp2_with fail
          go_roundw
          case rel => exact ⟨b + 1, by omega, by go_num, rfl, hown, hbel⟩
          case measure => simp only [intOf]; omega
    · obtain rfl : b = 48 := by omega
      have HO : Hid (wr.ownsRow w'.heap.size 3 1 (.slice (some ⟨w'.heap.size, 0, none⟩) L.length L.length) L.length ((Hf.codes L).map Iv)) := by rw [← HC.out]; exact hown
      clear hown
      generalize Hf.nxt L 48 L.length = N at *
      go_wp2_with fail
      go_ret2
      exact ⟨_, rfl, HO.out, hbel.out⟩
end Go.Proofs.Ytgdkfaphbbdnbaa

namespace Go.Proofs.Ytgdkfaphbbdnbaa
open Go.RowKit

/-- every block that was there, and of which p holds, is as it was -/
structure Kept (p : Nat → Prop) (A B : World) : Prop where
  os : B.os = A.os
  tape : B.tape = A.tape
  output : B.output = A.output
  size : A.heap.size ≤ B.heap.size
  block : ∀ k, k < A.heap.size → p k → B.heap[k]? = A.heap[k]?

theorem Kept.refl (p : Nat → Prop) (A : World) : Kept p A A := ⟨rfl, rfl, rfl, Nat.le_refl _, fun _ _ _ => rfl⟩
theorem Kept.trans {p : Nat → Prop} {A B C : World} (h : Kept p A B) (k : Kept p B C) : Kept p A C :=
  ⟨k.os.trans h.os, k.tape.trans h.tape, k.output.trans h.output, Nat.le_trans h.size k.size, fun i hi hp => (k.block i (Nat.lt_of_lt_of_le hi h.size) hp).trans (h.block i hi hp)⟩
theorem Kept.mono {p q : Nat → Prop} {A B : World} (h : Kept p A B) (hpq : ∀ k, q k → p k) : Kept q A B :=
  ⟨h.os, h.tape, h.output, h.size, fun k hk hq => h.block k hk (hpq k hq)⟩
theorem Kept.of_below {p : Nat → Prop} {A B : World} (h : Below A.heap.size A B) : Kept p A B := ⟨h.os, h.tape, h.output, h.size, fun k hk _ => h.block k hk⟩
theorem Kept.of_below_at {p : Nat → Prop} {n : Nat} {A B : World} (h : Below n A B) (hp : ∀ k, p k → k < n) : Kept p A B := ⟨h.os, h.tape, h.output, h.size, fun k _ hk => h.block k (hp k hk)⟩
theorem Kept.below {p : Nat → Prop} {A B : World} (h : Kept p A B) {n : Nat} (hn : n ≤ A.heap.size) (hp : ∀ k, k < n → p k) : Below n A B :=
  ⟨h.os, h.tape, h.output, h.size, fun k hk => h.block k (by omega) (hp k hk)⟩
theorem Kept.alloc {p : Nat → Prop} {A B : World} (h : Kept p A B) (o : Obj) : Kept p A (B.alloc o) :=
  h.trans (Kept.of_below ((Below.refl _ B).alloc (Nat.le_refl _) o))
theorem Kept.drew {p : Nat → Prop} {A B : World} (h : Kept p A B) : Kept p A B.drew := ⟨h.os, h.tape, h.output, h.size, h.block⟩
theorem Kept.setCell {p : Nat → Prop} {A B : World} (h : Kept p A B) {a : Addr} (ha : ¬ p a.block) (v : Value) : Kept p A (B.setCell a v) :=
  h.trans ⟨rfl, rfl, rfl, by simp [World.setCell], fun k _ hk => Below.heap_setCell _ _ _ _ (fun e => ha (by rw [← e]; exact hk))⟩
theorem Kept.grown {p : Nat → Prop} {A B C : World} {row : Option Nat} (h : Kept p A B) (hg : B.grownBy C row) (hr : ∀ k, row = some k → ¬ p k) : Kept p A C :=
  h.trans ⟨hg.os, hg.tape, hg.output, hg.size, fun k hk hp => hg.block k hk (fun e => hr k e.symm hp)⟩
theorem Kept.obj {p : Nat → Prop} {A B : World} (h : Kept p A B) {k : Nat} {o : Obj} (hk : p k) (ho : A.heap[k]? = some o) : B.heap[k]? = some o :=
  (h.block k (Array.getElem?_eq_some_iff.1 ho).1 hk).trans ho
end Go.Proofs.Ytgdkfaphbbdnbaa

namespace Go.Proofs.Ytgdkfaphbbdnbaa
open Go.RowKit

def gC (g : Hf.G) : List Value := [.int .i64 g.wt, .int .i64 g.low, g.sv]
def gV (g : Hf.G) : Value := .agg #[.int .i64 g.wt, .int .i64 g.low, g.sv]
def rowG (l : List Hf.G) : List Value := l.flatMap gC
theorem rowG_length (l : List Hf.G) : (rowG l).length = 3 * l.length := by
  induction l with
  | nil => rfl
  | cons t l ih => show (gC t ++ rowG l).length = _; rw [List.length_append, ih, List.length_cons]; simp [gC]; omega
theorem rowG_more (l : List Hf.G) (t : Hf.G) : rowG (l ++ [t]) = rowG l ++ gC t := by simp [rowG]
theorem rowG_get (l : List Hf.G) (i r : Nat) (hi : i < l.length) (hr : r < 3) : (rowG l)[3 * i + r]? = (gC (Hf.nth l i))[r]? := by
  rw [Hf.nth_get hi]
  induction l generalizing i with
  | nil => simp at hi
  | cons t l ih =>
    show (gC t ++ rowG l)[3 * i + r]? = _
    cases i with
    | zero => rw [List.getElem?_append_left (by simp [gC]; omega)]; simp
    | succ i =>
      rw [List.getElem?_append_right (by simp [gC]; omega), show 3 * (i + 1) + r - (gC t).length = 3 * i + r from by simp [gC]; omega, ih i (by simpa using hi)]
      rfl
theorem rowG_set (l : List Hf.G) (i : Nat) (g : Hf.G) : rowG (l.set i g) = (((rowG l).set (3 * i) (.int .i64 g.wt)).set (3 * i + 1) (.int .i64 g.low)).set (3 * i + 2) g.sv := by
  induction l generalizing i with
  | nil => rfl
  | cons t l ih =>
    cases i with
    | zero => rfl
    | succ i =>
      show gC t ++ rowG (l.set i g) = (((gC t ++ rowG l).set (3 * (i + 1)) _).set (3 * (i + 1) + 1) _).set (3 * (i + 1) + 2) _
      have hl : (gC t).length = 3 := rfl
      rw [ih, List.set_append_right _ _ (by omega), List.set_append_right _ _ (by omega), List.set_append_right _ _ (by omega), hl,
        show 3 * (i + 1) - 3 = 3 * i by omega, show 3 * (i + 1) + 1 - 3 = 3 * i + 1 by omega, show 3 * (i + 1) + 2 - 3 = 3 * i + 2 by omega]
/-- the function that a heap holds -/
def fnV : Value := .func (.func 82) #[] #[]
/-- a heap whose items are l: its block Hb, the list v, and each one's signs -/
structure Heap (W : World) (base Hb : Nat) (v : Value) (l : List Hf.G) : Prop where
  box : W.heap[Hb]? = some (.cells #[fnV, v] 129 (0, 0))
  old : base ≤ Hb
  row : W.ownsRow base 91 3 v l.length (rowG l)
  signs : ∀ g ∈ l, W.ownsRow base 3 1 g.sv g.sg.length ((Hf.up g.sg).map Iv)
/-- all but the heap's own two blocks stay -/
def Stays (Hb : Nat) (v : Value) : World → World → Prop := Kept fun k => k ≠ Hb ∧ v.ownBlock ≠ some k

theorem own_kept {p : Nat → Prop} {base : Nat} {e : TypeId} {k : Nat} {v : Value} {n : Nat} {xs : List Value} {w w' : World} (h : w.ownsRow base e k v n xs) (hk : Kept p w w') (hp : ∀ g, v.ownBlock = some g → p g) : w'.ownsRow base e k v n xs := by
  obtain ⟨h1, h2⟩ := h
  refine ⟨h1, ?_⟩
  rcases h2 with h2 | ⟨g, cap, cur, hv, hg, hh, r⟩
  · exact .inl h2
  · refine .inr ⟨g, cap, cur, hv, hg, ?_, r⟩
    rw [hk.block g (Array.getElem?_eq_some_iff.1 hh).1 (hp g (by rw [hv]; rfl)), hh]
theorem own_block {base : Nat} {e : TypeId} {k : Nat} {v : Value} {n : Nat} {xs : List Value} {w : World} (h : w.ownsRow base e k v n xs) {g : Nat} (hg : v.ownBlock = some g) : ∃ cur, w.heap[g]? = some (.cells cur e (0, 0)) ∧ base ≤ g := by
  rcases h.2 with ⟨rfl, _⟩ | ⟨g', cap, cur, rfl, hb, hh, _⟩
  · simp [Value.ownBlock] at hg
  · simp [Value.ownBlock] at hg
    subst hg
    exact ⟨cur, hh, hb⟩
theorem Heap.apart {W : World} {base Hb : Nat} {v : Value} {l : List Hf.G} (h : Heap W base Hb v l) : v.ownBlock ≠ some Hb := by
  intro e
  obtain ⟨cur, hc, _⟩ := own_block h.row e
  rw [h.box] at hc
  simp at hc
/-- a row of numbers is none of a heap's two blocks -/
theorem Heap.sign_apart {W : World} {base Hb : Nat} {v : Value} {l : List Hf.G} (h : Heap W base Hb v l) {b n : Nat} {u : Value} {xs : List Value} (hu : W.ownsRow b 3 1 u n xs) : ∀ g, u.ownBlock = some g → g ≠ Hb ∧ v.ownBlock ≠ some g := by
  intro g hg
  obtain ⟨cur, hc, _⟩ := own_block hu hg
  refine ⟨fun e => ?_, fun e => ?_⟩
  · subst e
    rw [h.box] at hc
    simp at hc
  · obtain ⟨cur', hc', _⟩ := own_block h.row e
    rw [hc] at hc'
    simp at hc'
theorem Heap.keep {W W' : World} {base Hb : Nat} {v : Value} {l : List Hf.G} (h : Heap W base Hb v l) (hb : Below W.heap.size W W') : Heap W' base Hb v l :=
  ⟨(hb.block _ (Array.getElem?_eq_some_iff.1 h.box).1).trans h.box, h.old, row_below h.row hb, fun g hg => row_below (h.signs g hg) hb⟩

set_option maxHeartbeats 1000000 in
theorem first_any (a b : Hf.G) (w : World) :
    Calls Try.prog 82 #[gV a, gV b] w fun e w' => e = .returned (.bool (Hf.ltG a b)) ∧ Below w.heap.size w w' := by
  unfold gV
  have HB : Hid (∀ x y, Below w.heap.size w ((w.alloc x).alloc y)) := fun x y => ((Below.refl _ w).alloc (Nat.le_refl _) _).alloc (by simp) _
  by_cases e : a.wt = b.wt
  · have hne : ((a.wt : Int) != (b.wt : Int)) = false := by simp [e]
    have HR : Hid (Hf.ltG a b = decide (a.low < b.low)) := by unfold Hf.ltG; exact decide_eq_decide.2 (by omega)
    clear e
    generalize a.wt = x at *
    generalize b.wt = y at *
    go_enter Try.func82, Try.ntmps82
    go_wp2_with fail
    go_ret
    exact ⟨by rw [HR.out]; simp, HB.out _ _⟩
  · have hne : ((a.wt : Int) != (b.wt : Int)) = true := by simp; omega
    have HR : Hid (Hf.ltG a b = decide (a.wt < b.wt)) := by unfold Hf.ltG; exact decide_eq_decide.2 (by omega)
    clear e
    generalize a.wt = x at *
    generalize b.wt = y at *
    go_enter Try.func82, Try.ntmps82
    go_wp2_with fail
    go_ret
    exact ⟨by rw [HR.out]; simp, HB.out _ _⟩

theorem Heap.cells {W : World} {base Hb : Nat} {v : Value} {l : List Hf.G} (h : Heap W base Hb v l) : W.cell? ⟨Hb, 0, none⟩ = some fnV ∧ W.cell? ⟨Hb, 1, none⟩ = some v ∧ W.frozen? ⟨Hb, 1, none⟩ = false := by
  refine ⟨?_, ?_, ?_⟩
  · rw [cell_of_row _ Hb 0 _ _ _ h.box]; rfl
  · rw [cell_of_row _ Hb 1 _ _ _ h.box]; rfl
  · simp [World.frozen?, h.box]
theorem Heap.slice {W : World} {base Hb : Nat} {v : Value} {l : List Hf.G} (h : Heap W base Hb v l) : ∃ a c, v = .slice a l.length c := by
  rcases h.row.2 with ⟨rfl, h0⟩ | ⟨g, cap, cur, rfl, _⟩
  · exact ⟨_, _, by rw [h0]⟩
  · exact ⟨_, _, rfl⟩
theorem Heap.slice1 {W : World} {base Hb : Nat} {v : Value} {l : List Hf.G} (h : Heap W base Hb v l) (hl : 0 < l.length) : ∃ g c, v = .slice (some ⟨g, 0, none⟩) l.length c := by
  rcases h.row.2 with ⟨rfl, h0⟩ | ⟨g, cap, cur, rfl, _⟩
  · omega
  · exact ⟨_, _, rfl⟩
/-- the cells of one of them -/
theorem Heap.at_ {W : World} {base Hb g n c : Nat} {l : List Hf.G} (h : Heap W base Hb (.slice (some ⟨g, 0, none⟩) n c) l) (hn : n = l.length) (i : Nat) (hi : i < l.length) :
    W.cell? ⟨g, i * 3, none⟩ = some (.int .i64 (Hf.nth l i).wt) ∧ W.cell? ⟨g, i * 3 + 1, none⟩ = some (.int .i64 (Hf.nth l i).low) ∧ W.cell? ⟨g, i * 3 + 2, none⟩ = some (Hf.nth l i).sv ∧
    W.frozen? ⟨g, i * 3, none⟩ = false ∧ W.frozen? ⟨g, i * 3 + 1, none⟩ = false ∧ W.frozen? ⟨g, i * 3 + 2, none⟩ = false ∧ g < W.heap.size := by
  subst hn
  have e := fun r (hr : r < 3) => (h.row.cellAt (3 * i + r) (by omega)).trans (rowG_get l i r hi hr)
  have e0 := e 0 (by omega)
  have e1 := e 1 (by omega)
  have e2 := e 2 (by omega)
  rw [show 3 * i = i * 3 from by omega] at e0 e1 e2
  obtain ⟨cur, hc, _⟩ := own_block h.row rfl
  exact ⟨e0, e1, e2, h.row.frozenAt _, h.row.frozenAt _, h.row.frozenAt _, (Array.getElem?_eq_some_iff.1 hc).1⟩

set_option maxHeartbeats 1000000 in
theorem size_any (base Hb : Nat) (v : Value) (l : List Hf.G) (w : World) (h : Heap w base Hb v l) :
    Calls Try.prog 55 #[.pointer (some ⟨Hb, 0, none⟩)] w fun e w' => e = .returned (.int .i64 l.length) ∧ w' = w := by
  obtain ⟨a, c, rfl⟩ := h.slice
  obtain ⟨c0, c1, f1⟩ := h.cells
  go_enter Try.func55, Try.ntmps55
  go_wp2_with fail
  go_ret
  exact ⟨rfl, rfl⟩
end Go.Proofs.Ytgdkfaphbbdnbaa

namespace Go.Proofs.Ytgdkfaphbbdnbaa
open Go.RowKit

/-- a heap's three cells written anew -/
def put3 (W : World) (g i : Nat) (x : Hf.G) : World := ((W.setCell ⟨g, i * 3, none⟩ (.int .i64 x.wt)).setCell ⟨g, i * 3 + 1, none⟩ (.int .i64 x.low)).setCell ⟨g, i * 3 + 2, none⟩ x.sv
theorem Heap.put3 {W : World} {base Hb g n c : Nat} {l : List Hf.G} (h : Heap W base Hb (.slice (some ⟨g, 0, none⟩) n c) l) (hn : n = l.length) (i : Nat) (x : Hf.G) (hx : W.ownsRow base 3 1 x.sv x.sg.length ((Hf.up x.sg).map Iv)) :
    Heap (put3 W g i x) base Hb (.slice (some ⟨g, 0, none⟩) n c) (l.set i x) ∧ Kept (fun k => k ≠ g) W (put3 W g i x) := by
  subst hn
  have hk : Kept (fun k => k ≠ g) W (Go.Proofs.Ytgdkfaphbbdnbaa.put3 W g i x) := (((Kept.refl _ W).setCell (by simp) _).setCell (by simp) _).setCell (by simp) _
  have hg : Hb ≠ g := fun e => h.apart (by rw [e]; rfl)
  refine ⟨⟨(hk.block _ (Array.getElem?_eq_some_iff.1 h.box).1 hg).trans h.box, h.old, ?_, fun y hy => ?_⟩, hk⟩
  · rw [rowG_set, List.length_set, show 3 * i = i * 3 from by omega]
    exact ((((h.row.stored (i * 3) _).1.stored (i * 3 + 1) _).1).stored (i * 3 + 2) _).1
  · have hy' : W.ownsRow base 3 1 y.sv y.sg.length ((Hf.up y.sg).map Iv) := by
      rcases List.mem_or_eq_of_mem_set hy with hy | rfl
      · exact h.signs y hy
      · exact hx
    exact own_kept hy' hk fun b hb e => (h.sign_apart hy' b hb).2 (by rw [e]; rfl)
theorem own_slice {base : Nat} {e : TypeId} {k : Nat} {v : Value} {n : Nat} {xs : List Value} {w : World} (h : w.ownsRow base e k v n xs) : ∃ a m c, v = .slice a m c := by
  rcases h.2 with ⟨rfl, _⟩ | ⟨g, cap, cur, rfl, _⟩
  · exact ⟨_, _, _, rfl⟩
  · exact ⟨_, _, _, rfl⟩
theorem Heap.drew {W : World} {base Hb : Nat} {v : Value} {l : List Hf.G} (h : Heap W base Hb v l) : Heap W.drew base Hb v l := h.keep (Below.refl _ W).drew

set_option maxHeartbeats 4000000 in
theorem swap_any (base Hb : Nat) (v : Value) (l : List Hf.G) (w : World) (h : Heap w base Hb v l) (i j : Nat) (hi : i < l.length) (hj : j < l.length) (hl : l.length ≤ 256) :
    Calls Try.prog 83 #[.pointer (some ⟨Hb, 0, none⟩), .int .i64 i, .int .i64 j] w fun e w' => e = .returned (.tuple #[]) ∧ Heap w' base Hb v (Hf.swp l i j) ∧ Stays Hb v w w' := by
  obtain ⟨g, c, rfl⟩ := h.slice1 (by omega)
  have HE : Hid (∀ W, W = (put3 (put3 w g i (Hf.nth l j)) g j (Hf.nth l i)).drew → Heap W base Hb (.slice (some ⟨g, 0, none⟩) l.length c) (Hf.swp l i j) ∧ Stays Hb (.slice (some ⟨g, 0, none⟩) l.length c) w W) := by
    rintro W rfl
    obtain ⟨h1, k1⟩ := h.put3 rfl i (Hf.nth l j) (h.signs _ (Hf.nth_mem hj))
    have hs := h.signs _ (Hf.nth_mem hi)
    obtain ⟨h2, k2⟩ := h1.put3 (by rw [List.length_set]) j (Hf.nth l i) (own_kept hs k1 fun b hb e => (h.sign_apart hs b hb).2 (by rw [e]; rfl))
    refine ⟨h2.drew, ((k1.trans k2).mono fun k hk => ?_).drew⟩
    rintro rfl
    exact hk.2 rfl
  obtain ⟨c0, c1, f1⟩ := h.cells
  obtain ⟨a0, a1, a2, af0, af1, af2, hg⟩ := h.at_ rfl i hi
  have hne : g ≠ Hb := fun e => h.apart (by rw [← e]; rfl)
  have hx := own_slice (h.signs _ (Hf.nth_mem hi))
  unfold put3 at HE
  by_cases hij : i = j
  · subst hij
    generalize Hf.nth l i = x at *
    obtain ⟨xw, xl, xs, xv⟩ := x
    dsimp only at *
    obtain ⟨xa, xm, xc, rfl⟩ := hx
    clear h xs
    go_enter Try.func83, Try.ntmps83
    go_wp2_with fail
    go_region
    go_wp2_with fail
    go_end0
    exact ⟨rfl, HE.out _ rfl⟩
  · obtain ⟨b0, b1, b2, bf0, bf1, bf2, _⟩ := h.at_ rfl j hj
    have hy := own_slice (h.signs _ (Hf.nth_mem hj))
    generalize Hf.nth l i = x at *
    generalize Hf.nth l j = y at *
    obtain ⟨xw, xl, xs, xv⟩ := x
    obtain ⟨yw, yl, ys, yv⟩ := y
    dsimp only at *
    obtain ⟨xa, xm, xc, rfl⟩ := hx
    obtain ⟨ya, ym, yc, rfl⟩ := hy
    clear h xs ys
    go_enter Try.func83, Try.ntmps83
    go_wp2_with fail
    go_region
    go_wp2_with fail
    go_end0
    exact ⟨rfl, HE.out _ rfl⟩
end Go.Proofs.Ytgdkfaphbbdnbaa

namespace Go.Proofs.Ytgdkfaphbbdnbaa
open Go.RowKit

namespace Hf
/-- the first one, when q kids have been looked at -/
def lq (l : List G) (p : Nat) : Nat → Nat
  | 0 => p
  | 1 => one l p
  | _ => least l p
theorem lq_next (l : List G) (p q : Nat) (hq : q < 2) : lq l p (q + 1) = if 2 * p + 1 + q < l.length ∧ ltG (nth l (2 * p + 1 + q)) (nth l (lq l p q)) = true then 2 * p + 1 + q else lq l p q := by
  match q, hq with
  | 0, _ => rfl
  | 1, _ => rfl
theorem lq_le (l : List G) (p q : Nat) (hq : q < 2) : lq l p q < 2 * p + 1 + q := by
  match q, hq with
  | 0, _ => show p < _; omega
  | 1, _ =>
    show one l p < _
    unfold one
    split <;> omega
end Hf

set_option maxHeartbeats 4000000 in
theorem leastAt_any (base Hb : Nat) (v : Value) (l : List Hf.G) (w : World) (h : Heap w base Hb v l) (p : Nat) (hp : p ≤ 256) (hl : l.length ≤ 256) :
    Calls Try.prog 84 #[.pointer (some ⟨Hb, 0, none⟩), .int .i64 p] w fun e w' => e = .returned (.int .i64 (Hf.least l p)) ∧ Below w.heap.size w w' := by
  obtain ⟨a, c, rfl⟩ := h.slice
  go_enter Try.func84, Try.ntmps84
  go_wp2_with fail
  go_loopw [5, 6] (fun x y wr => ∃ q : Nat, q ≤ 2 ∧ x = .int .i64 (Hf.lq l p q : Nat) ∧ y = .int .i64 ((2 * p + 1 + q : Nat) : Int) ∧ Below w.heap.size w wr) (fun _ y _ => 2 * p + 3 - (intOf y).toNat)
  case atStart => exact ⟨0, by omega, rfl, by go_num, Below.refl _ _⟩
  case round =>
    obtain ⟨q, hq, rfl, rfl, hbel⟩ := hrel
    by_cases hlt : q < 2
    · have HN : Hid (_) := Hf.lq_next l p q hlt
      have hm := Hf.lq_le l p q hlt
      have hh := h.keep hbel
      generalize Hf.lq l p q = m at *
      obtain ⟨k, hk⟩ : ∃ k, k = 2 * p + 1 + q := ⟨_, rfl⟩
      rw [← hk] at HN hm ⊢
      have hk2 : k ≤ 2 * p + 2 := by omega
      have hk1 : 2 * p + 1 ≤ k := by omega
      have HK : Hid (k = 2 * p + 1 + q) := hk
      clear hk
      obtain ⟨c0, c1, _⟩ := hh.cells
      have x0 : ∀ X : Since wr.heap.size wr, X.val.cell? ⟨Hb, 0, none⟩ = some fnV := fun X => (X.property.cell (p := ⟨Hb, 0, none⟩) (Array.getElem?_eq_some_iff.1 hh.box).1).trans c0
      have x1 : ∀ X : Since wr.heap.size wr, X.val.cell? ⟨Hb, 1, none⟩ = some (.slice a l.length c) := fun X => (X.property.cell (p := ⟨Hb, 1, none⟩) (Array.getElem?_eq_some_iff.1 hh.box).1).trans c1
      have hne : Nonempty (Since wr.heap.size wr) := ⟨⟨wr, Below.refl _ _⟩⟩
      clear c0 c1
      unfold fnV at x0
      by_cases hkl : k < l.length
      · obtain ⟨g, c', hv⟩ := hh.slice1 (by omega)
        obtain ⟨rfl, rfl⟩ : a = some ⟨g, 0, none⟩ ∧ c = c' := by simpa using hv
        clear hv
        obtain ⟨a0, a1, a2, _, _, _, hg⟩ := hh.at_ rfl k hkl
        obtain ⟨b0, b1, b2, _, _, _, _⟩ := hh.at_ rfl m (by omega)
        have hf := first_any (Hf.nth l k) (Hf.nth l m)
        generalize Hf.nth l k = x at *
        generalize Hf.nth l m = y at *
        have y0 : ∀ X : Since wr.heap.size wr, X.val.cell? ⟨g, k * 3, none⟩ = some (.int .i64 x.wt) := fun X => (X.property.cell (p := ⟨g, k * 3, none⟩) hg).trans a0
        have y1 : ∀ X : Since wr.heap.size wr, X.val.cell? ⟨g, k * 3 + 1, none⟩ = some (.int .i64 x.low) := fun X => (X.property.cell (p := ⟨g, k * 3 + 1, none⟩) hg).trans a1
        have y2 : ∀ X : Since wr.heap.size wr, X.val.cell? ⟨g, k * 3 + 2, none⟩ = some x.sv := fun X => (X.property.cell (p := ⟨g, k * 3 + 2, none⟩) hg).trans a2
        have z0 : ∀ X : Since wr.heap.size wr, X.val.cell? ⟨g, m * 3, none⟩ = some (.int .i64 y.wt) := fun X => (X.property.cell (p := ⟨g, m * 3, none⟩) hg).trans b0
        have z1 : ∀ X : Since wr.heap.size wr, X.val.cell? ⟨g, m * 3 + 1, none⟩ = some (.int .i64 y.low) := fun X => (X.property.cell (p := ⟨g, m * 3 + 1, none⟩) hg).trans b1
        have z2 : ∀ X : Since wr.heap.size wr, X.val.cell? ⟨g, m * 3 + 2, none⟩ = some y.sv := fun X => (X.property.cell (p := ⟨g, m * 3 + 2, none⟩) hg).trans b2
        clear a0 a1 a2 b0 b1 b2 hh h
        have hml : m < l.length := by omega
        have hgd : decide ((k : Int) < (l.length : Int)) = true := decide_eq_true (by omega)
        unfold gV at hf
        go_wp2_with fail
        refine wp_region_since (B := wr.heap.size) (W0 := wr) (by kernel_rfl) (by kernel_rfl) (Below.refl _ _) ?_
        cases hb : Hf.ltG x y with
        | true =>
          rw [hb] at hf
          have HL : Hid (Hf.lq l p (q + 1) = k) := HN.out.trans (if_pos ⟨hkl, hb⟩)
          clear hb HN
          repeat (go_big_quiet_step (fail))
          go_big_quiet_step (exact quiet_since _ (hf _))
          repeat (go_big_quiet_step (fail))
          refine wpQuiet_nil ?_
          rintro w7 ⟨U, rfl⟩
          have HB3 : Hid (Below w.heap.size w U.val) := hbel.trans (U.property.mono hbel.size)
          generalize U.val = w7 at *
          clear x0 x1 y0 y1 y2 z0 z1 z2 hne hbel hf
          go_wp2_with fail
          go_roundw
          case rel => exact ⟨q + 1, by omega, by rw [HL.out], int_eq (by have := HK.out; omega), HB3.out⟩
          case measure => simp only [intOf]; omega
        | false =>
          rw [hb] at hf
          have HL : Hid (Hf.lq l p (q + 1) = m) := HN.out.trans (if_neg fun h => by rw [hb] at h; exact absurd h.2 (by simp))
          clear hb HN
          repeat (go_big_quiet_step (fail))
          go_big_quiet_step (exact quiet_since _ (hf _))
          repeat (go_big_quiet_step (fail))
          refine wpQuiet_nil ?_
          rintro w7 ⟨U, rfl⟩
          have HB3 : Hid (Below w.heap.size w U.val) := hbel.trans (U.property.mono hbel.size)
          generalize U.val = w7 at *
          clear x0 x1 y0 y1 y2 z0 z1 z2 hne hbel hf
          go_wp2_with fail
          go_roundw
          case rel => exact ⟨q + 1, by omega, by rw [HL.out], int_eq (by have := HK.out; omega), HB3.out⟩
          case measure => simp only [intOf]; omega
      · have hgd : decide ((k : Int) < (l.length : Int)) = false := decide_eq_false (by omega)
        have hgd' : decide (k < l.length) = false := decide_eq_false (by omega)
        have HL : Hid (Hf.lq l p (q + 1) = m) := HN.out.trans (if_neg fun h => hkl h.1)
        clear HN hkl hh
        go_wp2_with fail
        refine wp_region_since (B := wr.heap.size) (W0 := wr) (by kernel_rfl) (by kernel_rfl) (Below.refl _ _) ?_
        repeat (go_big_quiet_step (fail))
        refine wpQuiet_nil ?_
        rintro w7 ⟨U, rfl⟩
        have HB3 : Hid (Below w.heap.size w U.val) := hbel.trans (U.property.mono hbel.size)
        generalize U.val = w7 at *
        clear x0 x1 hne hbel
        go_wp2_with fail
        go_roundw
        case rel => exact ⟨q + 1, by omega, by rw [HL.out], int_eq (by have := HK.out; omega), HB3.out⟩
        case measure => simp only [intOf]; omega
    · obtain rfl : q = 2 := by omega
      go_wp2_with fail
      go_ret
      exact ⟨rfl, hbel⟩
end Go.Proofs.Ytgdkfaphbbdnbaa

namespace Go.Proofs.Ytgdkfaphbbdnbaa
open Go.RowKit

/-- a heap of signs in a block of its own -/
structure GBox (W : World) (G : Nat) (x : Hf.G) : Prop where
  c0 : W.cell? ⟨G, 0, none⟩ = some (.int .i64 x.wt)
  c1 : W.cell? ⟨G, 1, none⟩ = some (.int .i64 x.low)
  c2 : W.cell? ⟨G, 2, none⟩ = some x.sv
  f0 : W.frozen? ⟨G, 0, none⟩ = false
  f1 : W.frozen? ⟨G, 1, none⟩ = false
  f2 : W.frozen? ⟨G, 2, none⟩ = false
  lt : G < W.heap.size
theorem GBox.new (w : World) (x : Hf.G) : GBox (w.alloc (.cells #[.int .i64 x.wt, .int .i64 x.low, x.sv] 91)) w.heap.size x :=
  ⟨by simp, by simp, by simp, by simp, by simp, by simp, by simp⟩
theorem GBox.kept {p : Nat → Prop} {W W' : World} {G : Nat} {x : Hf.G} (h : GBox W G x) (hk : Kept p W W') (hp : p G) : GBox W' G x := by
  have e := hk.block G h.lt hp
  refine ⟨?_, ?_, ?_, ?_, ?_, ?_, Nat.lt_of_lt_of_le h.lt hk.size⟩
  · rw [World.cell?_of_block (a := ⟨G, 0, none⟩) e]; exact h.c0
  · rw [World.cell?_of_block (a := ⟨G, 1, none⟩) e]; exact h.c1
  · rw [World.cell?_of_block (a := ⟨G, 2, none⟩) e]; exact h.c2
  · rw [World.frozen?_of_block (a := ⟨G, 0, none⟩) e]; exact h.f0
  · rw [World.frozen?_of_block (a := ⟨G, 1, none⟩) e]; exact h.f1
  · rw [World.frozen?_of_block (a := ⟨G, 2, none⟩) e]; exact h.f2
theorem GBox.below {W W' : World} {G B : Nat} {x : Hf.G} (h : GBox W G x) (hb : Below B W W') (hg : G < B) : GBox W' G x :=
  h.kept (p := fun k => k < B) ⟨hb.os, hb.tape, hb.output, hb.size, fun k _ hk => hb.block k hk⟩ hg
theorem GBox.store {W : World} {G : Nat} {x : Hf.G} (h : GBox W G x) (y : Hf.G) : GBox (((W.setCell ⟨G, 0, none⟩ (.int .i64 y.wt)).setCell ⟨G, 1, none⟩ (.int .i64 y.low)).setCell ⟨G, 2, none⟩ y.sv) G y := by
  have e0 := World.cell?_setCell_same W ⟨G, 0, none⟩ (.int .i64 y.wt) h.c0
  refine ⟨?_, ?_, ?_, by simpa using h.f0, by simpa using h.f1, by simpa using h.f2, by simpa using h.lt⟩
  · rw [World.cell?_setCell_other _ _ _ _ (by simp), World.cell?_setCell_other _ _ _ _ (by simp)]
    exact e0
  · rw [World.cell?_setCell_other _ _ _ _ (by simp)]
    refine World.cell?_setCell_same _ _ _ (u := .int .i64 x.low) ?_
    rw [World.cell?_setCell_other _ _ _ _ (by simp)]
    exact h.c1
  · refine World.cell?_setCell_same _ _ _ (u := x.sv) ?_
    rw [World.cell?_setCell_other _ _ _ _ (by simp), World.cell?_setCell_other _ _ _ _ (by simp)]
    exact h.c2
theorem Kept.setNew {p : Nat → Prop} {A B : World} (h : Kept p A B) {a : Addr} (ha : A.heap.size ≤ a.block) (v : Value) : Kept p A (B.setCell a v) :=
  ⟨h.os, h.tape, h.output, by simpa using h.size, fun k hk hp => (Below.heap_setCell _ _ _ _ (by omega)).trans (h.block k hk hp)⟩
theorem Heap.lt {W : World} {base Hb : Nat} {v : Value} {l : List Hf.G} (h : Heap W base Hb v l) : Hb < W.heap.size := (Array.getElem?_eq_some_iff.1 h.box).1
theorem Heap.kept {p : Nat → Prop} {W W' : World} {base Hb : Nat} {v : Value} {l : List Hf.G} (h : Heap W base Hb v l) (hk : Kept p W W') (hp : ∀ k, base ≤ k → k < W.heap.size → p k) : Heap W' base Hb v l :=
  ⟨(hk.block _ h.lt (hp _ h.old h.lt)).trans h.box, h.old,
   own_kept h.row hk fun g hg => by obtain ⟨cur, hc, hb⟩ := own_block h.row hg; exact hp g hb (Array.getElem?_eq_some_iff.1 hc).1,
   fun x hx => own_kept (h.signs x hx) hk fun g hg => by obtain ⟨cur, hc, hb⟩ := own_block (h.signs x hx) hg; exact hp g hb (Array.getElem?_eq_some_iff.1 hc).1⟩
theorem Heap.kept' {p : Nat → Prop} {W W' : World} {base Hb : Nat} {v : Value} {l : List Hf.G} (h : Heap W base Hb v l) (hk : Kept p W W') (hH : p Hb) (hv : ∀ g, v.ownBlock = some g → p g) (hs : ∀ y ∈ l, ∀ b, y.sv.ownBlock = some b → p b) : Heap W' base Hb v l :=
  ⟨(hk.block _ h.lt hH).trans h.box, h.old, own_kept h.row hk hv, fun x hx => own_kept (h.signs x hx) hk (hs x hx)⟩
theorem Heap.cap {W : World} {base Hb g n c : Nat} {l : List Hf.G} (h : Heap W base Hb (.slice (some ⟨g, 0, none⟩) n c) l) : n ≤ c := by
  rcases h.row.2 with ⟨h1, _⟩ | ⟨g', cap, cur, h1, _, _, h2, _⟩
  · simp at h1
  · simp at h1
    omega
/-- the last one off -/
theorem Heap.cut {W : World} {base Hb g n c : Nat} {l : List Hf.G} (h : Heap W base Hb (.slice (some ⟨g, 0, none⟩) n c) l) (hn : n = l.length) :
    Heap (W.setCell ⟨Hb, 1, none⟩ (.slice (some ⟨g, 0, none⟩) (n - 1) c)) base Hb (.slice (some ⟨g, 0, none⟩) (n - 1) c) l.dropLast := by
  subst hn
  have hk : Kept (fun k => k ≠ Hb) W (W.setCell ⟨Hb, 1, none⟩ (.slice (some ⟨g, 0, none⟩) (l.length - 1) c)) := (Kept.refl _ W).setCell (by simp) _
  have hg : g ≠ Hb := fun e => h.apart (by rw [← e]; rfl)
  refine ⟨?_, h.old, ?_, fun y hy => ?_⟩
  · rw [heap_setCell_same _ _ _ _ _ _ h.box]
    rfl
  · rcases h.row.2 with ⟨h1, _⟩ | ⟨g', cap, cur, h1, h2, h3, h4, h5, h6, h7⟩
    · simp at h1
    · simp at h1
      obtain ⟨rfl, rfl⟩ := h1
      refine ⟨by rw [rowG_length, List.length_dropLast]; omega, .inr ⟨g, c, cur, by rw [List.length_dropLast], h2, (hk.block g (Array.getElem?_eq_some_iff.1 h3).1 hg).trans h3, by rw [List.length_dropLast]; omega, h5, h6, ?_⟩⟩
      have e : rowG l.dropLast = (rowG l).take (l.dropLast.length * 3) := by
        by_cases hl : l = []
        · subst hl; rfl
        · have e1 : rowG l = rowG l.dropLast ++ gC (l.getLast hl) := by rw [← rowG_more, List.dropLast_concat_getLast]
          rw [e1, List.take_left' (by rw [rowG_length]; omega)]
      rw [e, ← h7, List.take_take, Nat.min_eq_left (by rw [List.length_dropLast]; omega)]
  · have hs := h.signs y (List.dropLast_subset _ hy)
    exact own_kept hs hk fun b hb => (h.sign_apart hs b hb).1

set_option maxHeartbeats 4000000 in
theorem take_any (base Hb : Nat) (v : Value) (l : List Hf.G) (w : World) (h : Heap w base Hb v l) (h0 : 0 < l.length) (hl : l.length ≤ 256) (ho : Hf.Ord l) :
    Calls Try.prog 56 #[.pointer (some ⟨Hb, 0, none⟩)] w fun e w' => e = .returned (gV (Hf.nth l 0)) ∧ ∃ v' l', l.Perm (Hf.nth l 0 :: l') ∧ Hf.Ord l' ∧ v'.ownBlock = v.ownBlock ∧ Heap w' base Hb v' l' ∧ Stays Hb v w w' := by
  obtain ⟨g, c, rfl⟩ := h.slice1 h0
  obtain ⟨n, hn⟩ : ∃ n, l.length = n + 1 := ⟨l.length - 1, by omega⟩
  have HP : Hid (l.Perm (Hf.nth l 0 :: (Hf.swp l 0 n).dropLast)) := by have := Hf.start_perm h0; rw [show l.length - 1 = n from by omega] at this; exact this
  have HD : Hid (Hf.Dn (Hf.swp l 0 n).dropLast 0) := by have := Hf.Dn.start ho; rw [show l.length - 1 = n from by omega] at this; exact this
  have hw := h.lt
  have HSB : Hid (∀ y ∈ (Hf.swp l 0 n).dropLast, ∀ b, y.sv.ownBlock = some b → b < w.heap.size) := fun y hy b hb => by
    obtain ⟨cur, hc, _⟩ := own_block (h.signs y ((Hf.swp_perm h0 (by omega)).mem_iff.1 (List.dropLast_subset _ hy))) hb
    exact (Array.getElem?_eq_some_iff.1 hc).1
  have HL : Hid (((Hf.swp l 0 n).dropLast).length = n) := by show _ = _; rw [List.length_dropLast, Hf.swp_length]; omega
  have hcap : n + 1 ≤ c := by have := h.cap; omega
  obtain ⟨c0, c1, f1⟩ := h.cells
  obtain ⟨a0, a1, a2, _, _, _, hg⟩ := h.at_ rfl 0 h0
  have hx := own_slice (h.signs _ (Hf.nth_mem h0))
  obtain ⟨x, hxe⟩ : ∃ x, Hf.nth l 0 = x := ⟨_, rfl⟩
  rw [hxe] at a0 a1 a2 hx HP ⊢
  have HX : Hid (Hf.nth l 0 = x) := hxe
  clear hxe
  have ex : ∃ xw xl xs xa xm xc, x = (⟨xw, xl, xs, .slice xa xm xc⟩ : Hf.G) := by
    obtain ⟨xa, xm, xc, e⟩ := hx
    exact ⟨x.wt, x.low, x.sg, xa, xm, xc, by rw [← e]⟩
  obtain ⟨xw, xl, xs, xa, xm, xc, rfl⟩ := ex
  clear hx
  simp only [Nat.zero_mul, Nat.zero_add] at a0 a1 a2
  rw [hn] at h c1 ⊢
  obtain ⟨W2, hW2⟩ : ∃ W2, W2 = (w.alloc (.cells #[.int .i64 0, .int .i64 0, .slice none 0 0] 91)).alloc (.cells #[.int .i64 xw, .int .i64 xl, .slice xa xm xc] 91) := ⟨_, rfl⟩
  have hb2 : Below w.heap.size w W2 := by rw [hW2]; exact ((Below.refl _ w).alloc (Nat.le_refl _) _).alloc (by simp) _
  have X1 : Hid (GBox W2 w.heap.size Hf.G.z) := by
    rw [hW2]; exact (GBox.new w Hf.G.z).below ((Below.refl _ _).alloc (Nat.le_refl _) _) (by simp)
  have X2 : Hid (GBox W2 (w.heap.size + 1) ⟨xw, xl, xs, .slice xa xm xc⟩) := by
    rw [hW2]
    have := GBox.new (w.alloc (.cells #[.int .i64 0, .int .i64 0, .slice none 0 0] 91)) ⟨xw, xl, xs, .slice xa xm xc⟩
    rw [World.size_alloc] at this
    exact this
  have hs2 : W2.heap.size = w.heap.size + 2 := by rw [hW2]; simp
  have HS2 : Hid (W2.heap.size = w.heap.size + 2) := hs2
  have hsw := swap_any base Hb (.slice (some ⟨g, 0, none⟩) (n + 1) c) l W2 (h.keep hb2) 0 n h0 (by omega) hl
  rw [show ((0 : Nat) : Int) = 0 from rfl] at hsw
  have HK2 : Hid (Stays Hb (.slice (some ⟨g, 0, none⟩) (n + 1) c) w W2) := Kept.of_below hb2
  have HLn : Hid (l.length = n + 1) := hn
  clear h hb2 hs2
  go_enter Try.func56, Try.ntmps56
  go_wp2_with fail
  rw [← hW2]
  refine hsw.mono ?_
  rintro e w3 ⟨rfl, h3, k3⟩
  clear hsw hW2 a0 a1 a2 c0 c1 f1 hn
  obtain ⟨c0, c1, f1⟩ := h3.cells
  have Y1 : Hid (GBox w3 w.heap.size Hf.G.z) := X1.out.kept k3 ⟨by omega, by simp [Value.ownBlock]; omega⟩
  have Y2 : Hid (GBox w3 (w.heap.size + 1) ⟨xw, xl, xs, .slice xa xm xc⟩) := X2.out.kept k3 ⟨by omega, by simp [Value.ownBlock]; omega⟩
  have K3 : Hid (Stays Hb (.slice (some ⟨g, 0, none⟩) (n + 1) c) w w3) := HK2.out.trans k3
  have H3 : Hid (Heap w3 base Hb (.slice (some ⟨g, 0, none⟩) (n + 1) c) (Hf.swp l 0 n)) := h3
  clear X1 X2 HK2 h3 k3 HS2
  obtain ⟨W4, hW4⟩ : ∃ W4, W4 = w3.setCell ⟨Hb, 1, none⟩ (.slice (some ⟨g, 0, none⟩) n c) := ⟨_, rfl⟩
  have hk4 : Kept (fun k => k ≠ Hb) w3 W4 := by rw [hW4]; exact (Kept.refl _ _).setCell (by simp) _
  have Z1 : Hid (GBox W4 w.heap.size Hf.G.z) := Y1.out.kept hk4 (by omega)
  have Z2 : Hid (GBox W4 (w.heap.size + 1) ⟨xw, xl, xs, .slice xa xm xc⟩) := Y2.out.kept hk4 (by omega)
  have K4 : Hid (Stays Hb (.slice (some ⟨g, 0, none⟩) (n + 1) c) w W4) := K3.out.trans (hk4.mono fun k hk => hk.1)
  have h4 : Heap W4 base Hb (.slice (some ⟨g, 0, none⟩) n c) (Hf.swp l 0 n).dropLast := by
    rw [hW4]; exact H3.out.cut (by rw [Hf.swp_length]; exact HLn.out.symm)
  have hla := leastAt_any base Hb (.slice (some ⟨g, 0, none⟩) n c) (Hf.swp l 0 n).dropLast W4 h4 0 (by omega) (by rw [List.length_dropLast, Hf.swp_length]; omega)
  rw [show ((0 : Nat) : Int) = 0 from rfl] at hla
  have H4 : Hid (Heap W4 base Hb (.slice (some ⟨g, 0, none⟩) n c) (Hf.swp l 0 n).dropLast) := h4
  clear Y1 Y2 K3 H3 h4 hk4
  go_wp2_with fail
  rw [← hW4]
  refine hla.mono ?_
  rintro e w5 ⟨rfl, hb5⟩
  clear hla hW4 c0 c1 f1
  obtain ⟨l4, hl4⟩ : ∃ l4, (Hf.swp l 0 n).dropLast = l4 := ⟨_, rfl⟩
  rw [hl4] at HP HD HL H4 HSB
  have Z1' : Hid (GBox w5 w.heap.size Hf.G.z) := Z1.out.below hb5 Z1.out.lt
  have Z2' : Hid (GBox w5 (w.heap.size + 1) ⟨xw, xl, xs, .slice xa xm xc⟩) := Z2.out.below hb5 Z2.out.lt
  have K5 : Hid (Stays Hb (.slice (some ⟨g, 0, none⟩) (n + 1) c) w w5) := K4.out.trans (Kept.of_below hb5)
  have H5 : Hid (Heap w5 base Hb (.slice (some ⟨g, 0, none⟩) n c) l4) := H4.out.keep hb5
  have hn256 : n ≤ 255 := by have := HLn.out; omega
  rw [hl4]
  clear Z1 Z2 K4 H4 hb5 hl4 hl h0
  go_wp2_with fail
  go_loopw [5, 6] (fun x y wr => ∃ (lr : List Hf.G) (p : Nat), x = .int .i64 p ∧ y = .int .i64 (Hf.least lr p : Nat) ∧ p ≤ n ∧ Hid (p < lr.length ∨ lr = []) ∧ Hid (lr.Perm l4) ∧ Hid (Hf.Dn lr p) ∧ Hid (Heap wr base Hb (.slice (some ⟨g, 0, none⟩) n c) lr) ∧
    Hid (GBox wr w.heap.size Hf.G.z) ∧ Hid (GBox wr (w.heap.size + 1) ⟨xw, xl, xs, .slice xa xm xc⟩) ∧ Hid (Stays Hb (.slice (some ⟨g, 0, none⟩) (n + 1) c) w wr)) (fun x _ _ => n - (intOf x).toNat)
  case atStart => exact ⟨l4, 0, rfl, rfl, by omega, by by_cases e : l4 = []; · exact .inr e
                                                       · exact .inl (List.length_pos_iff.2 e), List.Perm.refl _, HD, H5, Z1', Z2', K5⟩
  case round =>
    obtain ⟨lr, p, rfl, rfl, hpn, hpl, hpm, hdn, hhp, x1, x2, hks⟩ := hrel
    have hlen : lr.length = n := hpm.out.length_eq.trans HL.out
    by_cases hdone : Hf.least lr p = p
    · have HO : Hid (Hf.Ord lr) := hdn.out.done hdone
      rw [hdone]
      have d0 := x1.out.c0
      have d1 := x1.out.c1
      have d2 := x1.out.c2
      have g0 := x1.out.f0
      have g1 := x1.out.f1
      have g2 := x1.out.f2
      have c0 := x2.out.c0
      have c1 := x2.out.c1
      have c2 := x2.out.c2
      dsimp only at c0 c1 c2
      clear hdone hlen
      go_wp2_with fail
      refine bodyPost_ret (v := gV ⟨xw, xl, xs, .slice xa xm xc⟩) ?_ rfl ⟨rfl, .slice (some ⟨g, 0, none⟩) n c, lr, HP.out.trans (hpm.out.symm.cons _), HO.out, rfl, ?_, ?_⟩
      · simp [results, asAddr, go_sem, d0, d1, d2, gV]
      · have hk : Kept (fun k => k ≠ w.heap.size) wr (((wr.setCell ⟨w.heap.size, 0, none⟩ (.int .i64 xw)).setCell ⟨w.heap.size, 1, none⟩ (.int .i64 xl)).setCell ⟨w.heap.size, 2, none⟩ (.slice xa xm xc)) := (((Kept.refl _ wr).setCell (by simp) _).setCell (by simp) _).setCell (by simp) _
        exact hhp.out.kept' hk (by omega) (fun b hb => by simp [Value.ownBlock] at hb; omega) (fun y hy b hb => by have := HSB.out y (hpm.out.mem_iff.1 hy) b hb; omega)
      · exact ((hks.out.setNew (by simp) _).setNew (by simp) _).setNew (by simp) _
    · have hst := hdn.out.step (m := Hf.least lr p) (by
        rcases hpl.out with h | h
        · exact h
        · exact absurd (by rw [h]; simp [Hf.least, Hf.one]) hdone) rfl hdone
      have hne : ((Hf.least lr p : Nat) : Int) ≠ (p : Int) := by omega
      generalize Hf.least lr p = m at *
      obtain ⟨hdn', hpm', hml⟩ := hst
      have hsw := swap_any base Hb (.slice (some ⟨g, 0, none⟩) n c) lr wr hhp.out p m (by omega) hml (by omega)
      have HDN : Hid (Hf.Dn (Hf.swp lr p m) m) := hdn'
      have HPM : Hid ((Hf.swp lr p m).Perm l4) := (Hf.swp_perm (by omega) hml).trans hpm.out
      have HSL : Hid ((Hf.swp lr p m).length = lr.length) := Hf.swp_length _ _ _
      clear hdn hdn' hpm hpl hdone hhp
      go_wp2_with fail
      refine hsw.mono ?_
      rintro e w6 ⟨rfl, h6, k6⟩
      clear hsw
      have hla := leastAt_any base Hb (.slice (some ⟨g, 0, none⟩) n c) (Hf.swp lr p m) w6 h6 m (by omega) (by have := HSL.out; omega)
      have H6 : Hid (Heap w6 base Hb (.slice (some ⟨g, 0, none⟩) n c) (Hf.swp lr p m)) := h6
      have Y1 : Hid (GBox w6 w.heap.size Hf.G.z) := x1.out.kept k6 ⟨by omega, by simp [Value.ownBlock]; omega⟩
      have Y2 : Hid (GBox w6 (w.heap.size + 1) ⟨xw, xl, xs, .slice xa xm xc⟩) := x2.out.kept k6 ⟨by omega, by simp [Value.ownBlock]; omega⟩
      have K6 : Hid (Stays Hb (.slice (some ⟨g, 0, none⟩) (n + 1) c) w w6) := hks.out.trans k6
      clear h6 k6 x1 x2 hks
      go_wp2_with fail
      refine hla.mono ?_
      rintro e w7 ⟨rfl, hb7⟩
      clear hla
      have H7 : Hid (Heap w7 base Hb (.slice (some ⟨g, 0, none⟩) n c) (Hf.swp lr p m)) := H6.out.keep hb7
      have Y1' : Hid (GBox w7 w.heap.size Hf.G.z) := Y1.out.below hb7 Y1.out.lt
      have Y2' : Hid (GBox w7 (w.heap.size + 1) ⟨xw, xl, xs, .slice xa xm xc⟩) := Y2.out.below hb7 Y2.out.lt
      have K7 : Hid (Stays Hb (.slice (some ⟨g, 0, none⟩) (n + 1) c) w w7) := K6.out.trans (Kept.of_below hb7)
      clear hb7 H6 Y1 Y2 K6
      go_wp2_with fail
      go_roundw
      case rel => exact ⟨Hf.swp lr p m, m, rfl, rfl, by omega, .inl (by have := HSL.out; omega), HPM, HDN, H7, Y1', Y2', K7⟩
      case measure => simp only [intOf]; omega
end Go.Proofs.Ytgdkfaphbbdnbaa
