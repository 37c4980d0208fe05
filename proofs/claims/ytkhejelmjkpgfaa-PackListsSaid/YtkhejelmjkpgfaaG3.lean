/-
  Numbers as they lie in memory; what allSigns and Kraft of package huff answer.
  What Kraft of package huff answers.
  What Codes of package huff answers.
  Heaps of signs as they lie in memory; what comesFirst, size and swap of package huff do.
  What idsOf of package pack answers.
  The library's contracts at this program: bits_Len64 (laid by the guide's own tools, written out in plain words).
  What countDigits and appendDigits of package num answer (contracts over the model's calls), and small facts.
  What joinDigits and readDigits of package num answer.
  What Get, GetInt of package num answer.
  Plain facts (no Go in here): what was got is put as just those bytes.
  Codes (no Go in it): bits of numbers, bytes of bits, words that are free of each other and the signs that are read by them.
  Codes (no Go in it): bytes of bits, the last filled up with 0; what is left behind the signs.
  Making the two least heaps one, again and again (no program in it): what stays true, and the lengths that come of it.
-/
import Derived.Test.YtkhejelmjkpgfaaG0
import Derived.Test.YtkhejelmjkpgfaaG2
import Derived.Test.YtkhejelmjkpgfaaG1
import Derived.Deep.Cut
import Derived.BigRegion
import Derived.Shelf.Strconv.Itoa0
import Derived.Test.YtkhejelmjkpgfaaProg

namespace Go.Proofs.Ytkhejelmjkpgfaa
open Go.RowKit
set_option maxRecDepth 4000

/-- numbers that lie in memory -/
structure Ints (w : World) (v : Value) (l : List Int) : Prop where
  at_ : ((∃ a c, v = .slice a 0 c) ∧ l = []) ∨ ∃ bk o cap, v = .slice (some ⟨bk, o, none⟩) l.length cap ∧ bk < w.heap.size ∧
    ∀ j (hj : j < l.length), w.cell? ⟨bk, o + j, none⟩ = some (.int .i64 l[j])
theorem Ints.slice {w : World} {v : Value} {l : List Int} (h : Ints w v l) : ∃ a c, v = .slice a l.length c := by
  rcases h.at_ with ⟨⟨a, c, rfl⟩, rfl⟩ | ⟨bk, o, cap, rfl, _⟩
  · exact ⟨_, _, rfl⟩
  · exact ⟨_, _, rfl⟩
theorem Ints.below {w w' : World} {v : Value} {l : List Int} (h : Ints w v l) {B : Nat} (hB : w.heap.size ≤ B) (hb : Below B w w') : Ints w' v l := by
  rcases h.at_ with h | ⟨bk, o, cap, h1, h3, h4⟩
  · exact ⟨.inl h⟩
  · exact ⟨.inr ⟨bk, o, cap, h1, Nat.lt_of_lt_of_le h3 hb.size, fun j hj => (hb.cell (p := ⟨bk, o + j, none⟩) (Nat.lt_of_lt_of_le h3 hB)).trans (h4 j hj)⟩⟩
/-- one of them -/
theorem Ints.get {w : World} {a : Option Addr} {n c : Nat} {l : List Int} (h : Ints w (.slice a n c) l) (j : Nat) (hj : j < l.length) : ∃ bk o, a = some ⟨bk, o, none⟩ ∧ n = l.length ∧ bk < w.heap.size ∧
    w.cell? ⟨bk, o + j, none⟩ = some (.int .i64 l[j]) := by
  rcases h.at_ with ⟨_, rfl⟩ | ⟨bk, o, cap, h1, h3, h4⟩
  · simp at hj
  · simp at h1
    obtain ⟨rfl, rfl, rfl⟩ := h1
    exact ⟨bk, o, rfl, rfl, h3, h4 j hj⟩
theorem Ints.getN {w : World} {a : Option Addr} {n c : Nat} {L : List Nat} (h : Ints w (.slice a n c) (Hf.up L)) (j : Nat) (hj : j < L.length) : ∃ bk o, a = some ⟨bk, o, none⟩ ∧ bk < w.heap.size ∧
    w.cell? ⟨bk, o + j, none⟩ = some (.int .i64 (L.getD j 0 : Nat)) := by
  obtain ⟨bk, o, h1, _, h2, h3⟩ := h.get j (by rw [Hf.up_length]; exact hj)
  exact ⟨bk, o, h1, h2, h3.trans (by rw [Hf.up_get])⟩
def Iv (n : Int) : Value := .int .i64 n
theorem info_int : (Try.prog.info? 3).map (fun i => (i.zero, i.size, i.bytes)) = some (some (.int .i64 0), 1, 8) := by kernel_rfl
theorem Ints.of_own {base : Nat} {w : World} {v : Value} {l : List Int} (h : w.ownsRow base 3 1 v l.length (l.map Iv)) : Ints w v l := by
  rcases h.2 with ⟨rfl, h0⟩ | ⟨g, cap, cur, rfl, hg, hh, _⟩
  · exact ⟨.inl ⟨⟨_, _, rfl⟩, List.length_eq_zero_iff.1 h0⟩⟩
  · refine ⟨.inr ⟨g, 0, cap, rfl, (Array.getElem?_eq_some_iff.1 hh).1, fun j hj => ?_⟩⟩
    have e := h.cellAt j (by omega)
    rw [Nat.zero_add, e, List.getElem?_map, List.getElem?_eq_getElem hj]
    rfl

namespace Hf
theorem sgn_empty (most : Int) : sgn most [] = false := decide_eq_false (by simp)
theorem sgn_long {most : Int} {l : List Int} (h : 256 < l.length) : sgn most l = false := decide_eq_false (by omega)
theorem sgn_one {most : Int} {l : List Int} (j : Nat) (hj : j < l.length) (h : l[j] < 0 ∨ most < l[j]) : sgn most l = false :=
  decide_eq_false fun ⟨_, _, h3⟩ => by have := h3 _ (List.getElem_mem hj); omega
theorem sgn_all {most : Int} {l : List Int} (h1 : 1 ≤ l.length) (h2 : l.length ≤ 256) (h : ∀ j (hj : j < l.length), 0 ≤ l[j] ∧ l[j] ≤ most) : sgn most l = true :=
  decide_eq_true ⟨h1, h2, fun n hn => by obtain ⟨j, hj, rfl⟩ := List.getElem_of_mem hn; exact h j hj⟩
end Hf

set_option maxHeartbeats 1000000 in
theorem signs_any (v : Value) (l : List Int) (most : Int) (w : World) (h : Ints w v l) (hl : l.length ≤ 140737488351232) :
    Calls Try.prog 103 #[v, .int .i64 most] w fun e w' => e = .returned (.bool (Hf.sgn most l)) ∧ w' = w := by
  obtain ⟨a, c, rfl⟩ := h.slice
  by_cases h0 : l.length < 1
  · have HK : Hid (Hf.sgn most l = false) := decide_eq_false (by omega)
    go_enter Try.func103, Try.ntmps103
    go_wp2_with fail
    go_ret
    exact ⟨by rw [HK.out]; rfl, rfl⟩
  by_cases h1 : 256 < l.length
  · have HK : Hid (Hf.sgn most l = false) := Hf.sgn_long h1
    go_enter Try.func103, Try.ntmps103
    go_wp2_with fail
    go_ret
    exact ⟨by rw [HK.out]; rfl, rfl⟩
  go_enter Try.func103, Try.ntmps103
  go_wp2_with fail
  go_loop [17] (fun i => ∃ k : Nat, k ≤ l.length ∧ i = .int .i64 k ∧ Hid (∀ j (hj : j < l.length), j < k → 0 ≤ l[j] ∧ l[j] ≤ most)) (fun i => l.length - (intOf i).toNat)
  case atStart => exact ⟨0, by omega, rfl, fun j _ h => by omega⟩
  case round =>
    obtain ⟨k, hk, rfl, hall⟩ := hrel
    by_cases hlt : k < l.length
    · obtain ⟨bk, o, rfl, _, hbk, c0⟩ := h.get k hlt
      generalize ht : l[k] = t at *
      have HT : Hid (l[k] = t) := ht
      clear ht h
      by_cases hb : t < 0 ∨ most < t
      · have HK : Hid (Hf.sgn most l = false) := Hf.sgn_one k hlt (by rw [HT.out]; exact hb)
        rcases hb with hb | hb
        · go_wp2_with fail
          go_ret
          exact ⟨by rw [HK.out]; rfl, rfl⟩
        · by_cases hb' : t < 0
          all_goals
            go_wp2_with fail
            go_ret
            exact ⟨by rw [HK.out]; rfl, rfl⟩
      · have hb1 : 0 ≤ t := by omega
        have hb2 : t ≤ most := by omega
        clear hb
        go_wp2_with fail
        go_round
        case rel =>
          refine ⟨k + 1, by omega, by go_num, fun j hj hjk => ?_⟩
          by_cases e : j = k
          · subst e; rw [HT.out]; exact ⟨hb1, hb2⟩
          · exact hall.out j hj (by omega)
        case measure => simp only [intOf]; omega
    · have HK : Hid (Hf.sgn most l = true) := Hf.sgn_all (by omega) (by omega) fun j hj => hall.out j hj (by omega)
      go_wp2_with fail
      go_ret
      exact ⟨by rw [HK.out]; rfl, rfl⟩
end Go.Proofs.Ytkhejelmjkpgfaa

namespace Go.Proofs.Ytkhejelmjkpgfaa
open Go.RowKit
set_option maxRecDepth 4000

theorem shr_full {n : Nat} (hn : n ≤ 48) : (281474976710656 : Int) / 2 ^ n = ((2 ^ (48 - n) : Nat) : Int) ∧ 2 ^ (48 - n) ≤ 281474976710656 := by
  have e : (281474976710656 : Nat) = 2 ^ n * 2 ^ (48 - n) := by
    rw [← Nat.pow_add, show n + (48 - n) = 48 from by omega]
  have hp := Nat.two_pow_pos n
  constructor
  · have : (281474976710656 : Nat) / 2 ^ n = 2 ^ (48 - n) := by rw [e, Nat.mul_div_cancel_left _ hp]
    rw [← this]
    simp
  · generalize 2 ^ (48 - n) = x at *
    rw [e]
    exact Nat.le_mul_of_pos_left _ hp

set_option maxHeartbeats 1000000 in
theorem kraft_bad (v : Value) (l : List Int) (w : World) (h : Ints w v l) (hl : l.length ≤ 140737488351232) (hb : Hf.sgn 48 l = false) :
    Calls Try.prog 109 #[v] w fun e w' => e = .returned (.tuple #[.int .i64 0, .int .i64 1]) ∧ w' = w := by
  have hs := signs_any v l 48 w h hl
  rw [hb] at hs
  clear hb
  go_enter Try.func109, Try.ntmps109
  go_wp2_with fail
  refine hs.mono ?_
  rintro e w' ⟨rfl, rfl⟩
  go_wp2_with fail
  go_ret2
  exact ⟨rfl, rfl⟩

set_option maxHeartbeats 1000000 in
theorem kraft_any (v : Value) (L : List Nat) (w : World) (h : Ints w v (Hf.up L)) (h1 : 1 ≤ L.length) (h2 : L.length ≤ 256) (h3 : ∀ n ∈ L, n ≤ 48) :
    Calls Try.prog 109 #[v] w fun e w' => e = .returned (.tuple #[.int .i64 (Hf.ksum L : Nat), .int .i64 0]) ∧ w' = w := by
  have hs := signs_any v (Hf.up L) 48 w h (by rw [Hf.up_length]; omega)
  rw [show Hf.sgn 48 (Hf.up L) = true from Hf.sgn_all (by rw [Hf.up_length]; exact h1) (by rw [Hf.up_length]; exact h2) fun j hj => by
    rw [Hf.up_get]; have := Hf.getD_le h3 j; omega] at hs
  obtain ⟨a, c, rfl⟩ := h.slice
  rw [Hf.up_length] at h hs ⊢
  have H3 : Hid (∀ n ∈ L, n ≤ 48) := h3
  clear h3
  go_enter Try.func109, Try.ntmps109
  go_wp2_with fail
  refine hs.mono ?_
  rintro e w' ⟨rfl, rfl⟩
  clear hs
  go_wp2_with fail
  go_loop [4, 12] (fun s i => ∃ k : Nat, k ≤ L.length ∧ i = .int .i64 k ∧ s = .int .i64 (Hf.kto L k : Nat)) (fun _ i => L.length - (intOf i).toNat)
  case atStart => exact ⟨0, by omega, rfl, rfl⟩
  case round =>
    obtain ⟨k, hk, rfl, rfl⟩ := hrel
    by_cases hlt : k < L.length
    · obtain ⟨bk, o, rfl, hbk, c0⟩ := h.getN k hlt
      have hkl := Hf.kto_le L k
      have hn := Hf.getD_le H3.out k
      have HS : Hid (Hf.kto L (k + 1) = Hf.kto L k + if 0 < L.getD k 0 then 2 ^ (48 - L.getD k 0) else 0) := Hf.kto_succ L k
      generalize L.getD k 0 = n at *
      generalize Hf.kto L k = S at *
      clear h
      by_cases hn0 : 0 < n
      · obtain ⟨hsh, hpb⟩ := shr_full hn
        have HP : Hid (Hf.kto L (k + 1) = S + 2 ^ (48 - n)) := by rw [HS.out, if_pos hn0]; rfl
        generalize 2 ^ (48 - n) = p at *
        clear HS
        go_wp2_with fail
        go_round
        case rel => exact ⟨k + 1, by omega, by go_num, by rw [HP.out]; go_num⟩
        case measure => simp only [intOf]; omega
      · go_wp2_with fail
        go_round
        case rel => exact ⟨k + 1, by omega, by go_num, by rw [HS.out, if_neg hn0]; go_num⟩
        case measure => simp only [intOf]; omega
    · obtain rfl : k = L.length := by omega
      go_wp2_with fail
      go_ret2
      exact ⟨by rw [Hf.kto_all]; rfl, rfl⟩
end Go.Proofs.Ytkhejelmjkpgfaa

namespace Go.Proofs.Ytkhejelmjkpgfaa
open Go.RowKit
set_option maxRecDepth 4000

theorem row_below {base : Nat} {e : TypeId} {k : Nat} {v : Value} {n : Nat} {xs : List Value} {w w' : World} (h : w.ownsRow base e k v n xs) (hb : Below w.heap.size w w') : w'.ownsRow base e k v n xs := by
  obtain ⟨h1, h2⟩ := h
  refine ⟨h1, ?_⟩
  rcases h2 with h2 | ⟨g, cap, cur, hv, hg, hh, r⟩
  · exact .inl h2
  · refine .inr ⟨g, cap, cur, hv, hg, ?_, r⟩
    rw [hb.block g ?_, hh]
    exact (Array.getElem?_eq_some_iff.1 hh).1
theorem row_lower {base base' : Nat} {e : TypeId} {k : Nat} {v : Value} {n : Nat} {xs : List Value} {w : World} (h : w.ownsRow base e k v n xs) (hb : base' ≤ base) : w.ownsRow base' e k v n xs := by
  obtain ⟨h1, h2⟩ := h
  refine ⟨h1, ?_⟩
  rcases h2 with h2 | ⟨g, cap, cur, hv, hg, r⟩
  · exact .inl h2
  · exact .inr ⟨g, cap, cur, hv, by omega, r⟩
/-- a row of noughts that was made -/
theorem made_zeros {base g n : Nat} {w : World} (h : w.ownsRow base 3 1 (.slice (some ⟨g, 0, none⟩) n n) n (madeCells (Value.int .i64 0).cells (n * 1)).toList) :
    w.ownsRow base 3 1 (.slice (some ⟨g, 0, none⟩) n n) n ((List.replicate n (0 : Int)).map Iv) := by
  have e : (madeCells (Value.int .i64 0).cells (n * 1)).toList = (List.replicate n (0 : Int)).map Iv := by
    rw [Nat.mul_one]
    refine List.ext_getElem (by simp [size_madeCells]) fun i h1 h2 => ?_
    simp [madeCells, Value.cells, Iv, Nat.mod_one]
  rw [← e]
  exact h
/-- a number stored in a row of one's own -/
theorem own_store {base g n cap : Nat} {w : World} {l : List Int} (h : w.ownsRow base 3 1 (.slice (some ⟨g, 0, none⟩) n cap) n (l.map Iv)) (k : Nat) (x : Int) :
    (w.setCell ⟨g, k, none⟩ (.int .i64 x)).ownsRow base 3 1 (.slice (some ⟨g, 0, none⟩) n cap) n ((l.set k x).map Iv) := by
  have := (h.stored k (.int .i64 x)).1
  rw [List.map_set]
  exact this
theorem own_at {base g n cap : Nat} {w : World} {l : List Int} (h : w.ownsRow base 3 1 (.slice (some ⟨g, 0, none⟩) n cap) n (l.map Iv)) (k : Nat) (hk : k < l.length) :
    w.cell? ⟨g, k, none⟩ = some (.int .i64 l[k]) := by
  have hn : l.length = n := by have := h.1; simpa using this
  rw [h.cellAt k (by omega), List.getElem?_map, List.getElem?_eq_getElem hk]
  rfl

set_option maxHeartbeats 1000000 in
theorem codes_bad (v : Value) (l : List Int) (w : World) (h : Ints w v l) (hl : l.length ≤ 140737488351232) (hb : Hf.sgn 48 l = false) :
    Calls Try.prog 73 #[v] w fun e w' => e = .returned (.tuple #[.slice none 0 0, .int .i64 1]) ∧ w' = w := by
  have hs := kraft_bad v l w h hl hb
  clear hb
  go_enter Try.func73, Try.ntmps73
  go_wp2_with fail
  refine hs.mono ?_
  rintro e w' ⟨rfl, rfl⟩
  go_wp2_with fail
  go_ret2
  exact ⟨rfl, rfl⟩

set_option maxHeartbeats 1000000 in
theorem codes_form (v : Value) (L : List Nat) (w : World) (h : Ints w v (Hf.up L)) (h1 : 1 ≤ L.length) (h2 : L.length ≤ 256) (h3 : ∀ n ∈ L, n ≤ 48) (hk : 281474976710656 < Hf.ksum L) :
    Calls Try.prog 73 #[v] w fun e w' => e = .returned (.tuple #[.slice none 0 0, .int .i64 4]) ∧ w' = w := by
  have hs := kraft_any v L w h h1 h2 h3
  have hb := Hf.kto_le L L.length
  rw [Hf.kto_all] at hb
  generalize Hf.ksum L = K at *
  clear h h3
  go_enter Try.func73, Try.ntmps73
  go_wp2_with fail
  refine hs.mono ?_
  rintro e w' ⟨rfl, rfl⟩
  go_wp2_with fail
  go_ret2
  exact ⟨rfl, rfl⟩

set_option maxRecDepth 4000 in
set_option maxHeartbeats 2000000 in
theorem codes_any (v : Value) (L : List Nat) (w : World) (h : Ints w v (Hf.up L)) (h1 : 1 ≤ L.length) (h2 : L.length ≤ 256) (h3 : ∀ n ∈ L, n ≤ 48) (hk : Hf.ksum L ≤ 281474976710656) :
    Calls Try.prog 73 #[v] w fun e w' => ∃ v', e = .returned (.tuple #[v', .int .i64 0]) ∧ w'.ownsRow w.heap.size 3 1 v' L.length ((Hf.codes L).map Iv) ∧ Below w.heap.size w w' := by
  have hs := kraft_any v L w h h1 h2 h3
  obtain ⟨i0, hi, hz0, hz1, hz2⟩ := info_parts info_int
  obtain ⟨a, c, rfl⟩ := h.slice
  rw [Hf.up_length] at h hs ⊢
  have HB : Hid (∀ b k, b ≤ 48 → Hf.nxt L b k ≤ 281474976710656) := fun b k hb => Hf.nxt_bound hb hk
  have H3 : Hid (∀ n ∈ L, n ≤ 48) := h3
  have HC : Hid (Hf.given L 49 0 = Hf.codes L) := Hf.given_end h3
  generalize Hf.ksum L = K at *
  clear h3
  go_enter Try.func73, Try.ntmps73
  go_wp2_with fail
  refine hs.mono ?_
  rintro e w' ⟨rfl, rfl⟩
  clear hs
  go_wp2_with (at_make; refine wpList_make_full _ rfl (.tmp 22) (.tmp 22) 82 rfl w'.heap.size 3 i0 (.int .i64 0) 1 Try.underlying82 hi hz0 hz1 .i64 .i64 _ _ L.length rfl rfl rfl rfl (by rw [hz2]; omega) (by unfold maxLen; omega) (Nat.le_refl _) ?_; intro w1 hown hgrow)
  have hown1 := made_zeros hown
  rw [← Hf.given_start] at hown1
  have HB1 : Hid (Below w'.heap.size w' w1) := (Below.refl _ _).grown hgrow (Nat.le_refl _) (fun k hk => by cases hk)
  clear hown hgrow
  go_wp2_with fail
  go_loopw [7, 8] (fun s i wr => ∃ b : Nat, b ≤ 48 ∧ i = .int .i64 ((b : Int) + 1) ∧ s = .int .i64 (Hf.nxt L b L.length : Nat) ∧ wr.ownsRow w'.heap.size 3 1 (.slice (some ⟨w'.heap.size, 0, none⟩) L.length L.length) L.length ((Hf.given L (b + 1) 0).map Iv) ∧ Hid (Below w'.heap.size w' wr)) (fun _ i _ => 49 - (intOf i).toNat)
  case atStart => exact ⟨0, by omega, rfl, by rw [Hf.nxt_zero]; rfl, hown1, HB1⟩
  case round =>
    obtain ⟨b, hb, rfl, rfl, hown, hbel⟩ := hrel
    by_cases hlt : b < 48
    · have hN := HB.out b L.length hb
      have HD : Hid (Hf.nxt L (b + 1) 0 = Hf.nxt L b L.length * 2) := Hf.nxt_double L b
      generalize Hf.nxt L b L.length = N at *
      go_wp2_with fail
      go_loopw [7, 32] (fun s i wr => ∃ k : Nat, k ≤ L.length ∧ i = .int .i64 k ∧ s = .int .i64 (Hf.nxt L (b + 1) k : Nat) ∧ wr.ownsRow w'.heap.size 3 1 (.slice (some ⟨w'.heap.size, 0, none⟩) L.length L.length) L.length ((Hf.given L (b + 1) k).map Iv) ∧ Hid (Below w'.heap.size w' wr)) (fun _ i _ => L.length - (intOf i).toNat)
      case atStart => exact ⟨0, by omega, rfl, by rw [HD.out]; go_num, hown, hbel⟩
      case round =>
        obtain ⟨k, hkl, rfl, rfl, hown, hbel⟩ := hrel
        by_cases hlt2 : k < L.length
        · obtain ⟨bk, o, rfl, hbk, c0⟩ := (h.below (Nat.le_refl _) hbel.out).getN k hlt2
          have hM := HB.out (b + 1) k (by omega)
          have hn := Hf.getD_le H3.out k
          by_cases hnb : L.getD k 0 = b + 1
          · have HH : Hid (Hf.nxt L (b + 1) (k + 1) = Hf.nxt L (b + 1) k + 1) := Hf.nxt_hit hlt2 (by omega) hnb
            have HG : Hid (Hf.given L (b + 1) (k + 1) = (Hf.given L (b + 1) k).set k (Hf.nxt L (b + 1) k : Nat)) := Hf.given_hit (by omega) hnb
            rw [hnb] at c0
            clear hnb hn
            generalize Hf.nxt L (b + 1) k = M at *
            have x1 := own_at hown k (by rw [Hf.given_length]; exact hlt2)
            have x2 := hown.frozenAt k
            generalize (Hf.given L (b + 1) k)[k]'(by rw [Hf.given_length]; exact hlt2) = x at *
            have HO := own_store hown k (M : Int)
            rw [← HG.out] at HO
            have HO' : Hid ((wr.setCell ⟨w'.heap.size, k, none⟩ (.int .i64 (M : Int))).ownsRow w'.heap.size 3 1 (.slice (some ⟨w'.heap.size, 0, none⟩) L.length L.length) L.length ((Hf.given L (b + 1) (k + 1)).map Iv)) := HO
            have HB2 : Hid (Below w'.heap.size w' (wr.setCell ⟨w'.heap.size, k, none⟩ (.int .i64 (M : Int)))) := hbel.out.setCell (Nat.le_refl _) _
            clear HO hown
            go_wp2_with fail
            go_roundw
            case rel => exact ⟨k + 1, by omega, by go_num, by rw [HH.out]; go_num, HO'.out, HB2⟩
            case measure => simp only [intOf]; omega
          · have HH : Hid (Hf.nxt L (b + 1) (k + 1) = Hf.nxt L (b + 1) k) := Hf.nxt_miss hnb
            have HG : Hid (Hf.given L (b + 1) (k + 1) = Hf.given L (b + 1) k) := Hf.given_miss hnb
            generalize L.getD k 0 = n at *
            generalize Hf.nxt L (b + 1) k = M at *
            go_wp2_with fail
            go_roundw
            case rel => exact ⟨k + 1, by omega, by go_num, by rw [HH.out], by rw [HG.out]; exact hown, hbel⟩
            case measure => simp only [intOf]; omega
        · obtain rfl : k = L.length := by omega
          rw [Hf.given_next] at hown
          go_wp2_with fail
          go_roundw
          case rel => exact ⟨b + 1, by omega, by go_num, rfl, hown, hbel⟩
          case measure => simp only [intOf]; omega
    · obtain rfl : b = 48 := by omega
      have HO : Hid (wr.ownsRow w'.heap.size 3 1 (.slice (some ⟨w'.heap.size, 0, none⟩) L.length L.length) L.length ((Hf.codes L).map Iv)) := by rw [← HC.out]; exact hown
      clear hown
      generalize Hf.nxt L 48 L.length = N at *
      go_wp2_with fail
      go_ret2
      exact ⟨_, rfl, HO.out, hbel.out⟩
end Go.Proofs.Ytkhejelmjkpgfaa

namespace Go.Proofs.Ytkhejelmjkpgfaa
open Go.RowKit
set_option maxRecDepth 4000

def gC (g : Hf.G) : List Value := [.int .i64 g.wt, .int .i64 g.low, g.sv]
def gV (g : Hf.G) : Value := .agg #[.int .i64 g.wt, .int .i64 g.low, g.sv]
def rowG (l : List Hf.G) : List Value := l.flatMap gC
theorem rowG_length (l : List Hf.G) : (rowG l).length = 3 * l.length := by
  induction l with
  | nil => rfl
  | cons t l ih => show (gC t ++ rowG l).length = _; rw [List.length_append, ih, List.length_cons]; simp [gC]; omega
theorem rowG_more (l : List Hf.G) (t : Hf.G) : rowG (l ++ [t]) = rowG l ++ gC t := by simp [rowG]
theorem rowG_get (l : List Hf.G) (i r : Nat) (hi : i < l.length) (hr : r < 3) : (rowG l)[3 * i + r]? = (gC (Hf.nth l i))[r]? := by
  rw [Hf.nth_get hi]
  induction l generalizing i with
  | nil => simp at hi
  | cons t l ih =>
    show (gC t ++ rowG l)[3 * i + r]? = _
    cases i with
    | zero => rw [List.getElem?_append_left (by simp [gC]; omega)]; simp
    | succ i =>
      rw [List.getElem?_append_right (by simp [gC]; omega), show 3 * (i + 1) + r - (gC t).length = 3 * i + r from by simp [gC]; omega, ih i (by simpa using hi)]
      rfl
theorem rowG_set (l : List Hf.G) (i : Nat) (g : Hf.G) : rowG (l.set i g) = (((rowG l).set (3 * i) (.int .i64 g.wt)).set (3 * i + 1) (.int .i64 g.low)).set (3 * i + 2) g.sv := by
  induction l generalizing i with
  | nil => rfl
  | cons t l ih =>
    cases i with
    | zero => rfl
    | succ i =>
      show gC t ++ rowG (l.set i g) = (((gC t ++ rowG l).set (3 * (i + 1)) _).set (3 * (i + 1) + 1) _).set (3 * (i + 1) + 2) _
      have hl : (gC t).length = 3 := rfl
      rw [ih, List.set_append_right _ _ (by omega), List.set_append_right _ _ (by omega), List.set_append_right _ _ (by omega), hl,
        show 3 * (i + 1) - 3 = 3 * i by omega, show 3 * (i + 1) + 1 - 3 = 3 * i + 1 by omega, show 3 * (i + 1) + 2 - 3 = 3 * i + 2 by omega]
/-- the function that a heap holds -/
def fnV : Value := .func (.func 129) #[] #[]
/-- a heap whose items are l: its block Hb, the list v, and each one's signs -/
structure Heap (W : World) (base Hb : Nat) (v : Value) (l : List Hf.G) : Prop where
  box : W.heap[Hb]? = some (.cells #[fnV, v] 183 (0, 0))
  old : base ≤ Hb
  row : W.ownsRow base 145 3 v l.length (rowG l)
  signs : ∀ g ∈ l, W.ownsRow base 3 1 g.sv g.sg.length ((Hf.up g.sg).map Iv)
/-- all but the heap's own two blocks stay -/
def Stays (Hb : Nat) (v : Value) : World → World → Prop := Kept fun k => k ≠ Hb ∧ v.ownBlock ≠ some k

theorem own_kept {p : Nat → Prop} {base : Nat} {e : TypeId} {k : Nat} {v : Value} {n : Nat} {xs : List Value} {w w' : World} (h : w.ownsRow base e k v n xs) (hk : Kept p w w') (hp : ∀ g, v.ownBlock = some g → p g) : w'.ownsRow base e k v n xs := by
  obtain ⟨h1, h2⟩ := h
  refine ⟨h1, ?_⟩
  rcases h2 with h2 | ⟨g, cap, cur, hv, hg, hh, r⟩
  · exact .inl h2
  · refine .inr ⟨g, cap, cur, hv, hg, ?_, r⟩
    rw [hk.block g (Array.getElem?_eq_some_iff.1 hh).1 (hp g (by rw [hv]; rfl)), hh]
theorem own_block {base : Nat} {e : TypeId} {k : Nat} {v : Value} {n : Nat} {xs : List Value} {w : World} (h : w.ownsRow base e k v n xs) {g : Nat} (hg : v.ownBlock = some g) : ∃ cur, w.heap[g]? = some (.cells cur e (0, 0)) ∧ base ≤ g := by
  rcases h.2 with ⟨rfl, _⟩ | ⟨g', cap, cur, rfl, hb, hh, _⟩
  · simp [Value.ownBlock] at hg
  · simp [Value.ownBlock] at hg
    subst hg
    exact ⟨cur, hh, hb⟩
theorem Heap.apart {W : World} {base Hb : Nat} {v : Value} {l : List Hf.G} (h : Heap W base Hb v l) : v.ownBlock ≠ some Hb := by
  intro e
  obtain ⟨cur, hc, _⟩ := own_block h.row e
  rw [h.box] at hc
  simp at hc
/-- a row of numbers is none of a heap's two blocks -/
theorem Heap.sign_apart {W : World} {base Hb : Nat} {v : Value} {l : List Hf.G} (h : Heap W base Hb v l) {b n : Nat} {u : Value} {xs : List Value} (hu : W.ownsRow b 3 1 u n xs) : ∀ g, u.ownBlock = some g → g ≠ Hb ∧ v.ownBlock ≠ some g := by
  intro g hg
  obtain ⟨cur, hc, _⟩ := own_block hu hg
  refine ⟨fun e => ?_, fun e => ?_⟩
  · subst e
    rw [h.box] at hc
    simp at hc
  · obtain ⟨cur', hc', _⟩ := own_block h.row e
    rw [hc] at hc'
    simp at hc'
theorem Heap.keep {W W' : World} {base Hb : Nat} {v : Value} {l : List Hf.G} (h : Heap W base Hb v l) (hb : Below W.heap.size W W') : Heap W' base Hb v l :=
  ⟨(hb.block _ (Array.getElem?_eq_some_iff.1 h.box).1).trans h.box, h.old, row_below h.row hb, fun g hg => row_below (h.signs g hg) hb⟩

set_option maxHeartbeats 1000000 in
theorem first_any (a b : Hf.G) (w : World) :
    Calls Try.prog 129 #[gV a, gV b] w fun e w' => e = .returned (.bool (Hf.ltG a b)) ∧ Below w.heap.size w w' := by
  unfold gV
  have HB : Hid (∀ x y, Below w.heap.size w ((w.alloc x).alloc y)) := fun x y => ((Below.refl _ w).alloc (Nat.le_refl _) _).alloc (by simp) _
  by_cases e : a.wt = b.wt
  · have hne : ((a.wt : Int) != (b.wt : Int)) = false := by simp [e]
    have HR : Hid (Hf.ltG a b = decide (a.low < b.low)) := by unfold Hf.ltG; exact decide_eq_decide.2 (by omega)
    clear e
    generalize a.wt = x at *
    generalize b.wt = y at *
    go_enter Try.func129, Try.ntmps129
    go_wp2_with fail
    go_ret
    exact ⟨by rw [HR.out]; simp, HB.out _ _⟩
  · have hne : ((a.wt : Int) != (b.wt : Int)) = true := by simp; omega
    have HR : Hid (Hf.ltG a b = decide (a.wt < b.wt)) := by unfold Hf.ltG; exact decide_eq_decide.2 (by omega)
    clear e
    generalize a.wt = x at *
    generalize b.wt = y at *
    go_enter Try.func129, Try.ntmps129
    go_wp2_with fail
    go_ret
    exact ⟨by rw [HR.out]; simp, HB.out _ _⟩

theorem Heap.cells {W : World} {base Hb : Nat} {v : Value} {l : List Hf.G} (h : Heap W base Hb v l) : W.cell? ⟨Hb, 0, none⟩ = some fnV ∧ W.cell? ⟨Hb, 1, none⟩ = some v ∧ W.frozen? ⟨Hb, 1, none⟩ = false := by
  refine ⟨?_, ?_, ?_⟩
  · rw [cell_of_row _ Hb 0 _ _ _ h.box]; rfl
  · rw [cell_of_row _ Hb 1 _ _ _ h.box]; rfl
  · simp [World.frozen?, h.box]
theorem Heap.slice {W : World} {base Hb : Nat} {v : Value} {l : List Hf.G} (h : Heap W base Hb v l) : ∃ a c, v = .slice a l.length c := by
  rcases h.row.2 with ⟨rfl, h0⟩ | ⟨g, cap, cur, rfl, _⟩
  · exact ⟨_, _, by rw [h0]⟩
  · exact ⟨_, _, rfl⟩
theorem Heap.slice1 {W : World} {base Hb : Nat} {v : Value} {l : List Hf.G} (h : Heap W base Hb v l) (hl : 0 < l.length) : ∃ g c, v = .slice (some ⟨g, 0, none⟩) l.length c := by
  rcases h.row.2 with ⟨rfl, h0⟩ | ⟨g, cap, cur, rfl, _⟩
  · omega
  · exact ⟨_, _, rfl⟩
/-- the cells of one of them -/
theorem Heap.at_ {W : World} {base Hb g n c : Nat} {l : List Hf.G} (h : Heap W base Hb (.slice (some ⟨g, 0, none⟩) n c) l) (hn : n = l.length) (i : Nat) (hi : i < l.length) :
    W.cell? ⟨g, i * 3, none⟩ = some (.int .i64 (Hf.nth l i).wt) ∧ W.cell? ⟨g, i * 3 + 1, none⟩ = some (.int .i64 (Hf.nth l i).low) ∧ W.cell? ⟨g, i * 3 + 2, none⟩ = some (Hf.nth l i).sv ∧
    W.frozen? ⟨g, i * 3, none⟩ = false ∧ W.frozen? ⟨g, i * 3 + 1, none⟩ = false ∧ W.frozen? ⟨g, i * 3 + 2, none⟩ = false ∧ g < W.heap.size := by
  subst hn
  have e := fun r (hr : r < 3) => (h.row.cellAt (3 * i + r) (by omega)).trans (rowG_get l i r hi hr)
  have e0 := e 0 (by omega)
  have e1 := e 1 (by omega)
  have e2 := e 2 (by omega)
  rw [show 3 * i = i * 3 from by omega] at e0 e1 e2
  obtain ⟨cur, hc, _⟩ := own_block h.row rfl
  exact ⟨e0, e1, e2, h.row.frozenAt _, h.row.frozenAt _, h.row.frozenAt _, (Array.getElem?_eq_some_iff.1 hc).1⟩

set_option maxHeartbeats 1000000 in
theorem size_any (base Hb : Nat) (v : Value) (l : List Hf.G) (w : World) (h : Heap w base Hb v l) :
    Calls Try.prog 105 #[.pointer (some ⟨Hb, 0, none⟩)] w fun e w' => e = .returned (.int .i64 l.length) ∧ w' = w := by
  obtain ⟨a, c, rfl⟩ := h.slice
  obtain ⟨c0, c1, f1⟩ := h.cells
  go_enter Try.func105, Try.ntmps105
  go_wp2_with fail
  go_ret
  exact ⟨rfl, rfl⟩
end Go.Proofs.Ytkhejelmjkpgfaa

namespace Go.Proofs.Ytkhejelmjkpgfaa
open Go.RowKit
set_option maxRecDepth 4000

theorem info_id : (Try.prog.info? 26).map (fun i => (i.zero, i.size, i.bytes)) = some (some (.agg #[.int .u8 0, .int .u8 0, .int .u8 0, .int .u8 0, .int .u8 0, .int .u8 0, .int .u8 0, .int .u8 0]), 8, 8) := by kernel_rfl
/-- the cells of a blob's ID -/
def bidC (b : Blb) : List Value := (Pk.bid b.p).map B
theorem bidC_length (b : Blb) : (bidC b).length = 8 := by rw [bidC, List.length_map, Pk.bid_length]
theorem bidC_one (b : Blb) : ∀ u ∈ bidC b, u.oneCell' = true := by
  intro u hu
  obtain ⟨c, _, rfl⟩ := List.mem_map.1 hu
  rfl
def mpOf (l : List Blb) : List (List UInt8 × Value) := l.map fun b => (Pk.bid b.p, blV b)
theorem mpOf_keys (l : List Blb) : (mpOf l).map (·.1) = (l.map Blb.p).map Pk.bid := by simp [mpOf, List.map_map, Function.comp_def]
def IdsOut (w w' : World) (v : Value) (l : List Blb) : Prop :=
  (Pk.makeErr (l.map Blb.p) = 0 → w'.ownsRow w.heap.size 26 8 v l.length (rowR bidC l)) ∧ (Pk.makeErr (l.map Blb.p) ≠ 0 → v = .slice none 0 0) ∧ Below w.heap.size w w'
theorem take_more {α : Type} {l : List α} {k : Nat} {t : α} (h : l[k]? = some t) : l.take (k + 1) = l.take k ++ [t] := by
  rw [List.take_add_one, h]; rfl
theorem drop_here {α : Type} {l : List α} {k : Nat} {t : α} (h : l[k]? = some t) : l.drop k = t :: l.drop (k + 1) := by
  obtain ⟨hk, rfl⟩ := List.getElem?_eq_some_iff.1 h
  exact List.drop_eq_getElem_cons hk
/-- one blob's turn -/
theorem mErr_turn {l : List Blb} {k : Nat} {t : Blb} (h : l[k]? = some t) : Pk.mErr ((l.take k).map Blb.p) ((l.drop k).map Blb.p) =
    if Pk.bErr t.p ≠ 0 then Pk.bErr t.p else if t.p ∈ (l.take k).map Blb.p then 10 else if Pk.bid t.p ∈ ((l.take k).map Blb.p).map Pk.bid then 11 else Pk.mErr ((l.take (k + 1)).map Blb.p) ((l.drop (k + 1)).map Blb.p) := by
  rw [drop_here h, List.map_cons, Pk.mErr, take_more h, List.map_append]
  rfl
theorem nodup_inj {α β : Type} {f : α → β} : ∀ {l : List α}, (l.map f).Nodup → ∀ {a b : α}, a ∈ l → b ∈ l → f a = f b → a = b
  | [], _, _, _, ha, _, _ => by simp at ha
  | x :: l, h, a, b, ha, hb, e => by
    rw [List.map_cons, List.nodup_cons] at h
    rcases List.mem_cons.1 ha with h1 | h1
    · rcases List.mem_cons.1 hb with h2 | h2
      · rw [h1, h2]
      · subst h1
        exact absurd (by rw [e]; exact List.mem_map_of_mem h2) h.1
    · rcases List.mem_cons.1 hb with h2 | h2
      · subst h2
        exact absurd (by rw [← e]; exact List.mem_map_of_mem h1) h.1
      · exact nodup_inj h.2 h1 h2 e
theorem mem_bid {l : List Blb} {b : Blb} (h : Pk.bid b.p ∈ (l.map Blb.p).map Pk.bid) (hu : ((l.map Blb.p).map Pk.bid).Nodup) : ∃ o ∈ l, Pk.bid o.p = Pk.bid b.p ∧ (b.p ∈ l.map Blb.p → o = b) := by
  obtain ⟨q, hq, e⟩ := List.mem_map.1 h
  obtain ⟨o, ho, rfl⟩ := List.mem_map.1 hq
  refine ⟨o, ho, e, fun hb => ?_⟩
  obtain ⟨o', ho', e'⟩ := List.mem_map.1 hb
  have e2 := Blb.p_inj e'
  subst e2
  exact nodup_inj (f := fun x : Blb => Pk.bid x.p) (l := l) (by simpa [List.map_map, Function.comp_def] using hu) ho ho' e
theorem zero_blob (w : World) : (zeroValue 24).run Try.prog w = .ok (.agg #[.int .i64 0, .string ⟨#[]⟩]) w := by kernel_rfl
theorem under_mapB : Try.prog.underlying 74 = some (.map 26 24) := by kernel_rfl

theorem more_nodup {l : List Blb} {k : Nat} {t : Blb} (ht : l[k]? = some t) (h : (((l.take k).map Blb.p).map Pk.bid).Nodup) (hn : Pk.bid t.p ∉ ((l.take k).map Blb.p).map Pk.bid) : (((l.take (k + 1)).map Blb.p).map Pk.bid).Nodup := by
  rw [take_more ht, List.map_append, List.map_append, List.nodup_append]
  refine ⟨h, by simp, fun x hx y hy e => ?_⟩
  obtain rfl : y = Pk.bid t.p := by simpa using hy
  exact hn (e ▸ hx)
theorem mpOf_more {l : List Blb} {k : Nat} {t : Blb} (ht : l[k]? = some t) : mpOf (l.take (k + 1)) = mpOf (l.take k) ++ [(Pk.bid t.p, blV t)] := by
  rw [take_more ht, mpOf, List.map_append]; rfl
theorem eight_at {W : World} {G : Nat} {b0 b1 b2 b3 b4 b5 b6 b7 : UInt8} (h : ∀ j, j < 8 → W.cell? ⟨G, j, none⟩ = some (B ([b0, b1, b2, b3, b4, b5, b6, b7].getD j 0))) : ∀ j u, (List.map B [b0, b1, b2, b3, b4, b5, b6, b7])[j]? = some u → W.cell? ((⟨G, 0, none⟩ : Addr).add j) = some u := by
  intro j u hj
  have hlt : j < 8 := by simpa using (List.getElem?_eq_some_iff.1 hj).1
  rw [show ((⟨G, 0, none⟩ : Addr).add j) = ⟨G, j, none⟩ from by unfold Addr.add; split <;> simp_all, h j hlt, ← hj, List.getElem?_map, List.getD_eq_getElem?_getD, List.getElem?_eq_getElem (show j < [b0, b1, b2, b3, b4, b5, b6, b7].length from hlt)]
  rfl
theorem cells8 (w : World) (t : TypeId) (b0 b1 b2 b3 b4 b5 b6 b7 : UInt8) : ∀ j, j < 8 → (w.alloc (.cells #[B b0, B b1, B b2, B b3, B b4, B b5, B b6, B b7] t)).cell? ⟨w.heap.size, j, none⟩ = some (B ([b0, b1, b2, b3, b4, b5, b6, b7].getD j 0)) := fun j hj => by
  rw [cell_of_row _ w.heap.size j _ _ _ (heap_alloc_new w _)]
  match j, hj with
  | 0, _ => rfl
  | 1, _ => rfl
  | 2, _ => rfl
  | 3, _ => rfl
  | 4, _ => rfl
  | 5, _ => rfl
  | 6, _ => rfl
  | 7, _ => rfl

set_option maxHeartbeats 4000000 in
theorem ids_any (v : Value) (l : List Blb) (w : World) (h : Bx w v l) (hok : BOk l) (hl : l.length ≤ 140737488351232) :
    Calls Try.prog 27 #[v] w fun e w' => ∃ v', e = .returned (.tuple #[v', .int .i64 (Pk.makeErr (l.map Blb.p))]) ∧ IdsOut w w' v' l := by
  obtain ⟨i0, hi, hz0, hz1, hz2⟩ := info_parts info_id
  obtain ⟨a, c, rfl, hc1, hc2⟩ := h.slice
  by_cases h40 : 40 < l.length
  · have HE : Hid (Pk.makeErr (l.map Blb.p) = 2) := by show _ = _; unfold Pk.makeErr; rw [if_pos (by rw [List.length_map]; exact h40)]
    go_enter Try.func27, Try.ntmps27
    go_wp2_with fail
    go_ret2
    exact ⟨_, by rw [HE.out]; rfl, fun e => by rw [HE.out] at e; omega, fun _ => rfl, Below.refl _ _⟩
  have h40' : l.length ≤ 40 := by omega
  have HE0 : Hid (Pk.makeErr (l.map Blb.p) = Pk.mErr ((l.take 0).map Blb.p) ((l.drop 0).map Blb.p)) := by
    show _ = _; unfold Pk.makeErr; rw [if_neg (by rw [List.length_map]; exact h40)]; rfl
  have HH : Hid (Bx w (.slice a l.length c) l) := h
  have HK : Hid (BOk l) := hok
  obtain ⟨ME, hME⟩ : ∃ ME, Pk.makeErr (l.map Blb.p) = ME := ⟨_, rfl⟩
  have HME : Hid (Pk.makeErr (l.map Blb.p) = ME) := hME
  rw [hME] at HE0 ⊢
  clear h hok h40 hME
  have hmk := run_makeMap (P := Try.prog) 74 w
  have HM0 : Hid (Mp (w.alloc (.map #[] 0)) w.heap.size 0 (mpOf (l.take 0))) := Mp.new w
  go_enter Try.func27, Try.ntmps27
  go_wp2_with fail
  go_loopw [4, 18] (fun vi i wr => ∃ k : Nat, k ≤ l.length ∧ i = .int .i64 k ∧ Hid (ME = Pk.mErr ((l.take k).map Blb.p) ((l.drop k).map Blb.p)) ∧ Hid ((((l.take k).map Blb.p).map Pk.bid).Nodup) ∧ Hid (Mp wr w.heap.size k (mpOf (l.take k))) ∧ Hid (wr.ownsRow (w.heap.size + 1) 26 8 vi k (rowR bidC (l.take k))) ∧ Hid (Below w.heap.size w wr)) (fun _ i _ => l.length - (intOf i).toNat)
  case atStart => exact ⟨0, by omega, rfl, HE0, List.nodup_nil, HM0, World.ownsRow_nil _ _ _ _, (Below.refl _ w).alloc (Nat.le_refl _) _⟩
  case round =>
    obtain ⟨k, hk, rfl, he, hnd, hmp, hown, hbel⟩ := hrel
    clear HM0 HE0 hmk
    by_cases hlt : k < l.length
    · obtain ⟨t, ht⟩ : ∃ t, l[k]? = some t := ⟨_, List.getElem?_eq_getElem hlt⟩
      have HT : Hid (l[k]? = some t) := ht
      obtain ⟨bk, o, rfl, hbk, c0, c1⟩ := (HH.out.below hbel.out).blob k t ht
      have HTk := mErr_turn ht
      rw [← he.out] at HTk
      have hbt := HK.out t (List.mem_of_getElem? ht)
      obtain ⟨b0, b1, b2, b3, b4, b5, b6, b7, hx⟩ := eight _ (idOr_length t)
      have hid := fun W => pid_any t W hbt.2
      rw [hx] at hid
      have hid' : ∀ W, Calls Try.prog 9 #[.agg #[.int .i64 t.kind, .string t.bytes]] W fun e w' => e = .returned (.tuple #[.agg #[.int .u8 (b0.toNat : Int), .int .u8 (b1.toNat : Int), .int .u8 (b2.toNat : Int), .int .u8 (b3.toNat : Int), .int .u8 (b4.toNat : Int), .int .u8 (b5.toNat : Int), .int .u8 (b6.toNat : Int), .int .u8 (b7.toNat : Int)], .int .i64 (Pk.bErr t.p)]) ∧ Below W.heap.size W w' := hid
      clear hid ht
      by_cases hE : Pk.bErr t.p = 0
      · have hxe : Pk.bid t.p = [b0, b1, b2, b3, b4, b5, b6, b7] := by rw [← hx, idOr, if_pos hE]
        rw [if_neg (fun e => e hE), hxe] at HTk
        rw [hE] at hid'
        have HXE : Hid (Pk.bid t.p = [b0, b1, b2, b3, b4, b5, b6, b7]) := hxe
        clear hx hE hxe
        by_cases hin : [b0, b1, b2, b3, b4, b5, b6, b7] ∈ ((l.take k).map Blb.p).map Pk.bid
        · obtain ⟨oth, ho1, ho2, ho3⟩ := mem_bid (b := t) (by rw [HXE.out]; exact hin) hnd.out
          have hpo : (Pk.bid oth.p, blV oth) ∈ mpOf (l.take k) := List.mem_map_of_mem ho1
          rw [ho2, HXE.out] at hpo
          have hal := fun W => alike_any t oth W
          have HME2 : Hid (ME = alErr t oth) := by
            show _ = _
            rw [HTk]
            unfold alErr
            by_cases hs : blSame t oth = true
            · have := blSame_iff.1 hs
              rw [if_pos (by rw [this]; exact List.mem_map_of_mem ho1), if_pos hs]
            · rw [if_neg (fun hm => hs (blSame_iff.2 (ho3 hm).symm)), if_pos hin, if_neg hs]
          have HX : Hid (alErr t oth ≠ 0) := by show _ ≠ _; unfold alErr; split <;> omega
          unfold blV at hal
          clear HTk ho1 ho2 ho3 hin
          generalize alErr t oth = er at *
          go_wp2_with fail
          refine (hid' _).mono ?_
          rintro e w2 ⟨rfl, hb2⟩
          have hB2 := below_past hb2
          have hlook : (Instr.lookup 74 (.map (some w.heap.size)) (.agg #[.int .u8 (b0.toNat : Int), .int .u8 (b1.toNat : Int), .int .u8 (b2.toNat : Int), .int .u8 (b3.toNat : Int), .int .u8 (b4.toNat : Int), .int .u8 (b5.toNat : Int), .int .u8 (b6.toNat : Int), .int .u8 (b7.toNat : Int)]) true).run Try.prog (w2.alloc (.cells #[.int .u8 (b0.toNat : Int), .int .u8 (b1.toNat : Int), .int .u8 (b2.toNat : Int), .int .u8 (b3.toNat : Int), .int .u8 (b4.toNat : Int), .int .u8 (b5.toNat : Int), .int .u8 (b6.toNat : Int), .int .u8 (b7.toNat : Int)] 26)) = .ok (.tuple #[.agg #[.int .i64 oth.kind, .string oth.bytes], .bool true]) (w2.alloc (.cells #[.int .u8 (b0.toNat : Int), .int .u8 (b1.toNat : Int), .int .u8 (b2.toNat : Int), .int .u8 (b3.toNat : Int), .int .u8 (b4.toNat : Int), .int .u8 (b5.toNat : Int), .int .u8 (b6.toNat : Int), .int .u8 (b7.toNat : Int)] 26)) :=
            ((hmp.out.below hB2).below ((Below.refl _ w2).alloc (Nat.le_refl _) _)).hit under_mapB (zero_blob _) hpo
          have d0 := (hb2.cell (p := ⟨wr.heap.size, 0, none⟩) (by simp)).trans (show _ = some (.int .i64 t.kind) from by simp)
          have d1 := (hb2.cell (p := ⟨wr.heap.size, 1, none⟩) (by simp)).trans (show _ = some (.string t.bytes) from by simp)
          have hw2 : wr.heap.size < w2.heap.size := by have := hb2.size; simp at this; omega
          have HB2 : Hid (Below w.heap.size w w2) := hbel.out.trans (hB2.mono hbel.out.size)
          have hs2 := HB2.out.size
          clear hb2 hB2 hid' c0 c1 hmp hown hbel hpo
          go_wp2_with fail
          refine (hal _).mono ?_
          rintro e w5 ⟨rfl, hb5⟩
          have HB5 : Hid (Below w.heap.size w w5) := ((HB2.out.alloc hs2 _).alloc (by simp; omega) _).trans (hb5.mono (by simp; omega))
          clear hb5 hal d0 d1 hlook
          go_wp2_with fail
          go_ret2
          exact ⟨.slice none 0 0, by rw [HME2.out]; rfl, fun e => absurd (HME2.out.symm.trans (HME.out.symm.trans e)) HX.out, fun _ => rfl, HB5.out⟩
        · have HNI : Hid ([b0, b1, b2, b3, b4, b5, b6, b7] ∉ (mpOf (l.take k)).map (·.1)) := by show _ ∉ _; rw [mpOf_keys]; exact hin
          have HND : Hid ((((l.take (k + 1)).map Blb.p).map Pk.bid).Nodup) := more_nodup HT.out hnd.out (by rw [HXE.out]; exact hin)
          have HEN : Hid (ME = Pk.mErr ((l.take (k + 1)).map Blb.p) ((l.drop (k + 1)).map Blb.p)) := by
            show _ = _
            rw [HTk, if_neg (fun hm => hin (by rw [← HXE.out]; exact List.mem_map_of_mem hm)), if_neg hin]
          clear HTk hin he hnd
          go_wp2_with fail
          refine (hid' _).mono ?_
          rintro e w2 ⟨rfl, hb2⟩
          have hB2 := below_past hb2
          have hm2 := (hmp.out.below hB2).below ((Below.refl _ w2).alloc (Nat.le_refl _) (.cells #[B b0, B b1, B b2, B b3, B b4, B b5, B b6, B b7] 26))
          have hlook : (Instr.lookup 74 (.map (some w.heap.size)) (.agg #[.int .u8 (b0.toNat : Int), .int .u8 (b1.toNat : Int), .int .u8 (b2.toNat : Int), .int .u8 (b3.toNat : Int), .int .u8 (b4.toNat : Int), .int .u8 (b5.toNat : Int), .int .u8 (b6.toNat : Int), .int .u8 (b7.toNat : Int)]) true).run Try.prog (w2.alloc (.cells #[.int .u8 (b0.toNat : Int), .int .u8 (b1.toNat : Int), .int .u8 (b2.toNat : Int), .int .u8 (b3.toNat : Int), .int .u8 (b4.toNat : Int), .int .u8 (b5.toNat : Int), .int .u8 (b6.toNat : Int), .int .u8 (b7.toNat : Int)] 26)) = .ok (.tuple #[.agg #[.int .i64 0, .string ⟨#[]⟩], .bool false]) (w2.alloc (.cells #[.int .u8 (b0.toNat : Int), .int .u8 (b1.toNat : Int), .int .u8 (b2.toNat : Int), .int .u8 (b3.toNat : Int), .int .u8 (b4.toNat : Int), .int .u8 (b5.toNat : Int), .int .u8 (b6.toNat : Int), .int .u8 (b7.toNat : Int)] 26)) :=
            hm2.miss under_mapB (zero_blob _) (x := [b0, b1, b2, b3, b4, b5, b6, b7]) rfl HNI.out
          obtain ⟨w5, hput, hm5, hg5⟩ := (hm2.below ((Below.refl _ _).alloc (Nat.le_refl _) (.cells #[.int .i64 0, .string ⟨#[]⟩] 24))).put under_mapB (x := [b0, b1, b2, b3, b4, b5, b6, b7]) rfl HNI.out (by omega) (blV t)
          have hput' : (Instr.mapUpdate 74 (.map (some w.heap.size)) (.agg #[.int .u8 (b0.toNat : Int), .int .u8 (b1.toNat : Int), .int .u8 (b2.toNat : Int), .int .u8 (b3.toNat : Int), .int .u8 (b4.toNat : Int), .int .u8 (b5.toNat : Int), .int .u8 (b6.toNat : Int), .int .u8 (b7.toNat : Int)]) (.agg #[.int .i64 t.kind, .string t.bytes])).run Try.prog ((w2.alloc (.cells #[.int .u8 (b0.toNat : Int), .int .u8 (b1.toNat : Int), .int .u8 (b2.toNat : Int), .int .u8 (b3.toNat : Int), .int .u8 (b4.toNat : Int), .int .u8 (b5.toNat : Int), .int .u8 (b6.toNat : Int), .int .u8 (b7.toNat : Int)] 26)).alloc (.cells #[.int .i64 0, .string ⟨#[]⟩] 24)) = .ok () w5 := hput
          have HM5 : Hid (Mp w5 w.heap.size (k + 1) (mpOf (l.take (k + 1)))) := by
            show Mp _ _ _ _
            rw [mpOf_more HT.out, HXE.out]; exact hm5
          have d0 := (hb2.cell (p := ⟨wr.heap.size, 0, none⟩) (by simp)).trans (show _ = some (.int .i64 t.kind) from by simp)
          have d1 := (hb2.cell (p := ⟨wr.heap.size, 1, none⟩) (by simp)).trans (show _ = some (.string t.bytes) from by simp)
          have hw2 : wr.heap.size < w2.heap.size := by have := hb2.size; simp at this; omega
          have hww : w.heap.size < wr.heap.size := hmp.out.lt
          have hown2 := own_below hown.out hB2
          have hneo : u4.ownBlock ≠ some w.heap.size := fun e => by have := (hown2.lt _ e).1; omega
          have hown5 : w5.ownsRow (w.heap.size + 1) 26 8 u4 k (rowR bidC (l.take k)) :=
            own_kept ((hown2.alloc _).alloc _) (Kept.grown (p := fun q => q ≠ w.heap.size) (Kept.refl _ _) hg5 (fun q hq hp => hp (Option.some.inj hq).symm)) (fun q hq e => hneo (e ▸ hq))
          have x8 : ∀ j, j < 8 → w5.cell? ⟨w2.heap.size, j, none⟩ = some (B ([b0, b1, b2, b3, b4, b5, b6, b7].getD j 0)) := fun j hj => by
            refine hg5.cell ((((Below.refl _ _).alloc (Nat.le_refl _) _).cell (p := ⟨w2.heap.size, j, none⟩) (by simp)).trans (cells8 w2 _ b0 b1 b2 b3 b4 b5 b6 b7 j hj)) ?_
            intro e
            have h : w2.heap.size = w.heap.size := Option.some.inj e
            omega
          have y0 : w5.cell? ⟨w2.heap.size, 0, none⟩ = some (.int .u8 (b0.toNat : Int)) := x8 0 (by omega)
          have y1 : w5.cell? ⟨w2.heap.size, 1, none⟩ = some (.int .u8 (b1.toNat : Int)) := x8 1 (by omega)
          have y2 : w5.cell? ⟨w2.heap.size, 2, none⟩ = some (.int .u8 (b2.toNat : Int)) := x8 2 (by omega)
          have y3 : w5.cell? ⟨w2.heap.size, 3, none⟩ = some (.int .u8 (b3.toNat : Int)) := x8 3 (by omega)
          have y4 : w5.cell? ⟨w2.heap.size, 4, none⟩ = some (.int .u8 (b4.toNat : Int)) := x8 4 (by omega)
          have y5 : w5.cell? ⟨w2.heap.size, 5, none⟩ = some (.int .u8 (b5.toNat : Int)) := x8 5 (by omega)
          have y6 : w5.cell? ⟨w2.heap.size, 6, none⟩ = some (.int .u8 (b6.toNat : Int)) := x8 6 (by omega)
          have y7 : w5.cell? ⟨w2.heap.size, 7, none⟩ = some (.int .u8 (b7.toNat : Int)) := x8 7 (by omega)
          have HB5 : Hid (Below w.heap.size w w5) := ((((hbel.out.trans (hB2.mono hbel.out.size)).alloc (by omega) _).alloc (by simp; omega) _)).grown hg5 (by simp; omega) (fun q hq => by rw [← Option.some.inj hq]; exact Nat.le_refl _)
          have hs5 : w.heap.size + 1 ≤ w5.heap.size := by have := hg5.size; simp at this; omega
          clear hb2 hB2 hid' c0 c1 hmp hown hbel hput hm2 hm5 hg5 x8 hown2 hneo
          go_wp2_with (at_builtin; refine wpList_append_own _ rfl (.tmp 43) (.tmp 45) 52 rfl (w.heap.size + 1) 26 i0 (.agg #[.int .u8 0, .int .u8 0, .int .u8 0, .int .u8 0, .int .u8 0, .int .u8 0, .int .u8 0, .int .u8 0]) 8 8 Try.underlying52 hi hz0 hz1 hz2 rfl (by decide) _ _ _ rfl (hown5.alloc _) ⟨w5.heap.size, 0, none⟩ 1 1 (List.map B [b0, b1, b2, b3, b4, b5, b6, b7]) rfl rfl ?c1 ?c2 ?c3 ?c4 ?c5 ?_)
          case c1 => exact eight_at (cells8 w5 _ b0 b1 b2 b3 b4 b5 b6 b7)
          case c2 => intro u hu; obtain ⟨q, _, rfl⟩ := List.mem_map.1 hu; rfl
          case c3 => unfold maxLen; omega
          case c4 => omega
          case c5 => simp; omega
          intro v' w6 hown6 hgrow _
          have hne2 : u4.ownBlock ≠ some w.heap.size := fun e => by have := (hown5.lt _ e).1; omega
          have HM6 : Hid (Mp w6 w.heap.size (k + 1) (mpOf (l.take (k + 1)))) := HM5.out.kept (Kept.grown (p := fun q => u4.ownBlock ≠ some q) ((Kept.refl _ w5).alloc _) hgrow (fun q hq hp => hp hq)) hne2
          have HB6 : Hid (Below w.heap.size w w6) := (HB5.out.alloc (by omega) _).grown hgrow (by simp; omega) (fun q hq => by have := (hown5.lt q hq).1; omega)
          have HO6 : Hid (w6.ownsRow (w.heap.size + 1) 26 8 v' (k + 1) (rowR bidC (l.take (k + 1)))) := by
            show World.ownsRow _ _ _ _ _ _ _
            rw [take_more HT.out, rowR_more, show bidC t = List.map B [b0, b1, b2, b3, b4, b5, b6, b7] from by rw [bidC, HXE.out]]
            exact hown6
          clear hown6 hgrow hne2 hown5 HM5 HB5
          go_wp2_with fail
          go_roundw
          case rel => exact ⟨k + 1, by omega, by go_num, HEN, HND, HM6, HO6, HB6⟩
          case measure => simp only [intOf]; omega
      · have HME2 : Hid (ME = Pk.bErr t.p) := by show _ = _; rw [HTk, if_pos hE]
        have HX : Hid (Pk.bErr t.p ≠ 0) := hE
        have hE2 : (Pk.bErr t.p == 0) = false := beq_eq_false_iff_ne.2 hE
        clear HTk hE hx
        generalize Pk.bErr t.p = er at *
        go_wp2_with fail
        refine (hid' _).mono ?_
        rintro e w2 ⟨rfl, hb2⟩
        have HB2 : Hid (Below w.heap.size w w2) := hbel.out.trans ((below_past hb2).mono hbel.out.size)
        have hs2 := HB2.out.size
        clear hb2 hid' c0 c1 hmp hown hbel
        go_wp2_with fail
        go_ret2
        exact ⟨.slice none 0 0, by rw [HME2.out]; rfl, fun e => absurd (HME2.out.symm.trans (HME.out.symm.trans e)) HX.out, fun _ => rfl, HB2.out.alloc hs2 _⟩
    · obtain rfl : k = l.length := by omega
      have HZ : Hid (ME = 0) := by
        show _ = _
        rw [he.out, List.drop_of_length_le (Nat.le_refl _)]; rfl
      rw [List.take_of_length_le (Nat.le_refl _)] at hown
      clear he hnd hmp
      go_wp2_with fail
      go_ret2
      exact ⟨_, by rw [HZ.out]; rfl, fun _ => own_lower hown.out (by omega), fun e => absurd (HME.out.trans HZ.out) e, hbel.out⟩
end Go.Proofs.Ytkhejelmjkpgfaa

namespace Go.Proofs
open Go.Shelf
def Try.lays129_ren : Go.Shelf.Ren := ⟨fun | 129 => 98 | n => n, fun | 53 => 59 | 3 => 3 | 4 => 4 | 46 => 72 | 5 => 5 | 9 => 9 | n => n, fun | n => n⟩
theorem Try.lays129 : Go.Proofs.Lays.n129 Try.prog Try.lays129_ren := {
  mixed := by kernel_rfl
  f129 := Try.func98.trans (congrArg some (by kernel_rfl))
  t3 := Try.underlying3
  a3 := Try.isAgg3
  z3 := Try.sizeOf3
  v3 := Try.zeroValue3
  t4 := Try.underlying4
  a4 := Try.isAgg4
  z4 := Try.sizeOf4
  v4 := Try.zeroValue4
  t5 := Try.underlying5
  a5 := Try.isAgg5
  z5 := Try.sizeOf5
  v5 := Try.zeroValue5
  t9 := Try.underlying9
  a9 := Try.isAgg9
  z9 := Try.sizeOf9
  v9 := Try.zeroValue9
  t46 := Try.underlying72
  a46 := Try.isAgg72
  z46 := Try.sizeOf72
  v46 := Try.zeroValue72
  t53 := Try.underlying59
  a53 := Try.isAgg59
  z53 := Try.sizeOf59
  v53 := Try.zeroValue59 }
theorem Try.bits_Len64 (x : Int) (w : World) (h0 : 0 ≤ x) (h1 : x ≤ 18446744073709551615) :
    Calls Try.prog 98 #[.int .u64 x] w fun e w' => e = .returned (.int .i64 (Lib.bitLen x.toNat)) ∧ w' = w := Any.bits_Len64 Try.lays129 x w h0 h1
end Go.Proofs

namespace Go.Proofs.Ytkhejelmjkpgfaa
open Go.RowKit
set_option maxRecDepth 4000

theorem bitLen_dig (n : Nat) (h : n < 256 ^ 8) : (Lib.bitLen n + 7) / 8 = (Nm.dig n).length := by
  have key : ∀ (f m : Nat), m < 256 ^ f → f ≤ 8 → (Lib.bitLen m + 7) / 8 = (Nm.digF f m).length := by
    intro f
    induction f with
    | zero => intro m hm _; have : m = 0 := by simpa using hm
              subst this; decide
    | succ f ih =>
      intro m hm hf
      have h64 : m < 18446744073709551616 := Nat.lt_of_lt_of_le hm (Nat.le_trans (Nat.pow_le_pow_right (by omega) hf) (by omega))
      rw [Nm.digF]
      split
      · subst_vars; decide
      · rename_i hn
        by_cases hs : 256 ≤ m
        · rw [Lib.bitLen_shift8 m hs h64, List.length_append, List.length_singleton, ← ih (m / 256) (by rw [Nat.pow_succ] at hm; omega) (by omega)]
          omega
        · have h0 : m / 256 = 0 := by omega
          have hd : Nm.digF f 0 = [] := by cases f <;> simp [Nm.digF]
          rw [h0, hd]
          have h1 := Lib.bitLen_le8 ⟨m, by omega⟩
          have h2 := Lib.bitLen_half m hn (by omega)
          simp at h1 ⊢
          omega
  exact key 8 n h (by omega)

set_option maxHeartbeats 400000 in
theorem count_any (n : Int) (w : World) (h0 : 0 ≤ n) (h1 : n ≤ 18446744073709551615) :
    Calls Try.prog 67 #[.int .u64 n] w fun e w' => e = .returned (.int .i64 (Nm.dig n.toNat).length) ∧ w' = w := by
  have hb := bitLen_dig n.toNat (by omega)
  have hl := Nm.dig_length_le n.toNat
  have hbl : Lib.bitLen n.toNat ≤ 64 := by omega
  have HB : Hid ((Lib.bitLen n.toNat + 7) / 8 = (Nm.dig n.toNat).length) := hb
  clear hb hl
  go_enter Try.func67, Try.ntmps67
  go_wp2_with (go_at_call 98; refine (Try.bits_Len64 _ _ h0 h1).mono ?_; rintro e w' ⟨rfl, rfl⟩)
  go_ret
  exact ⟨ret_int (by rw [← HB.out]; omega), rfl⟩

theorem byte_at (n t : Int) (q : Nat) (n0 : 0 ≤ n) (h0 : 0 ≤ t) (h1 : t ≤ 255) :
    bits .xor .u8 (n / 2 ^ (8 * q) % 256) t = ((UInt8.ofNat (n.toNat / 256 ^ q % 256) ^^^ UInt8.ofNat t.toNat).toNat : Int) := by
  obtain ⟨m, rfl⟩ := Int.eq_ofNat_of_zero_le n0
  obtain ⟨T, rfl⟩ := Int.eq_ofNat_of_zero_le h0
  have e : ((m : Int) / 2 ^ (8 * q) % 256) = ((m / 256 ^ q % 256 : Nat) : Int) := by
    have : (2 : Int) ^ (8 * q) = ((256 ^ q : Nat) : Int) := by rw [Int.pow_mul]; simp
    rw [this]; simp
  rw [e, u8_xor_nat _ _ (by omega) (by omega)]
  simp only [Int.toNat_natCast]
  generalize m / 256 ^ q = x
  have hx : (UInt8.ofNat (x % 256)).toNat = x % 256 := by rw [UInt8.toNat_ofNat']; omega
  rw [← xor_u8 _ _ (by omega), hx]
theorem append_step {base : Nat} {w wr w1 : World} {v v1 : Value} {ys zs : List UInt8} {n t : Int} {q : Nat} {o : Obj} (hown : wr.ownsRow base 5 1 v ys.length (ys.map B))
    (hown1 : w1.ownsRow base 5 1 v1 (ys.length + 1) (ys.map B ++ [.int .u8 (bits .xor .u8 (n / 2 ^ (8 * q) % 256) t)])) (hg : (wr.alloc o).grownBy w1 v.ownBlock) (hbel : Below base w wr) (hbase : base ≤ w.heap.size)
    (heq : ys ++ Nm.tn t.toNat (Nm.low (q + 1) n.toNat) = zs) (n0 : 0 ≤ n) (_n1 : n ≤ 18446744073709551615) (h0 : 0 ≤ t) (h1 : t ≤ 255) :
    w1.ownsRow base 5 1 v1 (ys ++ [UInt8.ofNat (n.toNat / 256 ^ q % 256) ^^^ UInt8.ofNat t.toNat]).length ((ys ++ [UInt8.ofNat (n.toNat / 256 ^ q % 256) ^^^ UInt8.ofNat t.toNat]).map B) ∧
      (ys ++ [UInt8.ofNat (n.toNat / 256 ^ q % 256) ^^^ UInt8.ofNat t.toNat]) ++ Nm.tn t.toNat (Nm.low q n.toNat) = zs ∧ Below base w w1 := by
  refine ⟨?_, ?_, ?_⟩
  · rw [byte_at n t q n0 h0 h1] at hown1
    simpa [B] using hown1
  · rw [← heq, Nm.low, List.append_assoc]
    simp [Nm.tn]
  · have hs := hbel.size
    refine (hbel.alloc (by omega) o).grown hg (by simp; omega) ?_
    intro k hk
    exact (hown.lt k hk).1

set_option maxHeartbeats 400000 in
theorem digits_app (base : Nat) (v : Value) (xs : List UInt8) (n k t : Int) (w : World) (hown : w.ownsRow base 5 1 v xs.length (xs.map B)) (hbase : base ≤ w.heap.size) (hx : xs.length ≤ 1000)
    (n0 : 0 ≤ n) (n1 : n ≤ 18446744073709551615) (k0 : 0 ≤ k) (k1 : k ≤ 8) (h0 : 0 ≤ t) (h1 : t ≤ 255) :
    Calls Try.prog 68 #[v, .int .u64 n, .int .i64 k, .int .u8 t] w fun e w' => ∃ v', e = .returned v' ∧
      w'.ownsRow base 5 1 v' (xs ++ Nm.tn t.toNat (Nm.low k.toNat n.toNat)).length ((xs ++ Nm.tn t.toNat (Nm.low k.toNat n.toNat)).map B) ∧ Below base w w' := by
  obtain ⟨i0, hi, hz0, hz1, hz2⟩ := info_parts info_u8
  go_enter Try.func68, Try.ntmps68
  go_wp2
  go_loopw [0, 9] (fun v i wr => ∃ (r : Nat) (ys : List UInt8), r ≤ k.toNat ∧ i = .int .i64 ((r : Int) - 1) ∧ wr.ownsRow base 5 1 v ys.length (ys.map B) ∧
      ys ++ Nm.tn t.toNat (Nm.low r n.toNat) = xs ++ Nm.tn t.toNat (Nm.low k.toNat n.toNat) ∧ Below base w wr) (fun _ i _ => (intOf i + 1).toNat)
  case atStart => exact ⟨k.toNat, xs, Nat.le_refl _, int_eq (by omega), hown, rfl, Below.refl _ _⟩
  case round =>
    obtain ⟨r, ys, hr, rfl, hown', heq, hbel⟩ := hrel
    have hbs := hbel.size
    cases r with
    | zero =>
      go_wp2
      go_ret
      refine ⟨u0, rfl, ?_, hbel⟩
      rw [← heq, show Nm.low 0 n.toNat = [] from rfl]
      simpa [Nm.tn] using hown'
    | succ q =>
      have hyl : ys.length ≤ xs.length + 8 := by
        have := congrArg List.length heq
        simp [Nm.tn_length, Nm.low_length] at this
        omega
      go_wp2_with (at_builtin; refine wpList_append_own _ rfl _ _ 51 rfl base 5 i0 (.int .u8 0) 1 1 Try.underlying51 hi hz0 hz1 hz2 rfl (by decide) _ _ _ rfl (hown'.alloc _) ⟨wr.heap.size, 0, none⟩ 1 1 [.int .u8 (bits .xor .u8 (n / 2 ^ (8 * q) % 256) t)] rfl rfl ?c1 ?c2 ?c3 ?c4 ?c5 ?_)
      case c1 =>
        intro j u hj
        match j, hj with
        | 0, hj => simp at hj; subst hj; simp [Addr.add]
      case c2 => intro u hu; simp at hu; subst hu; rfl
      case c3 => unfold maxLen; omega
      case c4 => omega
      case c5 => simp; omega
      intro v' w1 hown1 hgrow _
      have R := append_step (q := q) hown' hown1 hgrow hbel hbase heq n0 n1 h0 h1
      clear hown1 hgrow hown' heq hbel
      go_wp2
      go_roundw
      case rel => exact ⟨q, _, by omega, by go_num, R.1, R.2.1, R.2.2⟩
      case measure => simp [intOf]
end Go.Proofs.Ytkhejelmjkpgfaa

namespace Go.Proofs.Ytkhejelmjkpgfaa
open Go.RowKit
set_option maxRecDepth 4000

theorem or_byte (m b : Nat) (hb : b < 256) : m * 256 ||| b = m * 256 + b := by
  have := Nat.two_pow_add_eq_or_of_lt (i := 8) (b := b) hb m
  rw [Nat.mul_comm m 256]
  exact this.symm
theorem join_step (m : Nat) (b : UInt8) (t : Int) (hm : m < 72057594037927936) (h0 : 0 ≤ t) (h1 : t ≤ 255) :
    bits .or .u64 (IntKind.u64.wrap ((m : Int) * 256)) (IntKind.u64.wrap (bits .xor .u8 (b.toNat : Int) t)) = ((256 * m + (b ^^^ UInt8.ofNat t.toNat).toNat : Nat) : Int) := by
  obtain ⟨T, rfl⟩ := Int.eq_ofNat_of_zero_le h0
  have hb := b.toNat_lt
  rw [u8_xor_nat _ _ (by omega) (by omega), Int.toNat_natCast, xor_u8 _ _ (by omega)]
  have hx := (b ^^^ UInt8.ofNat T).toNat_lt
  rw [wrap_u64 _ (by omega) (by omega), wrap_u64 _ (by omega) (by omega)]
  rw [show ((m : Int) * 256) = ((m * 256 : Nat) : Int) from by omega, u64_or_nat _ _ (by omega) (by omega), or_byte _ _ (by omega)]
  omega

set_option maxHeartbeats 400000 in
theorem digits_join (s : ByteArray) (t : Int) (w : World) (hl : s.size ≤ 8) (h0 : 0 ≤ t) (h1 : t ≤ 255) :
    Calls Try.prog 113 #[.string s, .int .u8 t] w fun e w' => e = .returned (.int .u64 (Nm.val (Nm.tn t.toNat s.data.toList))) ∧ w' = w := by
  go_enter Try.func113, Try.ntmps113
  go_wp2
  go_loop [5, 6] (fun n i => ∃ k : Nat, k ≤ s.size ∧ i = .int .i64 k ∧ n = .int .u64 (Nm.val (Nm.tn t.toNat (s.data.toList.take k)))) (fun _ i => s.size - (intOf i).toNat)
  case atStart => exact ⟨0, Nat.zero_le _, rfl, by simp [Nm.tn, Nm.val_nil]⟩
  case round =>
    obtain ⟨k, hk, rfl, rfl⟩ := hrel
    by_cases hlt : k < s.size
    · go_wp2
      go_round
      case rel =>
        refine ⟨k + 1, by omega, by go_num, int_eq ?_⟩
        have hv := Nm.val_lt (Nm.tn t.toNat (s.data.toList.take k))
        have hle : (Nm.tn t.toNat (s.data.toList.take k)).length ≤ 7 := by rw [Nm.tn_length]; have := List.length_take_le k s.data.toList; omega
        have hp : 256 ^ (Nm.tn t.toNat (s.data.toList.take k)).length ≤ 256 ^ 7 := Nat.pow_le_pow_right (by omega) hle
        rw [take_snoc s k hlt, Nm.tn_append, Nm.tn, Nm.tn, List.map_cons, List.map_nil, Nm.val_snoc]
        exact join_step _ _ _ (by simp only [Nm.tn] at hv hp ⊢; omega) h0 h1
      case measure => simp [intOf]; omega
    · go_wp2
      go_ret
      exact ⟨ret_int (by rw [List.take_of_length_le (by simp; omega)]), rfl⟩

theorem xor_zero (s : ByteArray) (t : Int) (h : 0 < s.size) (h0 : 0 ≤ t) (h1 : t ≤ 255) : (bits BinOp.xor IntKind.u8 (s[0].toNat : Int) t == 0) = decide (s.data.toList.headD 0 ^^^ UInt8.ofNat t.toNat = 0) := by
  obtain ⟨T, rfl⟩ := Int.eq_ofNat_of_zero_le h0
  have hb := s[0].toNat_lt
  rw [u8_xor_nat _ _ (by omega) (by omega), Int.toNat_natCast, xor_u8 _ _ (by omega)]
  have e : s.data.toList.headD 0 = s[0] := head_byte s h
  rw [e, Bool.eq_iff_iff]
  simp only [beq_iff_eq, decide_eq_true_eq]
  constructor
  · intro h; exact UInt8.toNat_inj.1 (by simpa using h)
  · intro h; rw [h]; rfl

set_option maxHeartbeats 400000 in
theorem digits_read (s : ByteArray) (k t : Int) (w : World) (hs : s.size ≤ 9223372036854775807) (k0 : 0 ≤ k) (k1 : k ≤ 255) (h0 : 0 ≤ t) (h1 : t ≤ 255) :
    Calls Try.prog 80 #[.string s, .int .i64 k, .int .u8 t] w fun e w' =>
      e = .returned (.tuple #[.int .u64 (Nm.readN s.data.toList k.toNat t.toNat).1, .int .i64 (Nm.readN s.data.toList k.toNat t.toNat).2]) ∧ w' = w := by
  by_cases h8 : 8 < k
  · have hr : Nm.readN s.data.toList k.toNat t.toNat = (0, 4) := by rw [Nm.readN, if_pos (by omega)]
    rw [hr]
    go_enter Try.func80, Try.ntmps80
    go_wp2
    go_ret2
    exact ⟨rfl, rfl⟩
  by_cases hk : (s.size : Int) < k
  · have hr : Nm.readN s.data.toList k.toNat t.toNat = (0, 3) := by rw [Nm.readN, if_neg (by omega), if_pos (by simp; omega)]
    rw [hr]
    go_enter Try.func80, Try.ntmps80
    go_wp2
    go_ret2
    exact ⟨rfl, rfl⟩
  by_cases hz : 0 < k
  · have hp : 0 < s.size := by omega
    have hx := xor_zero s t hp h0 h1
    by_cases hd : s.data.toList.headD 0 ^^^ UInt8.ofNat t.toNat = 0
    · have hr : Nm.readN s.data.toList k.toNat t.toNat = (0, 4) := by rw [Nm.readN, if_neg (by omega), if_neg (by simp; omega), if_pos ⟨by omega, hd⟩]
      rw [hr]
      rw [decide_eq_true hd] at hx
      clear hd hr
      go_enter Try.func80, Try.ntmps80
      go_wp2
      go_ret2
      exact ⟨rfl, rfl⟩
    · have hr : Nm.readN s.data.toList k.toNat t.toNat = (Nm.val (Nm.tn t.toNat (s.data.toList.take k.toNat)), 0) := by rw [Nm.readN, if_neg (by omega), if_neg (by simp; omega), if_neg (by intro h; exact hd h.2)]
      rw [hr]
      rw [decide_eq_false hd] at hx
      clear hd hr
      go_enter Try.func80, Try.ntmps80
      go_wp2_with (go_at_call 113; refine (digits_join _ _ _ (by simp; omega) h0 h1).mono ?_; rintro e w' ⟨rfl, rfl⟩)
      go_ret2
      exact ⟨rfl, rfl⟩
  · have hr : Nm.readN s.data.toList k.toNat t.toNat = (Nm.val (Nm.tn t.toNat []), 0) := by rw [Nm.readN, if_neg (by omega), if_neg (by simp; omega), if_neg (by intro h; omega), show k.toNat = 0 from by omega, List.take_zero]
    rw [hr]
    clear hr
    go_enter Try.func80, Try.ntmps80
    go_wp2_with (go_at_call 113; refine (digits_join _ _ _ (by simp; omega) h0 h1).mono ?_; rintro e w' ⟨rfl, rfl⟩)
    go_ret2
    exact ⟨rfl, rfl⟩
end Go.Proofs.Ytkhejelmjkpgfaa

namespace Go.Proofs.Ytkhejelmjkpgfaa
open Go.RowKit
set_option maxRecDepth 4000

theorem list_ne (s : ByteArray) (h : 0 < s.size) : s.data.toList ≠ [] := by
  intro e; have := Lib.size_eq s; rw [e] at this; simp only [List.length_nil] at this; omega

theorem tail_data (s : ByteArray) : (s.extract 1 s.size).data.toList = s.data.toList.tail := by
  rw [Lib.extract_data, List.take_of_length_le, List.drop_one]
  rw [List.length_drop, ← Lib.size_eq]
  exact Nat.le_refl _

theorem read_tail (s : ByteArray) (c t : Int) (w : World) (hs : s.size ≤ 9223372036854775807) (k0 : 0 ≤ c) (k1 : c ≤ 255) (h0 : 0 ≤ t) (h1 : t ≤ 255) :
    Calls Try.prog 80 #[.string (s.extract 1 s.size), .int .i64 c, .int .u8 t] w fun e w' =>
      e = .returned (.tuple #[.int .u64 (Nm.readN s.data.toList.tail c.toNat t.toNat).1, .int .i64 (Nm.readN s.data.toList.tail c.toNat t.toNat).2]) ∧ w' = w := by
  have h := digits_read (s.extract 1 s.size) c t w (by simp; omega) k0 k1 h0 h1
  rw [tail_data] at h
  exact h

set_option maxHeartbeats 400000 in
theorem get_any (s : ByteArray) (w : World) (hs : s.size ≤ 9223372036854775807) :
    Calls Try.prog 49 #[.string s] w fun e w' =>
      e = .returned (.tuple #[.int .u64 (Nm.getN s.data.toList).1, .int .i64 (Nm.getN s.data.toList).2.1, .int .i64 (Nm.getN s.data.toList).2.2]) ∧ w' = w := by
  by_cases h0 : s.size = 0
  · have hr : Nm.getN s.data.toList = (0, 0, 3) := by rw [Nm.getN, if_pos (List.length_eq_zero_iff.1 (by simpa using h0))]
    rw [hr]
    go_enter Try.func49, Try.ntmps49
    go_wp2
    go_ret3
    exact ⟨rfl, rfl⟩
  · have hp : 0 < s.size := by omega
    have hne := list_ne s hp
    have hb := s[0].toNat_lt
    have hh := head_byte s hp
    have hz : ((s.size : Int) == 0) = false := beq_eq_false_iff_ne.2 (by omega)
    have hg : Nm.getN s.data.toList = if (Nm.readN s.data.toList.tail s[0].toNat 0).2 = 0 then ((Nm.readN s.data.toList.tail s[0].toNat 0).1, 1 + s[0].toNat, (0 : Int)) else ((0 : Nat), (0 : Nat), (Nm.readN s.data.toList.tail s[0].toNat 0).2) := by
      rw [Nm.getN, if_neg hne]; simp only [hh]
    rw [hg]
    clear hg hh hne h0
    generalize hc : s[0] = c at *
    generalize hR : Nm.readN s.data.toList.tail c.toNat 0 = r
    obtain ⟨r1, r2⟩ := r
    have HR : Hid (Nm.readN s.data.toList.tail c.toNat 0 = (r1, r2)) := hR
    clear hR
    by_cases hr : r2 = 0
    · subst hr
      rw [if_pos rfl]
      go_enter Try.func49, Try.ntmps49
      go_wp2_with fail
      refine (read_tail s _ 0 _ hs (by omega) (by omega) (by omega) (by omega)).mono ?_
      rintro e w' ⟨rfl, rfl⟩
      rw [Int.toNat_natCast, show (0 : Int).toNat = 0 from rfl, HR.out]
      go_wp2
      go_ret3
      exact ⟨rfl, rfl⟩
    · have hq : (r2 != 0) = true := by simpa using hr
      rw [if_neg hr]
      go_enter Try.func49, Try.ntmps49
      go_wp2_with fail
      refine (read_tail s _ 0 _ hs (by omega) (by omega) (by omega) (by omega)).mono ?_
      rintro e w' ⟨rfl, rfl⟩
      rw [Int.toNat_natCast, show (0 : Int).toNat = 0 from rfl, HR.out]
      go_wp2
      go_ret3
      exact ⟨rfl, rfl⟩
end Go.Proofs.Ytkhejelmjkpgfaa

namespace Go.Proofs.Ytkhejelmjkpgfaa
namespace Nm

theorem read_some {l : List UInt8} {k t n : Nat} (h : readN l k t = (n, 0)) : k ≤ 8 ∧ k ≤ l.length ∧ n < 256 ^ 8 ∧ tn t (dig n) = l.take k ∧ (dig n).length = k := by
  unfold readN at h
  split at h
  · cases h
  split at h
  · cases h
  split at h
  · cases h
  rename_i h8 hl hd
  obtain ⟨rfl, _⟩ := Prod.mk.inj h
  have hlen : (l.take k).length = k := by rw [List.length_take]; omega
  have hv := val_lt (tn t (l.take k))
  rw [tn_length, hlen] at hv
  have hp : 256 ^ k ≤ 256 ^ 8 := Nat.pow_le_pow_right (by omega) (by omega)
  have hdv : dig (val (tn t (l.take k))) = tn t (l.take k) := by
    refine dig_val _ (by rw [tn_length, hlen]; omega) ?_
    by_cases hk : k = 0
    · left; subst hk; rfl
    · right
      intro e
      apply hd
      refine ⟨by omega, ?_⟩
      cases l with
      | nil => simp at hl; omega
      | cons b l =>
        cases k with
        | zero => exact absurd rfl hk
        | succ k => simpa [tn] using e
  exact ⟨by omega, by omega, by omega, by rw [hdv, tn_tn], by rw [hdv, tn_length, hlen]⟩
theorem cons_of {l : List UInt8} (h : l ≠ []) : ∃ b r, l = b :: r := by
  cases l with
  | nil => exact absurd rfl h
  | cons b r => exact ⟨b, r, rfl⟩
theorem getN_cons (b : UInt8) (r : List UInt8) : getN (b :: r) = if (readN r b.toNat 0).2 = 0 then ((readN r b.toNat 0).1, 1 + b.toNat, (0 : Int)) else ((0 : Nat), (0 : Nat), (readN r b.toNat 0).2) := by
  rw [getN, if_neg (by simp)]; rfl
theorem getI_hi (b : UInt8) (r : List UInt8) (h : 128 ≤ b.toNat) : getI (b :: r) = if (readN r (b.toNat - 128) 0).2 = 0 then (if 9223372036854775807 < (readN r (b.toNat - 128) 0).1 then ((0 : Int), (0 : Nat), (4 : Int)) else (((readN r (b.toNat - 128) 0).1 : Int), 1 + (b.toNat - 128), (0 : Int))) else ((0 : Int), (0 : Nat), (readN r (b.toNat - 128) 0).2) := by
  rw [getI, if_neg (by simp), if_pos (show 128 ≤ ((b :: r).headD 0).toNat from h)]; rfl
theorem getI_lo (b : UInt8) (r : List UInt8) (h : ¬ 128 ≤ b.toNat) : getI (b :: r) = if (readN r (127 - b.toNat) 255).2 = 0 then (if 9223372036854775807 < (readN r (127 - b.toNat) 255).1 then ((0 : Int), (0 : Nat), (4 : Int)) else (-1 - ((readN r (127 - b.toNat) 255).1 : Int), 1 + (127 - b.toNat), (0 : Int))) else ((0 : Int), (0 : Nat), (readN r (127 - b.toNat) 255).2) := by
  rw [getI, if_neg (by simp), if_neg (show ¬ 128 ≤ ((b :: r).headD 0).toNat from h)]; rfl
theorem get_one {l : List UInt8} {n k : Nat} (h : getN l = (n, k, 0)) : k ≤ l.length ∧ n < 256 ^ 8 ∧ put n = l.take k := by
  have hne : l ≠ [] := by intro e; subst e; cases h
  obtain ⟨b, r, rfl⟩ := cons_of hne
  rw [getN_cons] at h
  generalize hr : readN r b.toNat 0 = x at h
  obtain ⟨x1, x2⟩ := x
  simp only at h
  split at h
  · rename_i h0
    subst h0
    obtain ⟨rfl, h2⟩ := Prod.mk.inj h
    obtain ⟨rfl, _⟩ := Prod.mk.inj h2
    obtain ⟨g1, g2, g3, g4, g5⟩ := read_some hr
    rw [tn_zero] at g4
    refine ⟨by rw [List.length_cons]; omega, g3, ?_⟩
    rw [put, Nat.add_comm 1, List.take_succ_cons, ← g4, g5]
    simp
  · rename_i h0
    obtain ⟨_, h2⟩ := Prod.mk.inj h
    obtain ⟨_, h3⟩ := Prod.mk.inj h2
    exact absurd h3 h0
theorem getI_one {l : List UInt8} {n : Int} {k : Nat} (h : getI l = (n, k, 0)) : k ≤ l.length ∧ -9223372036854775808 ≤ n ∧ n ≤ 9223372036854775807 ∧ putI n = l.take k := by
  have hne : l ≠ [] := by intro e; subst e; cases h
  obtain ⟨b, r, rfl⟩ := cons_of hne
  have hb := b.toNat_lt
  by_cases hc : 128 ≤ b.toNat
  · rw [getI_hi b r hc] at h
    generalize hr : readN r (b.toNat - 128) 0 = x at h
    obtain ⟨x1, x2⟩ := x
    simp only at h
    split at h
    · rename_i h0
      subst h0
      split at h
      · cases h
      rename_i hm
      obtain ⟨rfl, h2⟩ := Prod.mk.inj h
      obtain ⟨rfl, _⟩ := Prod.mk.inj h2
      obtain ⟨g1, g2, g3, g4, g5⟩ := read_some hr
      rw [tn_zero] at g4
      refine ⟨by rw [List.length_cons]; omega, by omega, by omega, ?_⟩
      rw [putI, if_neg (by omega), Int.toNat_natCast, Nat.add_comm 1, List.take_succ_cons, ← g4, g5, show 128 + (b.toNat - 128) = b.toNat from by omega]
      simp
    · rename_i h0
      obtain ⟨_, h2⟩ := Prod.mk.inj h
      obtain ⟨_, h3⟩ := Prod.mk.inj h2
      exact absurd h3 h0
  · rw [getI_lo b r hc] at h
    generalize hr : readN r (127 - b.toNat) 255 = x at h
    obtain ⟨x1, x2⟩ := x
    simp only at h
    split at h
    · rename_i h0
      subst h0
      split at h
      · cases h
      rename_i hm
      obtain ⟨rfl, h2⟩ := Prod.mk.inj h
      obtain ⟨rfl, _⟩ := Prod.mk.inj h2
      obtain ⟨g1, g2, g3, g4, g5⟩ := read_some hr
      refine ⟨by rw [List.length_cons]; omega, by omega, by omega, ?_⟩
      rw [putI, if_pos (by omega), show (-1 - (-1 - (x1 : Int))).toNat = x1 from by omega, Nat.add_comm 1, List.take_succ_cons, ← g4, g5, show 127 - (127 - b.toNat) = b.toNat from by omega]
      simp
    · rename_i h0
      obtain ⟨_, h2⟩ := Prod.mk.inj h
      obtain ⟨_, h3⟩ := Prod.mk.inj h2
      exact absurd h3 h0
theorem flip_unflip (n : Nat) (h : n < 18446744073709551616) : flip (unflip n) = n := by
  unfold unflip
  split
  · rw [flip, if_neg (by omega)]; omega
  · rw [flip, if_pos (by omega)]; omega
theorem getF_one {l : List UInt8} {b k : Nat} (h : getF l = (b, k, 0)) : k = 8 ∧ k ≤ l.length ∧ b < 18446744073709551616 ∧ putF b = l.take k := by
  unfold getF at h
  split at h
  · cases h
  rename_i hl
  split at h
  · cases h
  rename_i hn
  obtain ⟨rfl, h2⟩ := Prod.mk.inj h
  obtain ⟨rfl, _⟩ := Prod.mk.inj h2
  have hlen : (l.take 8).length = 8 := by rw [List.length_take]; omega
  have hv := val_lt (l.take 8)
  rw [hlen] at hv
  have hone : oneNaN (unflip (val (l.take 8))) = unflip (val (l.take 8)) := by
    unfold oneNaN
    split
    · rename_i h1
      by_cases he : unflip (val (l.take 8)) = 9221120237041090561
      · exact he.symm
      · exact absurd ⟨h1, he⟩ hn
    · rfl
  refine ⟨rfl, by omega, ?_, ?_⟩
  · unfold unflip; split <;> omega
  · rw [putF, hone, flip_unflip _ (by omega)]
    have := low_val (l.take 8)
    rw [hlen] at this
    exact this
theorem scan_one : ∀ (n : Nat) (l acc : List UInt8) (p : Nat) (t : List UInt8) (k : Nat), l.length ≤ n → acc.length ≤ 1024 → scanT l acc p = (t, k, 0) →
    ∃ u, t = acc ++ u ∧ t.length ≤ 1024 ∧ k = p + (putT u).length ∧ (putT u).length ≤ l.length ∧ putT u = l.take (putT u).length := by
  intro n
  induction n with
  | zero =>
    intro l acc p t k hl _ h
    have : l = [] := List.length_eq_zero_iff.1 (by omega)
    subst this
    cases h
  | succ n ih =>
    intro l acc p t k hl ha h
    cases l with
    | nil => cases h
    | cons b r =>
      rw [List.length_cons] at hl
      by_cases hb : b = 0
      · subst hb
        cases r with
        | nil => rw [scan_end] at h; cases h
        | cons d r =>
          rw [List.length_cons] at hl
          by_cases hd0 : d = 0
          · subst hd0
            rw [scan_zeros] at h
            obtain ⟨rfl, h2⟩ := Prod.mk.inj h
            obtain ⟨rfl, _⟩ := Prod.mk.inj h2
            exact ⟨[], by simp, ha, rfl, by simp [putT, esc], rfl⟩
          · by_cases hd1 : d = 255
            · subst hd1
              by_cases hf : acc.length = 1024
              · rw [scan_esc_full _ _ _ hf] at h; cases h
              · rw [scan_esc _ _ _ hf] at h
                obtain ⟨u, g1, g2, g3, g4, g5⟩ := ih r _ _ _ _ (by omega) (by simp; omega) h
                refine ⟨0 :: u, by rw [g1]; simp, g2, ?_, ?_, ?_⟩
                · rw [g3]; simp [putT, esc]; omega
                · have e : (putT (0 :: u)).length = (putT u).length + 2 := by simp [putT, esc]
                  rw [e, List.length_cons, List.length_cons]; omega
                · have e : putT (0 :: u) = 0 :: 255 :: putT u := rfl
                  rw [e, List.length_cons, List.length_cons, List.take_succ_cons, List.take_succ_cons, ← g5]
            · rw [scan_bad _ _ _ _ hd0 hd1] at h; cases h
      · by_cases hf : acc.length = 1024
        · rw [scan_full _ _ _ _ hb hf] at h; cases h
        · rw [scan_byte _ _ _ _ hb hf] at h
          obtain ⟨u, g1, g2, g3, g4, g5⟩ := ih r _ _ _ _ (by omega) (by simp; omega) h
          have e : putT (b :: u) = b :: putT u := by simp [putT, esc, hb]
          refine ⟨b :: u, by rw [g1]; simp, g2, ?_, ?_, ?_⟩
          · rw [g3, e, List.length_cons]; omega
          · rw [e, List.length_cons, List.length_cons]; omega
          · rw [e, List.length_cons, List.take_succ_cons, ← g5]
theorem getT_one {l t : List UInt8} {k : Nat} (h : getT l = (t, k, 0)) : k ≤ l.length ∧ t.length ≤ 1024 ∧ putT t = l.take k := by
  obtain ⟨u, g1, g2, g3, g4, g5⟩ := scan_one l.length l [] 0 t k (Nat.le_refl _) (by simp) h
  rw [List.nil_append] at g1
  subst g1
  rw [Nat.zero_add] at g3
  subst g3
  exact ⟨g4, g2, g5⟩
theorem scan_err : ∀ (n : Nat) (l acc : List UInt8) (p : Nat), l.length ≤ n → (scanT l acc p).2.2 = 0 ∨ (scanT l acc p).1 = [] := by
  intro n
  induction n with
  | zero =>
    intro l acc p hl
    have : l = [] := List.length_eq_zero_iff.1 (by omega)
    subst this
    right; rfl
  | succ n ih =>
    intro l acc p hl
    cases l with
    | nil => right; rfl
    | cons b r =>
      rw [List.length_cons] at hl
      by_cases hb : b = 0
      · subst hb
        cases r with
        | nil => rw [scan_end]; right; rfl
        | cons d r =>
          rw [List.length_cons] at hl
          by_cases hd0 : d = 0
          · subst hd0; rw [scan_zeros]; left; rfl
          · by_cases hd1 : d = 255
            · subst hd1
              by_cases hf : acc.length = 1024
              · rw [scan_esc_full _ _ _ hf]; right; rfl
              · rw [scan_esc _ _ _ hf]; exact ih _ _ _ (by omega)
            · rw [scan_bad _ _ _ _ hd0 hd1]; right; rfl
      · by_cases hf : acc.length = 1024
        · rw [scan_full _ _ _ _ hb hf]; right; rfl
        · rw [scan_byte _ _ _ _ hb hf]; exact ih _ _ _ (by omega)
theorem getT_err (l : List UInt8) (h : (getT l).2.2 ≠ 0) : (getT l).1 = [] := (scan_err l.length l [] 0 (Nat.le_refl _)).resolve_left h
end Nm
end Go.Proofs.Ytkhejelmjkpgfaa

namespace Go.Proofs.Ytkhejelmjkpgfaa
namespace Pr

/-- n bits of c, the highest first -/
def wd (c : Nat) : Nat → List Bool
  | 0 => []
  | n + 1 => wd (c / 2) n ++ [decide (c % 2 = 1)]
def val (l : List Bool) : Nat := l.foldl (fun n b => 2 * n + (if b then 1 else 0)) 0
theorem snoc_ind {M : List Bool → Prop} (nil : M []) (snoc : ∀ l b, M l → M (l ++ [b])) (l : List Bool) : M l := by
  have : ∀ n (l : List Bool), l.length = n → M l := by
    intro n
    induction n with
    | zero => intro l h; rw [List.length_eq_zero_iff.1 h]; exact nil
    | succ n ih =>
      intro l h
      have hne : l ≠ [] := fun e => by rw [e] at h; simp at h
      rw [← List.dropLast_concat_getLast hne]
      exact snoc _ _ (ih _ (by rw [List.length_dropLast, h]; rfl))
  exact this _ l rfl
theorem wd_length (c n : Nat) : (wd c n).length = n := by
  induction n generalizing c with
  | zero => rfl
  | succ n ih => simp [wd, ih]
theorem val_snoc (l : List Bool) (b : Bool) : val (l ++ [b]) = 2 * val l + (if b then 1 else 0) := by simp [val]
theorem val_wd {c n : Nat} (h : c < 2 ^ n) : val (wd c n) = c := by
  induction n generalizing c with
  | zero =>
    have : c = 0 := by simpa using h
    rw [this]; rfl
  | succ n ih =>
    rw [wd, val_snoc, ih (by rw [Nat.pow_succ] at h; omega)]
    by_cases e : c % 2 = 1
    · simp only [e, decide_true, if_true]; omega
    · simp only [e, decide_false, Bool.false_eq_true, if_false]; omega
theorem val_lt (l : List Bool) : val l < 2 ^ l.length := by
  induction l using snoc_ind with
  | nil => decide
  | snoc l b ih =>
    rw [val_snoc, List.length_append, List.length_singleton, Nat.pow_succ]
    split <;> omega
theorem wd_val (l : List Bool) : wd (val l) l.length = l := by
  induction l using snoc_ind with
  | nil => rfl
  | snoc l b ih =>
    rw [List.length_append, List.length_singleton, wd, val_snoc]
    cases b
    · rw [show (2 * val l + (if false = true then 1 else 0)) / 2 = val l by simp, ih]
      simp
    · rw [show (2 * val l + (if true = true then 1 else 0)) / 2 = val l by simp; omega, ih]
      simp
theorem wd_inj {c d n : Nat} (hc : c < 2 ^ n) (hd : d < 2 ^ n) (h : wd c n = wd d n) : c = d := by
  rw [← val_wd hc, ← val_wd hd, h]
theorem wd_add (c m k : Nat) : wd c (m + k) = wd (c / 2 ^ k) m ++ wd c k := by
  induction k generalizing c with
  | zero => simp [wd]
  | succ k ih =>
    rw [show m + (k + 1) = (m + k) + 1 by omega, wd, ih, wd, List.append_assoc, Nat.div_div_eq_div_mul, Nat.pow_succ, Nat.mul_comm 2]
theorem wd_take {c m n : Nat} (h : m ≤ n) : (wd c n).take m = wd (c / 2 ^ (n - m)) m := by
  obtain ⟨k, rfl⟩ := Nat.le.dest h
  rw [wd_add, Nat.add_sub_cancel_left, List.take_left' (wd_length _ _)]
/-- a sign's word -/
def W (l : List Nat) (i : Nat) : List Bool := wd (Hf.code l i) (l.getD i 0)
theorem W_length (l : List Nat) (i : Nat) : (W l i).length = l.getD i 0 := wd_length _ _
/-- lengths that have codes -/
structure Good (l : List Nat) : Prop where
  le : ∀ i, l.getD i 0 ≤ 48
  sum : Hf.ksum l ≤ 2 ^ 48
def fits (l : List Nat) (b : List Bool) (i : Nat) : Bool := decide (i < l.length) && decide (0 < l.getD i 0) && decide (b.take (l.getD i 0) = W l i)
theorem fits_iff {l : List Nat} {b : List Bool} {i : Nat} : fits l b i = true ↔ i < l.length ∧ 0 < l.getD i 0 ∧ b.take (l.getD i 0) = W l i := by
  simp [fits, and_assoc]
theorem Good.lt {l : List Nat} (g : Good l) {i : Nat} (hi : i < l.length) (h0 : 0 < l.getD i 0) : Hf.code l i < 2 ^ l.getD i 0 := Hf.code_lt hi h0 (g.le i) g.sum
theorem fits_one {l : List Nat} (g : Good l) {b : List Bool} {i j : Nat} (hi : fits l b i = true) (hj : fits l b j = true) : i = j := by
  obtain ⟨i1, i2, i3⟩ := fits_iff.1 hi
  obtain ⟨j1, j2, j3⟩ := fits_iff.1 hj
  have key : ∀ i j, i < l.length → j < l.length → 0 < l.getD i 0 → l.getD i 0 ≤ l.getD j 0 → 0 < l.getD j 0 → b.take (l.getD i 0) = W l i → b.take (l.getD j 0) = W l j → i = j := by
    intro i j hi hj h0 hle h0' e1 e2
    apply Classical.byContradiction
    intro hij
    refine Hf.code_free hi hj hij h0 hle (g.le j) ?_
    have e : W l i = (W l j).take (l.getD i 0) := by
      rw [← e1, ← e2, List.take_take, Nat.min_eq_left hle]
    unfold W at e
    rw [wd_take hle] at e
    refine (wd_inj (g.lt hi h0) ?_ e).symm
    have := g.lt hj h0'
    rw [Nat.div_lt_iff_lt_mul (Nat.two_pow_pos _), ← Nat.pow_add]
    rwa [show l.getD i 0 + (l.getD j 0 - l.getD i 0) = l.getD j 0 by omega]
  rcases Nat.le_total (l.getD i 0) (l.getD j 0) with h | h
  · exact key i j i1 j1 i2 h j2 i3 j3
  · exact (key j i j1 i1 j2 h i2 j3 i3).symm
/-- the sign whose word stands in front -/
def front (l : List Nat) (b : List Bool) : Option Nat := (List.range l.length).find? (fits l b)
theorem front_some {l : List Nat} (g : Good l) {b : List Bool} {i : Nat} : front l b = some i ↔ fits l b i = true := by
  constructor
  · exact fun h => List.find?_some h
  · intro h
    cases e : front l b with
    | none => exact absurd h (List.find?_eq_none.1 e i (List.mem_range.2 (fits_iff.1 h).1))
    | some j => rw [fits_one g (List.find?_some e) h]
theorem front_none {l : List Nat} {b : List Bool} : front l b = none ↔ ∀ i, fits l b i = false := by
  constructor
  · intro h i
    cases e : fits l b i with
    | false => rfl
    | true => exact absurd e (List.find?_eq_none.1 h i (List.mem_range.2 (fits_iff.1 e).1))
  · exact fun h => List.find?_eq_none.2 fun i _ => by rw [h i]; simp
/-- so many signs; else whether 48 bits are no code -/
def signs (l : List Nat) : Nat → List Bool → Sum Bool (List Nat × List Bool)
  | 0, b => .inr ([], b)
  | n + 1, b => match front l b with
    | none => .inl (decide (48 ≤ b.length))
    | some i => match signs l n (b.drop (l.getD i 0)) with
      | .inl e => .inl e
      | .inr (t, r) => .inr (i :: t, r)
def words (l : List Nat) (t : List Nat) : List Bool := t.flatMap (W l)
theorem words_cons (l : List Nat) (i : Nat) (t : List Nat) : words l (i :: t) = W l i ++ words l t := by simp [words]
theorem words_snoc (l : List Nat) (t : List Nat) (i : Nat) : words l (t ++ [i]) = words l t ++ W l i := by simp [words]
theorem front_word {l : List Nat} (g : Good l) {i : Nat} (hi : i < l.length) (h0 : 0 < l.getD i 0) (r : List Bool) : front l (W l i ++ r) = some i :=
  (front_some g).2 (fits_iff.2 ⟨hi, h0, List.take_left' (W_length l i)⟩)
/-- what was laid by words is read again -/
theorem signs_words {l : List Nat} (g : Good l) {t : List Nat} (ht : ∀ i ∈ t, i < l.length ∧ 0 < l.getD i 0) (r : List Bool) : signs l t.length (words l t ++ r) = .inr (t, r) := by
  induction t with
  | nil => rfl
  | cons i t ih =>
    obtain ⟨h1, h2⟩ := ht i List.mem_cons_self
    rw [List.length_cons, words_cons, List.append_assoc, signs, front_word g h1 h2]
    simp only []
    rw [List.drop_left' (W_length l i), ih fun j hj => ht j (List.mem_cons_of_mem _ hj)]
theorem signs_of {l : List Nat} {n : Nat} {b : List Bool} {t : List Nat} {r : List Bool} (h : signs l n b = .inr (t, r)) : t.length = n ∧ b = words l t ++ r ∧ ∀ i ∈ t, i < l.length ∧ 0 < l.getD i 0 := by
  induction n generalizing b t with
  | zero =>
    simp only [signs, Sum.inr.injEq, Prod.mk.injEq] at h
    obtain ⟨rfl, rfl⟩ := h
    exact ⟨rfl, rfl, fun _ h => absurd h List.not_mem_nil⟩
  | succ n ih =>
    rw [signs] at h
    cases e : front l b with
    | none => rw [e] at h; simp at h
    | some i =>
      rw [e] at h
      simp only [] at h
      cases e2 : signs l n (b.drop (l.getD i 0)) with
      | inl q => rw [e2] at h; simp at h
      | inr q =>
        obtain ⟨t', r'⟩ := q
        rw [e2] at h
        simp only [Sum.inr.injEq, Prod.mk.injEq] at h
        obtain ⟨rfl, rfl⟩ := h
        obtain ⟨k1, k2, k3⟩ := ih e2
        obtain ⟨f1, f2, f3⟩ := fits_iff.1 (List.find?_some e)
        refine ⟨by simp [k1], ?_, fun j hj => ?_⟩
        · rw [words_cons, List.append_assoc, ← k2, ← f3, List.take_append_drop]
        · rcases List.mem_cons.1 hj with rfl | hj
          · exact ⟨f1, f2⟩
          · exact k3 j hj
end Pr
end Go.Proofs.Ytkhejelmjkpgfaa

namespace Go.Proofs.Ytkhejelmjkpgfaa
namespace Pr

/-- the bits of bytes -/
def bitsB (l : List Nat) : List Bool := l.flatMap fun b => wd b 8
theorem bitsB_nil : bitsB [] = [] := rfl
theorem bitsB_cons (b : Nat) (l : List Nat) : bitsB (b :: l) = wd b 8 ++ bitsB l := by simp [bitsB]
theorem bitsB_append (l m : List Nat) : bitsB (l ++ m) = bitsB l ++ bitsB m := by simp [bitsB]
theorem bitsB_length (l : List Nat) : (bitsB l).length = 8 * l.length := by
  induction l with
  | nil => rfl
  | cons b l ih => rw [bitsB_cons, List.length_append, wd_length, ih, List.length_cons]; omega
theorem bitsB_drop (l : List Nat) (k : Nat) : (bitsB l).drop (8 * k) = bitsB (l.drop k) := by
  induction k generalizing l with
  | zero => simp
  | succ k ih =>
    cases l with
    | nil => simp [bitsB]
    | cons b l =>
      rw [bitsB_cons, show 8 * (k + 1) = 8 + 8 * k by omega, ← List.drop_drop, List.drop_left' (wd_length b 8), ih, List.drop_succ_cons]
theorem bitsB_inj {l m : List Nat} (hl : ∀ b ∈ l, b < 256) (hm : ∀ b ∈ m, b < 256) (h : bitsB l = bitsB m) : l = m := by
  induction l generalizing m with
  | nil =>
    have := congrArg List.length h
    rw [bitsB_length, bitsB_length] at this
    exact (List.length_eq_zero_iff.1 (by simp only [List.length_nil] at this; omega)).symm
  | cons b l ih =>
    cases m with
    | nil =>
      have := congrArg List.length h
      rw [bitsB_length, bitsB_length] at this
      simp only [List.length_cons, List.length_nil] at this
      omega
    | cons c m =>
      rw [bitsB_cons, bitsB_cons] at h
      obtain ⟨h1, h2⟩ := List.append_inj h (by rw [wd_length, wd_length])
      rw [wd_inj (hl b List.mem_cons_self) (hm c List.mem_cons_self) h1, ih (fun x hx => hl x (List.mem_cons_of_mem _ hx)) (fun x hx => hm x (List.mem_cons_of_mem _ hx)) h2]
/-- bytes that hold so many bits and are filled up with 0 -/
def zs (n : Nat) : List Bool := List.replicate ((8 - n % 8) % 8) false
theorem zs_length (n : Nat) : (zs n).length = (8 - n % 8) % 8 := by simp [zs]
theorem zs_fill (n : Nat) : (n + (zs n).length) % 8 = 0 := by rw [zs_length]; omega
def bytesN : Nat → List Bool → List Nat
  | 0, _ => []
  | n + 1, b => val (b.take 8) :: bytesN n (b.drop 8)
def bytes (b : List Bool) : List Nat := bytesN ((b.length + 7) / 8) (b ++ zs b.length)
theorem bytesN_length (n : Nat) (b : List Bool) : (bytesN n b).length = n := by
  induction n generalizing b with
  | zero => rfl
  | succ n ih => rw [bytesN, List.length_cons, ih]
theorem bytesN_lt (n : Nat) (b : List Bool) : ∀ x ∈ bytesN n b, x < 256 := by
  induction n generalizing b with
  | zero => exact fun _ h => absurd h List.not_mem_nil
  | succ n ih =>
    intro x hx
    rcases List.mem_cons.1 hx with rfl | hx
    · refine Nat.lt_of_lt_of_le (val_lt _) ?_
      have h8 : (b.take 8).length ≤ 8 := by rw [List.length_take]; omega
      exact Nat.pow_le_pow_right (by omega : 2 > 0) h8
    · exact ih _ x hx
theorem bits_bytesN {n : Nat} {b : List Bool} (h : b.length = 8 * n) : bitsB (bytesN n b) = b := by
  induction n generalizing b with
  | zero => exact (List.length_eq_zero_iff.1 (by omega)).symm
  | succ n ih =>
    have h8 : (b.take 8).length = 8 := by rw [List.length_take]; omega
    have := wd_val (b.take 8)
    rw [h8] at this
    rw [bytesN, bitsB_cons, this, ih (by rw [List.length_drop]; omega), List.take_append_drop]
theorem bytesN_bits {l : List Nat} (h : ∀ b ∈ l, b < 256) : bytesN l.length (bitsB l) = l :=
  bitsB_inj (bytesN_lt _ _) h (bits_bytesN (bitsB_length l))
theorem bytes_length (b : List Bool) : (bytes b).length = (b.length + 7) / 8 := bytesN_length _ _
theorem bytes_lt (b : List Bool) : ∀ x ∈ bytes b, x < 256 := bytesN_lt _ _
theorem bits_bytes (b : List Bool) : bitsB (bytes b) = b ++ zs b.length := by
  refine bits_bytesN ?_
  rw [List.length_append, zs_length]
  omega
/-- the bits that are left are those of the last byte that was read from, and 0 -/
def clean (r : List Bool) : Bool := decide (r.length ≤ 7) && r.all fun b => !b
theorem clean_iff {r : List Bool} : clean r = true ↔ r.length ≤ 7 ∧ r = List.replicate r.length false := by
  simp only [clean, Bool.and_eq_true, decide_eq_true_eq, List.all_eq_true, Bool.not_eq_true', List.eq_replicate_iff, true_and]
theorem clean_zs (n : Nat) : clean (zs n) = true := by
  rw [clean_iff, zs_length]
  exact ⟨by omega, rfl⟩
theorem clean_len {n : Nat} {r : List Bool} (h : clean r = true) (h8 : (n + r.length) % 8 = 0) : r = zs n := by
  obtain ⟨h1, h2⟩ := clean_iff.1 h
  rw [h2, zs, show (8 - n % 8) % 8 = r.length by omega]
/-- what was laid by words, as bytes, is read again and leaves nothing but filling -/
theorem signs_bytes {l : List Nat} (g : Good l) {t : List Nat} (ht : ∀ i ∈ t, i < l.length ∧ 0 < l.getD i 0) :
    signs l t.length (bitsB (bytes (words l t))) = .inr (t, zs (words l t).length) := by
  rw [bits_bytes]
  exact signs_words g ht _
/-- bytes from which signs can be read and which leave nothing but filling are those of the signs' words -/
theorem bytes_signs {l : List Nat} {n : Nat} {B : List Nat} (hB : ∀ b ∈ B, b < 256) {t : List Nat} {r : List Bool} (h : signs l n (bitsB B) = .inr (t, r)) (hr : clean r = true) : B = bytes (words l t) := by
  obtain ⟨_, h2, _⟩ := signs_of h
  have hl := congrArg List.length h2
  rw [bitsB_length, List.length_append] at hl
  have := clean_len (n := (words l t).length) hr (by omega)
  refine bitsB_inj hB (bytes_lt _) ?_
  rw [bits_bytes, h2, this]
end Pr
end Go.Proofs.Ytkhejelmjkpgfaa

namespace Go.Proofs.Ytkhejelmjkpgfaa
namespace Hf
/-- a heap of signs, without the value that its list of signs is -/
abbrev Ab := Nat × Nat × List Nat
def ab (g : G) : Ab := (g.wt, g.low, g.sg)
/-- a heap of each sign that is there, of the first k -/
def init (F : List Nat) (k : Nat) : List Ab := (List.range k).filterMap fun i => if 0 < F.getD i 0 then some (F.getD i 0, i, [i]) else none
theorem init_succ (F : List Nat) (k : Nat) : init F (k + 1) = init F k ++ if 0 < F.getD k 0 then [(F.getD k 0, k, [k])] else [] := by
  unfold init
  rw [List.range_succ, List.filterMap_append]
  congr 1
  by_cases h : 0 < F.getD k 0
  · simp only [List.filterMap_cons, List.filterMap_nil]
    rw [if_pos h, if_pos h]
  · simp only [List.filterMap_cons, List.filterMap_nil]
    rw [if_neg h, if_neg h]
theorem init_length (F : List Nat) (k : Nat) : (init F k).length ≤ k := by
  have := List.length_filterMap_le (fun i => if 0 < F.getD i 0 then some (F.getD i 0, i, [i]) else none) (List.range k)
  rw [List.length_range] at this
  exact this


def toHp (x : Ab) : Hp := ⟨x.1, x.2.1, fun i => decide (i ∈ x.2.2)⟩
def H0 (F : List Nat) : List Hp := (init F F.length).map toHp
/-- not ahead of -/
def nlt (c a : Ab) : Prop := a.1 < c.1 ∨ (a.1 = c.1 ∧ a.2.1 ≤ c.2.1)
/-- heaps of signs below n that no two have together, each with its least sign in it -/
structure St (n : Nat) (A : List Ab) : Prop where
  nodup : (A.flatMap (·.2.2)).Nodup
  low : ∀ x ∈ A, x.2.1 ∈ x.2.2
  lt : ∀ x ∈ A, ∀ i ∈ x.2.2, i < n
  wt : (A.map (·.1)).sum ≤ 268435456
  count : (A.flatMap (·.2.2)).length ≤ 256
theorem St.perm {n : Nat} {A B : List Ab} (h : St n A) (hp : A.Perm B) : St n B := by
  have hf := hp.flatMap_right (·.2.2)
  exact ⟨hf.nodup_iff.1 h.nodup, fun x hx => h.low x (hp.mem_iff.2 hx), fun x hx => h.lt x (hp.mem_iff.2 hx), by rw [← (hp.map _).sum_nat]; exact h.wt, by rw [← hf.length_eq]; exact h.count⟩
theorem St.join {n : Nat} {a b : Ab} {R : List Ab} (h : St n (a :: b :: R)) {s : List Nat} (hs : s.Perm (a.2.2 ++ b.2.2)) : St n ((a.1 + b.1, min a.2.1 b.2.1, s) :: R) := by
  have hf : ((a.1 + b.1, min a.2.1 b.2.1, s) :: R : List Ab).flatMap (·.2.2) |>.Perm ((a :: b :: R).flatMap (·.2.2)) := by
    simp only [List.flatMap_cons]
    rw [← List.append_assoc]
    exact hs.append_right _
  refine ⟨hf.nodup_iff.2 h.nodup, fun x hx => ?_, fun x hx i hi => ?_, ?_, by rw [hf.length_eq]; exact h.count⟩
  · rcases List.mem_cons.1 hx with rfl | hx
    · have h1 := h.low a List.mem_cons_self
      have h2 := h.low b (List.mem_cons_of_mem _ List.mem_cons_self)
      show min a.2.1 b.2.1 ∈ s
      rw [hs.mem_iff, List.mem_append]
      rcases Nat.le_total a.2.1 b.2.1 with e | e
      · rw [Nat.min_eq_left e]; exact .inl h1
      · rw [Nat.min_eq_right e]; exact .inr h2
    · exact h.low x (List.mem_cons_of_mem _ (List.mem_cons_of_mem _ hx))
  · rcases List.mem_cons.1 hx with rfl | hx
    · rcases List.mem_append.1 (hs.mem_iff.1 hi) with hi | hi
      · exact h.lt a List.mem_cons_self i hi
      · exact h.lt b (List.mem_cons_of_mem _ List.mem_cons_self) i hi
    · exact h.lt x (List.mem_cons_of_mem _ (List.mem_cons_of_mem _ hx)) i hi
  · have := h.wt
    simp only [List.map_cons, List.sum_cons] at this ⊢
    omega
/-- who comes first comes truly first -/
theorem St.less {n : Nat} {a : Ab} {R : List Ab} (h : St n (a :: R)) (ha : ∀ c ∈ R, nlt c a) : ∀ c ∈ R.map toHp, less (toHp a) c := by
  intro c hc
  obtain ⟨x, hx, rfl⟩ := List.mem_map.1 hc
  have h1 := h.low a List.mem_cons_self
  have h2 := h.low x (List.mem_cons_of_mem _ hx)
  have h3 : a.2.1 ≠ x.2.1 := by
    intro e
    have := h.nodup
    rw [List.flatMap_cons, List.nodup_append] at this
    exact this.2.2 _ h1 _ (List.mem_flatMap.2 ⟨x, hx, h2⟩) e
  have h4 := ha x hx
  unfold nlt at h4
  unfold Hf.less toHp
  dsimp only
  omega
theorem St.tail {n : Nat} {a : Ab} {R : List Ab} (h : St n (a :: R)) : St n R := by
  refine ⟨?_, fun x hx => h.low x (List.mem_cons_of_mem _ hx), fun x hx => h.lt x (List.mem_cons_of_mem _ hx), ?_, ?_⟩
  · have := h.nodup
    rw [List.flatMap_cons, List.nodup_append] at this
    exact this.2.1
  · have := h.wt
    simp only [List.map_cons, List.sum_cons] at this
    omega
  · have := h.count
    rw [List.flatMap_cons, List.length_append] at this
    omega
/-- one more at each of some places -/
def bump (out : List Nat) (s : List Nat) : List Nat := s.foldl (fun o i => o.set i (o.getD i 0 + 1)) out
theorem bump_length (out s : List Nat) : (bump out s).length = out.length := by
  induction s generalizing out with
  | nil => rfl
  | cons i s ih => show (bump (out.set i (out.getD i 0 + 1)) s).length = _; rw [ih, List.length_set]
theorem bump_more (out s : List Nat) (i : Nat) : bump out (s ++ [i]) = (bump out s).set i ((bump out s).getD i 0 + 1) := by simp [bump]
theorem getD_set (l : List Nat) (i j x : Nat) (hi : i < l.length) : (l.set i x).getD j 0 = if i = j then x else l.getD j 0 := by
  rw [List.getD_eq_getElem?_getD, List.getD_eq_getElem?_getD, List.getElem?_set]
  by_cases h : i = j
  · rw [if_pos h, if_pos h, if_pos (by omega)]; rfl
  · rw [if_neg h, if_neg h]
theorem bump_get {out s : List Nat} (hn : s.Nodup) (hs : ∀ i ∈ s, i < out.length) (j : Nat) : (bump out s).getD j 0 = out.getD j 0 + if j ∈ s then 1 else 0 := by
  induction s generalizing out with
  | nil => simp [bump]
  | cons i s ih =>
    have hi := hs i List.mem_cons_self
    have hn' := List.nodup_cons.1 hn
    show (bump (out.set i (out.getD i 0 + 1)) s).getD j 0 = _
    rw [ih hn'.2 (fun k hk => by rw [List.length_set]; exact hs k (List.mem_cons_of_mem _ hk)), getD_set _ _ _ _ hi]
    by_cases e : i = j
    · subst e
      rw [if_pos rfl, if_neg hn'.1, if_pos List.mem_cons_self]
    · rw [if_neg e]
      by_cases e2 : j ∈ s
      · rw [if_pos e2, if_pos (List.mem_cons_of_mem _ e2)]
      · rw [if_neg e2, if_neg fun h => by rcases List.mem_cons.1 h with h | h; · exact e h.symm
                                          · exact e2 h]
/-- what stays true while heaps are made one -/
structure Inv (F : List Nat) (A : List Ab) (out : List Nat) : Prop where
  len : out.length = F.length
  st : St F.length A
  run : ∀ L, Run (A.map toHp) L → Run (H0 F) (fun i => out.getD i 0 + L i)
  few : ∀ i, out.getD i 0 + A.length ≤ 256
theorem Inv.perm {F : List Nat} {A B : List Ab} {out : List Nat} (h : Inv F A out) (hp : A.Perm B) : Inv F B out :=
  ⟨h.len, h.st.perm hp, fun L hL => h.run L (hL.perm (hp.map _)), fun i => by rw [← hp.length_eq]; exact h.few i⟩
theorem Inv.step {F : List Nat} {a b : Ab} {R : List Ab} {out s : List Nat} (h : Inv F (a :: b :: R) out) (ha : ∀ c ∈ b :: R, nlt c a) (hb : ∀ c ∈ R, nlt c b) (hs : s.Perm (a.2.2 ++ b.2.2)) :
    Inv F ((a.1 + b.1, min a.2.1 b.2.1, s) :: R) (bump out s) := by
  have hst := h.st.join hs
  have hn : s.Nodup := by
    have := hst.nodup
    rw [List.flatMap_cons, List.nodup_append] at this
    exact this.1
  have hlt : ∀ i ∈ s, i < out.length := fun i hi => by rw [h.len]; exact hst.lt _ List.mem_cons_self i hi
  refine ⟨by rw [bump_length]; exact h.len, hst, fun L hL => ?_, fun i => ?_⟩
  · have hj : ((a.1 + b.1, min a.2.1 b.2.1, s) :: R).map toHp = Hf.join (toHp a) (toHp b) :: R.map toHp := by
      rw [List.map_cons]
      congr 1
      unfold Hf.join toHp
      congr 1
      funext i
      rw [Bool.eq_iff_iff]
      simp only [decide_eq_true_eq, Bool.or_eq_true]
      rw [hs.mem_iff, List.mem_append]
    rw [hj] at hL
    have := h.run _ (Run.step (List.Perm.refl _) (h.st.less ha) (h.st.tail.less hb) hL)
    have e : (fun i => (bump out s).getD i 0 + L i) = fun i => out.getD i 0 + ((if (toHp a).mem i || (toHp b).mem i then 1 else 0) + L i) := by
      funext i
      rw [bump_get hn hlt, Nat.add_assoc]
      congr 2
      have e1 : ((toHp a).mem i || (toHp b).mem i) = decide (i ∈ s) := by
        unfold toHp
        rw [Bool.eq_iff_iff]
        simp only [decide_eq_true_eq, Bool.or_eq_true]
        rw [hs.mem_iff, List.mem_append]
      rw [e1]
      by_cases h : i ∈ s
      · simp [h]
      · simp [h]
    rw [e]
    exact this
  · have := h.few i
    rw [bump_get hn hlt]
    simp only [List.length_cons] at this ⊢
    split <;> omega
theorem Inv.done {F : List Nat} {x : Ab} {out : List Nat} (h : Inv F [x] out) : Run (H0 F) (fun i => out.getD i 0) := by
  have := h.run _ (Run.one (toHp x))
  simpa using this
theorem init_mem {F : List Nat} {k : Nat} {x : Ab} (h : x ∈ init F k) : ∃ i, i < k ∧ 0 < F.getD i 0 ∧ x = (F.getD i 0, i, [i]) := by
  obtain ⟨i, hi, e⟩ := List.mem_filterMap.1 h
  by_cases h0 : 0 < F.getD i 0
  · rw [if_pos h0] at e
    exact ⟨i, List.mem_range.1 hi, h0, by simpa using e.symm⟩
  · rw [if_neg h0] at e
    simp at e
theorem init_signs (F : List Nat) (k : Nat) : (init F k).flatMap (·.2.2) = (List.range k).filter fun i => decide (0 < F.getD i 0) := by
  induction k with
  | zero => rfl
  | succ k ih =>
    rw [init_succ, List.flatMap_append, ih, List.range_succ, List.filter_append]
    congr 1
    by_cases h : 0 < F.getD k 0
    · rw [if_pos h, List.filter_cons, if_pos (by simpa using h)]; rfl
    · rw [if_neg h, List.filter_cons, if_neg (by simpa using h)]; rfl
theorem init_wt {F : List Nat} {k : Nat} (h : ∀ n ∈ F, n ≤ 1048576) : ((init F k).map (·.1)).sum ≤ k * 1048576 := by
  induction k with
  | zero => simp [init]
  | succ k ih =>
    rw [init_succ, List.map_append, List.sum_append]
    have h1 : F.getD k 0 ≤ 1048576 := by
      rw [List.getD_eq_getElem?_getD]
      cases e : F[k]? with
      | none => simp
      | some x => exact h x (List.mem_of_getElem? e)
    rw [Nat.succ_mul]
    refine Nat.add_le_add ih ?_
    by_cases h : 0 < F.getD k 0
    · rw [if_pos h]
      simpa using h1
    · rw [if_neg h]
      simp
theorem Inv.start {F : List Nat} (h2 : F.length ≤ 256) (h3 : ∀ n ∈ F, n ≤ 1048576) : Inv F (init F F.length) (List.replicate F.length 0) := by
  have hz : ∀ i, (List.replicate F.length 0).getD i 0 = 0 := fun i => by
    rw [List.getD_eq_getElem?_getD]
    cases e : (List.replicate F.length 0)[i]? with
    | none => rfl
    | some x => exact List.eq_of_mem_replicate (List.mem_of_getElem? e)
  refine ⟨by simp, ⟨?_, fun x hx => ?_, fun x hx i hi => ?_, ?_, ?_⟩, fun L hL => ?_, fun i => ?_⟩
  · rw [init_signs]
    exact List.nodup_range.filter _
  · obtain ⟨i, _, _, rfl⟩ := init_mem hx
    exact List.mem_singleton.2 rfl
  · obtain ⟨j, hj, _, rfl⟩ := init_mem hx
    rw [List.mem_singleton.1 hi]
    exact hj
  · have := init_wt (k := F.length) h3
    omega
  · rw [init_signs]
    have := List.length_filter_le (fun i => decide (0 < F.getD i 0)) (List.range F.length)
    rw [List.length_range] at this
    omega
  · have e : (fun i => (List.replicate F.length 0).getD i 0 + L i) = L := by funext i; rw [hz]; omega
    rw [e]
    exact hL
  · rw [hz]
    have := init_length F F.length
    omega
/-- P19's answer -/
structure HL (F out : List Nat) : Prop where
  len : out.length = F.length
  none : (init F F.length).length = 0 → out = List.replicate F.length 0
  one : ∀ x, init F F.length = [x] → out = (List.replicate F.length 0).set x.2.1 1
  more : 2 ≤ (init F F.length).length → Run (H0 F) (fun i => out.getD i 0)
theorem HL.once {F a b : List Nat} (h : HL F a) (k : HL F b) : a = b := by
  rcases (show (init F F.length).length = 0 ∨ (init F F.length).length = 1 ∨ 2 ≤ (init F F.length).length by omega) with e | e | e
  · rw [h.none e, k.none e]
  · obtain ⟨x, hx⟩ := List.length_eq_one_iff.1 e
    rw [h.one x hx, k.one x hx]
  · have := (h.more e).once (List.Perm.refl _) (k.more e)
    refine List.ext_getElem (by rw [h.len, k.len]) fun i h1 h2 => ?_
    have e : a.getD i 0 = b.getD i 0 := congrFun this i
    rw [List.getD_eq_getElem?_getD, List.getD_eq_getElem?_getD, List.getElem?_eq_getElem h1, List.getElem?_eq_getElem h2] at e
    exact e
end Hf
end Go.Proofs.Ytkhejelmjkpgfaa
