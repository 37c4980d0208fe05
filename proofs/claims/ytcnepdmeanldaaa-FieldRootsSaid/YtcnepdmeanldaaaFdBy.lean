/-
  Bytes as they lie in memory; what Dot and At of package field, and At of package lumref, answer.
-/
import Derived.Test.YtcnepdmeanldaaaFdRef
import Derived.Test.YtcnepdmeanldaaaQuietSince
import Derived.Deep.Cut
namespace Go.Proofs.Ytcnepdmeanldaaa
open Go.RowKit
set_option maxRecDepth 4000

/-- bytes that lie in memory -/
structure Bys (w : World) (v : Value) (l : List Nat) : Prop where
  at_ : ((∃ a c, v = .slice a 0 c) ∧ l = []) ∨ ∃ bk o cap, v = .slice (some ⟨bk, o, none⟩) l.length cap ∧ bk < w.heap.size ∧
    ∀ j (hj : j < l.length), w.cell? ⟨bk, o + j, none⟩ = some (.int .u8 (l[j] : Nat))
  room : ∃ a n c, v = .slice a n c ∧ n ≤ c ∧ c ≤ 9223372036854775807
theorem Bys.slice {w : World} {v : Value} {l : List Nat} (h : Bys w v l) : ∃ a c, v = .slice a l.length c := by
  rcases h.at_ with ⟨⟨a, c, rfl⟩, rfl⟩ | ⟨bk, o, cap, rfl, _⟩
  · exact ⟨_, _, rfl⟩
  · exact ⟨_, _, rfl⟩
theorem Bys.below {w w' : World} {v : Value} {l : List Nat} (h : Bys w v l) {B : Nat} (hB : w.heap.size ≤ B) (hb : Below B w w') : Bys w' v l := by
  rcases h.at_ with h' | ⟨bk, o, cap, h1, h3, h4⟩
  · exact ⟨.inl h', h.room⟩
  · exact ⟨.inr ⟨bk, o, cap, h1, Nat.lt_of_lt_of_le h3 hb.size, fun j hj => (hb.cell (p := ⟨bk, o + j, none⟩) (Nat.lt_of_lt_of_le h3 hB)).trans (h4 j hj)⟩, h.room⟩
/-- one of them -/
theorem Bys.get {w : World} {a : Option Addr} {n c : Nat} {l : List Nat} (h : Bys w (.slice a n c) l) (j : Nat) (hj : j < l.length) : ∃ bk o, a = some ⟨bk, o, none⟩ ∧ bk < w.heap.size ∧
    w.cell? ⟨bk, o + j, none⟩ = some (.int .u8 (l.getD j 0 : Nat)) := by
  rcases h.at_ with ⟨_, rfl⟩ | ⟨bk, o, cap, h1, h3, h4⟩
  · simp at hj
  · simp at h1
    obtain ⟨rfl, rfl, rfl⟩ := h1
    refine ⟨bk, o, rfl, h3, (h4 j hj).trans ?_⟩
    rw [List.getD_eq_getElem?_getD, List.getElem?_eq_getElem hj]
    rfl
/-- the first n of them -/
theorem Bys.take {w : World} {a : Option Addr} {k c : Nat} {l : List Nat} (h : Bys w (.slice a k c) l) (n : Nat) (hn : n ≤ l.length) : Bys w (.slice a n c) (l.take n) := by
  have hr : n ≤ c ∧ c ≤ 9223372036854775807 := by
    obtain ⟨a', n', c', e, h1, h2⟩ := h.room
    obtain ⟨a2, c2, e2⟩ := h.slice
    rw [Value.slice.injEq] at e e2
    obtain ⟨rfl, rfl, rfl⟩ := e
    have := e2.2.1
    omega
  refine ⟨?_, _, _, _, rfl, hr⟩
  rcases h.at_ with ⟨_, rfl⟩ | ⟨bk, o, cap, h1, h3, h4⟩
  · obtain rfl : n = 0 := by simpa using hn
    exact .inl ⟨⟨_, _, rfl⟩, rfl⟩
  · rw [Value.slice.injEq] at h1
    obtain ⟨rfl, rfl, rfl⟩ := h1
    refine .inr ⟨bk, o, c, by rw [List.length_take, Nat.min_eq_left hn], h3, fun j hj => ?_⟩
    rw [List.length_take] at hj
    rw [h4 j (by omega), List.getElem_take]
def Bv (n : Nat) : Value := .int .u8 n
theorem Bys.of_own {base : Nat} {w : World} {v : Value} {l : List Nat} (h : w.ownsRow base 5 1 v l.length (l.map Bv)) : Bys w v l := by
  rcases h.2 with ⟨rfl, h0⟩ | ⟨g, cap, cur, rfl, hg, hh, hr1, hr2, _⟩
  · exact ⟨.inl ⟨⟨_, _, rfl⟩, List.length_eq_zero_iff.1 h0⟩, _, _, _, rfl, Nat.le_refl _, by omega⟩
  · refine ⟨.inr ⟨g, 0, cap, rfl, (Array.getElem?_eq_some_iff.1 hh).1, fun j hj => ?_⟩, _, _, _, rfl, hr1, by unfold maxLen at hr2; omega⟩
    have e := h.cellAt j (by omega)
    rw [Nat.zero_add, e, List.getElem?_map, List.getElem?_eq_getElem hj]
    rfl

namespace Fd
/-- P24: the sum of the first k products -/
def dt (l m : List Nat) : Nat → Nat
  | 0 => 0
  | k + 1 => dt l m k ^^^ M (l.getD k 0) (m.getD k 0)
theorem bs_get {l : List Nat} (h : Bs l) (k : Nat) : l.getD k 0 < 256 := by
  rw [List.getD_eq_getElem?_getD]
  by_cases hk : k < l.length
  · rw [List.getElem?_eq_getElem hk]; exact h _ (List.getElem_mem hk)
  · rw [List.getElem?_eq_none (by omega)]; show (0 : Nat) < _; omega
theorem dt_lt {l m : List Nat} (h : Bs l) : ∀ k, dt l m k < 256
  | 0 => by show (0 : Nat) < _; omega
  | k + 1 => Nat.xor_lt_two_pow (n := 8) (dt_lt h k) (M_lt (bs_get h k) _)
theorem drop_get {l : List Nat} {k : Nat} (hk : k < l.length) : l.drop k = l.getD k 0 :: l.drop (k + 1) := by
  rw [List.drop_eq_getElem_cons hk, List.getD_eq_getElem?_getD, List.getElem?_eq_getElem hk]
  rfl
theorem bs_drop {l : List Nat} (h : Bs l) (k : Nat) : Bs (l.drop k) := fun c hc => h c (List.mem_of_mem_drop hc)
theorem hv_step {l : List Nat} (h : Bs l) {k x : Nat} (hk : k < l.length) (hx : x < 256) : hv (l.drop k) x = M (hv (l.drop (k + 1)) x) x ^^^ l.getD k 0 := by
  rw [drop_get hk, hv, M_comm hx (hv_lt (bs_drop h _) hx), Nat.xor_comm]
end Fd

set_option maxHeartbeats 1000000 in
theorem dot_bad (v u : Value) (l m : List Nat) (w : World) (h : Bys w v l) (k : Bys w u m) (hne : l.length ≠ m.length) :
    Calls Try.prog 11 #[v, u] w fun e w' => e = .returned (.tuple #[.int .u8 0, .int .i64 1]) ∧ w' = w := by
  obtain ⟨a, c, rfl⟩ := h.slice
  obtain ⟨a', c', rfl⟩ := k.slice
  have hq : ((l.length : Int) != (m.length : Int)) = true := by rw [bne_iff_ne]; omega
  clear hne
  go_enter Try.func11, Try.ntmps11
  go_wp2_with fail
  go_ret2
  exact ⟨rfl, rfl⟩

set_option maxHeartbeats 1000000 in
theorem dot_any (v u : Value) (l m : List Nat) (w : World) (h : Bys w v l) (k : Bys w u m) (hl : l.length ≤ 140737488351232) (he : m.length = l.length) (bl : Fd.Bs l) (bm : Fd.Bs m) :
    Calls Try.prog 11 #[v, u] w fun e w' => e = .returned (.tuple #[.int .u8 (Fd.dt l m l.length : Nat), .int .i64 0]) ∧ Below w.heap.size w w' := by
  obtain ⟨a, c, rfl⟩ := h.slice
  obtain ⟨a', c', rfl⟩ := k.slice
  rw [he] at k ⊢
  have HB : Hid (Fd.Bs l ∧ Fd.Bs m) := ⟨bl, bm⟩
  clear bl bm
  go_enter Try.func11, Try.ntmps11
  go_wp2_with fail
  go_loopw [6, 15] (fun s i wr => ∃ j : Nat, j ≤ l.length ∧ i = .int .i64 j ∧ s = .int .u8 (Fd.dt l m j : Nat) ∧ Hid (Below w.heap.size w wr)) (fun _ i _ => l.length - (intOf i).toNat)
  case atStart => exact ⟨0, by omega, rfl, rfl, Below.refl _ _⟩
  case round =>
    obtain ⟨i, hi, rfl, rfl, hbel⟩ := hrel
    by_cases hlt : i < l.length
    · obtain ⟨bk, o, rfl, hbk, c0⟩ := (h.below (Nat.le_refl _) hbel.out).get i hlt
      obtain ⟨bc, oc, rfl, hbc, c1⟩ := (k.below (Nat.le_refl _) hbel.out).get i (by omega)
      have hM : ∀ X : Since wr.heap.size wr, Calls Try.prog 13 #[.int .u8 (l.getD i 0 : Nat), .int .u8 (m.getD i 0 : Nat)] X.val fun e w'' => e = .returned (.int .u8 (Fd.M (l.getD i 0) (m.getD i 0) : Nat)) ∧ ∃ Y : Since wr.heap.size wr, w'' = Y.val := fun X =>
        quiet_since X ((mul_any _ _ X.val (Fd.bs_get HB.out.1 i) (Fd.bs_get HB.out.2 i)).mono fun _ w' ⟨he, hw⟩ => ⟨he, by rw [hw]; exact Below.refl _ _⟩)
      have hx := u8_xor_nat _ _ (Fd.dt_lt (m := m) HB.out.1 i) (Fd.M_lt (Fd.bs_get HB.out.1 i) (m.getD i 0))
      have HN : Hid (Fd.dt l m (i + 1) = Fd.dt l m i ^^^ Fd.M (l.getD i 0) (m.getD i 0)) := rfl
      have x1 : ∀ X : Since wr.heap.size wr, X.val.cell? ⟨bk, o + i, none⟩ = some (.int .u8 (l.getD i 0 : Nat)) := fun X => (X.property.cell (p := ⟨bk, o + i, none⟩) hbk).trans c0
      have x2 : ∀ X : Since wr.heap.size wr, X.val.cell? ⟨bc, oc + i, none⟩ = some (.int .u8 (m.getD i 0 : Nat)) := fun X => (X.property.cell (p := ⟨bc, oc + i, none⟩) hbc).trans c1
      generalize l.getD i 0 = n at *
      generalize m.getD i 0 = q at *
      generalize Fd.dt l m i = T at *
      generalize Fd.M n q = p at *
      have hne : Nonempty (Since wr.heap.size wr) := ⟨⟨wr, Below.refl _ _⟩⟩
      clear c0 c1 h k
      go_wp2_with fail
      refine wp_region_since (B := wr.heap.size) (W0 := wr) (by kernel_rfl) (by kernel_rfl) (Below.refl _ _) ?_
      repeat (go_big_quiet_step (fail))
      go_big_quiet_step (exact hM _)
      repeat (go_big_quiet_step (fail))
      refine wpQuiet_nil ?_
      rintro w7 ⟨U, rfl⟩
      have HB3 : Hid (Below w.heap.size w U.val) := hbel.out.trans (U.property.mono hbel.out.size)
      generalize U.val = w7 at *
      clear x1 x2 hne hbel hM
      go_wp2_with fail
      go_roundw
      case rel => exact ⟨i + 1, by omega, by go_num, by rw [HN.out, ← hx], HB3⟩
      case measure => simp only [intOf]; omega
    · obtain rfl : i = l.length := by omega
      go_wp2_with fail
      go_ret2
      exact ⟨rfl, hbel.out⟩

set_option maxHeartbeats 1000000 in
theorem at_any (v : Value) (l : List Nat) (x : Nat) (w : World) (h : Bys w v l) (hl : l.length ≤ 140737488351232) (bl : Fd.Bs l) (hx : x < 256) :
    Calls Try.prog 15 #[v, .int .u8 x] w fun e w' => e = .returned (.int .u8 (Fd.hv l x : Nat)) ∧ Below w.heap.size w w' := by
  obtain ⟨a, c, rfl⟩ := h.slice
  have HB : Hid (Fd.Bs l) := bl
  have HS : Hid (Fd.hv (l.drop l.length) x = 0) := by show _ = _; rw [List.drop_length]; rfl
  have HE : Hid (Fd.hv (l.drop 0) x = Fd.hv l x) := rfl
  clear bl
  go_enter Try.func15, Try.ntmps15
  go_wp2_with fail
  go_loopw [5, 6] (fun s i wr => ∃ j : Nat, j ≤ l.length ∧ i = .int .i64 ((j : Int) - 1) ∧ s = .int .u8 (Fd.hv (l.drop j) x : Nat) ∧ Hid (Below w.heap.size w wr)) (fun _ i _ => (intOf i + 1).toNat)
  case atStart => exact ⟨l.length, by omega, by go_num, by rw [HS.out]; rfl, Below.refl _ _⟩
  case round =>
    obtain ⟨j, hj, rfl, rfl, hbel⟩ := hrel
    by_cases h0 : j = 0
    · subst h0
      rw [HE.out]
      go_wp2_with fail
      go_ret
      exact ⟨rfl, hbel.out⟩
    · obtain ⟨i, rfl⟩ : ∃ i, j = i + 1 := ⟨j - 1, by omega⟩
      have hi : ((i + 1 : Nat) : Int) - 1 = (i : Int) := by omega
      rw [hi]
      obtain ⟨bk, o, rfl, hbk, c0⟩ := (h.below (Nat.le_refl _) hbel.out).get i (by omega)
      have hsl := Fd.hv_lt (Fd.bs_drop HB.out (i + 1)) hx
      have hM : ∀ X : Since wr.heap.size wr, Calls Try.prog 13 #[.int .u8 (Fd.hv (l.drop (i + 1)) x : Nat), .int .u8 x] X.val fun e w'' => e = .returned (.int .u8 (Fd.M (Fd.hv (l.drop (i + 1)) x) x : Nat)) ∧ ∃ Y : Since wr.heap.size wr, w'' = Y.val := fun X =>
        quiet_since X ((mul_any _ _ X.val hsl hx).mono fun _ w' ⟨he, hw⟩ => ⟨he, by rw [hw]; exact Below.refl _ _⟩)
      have hxx := u8_xor_nat _ _ (Fd.M_lt hsl x) (Fd.bs_get HB.out i)
      have HN : Hid (Fd.hv (l.drop i) x = Fd.M (Fd.hv (l.drop (i + 1)) x) x ^^^ l.getD i 0) := Fd.hv_step HB.out (by omega) hx
      have x1 : ∀ X : Since wr.heap.size wr, X.val.cell? ⟨bk, o + i, none⟩ = some (.int .u8 (l.getD i 0 : Nat)) := fun X => (X.property.cell (p := ⟨bk, o + i, none⟩) hbk).trans c0
      generalize l.getD i 0 = n at *
      generalize Fd.hv (l.drop (i + 1)) x = T at *
      generalize Fd.M T x = p at *
      have hne : Nonempty (Since wr.heap.size wr) := ⟨⟨wr, Below.refl _ _⟩⟩
      clear c0 h HS HE
      go_wp2_with fail
      refine wp_region_since (B := wr.heap.size) (W0 := wr) (by kernel_rfl) (by kernel_rfl) (Below.refl _ _) ?_
      repeat (go_big_quiet_step (fail))
      go_big_quiet_step (exact hM _)
      repeat (go_big_quiet_step (fail))
      refine wpQuiet_nil ?_
      rintro w7 ⟨U, rfl⟩
      have HB3 : Hid (Below w.heap.size w U.val) := hbel.out.trans (U.property.mono hbel.out.size)
      generalize U.val = w7 at *
      clear x1 hne hbel hM
      go_wp2_with fail
      go_roundw
      case rel => exact ⟨i, by omega, by go_num, by rw [HN.out, ← hxx], HB3⟩
      case measure => simp only [intOf]; omega

set_option maxHeartbeats 1000000 in
theorem rat_any (v : Value) (l : List Nat) (x : Nat) (w : World) (h : Bys w v l) (hl : l.length ≤ 140737488351232) (bl : Fd.Bs l) (hx : x < 256) :
    Calls Try.prog 16 #[v, .int .u8 x] w fun e w' => e = .returned (.int .u8 (Fd.hv l x : Nat)) ∧ w' = w := by
  obtain ⟨a, c, rfl⟩ := h.slice
  have HB : Hid (Fd.Bs l) := bl
  have HS : Hid (Fd.av l x 1 0 = Fd.hv l x) := Fd.av_one bl hx
  clear bl
  go_enter Try.func16, Try.ntmps16
  go_wp2_with fail
  go_loop [5, 6, 11] (fun s p i => ∃ j o u : Nat, j ≤ l.length ∧ i = .int .i64 j ∧ o < 256 ∧ u < 256 ∧ s = .int .u8 (o : Nat) ∧ p = .int .u8 (u : Nat) ∧ Hid (Fd.av (l.drop j) x u o = Fd.hv l x)) (fun _ _ i => l.length - (intOf i).toNat)
  case atStart => exact ⟨0, 0, 1, by omega, rfl, by omega, by omega, rfl, rfl, HS⟩
  case round =>
    obtain ⟨j, o, u, hj, rfl, ho, hu, rfl, rfl, HI⟩ := hrel
    by_cases hlt : j < l.length
    · obtain ⟨bk, ob, rfl, hbk, c0⟩ := h.get j hlt
      have hn := Fd.bs_get HB.out j
      have HN : Hid (Fd.av (l.drop (j + 1)) x (Fd.M u x) (o ^^^ Fd.M (l.getD j 0) u) = Fd.hv l x) := by
        have := HI.out
        rw [Fd.drop_get hlt, Fd.av] at this
        exact this
      generalize l.getD j 0 = n at *
      have m1 := fun W => rmul_any n u W hn hu
      have m2 := fun W => rmul_any u x W hu hx
      have hxx := u8_xor_nat _ _ ho (Fd.M_lt hn u)
      have hol : o ^^^ Fd.M n u < 256 := Nat.xor_lt_two_pow (n := 8) ho (Fd.M_lt hn u)
      have hul := Fd.M_lt hu x
      generalize Fd.M n u = p at *
      generalize Fd.M u x = q at *
      clear h HS HI
      go_wp2_with fail
      refine (m1 _).mono ?_
      rintro e w1 ⟨rfl, rfl⟩
      go_wp2_with fail
      refine (m2 _).mono ?_
      rintro e w1 ⟨rfl, rfl⟩
      go_wp2_with fail
      go_round
      case rel => exact ⟨j + 1, _, q, by omega, by go_num, hol, hul, by rw [← hxx], rfl, HN⟩
      case measure => simp only [intOf]; omega
    · obtain rfl : j = l.length := by omega
      have HE : Hid (Fd.hv l x = o) := by
        show _ = _
        rw [← HI.out, List.drop_length]
        rfl
      go_wp2_with fail
      go_ret
      exact ⟨ret_int (by rw [HE.out]), rfl⟩
end Go.Proofs.Ytcnepdmeanldaaa
