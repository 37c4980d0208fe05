/-
  What digitsOf and DateText of package lumref answer.
-/
import Derived.Test.YtlglkfnihjfnoaaDoorCvRef
import Derived.Test.YtlglkfnihjfnoaaDoorCvSome
import Derived.Deep.RegionWith
import Derived.Deep.QuietTactic
import Derived.BigQuiet
namespace Go.Proofs.YtlglkfnihjfnoaaDoor
open Go.RowKit
set_option maxRecDepth 4000

/-- 'string([]byte{b})' -/
theorem run_str1 (W : World) (a : Addr) (b : Int) (h : W.cell? a = some (.int .u8 b)) (h0 : 0 ≤ b) (h1 : b ≤ 255) (ha : a.spot = none) :
    (convert 49 9 (.slice (some a) 1 1)).run Tryd.prog W = .ok (.string ⟨#[UInt8.ofNat b.toNat]⟩) W := by
  refine run_convert_bytes_back W 49 9 5 a 1 [UInt8.ofNat b.toNat] (by kernel_rfl) (by kernel_rfl) (by kernel_rfl) ?_
  intro j hj
  have hj0 : j = 0 := by simpa using hj
  subst hj0
  obtain ⟨x, y, z⟩ := a
  simp only at ha
  subst ha
  simp [Addr.add, h]
  omega

theorem str_new (b : Int) (h0 : 0 ≤ b) (h1 : b ≤ 255) (W : World) :
    (convert 49 9 (.slice (some ⟨W.heap.size, 0, none⟩) 1 1)).run Tryd.prog (W.alloc (.cells #[.int .u8 b] 5)) = .ok (.string ⟨#[UInt8.ofNat b.toNat]⟩) (W.alloc (.cells #[.int .u8 b] 5)) :=
  run_str1 _ _ b (by simp) h0 h1 rfl

theorem str_new_drew (b : Int) (h0 : 0 ≤ b) (h1 : b ≤ 255) (W : World) :
    (convert 49 9 (.slice (some ⟨W.heap.size, 0, none⟩) 1 1)).run Tryd.prog (W.alloc (.cells #[.int .u8 b] 5)).drew = .ok (.string ⟨#[UInt8.ofNat b.toNat]⟩) (W.alloc (.cells #[.int .u8 b] 5)).drew :=
  run_str1 _ _ b (by simp) h0 h1 rfl

theorem str_kept (w : World) (b : Int) (h0 : 0 ≤ b) (h1 : b ≤ 255) {w' : World} (hb : Below (w.alloc (.cells #[.int .u8 b] 5)).drew.heap.size (w.alloc (.cells #[.int .u8 b] 5)).drew w') :
    (convert 49 9 (.slice (some ⟨w.heap.size, 0, none⟩) 1 1)).run Tryd.prog w' = .ok (.string ⟨#[UInt8.ofNat b.toNat]⟩) w' :=
  run_str1 _ _ b (by rw [hb.cell (by simp)]; simp) h0 h1 rfl

set_option maxHeartbeats 400000 in
theorem digitsOf_any (k : Nat) : ∀ (n : Nat) (w : World), n < 1000000 → k ≤ 8 →
    Calls Tryd.prog 30 #[.int .i64 n, .int .i64 k] w fun e w' => e = .returned (.string ⟨(Cv.dig k n).toArray⟩) ∧ Below w.heap.size w w' := by
  induction k with
  | zero =>
    intro n w hn _
    go_enter Tryd.func30, Tryd.ntmps30
    go_wp2_with fail
    go_ret
    exact ⟨rfl, Below.refl _ _⟩
  | succ k ih =>
    intro n w hn hk
    have hd : Hid (Cv.dig (k + 1) n = Cv.dig k (n / 10) ++ [UInt8.ofNat (48 + n % 10)]) := by
      show _ = _
      rfl
    have hl : (Cv.dig k (n / 10)).length = k := Cv.dig_length _ _
    obtain ⟨d, hdd⟩ : ∃ d : Nat, d = n % 10 := ⟨_, rfl⟩
    obtain ⟨q, hqq⟩ : ∃ q : Nat, q = n / 10 := ⟨_, rfl⟩
    have hw1 : IntKind.i64.wrap ((n : Int) / 10) = (q : Int) := by rw [IntKind.wrap_i64]; omega
    have hw2 : (n : Int).tmod 10 = (d : Int) := by rw [Int.tmod_eq_emod_of_nonneg (by omega)]; omega
    have hw3 : IntKind.u8.wrap (d : Int) = (d : Int) := by simp only [IntKind.wrap, IntKind.bits, IntKind.signed]; simp; omega
    have hw4 : IntKind.u8.wrap (48 + (d : Int)) = 48 + (d : Int) := by simp only [IntKind.wrap, IntKind.bits, IntKind.signed]; simp; omega
    have hw5 : IntKind.i64.wrap (k : Int) = (k : Int) := by rw [IntKind.wrap_i64]; omega
    rw [← hqq, ← hdd] at hd
    rw [← hqq] at hl
    have hd10 : d < 10 := by omega
    have hih := fun W => ih q W (by omega) (by omega)
    have hr1 := str_new (48 + (d : Int)) (by omega) (by omega)
    have hr2 := str_new_drew (48 + (d : Int)) (by omega) (by omega)
    have hbn : UInt8.ofNat (48 + (d : Int)).toNat = UInt8.ofNat (48 + d) := by congr 1
    rw [hbn] at hr1 hr2
    clear ih hdd hqq
    have hsk := fun (V : World) (b : Int) (a0 : 0 ≤ b) (a1 : b ≤ 255) (V' : World) => str_kept V b a0 a1 (w' := V')
    obtain ⟨c, hc⟩ : ∃ c, c = UInt8.ofNat (48 + d) := ⟨_, rfl⟩
    rw [← hc] at hd hr1 hr2 hbn
    have hbn' : Hid (UInt8.ofNat (48 + (d : Int)).toNat = c) := hbn
    clear hc hbn hsk
    have hcat : ∀ W : World, (Op.stringOp .add ⟨(Cv.dig k q).toArray⟩ ⟨#[c]⟩).run Tryd.prog W = .ok (.string ⟨(Cv.dig k q ++ [c]).toArray⟩) W := fun W =>
      run_string_add_lists W _ [c] (by omega) (by simp)
    have hkq : (((k + 1 : Nat) : Int) == 0) = false := by rw [beq_eq_false_iff_ne]; omega
    go_enter Tryd.func30, Tryd.ntmps30
    go_wp2_with fail
    go_region_with (go_at_call 30; (try rw [hw1]); (try rw [hw5]); refine (hih _).mono ?_; rintro e w' ⟨rfl, hb⟩; try (have hr3 := str_kept w (48 + (d : Int)) (by omega) (by omega) hb; rw [hbn'.out] at hr3))
    all_goals
      clear hr1 hr2 hcat
      go_wp2_with fail
      go_ret
      refine ⟨by rw [hd.out]; rfl, ?_⟩
      first
        | (have h := hb.size; exact ((Below.refl _ _).drew.trans hb).alloc (by simpa using h) _)
        | exact (((Below.refl _ _).alloc (Nat.le_refl _) _).drew).trans (hb.mono (by simp))

theorem rtext_any (n : Int) (w : World) : Calls Tryd.prog 20 #[.int .i64 n] w fun e w' => e = .returned (textV n) ∧ Below w.heap.size w w' := by
  have hda := fun W => rDate_any n W
  by_cases h : Cv.dayOk n
  · obtain ⟨y, m, d, hd, X, Y, Z, hX, hY, hZ, x1, x2, x3, hy, hm, hd', hV⟩ := textV_ok h
    rw [dateV_is h hd] at hda
    have c1 := fun W => digitsOf_any 4 y W (by omega) (by omega)
    have c2 := fun W => digitsOf_any 2 m W (by omega) (by omega)
    have c3 := fun W => digitsOf_any 2 d W (by omega) (by omega)
    rw [← hX] at c1
    rw [← hY] at c2
    rw [← hZ] at c3
    have HV : Hid (textV n = .tuple #[.string (X ++ ⟨#[45]⟩ ++ Y ++ ⟨#[45]⟩ ++ Z), .int .i64 0]) := hV
    clear hV hX hY hZ h hd
    go_enter Tryd.func20, Tryd.ntmps20
    go_wp2_with fail
    refine (hda _).mono ?_
    rintro e w1 ⟨rfl, rfl⟩
    go_wp2_with fail
    refine (c1 _).mono ?_
    rintro e w2 ⟨rfl, hb1⟩
    go_wp2_with fail
    refine (c2 _).mono ?_
    rintro e w3 ⟨rfl, hb2⟩
    go_wp2_with fail
    refine (c3 _).mono ?_
    rintro e w4 ⟨rfl, hb3⟩
    have hB := (hb1.trans (hb2.mono hb1.size)).trans (hb3.mono (by have := hb1.size; have := hb2.size; omega))
    clear hb1 hb2 hb3
    go_wp2_with fail
    go_ret2
    exact ⟨by rw [HV.out]; rfl, hB⟩
  · rw [dateV_no h] at hda
    have hV : textV n = .tuple #[.string ⟨#[]⟩, .int .i64 1] := if_neg h
    rw [hV]
    clear h hV
    go_enter Tryd.func20, Tryd.ntmps20
    go_wp2_with fail
    refine (hda _).mono ?_
    rintro e w1 ⟨rfl, rfl⟩
    go_wp2_with fail
    go_ret2
    exact ⟨rfl, Below.refl _ _⟩

end Go.Proofs.YtlglkfnihjfnoaaDoor
