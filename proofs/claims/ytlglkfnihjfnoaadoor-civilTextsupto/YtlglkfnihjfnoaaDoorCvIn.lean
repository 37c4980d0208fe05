/-
  What inDigits and Text of package civil answer.
-/
import Derived.Test.YtlglkfnihjfnoaaDoorCvSome
import Derived.Test.YtlglkfnihjfnoaaDoorShelfItoa
import Derived.Test.YtlglkfnihjfnoaaDoorShelfRep
import Derived.Lib.SmallJoins
import Derived.Lib.AppendIntMem
namespace Go.Proofs.YtlglkfnihjfnoaaDoor
open Go.RowKit
set_option maxRecDepth 4000

/-- the powers of ten, as strconv's own table has them -/
def Pow (w : World) : Prop := Lib.TabIs Tryd.prog w "internal/strconv.uint64pow10" .u64 Lib.pow10Tab
theorem Pow.stays {w w' : World} {B : Nat} (h : Pow w) (hb : Below B w w') (hB : w.heap.size ≤ B) : Pow w' := Joins.tab_stays (g := 2) (by kernel_rfl) h hb hB
theorem Lens.stays {w w' : World} {B : Nat} (h : Lens w) (hb : Below B w w') (hB : w.heap.size ≤ B) : Lens w' := Joins.tab_stays (g := 0) (by kernel_rfl) h hb hB

theorem rep_zeros (c : Nat) : Lib.repeatL [48] c = List.replicate c 48 := by
  induction c with
  | zero => rfl
  | succ c ih => rw [Lib.repeatL, ih, List.replicate_succ]; rfl

theorem inDigits_any (k n : Nat) (w : World) (hk : 1 ≤ k) (hk8 : k ≤ 8) (hn : n < 10 ^ k) (hP : Pow w) :
    Calls Tryd.prog 29 #[.int .i64 n, .int .i64 k] w fun e w' => e = .returned (.string ⟨(Cv.dig k n).toArray⟩) ∧ Below w.heap.size w w' := by
  obtain ⟨h1, h2⟩ := Cv.dig_dec k n hn hk
  have hn64 : n < 100000000 := Nat.lt_of_lt_of_le hn (Nat.pow_le_pow_right (by omega) hk8)
  have hi := Tryd.strconv_Itoa n (by omega) (by omega) w hP
  rw [Lib.itoa_nonneg] at hi
  have hr := fun V => Tryd.strings_Repeat ⟨#[48]⟩ (k - Lib.nDigits n) V (by omega) (by simp [ByteArray.size]; omega)
  have hl := Lib.decDigits_length n
  have hz : (Lib.repeatL (ByteArray.mk #[48]).data.toList (k - Lib.nDigits n)) = List.replicate (k - Lib.nDigits n) 48 := rep_zeros _
  simp only [hz] at hr
  have HD : Hid (Cv.dig k n = List.replicate (k - Lib.nDigits n) 48 ++ Lib.decDigits n) := h2
  obtain ⟨X, hX⟩ : ∃ X : ByteArray, X = ⟨(Lib.decDigits n).toArray⟩ := ⟨_, rfl⟩
  obtain ⟨Y, hY⟩ : ∃ Y : ByteArray, Y = ⟨(List.replicate (k - Lib.nDigits n) (48 : UInt8)).toArray⟩ := ⟨_, rfl⟩
  have hXs : X.size = Lib.nDigits n := by rw [hX]; exact hl
  have hYs : Y.size = k - Lib.nDigits n := by rw [hY]; simp [ByteArray.size]
  have HV : Hid ((⟨(Cv.dig k n).toArray⟩ : ByteArray) = Y ++ X) := by
    show _ = _
    rw [HD.out, hX, hY]
    apply ByteArray.ext
    simp
  rw [← hX] at hi
  rw [← hY] at hr
  have hc : ((k : Int) - (Lib.nDigits n : Nat)) = ((k - Lib.nDigits n : Nat) : Int) := by omega
  clear HD hX hY hz h2 hl hn
  generalize Lib.nDigits n = m at *
  obtain ⟨q, hq⟩ : ∃ q, q = k - m := ⟨_, rfl⟩
  have hkq : k = q + m := by omega
  subst hkq
  rw [← hq] at hr hYs hc
  clear hq
  go_enter Tryd.func29, Tryd.ntmps29
  go_wp2_with fail
  refine hi.mono ?_
  rintro e w1 ⟨rfl, j, os, rfl⟩
  have hb1 : Below w.heap.size w (Sort.grow (w.drewN j) os) := Lib.below_grow _ _ (Nat.le_refl _) _ _
  generalize Sort.grow (w.drewN j) os = w1 at *
  go_wp2_with fail
  refine (hr _).mono ?_
  rintro e w2 ⟨rfl, hb2⟩
  have hB := hb1.trans (hb2.mono hb1.size)
  clear hb1 hb2
  go_wp2_with fail
  go_ret
  exact ⟨by rw [HV.out]; rfl, hB⟩

theorem text_any (n : Int) (w : World) (hL : Lens w) (hP : Pow w) : Calls Tryd.prog 19 #[.int .i64 n] w fun e w' => e = .returned (textV n) ∧ Below w.heap.size w w' := by
  have hda := date_any n w hL
  by_cases h : Cv.dayOk n
  · obtain ⟨y, m, d, hd, X, Y, Z, hX, hY, hZ, x1, x2, x3, hy, hm, hd', hV⟩ := textV_ok h
    rw [dateV_is h hd] at hda
    have c1 := inDigits_any 4 y w (by omega) (by omega) (by omega) hP
    have c2 := fun W (hb : Below w.heap.size w W) => inDigits_any 2 m W (by omega) (by omega) (by omega) (hP.stays hb (Nat.le_refl _))
    have c3 := fun W (hb : Below w.heap.size w W) => inDigits_any 2 d W (by omega) (by omega) (by omega) (hP.stays hb (Nat.le_refl _))
    rw [← hX] at c1
    rw [← hY] at c2
    rw [← hZ] at c3
    have HV : Hid (textV n = .tuple #[.string (X ++ ⟨#[45]⟩ ++ Y ++ ⟨#[45]⟩ ++ Z), .int .i64 0]) := hV
    clear hV hX hY hZ h hd
    go_enter Tryd.func19, Tryd.ntmps19
    go_wp2_with fail
    refine hda.mono ?_
    rintro e w1 ⟨rfl, rfl⟩
    go_wp2_with fail
    refine c1.mono ?_
    rintro e w2 ⟨rfl, hb1⟩
    go_wp2_with fail
    refine (c2 _ hb1).mono ?_
    rintro e w3 ⟨rfl, hb2⟩
    have hB2 := hb1.trans (hb2.mono hb1.size)
    go_wp2_with fail
    refine (c3 _ hB2).mono ?_
    rintro e w4 ⟨rfl, hb3⟩
    have hB := hB2.trans (hb3.mono hB2.size)
    clear hb1 hb2 hb3 hB2
    go_wp2_with fail
    go_ret2
    exact ⟨by rw [HV.out]; rfl, hB⟩
  · rw [dateV_no h] at hda
    have hV : textV n = .tuple #[.string ⟨#[]⟩, .int .i64 1] := if_neg h
    rw [hV]
    have hB := Below.refl w.heap.size w
    clear h hV
    go_enter Tryd.func19, Tryd.ntmps19
    go_wp2_with fail
    refine hda.mono ?_
    rintro e w1 ⟨rfl, rfl⟩
    go_wp2_with fail
    go_ret2
    exact ⟨rfl, hB⟩

end Go.Proofs.YtlglkfnihjfnoaaDoor
