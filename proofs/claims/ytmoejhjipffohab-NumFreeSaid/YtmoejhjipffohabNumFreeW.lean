/-
  The walk of lumkeep.NumFree: it returns true.
-/
import Derived.Test.YtmoejhjipffohabMathFree
import Derived.Test.YtmoejhjipffohabPutInt
import Derived.Test.YtmoejhjipffohabPutText
import Derived.Test.YtmoejhjipffohabFloat
import Derived.Deep.Cut
namespace Go.Proofs.Ytmoejhjipffohab
open Go.RowKit

theorem wf_u64 {n : Int} (h : (Lit.int .u64 n).wf = true) : 0 ≤ n ∧ n ≤ 18446744073709551615 := by
  simpa [Lit.wf, IntKind.min, IntKind.max, IntKind.signed, IntKind.bits] using h
theorem wf_i64 {n : Int} (h : (Lit.int .i64 n).wf = true) : -9223372036854775808 ≤ n ∧ n ≤ 9223372036854775807 := by
  simpa [Lit.wf, IntKind.min, IntKind.max, IntKind.signed, IntKind.bits] using h
theorem wf_f64 {n : Nat} (h : (Lit.float .f64 n).wf = true) : n < 18446744073709551616 := by
  simpa [Lit.wf] using h
theorem list_data (l : List UInt8) : ({ data := l.toArray } : ByteArray).data.toList = l := rfl
/-- what PutText hands back, large or not -/
def putTE (s : ByteArray) : List UInt8 × Int := if s.size ≤ 1024 then (Nm.putT s.data.toList, 0) else ([], 2)
theorem putTE_any (s : ByteArray) (w : World) (hs : s.size ≤ 140737488351232) :
    Calls Try.prog 8 #[.string s] w fun e w' => e = .returned (.tuple #[.string ⟨(putTE s).1.toArray⟩, .int .i64 (putTE s).2]) ∧ Below w.heap.size w w' := by
  unfold putTE
  by_cases h : s.size ≤ 1024
  · rw [if_pos h]; exact putT_any s w h
  · rw [if_neg h]
    refine (putT_large s w (by omega) hs).mono ?_
    rintro e w' ⟨rfl, rfl⟩
    exact ⟨rfl, Below.refl _ _⟩
theorem text_eq (s t : ByteArray) : (s.toList == t.toList) = decide (s.data.toList = t.data.toList) := by
  rw [Lib.toList_data, Lib.toList_data, Bool.eq_iff_iff, beq_iff_eq, decide_eq_true_eq]

set_option maxRecDepth 100000 in
set_option maxHeartbeats 4000000 in
theorem numFree_walk (a0 : Int) (a1 : Int) (a2 : Int) (a3 : Int) (a4 : Nat) (a5 : Nat) (a6 : ByteArray) (a7 : ByteArray) (w0 : (Lit.int .u64 a0).wf = true) (w1 : (Lit.int .u64 a1).wf = true) (w2 : (Lit.int .i64 a2).wf = true) (w3 : (Lit.int .i64 a3).wf = true) (w4 : (Lit.float .f64 a4).wf = true) (w5 : (Lit.float .f64 a5).wf = true) (z6 : a6.size ≤ 140737488351232) (z7 : a7.size ≤ 140737488351232) (w : World) :
    Calls Try.prog 5 #[.int .u64 a0, .int .u64 a1, .int .i64 a2, .int .i64 a3, .float .f64 a4, .float .f64 a5, .string a6, .string a7] w fun e w' => e = .returned (.bool true) ∧ Below w.heap.size w w' := by
  obtain ⟨n0, n1⟩ := wf_u64 w0
  obtain ⟨m0, m1⟩ := wf_u64 w1
  obtain ⟨i0, i1⟩ := wf_i64 w2
  obtain ⟨j0, j1⟩ := wf_i64 w3
  have f4 := wf_f64 w4
  have f5 := wf_f64 w5
  clear w0 w1 w2 w3 w4 w5
  obtain ⟨⟨U, E⟩, hU⟩ : ∃ g, putTE a6 = g := ⟨_, rfl⟩
  obtain ⟨⟨V, F⟩, hV⟩ : ∃ g, putTE a7 = g := ⟨_, rfl⟩
  have HU : Hid (putTE a6 = (U, E)) := hU
  have HV : Hid (putTE a7 = (V, F)) := hV
  clear hU hV
  go_enter Try.func5, Try.ntmps5
  go_wp2_with fail
  refine (putTE_any a6 _ z6).mono ?_
  rintro e u1 ⟨rfl, b1⟩
  rw [HU.out]
  go_wp2_with fail
  refine (putTE_any a7 _ z7).mono ?_
  rintro e u2 ⟨rfl, b2⟩
  rw [HV.out]
  have hB := b1.trans (b2.mono b1.size)
  clear b1 b2
  go_upto_region 3 with fail
  go_cut [21] from 23 (fun t w' => t = .bool true ∧ w' = u2)
  case first =>
    by_cases h6 : a6.size ≤ 1024
    · have hU := HU.out
      rw [putTE, if_pos h6] at hU
      obtain ⟨rfl, rfl⟩ := Prod.mk.inj hU
      by_cases h7 : a7.size ≤ 1024
      · have hV := HV.out
        rw [putTE, if_pos h7] at hV
        obtain ⟨rfl, rfl⟩ := Prod.mk.inj hV
        have pT := Nm.putT_free a6.data.toList a7.data.toList (by rw [← Lib.size_eq]; exact h6) (by rw [← Lib.size_eq]; exact h7)
        rw [← text_eq] at pT
        have PT : Hid (Lib.hasPrefix (Nm.putT a6.data.toList) (Nm.putT a7.data.toList) = (a6.toList == a7.toList)) := pT
        clear hU hV pT
        go_wp2_with fail
        refine (Try.strings_HasPrefix _ _ _).mono ?_
        rintro e u3 ⟨rfl, rfl⟩
        rw [list_data, list_data, PT.out]
        go_wp2_with fail
        go_meet
        exact ⟨rfl, rfl⟩
      · have hV := HV.out
        rw [putTE, if_neg h7] at hV
        obtain ⟨rfl, rfl⟩ := Prod.mk.inj hV
        clear hU hV
        go_wp2_with fail
        go_meet
        exact ⟨rfl, rfl⟩
    · have hU := HU.out
      rw [putTE, if_neg h6] at hU
      obtain ⟨rfl, rfl⟩ := Prod.mk.inj hU
      clear hU
      go_wp2_with fail
      go_meet
      exact ⟨rfl, rfl⟩
  case rest =>
    obtain ⟨rfl, rfl⟩ := hcut
    go_upto_region 4 with fail
    go_cut [22] from 23 (fun t w' => t = .bool true ∧ Below w.heap.size w w')
    case first =>
      have o4 := order_self a4
      have o5 := order_self a5
      cases n4 : Nm.nanB a4
      · cases n5 : Nm.nanB a5
        · have pF := Nm.putF_free a4 a5 f4 f5 n4 n5
          have PF : Hid (Lib.hasPrefix (Nm.putF a4) (Nm.putF a5) = ((a4 : Int) == (a5 : Int))) := by
            show _ = _
            rw [pF, Bool.eq_iff_iff, decide_eq_true_eq, beq_iff_eq]; omega
          have r4 := run_bits a4
          have r5 := run_bits a5
          rw [n4] at o4
          rw [n5] at o5
          clear pF n4 n5
          go_wp2_with fail
          refine (putF_any a4 _ f4).mono ?_
          rintro e u3 ⟨rfl, b3⟩
          go_wp2_with fail
          refine (putF_any a5 _ f5).mono ?_
          rintro e u4 ⟨rfl, b4⟩
          go_wp2_with fail
          refine (Try.strings_HasPrefix _ _ _).mono ?_
          rintro e u5 ⟨rfl, rfl⟩
          rw [list_data, list_data, PF.out]
          have hB2 := hB.trans (b3.mono hB.size)
          have hB3 := hB2.trans (b4.mono hB2.size)
          clear b3 b4
          go_wp2_with fail
          go_meet
          exact ⟨rfl, hB3⟩
        · rw [n4] at o4
          rw [n5] at o5
          clear n4 n5
          go_wp2_with fail
          go_meet
          exact ⟨rfl, hB⟩
      · rw [n4] at o4
        clear n4 o5
        go_wp2_with fail
        go_meet
        exact ⟨rfl, hB⟩
    case rest =>
      obtain ⟨rfl, hB⟩ := hcut
      have p1 : Hid (Lib.hasPrefix (Nm.put a0.toNat) (Nm.put a1.toNat) = (a0 == a1)) := by
        show _ = _
        rw [Nm.put_free _ _ (by omega) (by omega), Bool.eq_iff_iff, decide_eq_true_eq, beq_iff_eq]; omega
      have p2 : Hid (Lib.hasPrefix (Nm.putI a2) (Nm.putI a3) = (a2 == a3)) := by
        show _ = _
        rw [Nm.putI_free _ _ i0 i1 j0 j1, Bool.eq_iff_iff, decide_eq_true_eq, beq_iff_eq]
      go_wp2_with fail
      refine (put_any 0 _ (by omega) (by omega)).mono ?_
      rintro e u3 ⟨rfl, b3⟩
      rw [show Nm.put (0 : Int).toNat = [0] from rfl]
      go_wp2_with fail
      refine (put_any a0 _ n0 n1).mono ?_
      rintro e u4 ⟨rfl, b4⟩
      go_wp2_with fail
      refine (put_any a1 _ m0 m1).mono ?_
      rintro e u5 ⟨rfl, b5⟩
      go_wp2_with fail
      refine (Try.strings_HasPrefix _ _ _).mono ?_
      rintro e u5 ⟨rfl, rfl⟩
      rw [list_data, list_data, p1.out]
      have hB3 := hB.trans (b3.mono hB.size)
      have hB4 := hB3.trans (b4.mono hB3.size)
      have hB5 := hB4.trans (b5.mono hB4.size)
      clear b3 b4 b5 hB3 hB4
      go_wp2_with fail
      refine (putI_any a2 _ i0 i1).mono ?_
      rintro e u6 ⟨rfl, b6⟩
      go_wp2_with fail
      refine (putI_any a3 _ j0 j1).mono ?_
      rintro e u7 ⟨rfl, b7⟩
      go_wp2_with fail
      refine (Try.strings_HasPrefix _ _ _).mono ?_
      rintro e u7 ⟨rfl, rfl⟩
      rw [list_data, list_data, p2.out]
      have hB6 := hB5.trans (b6.mono hB5.size)
      have hB7 := hB6.trans (b7.mono hB6.size)
      clear b6 b7 hB6 hB5
      go_wp2_with fail
      go_ret
      exact ⟨rfl, hB7⟩
end Go.Proofs.Ytmoejhjipffohab
