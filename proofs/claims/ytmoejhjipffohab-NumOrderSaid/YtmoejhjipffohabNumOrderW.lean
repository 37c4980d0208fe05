/-
  The walk of lumkeep.NumOrder: it returns true.
-/
import Derived.Test.YtmoejhjipffohabMathLess
import Derived.Test.YtmoejhjipffohabPutInt
import Derived.Test.YtmoejhjipffohabPutText
namespace Go.Proofs.Ytmoejhjipffohab
open Go.RowKit

theorem wf_u64 {n : Int} (h : (Lit.int .u64 n).wf = true) : 0 ≤ n ∧ n ≤ 18446744073709551615 := by
  simpa [Lit.wf, IntKind.min, IntKind.max, IntKind.signed, IntKind.bits] using h
theorem wf_i64 {n : Int} (h : (Lit.int .i64 n).wf = true) : -9223372036854775808 ≤ n ∧ n ≤ 9223372036854775807 := by
  simpa [Lit.wf, IntKind.min, IntKind.max, IntKind.signed, IntKind.bits] using h

set_option maxRecDepth 100000 in
set_option maxHeartbeats 2000000 in
theorem numOrder_walk (a0 : Int) (a1 : Int) (a2 : Int) (a3 : Int) (a4 : ByteArray) (a5 : ByteArray) (w0 : (Lit.int .u64 a0).wf = true) (w1 : (Lit.int .u64 a1).wf = true) (w2 : (Lit.int .i64 a2).wf = true) (w3 : (Lit.int .i64 a3).wf = true) (z4 : a4.size ≤ 140737488351232) (z5 : a5.size ≤ 140737488351232) (w : World) :
    Calls Try.prog 3 #[.int .u64 a0, .int .u64 a1, .int .i64 a2, .int .i64 a3, .string a4, .string a5] w fun e w' => e = .returned (.bool true) ∧ Below w.heap.size w w' := by
  obtain ⟨n0, n1⟩ := wf_u64 w0
  obtain ⟨m0, m1⟩ := wf_u64 w1
  obtain ⟨i0, i1⟩ := wf_i64 w2
  obtain ⟨j0, j1⟩ := wf_i64 w3
  clear w0 w1 w2 w3
  have p1 : Op.bytesLess (Nm.put a0.toNat) (Nm.put a1.toNat) = decide (a0 < a1) := by
    rw [Nm.put_less _ _ (by omega) (by omega), Bool.eq_iff_iff, decide_eq_true_eq, decide_eq_true_eq]; omega
  have p2 := Nm.putI_less a2 a3 i0 i1 j0 j1
  have p3 := Nm.putI_less (-1) 0 (by omega) (by omega) (by omega) (by omega)
  rw [decide_eq_true (by omega)] at p3
  go_enter Try.func3, Try.ntmps3
  go_wp2_with fail
  refine (put_any a0 _ n0 n1).mono ?_
  rintro e u1 ⟨rfl, b1⟩
  go_wp2_with fail
  refine (put_any a1 _ m0 m1).mono ?_
  rintro e u2 ⟨rfl, b2⟩
  go_wp2_with fail
  refine (putI_any a2 _ i0 i1).mono ?_
  rintro e u3 ⟨rfl, b3⟩
  go_wp2_with fail
  refine (putI_any a3 _ j0 j1).mono ?_
  rintro e u4 ⟨rfl, b4⟩
  go_wp2_with fail
  refine (putI_any (-1) _ (by omega) (by omega)).mono ?_
  rintro e u5 ⟨rfl, b5⟩
  go_wp2_with fail
  refine (putI_any 0 _ (by omega) (by omega)).mono ?_
  rintro e u6 ⟨rfl, b6⟩
  have hB : Below w.heap.size w u6 := by
    have s1 := b1.size
    have s2 := b2.size
    have s3 := b3.size
    have s4 := b4.size
    have s5 := b5.size
    exact ((((b1.trans (b2.mono (by omega))).trans (b3.mono (by omega))).trans (b4.mono (by omega))).trans (b5.mono (by omega))).trans (b6.mono (by omega))
  have hBs := hB.size
  clear b1 b2 b3 b4 b5 b6
  go_wp2_with fail
  clear p1 p2 p3
  by_cases h4 : a4.size ≤ 1024
  · refine (putT_any a4 _ h4).mono ?_
    rintro e u7 ⟨rfl, b7⟩
    have s7 := b7.size
    go_wp2_with fail
    by_cases h5 : a5.size ≤ 1024
    · have pT : Op.bytesLess (Nm.putT a4.data.toList) (Nm.putT a5.data.toList) = Op.bytesLess a4.toList a5.toList := by rw [Nm.putT_less, Lib.toList_data, Lib.toList_data]
      refine (putT_any a5 _ h5).mono ?_
      rintro e u8 ⟨rfl, b8⟩
      go_wp2_with fail
      go_ret
      exact ⟨rfl, (hB.trans (b7.mono hBs)).trans (b8.mono (by omega))⟩
    · refine (putT_large a5 _ (by omega) z5).mono ?_
      rintro e u8 ⟨rfl, rfl⟩
      go_wp2_with fail
      go_ret
      exact ⟨rfl, hB.trans (b7.mono hBs)⟩
  · refine (putT_large a4 _ (by omega) z4).mono ?_
    rintro e u7 ⟨rfl, rfl⟩
    go_wp2_with fail
    by_cases h5 : a5.size ≤ 1024
    · refine (putT_any a5 _ h5).mono ?_
      rintro e u8 ⟨rfl, b8⟩
      go_wp2_with fail
      go_ret
      exact ⟨rfl, hB.trans (b8.mono hBs)⟩
    · refine (putT_large a5 _ (by omega) z5).mono ?_
      rintro e u8 ⟨rfl, rfl⟩
      go_wp2_with fail
      go_ret
      exact ⟨rfl, hB⟩
end Go.Proofs.Ytmoejhjipffohab
