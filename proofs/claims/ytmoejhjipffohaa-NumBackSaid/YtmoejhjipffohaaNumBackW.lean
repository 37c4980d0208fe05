/-
  The walk of lumkeep.NumBack: it returns true.
-/
import Derived.Test.YtmoejhjipffohaaMathBack
import Derived.Test.YtmoejhjipffohaaPutInt
import Derived.Test.YtmoejhjipffohaaGetInt
import Derived.Test.YtmoejhjipffohaaGetFloat
import Derived.Test.YtmoejhjipffohaaGetText
namespace Go.Proofs.Ytmoejhjipffohaa
open Go.RowKit

theorem wf_u64 {n : Int} (h : (Lit.int .u64 n).wf = true) : 0 ≤ n ∧ n ≤ 18446744073709551615 := by
  simpa [Lit.wf, IntKind.min, IntKind.max, IntKind.signed, IntKind.bits] using h
theorem wf_i64 {n : Int} (h : (Lit.int .i64 n).wf = true) : -9223372036854775808 ≤ n ∧ n ≤ 9223372036854775807 := by
  simpa [Lit.wf, IntKind.min, IntKind.max, IntKind.signed, IntKind.bits] using h
theorem wf_f64 {n : Nat} (h : (Lit.float .f64 n).wf = true) : n < 18446744073709551616 := by
  simpa [Lit.wf] using h

theorem run_cat (l : List UInt8) (s : ByteArray) (h : l.length + s.size ≤ 9223372036854775807) (W : World) :
    (Op.stringOp .add ⟨l.toArray⟩ s).run Try.prog W = .ok (.string ⟨(l ++ s.data.toList).toArray⟩) W := by
  rw [run_string_add_sum W _ _ (by rw [Lib.size_eq]; simpa using h)]
  obtain ⟨⟨m⟩⟩ := s
  rw [ByteArray.mk_append_mk]
theorem list_data (l : List UInt8) : ({ data := l.toArray } : ByteArray).data.toList = l := rfl
theorem list_size (l : List UInt8) : ({ data := l.toArray } : ByteArray).size = l.length := by rw [Lib.size_eq]

set_option maxRecDepth 100000 in
set_option maxHeartbeats 4000000 in
theorem numBack_core (a0 : Int) (a1 : Int) (a2 C : Nat) (a3 : ByteArray) (a4 : ByteArray) (n0 : 0 ≤ a0) (n1 : a0 ≤ 18446744073709551615) (i0 : -9223372036854775808 ≤ a1) (i1 : a1 ≤ 9223372036854775807) (f1 : a2 < 18446744073709551616)
    (z3 : a3.size ≤ 140737488351232) (z4 : a4.size ≤ 140737488351232) (w : World) (HC : Hid (Nm.oneNaN a2 = C)) (q o1 o2 : Bool) (hq : ((C : Int) != (a2 : Int)) = q)
    (ho1 : (FloatKind.f64.format.order C C == some Ordering.eq) = o1) (ho2 : (FloatKind.f64.format.order a2 a2 == some Ordering.eq) = o2) (hok : (q && (o1 || o2)) = false) :
    Calls Try.prog 6 #[.int .u64 a0, .int .i64 a1, .float .f64 a2, .string a3, .string a4] w fun e w' => e = .returned (.bool true) ∧ Below w.heap.size w w' := by
  have c1 := run_cat (Nm.put a0.toNat) a4 (by have := Nm.put_length a0.toNat; omega)
  have c2 := run_cat (Nm.putI a1) a4 (by have := Nm.putI_length a1; omega)
  have c3 := run_cat (Nm.putF a2) a4 (by have := Nm.putF_length a2; omega)
  have G1 : Hid (Nm.getN (Nm.put a0.toNat ++ a4.data.toList) = (a0.toNat, (Nm.put a0.toNat).length, 0)) := Nm.get_put _ _ (by omega)
  have G2 : Hid (Nm.getI (Nm.putI a1 ++ a4.data.toList) = (a1, (Nm.putI a1).length, 0)) := Nm.getI_putI _ _ i0 i1
  have G3 : Hid (Nm.getF (Nm.putF a2 ++ a4.data.toList) = (C, 8, 0)) := by show _ = _; rw [Nm.getF_putF a2 _ f1, HC.out]
  go_enter Try.func6, Try.ntmps6
  go_wp2_with fail
  refine (put_any a0 _ n0 n1).mono ?_
  rintro e u1 ⟨rfl, b1⟩
  go_wp2_with fail
  refine (get_any _ _ (by rw [list_size, List.length_append, ← Lib.size_eq]; have := Nm.put_length a0.toNat; omega)).mono ?_
  rintro e u2 ⟨rfl, rfl⟩
  rw [list_data, G1.out]
  simp only [Int.toNat_of_nonneg n0]
  go_wp2_with fail
  refine (putI_any a1 _ i0 i1).mono ?_
  rintro e u3 ⟨rfl, b3⟩
  go_wp2_with fail
  refine (getI_any _ _ (by rw [list_size, List.length_append, ← Lib.size_eq]; have := Nm.putI_length a1; omega)).mono ?_
  rintro e u4 ⟨rfl, rfl⟩
  rw [list_data, G2.out]
  go_wp2_with fail
  refine (putF_any a2 _ f1).mono ?_
  rintro e u5 ⟨rfl, b5⟩
  go_wp2_with fail
  refine (getF_any _ _ (by rw [list_size, List.length_append, ← Lib.size_eq, Nm.putF_length]; omega)).mono ?_
  rintro e u6 ⟨rfl, rfl⟩
  rw [list_data, G3.out]
  clear c1 c2 c3 G1 G2 G3
  go_wp2_with fail
  refine (put_any a0 _ n0 n1).mono ?_
  rintro e u7 ⟨rfl, b7⟩
  go_wp2_with fail
  refine (putI_any a1 _ i0 i1).mono ?_
  rintro e u8 ⟨rfl, b8⟩
  have hB : Below w.heap.size w u8 := by
    have s1 := b1.size
    have s3 := b3.size
    have s5 := b5.size
    have s7 := b7.size
    exact (((b1.trans (b3.mono (by omega))).trans (b5.mono (by omega))).trans (b7.mono (by omega))).trans (b8.mono (by omega))
  have hBs := hB.size
  clear b1 b3 b5 b7 b8
  have r1 := run_bits C
  have r2 := run_bits a2
  by_cases hl : a3.size ≤ 1024
  · cases q
    · go_wp2_with fail
      refine (putT_any a3 _ (by omega)).mono ?_
      rintro e u9 ⟨rfl, b9⟩
      have c4 := run_cat (Nm.putT a3.data.toList) a4 (by have := Nm.putT_length a3.data.toList; rw [← Lib.size_eq] at this; omega)
      have G4 : Hid (Nm.getT (Nm.putT a3.data.toList ++ a4.data.toList) = (a3.data.toList, (Nm.putT a3.data.toList).length, 0)) := Nm.getT_putT _ _ (by rw [← Lib.size_eq]; omega)
      go_wp2_with fail
      refine (getT_any _ _ (by rw [list_size, List.length_append, ← Lib.size_eq]; have := Nm.putT_length a3.data.toList; rw [← Lib.size_eq] at this; omega)).mono ?_
      rintro e u10 ⟨rfl, b10⟩
      rw [list_data, G4.out]
      clear c4 G4
      go_wp2_with fail
      go_ret
      have s9 := b9.size
      exact ⟨rfl, (hB.trans (b9.mono hBs)).trans (b10.mono (by omega))⟩
    · obtain rfl : o1 = false := by cases o1 <;> simp_all
      obtain rfl : o2 = false := by cases o2 <;> simp_all
      clear hok
      go_wp2_with fail
      refine (putT_any a3 _ (by omega)).mono ?_
      rintro e u9 ⟨rfl, b9⟩
      have c4 := run_cat (Nm.putT a3.data.toList) a4 (by have := Nm.putT_length a3.data.toList; rw [← Lib.size_eq] at this; omega)
      have G4 : Hid (Nm.getT (Nm.putT a3.data.toList ++ a4.data.toList) = (a3.data.toList, (Nm.putT a3.data.toList).length, 0)) := Nm.getT_putT _ _ (by rw [← Lib.size_eq]; omega)
      go_wp2_with fail
      refine (getT_any _ _ (by rw [list_size, List.length_append, ← Lib.size_eq]; have := Nm.putT_length a3.data.toList; rw [← Lib.size_eq] at this; omega)).mono ?_
      rintro e u10 ⟨rfl, b10⟩
      rw [list_data, G4.out]
      clear c4 G4
      go_wp2_with fail
      go_ret
      have s9 := b9.size
      exact ⟨rfl, (hB.trans (b9.mono hBs)).trans (b10.mono (by omega))⟩
  · cases q
    · go_wp2_with fail
      refine (putT_large a3 _ (by omega) z3).mono ?_
      rintro e u9 ⟨rfl, rfl⟩
      go_wp2_with fail
      go_ret
      exact ⟨rfl, hB⟩
    · obtain rfl : o1 = false := by cases o1 <;> simp_all
      obtain rfl : o2 = false := by cases o2 <;> simp_all
      clear hok
      go_wp2_with fail
      refine (putT_large a3 _ (by omega) z3).mono ?_
      rintro e u9 ⟨rfl, rfl⟩
      go_wp2_with fail
      go_ret
      exact ⟨rfl, hB⟩

theorem eq_of_ne (b : Nat) : (FloatKind.f64.format.order b b == some Ordering.eq) = !Nm.nanB b := by
  rw [← order_self b, bne, Bool.not_not]

theorem numBack_walk (a0 : Int) (a1 : Int) (a2 : Nat) (a3 : ByteArray) (a4 : ByteArray) (w0 : (Lit.int .u64 a0).wf = true) (w1 : (Lit.int .i64 a1).wf = true) (w2 : (Lit.float .f64 a2).wf = true) (z3 : a3.size ≤ 140737488351232) (z4 : a4.size ≤ 140737488351232) (w : World) :
    Calls Try.prog 6 #[.int .u64 a0, .int .i64 a1, .float .f64 a2, .string a3, .string a4] w fun e w' => e = .returned (.bool true) ∧ Below w.heap.size w w' := by
  obtain ⟨n0, n1⟩ := wf_u64 w0
  obtain ⟨i0, i1⟩ := wf_i64 w1
  have f1 := wf_f64 w2
  refine numBack_core a0 a1 a2 (Nm.oneNaN a2) a3 a4 n0 n1 i0 i1 f1 z3 z4 w rfl _ _ _ rfl rfl rfl ?_
  rw [eq_of_ne, eq_of_ne]
  cases hn : Nm.nanB a2
  · rw [Nm.oneNaN, if_neg (by rw [hn]; decide)]
    simp
  · rw [Nm.oneNaN, if_pos hn]
    have : Nm.nanB 9221120237041090561 = true := by decide
    rw [this]
    simp
end Go.Proofs.Ytmoejhjipffohaa
