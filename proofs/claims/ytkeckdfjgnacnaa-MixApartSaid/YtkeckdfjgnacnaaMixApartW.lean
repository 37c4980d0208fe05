/-
  The walk of lumkeep.MixApart: it returns true.
-/
import Derived.Test.YtkeckdfjgnacnaaMixApartOf
import Derived.Test.YtkeckdfjgnacnaaMixID
import Derived.Test.YtkeckdfjgnacnaaWf
namespace Go.Proofs.Ytkeckdfjgnacnaa
open Go.RowKit

theorem one_of (b : UInt8) : (⟨#[b]⟩ : ByteArray).data.toList = [b] := rfl
theorem ab_apart : Mx.narrow 64 [97] ≠ Mx.narrow 64 [98] := fun h => by
  have := Mx.apart [97] [98] 0 rfl (by decide) (fun k hk => by rw [Mx.byteAt_past (by simp only [List.length_cons, List.length_nil]; omega), Mx.byteAt_past (by simp only [List.length_cons, List.length_nil]; omega)]) h
  exact absurd this (by decide)

set_option maxHeartbeats 1000000 in
theorem mixApart_none (n1 n2 : Nat) (x1 x2 : List UInt8) (s : ByteArray) (at' : Int) (v : Nat) (w : World) (h0 : s.size = 0)
    (hn : n1 ≠ n2) (hxx : x1 ≠ x2) (l1 : x1.length = 8) (l2 : x2.length = 8)
    (e1 : ∀ V, Calls Try.prog 12 #[.string ⟨#[97]⟩] V fun e w' => e = .returned (.int .u64 n1) ∧ Below V.heap.size V w')
    (e2 : ∀ V, Calls Try.prog 12 #[.string ⟨#[98]⟩] V fun e w' => e = .returned (.int .u64 n2) ∧ Below V.heap.size V w')
    (e3 : ∀ V, Calls Try.prog 13 #[.string ⟨#[97]⟩] V fun e w' => e = .returned (.agg (x1.map B).toArray) ∧ Below V.heap.size V w')
    (e4 : ∀ V, Calls Try.prog 13 #[.string ⟨#[98]⟩] V fun e w' => e = .returned (.agg (x2.map B).toArray) ∧ Below V.heap.size V w') :
    Calls Try.prog 5 #[.string s, .int .i64 at', .int .u64 v] w fun e w' => e = .returned (.bool true) ∧ Below w.heap.size w w' := by
  have q1 : ((n1 : Int) == (n2 : Int)) = false := by rw [beq_eq_false_iff_ne]; omega
  have q2 : ∀ V, (Op.equalIn 10000 30 (.agg (x1.map B).toArray) (.agg (x2.map B).toArray)).run Try.prog V = .ok false V := fun V => by
    rw [id_eq V x1 x2 l1 l2, beq_eq_false_iff_ne.2 hxx]
  have q3 : s.toList.isEmpty = true := by
    rw [Lib.toList_data, List.isEmpty_iff_length_eq_zero, ← Lib.size_eq]; exact h0
  clear h0
  go_enter Try.func5, Try.ntmps5
  go_wp2_with fail
  refine (e1 _).mono ?_
  rintro e w1 ⟨rfl, hB1⟩
  go_wp2_with fail
  refine (e2 _).mono ?_
  rintro e w2 ⟨rfl, hb2⟩
  have hB2 := hB1.trans (hb2.mono hB1.size)
  clear hb2 hB1
  go_wp2_with fail
  refine (e3 _).mono ?_
  rintro e w3 ⟨rfl, hb3⟩
  have hB3 := hB2.trans (hb3.mono hB2.size)
  clear hb3 hB2
  go_wp2_with fail
  refine (e4 _).mono ?_
  rintro e w4 ⟨rfl, hb4⟩
  have hB4 := hB3.trans (hb4.mono hB3.size)
  clear hb4 hB3
  clear e1 e2 e3 e4
  go_wp2_with fail
  go_ret
  exact ⟨rfl, hB4⟩

theorem mixApart_walk (a0 : ByteArray) (a1 : Int) (a2 : Int) (z0 : a0.size ≤ 140737488351232) (_w1 : (Lit.int .i64 a1).wf = true) (w2 : (Lit.int .u64 a2).wf = true) (w : World) :
    Calls Try.prog 5 #[.string a0, .int .i64 a1, .int .u64 a2] w fun e w' => e = .returned (.bool true) ∧ Below w.heap.size w w' := by
  obtain ⟨v, rfl, _⟩ := wf_nat w2
  have s1 := fun V => sum_any ⟨#[97]⟩ V (show (1 : Nat) ≤ 140737488351232 by omega)
  have s2 := fun V => sum_any ⟨#[98]⟩ V (show (1 : Nat) ≤ 140737488351232 by omega)
  have i1 := fun V => id_any ⟨#[97]⟩ V (show (1 : Nat) ≤ 140737488351232 by omega)
  have i2 := fun V => id_any ⟨#[98]⟩ V (show (1 : Nat) ≤ 140737488351232 by omega)
  rw [one_of] at s1 s2 i1 i2
  have hne : Nm.low 8 (Mx.narrow 64 [97]) ≠ Nm.low 8 (Mx.narrow 64 [98]) := fun h => ab_apart (low8_inj (Mx.narrow_lt _ _) (Mx.narrow_lt _ _) h)
  have l1 := Nm.low_length 8 (Mx.narrow 64 [97])
  have l2 := Nm.low_length 8 (Mx.narrow 64 [98])
  by_cases h0 : a0.size = 0
  · exact mixApart_none _ _ _ _ a0 a1 v w h0 ab_apart hne l1 l2 s1 s2 i1 i2
  · have hlen : a0.data.toList.length < 18446744073709551616 := by rw [← Lib.size_eq]; omega
    have hap : ∀ r m, m ≤ 8 → Mx.narrow 64 (Mx.mixed a0.data.toList (8 * r) m v) = Mx.narrow 64 a0.data.toList → Mx.mixed a0.data.toList (8 * r) m v = a0.data.toList := fun r m hm h =>
      Mx.apart _ _ r (Mx.mixed_length _ _ _ _) (by rw [Mx.mixed_length]; exact hlen) (fun k hk => Mx.mixed_old _ r m v k hm hk) h
    exact mixApart_of _ _ (Mx.narrow 64 a0.data.toList) (fun t => Mx.narrow 64 t.data.toList) (fun t => Nm.low 8 (Mx.narrow 64 t.data.toList)) _ _ (Nm.low 8 (Mx.narrow 64 a0.data.toList)) a0 a1 v w z0 (by omega) ab_apart hne l1 l2 (Nm.low_length _ _) (fun _ => Nm.low_length _ _) rfl rfl
      hap (fun r m hm h => hap r m hm (low8_inj (Mx.narrow_lt _ _) (Mx.narrow_lt _ _) h)) (fun t ht V => sum_any t V (by omega)) (fun t ht V => id_any t V (by omega)) s1 s2 i1 i2 (fun V => sum_any a0 V z0) (fun V => id_any a0 V z0)
end Go.Proofs.Ytkeckdfjgnacnaa
