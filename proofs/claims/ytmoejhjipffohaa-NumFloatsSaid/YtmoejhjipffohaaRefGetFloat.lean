/-
  What GetFloat of the document's answer (package lumref) answers.
-/
import Derived.Test.YtmoejhjipffohaaRefFloat
import Derived.Test.YtmoejhjipffohaaGetFloat
namespace Go.Proofs.Ytmoejhjipffohaa
open Go.RowKit

theorem nan_test (D : Nat) : decide ((9218868437227405312 : Int) < (D : Int) % 9223372036854775808) = Nm.nanB D := by
  unfold Nm.nanB
  rw [Bool.eq_iff_iff, decide_eq_true_eq, decide_eq_true_eq]
  omega

set_option maxHeartbeats 1000000 in
theorem rgetF_lo (s : ByteArray) (w : World) (V D : Nat) (hs : s.size ≤ 9223372036854775807) (h0 : 8 ≤ s.size) (hV : V < 9223372036854775808)
    (HV : Hid (Nm.val (s.data.toList.take 8) = V)) (HD : Hid (Nm.val (Nm.tn 255 (s.data.toList.take 8)) = D)) (hD : D < 18446744073709551616) (n q : Bool)
    (hn : Nm.nanB D = n) (hq : ((D : Int) != 9221120237041090561) = q) :
    Calls Try.prog 17 #[.string s] w fun e w' =>
      e = .returned (if n && q then .tuple #[.int .u64 0, .int .i64 0, .int .i64 4] else .tuple #[.int .u64 D, .int .i64 8, .int .i64 0]) ∧ Below w.heap.size w w' := by
  have hd : decide ((9223372036854775808 : Int) ≤ (V : Int)) = false := decide_eq_false (by omega)
  have ht := nan_test D
  rw [hn] at ht
  have HM : Hid ((s.extract 0 8).data.toList = s.data.toList.take 8) := by show (s.extract 0 8).data.toList = _; rw [Lib.extract_data]; simp
  cases n
  · rw [show (if (false && q) = true then Value.tuple #[.int .u64 0, .int .i64 0, .int .i64 4] else .tuple #[.int .u64 D, .int .i64 8, .int .i64 0]) = .tuple #[.int .u64 D, .int .i64 8, .int .i64 0] from rfl]
    clear hq
    go_enter Try.func17, Try.ntmps17
    go_wp2_with fail
    refine (number_any 8 _ _ (by simp only [ByteArray.size_extract]; omega) (by omega)).mono ?_
    rintro e w1 ⟨rfl, m, rfl⟩
    rw [HM.out, HV.out]
    go_wp2_with fail
    refine (turned_any _ _ (by simp only [ByteArray.size_extract]; omega)).mono ?_
    rintro e w2 ⟨rfl, hb2⟩
    rw [HM.out]
    go_wp2_with fail
    refine (number_any 8 _ _ (by rw [Lib.size_eq]; simp only [Nm.tn_length]; have := List.length_take_le 8 s.data.toList; omega) (by omega)).mono ?_
    rintro e w3 ⟨rfl, m3, rfl⟩
    rw [show ({ data := (Nm.tn 255 (List.take 8 s.data.toList)).toArray } : ByteArray).data.toList = Nm.tn 255 (List.take 8 s.data.toList) from rfl, HD.out]
    go_wp2_with fail
    go_ret3
    exact ⟨rfl, below_drewN ((below_drewN (Below.refl _ _) m).trans hb2) m3⟩
  cases q
  · rw [show (if (true && false) = true then Value.tuple #[.int .u64 0, .int .i64 0, .int .i64 4] else .tuple #[.int .u64 D, .int .i64 8, .int .i64 0]) = .tuple #[.int .u64 D, .int .i64 8, .int .i64 0] from rfl]
    go_enter Try.func17, Try.ntmps17
    go_wp2_with fail
    refine (number_any 8 _ _ (by simp only [ByteArray.size_extract]; omega) (by omega)).mono ?_
    rintro e w1 ⟨rfl, m, rfl⟩
    rw [HM.out, HV.out]
    go_wp2_with fail
    refine (turned_any _ _ (by simp only [ByteArray.size_extract]; omega)).mono ?_
    rintro e w2 ⟨rfl, hb2⟩
    rw [HM.out]
    go_wp2_with fail
    refine (number_any 8 _ _ (by rw [Lib.size_eq]; simp only [Nm.tn_length]; have := List.length_take_le 8 s.data.toList; omega) (by omega)).mono ?_
    rintro e w3 ⟨rfl, m3, rfl⟩
    rw [show ({ data := (Nm.tn 255 (List.take 8 s.data.toList)).toArray } : ByteArray).data.toList = Nm.tn 255 (List.take 8 s.data.toList) from rfl, HD.out]
    go_wp2_with fail
    go_ret3
    exact ⟨rfl, below_drewN ((below_drewN (Below.refl _ _) m).trans hb2) m3⟩
  · rw [show (if (true && true) = true then Value.tuple #[.int .u64 0, .int .i64 0, .int .i64 4] else .tuple #[.int .u64 D, .int .i64 8, .int .i64 0]) = .tuple #[.int .u64 0, .int .i64 0, .int .i64 4] from rfl]
    go_enter Try.func17, Try.ntmps17
    go_wp2_with fail
    refine (number_any 8 _ _ (by simp only [ByteArray.size_extract]; omega) (by omega)).mono ?_
    rintro e w1 ⟨rfl, m, rfl⟩
    rw [HM.out, HV.out]
    go_wp2_with fail
    refine (turned_any _ _ (by simp only [ByteArray.size_extract]; omega)).mono ?_
    rintro e w2 ⟨rfl, hb2⟩
    rw [HM.out]
    go_wp2_with fail
    refine (number_any 8 _ _ (by rw [Lib.size_eq]; simp only [Nm.tn_length]; have := List.length_take_le 8 s.data.toList; omega) (by omega)).mono ?_
    rintro e w3 ⟨rfl, m3, rfl⟩
    rw [show ({ data := (Nm.tn 255 (List.take 8 s.data.toList)).toArray } : ByteArray).data.toList = Nm.tn 255 (List.take 8 s.data.toList) from rfl, HD.out]
    go_wp2_with fail
    go_ret3
    exact ⟨rfl, below_drewN ((below_drewN (Below.refl _ _) m).trans hb2) m3⟩

set_option maxHeartbeats 1000000 in
theorem rgetF_hi (s : ByteArray) (w : World) (V D : Nat) (hs : s.size ≤ 9223372036854775807) (h0 : 8 ≤ s.size) (hV : 9223372036854775808 ≤ V) (hV2 : V < 18446744073709551616)
    (HV : Hid (Nm.val (s.data.toList.take 8) = V)) (hVD : V - 9223372036854775808 = D) (_hD : D < 18446744073709551616) (n q : Bool)
    (hn : Nm.nanB D = n) (hq : ((D : Int) != 9221120237041090561) = q) :
    Calls Try.prog 17 #[.string s] w fun e w' =>
      e = .returned (if n && q then .tuple #[.int .u64 0, .int .i64 0, .int .i64 4] else .tuple #[.int .u64 D, .int .i64 8, .int .i64 0]) ∧ Below w.heap.size w w' := by
  have hd : decide ((9223372036854775808 : Int) ≤ (V : Int)) = true := decide_eq_true (by omega)
  have ht := nan_test D
  rw [hn] at ht
  have HM : Hid ((s.extract 0 8).data.toList = s.data.toList.take 8) := by show (s.extract 0 8).data.toList = _; rw [Lib.extract_data]; simp
  have hsub : IntKind.u64.wrap ((V : Int) - 9223372036854775808) = (D : Int) := by rw [wrap_u64 _ (by omega) (by omega)]; omega
  have hsub2 : (V : Int) - 9223372036854775808 = (D : Int) := by omega
  clear hVD
  cases n
  · rw [show (if (false && q) = true then Value.tuple #[.int .u64 0, .int .i64 0, .int .i64 4] else .tuple #[.int .u64 D, .int .i64 8, .int .i64 0]) = .tuple #[.int .u64 D, .int .i64 8, .int .i64 0] from rfl]
    clear hq
    go_enter Try.func17, Try.ntmps17
    go_wp2_with fail
    refine (number_any 8 _ _ (by simp only [ByteArray.size_extract]; omega) (by omega)).mono ?_
    rintro e w1 ⟨rfl, m, rfl⟩
    rw [HM.out, HV.out]
    go_wp2_with fail
    go_ret3
    exact ⟨rfl, below_drewN (Below.refl _ _) m⟩
  cases q
  · rw [show (if (true && false) = true then Value.tuple #[.int .u64 0, .int .i64 0, .int .i64 4] else .tuple #[.int .u64 D, .int .i64 8, .int .i64 0]) = .tuple #[.int .u64 D, .int .i64 8, .int .i64 0] from rfl]
    go_enter Try.func17, Try.ntmps17
    go_wp2_with fail
    refine (number_any 8 _ _ (by simp only [ByteArray.size_extract]; omega) (by omega)).mono ?_
    rintro e w1 ⟨rfl, m, rfl⟩
    rw [HM.out, HV.out]
    go_wp2_with fail
    go_ret3
    exact ⟨rfl, below_drewN (Below.refl _ _) m⟩
  · rw [show (if (true && true) = true then Value.tuple #[.int .u64 0, .int .i64 0, .int .i64 4] else .tuple #[.int .u64 D, .int .i64 8, .int .i64 0]) = .tuple #[.int .u64 0, .int .i64 0, .int .i64 4] from rfl]
    go_enter Try.func17, Try.ntmps17
    go_wp2_with fail
    refine (number_any 8 _ _ (by simp only [ByteArray.size_extract]; omega) (by omega)).mono ?_
    rintro e w1 ⟨rfl, m, rfl⟩
    rw [HM.out, HV.out]
    go_wp2_with fail
    go_ret3
    exact ⟨rfl, below_drewN (Below.refl _ _) m⟩

set_option maxHeartbeats 400000 in
theorem rgetF_none (s : ByteArray) (w : World) (h0 : s.size < 8) :
    Calls Try.prog 17 #[.string s] w fun e w' => e = .returned (.tuple #[.int .u64 0, .int .i64 0, .int .i64 3]) ∧ Below w.heap.size w w' := by
  go_enter Try.func17, Try.ntmps17
  go_wp2_with fail
  go_ret3
  exact ⟨rfl, Below.refl _ _⟩

theorem ne_int (D : Nat) : ((D : Int) != 9221120237041090561) = decide (D ≠ 9221120237041090561) := by
  rw [Bool.eq_iff_iff, bne_iff_ne, decide_eq_true_eq]
  omega

theorem rgetF_any (s : ByteArray) (w : World) (hs : s.size ≤ 9223372036854775807) :
    Calls Try.prog 17 #[.string s] w fun e w' =>
      e = .returned (.tuple #[.int .u64 (Nm.getF s.data.toList).1, .int .i64 (Nm.getF s.data.toList).2.1, .int .i64 (Nm.getF s.data.toList).2.2]) ∧ Below w.heap.size w w' := by
  by_cases h0 : s.size < 8
  · have hr : Nm.getF s.data.toList = (0, 0, 3) := by rw [Nm.getF, if_pos (by rw [← Lib.size_eq]; exact h0)]
    rw [hr]
    exact rgetF_none s w h0
  have hV := val8_lt s.data.toList
  have hun := unflip_lt _ hV
  have hg : (Value.tuple #[.int .u64 (Nm.getF s.data.toList).1, .int .i64 (Nm.getF s.data.toList).2.1, .int .i64 (Nm.getF s.data.toList).2.2]) =
      if (Nm.nanB (Nm.unflip (Nm.val (s.data.toList.take 8))) && decide (Nm.unflip (Nm.val (s.data.toList.take 8)) ≠ 9221120237041090561)) = true then .tuple #[.int .u64 0, .int .i64 0, .int .i64 4] else .tuple #[.int .u64 (Nm.unflip (Nm.val (s.data.toList.take 8))), .int .i64 8, .int .i64 0] := by
    rw [Nm.getF, if_neg (by rw [← Lib.size_eq]; exact h0)]
    generalize Nm.unflip (Nm.val (s.data.toList.take 8)) = D
    by_cases h : Nm.nanB D = true ∧ D ≠ 9221120237041090561
    · rw [if_pos h, if_pos (by rw [Bool.and_eq_true, decide_eq_true_eq]; exact h)]
      rfl
    · rw [if_neg h, if_neg (by rw [Bool.and_eq_true, decide_eq_true_eq]; exact h)]
      rfl
  rw [hg]
  by_cases hs8 : Nm.val (s.data.toList.take 8) < 9223372036854775808
  · have h1 := Nm.val_not (s.data.toList.take 8)
    have hl : (s.data.toList.take 8).length = 8 := by rw [List.length_take, ← Lib.size_eq]; omega
    rw [hl] at h1
    have hu : Nm.unflip (Nm.val (s.data.toList.take 8)) = Nm.val (Nm.tn 255 (s.data.toList.take 8)) := by rw [Nm.unflip, if_pos hs8]; omega
    rw [hu] at hun ⊢
    exact rgetF_lo s w _ _ hs (by omega) hs8 rfl rfl hun _ _ rfl (ne_int _)
  · have hu : Nm.unflip (Nm.val (s.data.toList.take 8)) = Nm.val (s.data.toList.take 8) - 9223372036854775808 := by rw [Nm.unflip, if_neg hs8]
    rw [hu] at hun ⊢
    exact rgetF_hi s w _ _ hs (by omega) (by omega) hV rfl rfl hun _ _ rfl (ne_int _)
end Go.Proofs.Ytmoejhjipffohaa
