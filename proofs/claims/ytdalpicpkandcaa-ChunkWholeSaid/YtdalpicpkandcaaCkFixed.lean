/-
  What Fixed of package chunk, and of package lumref, answers.
-/
import Derived.Test.YtdalpicpkandcaaCkRef
namespace Go.Proofs.Ytdalpicpkandcaa
open Go.RowKit

def fixN (n len : Int) : Int := if n < 1 ∨ 1024 < n then 1 else if len ≤ 4096 then 0 else 2
def fixL (n : Int) (s : ByteArray) : List Ck.Bs := if fixN n s.size = 0 then Ck.fixed n.toNat s.data.toList else []

theorem fix_at (n : Nat) (s : ByteArray) (k : Nat) : (s.extract (k * n) (min (k * n + n) s.size)).data.toList = (s.data.toList.drop (k * n)).take n := by
  rw [ext_eq]
  show List.take _ _ = _
  by_cases h : k * n + n ≤ s.size
  · rw [Nat.min_eq_left h, show k * n + n - k * n = n from by omega]
  · rw [Nat.min_eq_right (by omega), List.take_of_length_le (by rw [List.length_drop, ← Lib.size_eq]; exact Nat.le_refl _), List.take_of_length_le (by rw [List.length_drop, ← Lib.size_eq]; omega)]

set_option maxHeartbeats 1000000 in
theorem rfixed_of (n m : Nat) (F : Nat → List Ck.Bs) (s : ByteArray) (w : World) (h1 : 1 ≤ n) (h2 : n ≤ 1024) (hs : s.size ≤ 4096)
    (hm : ∀ k, k < m ↔ k * n < s.size) (hF0 : F 0 = []) (hFl : ∀ k, (F k).length = k) (hFs : ∀ k, F (k + 1) = F k ++ [(s.extract (k * n) (min (k * n + n) s.size)).data.toList]) :
    Calls Try.prog 10 #[.int .i64 n, .string s] w fun e w' => ∃ v, e = .returned (.tuple #[v, .int .i64 0]) ∧ w'.ownsRow w.heap.size 9 1 v (F m).length ((F m).map Sv) ∧ Below w.heap.size w w' := by
  obtain ⟨i0, hi, hz0, hz1, hz2⟩ := info_parts info_str
  go_enter Try.func10, Try.ntmps10
  go_wp2_with fail
  go_loopw [6, 7] (fun v i wr => ∃ k A : Nat, k ≤ m ∧ Hid (A = k * n) ∧ i = .int .i64 A ∧ wr.ownsRow w.heap.size 9 1 v (F k).length ((F k).map Sv) ∧ Below w.heap.size w wr) (fun _ i _ => s.size - (intOf i).toNat)
  case atStart => exact ⟨0, 0, Nat.zero_le _, by show 0 = _; omega, rfl, by rw [hF0]; exact World.ownsRow_nil _ _ _ _, Below.refl _ _⟩
  case round =>
    obtain ⟨k, A, hk, HA, rfl, hown, hbel⟩ := hrel
    have hbs := hbel.size
    by_cases hlt : k < m
    · have hA : A < s.size := by rw [HA.out]; exact (hm k).1 hlt
      have hAk : k ≤ A := by rw [HA.out]; exact Nat.le_mul_of_pos_right k (by omega)
      obtain ⟨D, hD⟩ : ∃ D, D = min (A + n) s.size := ⟨_, rfl⟩
      have hmin : min ((A : Int) + (n : Int)) (s.size : Int) = (D : Int) := by omega
      have hD1 : A ≤ D := by omega
      have hD2 : D ≤ s.size := by omega
      have HF : Hid (F (k + 1) = F k ++ [(s.extract A D).data.toList]) := by show _ = _; rw [hD, HA.out]; exact hFs k
      have HA1 : Hid (A + n = (k + 1) * n) := by show _ = _; rw [Nat.succ_mul, ← HA.out]
      have hFk : (F k).length ≤ k := Nat.le_of_eq (hFl k)
      generalize F k = L at *
      clear hm hFs hFl hD
      generalize hpe : s.extract A D = piece at *
      go_wp2_with (at_builtin; refine wpList_append_own _ rfl _ _ 24 rfl w.heap.size 9 i0 (.string ⟨#[]⟩) 1 16 Try.underlying24 hi hz0 hz1 hz2 rfl (by decide) _ _ _ rfl (hown.alloc _) ⟨wr.heap.size, 0, none⟩ 1 1 [.string piece] rfl rfl ?c1 ?c2 ?c3 ?c4 ?c5 ?_)
      case c1 =>
        intro j u hj
        match j, hj with
        | 0, hj => simp at hj; subst hj; simp [Addr.add]
      case c2 => intro u hu; simp at hu; subst hu; rfl
      case c3 => unfold maxLen; omega
      case c4 => omega
      case c5 => simp; omega
      intro v' w1 hown1 hgrow _
      have R := own_str hown hown1 hgrow hbel (Nat.le_refl _)
      have HR1 : Hid (w1.ownsRow w.heap.size 9 1 v' (F (k + 1)).length ((F (k + 1)).map Sv)) := by rw [HF.out]; exact R.1
      have HR2 : Hid (Below w.heap.size w w1) := R.2
      clear R hown1 hgrow hown hbel
      go_wp2_with fail
      go_roundw
      case rel => exact ⟨k + 1, A + n, by omega, HA1, by go_num, HR1.out, HR2.out⟩
      case measure => simp only [intOf]; omega
    · obtain rfl : k = m := by omega
      have hA : s.size ≤ A := by
        rw [HA.out]
        have := (hm k).2
        omega
      go_wp2_with fail
      go_ret2
      exact ⟨_, rfl, hown, hbel⟩

set_option maxHeartbeats 1000000 in
theorem fixed_of (n m : Nat) (F : Nat → List Ck.Bs) (s : ByteArray) (w : World) (h1 : 1 ≤ n) (h2 : n ≤ 1024) (hs : s.size ≤ 4096)
    (hm : ∀ k, k < m ↔ k * n < s.size) (hF0 : F 0 = []) (hFl : ∀ k, (F k).length = k) (hFs : ∀ k, F (k + 1) = F k ++ [(s.extract (k * n) (min (k * n + n) s.size)).data.toList]) :
    Calls Try.prog 9 #[.int .i64 n, .string s] w fun e w' => ∃ v, e = .returned (.tuple #[v, .int .i64 0]) ∧ w'.ownsRow w.heap.size 9 1 v (F m).length ((F m).map Sv) ∧ Below w.heap.size w w' := by
  obtain ⟨i0, hi, hz0, hz1, hz2⟩ := info_parts info_str
  go_enter Try.func9, Try.ntmps9
  go_wp2_with fail
  go_loopw [6, 7] (fun v i wr => ∃ k A : Nat, k ≤ m ∧ Hid (A = k * n) ∧ i = .int .i64 A ∧ wr.ownsRow w.heap.size 9 1 v (F k).length ((F k).map Sv) ∧ Below w.heap.size w wr) (fun _ i _ => s.size - (intOf i).toNat)
  case atStart => exact ⟨0, 0, Nat.zero_le _, by show 0 = _; omega, rfl, by rw [hF0]; exact World.ownsRow_nil _ _ _ _, Below.refl _ _⟩
  case round =>
    obtain ⟨k, A, hk, HA, rfl, hown, hbel⟩ := hrel
    have hbs := hbel.size
    by_cases hlt : k < m
    · have hA : A < s.size := by rw [HA.out]; exact (hm k).1 hlt
      have hAk : k ≤ A := by rw [HA.out]; exact Nat.le_mul_of_pos_right k (by omega)
      obtain ⟨D, hD⟩ : ∃ D, D = min (A + n) s.size := ⟨_, rfl⟩
      have hmin : min ((A : Int) + (n : Int)) (s.size : Int) = (D : Int) := by omega
      have hD1 : A ≤ D := by omega
      have hD2 : D ≤ s.size := by omega
      have HF : Hid (F (k + 1) = F k ++ [(s.extract A D).data.toList]) := by show _ = _; rw [hD, HA.out]; exact hFs k
      have HA1 : Hid (A + n = (k + 1) * n) := by show _ = _; rw [Nat.succ_mul, ← HA.out]
      have hFk : (F k).length ≤ k := Nat.le_of_eq (hFl k)
      generalize F k = L at *
      clear hm hFs hFl hD
      generalize hpe : s.extract A D = piece at *
      have hcl := fun V => clone_any piece V (by rw [← hpe, ByteArray.size_extract]; omega)
      go_wp2_with fail
      refine (hcl _).mono ?_
      rintro e w3 ⟨rfl, hb3⟩
      have hown3 := own_below hown hb3
      have hB3 := hbel.trans (hb3.mono hbel.size)
      have hs3 := hB3.size
      clear hb3 hown hbel hcl
      go_wp2_with (at_builtin; refine wpList_append_own _ rfl _ _ 24 rfl w.heap.size 9 i0 (.string ⟨#[]⟩) 1 16 Try.underlying24 hi hz0 hz1 hz2 rfl (by decide) _ _ _ rfl (hown3.alloc _) ⟨w3.heap.size, 0, none⟩ 1 1 [.string piece] rfl rfl ?c1 ?c2 ?c3 ?c4 ?c5 ?_)
      case c1 =>
        intro j u hj
        match j, hj with
        | 0, hj => simp at hj; subst hj; simp [Addr.add]
      case c2 => intro u hu; simp at hu; subst hu; rfl
      case c3 => unfold maxLen; omega
      case c4 => omega
      case c5 => simp; omega
      intro v' w1 hown1 hgrow _
      have R := own_str hown3 hown1 hgrow hB3 (Nat.le_refl _)
      have HR1 : Hid (w1.ownsRow w.heap.size 9 1 v' (F (k + 1)).length ((F (k + 1)).map Sv)) := by rw [HF.out]; exact R.1
      have HR2 : Hid (Below w.heap.size w w1) := R.2
      clear R hown1 hgrow hown3 hB3
      go_wp2_with fail
      go_roundw
      case rel => exact ⟨k + 1, A + n, by omega, HA1, by go_num, HR1.out, HR2.out⟩
      case measure => simp only [intOf]; omega
    · obtain rfl : k = m := by omega
      have hA : s.size ≤ A := by
        rw [HA.out]
        have := (hm k).2
        omega
      go_wp2_with fail
      go_ret2
      exact ⟨_, rfl, hown, hbel⟩

theorem fix_sum (n : Nat) (s : ByteArray) (h1 : 1 ≤ n) : (∀ k, k < Ck.many n s.size ↔ k * n < s.size) ∧ Ck.fx n s.data.toList 0 = [] ∧ (∀ k, (Ck.fx n s.data.toList k).length = k) ∧
    (∀ k, Ck.fx n s.data.toList (k + 1) = Ck.fx n s.data.toList k ++ [(s.extract (k * n) (min (k * n + n) s.size)).data.toList]) ∧ Ck.fx n s.data.toList (Ck.many n s.size) = Ck.fixed n s.data.toList :=
  ⟨fun k => Ck.many_lt (by omega), rfl, fun k => Ck.fx_length _ _ _, fun k => by rw [fix_at, Ck.fx_succ], by rw [Ck.fixed, ← Lib.size_eq]⟩
theorem fixN_one {n len : Int} (h : n < 1 ∨ 1024 < n) : fixN n len = 1 := if_pos h
theorem fixN_two {n len : Int} (h : ¬ (n < 1 ∨ 1024 < n)) (h2 : 4096 < len) : fixN n len = 2 := by rw [fixN, if_neg h, if_neg (by omega)]
theorem fixN_zero {n len : Int} (h : ¬ (n < 1 ∨ 1024 < n)) (h2 : len ≤ 4096) : fixN n len = 0 := by rw [fixN, if_neg h, if_pos h2]

set_option maxHeartbeats 1000000 in
theorem rfixed_one (n : Int) (s : ByteArray) (w : World) (h : n < 1 ∨ 1024 < n) :
    Calls Try.prog 10 #[.int .i64 n, .string s] w fun e w' => e = .returned (.tuple #[.slice none 0 0, .int .i64 1]) ∧ w' = w := by
  rcases h with h | h
  · go_enter Try.func10, Try.ntmps10
    go_wp2_with fail
    go_ret2
    exact ⟨rfl, rfl⟩
  · go_enter Try.func10, Try.ntmps10
    go_wp2_with fail
    go_ret2
    exact ⟨rfl, rfl⟩
set_option maxHeartbeats 1000000 in
theorem rfixed_two (n : Int) (s : ByteArray) (w : World) (h1 : 1 ≤ n) (h2 : n ≤ 1024) (h3 : 4096 < s.size) :
    Calls Try.prog 10 #[.int .i64 n, .string s] w fun e w' => e = .returned (.tuple #[.slice none 0 0, .int .i64 2]) ∧ w' = w := by
  go_enter Try.func10, Try.ntmps10
  go_wp2_with fail
  go_ret2
  exact ⟨rfl, rfl⟩
theorem rfixed_any (n : Int) (s : ByteArray) (w : World) :
    Calls Try.prog 10 #[.int .i64 n, .string s] w fun e w' => ∃ v, e = .returned (.tuple #[v, .int .i64 (fixN n s.size)]) ∧ w'.ownsRow w.heap.size 9 1 v (fixL n s).length ((fixL n s).map Sv) ∧ Below w.heap.size w w' := by
  by_cases h : n < 1 ∨ 1024 < n
  · refine (rfixed_one n s w h).mono ?_
    rintro e w' ⟨rfl, rfl⟩
    rw [fixL, fixN_one h, if_neg (by omega)]
    exact ⟨_, rfl, World.ownsRow_nil _ _ _ _, Below.refl _ _⟩
  · by_cases hs : s.size ≤ 4096
    · obtain ⟨m, rfl⟩ := Int.eq_ofNat_of_zero_le (show 0 ≤ n by omega)
      obtain ⟨a, b, c, d, e⟩ := fix_sum m s (by omega)
      have := rfixed_of m _ _ s w (by omega) (by omega) hs a b c d
      rw [e] at this
      rw [fixL, fixN_zero h (by omega), if_pos rfl]
      exact this
    · refine (rfixed_two n s w (by omega) (by omega) (by omega)).mono ?_
      rintro e w' ⟨rfl, rfl⟩
      rw [fixL, fixN_two h (by omega), if_neg (by omega)]
      exact ⟨_, rfl, World.ownsRow_nil _ _ _ _, Below.refl _ _⟩

set_option maxHeartbeats 1000000 in
theorem fixed_one (n : Int) (s : ByteArray) (w : World) (h : n < 1 ∨ 1024 < n) :
    Calls Try.prog 9 #[.int .i64 n, .string s] w fun e w' => e = .returned (.tuple #[.slice none 0 0, .int .i64 1]) ∧ w' = w := by
  rcases h with h | h
  · go_enter Try.func9, Try.ntmps9
    go_wp2_with fail
    go_ret2
    exact ⟨rfl, rfl⟩
  · go_enter Try.func9, Try.ntmps9
    go_wp2_with fail
    go_ret2
    exact ⟨rfl, rfl⟩
set_option maxHeartbeats 1000000 in
theorem fixed_two (n : Int) (s : ByteArray) (w : World) (h1 : 1 ≤ n) (h2 : n ≤ 1024) (h3 : 4096 < s.size) :
    Calls Try.prog 9 #[.int .i64 n, .string s] w fun e w' => e = .returned (.tuple #[.slice none 0 0, .int .i64 2]) ∧ w' = w := by
  go_enter Try.func9, Try.ntmps9
  go_wp2_with fail
  go_ret2
  exact ⟨rfl, rfl⟩
theorem fixed_any (n : Int) (s : ByteArray) (w : World) :
    Calls Try.prog 9 #[.int .i64 n, .string s] w fun e w' => ∃ v, e = .returned (.tuple #[v, .int .i64 (fixN n s.size)]) ∧ w'.ownsRow w.heap.size 9 1 v (fixL n s).length ((fixL n s).map Sv) ∧ Below w.heap.size w w' := by
  by_cases h : n < 1 ∨ 1024 < n
  · refine (fixed_one n s w h).mono ?_
    rintro e w' ⟨rfl, rfl⟩
    rw [fixL, fixN_one h, if_neg (by omega)]
    exact ⟨_, rfl, World.ownsRow_nil _ _ _ _, Below.refl _ _⟩
  · by_cases hs : s.size ≤ 4096
    · obtain ⟨m, rfl⟩ := Int.eq_ofNat_of_zero_le (show 0 ≤ n by omega)
      obtain ⟨a, b, c, d, e⟩ := fix_sum m s (by omega)
      have := fixed_of m _ _ s w (by omega) (by omega) hs a b c d
      rw [e] at this
      rw [fixL, fixN_zero h (by omega), if_pos rfl]
      exact this
    · refine (fixed_two n s w (by omega) (by omega) (by omega)).mono ?_
      rintro e w' ⟨rfl, rfl⟩
      rw [fixL, fixN_two h (by omega), if_neg (by omega)]
      exact ⟨_, rfl, World.ownsRow_nil _ _ _ _, Below.refl _ _⟩
end Go.Proofs.Ytdalpicpkandcaa
