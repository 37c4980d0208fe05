/-
  The walk of lumlaw.LzSays: it returns true.
-/
import Derived.Test.YtkkbdgpmgkipbaaLzRRead
import Derived.Test.YtkkbdgpmgkipbaaLzRExp
import Derived.Test.YtkkbdgpmgkipbaaLzPackedW
namespace Go.Proofs.Ytkkbdgpmgkipbaa
open Go.RowKit

set_option maxHeartbeats 2000000 in
theorem lzSays_of (v : Value) (l N : List Lz.Tr) (most : Int) (s X T : ByteArray) (k kx g : Nat) (w : World) (ht : Toks w v l) (hN : N.length ≤ 4096)
    (e1 : ∀ V, Toks V v l → Calls Try.prog 8 #[v] V fun e w' => e = .returned (.int .i64 k) ∧ Below V.heap.size V w')
    (e2 : ∀ V, Toks V v l → Calls Try.prog 9 #[v, .int .i64 most] V fun e w' => e = .returned (.tuple #[.string X, .int .i64 kx]) ∧ Below V.heap.size V w')
    (e3 : ∀ V, Toks V v l → Calls Try.prog 10 #[v, .int .i64 most] V fun e w' => e = .returned (.tuple #[.string X, .int .i64 kx]) ∧ Below V.heap.size V w')
    (e4 : ∀ V, Toks V v l → Calls Try.prog 11 #[v] V fun e w' => e = .returned (.tuple #[.string T, .int .i64 k]) ∧ Below V.heap.size V w')
    (e5 : ∀ V, Toks V v l → k = 0 → Calls Try.prog 12 #[v] V fun e w' => e = .returned (.string T) ∧ Below V.heap.size V w')
    (e6 : ∀ V, Calls Try.prog 13 #[.string s] V fun e w' => ∃ v, e = .returned (.tuple #[v, .int .i64 g]) ∧ w'.ownsRow V.heap.size 33 3 v N.length (rowC N) ∧ Below V.heap.size V w')
    (e7 : ∀ V, Calls Try.prog 14 #[.string s] V fun e w' => ∃ v, e = .returned (.tuple #[v, .int .i64 g]) ∧ w'.ownsRow V.heap.size 33 3 v N.length (rowC N) ∧ Below V.heap.size V w')
    (e8 : ∀ V, Toks V v l → Calls Try.prog 15 #[v] V fun e w' => e = .returned (.int .i64 k) ∧ Below V.heap.size V w')
    (hT : k ≠ 0 → T = ⟨#[]⟩) :
    Calls Try.prog 3 #[v, .int .i64 most, .string s] w fun e w' => e = .returned (.bool true) ∧ Below w.heap.size w w' := by
  have HT : Hid (k ≠ 0 → T = ⟨#[]⟩) := hT
  have HK : Hid (∀ V, Toks V v l → k = 0 → Calls Try.prog 12 #[v] V fun e w' => e = .returned (.string T) ∧ Below V.heap.size V w') := e5
  clear hT e5
  go_enter Try.func3, Try.ntmps3
  go_wp2_with fail
  refine (e1 _ ht).mono ?_
  rintro e w1 ⟨rfl, hb1⟩
  have t1 := ht.below (Nat.le_refl _) hb1
  clear e1 ht
  go_wp2_with fail
  refine (e2 _ t1).mono ?_
  rintro e w2 ⟨rfl, hb2⟩
  have t2 := t1.below (Nat.le_refl _) hb2
  have hB2 := hb1.trans (hb2.mono hb1.size)
  clear e2 t1 hb1 hb2
  go_wp2_with fail
  refine (e3 _ t2).mono ?_
  rintro e w3 ⟨rfl, hb3⟩
  have t3 := t2.below (Nat.le_refl _) hb3
  have hB3 := hB2.trans (hb3.mono hB2.size)
  clear e3 t2 hB2 hb3
  go_wp2_with fail
  refine (e4 _ t3).mono ?_
  rintro e w4 ⟨rfl, hb4⟩
  have t4 := t3.below (Nat.le_refl _) hb4
  have hB4 := hB3.trans (hb4.mono hB3.size)
  clear e4 t3 hB3 hb4
  go_upto_if 39 with fail
  go_cut [14] from 19 (fun x wx => x = .string T ∧ Below w4.heap.size w4 wx)
  case first =>
    by_cases hk : k = 0
    · have h5 := HK.out w4 t4 hk
      have hq : ((k : Int) == 0) = true := by rw [hk]; rfl
      clear hk
      go_wp2_with fail
      refine h5.mono ?_
      rintro e w5 ⟨rfl, hb5⟩
      go_wp2_with fail
      go_meet
      exact ⟨rfl, hb5⟩
    · have hq : ((k : Int) == 0) = false := by rw [beq_eq_false_iff_ne]; omega
      obtain rfl := HT.out hk
      go_wp2_with fail
      go_meet
      exact ⟨rfl, Below.refl _ _⟩
  case rest =>
    obtain ⟨rfl, hb5⟩ := hcut
    have t5 := t4.below (Nat.le_refl _) hb5
    have hB5 := hB4.trans (hb5.mono hB4.size)
    clear t4 hB4 hb5 HK HT
    go_wp2_with fail
    refine (e6 _).mono ?_
    rintro e w6 ⟨v6, rfl, o6, hb6⟩
    have t6 := t5.below (Nat.le_refl _) hb6
    have hB6 := hB5.trans (hb6.mono hB5.size)
    clear e6 t5 hB5 hb6
    go_wp2_with fail
    refine (e7 _).mono ?_
    rintro e w7 ⟨v7, rfl, o7, hb7⟩
    have t7 := t6.below (Nat.le_refl _) hb7
    have hB7 := hB6.trans (hb7.mono hB6.size)
    have m6 := (Toks.of_own o6).below (Nat.le_refl _) hb7
    have m7 := Toks.of_own o7
    clear e7 t6 hB6 hb7 o6 o7
    go_wp2_with fail
    refine (e8 _ t7).mono ?_
    rintro e w8 ⟨rfl, hb8⟩
    have hB8 := hB7.trans (hb8.mono hB7.size)
    have heq := equal_toks v6 v7 N w8 (m6.below (Nat.le_refl _) hb8) (m7.below (Nat.le_refl _) hb8) (by omega)
    clear e8 t7 hB7 hb8 m6 m7
    go_wp2_with fail
    refine heq.mono ?_
    rintro e w9 ⟨rfl, hb9⟩
    have hB9 := hB8.trans (hb9.mono hB8.size)
    clear heq
    go_wp2_with fail
    go_ret
    exact ⟨rfl, hB9⟩

theorem lzSays_walk (v : Value) (l : List Lz.Tr) (most : Int) (s : ByteArray) (z0 : l.length ≤ 140737488351232) (_w1 : (Lit.int .i64 most).wf = true) (z2 : s.size ≤ 140737488351232) (w : World) (t0 : Toks w v l) :
    Calls Try.prog 3 #[v, .int .i64 most, .string s] w fun e w' => e = .returned (.bool true) ∧ Below w.heap.size w w' := by
  have hN : (Lz.rdR s.data.toList).length ≤ 4096 := by
    by_cases h : (Lz.rd s.data.toList).2 = 0
    · exact (Lz.chk_zero (Lz.packd_read h).1).1
    · unfold Lz.rdR
      rw [List.length_map, show (Lz.rd s.data.toList).1 = [] from (Lz.rdA_error _ [] _ (Nat.le_refl _) h).1]
      simp
  refine lzSays_of v l (Lz.rdR s.data.toList) most s ⟨(Lz.expd l most).1.toArray⟩ ⟨(Lz.packd l).toArray⟩ (Lz.chk l) (Lz.expd l most).2 (Lz.rd s.data.toList).2 w t0 hN
    (fun V h => rcheck_any v l V h z0) (fun V h => expand_any v l most V h z0) (fun V h => rexpand_any v l most V h z0) (fun V h => pack_any v l V h z0) (fun V h hc => texts_any v l V h hc)
    (fun V => read_any s V z2) (fun V => rread_any s V z2) (fun V h => check_any v l V h z0) (fun hk => ?_)
  unfold Lz.packd
  rw [if_neg hk]
end Go.Proofs.Ytkkbdgpmgkipbaa
