/-
  What countDigits and appendDigits of package num answer (contracts over the model's calls), and small facts.
-/
import Derived.Test.YtcgecafajgoeeaaDoorBase
import Derived.Test.YtcgecafajgoeeaaDoorShelf
namespace Go.Proofs.YtcgecafajgoeeaaDoor
open Go.RowKit
set_option maxRecDepth 4000

theorem bitLen_dig (n : Nat) (h : n < 256 ^ 8) : (Lib.bitLen n + 7) / 8 = (Nm.dig n).length := by
  have key : ∀ (f m : Nat), m < 256 ^ f → f ≤ 8 → (Lib.bitLen m + 7) / 8 = (Nm.digF f m).length := by
    intro f
    induction f with
    | zero => intro m hm _; have : m = 0 := by simpa using hm
              subst this; decide
    | succ f ih =>
      intro m hm hf
      have h64 : m < 18446744073709551616 := Nat.lt_of_lt_of_le hm (Nat.le_trans (Nat.pow_le_pow_right (by omega) hf) (by omega))
      rw [Nm.digF]
      split
      · subst_vars; decide
      · rename_i hn
        by_cases hs : 256 ≤ m
        · rw [Lib.bitLen_shift8 m hs h64, List.length_append, List.length_singleton, ← ih (m / 256) (by rw [Nat.pow_succ] at hm; omega) (by omega)]
          omega
        · have h0 : m / 256 = 0 := by omega
          have hd : Nm.digF f 0 = [] := by cases f <;> simp [Nm.digF]
          rw [h0, hd]
          have h1 := Lib.bitLen_le8 ⟨m, by omega⟩
          have h2 := Lib.bitLen_half m hn (by omega)
          simp at h1 ⊢
          omega
  exact key 8 n h (by omega)

set_option maxHeartbeats 400000 in
theorem count_any (n : Int) (w : World) (h0 : 0 ≤ n) (h1 : n ≤ 18446744073709551615) :
    Calls Tryd.prog 48 #[.int .u64 n] w fun e w' => e = .returned (.int .i64 (Nm.dig n.toNat).length) ∧ w' = w := by
  have hb := bitLen_dig n.toNat (by omega)
  have hl := Nm.dig_length_le n.toNat
  have hbl : Lib.bitLen n.toNat ≤ 64 := by omega
  have HB : Hid ((Lib.bitLen n.toNat + 7) / 8 = (Nm.dig n.toNat).length) := hb
  clear hb hl
  go_enter Tryd.func48, Tryd.ntmps48
  go_wp2_with (go_at_call 63; refine (Tryd.bits_Len64 _ _ h0 h1).mono ?_; rintro e w' ⟨rfl, rfl⟩)
  go_ret
  exact ⟨ret_int (by rw [← HB.out]; omega), rfl⟩

theorem byte_at (n t : Int) (q : Nat) (n0 : 0 ≤ n) (h0 : 0 ≤ t) (h1 : t ≤ 255) :
    bits .xor .u8 (n / 2 ^ (8 * q) % 256) t = ((UInt8.ofNat (n.toNat / 256 ^ q % 256) ^^^ UInt8.ofNat t.toNat).toNat : Int) := by
  obtain ⟨m, rfl⟩ := Int.eq_ofNat_of_zero_le n0
  obtain ⟨T, rfl⟩ := Int.eq_ofNat_of_zero_le h0
  have e : ((m : Int) / 2 ^ (8 * q) % 256) = ((m / 256 ^ q % 256 : Nat) : Int) := by
    have : (2 : Int) ^ (8 * q) = ((256 ^ q : Nat) : Int) := by rw [Int.pow_mul]; simp
    rw [this]; simp
  rw [e, u8_xor_nat _ _ (by omega) (by omega)]
  simp only [Int.toNat_natCast]
  generalize m / 256 ^ q = x
  have hx : (UInt8.ofNat (x % 256)).toNat = x % 256 := by rw [UInt8.toNat_ofNat']; omega
  rw [← xor_u8 _ _ (by omega), hx]
theorem append_step {base : Nat} {w wr w1 : World} {v v1 : Value} {ys zs : List UInt8} {n t : Int} {q : Nat} {o : Obj} (hown : wr.ownsRow base 5 1 v ys.length (ys.map B))
    (hown1 : w1.ownsRow base 5 1 v1 (ys.length + 1) (ys.map B ++ [.int .u8 (bits .xor .u8 (n / 2 ^ (8 * q) % 256) t)])) (hg : (wr.alloc o).grownBy w1 v.ownBlock) (hbel : Below base w wr) (hbase : base ≤ w.heap.size)
    (heq : ys ++ Nm.tn t.toNat (Nm.low (q + 1) n.toNat) = zs) (n0 : 0 ≤ n) (_n1 : n ≤ 18446744073709551615) (h0 : 0 ≤ t) (h1 : t ≤ 255) :
    w1.ownsRow base 5 1 v1 (ys ++ [UInt8.ofNat (n.toNat / 256 ^ q % 256) ^^^ UInt8.ofNat t.toNat]).length ((ys ++ [UInt8.ofNat (n.toNat / 256 ^ q % 256) ^^^ UInt8.ofNat t.toNat]).map B) ∧
      (ys ++ [UInt8.ofNat (n.toNat / 256 ^ q % 256) ^^^ UInt8.ofNat t.toNat]) ++ Nm.tn t.toNat (Nm.low q n.toNat) = zs ∧ Below base w w1 := by
  refine ⟨?_, ?_, ?_⟩
  · rw [byte_at n t q n0 h0 h1] at hown1
    simpa [B] using hown1
  · rw [← heq, Nm.low, List.append_assoc]
    simp [Nm.tn]
  · have hs := hbel.size
    refine (hbel.alloc (by omega) o).grown hg (by simp; omega) ?_
    intro k hk
    exact (hown.lt k hk).1

set_option maxHeartbeats 400000 in
theorem digits_app (base : Nat) (v : Value) (xs : List UInt8) (n k t : Int) (w : World) (hown : w.ownsRow base 5 1 v xs.length (xs.map B)) (hbase : base ≤ w.heap.size) (hx : xs.length ≤ 1000)
    (n0 : 0 ≤ n) (n1 : n ≤ 18446744073709551615) (k0 : 0 ≤ k) (k1 : k ≤ 8) (h0 : 0 ≤ t) (h1 : t ≤ 255) :
    Calls Tryd.prog 49 #[v, .int .u64 n, .int .i64 k, .int .u8 t] w fun e w' => ∃ v', e = .returned v' ∧
      w'.ownsRow base 5 1 v' (xs ++ Nm.tn t.toNat (Nm.low k.toNat n.toNat)).length ((xs ++ Nm.tn t.toNat (Nm.low k.toNat n.toNat)).map B) ∧ Below base w w' := by
  obtain ⟨i0, hi, hz0, hz1, hz2⟩ := info_parts info_u8
  go_enter Tryd.func49, Tryd.ntmps49
  go_wp2
  go_loopw [0, 9] (fun v i wr => ∃ (r : Nat) (ys : List UInt8), r ≤ k.toNat ∧ i = .int .i64 ((r : Int) - 1) ∧ wr.ownsRow base 5 1 v ys.length (ys.map B) ∧
      ys ++ Nm.tn t.toNat (Nm.low r n.toNat) = xs ++ Nm.tn t.toNat (Nm.low k.toNat n.toNat) ∧ Below base w wr) (fun _ i _ => (intOf i + 1).toNat)
  case atStart => exact ⟨k.toNat, xs, Nat.le_refl _, int_eq (by omega), hown, rfl, Below.refl _ _⟩
  case round =>
    obtain ⟨r, ys, hr, rfl, hown', heq, hbel⟩ := hrel
    have hbs := hbel.size
    cases r with
    | zero =>
      go_wp2
      go_ret
      refine ⟨u0, rfl, ?_, hbel⟩
      rw [← heq, show Nm.low 0 n.toNat = [] from rfl]
      simpa [Nm.tn] using hown'
    | succ q =>
      have hyl : ys.length ≤ xs.length + 8 := by
        have := congrArg List.length heq
        simp [Nm.tn_length, Nm.low_length] at this
        omega
      go_wp2_with (at_builtin; refine wpList_append_own _ rfl _ _ 41 rfl base 5 i0 (.int .u8 0) 1 1 Tryd.underlying41 hi hz0 hz1 hz2 rfl (by decide) _ _ _ rfl (hown'.alloc _) ⟨wr.heap.size, 0, none⟩ 1 1 [.int .u8 (bits .xor .u8 (n / 2 ^ (8 * q) % 256) t)] rfl rfl ?c1 ?c2 ?c3 ?c4 ?c5 ?_)
      case c1 =>
        intro j u hj
        match j, hj with
        | 0, hj => simp at hj; subst hj; simp [Addr.add]
      case c2 => intro u hu; simp at hu; subst hu; rfl
      case c3 => unfold maxLen; omega
      case c4 => omega
      case c5 => simp; omega
      intro v' w1 hown1 hgrow _
      have R := append_step (q := q) hown' hown1 hgrow hbel hbase heq n0 n1 h0 h1
      clear hown1 hgrow hown' heq hbel
      go_wp2
      go_roundw
      case rel => exact ⟨q, _, by omega, by go_num, R.1, R.2.1, R.2.2⟩
      case measure => simp [intOf]
end Go.Proofs.YtcgecafajgoeeaaDoor
