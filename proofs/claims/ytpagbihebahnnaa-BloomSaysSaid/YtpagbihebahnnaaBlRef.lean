/-
  What Mark and Bit of the document's answer (package lumref) answer.
-/
import Derived.Test.YtpagbihebahnnaaBlMem
import Derived.Test.YtpagbihebahnnaaRNum
import Derived.Test.YtpagbihebahnnaaQuietSince
import Derived.Deep.Cut
namespace Go.Proofs.Ytpagbihebahnnaa
open Go.RowKit
set_option maxRecDepth 4000

theorem shr_bit (v k : Nat) (hv : v < 18446744073709551616) : (bits .and .u64 ((v : Int) / 2 ^ k) 1 == 1) = v.testBit k := by
  have h1 : v / 2 ^ k < 18446744073709551616 := Nat.lt_of_le_of_lt (Nat.div_le_self _ _) hv
  have h := u64_and_nat (v / 2 ^ k) 1 h1 (by omega)
  rw [nat_mask1, Int.natCast_ediv, Int.natCast_pow] at h
  have h' : bits .and .u64 ((v : Int) / 2 ^ k) 1 = ((v / 2 ^ k % 2 : Nat) : Int) := h
  rw [h', Nat.testBit_eq_decide_div_mod_eq]
  have h2 : v / 2 ^ k % 2 < 2 := Nat.mod_lt _ (by omega)
  by_cases e : v / 2 ^ k % 2 = 1
  · rw [e]; rfl
  · rw [show v / 2 ^ k % 2 = 0 from by omega]; rfl

set_option maxHeartbeats 1000000 in
theorem rbit_any (b : List Nat) (k : Nat) (w : World) (hb : Bm.Ok b) (hk : k < 1024) :
    Calls Try.prog 10 #[.agg (blmC b).toArray, .int .i64 k] w fun e w' => e = .returned (.bool (Bm.bit b k)) ∧ Below w.heap.size w w' := by
  have hlen := blmC_length hb
  obtain ⟨W2, hW2⟩ : ∃ W2, W2 = w.alloc (.cells (blmC b).toArray 24) := ⟨_, rfl⟩
  have HA : Hid (Bb W2 w.heap.size b ∧ Below w.heap.size w W2) := by
    show Bb W2 w.heap.size b ∧ Below w.heap.size w W2
    rw [hW2]
    exact ⟨Bb.new hb w _, (Below.refl _ w).alloc (Nat.le_refl _) _⟩
  obtain ⟨q, hq, hq16⟩ : ∃ q : Nat, (k : Int) / 64 = (q : Int) ∧ q < 16 := ⟨k / 64, by omega, by omega⟩
  have hqi : (q : Int) < 16 := by omega
  have c0 := HA.out.1.at_ q hq16
  have HE : Hid (Bm.bit b k = (b.getD q 0).testBit (k % 64)) := by show _ = _; rw [Bm.bit, show k / 64 = q from by omega]
  have hs := shr_bit (b.getD q 0) (k % 64) (hb.get q)
  generalize b.getD q 0 = v at *
  generalize v.testBit (k % 64) = t at *
  go_enter Try.func10, Try.ntmps10
  go_upto_region 1 with fail
  rw [← hW2]
  clear hW2 hlen
  go_wp2_with fail
  go_ret
  exact ⟨by rw [HE.out]; rfl, HA.out.2⟩

theorem marks_at (b0 b1 b2 b3 b4 b5 b6 b7 : UInt8) (i : Nat) (hi : i < 4) : (Bm.marks [b0, b1, b2, b3, b4, b5, b6, b7]).getD i 0 = (Nm.val [b0, b1, b2, b3] + i * Nm.val [b4, b5, b6, b7]) % 1024 := by
  match i, hi with
  | 0, _ => rfl
  | 1, _ => rfl
  | 2, _ => rfl
  | 3, _ => rfl
theorem drewN_below (w : World) : ∀ m, Below w.heap.size w (w.drewN m)
  | 0 => Below.refl _ _
  | _ + 1 => ⟨rfl, rfl, rfl, Nat.le_refl _, fun _ _ => rfl⟩

set_option maxHeartbeats 1000000 in
theorem rmark_any (x : List UInt8) (i : Nat) (w : World) (hx : x.length = 8) (hi : i < 4) :
    Calls Try.prog 9 #[.agg (idC x).toArray, .int .i64 i] w fun e w' => e = .returned (.int .i64 ((Bm.marks x).getD i 0 : Nat)) ∧ Below w.heap.size w w' := by
  obtain ⟨b0, b1, b2, b3, b4, b5, b6, b7, rfl⟩ := eight8 x hx
  show Calls Try.prog 9 #[.agg (idA b0 b1 b2 b3 b4 b5 b6 b7), .int .i64 i] w _
  rw [marks_at b0 b1 b2 b3 b4 b5 b6 b7 i hi]
  obtain ⟨W2, hW2⟩ : ∃ W2, W2 = w.alloc (.cells (idA b0 b1 b2 b3 b4 b5 b6 b7) 26) := ⟨_, rfl⟩
  have hsz : W2.heap.size = w.heap.size + 1 := by rw [hW2]; simp
  have HB : Hid (Below w.heap.size w W2) := by
    show Below w.heap.size w W2
    rw [hW2]; exact (Below.refl _ w).alloc (Nat.le_refl _) _
  have hc1 : ∀ j (h : j < [b0, b1, b2, b3].length), W2.cell? ⟨w.heap.size, j, none⟩ = some (.int .u8 ([b0, b1, b2, b3][j].toNat : Int)) := fun j h => by
    rw [hW2]
    match j, h with
    | 0, _ => simp
    | 1, _ => simp
    | 2, _ => simp
    | 3, _ => simp
  have hc2 : ∀ j (h : j < [b4, b5, b6, b7].length), W2.cell? ⟨w.heap.size, 4 + j, none⟩ = some (.int .u8 ([b4, b5, b6, b7][j].toNat : Int)) := fun j h => by
    rw [hW2]
    match j, h with
    | 0, _ => simp
    | 1, _ => simp
    | 2, _ => simp
    | 3, _ => simp
  have t1 : ∀ X : Since W2.heap.size W2, (convert 44 9 (.slice (some ⟨w.heap.size, 0, none⟩) 4 8)).run Try.prog X.val = .ok (.string ⟨#[b0, b1, b2, b3]⟩) X.val := fun X => by
    refine run_convert_bytes_back X.val 44 9 5 ⟨w.heap.size, 0, none⟩ 8 [b0, b1, b2, b3] (by kernel_rfl) (by kernel_rfl) (by kernel_rfl) fun j hj => ?_
    rw [Addr.add_mid, Nat.zero_add]
    exact (X.property.cell (p := ⟨w.heap.size, j, none⟩) (by rw [hsz]; show w.heap.size < _; omega)).trans (hc1 j hj)
  have t2 : ∀ X : Since W2.heap.size W2, (convert 44 9 (.slice (some ⟨w.heap.size, 4, none⟩) 4 4)).run Try.prog X.val = .ok (.string ⟨#[b4, b5, b6, b7]⟩) X.val := fun X => by
    refine run_convert_bytes_back X.val 44 9 5 ⟨w.heap.size, 4, none⟩ 4 [b4, b5, b6, b7] (by kernel_rfl) (by kernel_rfl) (by kernel_rfl) fun j hj => ?_
    rw [Addr.add_mid]
    exact (X.property.cell (p := ⟨w.heap.size, 4 + j, none⟩) (by rw [hsz]; show w.heap.size < _; omega)).trans (hc2 j hj)
  have k1 : ∀ X : Since W2.heap.size W2, Calls Try.prog 15 #[.string ⟨#[b0, b1, b2, b3]⟩] X.val fun e w' => e = .returned (.int .u64 (Nm.val [b0, b1, b2, b3] : Nat)) ∧ ∃ Y : Since W2.heap.size W2, w' = Y.val := fun X =>
    quiet_since X ((number_any 4 ⟨#[b0, b1, b2, b3]⟩ X.val (Nat.le_refl _) (by omega)).mono fun _ _ h => ⟨h.1, by obtain ⟨m, hm⟩ := h.2; rw [hm]; exact drewN_below _ m⟩)
  have k2 : ∀ X : Since W2.heap.size W2, Calls Try.prog 15 #[.string ⟨#[b4, b5, b6, b7]⟩] X.val fun e w' => e = .returned (.int .u64 (Nm.val [b4, b5, b6, b7] : Nat)) ∧ ∃ Y : Since W2.heap.size W2, w' = Y.val := fun X =>
    quiet_since X ((number_any 4 ⟨#[b4, b5, b6, b7]⟩ X.val (Nat.le_refl _) (by omega)).mono fun _ _ h => ⟨h.1, by obtain ⟨m, hm⟩ := h.2; rw [hm]; exact drewN_below _ m⟩)
  have v1 := Nm.val_lt [b0, b1, b2, b3]
  have v2 := Nm.val_lt [b4, b5, b6, b7]
  simp only [List.length_cons, List.length_nil] at v1 v2
  generalize Nm.val [b0, b1, b2, b3] = a at *
  generalize Nm.val [b4, b5, b6, b7] = b at *
  have g1 : a < 4294967296 := v1
  have g2 : b < 4294967296 := v2
  have g3 : i * b ≤ 3 * b := Nat.mul_le_mul_right b (by omega)
  obtain ⟨p, hp⟩ : ∃ p, p = i * b := ⟨_, rfl⟩
  have hm : (i : Int) * (b : Int) = (p : Int) := by rw [hp]; simp
  rw [← hp] at g3 ⊢
  have hr : ((a : Int) + (p : Int)) % 1024 = (((a + p) % 1024 : Nat) : Int) := by omega
  have hr2 : (a + p) % 1024 < 1024 := Nat.mod_lt _ (by omega)
  generalize (a + p) % 1024 = r at *
  have hne : Nonempty (Since W2.heap.size W2) := ⟨⟨W2, Below.refl _ _⟩⟩
  dsimp only [idA] at hW2 ⊢
  clear hc1 hc2 v1 v2 hx hp
  go_enter Try.func9, Try.ntmps9
  go_upto_region 1 with fail
  rw [← hW2]
  clear hW2
  refine wp_region_since (B := W2.heap.size) (W0 := W2) (by kernel_rfl) (by kernel_rfl) (Below.refl _ _) ?_
  go_big_quiet_step (rfl)
  go_big_quiet_step (fail)
  go_big_quiet_step (exact k1 _)
  go_big_quiet_step (rfl)
  go_big_quiet_step (fail)
  go_big_quiet_step (exact k2 _)
  repeat (go_big_quiet_step (fail))
  refine wpQuiet_nil ?_
  rintro w7 ⟨X, rfl⟩
  have HB3 : Hid (Below w.heap.size w X.val) := HB.out.trans (X.property.mono HB.out.size)
  generalize X.val = w3 at *
  clear t1 t2 k1 k2 hne HB hsz
  go_wp2_with fail
  go_ret
  exact ⟨rfl, HB3.out⟩
end Go.Proofs.Ytpagbihebahnnaa
