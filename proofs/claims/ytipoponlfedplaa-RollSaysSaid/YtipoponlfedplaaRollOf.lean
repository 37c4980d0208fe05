/-
  What putIn, sumOf, lastBytes and Of of package roll answer.
-/
import Derived.Test.YtipoponlfedplaaRollT
namespace Go.Proofs.Ytipoponlfedplaa
open Go.RowKit

set_option maxHeartbeats 400000 in
theorem putIn_any (o : Nat) (b : UInt8) (w : World) (ho : o < 2147483648) :
    Calls Try.prog 16 #[.int .u32 o, B b] w fun e w' => e = .returned (.int .u32 (Rl.mxk 8 o ^^^ b.toNat : Nat)) ∧ w' = w := by
  have hb := Rl.byte_lt b
  have hx := u32_xor_nat (Rl.mxk 8 o) b.toNat (by have := Rl.mxk_lt 8 ho; omega) (by omega)
  have ht := times_any o 256 w (by omega) (by omega)
  rw [Rl.times_256 ho] at ht
  unfold B
  go_enter Try.func16, Try.ntmps16
  go_wp2_with fail
  refine ht.mono ?_
  rintro e w1 ⟨rfl, rfl⟩
  go_wp2_with fail
  go_ret
  exact ⟨rfl, rfl⟩

theorem run_index16 (l : List UInt8) (k : Nat) (w : World) (hl : l.length = 16) (hk : k < 16) :
    (Instr.index 23 (.agg (l.map B).toArray) (.int .i64 k)).run Try.prog w = .ok (B l[k]) w := by
  have h : Try.prog.underlying 23 = some (.array 16 5) := by kernel_rfl
  simp [Instr.index, run_underlying h, asIntOf, hk, hl, go_sem]
theorem lit16 (l : List UInt8) (hl : l.length = 16) : #[B l[0], B l[1], B l[2], B l[3], B l[4], B l[5], B l[6], B l[7], B l[8], B l[9], B l[10], B l[11], B l[12], B l[13], B l[14], B l[15]] = (l.map B).toArray := by
  match l, hl with
  | [b0, b1, b2, b3, b4, b5, b6, b7, b8, b9, b10, b11, b12, b13, b14, b15], _ => rfl
theorem ofA_take (l : List UInt8) (k : Nat) (h : k < l.length) : Rl.ofA 0 (l.take (k + 1)) = Rl.mxk 8 (Rl.ofA 0 (l.take k)) ^^^ l[k].toNat := by
  rw [List.take_succ_eq_append_getElem h, Rl.ofA_append]; rfl

set_option maxHeartbeats 400000 in
theorem sumOf_any (l : List UInt8) (w : World) (hl : l.length = 16) :
    Calls Try.prog 20 #[.agg (l.map B).toArray] w fun e w' => e = .returned (.int .u32 (Rl.ofA 0 l : Nat)) ∧ Below w.heap.size w w' := by
  go_enter Try.func20, Try.ntmps20
  go_wp2_with fail
  rw [lit16 l hl]
  go_loop [3, 7] (fun o i => ∃ k : Nat, k ≤ 16 ∧ i = .int .i64 k ∧ o = .int .u32 (Rl.ofA 0 (l.take k) : Nat)) (fun _ i => 16 - (intOf i).toNat)
  case atStart => exact ⟨0, by omega, rfl, rfl⟩
  case round =>
    obtain ⟨k, hk, rfl, rfl⟩ := hrel
    by_cases hlt : k < 16
    · have hI := fun W => run_index16 l k W hl hlt
      have hp := fun W => putIn_any (Rl.ofA 0 (l.take k)) l[k] W (Rl.ofA_lt (by omega) _)
      rw [← ofA_take l k (by omega)] at hp
      go_wp2_with fail
      refine (hp _).mono ?_
      rintro e w1 ⟨rfl, rfl⟩
      go_wp2_with fail
      go_round
      case rel => exact ⟨k + 1, by omega, by go_num, rfl⟩
      case measure => simp [intOf]; omega
    · obtain rfl : k = 16 := by omega
      rw [List.take_of_length_le (by omega)]
      go_wp2_with fail
      go_ret
      exact ⟨rfl, (Below.refl _ w).alloc (Nat.le_refl _) _⟩

end Go.Proofs.Ytipoponlfedplaa
