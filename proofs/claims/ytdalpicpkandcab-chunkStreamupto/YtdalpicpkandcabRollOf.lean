/-
  What putIn, sumOf, lastBytes and Of of package roll answer.
-/
import Derived.Test.YtdalpicpkandcabRollT
namespace Go.Proofs.Ytdalpicpkandcab
open Go.RowKit

set_option maxHeartbeats 400000 in
theorem putIn_any (o : Nat) (b : UInt8) (w : World) (ho : o < 2147483648) :
    Calls Try.prog 33 #[.int .u32 o, B b] w fun e w' => e = .returned (.int .u32 (Rl.mxk 8 o ^^^ b.toNat : Nat)) ∧ w' = w := by
  have hb := Rl.byte_lt b
  have hx := u32_xor_nat (Rl.mxk 8 o) b.toNat (by have := Rl.mxk_lt 8 ho; omega) (by omega)
  have ht := times_any o 256 w (by omega) (by omega)
  rw [Rl.times_256 ho] at ht
  unfold B
  go_enter Try.func33, Try.ntmps33
  go_wp2_with fail
  refine ht.mono ?_
  rintro e w1 ⟨rfl, rfl⟩
  go_wp2_with fail
  go_ret
  exact ⟨rfl, rfl⟩

theorem run_index16 (l : List UInt8) (k : Nat) (w : World) (hl : l.length = 16) (hk : k < 16) :
    (Instr.index 64 (.agg (l.map B).toArray) (.int .i64 k)).run Try.prog w = .ok (B l[k]) w := by
  have h : Try.prog.underlying 64 = some (.array 16 5) := by kernel_rfl
  simp [Instr.index, run_underlying h, asIntOf, hk, hl, go_sem]
theorem lit16 (l : List UInt8) (hl : l.length = 16) : #[B l[0], B l[1], B l[2], B l[3], B l[4], B l[5], B l[6], B l[7], B l[8], B l[9], B l[10], B l[11], B l[12], B l[13], B l[14], B l[15]] = (l.map B).toArray := by
  match l, hl with
  | [b0, b1, b2, b3, b4, b5, b6, b7, b8, b9, b10, b11, b12, b13, b14, b15], _ => rfl
theorem ofA_take (l : List UInt8) (k : Nat) (h : k < l.length) : Rl.ofA 0 (l.take (k + 1)) = Rl.mxk 8 (Rl.ofA 0 (l.take k)) ^^^ l[k].toNat := by
  rw [List.take_succ_eq_append_getElem h, Rl.ofA_append]; rfl
end Go.Proofs.Ytdalpicpkandcab
