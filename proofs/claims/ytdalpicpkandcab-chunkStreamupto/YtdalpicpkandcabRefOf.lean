/-
  What Of of the document's answer (package lumref) answers.
-/
import Derived.Test.YtdalpicpkandcabRefT
import Derived.Test.YtdalpicpkandcabRollOf
import Derived.Test.YtdalpicpkandcabBytes
namespace Go.Proofs.Ytdalpicpkandcab
open Go.RowKit

theorem step_bits (o : Nat) (b : UInt8) (ho : o < 2147483648) : bits .xor .u64 ((o : Int) * 256) (b.toNat : Int) = ((o * 256 ^^^ b.toNat : Nat) : Int) := by
  have := Rl.byte_lt b
  rw [show (o : Int) * 256 = ((o * 256 : Nat) : Int) from by omega, u64_xor_nat _ _ (by omega) (by omega)]
end Go.Proofs.Ytdalpicpkandcab
