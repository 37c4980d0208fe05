/-
  When two IDs are equal.
-/
import Derived.Test.YtllioidjelgafabBase
import Derived.Stop.BytesEq
namespace Go.Proofs.Ytllioidjelgafab
open Go.RowKit

theorem id_eq (W : World) (xs ys : List UInt8) (hx : xs.length = 8) (hy : ys.length = 8) :
    (Op.equalIn 10000 27 (.agg (xs.map B).toArray) (.agg (ys.map B).toArray)).run Try.prog W = .ok (xs == ys) W :=
  run_equalIn_bytes (P := Try.prog) W 9998 27 5 8 (by kernel_rfl) (by kernel_rfl) (fun w => by go_simp) xs ys hx hy
end Go.Proofs.Ytllioidjelgafab
