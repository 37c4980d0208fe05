/-
  When two IDs are equal.
-/
import Derived.Test.YtcgecafajgoeeaaDoorBase
import Derived.Stop.BytesEq
namespace Go.Proofs.YtcgecafajgoeeaaDoor
open Go.RowKit

theorem id_eq (W : World) (xs ys : List UInt8) (hx : xs.length = 8) (hy : ys.length = 8) :
    (Op.equalIn 10000 49 (.agg (xs.map B).toArray) (.agg (ys.map B).toArray)).run Tryd.prog W = .ok (xs == ys) W :=
  run_equalIn_bytes (P := Tryd.prog) W 9998 49 5 8 (by kernel_rfl) (by kernel_rfl) (fun w => by go_simp) xs ys hx hy
end Go.Proofs.YtcgecafajgoeeaaDoor
