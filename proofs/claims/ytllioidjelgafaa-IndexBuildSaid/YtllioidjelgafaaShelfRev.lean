/-
  The library's contract for slices.Reverse at this program (laid by the guide's own tools, written out in plain words).
-/
import Derived.Shelf.SlicesQ.Reverse
import Derived.Test.YtllioidjelgafaaProg
namespace Go.Proofs
open Go.Shelf
def Try.revEn_ren : Go.Shelf.Ren := ⟨fun | 35 => 27 | n => n, fun | 22 => 34 | 23 => 51 | 3 => 3 | 4 => 4 | 0 => 0 | n => n, fun | n => n⟩
theorem Try.revEn : Go.Proofs.SlLaysE0.n35 Try.prog Try.revEn_ren := {
  mixed := by kernel_rfl
  f35 := ⟨Try.f27.name, by decide, Try.func27.trans (congrArg some (by kernel_rfl))⟩
  t0 := Try.underlying0
  a0 := Try.isAgg0
  z0 := Try.sizeOf0
  v0 := Try.zeroValue0
  t3 := Try.underlying3
  a3 := Try.isAgg3
  z3 := Try.sizeOf3
  v3 := Try.zeroValue3
  t4 := Try.underlying4
  a4 := Try.isAgg4
  z4 := Try.sizeOf4
  v4 := Try.zeroValue4
  t22 := Try.underlying34
  a22 := Try.isAgg34
  z22 := Try.sizeOf34
  v22 := Try.zeroValue34 }
end Go.Proofs
