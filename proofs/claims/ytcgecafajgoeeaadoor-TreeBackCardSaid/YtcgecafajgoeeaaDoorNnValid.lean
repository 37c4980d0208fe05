/-
  unicode/utf8.ValidString and Check of package names in any world in which unicode/utf8's tables are as they are laid.
-/
import Derived.Test.YtcgecafajgoeeaaDoorNnCheck
import Derived.Test.YtcgecafajgoeeaaDoorShelfValid
namespace Go.Proofs.YtcgecafajgoeeaaDoor
open Go.RowKit

theorem valid_any (s : ByteArray) (w : World) (hs : s.size ≤ 9223372036854775807) (hT : Tabs w) :
    Calls Tryd.prog 52 #[.string s] w fun e w' => e = .returned (.bool (Lib.validD s.data.toList)) ∧ Below w.heap.size w w' :=
  Any.utf8_ValidString Tryd.laysValid s w hs hT
theorem check_any (s : ByteArray) (w : World) (hs : s.size ≤ 9223372036854775807) (hT : Tabs w) :
    Calls Tryd.prog 37 #[.string s] w fun e w' => e = .returned (.int .i64 (Nn.nm s.data.toList)) ∧ Below w.heap.size w w' :=
  check_of s w hs (valid_any s w hs hT)
end Go.Proofs.YtcgecafajgoeeaaDoor
