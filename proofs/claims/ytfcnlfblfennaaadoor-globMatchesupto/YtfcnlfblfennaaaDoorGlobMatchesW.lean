/-
  The walk of lumlaw.GlobMatches: it returns true.
-/
import Derived.Test.YtfcnlfblfennaaaDoorRgAll
namespace Go.Proofs.YtfcnlfblfennaaaDoor
open Go.RowKit
set_option maxRecDepth 4000

set_option maxRecDepth 8000 in
set_option maxHeartbeats 2000000 in
theorem globMatches_walk (a0 a1 : ByteArray) (_ : a0.size ≤ 1048576) (z1 : a1.size ≤ 1048576) (w : World) (hT : Tabs w) :
    Calls Tryd.prog 3 #[.string a0, .string a1] w fun e w' => e = .returned (.bool true) ∧ Below w.heap.size w w' := by
  have HT : Hid (Tabs w) := hT
  have h1 := rpattern_any a0 w
  unfold PrOut at h1
  have h4 := fun W (hW : Tabs W) => gcheck_any a0 W hW
  have h2 := fun W (hW : Tabs W) => gmatch_any a0 a1 W (by omega) hW
  have h3 := fun W => rmatch_any a0 a1 W (by omega)
  generalize (Gb.pat a0.data.toList).2 = E at *
  generalize (Gb.pat a0.data.toList).1 = P at *
  generalize (Gb.mtch a0.data.toList a1.data.toList).1 = A at *
  generalize (Gb.mtch a0.data.toList a1.data.toList).2 = F at *
  clear hT
  go_enter Tryd.func3, Tryd.ntmps3
  go_wp2_with fail
  refine h1.mono ?_
  rintro e w1 ⟨v, rfl, _, b1, _⟩
  have HB1 : Hid (Below w.heap.size w w1) := b1
  clear b1 h1
  have k2 := h2 w1 (HT.out.below HB1.out)
  clear h2
  go_wp2_with fail
  refine k2.mono ?_
  rintro e w2 ⟨rfl, b2⟩
  have HB2 : Hid (Below w.heap.size w w2) := HB1.out.trans (b2.mono HB1.out.size)
  clear b2 k2
  have k3 := h3 w2
  clear h3
  go_wp2_with fail
  refine k3.mono ?_
  rintro e w3 ⟨rfl, b3⟩
  have HB3 : Hid (Below w.heap.size w w3) := HB2.out.trans (b3.mono HB2.out.size)
  clear b3 k3
  have k4 := h4 w3 (HT.out.below HB3.out)
  clear h4
  go_wp2_with fail
  refine k4.mono ?_
  rintro e w4 ⟨rfl, b4⟩
  have HB4 : Hid (Below w.heap.size w w4) := HB3.out.trans (b4.mono HB3.out.size)
  clear b4 k4
  go_wp2_with fail
  go_ret
  exact ⟨by cases A <;> simp, HB4.out⟩
end Go.Proofs.YtfcnlfblfennaaaDoor
