/-
  The walk of lumlaw.NumTexts: it returns true.
-/
import Derived.Test.YtmoejhjipffohaaDoorRefText
namespace Go.Proofs.YtmoejhjipffohaaDoor
open Go.RowKit

set_option maxRecDepth 100000 in
set_option maxHeartbeats 2000000 in
theorem numTexts_walk (a0 : ByteArray) (a1 : ByteArray) (m : Int) (z0 : a0.size ≤ 140737488351232) (z1 : a1.size ≤ 140737488351232) (w : World) (hm : w.cell? ⟨0, 0, none⟩ = some (.int .i64 m)) :
    Calls Tryd.prog 3 #[.string a0, .string a1] w fun e w' => e = .returned (.bool true) ∧ Below w.heap.size w w' := by
  have hlt : 0 < w.heap.size := World.block_lt_of_cell? w _ hm
  obtain ⟨G, hG⟩ : ∃ G, Nm.getT a1.data.toList = G := ⟨_, rfl⟩
  have HG : Hid (Nm.getT a1.data.toList = G) := hG
  have HM : Hid (w.cell? ⟨0, 0, none⟩ = some (.int .i64 m)) := hm
  clear hG hm
  by_cases h : a0.size ≤ 1024
  · go_enter Tryd.func3, Tryd.ntmps3
    go_wp2_with fail
    refine (putT_any a0 _ h).mono ?_
    rintro e u1 ⟨rfl, b1⟩
    go_wp2_with fail
    refine (rputT_any a0 m _ (by rw [b1.cell (p := ⟨0, 0, none⟩) hlt]; exact HM.out) h).mono ?_
    rintro e u2 ⟨rfl, b2⟩
    have hB := b1.trans (b2.mono b1.size)
    clear b1 b2
    go_wp2_with fail
    refine (getT_any a1 _ (by omega)).mono ?_
    rintro e u3 ⟨rfl, b3⟩
    rw [HG.out]
    go_wp2_with fail
    refine (rgetT_any a1 _ (by omega)).mono ?_
    rintro e u3 ⟨rfl, rfl⟩
    rw [HG.out]
    go_wp2_with fail
    go_ret
    exact ⟨rfl, hB.trans (b3.mono hB.size)⟩
  · go_enter Tryd.func3, Tryd.ntmps3
    go_wp2_with fail
    refine (putT_large a0 _ (by omega) z0).mono ?_
    rintro e w ⟨rfl, rfl⟩
    go_wp2_with fail
    refine (rputT_large a0 _ (by omega) z0).mono ?_
    rintro e w ⟨rfl, rfl⟩
    go_wp2_with fail
    refine (getT_any a1 _ (by omega)).mono ?_
    rintro e u3 ⟨rfl, b3⟩
    rw [HG.out]
    go_wp2_with fail
    refine (rgetT_any a1 _ (by omega)).mono ?_
    rintro e u3 ⟨rfl, rfl⟩
    rw [HG.out]
    go_wp2_with fail
    go_ret
    exact ⟨rfl, b3⟩
end Go.Proofs.YtmoejhjipffohaaDoor
