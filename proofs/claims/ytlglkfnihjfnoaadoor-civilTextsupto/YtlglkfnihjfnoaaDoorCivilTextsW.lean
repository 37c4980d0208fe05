/-
  What the law CivilTexts gives.
-/
import Derived.Test.YtlglkfnihjfnoaaDoorCvIn
import Derived.Test.YtlglkfnihjfnoaaDoorCvDig
import Derived.Test.YtlglkfnihjfnoaaDoorCvRRead
namespace Go.Proofs.YtlglkfnihjfnoaaDoor
open Go.RowKit
set_option maxRecDepth 4000

theorem text_two (n : Int) : ∃ X e, textV n = .tuple #[.string X, .int .i64 e] := by
  unfold textV; split <;> exact ⟨_, _, rfl⟩

set_option maxHeartbeats 4000000 in
theorem civilTexts_walk (a0 : Int) (a1 : ByteArray) (_w0 : (Lit.int .i64 a0).wf = true) (z1 : a1.size ≤ 1048576) (w : World) (hP : Pow w) (hL : Lens w) (hM : Ml w) :
    Calls Tryd.prog 4 #[.int .i64 a0, .string a1] w fun e w' => e = .returned (.bool true) ∧ Below w.heap.size w w' := by
  have c1 := text_any a0 w hL hP
  have c2 := fun V => rtext_any a0 V
  have c3 := fun V (hb : Below w.heap.size w V) => read_any a1 V (fun W hW => hL.stays (hb.trans (hW.mono hb.size)) (Nat.le_refl _))
  have c4 := fun V (hb : Below w.heap.size w V) => rread_any a1 V (by omega) (hM.below hb)
  obtain ⟨X, e, h1⟩ := text_two a0
  obtain ⟨p, q, h2⟩ : ∃ p q, readV a1.data.toList = .tuple #[.int .i64 p, .int .i64 q] := ⟨_, _, rfl⟩
  simp only [h1, h2] at c1 c2 c3 c4
  clear h1 h2 hP hL hM
  go_enter Tryd.func4, Tryd.ntmps4
  go_wp2_with fail
  refine c1.mono ?_
  rintro e w1 ⟨rfl, hb1⟩
  go_wp2_with fail
  refine (c2 _).mono ?_
  rintro e w2 ⟨rfl, hb2⟩
  have hB2 := hb1.trans (hb2.mono hb1.size)
  go_wp2_with fail
  refine (c3 _ hB2).mono ?_
  rintro e w3 ⟨rfl, hb3⟩
  have hB3 := hB2.trans (hb3.mono hB2.size)
  go_wp2_with fail
  refine (c4 _ hB3).mono ?_
  rintro e w4 ⟨rfl, hb4⟩
  have hB4 := hB3.trans (hb4.mono hB3.size)
  go_wp2_with fail
  go_ret
  exact ⟨rfl, hB4⟩

end Go.Proofs.YtlglkfnihjfnoaaDoor
