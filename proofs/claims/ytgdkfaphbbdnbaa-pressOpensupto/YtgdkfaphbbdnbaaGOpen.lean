/-
  The walk of PressOpens, for texts up to 1048576 letters.
  Whatever is handed in, press.Open answers what the document says (PressOpens, its second form: texts up to 1048576 letters).
-/
import Derived.Test.YtgdkfaphbbdnbaaGRfD
import Derived.Test.YtgdkfaphbbdnbaaRows
import Derived.WalkKit
import Derived.ProofKit
import Derived.OpenShut
import Derived.ShutString
import Derived.ChangeOld
import Derived.Below
import Derived.SizedLaws
import Derived.Laws.Cover2
import Derived.JoinedCond

namespace Go.Proofs.Ytgdkfaphbbdnbaa
open Go.RowKit
set_option maxRecDepth 4000

theorem bytes_one {s t : ByteArray} (h : s.data.toList = t.data.toList) : s = t := by
  obtain ⟨d⟩ := s
  obtain ⟨c⟩ := t
  have h : d.toList = c.toList := h
  rw [show d = c from Array.toList_inj.1 h]

set_option maxHeartbeats 1000000 in
theorem pressOpens_walk (a0 : ByteArray) (z0 : a0.size ≤ 1048576) (w : World) :
    Calls Try.prog 4 #[.string a0] w fun e w' => e = .returned (.bool true) ∧ Below w.heap.size w w' := by
  have h1 := open_any a0 w (by omega)
  have h2 := fun W => ropen_any a0 W z0
  generalize Pr.op a0.data.toList = O at *
  have H2 : Hid (∀ W, Calls Try.prog 10 #[.string a0] W fun e w' => ∃ s' : ByteArray, e = .returned (.tuple #[.string s', .int .i64 O.2]) ∧ s'.data.toList = O.1 ∧ Below W.heap.size W w') := h2
  clear h2
  go_enter Try.func4, Try.ntmps4
  go_wp2_with fail
  refine h1.mono ?_
  rintro e w1 ⟨s1, rfl, hs1, hb1⟩
  clear h1
  go_wp2_with fail
  refine (H2.out w1).mono ?_
  rintro e w2 ⟨s2, rfl, hs2, hb2⟩
  obtain rfl := bytes_one (hs1.trans hs2.symm)
  have HB : Hid (Below w.heap.size w w2) := hb1.trans (hb2.mono hb1.size)
  generalize O.2 = q at *
  clear hs1 hs2 hb1 hb2 H2
  go_wp2_with fail
  go_ret
  exact ⟨rfl, HB.out⟩
end Go.Proofs.Ytgdkfaphbbdnbaa

namespace Go.Proofs.Ytgdkfaphbbdnbaa.pressOpens
open Go.ChangeShapes Go.WideShapes Go.ChangeAt Go.RowKit
open Go.ChangeMaps (open_string shut_string)
set_option linter.unusedVariables false

theorem own : ownKnob Try.prog.godebug = none := by kernel_rfl

set_option maxRecDepth 100000 in
theorem lifted (os : Os) (started : os.Started) (H : Type) (enc : TypeId × Value → H) (F : Stop.Interp) :
    ReturnsInHanded {} Try.checked os 4 .any ((Rows.OpenSpec.upto Rows.pressOpensSpec).pre6 enc Try.prog Try.f4 Rows.pressOpensUptoRow.domain false) (((Rows.OpenSpec.upto Rows.pressOpensSpec).at F).post enc Try.prog Try.f4 false true false false) := by
  refine returnsInHanded_of_cond (C := Try.checked) (s := Rows.OpenSpec.upto Rows.pressOpensSpec) (k := Rows.uptoSmall) rfl own started (by kernel_rfl) Try.func4
    (OpenSpec.witness (enc := enc) (C := Try.checked) (s := Rows.OpenSpec.upto Rows.pressOpensSpec) (k := Rows.uptoSmall) rfl false ⟨#[], #[.string ByteArray.empty], []⟩ 8 (by kernel_rfl) (by kernel_rfl) (by kernel_rfl)
      (x := ([.lit (.string [])], [], [])) (by kernel_rfl) rfl (by kernel_rfl)) ?_
  intro W base args ds gs before hval0 hW _ hk _
  have hval : ∀ (j : Nat) t v, Try.f4.params[j]? = some t → args[j]? = some v → Value.okWide Try.prog W .any base t v := hval0
  have hW' := hW
  obtain ⟨p, q, hA0, hV, rfl, hfz, hnd⟩ := hW
  have hA : DataW.TrodAll enc Try.prog W 0 (fun _ => true) true Try.f4.params.toList args.toList ds p := hA0
  rw [Try.params4] at hA hval
  obtain ⟨v0, vs0, d0, ds0, p0, q0, hargs, rfl, rfl, h0, r0⟩ := trodAll_cons hA
  obtain ⟨rfl, rfl, rfl⟩ := trodAll_nil r0
  obtain rfl : args = #[v0] := by cases args; simp_all
  obtain ⟨rfl, rfl⟩ := trodVars_none hV
  obtain ⟨a0, rfl, rfl, rfl, w0⟩ := open_string Try.underlying9 (hval 0 9 v0 rfl rfl) h0
  simp only [List.append_nil] at hk
  have hbulk := of_decide_eq_true hk
  simp only [Rows.uptoBulkAll, Rows.uptoBulk] at hbulk
  have z0 : a0.size ≤ 1048576 := by
    rw [Lib.size_eq]; omega
  clear hA0 hval0 hk hbulk
  refine (pressOpens_walk a0 z0 W).mono fun e W' ⟨he, bel⟩ => ?_
  subst he
  exact ⟨_, rfl, _, _, _, [], _, [], hW', trodAll_mk1 (shut_bool Try.underlying4 _), (trodAll_cons_mk (shut_string Try.underlying9 w0) trodAll_mk0), rfl, bel.frame _, fun h => by cases h⟩

theorem over : Rows.pressOpensUptoRow.holds Try.pinned (Rows.OpenSpec.upto Rows.pressOpensSpec) :=
  OpenClaim.holds_of_cond 4 Try.f4 rfl rfl rfl rfl rfl rfl rfl ⟨rfl, rfl, rfl, rfl, rfl⟩ rfl rfl rfl rfl rfl (by kernel_rfl) Try.func4 (by kernel_rfl)
    (of_decide_eq_true (by kernel_rfl)) (by unfold Func.isWrapper; first | (rw [if_pos (by decide +kernel)]; kernel_rfl) | (rw [if_neg (by decide +kernel)]; exact ⟨rfl, rfl⟩))
    (fun os started H enc _ F => lifted os started H enc F)
end Go.Proofs.Ytgdkfaphbbdnbaa.pressOpens

namespace Go.Proofs.Ytgdkfaphbbdnbaa
theorem pressOpens_upto : Rows.PressOpensUptoSaid := pressOpens.over
end Go.Proofs.Ytgdkfaphbbdnbaa
