/-
  The walk of lumkeep.PackTrue: it returns true.
  lumkeep.PackTrue, at this commit, returns true whatever text and row of a list it is handed: it changes nothing that was there, and it ends.
-/
import Derived.Test.YtkhejelmjkpgfaaG11
import Derived.Test.YtkhejelmjkpgfaaG12
import Derived.Test.YtkhejelmjkpgfaaRows
import Derived.WalkKit
import Derived.ProofKit
import Derived.OpenShut
import Derived.ShutString
import Derived.ChangeOld
import Derived.Below
import Derived.SizedLaws
import Derived.Laws.Cover2
import Derived.Test.YtkhejelmjkpgfaaG2

namespace Go.Proofs.Ytkhejelmjkpgfaa
open Go.RowKit
set_option maxRecDepth 4000

set_option maxHeartbeats 4000000 in
theorem packTrue_walk (a0 : ByteArray) (x1 : Ent) (z0 : a0.size ≤ 140737488351232) (_wx1 : EOk x1) (w : World) :
    Calls Try.prog 8 #[.string a0, enV x1] w fun e w' => e = .returned (.bool true) ∧ Below w.heap.size w w' := by
  have hone := fun W => one_any a0 x1 W z0
  have htr := Pk.one_true Pr.op a0.data.toList x1.p (fun u _ => (Pr.op_fine u).1)
  generalize Pk.one Pr.op a0.data.toList x1.p = OR at *
  obtain ⟨ob, oe⟩ := OR
  obtain ⟨xid, hxid, kd, pp, qq⟩ := x1
  obtain ⟨b0, b1, b2, b3, b4, b5, b6, b7, rfl⟩ := eight xid hxid
  have hone' : ∀ W, Calls Try.prog 16 #[.string a0, .agg #[.int .u8 (b0.toNat : Int), .int .u8 (b1.toNat : Int), .int .u8 (b2.toNat : Int), .int .u8 (b3.toNat : Int), .int .u8 (b4.toNat : Int), .int .u8 (b5.toNat : Int), .int .u8 (b6.toNat : Int), .int .u8 (b7.toNat : Int), .int .i64 kd, .int .i64 pp, .int .i64 qq]] W fun e w' => ∃ b : Blb, e = .returned (.tuple #[blV b, .int .i64 oe]) ∧ b.p = ob ∧ Below W.heap.size W w' := hone
  have HTR1 : Hid (oe ≠ 0 → ob = (0, [])) := htr.1
  have HTR2 : Hid (oe = 0 → Pk.bErr ob = 0 ∧ Pk.bid ob = [b0, b1, b2, b3, b4, b5, b6, b7] ∧ ob.1 = kd) := htr.2
  clear hone htr
  show Calls _ _ #[.string a0, .agg #[.int .u8 (b0.toNat : Int), .int .u8 (b1.toNat : Int), .int .u8 (b2.toNat : Int), .int .u8 (b3.toNat : Int), .int .u8 (b4.toNat : Int), .int .u8 (b5.toNat : Int), .int .u8 (b6.toNat : Int), .int .u8 (b7.toNat : Int), .int .i64 kd, .int .i64 pp, .int .i64 qq]] w _
  have hX0 := Cz.new w #[.int .u8 (b0.toNat : Int), .int .u8 (b1.toNat : Int), .int .u8 (b2.toNat : Int), .int .u8 (b3.toNat : Int), .int .u8 (b4.toNat : Int), .int .u8 (b5.toNat : Int), .int .u8 (b6.toNat : Int), .int .u8 (b7.toNat : Int), .int .i64 kd, .int .i64 pp, .int .i64 qq] 38
  have hB0 : Below w.heap.size w (w.alloc (.cells #[.int .u8 (b0.toNat : Int), .int .u8 (b1.toNat : Int), .int .u8 (b2.toNat : Int), .int .u8 (b3.toNat : Int), .int .u8 (b4.toNat : Int), .int .u8 (b5.toNat : Int), .int .u8 (b6.toNat : Int), .int .u8 (b7.toNat : Int), .int .i64 kd, .int .i64 pp, .int .i64 qq] 38)) := (Below.refl _ w).alloc (Nat.le_refl _) _
  go_enter Try.func8, Try.ntmps8
  go_wp2_with fail
  refine (some_any _).mono ?_
  rintro e w1 ⟨t, rfl, ht1, ht2, hb1⟩
  have hX1 := hX0.below hb1 (by simp)
  have HB1 : Hid (Below w.heap.size w w1) := hB0.trans (hb1.mono (by simp))
  have hA1 : Below w1.heap.size w1 (w1.alloc (.cells #[.int .i64 1, .string ⟨#[97, 98]⟩] 24)) := (Below.refl _ w1).alloc (Nat.le_refl _) _
  have hX2 := hX1.below hA1 hX1.lt
  have e0 := hX2.at_ 0 _ rfl
  have e1 := hX2.at_ 1 _ rfl
  have e2 := hX2.at_ 2 _ rfl
  have e3 := hX2.at_ 3 _ rfl
  have e4 := hX2.at_ 4 _ rfl
  have e5 := hX2.at_ 5 _ rfl
  have e6 := hX2.at_ 6 _ rfl
  have e7 := hX2.at_ 7 _ rfl
  have e8 := hX2.at_ 8 _ rfl
  have e9 := hX2.at_ 9 _ rfl
  have e10 := hX2.at_ 10 _ rfl
  have hw1 : w.heap.size < w1.heap.size := hX1.lt
  have htt : ¬ t.size < 20 := by omega
  clear hX0 hX1 hb1 hB0
  go_wp2_with fail
  refine (hone' _).mono ?_
  rintro e w3 ⟨b, rfl, hbo, hb3⟩
  have hX3 := hX2.below hb3 hX2.lt
  have HB3 : Hid (Below w.heap.size w w3) := (HB1.out.trans (hA1.mono HB1.out.size)).trans (hb3.mono (by simp; omega))
  have hs3 := HB3.out.size
  unfold blV
  clear hX2 hA1 hone' hb3 e0 e1 e2 e3 e4 e5 e6 e7 e8 e9 e10
  by_cases hE : oe = 0
  · subst hE
    obtain ⟨hbe, hbi, hbk⟩ := HTR2.out rfl
    rw [← hbo] at hbe hbi hbk
    have hkk : b.kind = kd := hbk
    obtain ⟨kk, hkn, _, hbz⟩ := kind_of hbe
    have hpid := fun W => pid_any b W (by omega)
    rw [hbe, show idOr b = [b0, b1, b2, b3, b4, b5, b6, b7] from by rw [idOr, if_pos hbe]; exact hbi, ] at hpid
    have hpid' : ∀ W, Calls Try.prog 9 #[.agg #[.int .i64 kd, .string b.bytes]] W fun e w' => e = .returned (.tuple #[.agg #[.int .u8 (b0.toNat : Int), .int .u8 (b1.toNat : Int), .int .u8 (b2.toNat : Int), .int .u8 (b3.toNat : Int), .int .u8 (b4.toNat : Int), .int .u8 (b5.toNat : Int), .int .u8 (b6.toNat : Int), .int .u8 (b7.toNat : Int)], .int .i64 0]) ∧ Below W.heap.size W w' := by rw [← hkk]; exact hpid
    have heq : ∀ W, (Op.equalIn 10000 26 (.agg #[.int .u8 (b0.toNat : Int), .int .u8 (b1.toNat : Int), .int .u8 (b2.toNat : Int), .int .u8 (b3.toNat : Int), .int .u8 (b4.toNat : Int), .int .u8 (b5.toNat : Int), .int .u8 (b6.toNat : Int), .int .u8 (b7.toNat : Int)]) (.agg #[.int .u8 (b0.toNat : Int), .int .u8 (b1.toNat : Int), .int .u8 (b2.toNat : Int), .int .u8 (b3.toNat : Int), .int .u8 (b4.toNat : Int), .int .u8 (b5.toNat : Int), .int .u8 (b6.toNat : Int), .int .u8 (b7.toNat : Int)])).run Try.prog W = .ok true W := fun W => by
      have := id_eq W [b0, b1, b2, b3, b4, b5, b6, b7] [b0, b1, b2, b3, b4, b5, b6, b7] rfl rfl
      rw [beq_self_eq_true] at this
      exact this
    have hw3 : w.heap.size < w3.heap.size := hX3.lt
    rw [hkk]
    clear hpid hbe hbi hbk hbo hkk hkn
    go_wp2_with fail
    refine (hpid' _).mono ?_
    rintro e w4 ⟨rfl, hb4⟩
    have hT4 := (Cz.new w3 #[.int .i64 kd, .string b.bytes] 24).below hb4 (by simp)
    have hX4 := hX3.below (below_past hb4) hX3.lt
    have HB4 : Hid (Below w.heap.size w w4) := HB3.out.trans ((below_past hb4).mono hs3)
    have hs4 := HB4.out.size
    have hw4 : w.heap.size < w4.heap.size := hX4.lt
    have hw43 : w3.heap.size < w4.heap.size := hT4.lt
    have e0 := hX4.at_ 0 _ rfl
    have e1 := hX4.at_ 1 _ rfl
    have e2 := hX4.at_ 2 _ rfl
    have e3 := hX4.at_ 3 _ rfl
    have e4 := hX4.at_ 4 _ rfl
    have e5 := hX4.at_ 5 _ rfl
    have e6 := hX4.at_ 6 _ rfl
    have e7 := hX4.at_ 7 _ rfl
    have e8 := hX4.at_ 8 _ rfl
    have e9 := hX4.at_ 9 _ rfl
    have e10 := hX4.at_ 10 _ rfl
    have t0 := hT4.at_ 0 _ rfl
    clear hX3 hX4 hT4 hb4 hpid'
    go_wp2_with fail
    go_ret
    exact ⟨rfl, HB4.out.alloc hs4 _⟩
  · have hb0 := HTR1.out hE
    rw [← hbo] at hb0
    obtain rfl : b = ⟨0, ⟨#[]⟩⟩ := Blb.p_inj hb0
    have hE2 : (oe == 0) = false := beq_eq_false_iff_ne.2 hE
    have hcmp := fun W => bl_cmp W ⟨0, ⟨#[]⟩⟩ ⟨0, ⟨#[]⟩⟩
    rw [blSame_self] at hcmp
    dsimp only at hcmp ⊢
    clear hE hb0 hbo hX3
    go_wp2_with fail
    go_ret
    exact ⟨rfl, HB3.out.alloc hs3 _⟩
end Go.Proofs.Ytkhejelmjkpgfaa

namespace Go.Proofs.Ytkhejelmjkpgfaa.packTrue
open Go.ChangeShapes Go.WideShapes Go.ChangeAt Go.RowKit
open Go.ChangeMaps (open_string shut_string)
set_option linter.unusedVariables false

theorem own : ownKnob Try.prog.godebug = none := by kernel_rfl

set_option maxRecDepth 100000 in
theorem lifted (os : Os) (started : os.Started) (H : Type) (enc : TypeId × Value → H) :
    ReturnsInHanded {} Try.checked os 8 .any (Rows.packTrueSpec.pre6 enc Try.prog Try.f8 Rows.packTrueRow.domain false) (Rows.packTrueSpec.post enc Try.prog Try.f8 false true false false) := by
  refine returnsInHanded_of_change_sized (C := Try.checked) own started (by kernel_rfl) Try.func8
    (ChangeSpec.witness6 (enc := enc) (C := Try.checked) false ⟨#[], #[.string ByteArray.empty, .agg #[.int .u8 0, .int .u8 0, .int .u8 0, .int .u8 0, .int .u8 0, .int .u8 0, .int .u8 0, .int .u8 0, .int .i64 0, .int .i64 0, .int .i64 0]], []⟩ 8 (by kernel_rfl) (by kernel_rfl) (by kernel_rfl) (by kernel_rfl)) ?_
  intro W base args ds gs before hval0 hW hcnd hsz0 _
  have hval : ∀ (j : Nat) t v, Try.f8.params[j]? = some t → args[j]? = some v → Value.okWide Try.prog W .any base t v := hval0
  have hW' := hW
  obtain ⟨p, q, hA0, hV, rfl, hfz, hnd⟩ := hW
  have hA : DataW.TrodAll enc Try.prog W 0 (fun _ => true) true Try.f8.params.toList args.toList ds p := hA0
  have hsz : (DataW.weightsEach Try.prog (Try.f8.params.toList ++ Rows.packTrueSpec.plain.varTypes Try.prog) (ds ++ gs)).all (· ≤ reachBytes) = true := hsz0
  rw [Try.params8] at hA hval hsz
  obtain ⟨v0, vs0, d0, ds0, p0, q0, hargs, rfl, rfl, h0, r0⟩ := trodAll_cons hA
  obtain ⟨v1, vs1, d1, ds1, p1, q1, rfl, rfl, rfl, h1, r1⟩ := trodAll_cons r0
  obtain ⟨rfl, rfl, rfl⟩ := trodAll_nil r1
  obtain rfl : args = #[v0, v1] := by cases args; simp_all
  obtain ⟨rfl, rfl⟩ := trodVars_none hV
  obtain ⟨a0, rfl, rfl, rfl, w0⟩ := open_string Try.underlying9 (hval 0 9 v0 rfl rfl) h0
  obtain ⟨x1, rfl, rfl, rfl, wx1⟩ := open_ent (hval 1 38 v1 rfl rfl) h1
  have z0 : a0.size ≤ 140737488351232 := by
    have := sized_string hsz (j := 0) (t := 9) rfl rfl
    simp only [reachBytes] at this
    rw [Lib.size_eq]; exact this
  clear hA0 hval0 hsz hsz0
  refine (packTrue_walk a0 x1 z0 wx1 W).mono fun e W' ⟨he, bel⟩ => ?_
  subst he
  exact ⟨_, rfl, _, _, _, [], _, [], hW', trodAll_mk1 (shut_bool Try.underlying4 _), (trodAll_cons_mk (shut_string Try.underlying9 w0) (trodAll_cons_mk (shut_ent wx1) trodAll_mk0)), rfl, bel.frame _, fun h => by cases h⟩

theorem over : Rows.packTrueRow.holds Try.pinned (OpenSpec.ofChange Rows.packTrueSpec) :=
  OpenClaim.holds_of_wide 8 Try.f8 rfl rfl rfl rfl rfl rfl rfl ⟨rfl, rfl, rfl, rfl, rfl⟩ rfl rfl rfl rfl rfl (by kernel_rfl) Try.func8 (by kernel_rfl)
    (of_decide_eq_true (by kernel_rfl)) (by unfold Func.isWrapper; first | (rw [if_pos (by decide +kernel)]; kernel_rfl) | (rw [if_neg (by decide +kernel)]; exact ⟨rfl, rfl⟩))
    (fun os started H enc _ => lifted os started H enc)
end Go.Proofs.Ytkhejelmjkpgfaa.packTrue

namespace Go.Proofs.Ytkhejelmjkpgfaa
theorem packTrue_holds : Rows.PackTrueSaid := packTrue.over
end Go.Proofs.Ytkhejelmjkpgfaa
