/-
  The walk of lumlaw.PackOnes: it returns true.
  lumlaw.PackOnes, at this commit, returns true whatever text and row of a list it is handed, where they hold together at most 1048576 values and letters: it changes nothing that was there, and it ends.
-/
import Derived.Test.YtkhejelmjkpgfaaG15
import Derived.Test.YtkhejelmjkpgfaaG13
import Derived.Test.YtkhejelmjkpgfaaRows
import Derived.WalkKit
import Derived.ProofKit
import Derived.OpenShut
import Derived.ShutString
import Derived.ChangeOld
import Derived.Below
import Derived.SizedLaws
import Derived.Laws.Cover2
import Derived.JoinedCond
import Derived.Test.YtkhejelmjkpgfaaG2

namespace Go.Proofs.Ytkhejelmjkpgfaa
open Go.RowKit
set_option maxRecDepth 4000

theorem ones_length (op : List UInt8 → List UInt8 × Int) (s : List UInt8) : ∀ (l : List Pk.En) (out : List Pk.Bl), (Pk.ones op s l out).1.length ≤ out.length + l.length
  | [], out => by rw [Pk.ones]; exact Nat.le_add_right _ _
  | x :: r, out => by
    rw [Pk.ones]
    split
    · exact Nat.zero_le _
    · have := ones_length op s r (out ++ [(Pk.one op s x).1])
      rw [List.length_append, List.length_singleton] at this
      rw [List.length_cons]
      omega
theorem split_forty (s : List UInt8) : (Pk.split Pr.op s).1.length ≤ 40 := by
  unfold Pk.split
  split
  · exact Nat.zero_le _
  · have h1 := ones_length Pr.op s (Pk.ls s).1 []
    have h2 := ls_forty s
    rw [List.length_nil] at h1
    omega

set_option maxHeartbeats 4000000 in
theorem packOnes_walk (a0 : ByteArray) (x1 : Ent) (z0 : a0.size ≤ 1048576) (_wx1 : EOk x1) (w : World) :
    Calls Try.prog 5 #[.string a0, enV x1] w fun e w' => e = .returned (.bool true) ∧ Below w.heap.size w w' := by
  have h1 := fun W => one_any a0 x1 W (by omega)
  have h2 := fun W => rone_any a0 x1 W z0
  have h3 := fun W => split_any a0 W (by omega)
  have h4 := fun W => rsplit_any a0 W z0
  have h40 : (Pk.split Pr.op a0.data.toList).1.length ≤ 40 := split_forty a0.data.toList
  generalize Pk.one Pr.op a0.data.toList x1.p = OR at *
  generalize Pk.split Pr.op a0.data.toList = SR at *
  obtain ⟨ob, oe⟩ := OR
  obtain ⟨sb, se⟩ := SR
  dsimp only at *
  obtain ⟨xid, hxid, kd, pp, qq⟩ := x1
  obtain ⟨b0, b1, b2, b3, b4, b5, b6, b7, rfl⟩ := eight xid hxid
  have h1' : ∀ W, Calls Try.prog 16 #[.string a0, .agg #[.int .u8 (b0.toNat : Int), .int .u8 (b1.toNat : Int), .int .u8 (b2.toNat : Int), .int .u8 (b3.toNat : Int), .int .u8 (b4.toNat : Int), .int .u8 (b5.toNat : Int), .int .u8 (b6.toNat : Int), .int .u8 (b7.toNat : Int), .int .i64 kd, .int .i64 pp, .int .i64 qq]] W fun e w' => ∃ b : Blb, e = .returned (.tuple #[blV b, .int .i64 oe]) ∧ b.p = ob ∧ Below W.heap.size W w' := h1
  have h2' : ∀ W, Calls Try.prog 17 #[.string a0, .agg #[.int .u8 (b0.toNat : Int), .int .u8 (b1.toNat : Int), .int .u8 (b2.toNat : Int), .int .u8 (b3.toNat : Int), .int .u8 (b4.toNat : Int), .int .u8 (b5.toNat : Int), .int .u8 (b6.toNat : Int), .int .u8 (b7.toNat : Int), .int .i64 kd, .int .i64 pp, .int .i64 qq]] W fun e w' => ∃ b : Blb, e = .returned (.tuple #[blV b, .int .i64 oe]) ∧ b.p = ob ∧ Below W.heap.size W w' := h2
  clear h1 h2
  show Calls _ _ #[.string a0, .agg #[.int .u8 (b0.toNat : Int), .int .u8 (b1.toNat : Int), .int .u8 (b2.toNat : Int), .int .u8 (b3.toNat : Int), .int .u8 (b4.toNat : Int), .int .u8 (b5.toNat : Int), .int .u8 (b6.toNat : Int), .int .u8 (b7.toNat : Int), .int .i64 kd, .int .i64 pp, .int .i64 qq]] w _
  have hX0 := Cz.new w #[.int .u8 (b0.toNat : Int), .int .u8 (b1.toNat : Int), .int .u8 (b2.toNat : Int), .int .u8 (b3.toNat : Int), .int .u8 (b4.toNat : Int), .int .u8 (b5.toNat : Int), .int .u8 (b6.toNat : Int), .int .u8 (b7.toNat : Int), .int .i64 kd, .int .i64 pp, .int .i64 qq] 38
  have hB0 : Below w.heap.size w (w.alloc (.cells #[.int .u8 (b0.toNat : Int), .int .u8 (b1.toNat : Int), .int .u8 (b2.toNat : Int), .int .u8 (b3.toNat : Int), .int .u8 (b4.toNat : Int), .int .u8 (b5.toNat : Int), .int .u8 (b6.toNat : Int), .int .u8 (b7.toNat : Int), .int .i64 kd, .int .i64 pp, .int .i64 qq] 38)) := (Below.refl _ w).alloc (Nat.le_refl _) _
  go_enter Try.func5, Try.ntmps5
  go_wp2_with fail
  refine (h1' _).mono ?_
  rintro e w1 ⟨b, rfl, hbo, hb1⟩
  have hX1 := hX0.below hb1 (by simp)
  have HB1 : Hid (Below w.heap.size w w1) := hB0.trans (hb1.mono (by simp))
  have hA1 : Below w1.heap.size w1 (w1.alloc (.cells #[.int .i64 b.kind, .string b.bytes] 24)) := (Below.refl _ w1).alloc (Nat.le_refl _) _
  have hX2 := hX1.below hA1 hX1.lt
  have hT2 := Cz.new w1 #[.int .i64 b.kind, .string b.bytes] 24
  have e0 := hX2.at_ 0 _ rfl
  have e1 := hX2.at_ 1 _ rfl
  have e2 := hX2.at_ 2 _ rfl
  have e3 := hX2.at_ 3 _ rfl
  have e4 := hX2.at_ 4 _ rfl
  have e5 := hX2.at_ 5 _ rfl
  have e6 := hX2.at_ 6 _ rfl
  have e7 := hX2.at_ 7 _ rfl
  have e8 := hX2.at_ 8 _ rfl
  have e9 := hX2.at_ 9 _ rfl
  have e10 := hX2.at_ 10 _ rfl
  have hw1 : w.heap.size < w1.heap.size := hX1.lt
  have HA1 : Hid (Below w.heap.size w (w1.alloc (.cells #[.int .i64 b.kind, .string b.bytes] 24))) := HB1.out.trans (hA1.mono HB1.out.size)
  unfold blV
  clear hX0 hX1 hb1 hB0 h1' hA1
  go_wp2_with fail
  refine (h2' _).mono ?_
  rintro e w3 ⟨b', rfl, hbo', hb3⟩
  obtain rfl : b = b' := Blb.p_inj (hbo.trans hbo'.symm)
  have hT3 := hT2.below hb3 hT2.lt
  have HB3 : Hid (Below w.heap.size w w3) := HA1.out.trans (hb3.mono (by simp; omega))
  have hs3 := HB3.out.size
  have hw3 : w1.heap.size < w3.heap.size := hT3.lt
  obtain ⟨W4, hW4⟩ : ∃ W4, W4 = w3.alloc (.cells #[.int .i64 b.kind, .string b.bytes] 24) := ⟨_, rfl⟩
  have hT4 : Cz W4 w1.heap.size (#[.int .i64 b.kind, .string b.bytes] : Array Value).toList := by rw [hW4]; exact hT3.below ((Below.refl _ w3).alloc (Nat.le_refl _) _) hT3.lt
  have hU4 : Cz W4 w3.heap.size (#[.int .i64 b.kind, .string b.bytes] : Array Value).toList := by rw [hW4]; exact Cz.new w3 _ _
  have HB4 : Hid (Below w.heap.size w W4) := by rw [hW4]; exact HB3.out.alloc hs3 _
  have hs4 := HB4.out.size
  unfold blV
  clear hX2 hT2 hT3 hb3 h2' hbo hbo' e0 e1 e2 e3 e4 e5 e6 e7 e8 e9 e10
  go_upto_region 3 with fail
  rw [← hW4]
  clear hW4
  go_wp2_with fail
  refine (h3 _).mono ?_
  rintro e w5 ⟨v5, rfl, bs, hbs, ho5, hb5⟩
  have hT5 := hT4.below hb5 hT4.lt
  have hU5 := hU4.below hb5 hU4.lt
  have HX5 : Hid (Bx w5 v5 bs) := Rx.of_own blC_length ho5
  have HB5 : Hid (Below w.heap.size w w5) := HB4.out.trans (hb5.mono hs4)
  obtain ⟨a5, c5, rfl⟩ := own_form ho5
  clear h3 hb5 ho5 hT4 hU4
  go_wp2_with fail
  refine (h4 _).mono ?_
  rintro e w6 ⟨v6, rfl, bs', hbs', ho6, hb6⟩
  obtain rfl : bs = bs' := blbs_once (hbs.trans hbs'.symm)
  have hb40 : bs.length ≤ 40 := by rw [← hbs, List.length_map] at h40; exact h40
  have hT6 := hT5.below hb6 hT5.lt
  have hU6 := hU5.below hb6 hU5.lt
  have heq := equal_blobs _ _ bs w6 (HX5.out.below hb6) (Rx.of_own blC_length ho6) (by omega)
  have HB6 : Hid (Below w.heap.size w w6) := HB5.out.trans (hb6.mono HB5.out.size)
  obtain ⟨a6, c6, rfl⟩ := own_form ho6
  have t0 := hT6.at_ 0 _ rfl
  have t1 := hT6.at_ 1 _ rfl
  have u0 := hU6.at_ 0 _ rfl
  have u1 := hU6.at_ 1 _ rfl
  have hcmp := fun W => bl_cmp W b b
  rw [blSame_self] at hcmp
  clear h4 hb6 ho6 hT5 hU5 hT6 hU6 hbs hbs' h40
  go_wp2_with fail
  refine heq.mono ?_
  rintro e w7 ⟨rfl, hb7⟩
  have HB7 : Hid (Below w.heap.size w w7) := HB6.out.trans (hb7.mono HB6.out.size)
  clear hb7 heq
  go_wp2_with fail
  go_ret
  exact ⟨rfl, HB7.out⟩
end Go.Proofs.Ytkhejelmjkpgfaa

namespace Go.Proofs.Ytkhejelmjkpgfaa.packOnes
open Go.ChangeShapes Go.WideShapes Go.ChangeAt Go.RowKit
open Go.ChangeMaps (open_string shut_string)
set_option linter.unusedVariables false

theorem own : ownKnob Try.prog.godebug = none := by kernel_rfl

set_option maxRecDepth 100000 in
theorem lifted (os : Os) (started : os.Started) (H : Type) (enc : TypeId × Value → H) (F : Stop.Interp) :
    ReturnsInHanded {} Try.checked os 5 .any ((Rows.OpenSpec.upto Rows.packOnesSpec).pre6 enc Try.prog Try.f5 Rows.packOnesUptoRow.domain false) (((Rows.OpenSpec.upto Rows.packOnesSpec).at F).post enc Try.prog Try.f5 false true false false) := by
  refine returnsInHanded_of_cond (C := Try.checked) (s := Rows.OpenSpec.upto Rows.packOnesSpec) (k := Rows.uptoSmall) rfl own started (by kernel_rfl) Try.func5
    (OpenSpec.witness (enc := enc) (C := Try.checked) (s := Rows.OpenSpec.upto Rows.packOnesSpec) (k := Rows.uptoSmall) rfl false ⟨#[], #[.string ByteArray.empty, .agg #[.int .u8 0, .int .u8 0, .int .u8 0, .int .u8 0, .int .u8 0, .int .u8 0, .int .u8 0, .int .u8 0, .int .i64 0, .int .i64 0, .int .i64 0]], []⟩ 8 (by kernel_rfl) (by kernel_rfl) (by kernel_rfl)
      (x := ([.lit (.string []), .agg [.agg [.lit (.int .u8 0), .lit (.int .u8 0), .lit (.int .u8 0), .lit (.int .u8 0), .lit (.int .u8 0), .lit (.int .u8 0), .lit (.int .u8 0), .lit (.int .u8 0)], .lit (.int .i64 0), .lit (.int .i64 0), .lit (.int .i64 0)]], [], [])) (by kernel_rfl) rfl (by kernel_rfl)) ?_
  intro W base args ds gs before hval0 hW _ hk _
  have hval : ∀ (j : Nat) t v, Try.f5.params[j]? = some t → args[j]? = some v → Value.okWide Try.prog W .any base t v := hval0
  have hW' := hW
  obtain ⟨p, q, hA0, hV, rfl, hfz, hnd⟩ := hW
  have hA : DataW.TrodAll enc Try.prog W 0 (fun _ => true) true Try.f5.params.toList args.toList ds p := hA0
  rw [Try.params5] at hA hval
  obtain ⟨v0, vs0, d0, ds0, p0, q0, hargs, rfl, rfl, h0, r0⟩ := trodAll_cons hA
  obtain ⟨v1, vs1, d1, ds1, p1, q1, rfl, rfl, rfl, h1, r1⟩ := trodAll_cons r0
  obtain ⟨rfl, rfl, rfl⟩ := trodAll_nil r1
  obtain rfl : args = #[v0, v1] := by cases args; simp_all
  obtain ⟨rfl, rfl⟩ := trodVars_none hV
  obtain ⟨a0, rfl, rfl, rfl, w0⟩ := open_string Try.underlying9 (hval 0 9 v0 rfl rfl) h0
  obtain ⟨x1, rfl, rfl, rfl, wx1⟩ := open_ent (hval 1 38 v1 rfl rfl) h1
  simp only [List.append_nil] at hk
  have hbulk := of_decide_eq_true hk
  simp only [Rows.uptoBulkAll, Rows.uptoBulk] at hbulk
  have z0 : a0.size ≤ 1048576 := by
    rw [Lib.size_eq]; omega
  clear hA0 hval0 hk hbulk
  refine (packOnes_walk a0 x1 z0 wx1 W).mono fun e W' ⟨he, bel⟩ => ?_
  subst he
  exact ⟨_, rfl, _, _, _, [], _, [], hW', trodAll_mk1 (shut_bool Try.underlying4 _), (trodAll_cons_mk (shut_string Try.underlying9 w0) (trodAll_cons_mk (shut_ent wx1) trodAll_mk0)), rfl, bel.frame _, fun h => by cases h⟩

theorem over : Rows.packOnesUptoRow.holds Try.pinned (Rows.OpenSpec.upto Rows.packOnesSpec) :=
  OpenClaim.holds_of_cond 5 Try.f5 rfl rfl rfl rfl rfl rfl rfl ⟨rfl, rfl, rfl, rfl, rfl⟩ rfl rfl rfl rfl rfl (by kernel_rfl) Try.func5 (by kernel_rfl)
    (of_decide_eq_true (by kernel_rfl)) (by unfold Func.isWrapper; first | (rw [if_pos (by decide +kernel)]; kernel_rfl) | (rw [if_neg (by decide +kernel)]; exact ⟨rfl, rfl⟩))
    (fun os started H enc _ F => lifted os started H enc F)
end Go.Proofs.Ytkhejelmjkpgfaa.packOnes

namespace Go.Proofs.Ytkhejelmjkpgfaa
theorem packOnes_upto : Rows.PackOnesUptoSaid := packOnes.over
end Go.Proofs.Ytkhejelmjkpgfaa
