/-
  The walk of lumkeep.TreeBack: it returns true.
  For every list of nodes: nodes are read as they were written (whatever package-level variables hold but the two listed tables)
-/
import Derived.Test.YtcgecafajgoeeaaDoorGTg
import Derived.Test.YtcgecafajgoeeaaDoorTrLaws
import Derived.Test.YtcgecafajgoeeaaDoorRtSame
import Derived.Test.YtcgecafajgoeeaaDoorCards
import Derived.Test.YtcgecafajgoeeaaDoorTie
import Derived.Test.YtcgecafajgoeeaaDoorNnTabs
import Derived.Test.YtcgecafajgoeeaaDoorNdOpen
import Derived.Test.YtcgecafajgoeeaaDoorNdBulk
import Derived.Carry
import Derived.WalkKit
import Derived.ProofKit
import Derived.OpenShut
import Derived.ShutString
import Derived.ChangeOld
import Derived.Below
import Derived.SizedLaws
import Derived.Laws.Cover2
import Derived.Deep.DeepHandedRow
import Derived.Shelf.Vars

namespace Go.Proofs.YtcgecafajgoeeaaDoor
open Go.RowKit
set_option maxRecDepth 4000

set_option maxRecDepth 8000 in
set_option maxHeartbeats 2000000 in
theorem treeBack_walk (v0 : Value) (l0 : List Nod) (z0 : l0.length ≤ 9223372036854775807) (w : World) (t0 : Nds w v0 l0) (hT : Tabs w) :
    Calls Tryd.prog 5 #[v0] w fun e w' => e = .returned (.bool true) ∧ Below w.heap.size w w' := by
  have HX : Hid (Nds w v0 l0 ∧ Tabs w) := ⟨t0, hT⟩
  obtain ⟨W1, hW1⟩ : ∃ W1, W1 = w.alloc (.cells #[.string ⟨#[97]⟩, .int .i64 3, .int .i64 0, .int .i64 0, .int .i64 0, .slice none 0 0, .string ⟨#[98]⟩] 32) := ⟨_, rfl⟩
  have HB1 : Hid (Below w.heap.size w W1) := by rw [hW1]; exact (Below.refl _ w).alloc (Nat.le_refl _) _
  have hr : Nds W1 (.slice (some ⟨w.heap.size, 0, none⟩) 1 1) [nodA] := by rw [hW1]; exact nodA_row w
  have h1 := twrite_any _ [nodA] W1 hr (by simp) (hT.below HB1.out)
  obtain ⟨wa1, wa2⟩ := write_a
  rw [wa1] at h1
  have h2 := fun W (hW : Below w.heap.size w W) => twrite_any v0 l0 W (HX.out.1.below hW) z0 (HX.out.2.below hW)
  have HWr : Hid ((Td.write (nds l0)).2 ≠ 0 → (Td.write (nds l0)).1 = []) := Td.write_bad
  have HRd : Hid ((Td.write (nds l0)).2 = 0 → Td.read (Td.write (nds l0)).1 = (nds l0, 0)) := fun h => Td.read_write t0.wn (Prod.ext rfl h)
  have h3 := fun W (hW : Below w.heap.size w W) => tread_any ⟨(Td.write (nds l0)).1.toArray⟩ W (write_size l0) (HX.out.2.below hW)
  unfold TgOut at h3
  have h4 := fun W v' (hW : Below w.heap.size w W) (hv : Nds W v' l0) => sameNodes_any v0 v' l0 W (HX.out.1.below hW) hv z0
  generalize (Td.write (nds [nodA])).1 = S0 at *
  generalize (Td.write (nds l0)).1 = S at *
  generalize (Td.write (nds l0)).2 = F at *
  have e1 : S0.isEmpty = false := by cases S0 with | nil => exact absurd rfl wa2 | cons a b => rfl
  obtain ⟨a, c, rfl⟩ := t0.slice
  generalize hN : l0.length = N at *
  clear hT t0 wa1 wa2 hr hN
  go_enter Tryd.func5, Tryd.ntmps5
  go_wp2_with fail
  rw [← hW1]
  clear hW1
  refine h1.mono ?_
  rintro e w1 ⟨rfl, b1⟩
  have HB1w : Hid (Below w.heap.size w w1) := HB1.out.trans (b1.mono HB1.out.size)
  have k2 := h2 w1 HB1w.out
  clear h1 b1 h2
  go_wp2_with fail
  refine k2.mono ?_
  rintro e w2 ⟨rfl, b2⟩
  have HB2 : Hid (Below w.heap.size w w2) := HB1w.out.trans (b2.mono HB1w.out.size)
  clear k2 b2
  by_cases hF : F ≠ 0
  · have hqn : (F != 0) = true := by rw [bne_iff_ne]; exact hF
    have hS := HWr.out hF
    subst hS
    clear HWr HRd h3 h4
    go_wp2_with fail
    go_ret
    exact ⟨by simp, HB2.out⟩
  obtain rfl := Decidable.not_not.mp hF
  have k3 := h3 w2 HB2.out
  have HRe : Hid (Td.read S = (nds l0, 0)) := HRd.out (by first | rfl | trivial)
  clear HWr HRd h3 hF
  go_wp2_with fail
  refine k3.mono ?_
  rintro e w3 ⟨v2, l2, rfl, hd, hn2, _, b3⟩
  have HB3 : Hid (Below w.heap.size w w3) := HB2.out.trans (b3.mono HB2.out.size)
  have hre : Td.read S = (nds l0, 0) := HRe.out
  have hl2 : l2 = l0 := nds_inj (by rw [hd]; show (Td.read S).1 = _; rw [hre])
  subst hl2
  have k4 := h4 w3 v2 HB3.out hn2
  have hz : (Td.read (⟨S.toArray⟩ : ByteArray).data.toList).2 = 0 := by show (Td.read S).2 = 0; rw [hre]
  rw [hz]
  obtain ⟨a2, c2, rfl⟩ := hn2.slice
  generalize hN2 : l2.length = N2 at *
  clear k3 b3 hd hn2 h4 hre HRe hz hN2
  go_wp2_with fail
  refine k4.mono ?_
  rintro e w4 ⟨rfl, b4⟩
  have HB4 : Hid (Below w.heap.size w w4) := HB3.out.trans (b4.mono HB3.out.size)
  clear k4 b4
  go_wp2_with fail
  go_ret
  exact ⟨rfl, HB4.out⟩
end Go.Proofs.YtcgecafajgoeeaaDoor

namespace Go.Proofs.YtcgecafajgoeeaaDoor.treeBack
open Go.ChangeShapes Go.WideShapes Go.ChangeAt Go.RowKit
open Go.ChangeMaps (open_string shut_string)
set_option linter.unusedVariables false

theorem own : ownKnob Tryd.prog.godebug = none := by kernel_rfl

set_option maxRecDepth 100000 in
/-- what the walk gives, for every argument and every world in which the tables are as they are laid -/
theorem contract (H : Type) (enc : TypeId × Value → H) (F : Stop.Interp) (W : World) (base : Nat) (args : Array Value) (ds gs : List (DataW H)) (before : List MemPlace)
    (hval0 : ∀ (j : Nat) t v, Tryd.f5.params[j]? = some t → args[j]? = some v → Value.okWide Tryd.prog W .any base t v)
    (hW : DataW.Whole enc Tryd.prog Tryd.f5.params.toList Rows.treeBackSpec.vars false W args.toList ds gs before)
    (hsz0 : (DataW.weightsEach Tryd.prog (Tryd.f5.params.toList ++ Rows.treeBackSpec.plain.varTypes Tryd.prog) (ds ++ gs)).all (· ≤ reachBytes) = true) (hT : Tabs W) :
    Calls Tryd.prog 5 args W fun e W' => ∃ v, e = .returned v ∧ ((OpenSpec.ofChange Rows.treeBackSpec).at F).post enc Tryd.prog Tryd.f5 false true false false W args v W' := by
  have hval : ∀ (j : Nat) t v, Tryd.f5.params[j]? = some t → args[j]? = some v → Value.okWide Tryd.prog W .any base t v := hval0
  have hW' := hW
  obtain ⟨p, q, hA0, hV, rfl, hfz, hnd⟩ := hW
  have hA : DataW.TrodAll enc Tryd.prog W 0 (fun _ => true) true Tryd.f5.params.toList args.toList ds p := hA0
  have hsz : (DataW.weightsEach Tryd.prog (Tryd.f5.params.toList ++ Rows.treeBackSpec.plain.varTypes Tryd.prog) (ds ++ gs)).all (· ≤ reachBytes) = true := hsz0
  rw [Tryd.params5] at hA hval hsz
  obtain ⟨v0, vs0, d0, ds0, p0, q0, hargs, rfl, rfl, h0, r0⟩ := trodAll_cons hA
  obtain ⟨rfl, rfl, rfl⟩ := trodAll_nil r0
  obtain rfl : args = #[v0] := by cases args; simp_all
  obtain ⟨rfl, rfl⟩ := trodVars_none hV
  obtain ⟨sa0, len0, cap0, rfl⟩ := okWide_slice Tryd.underlying22 (hval 0 22 v0 rfl rfl)
  have h0k := h0
  obtain ⟨fuel0, hf0⟩ := h0
  have hlts : ∀ x ∈ p0, x.block < W.heap.size := fun x hx => Nat.lt_of_lt_of_eq (hW'.lt x (by simpa using hx)) (by simp)
  have hlt0 : ∀ x ∈ p0, x.block < W.heap.size := fun x hx => hlts x (hx)
  have hargs0 : ∀ (W' : World), Below W.heap.size W W' → DataW.Trod enc Tryd.prog W' 0 (fun b => decide (b < W.heap.size)) true 22 (.slice sa0 len0 cap0) d0 p0 :=
    fun W' hn => Below.trod (by kernel_rfl) (by kernel_rfl) (of_decide_eq_true (by kernel_rfl)) h0k hn hlt0
  obtain ⟨l0, hl0, hcp0, hcap0, hsize0⟩ := open_nds hf0 hlt0
  have z0 : l0.length ≤ 9223372036854775807 := by
    obtain ⟨a, c, e⟩ := hl0.slice
    cases e
    omega
  clear hA0 hval0 hsz hsz0
  refine (treeBack_walk _ l0 z0 W hl0 hT).mono fun e W' ⟨he, bel⟩ => ?_
  subst he
  exact ⟨_, rfl, _, _, _, [], _, [], hW', trodAll_mk1 (shut_bool Tryd.underlying4 _), (trodAll_cons_mk (hargs0 _ bel) trodAll_mk0), rfl, bel.frame _, fun h => by cases h⟩

/-- a world in which the two tables hold what their initialisers lay -/
theorem laid_world (os : Os) : ∃ w0 : World, w0.os = os ∧
    (w0.forCall (fun _ _ => 0) ⟨#[], #[Value.slice none 0 0], []⟩).variablesB Tryd.prog = true ∧
    ((w0.forCall (fun _ _ => 0) ⟨#[], #[Value.slice none 0 0], []⟩).heap.toList.drop Tryd.prog.globals.size).take ((begin Tryd.prog (fun _ _ => 0) default).world.heap.size - Tryd.prog.globals.size) =
      (begin Tryd.prog (fun _ _ => 0) default).world.heap.toList.drop Tryd.prog.globals.size ∧
    Input.okWideB Tryd.prog (w0.forCall (fun _ _ => 0) ⟨#[], #[Value.slice none 0 0], []⟩) 5 ⟨#[], #[Value.slice none 0 0], []⟩ = true ∧
    laidMet Tryd.prog Rows.treeBackRow.laid (w0.forCall (fun _ _ => 0) ⟨#[], #[Value.slice none 0 0], []⟩).memory ∧
    ∀ (H : Type) (enc : TypeId × Value → H), ∃ places, DataW.whole enc Tryd.prog (w0.forCall (fun _ _ => 0) ⟨#[], #[Value.slice none 0 0], []⟩).memory Tryd.f5.params.toList Rows.treeBackSpec.vars false #[Value.slice none 0 0].toList 8 = some ([.nil], [], places) :=
  ⟨{ World.holding Tryd.prog os ⟨#[], #[], []⟩ with
      heap := ((World.holding Tryd.prog os ⟨#[], #[], []⟩).heap.modify 0 (fun o => match o with
        | .cells _ t frozen => .cells (Go.Pinned.utf8FirstZ.map fun (n : Nat) => Value.int .u8 (n : Int)).toArray t frozen
        | o => o)).modify 1 (fun o => match o with
        | .cells _ t frozen => .cells ([128, 191, 160, 191, 128, 159, 144, 191, 128, 143, 0, 0, 0, 0, 0, 0, 0, 0, 0, 0, 0, 0, 0, 0, 0, 0, 0, 0, 0, 0, 0, 0].map fun n => Value.int .u8 n).toArray t frozen
        | o => o) }, rfl, by kernel_rfl, by kernel_rfl, by kernel_rfl, laidMet_of_run' 8 (by kernel_rfl) (by kernel_rfl), fun _ _ => ⟨[], by kernel_rfl⟩⟩

set_option maxRecDepth 100000 in
theorem lifted (os : Os) (started : os.Started) (H : Type) (enc : TypeId × Value → H) (F : Stop.Interp) :
    ReturnsInHanded {} Tryd.checked os 5 .any ((OpenSpec.ofChange Rows.treeBackSpec).preRow enc Tryd.prog Tryd.f5 Rows.treeBackRow.domain false Rows.treeBackRow.laid) (((OpenSpec.ofChange Rows.treeBackSpec).at F).post enc Tryd.prog Tryd.f5 false true false false) := by
  obtain ⟨w0, h1, h2, h3, h4, h5, h6⟩ := laid_world os
  obtain ⟨places, hx⟩ := h6 H enc
  refine returnsInHanded_of_row (C := Tryd.checked) (s := (OpenSpec.ofChange Rows.treeBackSpec)) own started (by kernel_rfl) Tryd.func5
    (witness_row_at (enc := enc) (C := Tryd.checked) false w0 #[Value.slice none 0 0] h1 h2 h3 h4
      (OpenSpec.preRow_of_cond 8 hx (by kernel_rfl) (fun k hk => by cases hk) (by kernel_rfl) h5)) ?_
  intro W base args ds gs before hval hW _ hk hsz hL _ _
  exact contract H enc F W base args ds gs before hval hW hsz (tabs_of hL)

theorem said : Rows.treeBackRow.holds Tryd.pinned (OpenSpec.ofChange Rows.treeBackSpec) :=
  OpenClaim.holds_of_cond 5 Tryd.f5 rfl rfl rfl rfl rfl rfl rfl ⟨rfl, rfl, rfl, rfl, rfl⟩ rfl rfl rfl rfl rfl (by kernel_rfl) Tryd.func5 (by kernel_rfl)
    (of_decide_eq_true (by kernel_rfl)) (by unfold Func.isWrapper; first | (rw [if_pos (by decide +kernel)]; kernel_rfl) | (rw [if_neg (by decide +kernel)]; exact ⟨rfl, rfl⟩))
    (fun os started H enc _ F => by rw [OpenClaim.pre_eq_preRow]; exact lifted os started H enc F)

theorem plain (f : FuncId) (fn : Func) (hf : Tryd.pinned.checked.prog.funcNamed Rows.treeBackRow.func = some f) (hfn : Tryd.pinned.checked.prog.funcs[f]? = some fn) :
    false = Tryd.pinned.checked.prog.looks [] ∧ ∀ (j : Nat) t, fn.params[j]? = some t → Tryd.pinned.checked.prog.wantsStandIn t = false := by
  obtain rfl : f = 5 := Option.some.inj ((show Tryd.prog.funcNamed Rows.treeBackRow.func = some 5 by kernel_rfl).symm.trans hf) |>.symm
  obtain rfl : fn = Tryd.f5 := (Option.some.inj (Tryd.func5.symm.trans hfn)).symm
  refine ⟨by kernel_rfl, fun j t ht => ?_⟩
  rw [Tryd.params5] at ht
  have hm : t ∈ ([22] : List TypeId) := Array.mem_def.1 (Array.mem_of_getElem? ht)
  exact (show ∀ t ∈ ([22] : List TypeId), Tryd.prog.wantsStandIn t = false by decide +kernel) t hm
end Go.Proofs.YtcgecafajgoeeaaDoor.treeBack

namespace Go.Proofs.YtcgecafajgoeeaaDoor
theorem treeBack_card : Rows.TreeBackCardSaid :=
  Claim7.holds_tied_plain_at .later [] _ _ _ _ treeBack.said (fun _ h => by cases h) (by kernel_rfl) (fun _ h => by cases h) treeBack_row_tie rfl ⟨rfl, rfl⟩ (by kernel_rfl) rfl treeBack.plain (by kernel_rfl)
end Go.Proofs.YtcgecafajgoeeaaDoor
