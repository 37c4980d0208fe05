/-
  The walk of lumkeep.PackTells: it returns true.
  lumkeep.PackTells, at this commit, returns true whatever text, place and byte it is handed: it changes nothing that was there, and it ends.
-/
import Derived.Test.YtkhejelmjkpgfaaG11
import Derived.Test.YtkhejelmjkpgfaaG13
import Derived.Test.YtkhejelmjkpgfaaG12
import Derived.Test.YtkhejelmjkpgfaaG2
import Derived.Laws.BitsAllLaws
import Derived.Test.YtkhejelmjkpgfaaRows
import Derived.WalkKit
import Derived.ProofKit
import Derived.OpenShut
import Derived.ShutString
import Derived.ChangeOld
import Derived.Below
import Derived.SizedLaws
import Derived.Laws.Cover2

namespace Go.Proofs.Ytkhejelmjkpgfaa
open Go.RowKit
set_option maxRecDepth 4000

theorem list_of_empty {w : World} {v : Value} (h : ∃ es : List Ent, es.map Ent.p = [] ∧ w.ownsRow 0 38 11 v es.length (rowR enC es)) : ∃ a c, v = .slice a 0 c := by
  obtain ⟨es, h1, h2⟩ := h
  obtain rfl : es = [] := by simpa using h1
  exact own_form h2
theorem ByteArray_eq_of {s t : ByteArray} (h : s.data.toList = t.data.toList) : s = t := by
  obtain ⟨⟨x⟩⟩ := s
  obtain ⟨⟨y⟩⟩ := t
  have h : x = y := h
  rw [h]
theorem addr_at (b j : Nat) : ((⟨b, 0, none⟩ : Addr).add j) = ⟨b, j, none⟩ := by unfold Addr.add; split <;> simp_all
/-- one byte changed -/
def chg (l : List UInt8) (r : Nat) (b : UInt8) : List UInt8 := l.set r (l.getD r 0 ^^^ b)
theorem chg_length (l : List UInt8) (r : Nat) (b : UInt8) : (chg l r b).length = l.length := by rw [chg, List.length_set]
theorem chg_ls {l : List UInt8} {r : Nat} {b : UInt8} (hl : l.length ≤ 140737488351232) (h : (Pk.ls l).2 = 0) (hr : r < l.length) (hb : b ≠ 0) : Pk.ls (chg l r b) = ([], 6) := by
  refine Pk.ls_other l (chg l r b) r (chg_length l r b).symm (by omega) h hr ?_ ?_
  · rw [chg, List.getD_eq_getElem?_getD (l := l.set r _), List.getElem?_set_self hr]
    show l.getD r 0 ≠ l.getD r 0 ^^^ b
    generalize l.getD r 0 = c
    intro e
    apply hb
    have h2 : c ^^^ c = c ^^^ (c ^^^ b) := congrArg (fun z => c ^^^ z) e
    rw [← UInt8.xor_assoc, UInt8.xor_self, UInt8.zero_xor] at h2
    exact h2.symm
  · intro j hj
    rw [chg, List.getD_eq_getElem?_getD, List.getD_eq_getElem?_getD, List.getElem?_set_ne (by omega)]

set_option maxHeartbeats 4000000 in
theorem tells_any (s : ByteArray) (a : Int) (b : UInt8) (w : World) (hs : s.size ≤ 140737488351232) :
    Calls Try.prog 22 #[.string s, .int .i64 a, .int .u8 (b.toNat : Int)] w fun e w' => e = .returned (.bool true) ∧ Below w.heap.size w w' := by
  have h1 := list_any s w hs
  have hbl := b.toNat_lt
  by_cases hE : (Pk.ls s.data.toList).2 ≠ 0
  · have hE2 : ((Pk.ls s.data.toList).2 == 0) = false := beq_eq_false_iff_ne.2 hE
    generalize Pk.ls s.data.toList = LS at *
    obtain ⟨ls, er⟩ := LS
    dsimp only at *
    have hE3 : (er != 0) = true := bne_iff_ne.2 hE
    go_enter Try.func22, Try.ntmps22
    go_wp2_with fail
    refine h1.mono ?_
    rintro e w1 ⟨v1, rfl, es, _, ho1, hb1⟩
    have HB1 : Hid (Below w.heap.size w w1) := hb1
    obtain ⟨a1, c1, rfl⟩ := own_form ho1
    clear h1 hb1 ho1
    go_wp2_with fail
    all_goals go_ret
    all_goals exact ⟨rfl, HB1.out⟩
  have hE0 := Classical.not_not.1 hE
  rw [hE0] at h1
  by_cases hb0 : b = 0
  · subst hb0
    generalize Pk.ls s.data.toList = LS at *
    obtain ⟨ls, er⟩ := LS
    dsimp only at *
    clear hE hE0
    go_enter Try.func22, Try.ntmps22
    go_wp2_with fail
    refine h1.mono ?_
    rintro e w1 ⟨v1, rfl, es, _, ho1, hb1⟩
    have HB1 : Hid (Below w.heap.size w w1) := hb1
    obtain ⟨a1, c1, rfl⟩ := own_form ho1
    clear h1 hb1 ho1
    go_wp2_with fail
    all_goals go_ret
    all_goals exact ⟨rfl, HB1.out⟩
  have hn0 : ((b.toNat : Int) == 0) = false := beq_eq_false_iff_ne.2 fun e => hb0 (UInt8.toNat_inj.1 (by simpa using e))
  have hsz : s.data.toList.length = s.size := (Lib.size_eq s).symm
  have h10 : 10 ≤ s.size := by
    rw [← hsz]
    by_cases h : s.data.toList.length < 10
    · rw [Pk.ls, if_pos h] at hE0; simp at hE0
    · omega
  have hem : s.toList.isEmpty = false := by
    rw [Lib.toList_data]
    cases h : s.data.toList with
    | nil => rw [h] at hsz; simp at hsz; omega
    | cons x l => rfl
  have HLS : Hid (∀ r, r < s.size → Pk.ls (chg s.data.toList r b) = ([], 6)) := fun r hr => chg_ls (by omega) hE0 (by omega) hb0
  have hcv := fun W => run_bytes_of_string (P := Try.prog) W 9 51 5 s (by kernel_rfl) (by kernel_rfl) (by kernel_rfl)
  have hrest := fun W => rest_any a s.size W (by omega) (by omega)
  generalize Pk.ls s.data.toList = LS at *
  obtain ⟨ls, er⟩ := LS
  dsimp only at *
  clear hE hE0 hb0
  go_enter Try.func22, Try.ntmps22
  go_wp2_with fail
  refine h1.mono ?_
  rintro e w1 ⟨v1, rfl, es, _, ho1, hb1⟩
  have HB1 : Hid (Below w.heap.size w w1) := hb1
  have hs1 := hb1.size
  obtain ⟨a1, c1, rfl⟩ := own_form ho1
  have hcv1 := hcv w1
  clear h1 hb1 ho1 hcv
  go_wp2_with fail
  obtain ⟨cap, hcap⟩ : ∃ cap, grownCap w1 s.size 0 5 = cap := ⟨_, rfl⟩
  rw [hcap]
  obtain ⟨W2, hW2⟩ : ∃ W2, W2 = (w1.alloc (.cells (bytesRow s cap) 5 ((bytesRow s cap).size, (bytesRow s cap).size + 1))).drew := ⟨_, rfl⟩
  have hcl : ∀ j (hj : j < s.size), W2.cell? ⟨w1.heap.size, j, none⟩ = some (.int .u8 (s[j].toNat : Int)) := fun j hj => by rw [hW2]; exact bytes_cell w1 s _ _ j hj
  have hfr : ∀ j, j < s.size → W2.frozen? ⟨w1.heap.size, j, none⟩ = false := fun j hj => by rw [hW2]; exact bytes_free w1 s _ j hj
  have hB2 : Below w1.heap.size w1 W2 := by rw [hW2]; exact ((Below.refl _ w1).alloc (Nat.le_refl _) _).drew
  have hlt2 : w1.heap.size < W2.heap.size := by rw [hW2]; simp
  rw [← hW2]
  clear hW2 hcap hcv1
  refine (hrest _).mono ?_
  rintro e u ⟨⟨r, hr, rfl⟩, hu⟩
  obtain rfl := hu.symm
  clear hu hrest
  have hxo := u8_xor_nat s[r].toNat b.toNat (by have := s[r].toNat_lt; omega) (by omega)
  have hxx : s[r].toNat ^^^ b.toNat = (s[r] ^^^ b).toNat := by rw [UInt8.toNat_xor]
  have hcr := hcl r hr
  have hfr' := hfr r hr
  have hsr := s[r].toNat_lt
  obtain ⟨TL, hTL⟩ : ∃ TL, chg s.data.toList r b = TL := ⟨_, rfl⟩
  have HLS2 : Pk.ls TL = ([], 6) := by rw [← hTL]; exact HLS.out r hr
  have hTLl : TL.length = s.size := by rw [← hTL, chg_length]; exact hsz
  obtain ⟨W3, hW3⟩ : ∃ W3, W3 = W2.setCell ⟨w1.heap.size, r, none⟩ (.int .u8 ((s[r].toNat ^^^ b.toNat : Nat) : Int)) := ⟨_, rfl⟩
  have hcl3 : ∀ j (hj : j < TL.length), W3.cell? ⟨w1.heap.size, j, none⟩ = some (.int .u8 (TL[j].toNat : Int)) := fun j hj => by
    rw [hW3]
    have hjs : j < s.size := by omega
    by_cases e : j = r
    · subst e
      rw [World.cell?_setCell_same _ _ _ hcr]
      have : TL[j] = s[j] ^^^ b := by
        have h2 : TL[j]? = some (s[j] ^^^ b) := by
          rw [← hTL, chg, List.getElem?_set_self (by omega), get_at s j hjs]
        rw [List.getElem?_eq_getElem hj] at h2
        exact Option.some.inj h2
      rw [this, hxx]
    · rw [World.cell?_setCell_other _ _ _ _ (by intro q; exact e (congrArg Addr.off q).symm), hcl j hjs]
      have : TL[j] = s[j] := by
        have h2 : TL[j]? = some s[j] := by
          rw [← hTL, chg, List.getElem?_set_ne (by omega), List.getElem?_eq_getElem (by omega)]; rfl
        rw [List.getElem?_eq_getElem hj] at h2
        exact Option.some.inj h2
      rw [this]
  have hlt3 : w1.heap.size < W3.heap.size := by rw [hW3]; simpa using hlt2
  have hB3 : Below w1.heap.size w1 W3 := by rw [hW3]; exact hB2.setCell (Nat.le_refl _) _
  have hstr : ∀ W, Below W3.heap.size W3 W → (convert 51 9 (.slice (some ⟨w1.heap.size, 0, none⟩) s.size cap)).run Try.prog W = .ok (.string ⟨TL.toArray⟩) W := fun W hW => by
    rw [← hTLl]
    refine run_convert_bytes_back W 51 9 5 ⟨w1.heap.size, 0, none⟩ cap TL (by kernel_rfl) (by kernel_rfl) (by kernel_rfl) ?_
    intro j hj
    rw [addr_at]
    exact (hW.cell (p := ⟨w1.heap.size, j, none⟩) hlt3).trans (hcl3 j hj)
  have hstr3 := hstr W3 (Below.refl _ _)
  have HSTR : Hid (∀ W, Below W3.heap.size W3 W → (convert 51 9 (.slice (some ⟨w1.heap.size, 0, none⟩) s.size cap)).run Try.prog W = .ok (.string ⟨TL.toArray⟩) W) := hstr
  have hl2 := fun W => list_any ⟨TL.toArray⟩ W (by rw [Lib.size_eq]; show TL.length ≤ _; omega)
  have hp2 := fun W => split_any ⟨TL.toArray⟩ W (by rw [Lib.size_eq]; show TL.length ≤ _; omega)
  rw [show (⟨TL.toArray⟩ : ByteArray).data.toList = TL from rfl] at hl2 hp2
  rw [HLS2] at hl2
  rw [Pk.split_other Pr.op TL HLS2] at hp2
  have HB3 : Hid (Below w.heap.size w W3) := HB1.out.trans (hB3.mono hs1)
  have hs3 := HB3.out.size
  clear hstr hcl hcl3 hB2 hB3 HLS HLS2 hTL hxx hfr hsz
  go_upto_region 6 with fail
  rw [← hW3]
  clear hW3 hcr hfr' hxo
  go_wp2_with fail
  refine (hl2 _).mono ?_
  rintro e w5 ⟨v5, rfl, es5, hes5, ho5, hb5⟩
  obtain rfl : es5 = [] := by simpa using hes5
  obtain ⟨a5, c5, rfl⟩ := own_form ho5
  have hstr5 := HSTR.out w5 hb5
  have HB5 : Hid (Below w.heap.size w w5) := HB3.out.trans (hb5.mono hs3)
  clear hl2 hb5 ho5 hes5 hstr3
  go_wp2_with fail
  refine (hp2 _).mono ?_
  rintro e w6 ⟨v6, rfl, bs6, hbs6, ho6, hb6⟩
  obtain rfl : bs6 = [] := by simpa using hbs6
  obtain ⟨a6, c6, rfl⟩ := own_form ho6
  have HB6 : Hid (Below w.heap.size w w6) := HB5.out.trans (hb6.mono HB5.out.size)
  clear hp2 hb6 ho6 hbs6 hstr5
  go_wp2_with fail
  go_ret
  exact ⟨rfl, HB6.out⟩

set_option maxHeartbeats 1000000 in
theorem packTells_walk (a0 : ByteArray) (a1 : Int) (a2 : Int) (z0 : a0.size ≤ 140737488351232) (_w1 : (Lit.int .i64 a1).wf = true) (w2 : (Lit.int .u8 a2).wf = true) (w : World) :
    Calls Try.prog 7 #[.string a0, .int .i64 a1, .int .u8 a2] w fun e w' => e = .returned (.bool true) ∧ Below w.heap.size w w' := by
  obtain ⟨b, rfl⟩ := wf_by w2
  have ht := fun W => tells_any a0 a1 b W z0
  clear w2
  go_enter Try.func7, Try.ntmps7
  go_wp2_with fail
  refine (some_any _).mono ?_
  rintro e w1 ⟨t, rfl, ht1, ht2, hb1⟩
  have HB1 : Hid (Below w.heap.size w w1) := hb1
  have hs1 := hb1.size
  have h3 := fun W => tells_any t 3 1 W (by omega)
  rw [show (((1 : UInt8).toNat : Nat) : Int) = 1 from rfl] at h3
  clear hb1
  go_wp2_with fail
  refine (h3 _).mono ?_
  rintro e w3 ⟨rfl, hb3⟩
  have HB3 : Hid (Below w.heap.size w w3) := (HB1.out.alloc hs1 _).trans (hb3.mono (by simp; omega))
  clear hb3 h3
  go_wp2_with fail
  refine (ht _).mono ?_
  rintro e w4 ⟨rfl, hb4⟩
  have HB4 : Hid (Below w.heap.size w w4) := HB3.out.trans (hb4.mono HB3.out.size)
  clear hb4 ht
  go_wp2_with fail
  go_ret
  exact ⟨rfl, HB4.out⟩
end Go.Proofs.Ytkhejelmjkpgfaa

namespace Go.Proofs.Ytkhejelmjkpgfaa.packTells
open Go.ChangeShapes Go.WideShapes Go.ChangeAt Go.RowKit
open Go.ChangeMaps (open_string shut_string)
set_option linter.unusedVariables false

theorem own : ownKnob Try.prog.godebug = none := by kernel_rfl

set_option maxRecDepth 100000 in
theorem lifted (os : Os) (started : os.Started) (H : Type) (enc : TypeId × Value → H) :
    ReturnsInHanded {} Try.checked os 7 .any (Rows.packTellsSpec.pre6 enc Try.prog Try.f7 Rows.packTellsRow.domain false) (Rows.packTellsSpec.post enc Try.prog Try.f7 false true false false) := by
  refine returnsInHanded_of_change_sized (C := Try.checked) own started (by kernel_rfl) Try.func7
    (ChangeSpec.witness6 (enc := enc) (C := Try.checked) false ⟨#[], #[.string ByteArray.empty, .int .i64 0, .int .u8 0], []⟩ 8 (by kernel_rfl) (by kernel_rfl) (by kernel_rfl) (by kernel_rfl)) ?_
  intro W base args ds gs before hval0 hW hcnd hsz0 _
  have hval : ∀ (j : Nat) t v, Try.f7.params[j]? = some t → args[j]? = some v → Value.okWide Try.prog W .any base t v := hval0
  have hW' := hW
  obtain ⟨p, q, hA0, hV, rfl, hfz, hnd⟩ := hW
  have hA : DataW.TrodAll enc Try.prog W 0 (fun _ => true) true Try.f7.params.toList args.toList ds p := hA0
  have hsz : (DataW.weightsEach Try.prog (Try.f7.params.toList ++ Rows.packTellsSpec.plain.varTypes Try.prog) (ds ++ gs)).all (· ≤ reachBytes) = true := hsz0
  rw [Try.params7] at hA hval hsz
  obtain ⟨v0, vs0, d0, ds0, p0, q0, hargs, rfl, rfl, h0, r0⟩ := trodAll_cons hA
  obtain ⟨v1, vs1, d1, ds1, p1, q1, rfl, rfl, rfl, h1, r1⟩ := trodAll_cons r0
  obtain ⟨v2, vs2, d2, ds2, p2, q2, rfl, rfl, rfl, h2, r2⟩ := trodAll_cons r1
  obtain ⟨rfl, rfl, rfl⟩ := trodAll_nil r2
  obtain rfl : args = #[v0, v1, v2] := by cases args; simp_all
  obtain ⟨rfl, rfl⟩ := trodVars_none hV
  obtain ⟨a0, rfl, rfl, rfl, w0⟩ := open_string Try.underlying9 (hval 0 9 v0 rfl rfl) h0
  obtain ⟨a1, rfl, rfl, rfl, w1⟩ := open_int Try.underlying3 (hval 1 3 v1 rfl rfl) h1
  obtain ⟨a2, rfl, rfl, rfl, w2⟩ := open_int Try.underlying5 (hval 2 5 v2 rfl rfl) h2
  have z0 : a0.size ≤ 140737488351232 := by
    have := sized_string hsz (j := 0) (t := 9) rfl rfl
    simp only [reachBytes] at this
    rw [Lib.size_eq]; exact this
  clear hA0 hval0 hsz hsz0
  refine (packTells_walk a0 a1 a2 z0 w1 w2 W).mono fun e W' ⟨he, bel⟩ => ?_
  subst he
  exact ⟨_, rfl, _, _, _, [], _, [], hW', trodAll_mk1 (shut_bool Try.underlying4 _), (trodAll_cons_mk (shut_string Try.underlying9 w0) (trodAll_cons_mk (shut_int Try.underlying3 w1) (trodAll_cons_mk (shut_int Try.underlying5 w2) trodAll_mk0))), rfl, bel.frame _, fun h => by cases h⟩

theorem over : Rows.packTellsRow.holds Try.pinned (OpenSpec.ofChange Rows.packTellsSpec) :=
  OpenClaim.holds_of_wide 7 Try.f7 rfl rfl rfl rfl rfl rfl rfl ⟨rfl, rfl, rfl, rfl, rfl⟩ rfl rfl rfl rfl rfl (by kernel_rfl) Try.func7 (by kernel_rfl)
    (of_decide_eq_true (by kernel_rfl)) (by unfold Func.isWrapper; first | (rw [if_pos (by decide +kernel)]; kernel_rfl) | (rw [if_neg (by decide +kernel)]; exact ⟨rfl, rfl⟩))
    (fun os started H enc _ => lifted os started H enc)
end Go.Proofs.Ytkhejelmjkpgfaa.packTells

namespace Go.Proofs.Ytkhejelmjkpgfaa
theorem packTells_holds : Rows.PackTellsSaid := packTells.over
end Go.Proofs.Ytkhejelmjkpgfaa
