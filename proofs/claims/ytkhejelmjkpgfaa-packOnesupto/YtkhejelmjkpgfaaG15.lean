/-
  What signsOf of the document's answer (package lumref) answers.
  What three of the document's answer (package lumref) answers.
  What ReadTokens of package lumref answers.
  What Expand of package lumref answers.
  The library's contracts at this program: strings_Contains_one (laid by the guide's own tools, written out in plain words).
  What Open of the document's answer (package lumref) answers.
  What PackOne of the document's answer (package lumref) answers.
  What PackSplit of the document's answer (package lumref) answers.
-/
import Derived.Test.YtkhejelmjkpgfaaG9
import Derived.Test.YtkhejelmjkpgfaaG5
import Derived.Test.YtkhejelmjkpgfaaG8
import Derived.Test.YtkhejelmjkpgfaaG4
import Derived.Test.YtkhejelmjkpgfaaG7
import Derived.Test.YtkhejelmjkpgfaaG0
import Derived.Shelf.Strings.Search3
import Derived.Test.YtkhejelmjkpgfaaProg
import Derived.Test.YtkhejelmjkpgfaaG12
import Derived.Test.YtkhejelmjkpgfaaG2
import Derived.Test.YtkhejelmjkpgfaaG1
import Derived.Test.YtkhejelmjkpgfaaG13
import Derived.Test.YtkhejelmjkpgfaaG14

namespace Go.Proofs.Ytkhejelmjkpgfaa
open Go.RowKit
set_option maxRecDepth 4000

namespace Pr
/-- the last sign below j whose word stands in front; -1 where there is none -/
def lastFit (l : List Nat) (b : List Bool) : Nat → Int
  | 0 => -1
  | j + 1 => if fits l b j then (j : Int) else lastFit l b j
theorem lastFit_front {l : List Nat} (g : Good l) (b : List Bool) : lastFit l b l.length = match front l b with
    | some i => (i : Int)
    | none => -1 := by
  cases e : front l b with
  | none =>
    have h := front_none.1 e
    have : ∀ j, lastFit l b j = -1 := by
      intro j
      induction j with
      | zero => rfl
      | succ j ih => rw [lastFit, h j, if_neg (by simp)]; exact ih
    exact this _
  | some i =>
    have h := (front_some g).1 e
    have : ∀ j, lastFit l b j = if i < j then (i : Int) else -1 := by
      intro j
      induction j with
      | zero => rw [if_neg (by omega)]; rfl
      | succ j ih =>
        rw [lastFit]
        by_cases hj : fits l b j = true
        · rw [if_pos hj, fits_one g hj h, if_pos (by omega)]
        · rw [if_neg hj, ih]
          have : j ≠ i := fun e => hj (e ▸ h)
          by_cases h2 : i < j
          · rw [if_pos h2, if_pos (by omega)]
          · rw [if_neg h2, if_neg (by omega)]
    rw [this, if_pos (fits_iff.1 h).1]
theorem lastFit_ge (l : List Nat) (b : List Bool) (j : Nat) : -1 ≤ lastFit l b j ∧ lastFit l b j < j := by
  induction j with
  | zero => exact ⟨by rw [lastFit]; omega, by rw [lastFit]; omega⟩
  | succ j ih =>
    rw [lastFit]
    split <;> omega
theorem pre_word {l : List Nat} {b : List Bool} {i : Nat} (hi : i < l.length) (h0 : 0 < l.getD i 0) : Lib.hasPrefix (sb b) (sb (W l i)) = fits l b i := by
  rw [← Lib.hasPrefix_of_take, sb_length, sb_length, W_length, Bool.eq_iff_iff, fits_iff]
  simp only [Bool.and_eq_true, decide_eq_true_eq, beq_iff_eq]
  constructor
  · rintro ⟨_, h2⟩
    refine ⟨hi, h0, sb_inj ?_⟩
    rw [← h2]
    simp [sb, List.map_take]
  · rintro ⟨_, _, h3⟩
    have h4 := congrArg List.length h3
    rw [W_length, List.length_take] at h4
    refine ⟨by omega, ?_⟩
    rw [← h3]
    simp [sb, List.map_take]
theorem fits_nought {l : List Nat} {b : List Bool} {i : Nat} (h0 : l.getD i 0 = 0) : fits l b i = false := by
  cases e : fits l b i with
  | false => rfl
  | true => have := (fits_iff.1 e).2.1; omega
end Pr

/-- what signsOf's three answers say -/
def SigOut (wide : List Nat) (m : Nat) (Bv : List Bool) (T : ByteArray) (a : Nat) (q : Int) : Prop := (∃ b, Pr.signs wide m Bv = .inl b ∧ q = (if b then 4 else 3)) ∨ (∃ t r, Pr.signs wide m Bv = .inr (t, r) ∧ q = 0 ∧ T.data.toList = Pr.upB t ∧ a ≤ Bv.length ∧ Bv.drop a = r)
def slLen (v : Value) : Nat := match v with
  | .slice _ n _ => n
  | _ => 0

set_option maxHeartbeats 4000000 in
theorem rsig_any (S : ByteArray) (Bv : List Bool) (base g c : Nat) (wide : List Nat) (m : Nat) (w : World) (hS : S.data.toList = Pr.sb Bv) (hz : S.size ≤ 140737488351232) (hrow : w.ownsRow base 9 1 (.slice (some ⟨g, 0, none⟩) 256 c) 256 (rowW (Pr.wS wide))) (hG : Pr.Good wide) (hW : wide.length = 256) (hm : m ≤ 12288) :
    Calls Try.prog 59 #[.string S, .slice (some ⟨g, 0, none⟩) 256 c, .int .i64 m] w fun e w' => ∃ (T : ByteArray) (a : Nat) (q : Int), e = .returned (.tuple #[.string T, .int .i64 a, .int .i64 q]) ∧
      SigOut wide m Bv T a q ∧ Below w.heap.size w w' := by
  obtain ⟨i0, hi, hz0, hz1, hz2⟩ := info_parts info_u8
  have hSB : Bv.length = S.size := by rw [Lib.size_eq, hS, Pr.sb_length]
  have HS : Hid (S.data.toList = Pr.sb Bv) := hS
  have HSB : Hid (Bv.length = S.size) := hSB
  have HG : Hid (Pr.Good wide) := hG
  have HW : Hid (wide.length = 256) := hW
  have HRW : Hid (w.ownsRow base 9 1 (.slice (some ⟨g, 0, none⟩) 256 c) 256 (rowW (Pr.wS wide))) := hrow
  have HR : Hid (Pr.signs wide m Bv = Pr.cat [] (Pr.signs wide (m - 0) (Bv.drop 0))) := by show _ = _; rw [Pr.cat_nil, List.drop_zero, Nat.sub_zero]
  clear hS hSB hG hW hrow
  go_enter Try.func59, Try.ntmps59
  go_wp2_with fail
  go_loopw [9, 10] (fun ov av wx => ∃ (p : Nat) (out : List Nat), out.length ≤ m ∧ p ≤ S.size ∧ av = .int .i64 p ∧ wx.ownsRow w.heap.size 5 1 ov (Pr.upB out).length ((Pr.upB out).map B) ∧ Hid (Pr.signs wide m Bv = Pr.cat out (Pr.signs wide (m - out.length) (Bv.drop p))) ∧ Hid (Below w.heap.size w wx)) (fun ov _ _ => m - slLen ov)
  case atStart => exact ⟨0, [], by simp, by omega, rfl, World.ownsRow_nil _ _ _ _, HR, Below.refl _ _⟩
  case round =>
    clear HR
    obtain ⟨p, out, ho, hp, rfl, hown, hR, hbel⟩ := hrel
    obtain ⟨a9, c9, rfl⟩ := own_form hown
    have HOL : Hid ((Pr.upB out).length = out.length) := upB_length out
    have hol : (Pr.upB out).length ≤ 12288 := by rw [HOL.out]; omega
    by_cases hlt : out.length < m
    · have hlt' : (Pr.upB out).length < m := by rw [HOL.out]; exact hlt
      have hrw := row_below HRW.out hbel.out
      have HRW2 : Hid (wr.ownsRow base 9 1 (.slice (some ⟨g, 0, none⟩) 256 c) 256 (rowW (Pr.wS wide))) := hrw
      have hx : (S.extract p S.size).data.toList = Pr.sb (Bv.drop p) := by
        rw [ext_toList, HS.out]
        simp [Pr.sb, List.map_drop]
      have HX : Hid ((S.extract p S.size).data.toList = Pr.sb (Bv.drop p)) := hx
      have HQL : Hid ((Bv.drop p).length = S.size - p) := by show _ = _; rw [List.length_drop, HSB.out]
      obtain ⟨jj, hjj⟩ : ∃ jj, m - out.length = jj + 1 := ⟨m - out.length - 1, by omega⟩
      have HJ : Hid (m - (out.length + 1) = jj) := by show _ = _; omega
      rw [hjj] at hR
      have HCN : Hid (Pr.front wide (Bv.drop p) = none → Pr.signs wide m Bv = .inl (decide (48 ≤ S.size - p))) := fun h => by
        rw [hR.out, Pr.signs, h, HQL.out]
        rfl
      have HCS : Hid (∀ i, Pr.front wide (Bv.drop p) = some i → Pr.signs wide m Bv = Pr.cat (out ++ [i]) (Pr.signs wide jj (Bv.drop (p + wide.getD i 0)))) := fun i h => by
        rw [hR.out]
        exact Pr.cat_some h
      have HFL : Hid (∀ i, Pr.front wide (Bv.drop p) = some i → i < 256 ∧ wide.getD i 0 ≤ S.size - p) := fun i h => by
        have := Pr.front_len HG.out h
        rw [HW.out, HQL.out] at this
        exact this
      have HLF := Pr.lastFit_front HG.out (Bv.drop p)
      rw [HW.out] at HLF
      have HLF' : Hid (Pr.lastFit wide (Bv.drop p) 256 = match Pr.front wide (Bv.drop p) with
        | some i => (i : Int)
        | none => -1) := HLF
      clear hrw hx hjj hR HLF hlt
      generalize Bv.drop p = Q at *
      go_wp2_with fail
      go_loop [11, 20] (fun fv i => ∃ j : Nat, j ≤ 256 ∧ i = .int .i64 j ∧ fv = .int .i64 (Pr.lastFit wide Q j)) (fun _ i => 256 - (intOf i).toNat)
      case atStart => exact ⟨0, by omega, rfl, rfl⟩
      case round =>
        obtain ⟨j, hj, rfl, rfl⟩ := hrel
        by_cases hj2 : j < 256
        · have cW := own_text HRW2.out j hj2
          have HNX : Hid (Pr.lastFit wide Q (j + 1) = if Pr.fits wide Q j then (j : Int) else Pr.lastFit wide Q j) := rfl
          by_cases h0 : wide.getD j 0 = 0
          · have hem : (Pr.wS wide j).toList.isEmpty = true := by
              rw [Lib.toList_data, Pr.wS_list]
              unfold Pr.W
              rw [h0]
              rfl
            have HN2 : Hid (Pr.lastFit wide Q (j + 1) = Pr.lastFit wide Q j) := by show _ = _; rw [HNX.out, Pr.fits_nought h0, if_neg (by simp)]
            generalize Pr.wS wide j = wj at *
            generalize Pr.lastFit wide Q j = F at *
            clear h0 HNX
            go_wp2_with fail
            go_round
            case rel => exact ⟨j + 1, by omega, by go_num, by rw [HN2.out]⟩
            case measure => simp only [intOf]; omega
          · have hem : (Pr.wS wide j).toList.isEmpty = false := by
              rw [Lib.toList_data, Pr.wS_list, List.isEmpty_eq_false_iff]
              intro e
              have := congrArg List.length e
              rw [Pr.sb_length, Pr.W_length] at this
              simp at this
              exact h0 (by simpa using this)
            have hpre := Try.strings_HasPrefix (S.extract p S.size) (Pr.wS wide j) wr
            rw [HX.out, Pr.wS_list, Pr.pre_word (by rw [HW.out]; exact hj2) (by omega)] at hpre
            generalize Pr.wS wide j = wj at *
            clear h0
            cases hf : Pr.fits wide Q j with
            | true =>
              rw [hf] at hpre
              have HN2 : Hid (Pr.lastFit wide Q (j + 1) = (j : Int)) := by show _ = _; rw [HNX.out, hf, if_pos rfl]
              generalize Pr.lastFit wide Q j = F at *
              clear HNX hf
              go_wp2_with fail
              refine hpre.mono ?_
              rintro e wq ⟨rfl, hwq⟩
              have hwq := hwq.symm
              subst hwq
              go_wp2_with fail
              go_round
              case rel => exact ⟨j + 1, by omega, by go_num, by rw [HN2.out]⟩
              case measure => simp only [intOf]; omega
            | false =>
              rw [hf] at hpre
              have HN2 : Hid (Pr.lastFit wide Q (j + 1) = Pr.lastFit wide Q j) := by show _ = _; rw [HNX.out, hf, if_neg (by simp)]
              generalize Pr.lastFit wide Q j = F at *
              clear HNX hf
              go_wp2_with fail
              refine hpre.mono ?_
              rintro e wq ⟨rfl, hwq⟩
              have hwq := hwq.symm
              subst hwq
              go_wp2_with fail
              go_round
              case rel => exact ⟨j + 1, by omega, by go_num, by rw [HN2.out]⟩
              case measure => simp only [intOf]; omega
        · obtain rfl : j = 256 := by omega
          cases hF : Pr.front wide Q with
          | none =>
            have HR2 := HCN.out hF
            have hlf : Pr.lastFit wide Q 256 = -1 := by rw [HLF'.out, hF]
            rw [hlf]
            clear hlf HCN HCS HFL HLF'
            by_cases h48 : 48 ≤ S.size - p
            · have HR3 : Hid (Pr.signs wide m Bv = .inl true) := by show _ = _; rw [HR2, decide_eq_true h48]
              have hq : decide ((48 : Int) ≤ (S.size : Int) - (p : Int)) = true := decide_eq_true (by omega)
              clear HR2 hF
              go_wp2_with fail
              go_ret3
              exact ⟨⟨#[]⟩, 0, 4, rfl, .inl ⟨true, HR3.out, rfl⟩, hbel.out⟩
            · have HR3 : Hid (Pr.signs wide m Bv = .inl false) := by show _ = _; rw [HR2, decide_eq_false h48]
              have hq : decide ((48 : Int) ≤ (S.size : Int) - (p : Int)) = false := decide_eq_false (by omega)
              clear HR2 hF
              go_wp2_with fail
              go_ret3
              exact ⟨⟨#[]⟩, 0, 3, rfl, .inl ⟨false, HR3.out, rfl⟩, hbel.out⟩
          | some i =>
            have HR2 : Hid (Pr.signs wide m Bv = Pr.cat (out ++ [i]) (Pr.signs wide jj (Bv.drop (p + wide.getD i 0)))) := HCS.out i hF
            obtain ⟨i256, hil⟩ := HFL.out i hF
            have hlf : Pr.lastFit wide Q 256 = (i : Int) := by rw [HLF'.out, hF]
            rw [hlf]
            have cW := own_text HRW2.out i i256
            have hws : (Pr.wS wide i).size = wide.getD i 0 := Pr.wS_size wide i
            have HWS : Hid ((Pr.wS wide i).size = wide.getD i 0) := hws
            have hwz : (Pr.wS wide i).size ≤ S.size - p := by rw [hws]; exact hil
            have hi8 : IntKind.u8.wrap (i : Int) = (i : Int) := by simp only [IntKind.wrap, IntKind.bits, IntKind.signed]; simp; omega
            have hbs := hbel.out.size
            rw [← hws] at HR2
            generalize Pr.wS wide i = wi at *
            clear hlf HCN HCS HFL HLF' hF hil hws HWS
            go_wp2_with (at_builtin; refine wpList_append_own _ rfl (.tmp 43) (.tmp 46) 51 rfl w.heap.size 5 i0 (.int .u8 0) 1 1 Try.underlying51 hi hz0 hz1 hz2 rfl (by decide) _ _ _ rfl (hown.alloc _) ⟨wr.heap.size, 0, none⟩ 1 1 [.int .u8 (i : Int)] rfl rfl ?p1 ?p2 ?p3 ?p4 ?p5 ?_)
            case p2 => rfl
            case p3 => unfold maxLen; omega
            case p4 => omega
            case p5 => omega
            intro v6 w6x hown6 hgrow6 _
            have HO6 : Hid (w6x.ownsRow w.heap.size 5 1 v6 (Pr.upB (out ++ [i])).length ((Pr.upB (out ++ [i])).map B)) := by
              show w6x.ownsRow _ _ _ _ _ _
              rw [up_more]
              refine own_byte ?_
              rw [UInt8.toNat_ofNat', Nat.mod_eq_of_lt i256]
              exact hown6
            have HB6 : Hid (Below w.heap.size w w6x) := (hbel.out.alloc (by omega) _).grown hgrow6 (by simp; omega) fun j hj => (hown.lt j hj).1
            have HM6 : Hid (m - slLen v6 < m - slLen (.slice a9 (Pr.upB out).length c9)) := by
              show _ < _
              obtain ⟨x1, x2, rfl⟩ := own_form hown6
              show m - ((Pr.upB out).length + 1) < m - (Pr.upB out).length
              omega
            have HLM : Hid ((out ++ [i]).length ≤ m) := by show _ ≤ _; rw [List.length_append, ← HOL.out]; simp only [List.length_cons, List.length_nil]; omega
            have HLJ : Hid (m - (out ++ [i]).length = jj) := by show _ = _; rw [List.length_append]; exact HJ.out
            have cW6 : w6x.cell? ⟨g, i, none⟩ = some (.string wi) := by
              have hgw : g < wr.heap.size := by
                obtain ⟨cur, hc, _⟩ := own_block HRW2.out (g := g) rfl
                exact (Array.getElem?_eq_some_iff.1 hc).1
              have hne : some g ≠ (Value.slice a9 (Pr.upB out).length c9).ownBlock := fun e => by
                obtain ⟨cur, hc, _⟩ := own_block HRW2.out (g := g) rfl
                obtain ⟨cur2, hc2, _⟩ := own_block hown e.symm
                have := hc.symm.trans hc2
                simp at this
              rw [hgrow6.cell_far _ (by simp; omega) hne]
              have hA := (Below.refl wr.heap.size wr).alloc (Nat.le_refl _) (.cells #[.int .u8 (i : Int)] 5)
              exact (hA.cell (p := ⟨g, i, none⟩) hgw).trans cW
            clear hown6 hgrow6 hown cW
            go_wp2_with fail
            exact ⟨⟨p + wi.size, out ++ [i], HLM.out, by omega, by go_num, HO6.out, by rw [HLJ.out]; exact HR2, HB6⟩, HM6.out⟩
    · have hol2 : ¬ (Pr.upB out).length < m := by rw [HOL.out]; exact hlt
      have HRF : Hid (Pr.signs wide m Bv = .inr (out, Bv.drop p)) := by
        show _ = _
        rw [hR.out, show m - out.length = 0 by omega, Pr.signs]
        show Sum.inr (out ++ [], _) = _
        rw [List.append_nil]
      have hstr := run_str hown
      clear hR hlt
      obtain ⟨T, hT⟩ : ∃ T : ByteArray, T = ⟨(Pr.upB out).toArray⟩ := ⟨_, rfl⟩
      rw [← hT] at hstr
      have HT : Hid (T.data.toList = Pr.upB out) := by rw [hT]; exact rfl
      have HPB : Hid (p ≤ Bv.length) := by show _ ≤ _; rw [HSB.out]; exact hp
      clear hT hown
      generalize (Pr.upB out).length = ol at *
      go_wp2_with fail
      go_ret3
      exact ⟨T, p, 0, rfl, .inr ⟨out, _, HRF.out, rfl, HT.out, HPB.out, rfl⟩, hbel.out⟩
end Go.Proofs.Ytkhejelmjkpgfaa

namespace Go.Proofs.Ytkhejelmjkpgfaa
open Go.RowKit
set_option maxRecDepth 4000

namespace Pr
theorem nums_err {m n k : Nat} {ms : List Nat} {L : Bs} {e : Int} (h : Nm.getN L = (n, k, e)) (he : e ≠ 0) : nums (m :: ms) L = ([], [], e) := by
  rw [nums, h, if_pos he]
theorem nums_big {m n k : Nat} {ms : List Nat} {L : Bs} (h : Nm.getN L = (n, k, 0)) (hm : m < n) : nums (m :: ms) L = ([], [], 2) := by
  rw [nums, h, if_neg (by simp), if_pos hm]
theorem nums_ok {m n k : Nat} {ms : List Nat} {L : Bs} (h : Nm.getN L = (n, k, 0)) (hm : n ≤ m) : nums (m :: ms) L = if (nums ms (L.drop k)).2.2 ≠ 0 then ([], [], (nums ms (L.drop k)).2.2) else (n :: (nums ms (L.drop k)).1, (nums ms (L.drop k)).2.1, 0) := by
  rw [nums, h, if_neg (by simp), if_neg (by show ¬ m < n; omega)]
/-- what the numbers ahead and those that are still to be read make -/
def tot (a : List Nat) (r : List Nat × Bs × Int) : List Nat × Bs × Int := if r.2.2 ≠ 0 then ([], [], r.2.2) else (a ++ r.1, r.2.1, 0)
theorem tot_err (a : List Nat) {e : Int} (he : e ≠ 0) : tot a ([], [], e) = ([], [], e) := by
  unfold tot
  rw [if_pos he]
theorem tot_ok {a : List Nat} {n m k : Nat} {ms : List Nat} {L : Bs} (h : Nm.getN L = (n, k, 0)) (hm : n ≤ m) : tot a (nums (m :: ms) L) = tot (a ++ [n]) (nums ms (L.drop k)) := by
  rw [nums_ok h hm]
  unfold tot
  by_cases h2 : (nums ms (L.drop k)).2.2 ≠ 0
  · rw [if_pos h2, if_pos h2, if_pos h2]
  · rw [if_neg h2, if_neg h2, if_neg (by simp)]
    simp
theorem tot_nil (L : Bs) (ms : List Nat) : tot [] (nums ms L) = nums ms L ∨ (nums ms L).2.2 ≠ 0 ∧ tot [] (nums ms L) = ([], [], (nums ms L).2.2) := by
  unfold tot
  by_cases h : (nums ms L).2.2 ≠ 0
  · exact .inr ⟨h, by rw [if_pos h]⟩
  · refine .inl ?_
    rw [if_neg h, List.nil_append]
    have : (nums ms L).2.2 = 0 := by simpa using h
    rw [← this]
theorem nums_shape (ms : List Nat) (L : Bs) (h : (nums ms L).2.2 ≠ 0) : nums ms L = ([], [], (nums ms L).2.2) := by
  cases ms with
  | nil => exact absurd rfl h
  | cons m ms =>
    rw [nums] at h ⊢
    split
    · rfl
    split
    · rfl
    split
    · rfl
    · rename_i h1 h2 h3
      rw [if_neg h1, if_neg h2, if_neg h3] at h
      exact absurd rfl h
theorem tot_start (ms : List Nat) (L : Bs) : tot [] (nums ms L) = nums ms L := by
  rcases tot_nil L ms with h | ⟨h, e⟩
  · exact h
  · rw [e, ← nums_shape ms L h]
theorem tot_end (a : List Nat) (L : Bs) : tot a (nums [] L) = (a, L, 0) := by
  unfold tot
  rw [if_neg (by simp [nums])]
  simp [nums]
end Pr
/-- the three blocks of three -/
structure Thr (W : World) (b : Nat) (x y z : Nat) : Prop where
  res : W.heap[b]? = some (.cells #[.int .i64 0, .int .i64 0, .int .i64 0] 79 (0, 0))
  out : W.heap[b + 1]? = some (.cells #[.int .i64 x, .int .i64 y, .int .i64 z] 79 (0, 0))
  most : W.heap[b + 2]? = some (.cells #[.int .u64 4096, .int .u64 12288, .int .u64 256] 59 (0, 0))
theorem Thr.new (w : World) : Thr (((w.alloc (.cells #[.int .i64 0, .int .i64 0, .int .i64 0] 79)).alloc (.cells #[.int .i64 0, .int .i64 0, .int .i64 0] 79)).alloc (.cells #[.int .u64 4096, .int .u64 12288, .int .u64 256] 59)) w.heap.size 0 0 0 := by
  have e1 : (w.alloc (.cells #[.int .i64 0, .int .i64 0, .int .i64 0] 79)).heap.size = w.heap.size + 1 := by simp
  have e2 : ((w.alloc (.cells #[.int .i64 0, .int .i64 0, .int .i64 0] 79)).alloc (.cells #[.int .i64 0, .int .i64 0, .int .i64 0] 79)).heap.size = w.heap.size + 2 := by simp
  refine ⟨?_, ?_, ?_⟩
  · rw [Below.heap_alloc _ _ _ (by omega), Below.heap_alloc _ _ _ (by omega)]
    exact heap_alloc_new w _
  · rw [Below.heap_alloc _ _ _ (by omega), ← e1]
    exact heap_alloc_new _ _
  · rw [← e2]
    exact heap_alloc_new _ _
theorem Thr.drewN {W : World} {b x y z : Nat} (h : Thr W b x y z) (m : Nat) : Thr (W.drewN m) b x y z := by
  have hb := below_drewN (Below.refl W.heap.size W) m
  exact ⟨(hb.block _ (Array.getElem?_eq_some_iff.1 h.res).1).trans h.res, (hb.block _ (Array.getElem?_eq_some_iff.1 h.out).1).trans h.out, (hb.block _ (Array.getElem?_eq_some_iff.1 h.most).1).trans h.most⟩
theorem Thr.cells {W : World} {b x y z : Nat} (h : Thr W b x y z) : (W.cell? ⟨b, 0, none⟩ = some (.int .i64 0) ∧ W.cell? ⟨b, 1, none⟩ = some (.int .i64 0) ∧ W.cell? ⟨b, 2, none⟩ = some (.int .i64 0)) ∧ (W.frozen? ⟨b, 0, none⟩ = false ∧ W.frozen? ⟨b, 1, none⟩ = false ∧ W.frozen? ⟨b, 2, none⟩ = false) ∧
    (W.cell? ⟨b + 1, 0, none⟩ = some (.int .i64 x) ∧ W.cell? ⟨b + 1, 1, none⟩ = some (.int .i64 y) ∧ W.cell? ⟨b + 1, 2, none⟩ = some (.int .i64 z)) ∧ (W.frozen? ⟨b + 1, 0, none⟩ = false ∧ W.frozen? ⟨b + 1, 1, none⟩ = false ∧ W.frozen? ⟨b + 1, 2, none⟩ = false) ∧
    (W.cell? ⟨b + 2, 0, none⟩ = some (.int .u64 4096) ∧ W.cell? ⟨b + 2, 1, none⟩ = some (.int .u64 12288) ∧ W.cell? ⟨b + 2, 2, none⟩ = some (.int .u64 256)) ∧ b + 2 < W.heap.size := by
  refine ⟨⟨?_, ?_, ?_⟩, ⟨?_, ?_, ?_⟩, ⟨?_, ?_, ?_⟩, ⟨?_, ?_, ?_⟩, ⟨?_, ?_, ?_⟩, (Array.getElem?_eq_some_iff.1 h.most).1⟩
  · rw [cell_of_row _ _ 0 _ _ _ h.res]; rfl
  · rw [cell_of_row _ _ 1 _ _ _ h.res]; rfl
  · rw [cell_of_row _ _ 2 _ _ _ h.res]; rfl
  · simp [World.frozen?, h.res]
  · simp [World.frozen?, h.res]
  · simp [World.frozen?, h.res]
  · rw [cell_of_row _ _ 0 _ _ _ h.out]; rfl
  · rw [cell_of_row _ _ 1 _ _ _ h.out]; rfl
  · rw [cell_of_row _ _ 2 _ _ _ h.out]; rfl
  · simp [World.frozen?, h.out]
  · simp [World.frozen?, h.out]
  · simp [World.frozen?, h.out]
  · rw [cell_of_row _ _ 0 _ _ _ h.most]; rfl
  · rw [cell_of_row _ _ 1 _ _ _ h.most]; rfl
  · rw [cell_of_row _ _ 2 _ _ _ h.most]; rfl
theorem Thr.store {W : World} {b x y z : Nat} (h : Thr W b x y z) (k n : Nat) : Thr (W.setCell ⟨b + 1, k, none⟩ (.int .i64 (n : Int))) b (if k = 0 then n else x) (if k = 1 then n else y) (if k = 2 then n else z) := by
  refine ⟨(Below.heap_setCell _ _ _ _ (by show b ≠ b + 1; omega)).trans h.res, ?_, (Below.heap_setCell _ _ _ _ (by show b + 2 ≠ b + 1; omega)).trans h.most⟩
  rw [heap_setCell_same _ _ _ _ _ _ h.out]
  by_cases h0 : k = 0
  · subst h0; rfl
  by_cases h1 : k = 1
  · subst h1; rfl
  by_cases h2 : k = 2
  · subst h2; rfl
  rw [if_neg h0, if_neg h1, if_neg h2]
  rw [show (#[Value.int .i64 x, .int .i64 y, .int .i64 z] : Array Value).setIfInBounds k (.int .i64 n) = #[.int .i64 x, .int .i64 y, .int .i64 z] from by
    rw [Array.setIfInBounds_eq_of_size_le (by simp; omega)]]

set_option maxHeartbeats 4000000 in
theorem three_any (s : ByteArray) (w : World) (hs : s.size ≤ 140737488351232) (R : List Nat × Pr.Bs × Int) (hR : Pr.nums [4096, 12288, 256] s.data.toList = R) :
    Calls Try.prog 54 #[.string s] w fun e w' => ∃ (x y z : Nat) (s' : ByteArray), e = .returned (.tuple #[.agg #[.int .i64 x, .int .i64 y, .int .i64 z], .string s', .int .i64 R.2.2]) ∧ s'.size ≤ s.size ∧ (R.2.2 = 0 → R.1 = [x, y, z] ∧ s'.data.toList = R.2.1) ∧ Below w.heap.size w w' := by
  have HR : Hid (Pr.tot ([0, 0, 0].take 0) (Pr.nums ([4096, 12288, 256].drop 0) s.data.toList) = R) := by show Pr.tot [] (Pr.nums [4096, 12288, 256] s.data.toList) = R; rw [Pr.tot_start]; exact hR
  have HT0 := Thr.new w
  obtain ⟨W0, hW0⟩ : ∃ W0, W0 = ((w.alloc (.cells #[.int .i64 0, .int .i64 0, .int .i64 0] 79)).alloc (.cells #[.int .i64 0, .int .i64 0, .int .i64 0] 79)).alloc (.cells #[.int .u64 4096, .int .u64 12288, .int .u64 256] 59) := ⟨_, rfl⟩
  rw [← hW0] at HT0
  have HT0' : Hid (Thr W0 w.heap.size 0 0 0) := HT0
  have HB0 : Hid (Below w.heap.size w W0) := by rw [hW0]; exact (((Below.refl _ w).alloc (Nat.le_refl _) _).alloc (by simp) _).alloc (by simp; omega) _
  clear HT0 hR
  go_enter Try.func54, Try.ntmps54
  go_wp2_with fail
  rw [← hW0]
  clear hW0
  go_loopw [0, 13] (fun sv i wx => ∃ (k x y z : Nat) (t : ByteArray), k ≤ 3 ∧ i = .int .i64 k ∧ sv = .string t ∧ t.size ≤ s.size ∧ Hid (Thr wx w.heap.size x y z) ∧ Hid (Pr.tot ([x, y, z].take k) (Pr.nums ([4096, 12288, 256].drop k) t.data.toList) = R) ∧ Hid (Below w.heap.size w wx)) (fun _ i _ => 3 - (intOf i).toNat)
  case atStart => exact ⟨0, 0, 0, 0, s, by omega, rfl, rfl, Nat.le_refl _, HT0', HR, HB0⟩
  case round =>
    clear HT0' HR HB0
    obtain ⟨k, x, y, z, t, hk, rfl, rfl, hts, hthr, hR, hbel⟩ := hrel
    have hg := rget_any t wr (by omega)
    obtain ⟨n, d, q, hN⟩ : ∃ n d q, Nm.getN t.data.toList = (n, d, q) := ⟨_, _, _, rfl⟩
    rw [hN] at hg
    dsimp only at hg
    have HN : Hid (Nm.getN t.data.toList = (n, d, q)) := hN
    clear hN
    obtain ⟨⟨r0, r1, r2⟩, ⟨f0, f1, f2⟩, ⟨o0, o1, o2⟩, ⟨p0, p1, p2⟩, ⟨m0, m1, m2⟩, hlt⟩ := hthr.out.cells
    rcases (by omega : k = 0 ∨ k = 1 ∨ k = 2 ∨ k = 3) with rfl | rfl | rfl | rfl
    · by_cases hq : q = 0
      case neg =>
        have HE : Hid (R = ([], [], q)) := by
          show _ = _
          rw [← hR.out]
          show Pr.tot _ (Pr.nums (4096 :: [12288, 256]) _) = _
          rw [Pr.nums_err HN.out hq, Pr.tot_err _ hq]
        have hq2 : (q != 0) = true := by simpa using hq
        clear hR HN
        go_wp2_with fail
        refine hg.mono ?_
        rintro e w1 ⟨rfl, mm, rfl⟩
        clear hg
        go_wp2_with fail
        refine bodyPost_ret (v := .tuple #[.agg #[.int .i64 x, .int .i64 y, .int .i64 z], .string ⟨#[]⟩, .int .i64 q]) ?_ rfl ⟨x, y, z, ⟨#[]⟩, by rw [HE.out], Nat.zero_le _, fun h => absurd (by rw [HE.out] at h; exact h) hq, ?_⟩
        · simp [results, asAddr, go_sem, r0, r1, r2]
        · exact (((below_drewN hbel.out mm).setCell (Nat.le_refl _) _).setCell (Nat.le_refl _) _).setCell (Nat.le_refl _) _
      subst hq
      obtain ⟨hd, hn, _⟩ := Nm.get_one HN.out
      have hd2 : d ≤ t.size := by rw [Lib.size_eq]; exact hd
      have hn2 : n < 18446744073709551616 := hn
      clear hd hn
      by_cases hm : 4096 < n
      · have HE : Hid (R = ([], [], 2)) := by
          show _ = _
          rw [← hR.out]
          show Pr.tot _ (Pr.nums (4096 :: [12288, 256]) _) = _
          rw [Pr.nums_big HN.out hm, Pr.tot_err _ (by omega)]
        clear hR HN
        go_wp2_with fail
        refine hg.mono ?_
        rintro e w1 ⟨rfl, mm, rfl⟩
        clear hg
        go_wp2_with fail
        refine bodyPost_ret (v := .tuple #[.agg #[.int .i64 x, .int .i64 y, .int .i64 z], .string ⟨#[]⟩, .int .i64 2]) ?_ rfl ⟨x, y, z, ⟨#[]⟩, by rw [HE.out], Nat.zero_le _, fun h => absurd (by rw [HE.out] at h; exact h) (by decide), ?_⟩
        · simp [results, asAddr, go_sem, r0, r1, r2]
        · exact (((below_drewN hbel.out mm).setCell (Nat.le_refl _) _).setCell (Nat.le_refl _) _).setCell (Nat.le_refl _) _
      · have hle : n ≤ 4096 := by omega
        have HX : Hid ((t.extract d t.size).data.toList = t.data.toList.drop d) := ext_toList t d
        have HXZ : Hid ((t.extract d t.size).size ≤ s.size) := by show _ ≤ _; rw [ByteArray.size_extract]; omega
        have HE : Hid (Pr.tot ([n, y, z].take (0 + 1)) (Pr.nums ([4096, 12288, 256].drop (0 + 1)) (t.extract d t.size).data.toList) = R) := by
          show Pr.tot ([] ++ [n]) (Pr.nums [12288, 256] (t.extract d t.size).data.toList) = R
          rw [HX.out, ← hR.out]
          exact (Pr.tot_ok (a := []) (m := 4096) (ms := [12288, 256]) HN.out hle).symm
        clear hR HN hm
        go_wp2_with fail
        refine hg.mono ?_
        rintro e w1 ⟨rfl, mm, rfl⟩
        clear hg
        have HS : Hid (Thr ((wr.drewN mm).setCell ⟨w.heap.size + 1, 0, none⟩ (.int .i64 (n : Int))) w.heap.size n y z) := (hthr.out.drewN mm).store 0 n
        have HB : Hid (Below w.heap.size w ((wr.drewN mm).setCell ⟨w.heap.size + 1, 0, none⟩ (.int .i64 (n : Int)))) := (below_drewN hbel.out mm).setCell (by show _ ≤ w.heap.size + 1; omega) _
        go_wp2_with fail
        exact ⟨⟨0 + 1, n, y, z, t.extract d t.size, by omega, by go_num, rfl, HXZ.out, HS, HE, HB⟩, by simp only [intOf]; omega⟩
    · by_cases hq : q = 0
      case neg =>
        have HE : Hid (R = ([], [], q)) := by
          show _ = _
          rw [← hR.out]
          show Pr.tot _ (Pr.nums (12288 :: [256]) _) = _
          rw [Pr.nums_err HN.out hq, Pr.tot_err _ hq]
        have hq2 : (q != 0) = true := by simpa using hq
        clear hR HN
        go_wp2_with fail
        refine hg.mono ?_
        rintro e w1 ⟨rfl, mm, rfl⟩
        clear hg
        go_wp2_with fail
        refine bodyPost_ret (v := .tuple #[.agg #[.int .i64 x, .int .i64 y, .int .i64 z], .string ⟨#[]⟩, .int .i64 q]) ?_ rfl ⟨x, y, z, ⟨#[]⟩, by rw [HE.out], Nat.zero_le _, fun h => absurd (by rw [HE.out] at h; exact h) hq, ?_⟩
        · simp [results, asAddr, go_sem, r0, r1, r2]
        · exact (((below_drewN hbel.out mm).setCell (Nat.le_refl _) _).setCell (Nat.le_refl _) _).setCell (Nat.le_refl _) _
      subst hq
      obtain ⟨hd, hn, _⟩ := Nm.get_one HN.out
      have hd2 : d ≤ t.size := by rw [Lib.size_eq]; exact hd
      have hn2 : n < 18446744073709551616 := hn
      clear hd hn
      by_cases hm : 12288 < n
      · have HE : Hid (R = ([], [], 2)) := by
          show _ = _
          rw [← hR.out]
          show Pr.tot _ (Pr.nums (12288 :: [256]) _) = _
          rw [Pr.nums_big HN.out hm, Pr.tot_err _ (by omega)]
        clear hR HN
        go_wp2_with fail
        refine hg.mono ?_
        rintro e w1 ⟨rfl, mm, rfl⟩
        clear hg
        go_wp2_with fail
        refine bodyPost_ret (v := .tuple #[.agg #[.int .i64 x, .int .i64 y, .int .i64 z], .string ⟨#[]⟩, .int .i64 2]) ?_ rfl ⟨x, y, z, ⟨#[]⟩, by rw [HE.out], Nat.zero_le _, fun h => absurd (by rw [HE.out] at h; exact h) (by decide), ?_⟩
        · simp [results, asAddr, go_sem, r0, r1, r2]
        · exact (((below_drewN hbel.out mm).setCell (Nat.le_refl _) _).setCell (Nat.le_refl _) _).setCell (Nat.le_refl _) _
      · have hle : n ≤ 12288 := by omega
        have HX : Hid ((t.extract d t.size).data.toList = t.data.toList.drop d) := ext_toList t d
        have HXZ : Hid ((t.extract d t.size).size ≤ s.size) := by show _ ≤ _; rw [ByteArray.size_extract]; omega
        have HE : Hid (Pr.tot ([x, n, z].take (1 + 1)) (Pr.nums ([4096, 12288, 256].drop (1 + 1)) (t.extract d t.size).data.toList) = R) := by
          show Pr.tot ([x] ++ [n]) (Pr.nums [256] (t.extract d t.size).data.toList) = R
          rw [HX.out, ← hR.out]
          exact (Pr.tot_ok (a := [x]) (m := 12288) (ms := [256]) HN.out hle).symm
        clear hR HN hm
        go_wp2_with fail
        refine hg.mono ?_
        rintro e w1 ⟨rfl, mm, rfl⟩
        clear hg
        have HS : Hid (Thr ((wr.drewN mm).setCell ⟨w.heap.size + 1, 1, none⟩ (.int .i64 (n : Int))) w.heap.size x n z) := (hthr.out.drewN mm).store 1 n
        have HB : Hid (Below w.heap.size w ((wr.drewN mm).setCell ⟨w.heap.size + 1, 1, none⟩ (.int .i64 (n : Int)))) := (below_drewN hbel.out mm).setCell (by show _ ≤ w.heap.size + 1; omega) _
        go_wp2_with fail
        exact ⟨⟨1 + 1, x, n, z, t.extract d t.size, by omega, by go_num, rfl, HXZ.out, HS, HE, HB⟩, by simp only [intOf]; omega⟩
    · by_cases hq : q = 0
      case neg =>
        have HE : Hid (R = ([], [], q)) := by
          show _ = _
          rw [← hR.out]
          show Pr.tot _ (Pr.nums (256 :: []) _) = _
          rw [Pr.nums_err HN.out hq, Pr.tot_err _ hq]
        have hq2 : (q != 0) = true := by simpa using hq
        clear hR HN
        go_wp2_with fail
        refine hg.mono ?_
        rintro e w1 ⟨rfl, mm, rfl⟩
        clear hg
        go_wp2_with fail
        refine bodyPost_ret (v := .tuple #[.agg #[.int .i64 x, .int .i64 y, .int .i64 z], .string ⟨#[]⟩, .int .i64 q]) ?_ rfl ⟨x, y, z, ⟨#[]⟩, by rw [HE.out], Nat.zero_le _, fun h => absurd (by rw [HE.out] at h; exact h) hq, ?_⟩
        · simp [results, asAddr, go_sem, r0, r1, r2]
        · exact (((below_drewN hbel.out mm).setCell (Nat.le_refl _) _).setCell (Nat.le_refl _) _).setCell (Nat.le_refl _) _
      subst hq
      obtain ⟨hd, hn, _⟩ := Nm.get_one HN.out
      have hd2 : d ≤ t.size := by rw [Lib.size_eq]; exact hd
      have hn2 : n < 18446744073709551616 := hn
      clear hd hn
      by_cases hm : 256 < n
      · have HE : Hid (R = ([], [], 2)) := by
          show _ = _
          rw [← hR.out]
          show Pr.tot _ (Pr.nums (256 :: []) _) = _
          rw [Pr.nums_big HN.out hm, Pr.tot_err _ (by omega)]
        clear hR HN
        go_wp2_with fail
        refine hg.mono ?_
        rintro e w1 ⟨rfl, mm, rfl⟩
        clear hg
        go_wp2_with fail
        refine bodyPost_ret (v := .tuple #[.agg #[.int .i64 x, .int .i64 y, .int .i64 z], .string ⟨#[]⟩, .int .i64 2]) ?_ rfl ⟨x, y, z, ⟨#[]⟩, by rw [HE.out], Nat.zero_le _, fun h => absurd (by rw [HE.out] at h; exact h) (by decide), ?_⟩
        · simp [results, asAddr, go_sem, r0, r1, r2]
        · exact (((below_drewN hbel.out mm).setCell (Nat.le_refl _) _).setCell (Nat.le_refl _) _).setCell (Nat.le_refl _) _
      · have hle : n ≤ 256 := by omega
        have HX : Hid ((t.extract d t.size).data.toList = t.data.toList.drop d) := ext_toList t d
        have HXZ : Hid ((t.extract d t.size).size ≤ s.size) := by show _ ≤ _; rw [ByteArray.size_extract]; omega
        have HE : Hid (Pr.tot ([x, y, n].take (2 + 1)) (Pr.nums ([4096, 12288, 256].drop (2 + 1)) (t.extract d t.size).data.toList) = R) := by
          show Pr.tot ([x, y] ++ [n]) (Pr.nums [] (t.extract d t.size).data.toList) = R
          rw [HX.out, ← hR.out]
          exact (Pr.tot_ok (a := [x, y]) (m := 256) (ms := []) HN.out hle).symm
        clear hR HN hm
        go_wp2_with fail
        refine hg.mono ?_
        rintro e w1 ⟨rfl, mm, rfl⟩
        clear hg
        have HS : Hid (Thr ((wr.drewN mm).setCell ⟨w.heap.size + 1, 2, none⟩ (.int .i64 (n : Int))) w.heap.size x y n) := (hthr.out.drewN mm).store 2 n
        have HB : Hid (Below w.heap.size w ((wr.drewN mm).setCell ⟨w.heap.size + 1, 2, none⟩ (.int .i64 (n : Int)))) := (below_drewN hbel.out mm).setCell (by show _ ≤ w.heap.size + 1; omega) _
        go_wp2_with fail
        exact ⟨⟨2 + 1, x, y, n, t.extract d t.size, by omega, by go_num, rfl, HXZ.out, HS, HE, HB⟩, by simp only [intOf]; omega⟩
    · have HF : Hid (R = ([x, y, z], t.data.toList, 0)) := by
        show _ = _
        rw [← hR.out]
        exact Pr.tot_end [x, y, z] _
      clear hR hg HN
      go_wp2_with fail
      refine bodyPost_ret (v := .tuple #[.agg #[.int .i64 x, .int .i64 y, .int .i64 z], .string t, .int .i64 0]) ?_ rfl ⟨x, y, z, t, by rw [HF.out], hts, fun _ => by rw [HF.out]; exact ⟨rfl, rfl⟩, ((hbel.out.setCell (Nat.le_refl _) _).setCell (Nat.le_refl _) _).setCell (Nat.le_refl _) _⟩
      simp [results, asAddr, go_sem, r0, r1, r2]
end Go.Proofs.Ytkhejelmjkpgfaa

namespace Go.Proofs.Ytkhejelmjkpgfaa
open Go.RowKit
set_option maxRecDepth 4000

theorem drop_byte (s : ByteArray) (k : Nat) (h : k < s.size) : s.data.toList.drop k = s[k] :: s.data.toList.drop (k + 1) := by
  rw [List.drop_eq_getElem_cons (by simpa using h)]; rfl
theorem rt_at_short0 (s : ByteArray) (p : Nat) (h : p < s.size) (h2 : s.size < p + 2) : Lz.rt (s.data.toList.drop p) = (⟨0, 0, 0⟩, 0, 3) := by
  rw [drop_byte s p h, List.drop_eq_nil_of_le (by rw [← Lib.size_eq]; omega)]; rfl
theorem rt_at_letter (s : ByteArray) (p : Nat) (h2 : p + 2 ≤ s.size) (h0 : s[p] = 0) : Lz.rt (s.data.toList.drop p) = (⟨s[p + 1], 0, 0⟩, 2, 0) := by
  rw [drop_byte s p (by omega), drop_byte s (p + 1) (by omega), h0]
  cases s.data.toList.drop (p + 1 + 1) with
  | nil => rfl
  | cons y r => rfl
theorem rt_at_short (s : ByteArray) (p : Nat) (h : p < s.size) (h3 : s.size < p + 3) (h0 : ¬ s[p] = 0) : Lz.rt (s.data.toList.drop p) = (⟨0, 0, 0⟩, 0, 3) := by
  by_cases h2 : s.size < p + 2
  · exact rt_at_short0 s p h h2
  · rw [drop_byte s p h, drop_byte s (p + 1) (by omega), List.drop_eq_nil_of_le (by rw [← Lib.size_eq]; omega)]
    exact if_neg h0
theorem rt_at_copy (s : ByteArray) (p d : Nat) (h3 : p + 3 ≤ s.size) (h0 : ¬ s[p] = 0) (hd : s[p + 1].toNat + 256 * s[p + 2].toNat = d) :
    Lz.rt (s.data.toList.drop p) = if 1 ≤ d ∧ d ≤ 1024 then (⟨0, s[p].toNat, (d : Nat)⟩, 3, 0) else (⟨0, 0, 0⟩, 0, 4) := by
  rw [drop_byte s p (by omega), drop_byte s (p + 1) (by omega), drop_byte s (p + 2) (by omega)]
  subst hd
  exact if_neg h0

set_option maxHeartbeats 2000000 in
theorem rread_of (s : ByteArray) (w : World) (hs : s.size ≤ 140737488351232) (L : Lz.Bs) (R : List Lz.Tk × Nat) (hL : s.data.toList = L) (hR : Lz.rdA [] L = R) :
    Calls Try.prog 61 #[.string s] w fun e w' => ∃ v, e = .returned (.tuple #[v, .int .i64 R.2]) ∧ w'.ownsRow w.heap.size 131 3 v (R.1.map Lz.Tk.raw).length (rowC (R.1.map Lz.Tk.raw)) ∧ Below w.heap.size w w' := by
  have hLl : L.length = s.size := by rw [← hL]; exact (Lib.size_eq s).symm
  have HLL : Hid (L.length = s.size) := hLl
  have HE : Hid (s.data.toList = L) := hL
  have HR : Hid (Lz.rdA [] L = R) := hR
  clear hL hR hLl
  obtain ⟨i0, hi, hz0, hz1, hz2⟩ := info_parts info_tok
  go_enter Try.func61, Try.ntmps61
  go_wp2_with fail
  go_loopw [4, 5] (fun v i wr => ∃ (p : Nat) (out : List Lz.Tk), p ≤ s.size ∧ out.length ≤ 4096 ∧ i = .int .i64 p ∧ Hid (Lz.rdA out (L.drop p) = R) ∧ wr.ownsRow w.heap.size 131 3 v (out.map Lz.Tk.raw).length (rowC (out.map Lz.Tk.raw)) ∧ Below w.heap.size w wr) (fun _ i _ => s.size - (intOf i).toNat)
  case atStart => exact ⟨0, [], by omega, by simp, rfl, HR, World.ownsRow_nil _ _ _ _, Below.refl _ _⟩
  case round =>
    obtain ⟨p, out, hp, ho, rfl, hrd, hown, hbel⟩ := hrel
    by_cases hlt : p < s.size
    · have hdl : (L.drop p).length = s.size - p := by rw [List.length_drop, HLL.out]
      have hne : L.drop p ≠ [] := fun e => by rw [e] at hdl; simp at hdl; omega
      obtain ⟨hst, hok⟩ := Lz.rdA_rt out (L.drop p) hne
      have HD : Hid (∀ n, (L.drop p).drop n = L.drop (p + n)) := fun n => List.drop_drop
      have HS : Hid (Lz.rdA out (L.drop p) = if (Lz.rt (L.drop p)).2.2 = 0 then (if out.length = 4096 then ([], 2) else Lz.rdA (out ++ [(Lz.rt (L.drop p)).1.tok]) (L.drop (p + (Lz.rt (L.drop p)).2.1))) else ([], (Lz.rt (L.drop p)).2.2)) := by
        rw [← HD.out]; exact hst
      rw [hrd.out] at HS
      have HOK : Hid ((Lz.rt (L.drop p)).2.2 = 0 → (Lz.rt (L.drop p)).1.tok.raw = (Lz.rt (L.drop p)).1 ∧ 1 ≤ (Lz.rt (L.drop p)).2.1 ∧ p + (Lz.rt (L.drop p)).2.1 ≤ s.size) := fun e => by
        obtain ⟨h1, h2, h3⟩ := hok e
        exact ⟨h1, h2, by omega⟩
      obtain ⟨q, hq⟩ : ∃ q, Lz.rt (L.drop p) = q := ⟨_, rfl⟩
      have HQ : Hid (Lz.rt (s.data.toList.drop p) = q) := by rw [HE.out]; exact hq
      rw [hq] at HS HOK
      clear hst hok hne hdl hrd hq
      obtain ⟨t, n, e⟩ := q
      dsimp only at HS HOK
      have hbs := hbel.size
      obtain ⟨a4, c4, rfl⟩ := own_form hown
      rw [List.length_map] at hown ⊢
      have XB : Hid (Box (wr.alloc (.cells #[.int .u8 0, .int .i64 0, .int .i64 0] 131)) wr.heap.size ⟨0, 0, 0⟩) := Box.new wr ⟨0, 0, 0⟩
      have b0 := s[p].toNat_lt
      go_upto_if 14 with fail
      go_cut [5] from 7 to 66 (fun i wx => e = 0 ∧ i = .int .i64 ((p : Int) + (n : Int)) ∧ Hid (Box wx wr.heap.size t) ∧ Below wr.heap.size wr wx)
      case first =>
        by_cases h0 : s[p] = 0
        · have q0 : ((s[p].toNat : Int) == 0) = true := by rw [h0]; rfl
          by_cases h2 : p + 2 ≤ s.size
          · have h := HQ.out.symm.trans (rt_at_letter s p h2 h0)
            simp only [Prod.mk.injEq] at h
            obtain ⟨rfl, rfl, rfl⟩ := h
            have i1 : (p : Int) + 1 < (s.size : Int) := by omega
            have q1 : decide ((s.size : Int) < (p : Int) + 2) = false := decide_eq_false (by omega)
            clear h0
            go_wp2_with fail
            go_meet
            exact ⟨trivial, rfl, Box.new wr ⟨s[p + 1], 0, 0⟩, (Below.refl _ wr).alloc (Nat.le_refl _) _⟩
          · have h := HQ.out.symm.trans (rt_at_short0 s p hlt (by omega))
            simp only [Prod.mk.injEq] at h
            obtain ⟨rfl, rfl, rfl⟩ := h
            have HR2 : Hid (R = ([], 3)) := HS.out
            have q1 : decide ((s.size : Int) < (p : Int) + 2) = true := decide_eq_true (by omega)
            clear h0
            go_wp2_with fail
            go_ret2
            refine ⟨.slice none 0 0, ?_, ?_, hbel.alloc hbs _⟩
            · rw [HR2.out]; rfl
            · rw [HR2.out]; exact World.ownsRow_nil _ _ _ _
        · have q0 : ((s[p].toNat : Int) == 0) = false := by rw [beq_eq_false_iff_ne]; intro e; exact h0 ((lit_nat _).2 e)
          by_cases h3 : p + 3 ≤ s.size
          · obtain ⟨P1, hP1⟩ : ∃ P1, P1 = p + 1 := ⟨_, rfl⟩
            obtain ⟨P2, hP2⟩ : ∃ P2, P2 = p + 2 := ⟨_, rfl⟩
            have l1 : P1 < s.size := by omega
            have l2 : P2 < s.size := by omega
            obtain ⟨d, hd⟩ : ∃ d, s[P1].toNat + 256 * s[P2].toNat = d := ⟨_, rfl⟩
            have h := HQ.out.symm.trans (rt_at_copy s p d h3 h0 (by subst hP1 hP2; exact hd))
            have i1 : (p : Int) + 1 = (P1 : Int) := by omega
            have i2 : (p : Int) + 2 = (P2 : Int) := by omega
            have b1 := s[P1].toNat_lt
            have b2 := s[P2].toNat_lt
            have hdI : (s[P1].toNat : Int) + 256 * (s[P2].toNat : Int) = (d : Int) := by omega
            have q1 : decide ((s.size : Int) < (p : Int) + 3) = false := decide_eq_false (by omega)
            by_cases hok : 1 ≤ d ∧ d ≤ 1024
            · rw [if_pos hok] at h
              simp only [Prod.mk.injEq] at h
              obtain ⟨rfl, rfl, rfl⟩ := h
              have q2 : ((d : Int) == 0) = false := by rw [beq_eq_false_iff_ne]; omega
              have q3 : decide (1024 < (d : Int)) = false := decide_eq_false (by omega)
              clear hok hd hP1 hP2
              go_wp2_with fail
              go_region
              all_goals go_wp2_with fail
              all_goals go_meet
              all_goals exact ⟨trivial, rfl, (Box.new wr ⟨0, s[p].toNat, d⟩).below (Below.refl (wr.heap.size + 1) _).drew (by omega), ((Below.refl _ wr).alloc (Nat.le_refl _) _).drew⟩
            · rw [if_neg hok] at h
              simp only [Prod.mk.injEq] at h
              obtain ⟨rfl, rfl, rfl⟩ := h
              have HR2 : Hid (R = ([], 4)) := HS.out
              by_cases hd0 : d = 0
              · have q2 : ((d : Int) == 0) = true := by rw [hd0]; rfl
                clear hok hd hP1 hP2 hd0
                go_wp2_with fail
                go_region
                all_goals go_wp2_with fail
                all_goals go_ret2
                all_goals refine ⟨.slice none 0 0, ?_, ?_, (hbel.alloc hbs _).drew⟩
                all_goals rw [HR2.out]
                all_goals first | rfl | exact World.ownsRow_nil _ _ _ _
              · have q2 : ((d : Int) == 0) = false := by rw [beq_eq_false_iff_ne]; omega
                have q3 : decide (1024 < (d : Int)) = true := decide_eq_true (by omega)
                clear hok hd hP1 hP2
                go_wp2_with fail
                go_region
                all_goals go_wp2_with fail
                all_goals go_ret2
                all_goals refine ⟨.slice none 0 0, ?_, ?_, (hbel.alloc hbs _).drew⟩
                all_goals rw [HR2.out]
                all_goals first | rfl | exact World.ownsRow_nil _ _ _ _
          · have h := HQ.out.symm.trans (rt_at_short s p hlt (by omega) h0)
            simp only [Prod.mk.injEq] at h
            obtain ⟨rfl, rfl, rfl⟩ := h
            have HR2 : Hid (R = ([], 3)) := HS.out
            have q1 : decide ((s.size : Int) < (p : Int) + 3) = true := decide_eq_true (by omega)
            go_wp2_with fail
            go_ret2
            refine ⟨.slice none 0 0, ?_, ?_, hbel.alloc hbs _⟩
            · rw [HR2.out]; rfl
            · rw [HR2.out]; exact World.ownsRow_nil _ _ _ _
      case rest =>
        obtain ⟨rfl, rfl, hbox, hb2⟩ := hcut
        rw [if_pos rfl] at HS
        obtain ⟨hraw, hn1, hn2⟩ := HOK.out rfl
        have hB2 := hbel.trans (hb2.mono hbs)
        have hown2 := own_below hown hb2
        have hs2 := hB2.size
        have hlx := hbox.out.lt
        have c0 := hbox.out.c0
        have c1 := hbox.out.c1
        have c2 := hbox.out.c2
        clear HOK hb2 hbel hown hbox XB HQ
        by_cases ho2 : out.length = 4096
        · have HR2 : Hid (R = ([], 2)) := by have h := HS.out; rw [if_pos ho2] at h; exact h
          have hq : ((out.length : Int) == 4096) = true := by rw [ho2]; rfl
          clear HS ho2
          go_wp2_with fail
          go_ret2
          refine ⟨.slice none 0 0, ?_, ?_, hB2⟩
          · rw [HR2.out]; rfl
          · rw [HR2.out]; exact World.ownsRow_nil _ _ _ _
        · have HR2 : Hid (R = Lz.rdA (out ++ [t.tok]) (L.drop (p + n))) := by have h := HS.out; rw [if_neg ho2] at h; exact h
          have hq : ((out.length : Int) == 4096) = false := by rw [beq_eq_false_iff_ne]; omega
          clear HS
          go_wp2_with (at_builtin; refine wpList_append_own _ rfl (.tmp 63) (.tmp 65) 97 rfl w.heap.size 131 i0 (.agg #[.int .u8 0, .int .i64 0, .int .i64 0]) 3 24 Try.underlying97 hi hz0 hz1 hz2 rfl (by decide) _ _ _ rfl (hown2.alloc _) ⟨wc.heap.size, 0, none⟩ 1 1 (tokC t) rfl rfl ?c1 ?c2 ?c3 ?c4 ?c5 ?_)
          case c1 =>
            intro j u hj
            match j, hj with
            | 0, hj => simp [tokC] at hj; subst hj; simp [Addr.add]
            | 1, hj => simp [tokC] at hj; subst hj; simp [Addr.add]
            | 2, hj => simp [tokC] at hj; subst hj; simp [Addr.add]
          case c2 => intro u hu; simp [tokC] at hu; rcases hu with rfl | rfl | rfl <;> rfl
          case c3 => unfold maxLen; omega
          case c4 => omega
          case c5 => simp; omega
          intro v' w4 hown4 hgrow _
          have HB4 : Hid (Below w.heap.size w w4) := (hB2.alloc hs2 _).grown hgrow (by simp; omega) fun k hk => (hown2.lt k hk).1
          have HO4 : Hid (w4.ownsRow w.heap.size 131 3 v' ((out ++ [t.tok]).map Lz.Tk.raw).length (rowC ((out ++ [t.tok]).map Lz.Tk.raw))) := by
            rw [List.map_append, List.map_singleton, hraw]
            have h4 := hown4
            rw [← List.length_map (f := Lz.Tk.raw)] at h4
            exact own_tok h4
          clear hown4 hgrow hown2 hB2 c0 c1 c2
          go_wp2_with fail
          go_roundw
          case rel => exact ⟨p + n, out ++ [t.tok], hn2, by simp; omega, by go_num, HR2.out.symm, HO4.out, HB4.out⟩
          case measure => simp only [intOf]; omega
    · have HR2 : Hid (R = (out, 0)) := by
        have h := hrd.out
        rw [List.drop_eq_nil_of_le (by rw [HLL.out]; omega)] at h
        exact h.symm
      clear hrd
      go_wp2_with fail
      go_ret2
      refine ⟨u4, ?_, ?_, hbel⟩
      · rw [HR2.out]; rfl
      · rw [HR2.out]; exact hown
theorem rread_any (s : ByteArray) (w : World) (hs : s.size ≤ 140737488351232) :
    Calls Try.prog 61 #[.string s] w fun e w' => ∃ v, e = .returned (.tuple #[v, .int .i64 (Lz.rd s.data.toList).2]) ∧ w'.ownsRow w.heap.size 131 3 v (Lz.rdR s.data.toList).length (rowC (Lz.rdR s.data.toList)) ∧ Below w.heap.size w w' :=
  rread_of s w hs _ _ rfl rfl
end Go.Proofs.Ytkhejelmjkpgfaa

namespace Go.Proofs.Ytkhejelmjkpgfaa
open Go.RowKit
set_option maxRecDepth 4000

set_option maxHeartbeats 400000 in
theorem rexpand_arg (v : Value) (most : Int) (w : World) (h : most < 0 ∨ 4096 < most) :
    Calls Try.prog 62 #[v, .int .i64 most] w fun e w' => e = .returned (.tuple #[.string ⟨#[]⟩, .int .i64 1]) ∧ w' = w := by
  rcases h with h | h
  · go_enter Try.func62, Try.ntmps62
    go_wp2_with fail
    go_ret2
    exact ⟨rfl, rfl⟩
  · have h0 : decide (most < 0) = false := decide_eq_false (by omega)
    have h1 : decide (4096 < most) = true := decide_eq_true h
    go_enter Try.func62, Try.ntmps62
    go_wp2_with fail
    go_ret2
    exact ⟨rfl, rfl⟩

set_option maxHeartbeats 400000 in
theorem rexpand_chk (v : Value) (l : List Lz.Tr) (M : Nat) (w : World) (h : Toks w v l) (hl : l.length ≤ 140737488351232) (hM : M ≤ 4096) (hc : Lz.chk l ≠ 0) :
    Calls Try.prog 62 #[v, .int .i64 M] w fun e w' => e = .returned (.tuple #[.string ⟨#[]⟩, .int .i64 (Lz.chk l)]) ∧ Below w.heap.size w w' := by
  have hk := rcheck_any v l w h hl
  generalize Lz.chk l = c at *
  have hq : ((c : Int) != 0) = true := by rw [bne_iff_ne]; omega
  have h0 : decide ((M : Int) < 0) = false := decide_eq_false (by omega)
  have h1 : decide (4096 < (M : Int)) = false := decide_eq_false (by omega)
  go_enter Try.func62, Try.ntmps62
  go_wp2_with fail
  refine hk.mono ?_
  rintro e w1 ⟨rfl, hb1⟩
  go_wp2_with fail
  go_ret2
  exact ⟨rfl, hb1⟩

/-- the bytes that a copy repeats -/
theorem seed_ext (out : List UInt8) (m : Nat) : (⟨out.toArray⟩ : ByteArray).extract m out.length = ⟨(out.drop m).toArray⟩ := by
  apply ByteArray.ext
  apply Array.toList_inj.1
  rw [ByteArray.data_extract]
  simp [List.extract_eq_take_drop]
  rw [List.take_of_length_le (by rw [List.length_drop]; omega)]
theorem head_ext (r : List UInt8) (n : Nat) : (⟨r.toArray⟩ : ByteArray).extract 0 n = ⟨(r.take n).toArray⟩ := by
  apply ByteArray.ext
  apply Array.toList_inj.1
  rw [ByteArray.data_extract]
  simp [List.extract_eq_take_drop]

set_option maxHeartbeats 2000000 in
theorem rexpand_in (v : Value) (l : List Lz.Tr) (M : Nat) (R : Lz.Bs × Nat) (w : World) (h : Toks w v l) (hM : M ≤ 4096) (hc : Lz.chk l = 0) (hR : Lz.ex M [] (l.map Lz.Tr.tok) = R) :
    Calls Try.prog 62 #[v, .int .i64 M] w fun e w' => e = .returned (.tuple #[.string ⟨R.1.toArray⟩, .int .i64 R.2]) ∧ Below w.heap.size w w' := by
  obtain ⟨hl, hf⟩ := Lz.chk_zero hc
  have hk := rcheck_any v l w h (by omega)
  rw [hc] at hk
  have HF : Hid (∀ t ∈ l, t.form) := hf
  have HR : Hid (Lz.ex M [] (l.map Lz.Tr.tok) = R) := hR
  have HT : Hid (Toks w v l) := h
  obtain ⟨a, c, rfl⟩ := h.slice
  have h0 : decide ((M : Int) < 0) = false := decide_eq_false (by omega)
  have h1 : decide (4096 < (M : Int)) = false := decide_eq_false (by omega)
  clear hf hR hc h
  go_enter Try.func62, Try.ntmps62
  go_wp2_with fail
  refine hk.mono ?_
  rintro e w1 ⟨rfl, hb1⟩
  clear hk
  go_wp2_with fail
  go_loopw [7, 25] (fun v i wr => ∃ (k : Nat) (out : List UInt8), k ≤ l.length ∧ out.length ≤ M ∧ i = .int .i64 k ∧ v = .string ⟨out.toArray⟩ ∧ Hid (Lz.ex M out ((l.drop k).map Lz.Tr.tok) = R) ∧ Below w.heap.size w wr) (fun _ i _ => l.length - (intOf i).toNat)
  case atStart => exact ⟨0, [], by omega, by simp, rfl, rfl, HR, hb1⟩
  case round =>
    obtain ⟨k, out, hkl, hout, rfl, rfl, hex, hbel⟩ := hrel
    have hosz : (⟨out.toArray⟩ : ByteArray).size = out.length := by show out.toArray.size = _; simp
    by_cases hlt : k < l.length
    · obtain ⟨bk, o, rfl, _, hbk, c0, c1, c2⟩ := (HT.out.below (Nat.le_refl _) hbel).get k hlt
      obtain ⟨hraw, hgood⟩ := Lz.Tr.tok_raw (HF.out l[k] (List.getElem_mem hlt))
      have hstep : l.drop k = l[k] :: l.drop (k + 1) := List.drop_eq_getElem_cons hlt
      have HE : Hid (Lz.ex M out (l[k].tok :: (l.drop (k + 1)).map Lz.Tr.tok) = R) := by
        have := hex.out
        rw [hstep, List.map_cons] at this
        exact this
      clear hstep hex
      generalize l[k] = t at *
      generalize t.tok = u at *
      subst hraw
      obtain ⟨b, n, d⟩ := u
      dsimp only [Lz.Tk.raw] at c0 c1 c2
      have hn2 : n ≤ 255 := by rcases hgood with ⟨h1, _⟩ | ⟨_, _, h1, _⟩ <;> simp at h1 <;> omega
      rw [Lz.ex] at HE
      have HL := Lz.make_length ⟨b, n, d⟩ out
      have HZ : Hid ((Lz.Tk.mk b n d).size = if n = 0 then 1 else n) := rfl
      generalize (Lz.Tk.mk b n d).size = z at *
      have hbs := hbel.size
      by_cases hd : out.length < d
      · have HR4 : Hid (R = ([], 4)) := by
          have h := HE.out
          rw [if_pos hd] at h
          exact h.symm
        clear HE
        have hq : decide ((out.length : Int) < (d : Int)) = true := decide_eq_true (by omega)
        go_wp2_with fail
        go_ret2
        exact ⟨by rw [HR4.out]; rfl, hbel.alloc hbs _⟩
      have hd' : d ≤ out.length := by omega
      have hq : decide ((out.length : Int) < (d : Int)) = false := decide_eq_false (by omega)
      by_cases hn : n = 0
      · subst hn
        have hz1 : z = 1 := HZ.out
        subst hz1
        by_cases hz : M < out.length + 1
        · have HR2 : Hid (R = ([], 2)) := by
            have h := HE.out
            rw [if_neg hd, if_pos hz] at h
            exact h.symm
          have hq2 : decide ((M : Int) < (out.length : Int) + 1) = true := decide_eq_true (by omega)
          clear HE
          go_wp2_with fail
          go_ret2
          exact ⟨by rw [HR2.out]; rfl, hbel.alloc hbs _⟩
        · have HE2 : Hid (Lz.ex M (out ++ [b]) ((l.drop (k + 1)).map Lz.Tr.tok) = R) := by
            have h := HE.out
            rw [if_neg hd, if_neg hz] at h
            exact h
          have hq2 : decide ((M : Int) < (out.length : Int) + 1) = false := decide_eq_false (by omega)
          have hst := str_one (wr.alloc (.cells #[.int .u8 b.toNat, .int .i64 0, .int .i64 d] 131)) b
          rw [World.size_alloc] at hst
          have hcat : ∀ W : World, (Op.stringOp .add ⟨out.toArray⟩ ⟨#[b]⟩).run Try.prog W = .ok (.string ⟨(out ++ [b]).toArray⟩) W := fun W => run_string_add_lists W _ [b] (by omega) (by simp)
          have HB3 : Hid (Below w.heap.size w ((wr.alloc (.cells #[.int .u8 b.toNat, .int .i64 0, .int .i64 d] 131)).alloc (.cells #[.int .u8 b.toNat] 5))) := (hbel.alloc hbs _).alloc (by simp; omega) _
          clear HE hbel
          go_wp2_with fail
          go_roundw
          case rel => exact ⟨k + 1, out ++ [b], by omega, by simp; omega, by go_num, rfl, HE2, HB3.out⟩
          case measure => simp only [intOf]; omega
      · have hzn : z = n := by have := HZ.out; rw [if_neg hn] at this; exact this
        subst hzn
        have hq0 : ((z : Int) == 0) = false := by rw [beq_eq_false_iff_ne]; omega
        have hd1 : 1 ≤ d := by rcases hgood with ⟨h1, _⟩ | ⟨_, _, _, h1, _⟩ <;> dsimp only at * <;> omega
        by_cases hz : M < out.length + z
        · have HR2 : Hid (R = ([], 2)) := by
            have h := HE.out
            rw [if_neg hd, if_pos hz] at h
            exact h.symm
          have hq2 : decide ((M : Int) < (out.length : Int) + (z : Int)) = true := decide_eq_true (by omega)
          clear HE hn
          go_wp2_with fail
          go_ret2
          exact ⟨by rw [HR2.out]; rfl, hbel.alloc hbs _⟩
        · have HE2 : Hid (Lz.ex M ((Lz.Tk.mk b z d).make out) ((l.drop (k + 1)).map Lz.Tr.tok) = R) := by
            have h := HE.out
            rw [if_neg hd, if_neg hz] at h
            exact h
          have hmk : (Lz.Tk.mk b z d).make out = Lz.cpy out d z := if_neg hn
          rw [hmk, Lz.cpy_rep out d z hd1 hd'] at HE2
          have hq2 : decide ((M : Int) < (out.length : Int) + (z : Int)) = false := decide_eq_false (by omega)
          obtain ⟨m, hm⟩ : ∃ m, m = out.length - d := ⟨_, rfl⟩
          rw [← hm] at HE2
          have i3 : (out.length : Int) - (d : Int) = (m : Int) := by omega
          have hml : m ≤ out.length := by omega
          have hse := seed_ext out m
          have hsl : (out.drop m).length = d := by rw [List.length_drop]; omega
          generalize out.drop m = sd at *
          have hss : (⟨sd.toArray⟩ : ByteArray).size = d := by show sd.toArray.size = d; simpa using hsl
          obtain ⟨cn, hcn⟩ : ∃ cn, cn = z / d := ⟨_, rfl⟩
          have hqu : Int.tdiv (z : Int) (d : Int) = (cn : Int) := by rw [hcn]; rfl
          rw [← hcn] at HE2
          have hcnz : cn ≤ 255 := by rw [hcn]; exact Nat.le_trans (Nat.div_le_self _ _) hn2
          have hrep : ∀ V, Calls Try.prog 64 #[.string ⟨sd.toArray⟩, .int .i64 ((cn : Int) + 1)] V fun e w' => e = .returned (.string ⟨(Lib.repeatL sd (cn + 1)).toArray⟩) ∧ Below V.heap.size V w' := fun V => Try.strings_Repeat ⟨sd.toArray⟩ (cn + 1) V (by omega) (by rw [hss]; have : d * (cn + 1) ≤ 4096 * 256 := Nat.mul_le_mul (by omega) (by omega); omega)
          have hrl : z ≤ (Lib.repeatL sd (cn + 1)).length := by
            rw [Lib.repeatL_length, hsl, hcn]
            have h := Nat.div_add_mod z d
            have h2 := Nat.mod_lt z (show d > 0 by omega)
            rw [Nat.succ_mul, Nat.mul_comm]
            omega
          generalize Lib.repeatL sd (cn + 1) = rp at *
          have hrs : (⟨rp.toArray⟩ : ByteArray).size = rp.length := by show rp.toArray.size = _; simp
          have hhe := head_ext rp z
          have htk : (rp.take z).length = z := by rw [List.length_take]; omega
          generalize rp.take z = tk at *
          have hcat : ∀ W : World, (Op.stringOp .add ⟨out.toArray⟩ ⟨tk.toArray⟩).run Try.prog W = .ok (.string ⟨(out ++ tk).toArray⟩) W := fun W => run_string_add_lists W _ _ (by omega) (by omega)
          clear HE hm hcn hmk
          go_wp2_with fail
          refine (hrep _).mono ?_
          rintro e w2 ⟨rfl, hb2⟩
          have HB2 : Hid (Below w.heap.size w w2) := (hbel.alloc hbs _).trans (hb2.mono (by simp; omega))
          clear hrep hb2 hbel c0 c1 c2 hse
          go_wp2_with fail
          go_roundw
          case rel => exact ⟨k + 1, out ++ tk, by omega, by rw [List.length_append]; omega, by go_num, rfl, HE2, HB2.out⟩
          case measure => simp only [intOf]; omega
    · have HRE : Hid (R = (out, 0)) := by
        have := hex.out
        rw [List.drop_eq_nil_of_le (by omega)] at this
        exact this.symm
      clear hex
      go_wp2_with fail
      go_ret2
      exact ⟨by rw [HRE.out]; rfl, hbel⟩
theorem rexpand_any (v : Value) (l : List Lz.Tr) (most : Int) (w : World) (h : Toks w v l) (hl : l.length ≤ 140737488351232) :
    Calls Try.prog 62 #[v, .int .i64 most] w fun e w' => e = .returned (.tuple #[.string ⟨(Lz.expd l most).1.toArray⟩, .int .i64 (Lz.expd l most).2]) ∧ Below w.heap.size w w' := by
  unfold Lz.expd
  by_cases hm : most < 0 ∨ 4096 < most
  · rw [if_pos hm]
    refine (rexpand_arg v most w hm).mono ?_
    rintro e w' ⟨rfl, rfl⟩
    exact ⟨rfl, Below.refl _ _⟩
  · rw [if_neg hm]
    obtain ⟨M, rfl⟩ := Int.eq_ofNat_of_zero_le (show 0 ≤ most by omega)
    by_cases hc : Lz.chk l = 0
    · rw [if_pos hc]
      exact rexpand_in v l M _ w h (by omega) hc rfl
    · rw [if_neg hc]
      exact rexpand_chk v l M w h hl (by omega) hc
end Go.Proofs.Ytkhejelmjkpgfaa

namespace Go.Proofs
open Go.Shelf
def Try.lays144_ren : Go.Shelf.Ren := ⟨fun | 144 => 60 | 143 => 90 | 219 => 122 | 217 => 136 | 225 => 137 | 224 => 138 | 267 => 139 | 266 => 142 | 314 => 143 | n => n, fun | 9 => 9 | 4 => 4 | 3 => 3 | 5 => 5 | 46 => 72 | 146 => 175 | 51 => 174 | n => n, fun | 1 => 0 | n => n⟩
theorem Try.lays144 : Go.Proofs.Lays.n144 Try.prog Try.lays144_ren := {
  mixed := by kernel_rfl
  f143 := Try.func90.trans (congrArg some (by kernel_rfl))
  f144 := Try.func60.trans (congrArg some (by kernel_rfl))
  f217 := Try.func136.trans (congrArg some (by kernel_rfl))
  f219 := Try.func122.trans (congrArg some (by kernel_rfl))
  f224 := Try.func138.trans (congrArg some (by kernel_rfl))
  f225 := Try.func137.trans (congrArg some (by kernel_rfl))
  f266 := Try.func142.trans (congrArg some (by kernel_rfl))
  f267 := Try.func139.trans (congrArg some (by kernel_rfl))
  f314 := Try.func143.trans (congrArg some (by kernel_rfl))
  t3 := Try.underlying3
  a3 := Try.isAgg3
  z3 := Try.sizeOf3
  v3 := Try.zeroValue3
  t4 := Try.underlying4
  a4 := Try.isAgg4
  z4 := Try.sizeOf4
  v4 := Try.zeroValue4
  t5 := Try.underlying5
  a5 := Try.isAgg5
  z5 := Try.sizeOf5
  v5 := Try.zeroValue5
  t9 := Try.underlying9
  a9 := Try.isAgg9
  z9 := Try.sizeOf9
  v9 := Try.zeroValue9
  t46 := Try.underlying72
  a46 := Try.isAgg72
  z46 := Try.sizeOf72
  v46 := Try.zeroValue72
  t51 := Try.underlying174
  a51 := Try.isAgg174
  z51 := Try.sizeOf174
  v51 := Try.zeroValue174
  t146 := Try.underlying175
  a146 := Try.isAgg175
  z146 := Try.sizeOf175
  v146 := Try.zeroValue175
  g1 := by kernel_rfl }
open Go.RowKit Go.Lib in
theorem Try.strings_Contains_one (s : ByteArray) (c : UInt8) (w : World) :
    Calls Try.prog 60 #[.string s, .string ⟨#[c]⟩] w fun e w' => e = .returned (.bool (decide (0 ≤ Lib.indexByte s.data.toList c))) ∧ w' = w := Any.strings_Contains_one Try.lays144 s c w
end Go.Proofs

namespace Go.Proofs.Ytkhejelmjkpgfaa
open Go.RowKit
set_option maxRecDepth 4000

namespace Pr
theorem nums_two (m : Nat) (ms : List Nat) (s : Bs) (i : Nat) (h : (nums (m :: ms) s).2.2 = 0) : (nums (m :: ms) s).1.getD (i + 1) 0 = (nums ms (num1 m s).2.1).1.getD i 0 ∧ (nums ms (num1 m s).2.1).2.2 = 0 := by
  rw [nums_cons] at h ⊢
  by_cases h1 : (num1 m s).2.2 ≠ 0
  · rw [if_pos h1] at h
    exact absurd h h1
  · rw [if_neg h1] at h ⊢
    by_cases h2 : (nums ms (num1 m s).2.1).2.2 ≠ 0
    · rw [if_pos h2] at h
      exact absurd h h2
    · rw [if_neg h2]
      exact ⟨rfl, by simpa using h2⟩
theorem idx_ge (l : Bs) (c : UInt8) : -1 ≤ Lib.indexByte l c := by
  induction l with
  | nil => exact Int.le_refl _
  | cons b l ih =>
    rw [Lib.indexByte]
    split
    · omega
    · split <;> omega
theorem one_there (r : List Bool) : decide (0 ≤ Lib.indexByte (sb r) 49) = !(r.all fun b => !b) := by
  induction r with
  | nil => rfl
  | cons b r ih =>
    have hg := idx_ge (sb r) 49
    show decide (0 ≤ Lib.indexByte ((if b then 49 else 48) :: sb r) 49) = _
    rw [Lib.indexByte, List.all_cons]
    cases b with
    | true => rfl
    | false =>
      rw [if_neg (by decide)]
      rw [Bool.not_false, Bool.true_and, ← ih]
      by_cases h : Lib.indexByte (sb r) 49 = -1
      · rw [h]; rfl
      · rw [if_neg (by simpa using h), decide_eq_true (by omega), decide_eq_true (by omega)]
theorem ex_none {m : Nat} {l : List Lz.Tk} {out : Bs} (h : (Lz.ex m out l).2 ≠ 0) : (Lz.ex m out l).1 = [] := by
  induction l generalizing out with
  | nil => exact absurd rfl h
  | cons t l ih =>
    rw [Lz.ex] at h ⊢
    split
    · rfl
    split
    · rfl
    · rename_i h1 h2
      rw [if_neg h1, if_neg h2] at h
      exact ih h
theorem expd_none {l : List Lz.Tr} {m : Int} (h : (Lz.expd l m).2 ≠ 0) : (Lz.expd l m).1 = [] := by
  unfold Lz.expd at h ⊢
  split
  · rfl
  · rename_i h1
    rw [if_neg h1] at h
    split
    · rename_i h2
      rw [if_pos h2] at h
      exact ex_none h
    · rfl
theorem H3_le (s : Bs) (h : (H3 s).2.2 = 0) : (H3 s).1.getD 0 0 ≤ 4096 ∧ (H3 s).1.getD 1 0 ≤ 12288 ∧ (H3 s).1.getD 2 0 ≤ 256 := by
  unfold H3 at h ⊢
  refine ⟨nums_le _ _ _, ?_, ?_⟩
  · rw [(nums_two _ _ _ 0 h).1]
    exact nums_le _ _ _
  · have h2 := nums_two 4096 [12288, 256] s 1 h
    rw [h2.1, (nums_two _ _ _ 0 h2.2).1]
    exact nums_le _ _ _
theorem opC_err {s : Bs} (h : (H3 s).2.2 ≠ 0) : opC s = ([], (H3 s).2.2) := by
  have e : hdE s = (H3 s).2.2 := by unfold hdE; rw [if_pos h]
  rw [opC_hd, e, if_pos h]
theorem opC_ok {s L1 : Bs} {x y z : Nat} (h : H3 s = ([x, y, z], L1, 0)) : opC s = if (pairs z (-1) (List.replicate 256 0) L1).2.2 ≠ 0 then ([], (pairs z (-1) (List.replicate 256 0) L1).2.2) else opS x y (pairs z (-1) (List.replicate 256 0) L1).1 (pairs z (-1) (List.replicate 256 0) L1).2.1 := by
  have hP : PP s = pairs z (-1) (List.replicate 256 0) L1 := by unfold PP; rw [h]; rfl
  have e : hdE s = (PP s).2.2 := by unfold hdE; rw [h]; rfl
  rw [opC_hd, e, hP, h]
  rfl
end Pr

theorem grown_third {w1 w2 : World} {a b c : Value} {T : TypeId} (h : (w1.alloc (.cells #[a, b, c] T)).grownBy w2 none) : w2.cell? ⟨w1.heap.size, 2, none⟩ = some c := by
  have hb : Below (w1.alloc (.cells #[a, b, c] T)).heap.size (w1.alloc (.cells #[a, b, c] T)) w2 := (Below.refl _ _).grown h (Nat.le_refl _) (fun k hk => by cases hk)
  have h1 : w2.heap[w1.heap.size]? = some (.cells #[a, b, c] T) := (hb.block _ (by simp)).trans (heap_alloc_new w1 _)
  rw [cell_of_row _ _ 2 _ _ _ h1]
  rfl

set_option maxHeartbeats 8000000 in
set_option maxRecDepth 10000 in
theorem ropenC_any (s : ByteArray) (w : World) (hs : s.size ≤ 1048576) (h0 : 0 < s.size) (h1 : s[0] = 1) (O : Pr.Bs × Int) (hO : Pr.opC (s.data.toList.drop 1) = O) :
    Calls Try.prog 38 #[.string s] w fun e w' => ∃ s' : ByteArray, e = .returned (.tuple #[.string s', .int .i64 O.2]) ∧ s'.data.toList = O.1 ∧ Below w.heap.size w w' := by
  obtain ⟨i0, hi, hz0, hz1, hz2⟩ := info_parts info_u8
  obtain ⟨j0, gi, gz0, gz1, gz2⟩ := info_parts info_int
  obtain ⟨k0, ki, kz0, kz1, kz2⟩ := info_parts info_str
  have hem : s.toList.isEmpty = false := by
    rw [Lib.toList_data, List.isEmpty_eq_false_iff]
    intro e
    have h := Lib.size_eq s
    rw [e, List.length_nil] at h
    omega
  have hx := ext_toList s 1
  rw [← hx] at hO
  have hxz : (s.extract 1 s.size).size ≤ 1048576 := by rw [ByteArray.size_extract]; omega
  have h3 := three_any (s.extract 1 s.size) w (by omega) _ rfl
  have HO : Hid (Pr.opC (s.extract 1 s.size).data.toList = O) := hO
  clear hx hO
  go_enter Try.func38, Try.ntmps38
  go_wp2_with fail
  refine h3.mono ?_
  generalize s.extract 1 s.size = sx at *
  obtain ⟨R, hR⟩ : ∃ R, Pr.nums [4096, 12288, 256] sx.data.toList = R := ⟨_, rfl⟩
  rw [hR]
  have HR : Hid (Pr.H3 sx.data.toList = R) := hR
  rintro e w1 ⟨x, y, z, s1, rfl, z1, hR1, hb1⟩
  clear h3 hR
  obtain ⟨W1, hW1⟩ : ∃ W1, W1 = w1.alloc (.cells #[.int .i64 (x : Int), .int .i64 (y : Int), .int .i64 (z : Int)] 79) := ⟨_, rfl⟩
  have hb11 : Below w1.heap.size w1 W1 := by rw [hW1]; exact (Below.refl _ w1).alloc (Nat.le_refl _) _
  have HX1 : Hid (W1.heap[w1.heap.size]? = some (.cells #[.int .i64 (x : Int), .int .i64 (y : Int), .int .i64 (z : Int)] 79 (0, 0))) := by rw [hW1]; exact heap_alloc_new w1 _
  have HB1 : Hid (Below w.heap.size w W1) := hb1.trans (hb11.mono hb1.size)
  by_cases hq : R.2.2 = 0
  case neg =>
    have HE : Hid (O = ([], R.2.2)) := by show O = _; rw [← HO.out, Pr.opC_err (by rw [HR.out]; exact hq), HR.out]
    have hq2 : (R.2.2 != 0) = true := by simpa using hq
    clear hR1 HO hb1 hb11 HX1
    generalize R.2.2 = q at *
    go_wp2_with fail
    rw [← hW1]
    go_ret2
    exact ⟨⟨#[]⟩, by rw [HE.out]; rfl, by rw [HE.out], HB1.out⟩
  obtain ⟨y1, y2⟩ := hR1 hq
  have hH : Pr.H3 sx.data.toList = ([x, y, z], s1.data.toList, 0) := by
    rw [HR.out, y2, ← y1, ← hq]
  have hle := Pr.H3_le sx.data.toList (by rw [hH])
  rw [hH] at hle
  obtain ⟨hx4, hy12, hz256⟩ : x ≤ 4096 ∧ y ≤ 12288 ∧ z ≤ 256 := hle
  rw [Pr.opC_ok hH] at HO
  rw [hq]
  clear hR1 y1 y2 hH hq HR hb1 hb11
  have hz1 : W1.heap.size = w1.heap.size + 1 := by rw [hW1]; simp
  go_wp2_with (at_make; refine wpList_make_full _ rfl (.const (.int .i64 256)) (.const (.int .i64 256)) 82 rfl (w1.heap.size + 1) 3 j0 (.int .i64 0) 1 Try.underlying82 gi gz0 gz1 .i64 .i64 _ _ 256 rfl rfl rfl rfl (by rw [gz2]; omega) (by unfold maxLen; omega) (by simp) ?_; intro w2 hown hgrow; have c2 := grown_third hgrow)
  clear c2
  rw [← hW1] at hown hgrow
  rw [hz1] at hown
  have hown2 := made_zeros hown
  have hb12 : Below W1.heap.size W1 w2 := (Below.refl _ _).grown hgrow (Nat.le_refl _) (fun k hk => by cases hk)
  have HX2 : Hid (w2.heap[w1.heap.size]? = some (.cells #[.int .i64 (x : Int), .int .i64 (y : Int), .int .i64 (z : Int)] 79 (0, 0))) := (hb12.block _ (by omega)).trans HX1.out
  have HB2 : Hid (Below w.heap.size w w2) := HB1.out.trans (hb12.mono HB1.out.size)
  have hw12 : w.heap.size ≤ w1.heap.size + 1 := by have := HB1.out.size; omega
  obtain ⟨PP, hPP⟩ : ∃ PP, Pr.pairs z (-1) (List.replicate 256 0) s1.data.toList = PP := ⟨_, rfl⟩
  rw [hPP] at HO
  have HPP : Hid (Pr.pairs (z - 0) (-1) (List.replicate 256 0) (s1.data.toList.drop (2 * 0)) = PP) := hPP
  have HO2 : Hid (w2.ownsRow (w1.heap.size + 1) 3 1 (.slice (some ⟨w1.heap.size + 1, 0, none⟩) 256 256) 256 ((Hf.up (List.replicate 256 0)).map Iv)) := by rw [Hf.up_zero']; exact hown2
  clear hown hgrow hown2 hb12 HX1 HB1 hPP hW1 hz1
  generalize hnb : w1.heap.size = nb at *
  clear hnb
  go_loopw [56] (fun i wx => ∃ (k : Nat) (p : Int) (wide : List Nat), k ≤ z ∧ 2 * k ≤ s1.size ∧ i = .int .i64 k ∧ Hid ((k = 0 ∧ p = -1) ∨ (∃ h : 2 * k - 2 < s1.size, 0 < k ∧ p = ((s1[2 * k - 2]'h).toNat : Int))) ∧ Hid (wide.length = 256) ∧ Hid (∀ n ∈ wide, n ≤ 48) ∧ Hid (Pr.pairs (z - k) p wide (s1.data.toList.drop (2 * k)) = PP) ∧ Hid (wx.ownsRow (nb + 1) 3 1 (.slice (some ⟨nb + 1, 0, none⟩) 256 256) 256 ((Hf.up wide).map Iv)) ∧ Hid (Kept (fun q => q ≠ nb + 1) w2 wx)) (fun i _ => z - (intOf i).toNat)
  case atStart => exact ⟨0, -1, List.replicate 256 0, by omega, by omega, rfl, .inl ⟨rfl, rfl⟩, by show _ = _; simp, fun n hn => by rw [List.eq_of_mem_replicate hn]; omega, HPP, HO2, Kept.refl _ _⟩
  case round =>
    clear HPP HO2
    obtain ⟨k, p, wide, hk, h2k, rfl, hpv, hwl, h48, hP, hrow, hkp⟩ := hrel
    by_cases hlt : k < z
    · obtain ⟨jj, hjj⟩ : ∃ jj, z - k = jj + 1 := ⟨z - k - 1, by omega⟩
      have HJ : Hid (z - (k + 1) = jj) := by show _ = _; omega
      rw [hjj] at hP
      clear hjj
      have HBr : Hid (Below w.heap.size w wr) := HB2.out.trans (hkp.out.below HB2.out.size fun q hq => by omega)
      by_cases hsh : s1.size < 2 * k + 2
      · have hE : PP = ([], [], 3) := by
          rw [← hP.out]
          exact Pr.pairs_short jj p wide _ (by rw [List.length_drop, ← Lib.size_eq]; omega)
        have HE : Hid (O = ([], 3)) := by show O = _; rw [← HO.out, hE]; rfl
        have hq : decide ((s1.size : Int) < 2 * (k : Int) + 2) = true := decide_eq_true (by omega)
        clear hP hE HO
        go_wp2_with fail
        go_ret2
        exact ⟨⟨#[]⟩, by rw [HE.out]; rfl, by rw [HE.out], HBr.out⟩
      have hq : decide ((s1.size : Int) < 2 * (k : Int) + 2) = false := decide_eq_false (by omega)
      obtain ⟨i2, hi2⟩ : ∃ i2, i2 = 2 * k := ⟨_, rfl⟩
      obtain ⟨i21, hi21⟩ : ∃ i21, i21 = 2 * k + 1 := ⟨_, rfl⟩
      have e2 : 2 * (k : Int) = (i2 : Int) := by omega
      have e21 : (i2 : Int) + 1 = (i21 : Int) := by omega
      have l2 : i2 < s1.size := by omega
      have l21 : i21 < s1.size := by omega
      have l2i : (i2 : Int) < (s1.size : Int) := by omega
      have l21i : (i21 : Int) < (s1.size : Int) := by omega
      have hdr : s1.data.toList.drop (2 * k) = s1[i2] :: s1[i21] :: s1.data.toList.drop (2 * (k + 1)) := by
        subst hi2 hi21
        rw [List.drop_eq_getElem_cons (by rw [← Lib.size_eq]; omega), List.drop_eq_getElem_cons (by rw [← Lib.size_eq]; omega)]
        rfl
      rw [hdr] at hP
      have HPN : Hid (0 < k + 1 ∧ ∃ h : 2 * (k + 1) - 2 < s1.size, ((s1[2 * (k + 1) - 2]'h).toNat : Int) = (s1[i2].toNat : Int)) := ⟨by omega, by omega, by subst hi2; rfl⟩
      have ba := s1[i2].toNat_lt
      have bb := s1[i21].toNat_lt
      have HC := Pr.pairs_cons jj p wide s1[i2] s1[i21] (s1.data.toList.drop (2 * (k + 1)))
      have hpv2 := hpv.out
      have HI2 : Hid (i2 = 2 * k ∧ i21 = 2 * k + 1) := ⟨hi2, hi21⟩
      clear hdr hi2 hi21 hsh
      generalize ha : s1[i2] = a at *
      generalize hb : s1[i21] = b at *
      rcases hpv2 with ⟨rfl, rfl⟩ | ⟨hp2, hk0, rfl⟩
      · have hk0 : decide ((0 : Int) < ((0 : Nat) : Int)) = false := rfl
        obtain ⟨rfl, rfl⟩ : i2 = 0 ∧ i21 = 1 := by have := HI2.out; omega
        clear e2 e21 HI2 hk h2k hpv hq
        have hq : decide ((s1.size : Int) < 2) = false := decide_eq_false (by omega)
        by_cases x1 : b.toNat = 0
        · have z1 : ((b.toNat : Int) == 0) = true := by rw [beq_iff_eq]; omega
          have hE : PP = ([], [], 4) := by rw [← hP.out, HC, if_pos (.inr (.inl x1))]
          have HE : Hid (O = ([], 4)) := by show O = _; rw [← HO.out, hE]; rfl
          clear hP hE HO HC
          go_wp2_with fail
          go_quiet (fail)
          go_wp2_with fail
          go_ret2
          exact ⟨⟨#[]⟩, by rw [HE.out]; rfl, by rw [HE.out], below_drewN HBr.out _⟩
        have z1 : ((b.toNat : Int) == 0) = false := by rw [beq_eq_false_iff_ne]; omega
        by_cases x2 : 48 < b.toNat
        · have z2 : decide ((48 : Int) < (b.toNat : Int)) = true := decide_eq_true (by omega)
          have hE : PP = ([], [], 4) := by rw [← hP.out, HC, if_pos (.inr (.inr x2))]
          have HE : Hid (O = ([], 4)) := by show O = _; rw [← HO.out, hE]; rfl
          clear hP hE HO HC
          go_wp2_with fail
          go_quiet (fail)
          go_wp2_with fail
          go_ret2
          exact ⟨⟨#[]⟩, by rw [HE.out]; rfl, by rw [HE.out], below_drewN HBr.out _⟩
        have z2 : decide ((48 : Int) < (b.toNat : Int)) = false := decide_eq_false (by omega)
        rw [if_neg (by omega)] at HC
        have HPN2 : Hid (Pr.pairs jj (a.toNat : Int) (wide.set a.toNat b.toNat) (s1.data.toList.drop (2 * (0 + 1))) = PP) := by show _ = PP; rw [← hP.out, HC]
        have H48 : Hid (∀ n ∈ wide.set a.toNat b.toNat, n ≤ 48) := Pr.set_le h48.out (by omega)
        have HWL : Hid ((wide.set a.toNat b.toNat).length = 256) := by show _ = _; rw [List.length_set]; exact hwl.out
        have hrow := hrow.out
        have q1 := own_at hrow a.toNat (by rw [Hf.up_length, hwl.out]; exact ba)
        have q2 := hrow.frozenAt a.toNat
        generalize (Hf.up wide)[a.toNat]'(by rw [Hf.up_length, hwl.out]; exact ba) = xo at *
        have HO3' : Hid (∀ nq, ((wr.drewN nq).setCell ⟨nb + 1, a.toNat, none⟩ (.int .i64 (b.toNat : Int))).ownsRow (nb + 1) 3 1 (.slice (some ⟨nb + 1, 0, none⟩) 256 256) 256 ((Hf.up (wide.set a.toNat b.toNat)).map Iv)) := fun nq => by
          have HO3 := own_store (row_below hrow (below_drewN (Below.refl _ _) nq)) a.toNat (b.toNat : Int)
          rw [← Pr.up_set] at HO3
          exact HO3
        have HK3 : Hid (∀ nq, Kept (fun q => q ≠ nb + 1) w2 ((wr.drewN nq).setCell ⟨nb + 1, a.toNat, none⟩ (.int .i64 (b.toNat : Int)))) := fun nq => (hkp.out.trans (Kept.of_below (below_drewN (Below.refl _ _) nq))).setCell (by simp) _
        clear hP HC hrow hkp HBr
        go_wp2_with fail
        go_quiet (fail)
        go_wp2_with fail
        go_region
        all_goals go_wp2_with fail
        all_goals exact ⟨⟨0 + 1, a.toNat, wide.set a.toNat b.toNat, by omega, by omega, by go_num, .inr ⟨HPN.out.2.choose, HPN.out.1, HPN.out.2.choose_spec.symm⟩, HWL, H48, by rw [HJ.out]; exact HPN2, HO3'.out _, HK3.out _⟩, by simp only [intOf]; omega⟩
      · have hk1 : decide ((0 : Int) < (k : Int)) = true := decide_eq_true (by omega)
        obtain ⟨i22, hi22⟩ : ∃ i22, 2 * k - 2 = i22 := ⟨_, rfl⟩
        have e22 : (i2 : Int) - 2 = (i22 : Int) := by have := HI2.out; omega
        have l22 : i22 < s1.size := by omega
        have l22i : (i22 : Int) < (s1.size : Int) := by omega
        have hcc : s1[2 * k - 2] = s1[i22] := by subst hi22; rfl
        rw [hcc] at HC
        rw [hcc] at hP
        clear hcc hi22 hpv
        clear hp2
        have bc := s1[i22].toNat_lt
        generalize hc : s1[i22] = c at *
        by_cases x0 : a.toNat ≤ c.toNat
        · have z0 : decide ((a.toNat : Int) ≤ (c.toNat : Int)) = true := decide_eq_true (by omega)
          have z0' : decide (a.toNat ≤ c.toNat) = true := decide_eq_true x0
          have hE : PP = ([], [], 4) := by rw [← hP.out, HC, if_pos (.inl (by omega))]
          have HE : Hid (O = ([], 4)) := by show O = _; rw [← HO.out, hE]; rfl
          clear hP hE HO HC
          go_wp2_with fail
          go_quiet (fail)
          go_wp2_with fail
          go_ret2
          exact ⟨⟨#[]⟩, by rw [HE.out]; rfl, by rw [HE.out], below_drewN HBr.out _⟩
        have z0 : decide ((a.toNat : Int) ≤ (c.toNat : Int)) = false := decide_eq_false (by omega)
        have z0' : decide (a.toNat ≤ c.toNat) = false := decide_eq_false x0
        by_cases x1 : b.toNat = 0
        · have z1 : ((b.toNat : Int) == 0) = true := by rw [beq_iff_eq]; omega
          have hE : PP = ([], [], 4) := by rw [← hP.out, HC, if_pos (.inr (.inl x1))]
          have HE : Hid (O = ([], 4)) := by show O = _; rw [← HO.out, hE]; rfl
          clear hP hE HO HC
          go_wp2_with fail
          go_quiet (fail)
          go_wp2_with fail
          go_ret2
          exact ⟨⟨#[]⟩, by rw [HE.out]; rfl, by rw [HE.out], below_drewN HBr.out _⟩
        have z1 : ((b.toNat : Int) == 0) = false := by rw [beq_eq_false_iff_ne]; omega
        by_cases x2 : 48 < b.toNat
        · have z2 : decide ((48 : Int) < (b.toNat : Int)) = true := decide_eq_true (by omega)
          have hE : PP = ([], [], 4) := by rw [← hP.out, HC, if_pos (.inr (.inr x2))]
          have HE : Hid (O = ([], 4)) := by show O = _; rw [← HO.out, hE]; rfl
          clear hP hE HO HC
          go_wp2_with fail
          go_quiet (fail)
          go_wp2_with fail
          go_ret2
          exact ⟨⟨#[]⟩, by rw [HE.out]; rfl, by rw [HE.out], below_drewN HBr.out _⟩
        have z2 : decide ((48 : Int) < (b.toNat : Int)) = false := decide_eq_false (by omega)
        rw [if_neg (by omega)] at HC
        have HPN2 : Hid (Pr.pairs jj (a.toNat : Int) (wide.set a.toNat b.toNat) (s1.data.toList.drop (2 * (k + 1))) = PP) := by show _ = PP; rw [← hP.out, HC]
        have H48 : Hid (∀ n ∈ wide.set a.toNat b.toNat, n ≤ 48) := Pr.set_le h48.out (by omega)
        have HWL : Hid ((wide.set a.toNat b.toNat).length = 256) := by show _ = _; rw [List.length_set]; exact hwl.out
        have hrow := hrow.out
        have q1 := own_at hrow a.toNat (by rw [Hf.up_length, hwl.out]; exact ba)
        have q2 := hrow.frozenAt a.toNat
        generalize (Hf.up wide)[a.toNat]'(by rw [Hf.up_length, hwl.out]; exact ba) = xo at *
        have HO3' : Hid (∀ nq, ((wr.drewN nq).setCell ⟨nb + 1, a.toNat, none⟩ (.int .i64 (b.toNat : Int))).ownsRow (nb + 1) 3 1 (.slice (some ⟨nb + 1, 0, none⟩) 256 256) 256 ((Hf.up (wide.set a.toNat b.toNat)).map Iv)) := fun nq => by
          have HO3 := own_store (row_below hrow (below_drewN (Below.refl _ _) nq)) a.toNat (b.toNat : Int)
          rw [← Pr.up_set] at HO3
          exact HO3
        have HK3 : Hid (∀ nq, Kept (fun q => q ≠ nb + 1) w2 ((wr.drewN nq).setCell ⟨nb + 1, a.toNat, none⟩ (.int .i64 (b.toNat : Int)))) := fun nq => (hkp.out.trans (Kept.of_below (below_drewN (Below.refl _ _) nq))).setCell (by simp) _
        clear hP HC hrow hkp HBr
        go_wp2_with fail
        go_quiet (fail)
        go_wp2_with fail
        go_region
        all_goals go_wp2_with fail
        all_goals exact ⟨⟨k + 1, a.toNat, wide.set a.toNat b.toNat, by omega, by omega, by go_num, .inr ⟨HPN.out.2.choose, HPN.out.1, HPN.out.2.choose_spec.symm⟩, HWL, H48, by rw [HJ.out]; exact HPN2, HO3'.out _, HK3.out _⟩, by simp only [intOf]; omega⟩
    · obtain rfl : k = z := by omega
      have hPf : PP = (wide, s1.data.toList.drop (2 * k), 0) := by rw [← hP.out, Nat.sub_self]; rfl
      rw [hPf, if_neg (by simp)] at HO
      have HBr : Hid (Below w.heap.size w wr) := HB2.out.trans (hkp.out.below HB2.out.size fun q hq => by omega)
      have HXr : Hid (wr.heap[nb]? = some (.cells #[.int .i64 (x : Int), .int .i64 (y : Int), .int .i64 (k : Int)] 79 (0, 0))) := hkp.out.obj (by omega) HX2.out
      have c2 := (row_cells (cs := [.int .i64 (x : Int), .int .i64 (y : Int), .int .i64 (k : Int)]) HXr.out 2 (by simp)).1
      obtain ⟨s2, hs2⟩ : ∃ s2, s1.extract (2 * k) s1.size = s2 := ⟨_, rfl⟩
      have HS2 : Hid (s2.data.toList = s1.data.toList.drop (2 * k)) := by rw [← hs2]; exact ext_toList s1 (2 * k)
      have hs2z : s2.size ≤ 1048576 := by rw [← hs2, ByteArray.size_extract]; omega
      have hi4 : Ints wr (.slice (some ⟨nb + 1, 0, none⟩) 256 256) (Hf.up wide) := Ints.of_own (base := nb + 1) (by rw [Hf.up_length, hwl.out]; exact hrow.out)
      rw [← HS2.out, Pr.opS_rs] at HO
      have HW : Hid (wide.length = 256) := hwl
      have hnbw : nb + 1 < wr.heap.size := by
        obtain ⟨cur, hc, _⟩ := own_block hrow.out (g := nb + 1) rfl
        exact (Array.getElem?_eq_some_iff.1 hc).1
      clear hPf hP hkp HB2 HX2
      by_cases hks : 2 ^ 48 < Hf.ksum wide
      · have hm := rcodes_form (.slice (some ⟨nb + 1, 0, none⟩) 256 256) wide wr hi4 (by rw [HW.out]; omega) (by rw [HW.out]; omega) h48.out hks
        rw [if_pos hks] at HO
        have HE : Hid (O = ([], 4)) := HO.out.symm
        clear HO hks hi4 hrow
        go_wp2_with fail
        refine hm.mono ?_
        rintro e w5 ⟨rfl, hw5⟩
        have hw5 := hw5.symm
        subst hw5
        go_wp2_with fail
        go_ret2
        exact ⟨⟨#[]⟩, by rw [HE.out]; rfl, by rw [HE.out], HBr.out⟩
      have hm := rcodes_any (.slice (some ⟨nb + 1, 0, none⟩) 256 256) wide wr hi4 (by rw [HW.out]; omega) (by rw [HW.out]; omega) h48.out (by omega)
      rw [HW.out] at hm
      rw [if_neg hks] at HO
      have HG : Hid (Pr.Good wide) := ⟨Hf.getD_le h48.out, by show _ ≤ _; omega⟩
      clear hks hi4
      go_wp2_with fail
      refine hm.mono ?_
      rintro e w5 ⟨v5, rfl, hr5, hb5⟩
      clear hm
      obtain ⟨g5, c5, rfl⟩ : ∃ g5 c5, v5 = .slice (some ⟨g5, 0, none⟩) 256 c5 := by
        rcases hr5.2 with ⟨_, h0⟩ | ⟨g, cap, _, hv, _⟩
        · omega
        · exact ⟨g, cap, hv⟩
      have HB5 : Hid (Below w.heap.size w w5) := HBr.out.trans (hb5.mono HBr.out.size)
      have HR5 : Hid (w5.ownsRow wr.heap.size 3 1 (.slice (some ⟨g5, 0, none⟩) 256 c5) 256 ((Hf.codes wide).map Iv)) := hr5
      have HR4 : Hid (w5.ownsRow (nb + 1) 3 1 (.slice (some ⟨nb + 1, 0, none⟩) 256 256) 256 ((Hf.up wide).map Iv)) := row_below hrow.out hb5
      have HX5 : Hid (w5.heap[nb]? = some (.cells #[.int .i64 (x : Int), .int .i64 (y : Int), .int .i64 (k : Int)] 79 (0, 0))) := (hb5.block _ (by omega)).trans HXr.out
      have hnb5 : nb + 1 < w5.heap.size := by have := hb5.size; omega
      clear hr5 hb5 hrow HXr HBr c2
      go_wp2_with (at_make; refine wpList_make_full _ rfl (.const (.int .i64 256)) (.const (.int .i64 256)) 85 rfl w5.heap.size 9 k0 (.string ⟨#[]⟩) 1 Try.underlying85 ki kz0 kz1 .i64 .i64 _ _ 256 rfl rfl rfl rfl (by rw [kz2]; omega) (by unfold maxLen; omega) (Nat.le_refl _) ?_; intro w6 hown6 hgrow6)
      have hown6' := made_texts hown6
      have HO6 : Hid (w6.ownsRow w5.heap.size 9 1 (.slice (some ⟨w5.heap.size, 0, none⟩) 256 256) 256 (rowW fun i => if i < 0 then Pr.wS wide i else ⟨#[]⟩)) := by
        rw [show (rowW fun i => if i < 0 then Pr.wS wide i else ⟨#[]⟩) = rowW fun _ => ⟨#[]⟩ from rowW_congr fun i _ => if_neg (by omega)]
        exact hown6'
      have HB66 : Hid (Below w5.heap.size w5 w6) := (Below.refl _ _).grown hgrow6 (Nat.le_refl _) (fun k hk => by cases hk)
      clear hown6 hgrow6 hown6'
      go_loopw [124] (fun i wx => ∃ kk : Nat, kk ≤ 256 ∧ i = .int .i64 kk ∧ Hid (wx.ownsRow w5.heap.size 9 1 (.slice (some ⟨w5.heap.size, 0, none⟩) 256 256) 256 (rowW fun i => if i < kk then Pr.wS wide i else ⟨#[]⟩)) ∧ Hid (Below w5.heap.size w5 wx)) (fun i _ => 256 - (intOf i).toNat)
      case atStart => exact ⟨0, by omega, rfl, HO6, HB66⟩
      case round =>
        clear HO6 HB66
        obtain ⟨kk, hkk, rfl, hrow, hbel⟩ := hrel
        by_cases hlt2 : kk < 256
        · have hk4 := own_kept HR4.out (Kept.of_below_at (p := fun k => k < w5.heap.size) hbel.out fun _ h => h) fun g hg => by
            obtain ⟨cur, hc, _⟩ := own_block HR4.out hg
            exact (Array.getElem?_eq_some_iff.1 hc).1
          have hk5 := own_kept HR5.out (Kept.of_below_at (p := fun k => k < w5.heap.size) hbel.out fun _ h => h) fun g hg => by
            obtain ⟨cur, hc, _⟩ := own_block HR5.out hg
            exact (Array.getElem?_eq_some_iff.1 hc).1
          have c4' := own_at hk4 kk (by rw [Hf.up_length, HW.out]; exact hlt2)
          rw [Hf.up_get] at c4'
          have c5' := own_at hk5 kk (by rw [Hf.codes_length, HW.out]; exact hlt2)
          have hcd : (Hf.codes wide)[kk]'(by rw [Hf.codes_length, HW.out]; exact hlt2) = (Hf.code wide kk : Nat) := by simp [Hf.codes]
          rw [hcd] at c5'
          have hl48 := Hf.getD_le h48.out kk
          have hcl : Hf.code wide kk ≤ 281474976710656 := by
            rw [Hf.code_nxt]
            exact Hf.nxt_bound hl48 HG.out.sum
          have hbits := bits_any (wide.getD kk 0) (Hf.code wide kk) wr hcl hl48
          have hWS : (⟨(Pr.sb (Pr.wd (Hf.code wide kk) (wide.getD kk 0))).toArray⟩ : ByteArray) = Pr.wS wide kk := rfl
          rw [hWS] at hbits
          clear hcd hk4 hk5 hWS
          generalize wide.getD kk 0 = nn at *
          generalize Hf.code wide kk = cc at *
          go_wp2_with fail
          refine hbits.mono ?_
          rintro e w8 ⟨rfl, hb8⟩
          have hrow8 := row_below hrow.out hb8
          have f0 := hrow8.frozenAt kk
          have f1 := own_text hrow8 kk hlt2
          have HRS := store_text hrow8 kk (Pr.wS wide kk)
          have HRS' : Hid ((w8.setCell ⟨w5.heap.size, kk, none⟩ (.string (Pr.wS wide kk))).ownsRow w5.heap.size 9 1 (.slice (some ⟨w5.heap.size, 0, none⟩) 256 256) 256 (rowW fun i => if i < kk + 1 then Pr.wS wide i else ⟨#[]⟩)) := by
            rw [show (rowW fun i => if i < kk + 1 then Pr.wS wide i else ⟨#[]⟩) = rowW fun j => if j = kk then Pr.wS wide kk else if j < kk then Pr.wS wide j else ⟨#[]⟩ from rowW_congr fun i _ => by
              by_cases e : i = kk
              · subst e; rw [if_pos (by omega), if_pos rfl]
              · rw [if_neg e]
                by_cases e2 : i < kk
                · rw [if_pos e2, if_pos (by omega)]
                · rw [if_neg e2, if_neg (by omega)]]
            exact HRS
          have hB8 : Below w5.heap.size w5 w8 := hbel.out.trans (hb8.mono hbel.out.size)
          have HB8 : Hid (Below w5.heap.size w5 (w8.setCell ⟨w5.heap.size, kk, none⟩ (.string (Pr.wS wide kk)))) := hB8.setCell (Nat.le_refl _) _
          generalize Pr.wS wide kk = wk at *
          clear hbits hb8 hrow hbel hrow8 HRS hB8 c4' c5'
          go_wp2_with fail
          go_roundw
          case rel => exact ⟨kk + 1, by omega, by go_num, HRS', HB8⟩
          case measure => simp only [intOf]; omega
        · obtain rfl : kk = 256 := by omega
          have hrowW : wr.ownsRow w5.heap.size 9 1 (.slice (some ⟨w5.heap.size, 0, none⟩) 256 256) 256 (rowW (Pr.wS wide)) := by
            rw [show rowW (Pr.wS wide) = (rowW fun i => if i < 256 then Pr.wS wide i else ⟨#[]⟩) from rowW_congr fun i hi => (if_pos hi).symm]
            exact hrow.out
          obtain ⟨W8, hW8⟩ : ∃ W8, W8 = wr.alloc (.cells #[.pointer none, .slice none 0 0] 89) := ⟨_, rfl⟩
          have hb8 : Below wr.heap.size wr W8 := by rw [hW8]; exact (Below.refl _ wr).alloc (Nat.le_refl _) _
          have hz8 : W8.heap.size = wr.heap.size + 1 := by rw [hW8]; simp
          obtain ⟨W9, cap9, hcv, hb9, hl9, hc9⟩ := conv_bytes W8 s2
          have HBL : Hid (Bld W9 W9.heap.size wr.heap.size (Pr.sb (Pr.bitsB ((Pr.dnB s2.data.toList).take 0)))) := Bld.new wr W9 (by rw [← hW8]; exact hb9)
          have hb89 : Below wr.heap.size wr W9 := hb8.trans (hb9.mono (by omega))
          have HRW9 : Hid (W9.ownsRow w5.heap.size 9 1 (.slice (some ⟨w5.heap.size, 0, none⟩) 256 256) 256 (rowW (Pr.wS wide))) := row_below hrowW hb89
          have hb59 : Below w5.heap.size w5 W9 := hbel.out.trans (hb89.mono hbel.out.size)
          have HB9 : Hid (Below w.heap.size w W9) := HB5.out.trans (hb59.mono HB5.out.size)
          have HX9 : Hid (W9.heap[nb]? = some (.cells #[.int .i64 (x : Int), .int .i64 (y : Int), .int .i64 (k : Int)] 79 (0, 0))) := (hb59.block _ (by omega)).trans HX5.out
          have HC9 : Hid (∀ j (hj : j < s2.size), W9.cell? ⟨W8.heap.size, j, none⟩ = some (.int .u8 (s2[j].toNat : Int))) := hc9
          have HL9 : Hid (w5.heap.size < wr.heap.size ∧ W8.heap.size = wr.heap.size + 1 ∧ W8.heap.size < W9.heap.size ∧ w.heap.size ≤ wr.heap.size ∧ nb < wr.heap.size) := by
            have h1 := HB5.out.size
            have h2 := hbel.out.size
            refine ⟨?_, hz8, hl9, by omega, by omega⟩
            obtain ⟨cur, hc, _⟩ := own_block hrowW (g := w5.heap.size) rfl
            exact (Array.getElem?_eq_some_iff.1 hc).1
          clear hrow hrowW hb8 hb9 hl9 hc9 hb89 hbel HR5 HR4 HB5 hz8 hb59 HX5
          go_wp2_with fail
          rw [← hW8, hcv]
          simp only [Result.andThen]
          rw [Oper.upon_value]
          clear hcv
          clear hW8
          go_wp2_with fail
          generalize wr.heap.size = bb at *
          go_loopw [142] (fun i wx => ∃ kk : Nat, kk ≤ s2.size ∧ i = .int .i64 kk ∧ Hid (Bld wx W9.heap.size bb (Pr.sb (Pr.bitsB ((Pr.dnB s2.data.toList).take kk)))) ∧ Hid (Kept (fun q => q ≠ bb ∧ q < W9.heap.size) W9 wx)) (fun i _ => s2.size - (intOf i).toNat)
          case atStart => exact ⟨0, by omega, rfl, HBL, Kept.refl _ _⟩
          case round =>
            clear HBL
            obtain ⟨kk, hkk, rfl, hbl, hkp⟩ := hrel
            by_cases hlt : kk < s2.size
            · have hb256 := s2[kk].toNat_lt
              have cB := (cell_kept hkp.out HL9.out.2.2.1 (by have := HL9.out; omega) kk).trans (HC9.out kk hlt)
              have hsn : (Pr.dnB s2.data.toList).take (kk + 1) = (Pr.dnB s2.data.toList).take kk ++ [s2[kk].toNat] := by
                unfold Pr.dnB
                rw [← List.map_take, ← List.map_take, take_snoc s2 kk hlt, List.map_append]
                rfl
              obtain ⟨wb, hwb⟩ : ∃ wb : ByteArray, wb = ⟨(Pr.sb (Pr.wd s2[kk].toNat 8)).toArray⟩ := ⟨_, rfl⟩
              have HN : Hid (Pr.sb (Pr.bitsB ((Pr.dnB s2.data.toList).take (kk + 1))) = Pr.sb (Pr.bitsB ((Pr.dnB s2.data.toList).take kk)) ++ wb.data.toList) := by
                show _ = _
                rw [hsn, Pr.bitsB_append, Pr.sb_append, hwb, Pr.bitsB_cons, Pr.bitsB_nil, List.append_nil]
              have hwz : wb.size = 8 := by rw [hwb, Lib.size_eq]; show (Pr.sb (Pr.wd _ 8)).length = 8; rw [Pr.sb_length, Pr.wd_length]
              have hbits := bits_any 8 s2[kk].toNat wr (by omega) (by omega)
              rw [← hwb] at hbits
              have hll : (Pr.sb (Pr.bitsB ((Pr.dnB s2.data.toList).take kk))).length ≤ 8 * kk := by
                rw [Pr.sb_length, Pr.bitsB_length, List.length_take]
                omega
              have hsk := hkp.out.size
              generalize s2[kk] = b at *
              clear hsn hwb
              go_wp2_with fail
              refine hbits.mono ?_
              rintro e w10 ⟨rfl, hb10⟩
              have hbl10 := hbl.out.kept (p := fun _ => True) (Kept.of_below hb10) (fun _ _ => trivial)
              have HK10 : Hid (Kept (fun q => q ≠ bb ∧ q < W9.heap.size) W9 w10) := hkp.out.trans (Kept.of_below hb10)
              have hs10 := hb10.size
              have hw := wstr_any W9.heap.size bb (Pr.sb (Pr.bitsB ((Pr.dnB s2.data.toList).take kk))) wb w10 hbl10 (by omega) (by omega)
              rw [← HN.out] at hw
              clear hbits hb10 hbl10 hbl hkp cB HN
              go_wp2_with fail
              refine hw.mono ?_
              rintro e w11 ⟨rfl, hbl2, hkp2⟩
              have HB2 : Hid (Bld w11 W9.heap.size bb (Pr.sb (Pr.bitsB ((Pr.dnB s2.data.toList).take (kk + 1))))) := hbl2
              have HK2 : Hid (Kept (fun q => q ≠ bb ∧ q < W9.heap.size) W9 w11) := HK10.out.trans hkp2
              clear hw hbl2 hkp2 HK10
              go_wp2_with fail
              go_roundw
              case rel => exact ⟨kk + 1, by omega, by go_num, HB2, HK2⟩
              case measure => simp only [intOf]; omega
            · obtain rfl : kk = s2.size := by omega
              have hbl := hbl.out
              rw [List.take_of_length_le (by unfold Pr.dnB; rw [List.length_map, ← Lib.size_eq]; exact Nat.le_refl _)] at hbl
              have hst := bstr_any W9.heap.size bb _ wr hbl hkp.out.size
              obtain ⟨Bv, hBv⟩ : ∃ Bv, Pr.bitsB (Pr.dnB s2.data.toList) = Bv := ⟨_, rfl⟩
              have hBl : Bv.length = 8 * s2.size := by rw [← hBv, Pr.bitsB_length]; unfold Pr.dnB; rw [List.length_map, ← Lib.size_eq]
              rw [hBv] at hst HO
              have HRW10 : Hid (wr.ownsRow w5.heap.size 9 1 (.slice (some ⟨w5.heap.size, 0, none⟩) 256 256) 256 (rowW (Pr.wS wide))) := own_kept HRW9.out hkp.out fun g hg => by
                have e : w5.heap.size = g := by simpa [Value.ownBlock] using hg
                have := HL9.out
                omega
              have HX10 : Hid (wr.heap[nb]? = some (.cells #[.int .i64 (x : Int), .int .i64 (y : Int), .int .i64 (k : Int)] 79 (0, 0))) := hkp.out.obj (by have := HL9.out; omega) HX9.out
              have HB10 : Hid (Below w.heap.size w wr) := HB9.out.trans (hkp.out.below HB9.out.size fun q hq => by have := HL9.out; omega)
              obtain ⟨S1, hS1⟩ : ∃ S1 : ByteArray, S1 = ⟨(Pr.sb Bv).toArray⟩ := ⟨_, rfl⟩
              rw [← hS1] at hst
              have HS1 : Hid (S1.data.toList = Pr.sb Bv) := by rw [hS1]; exact rfl
              have HS1z : Hid (S1.size = Bv.length) := by show _ = _; rw [Lib.size_eq, HS1.out, Pr.sb_length]
              have hS1z : S1.size ≤ 8388608 := by rw [HS1z.out, hBl]; omega
              clear hbl hkp hBv hS1 HRW9 HB9 HC9 HX9 hBl
              go_wp2_with fail
              refine hst.mono ?_
              rintro e w11 ⟨rfl, hb11⟩
              have HB11 : Hid (Below w.heap.size w w11) := HB10.out.trans (hb11.mono HL9.out.2.2.2.1)
              have HX11 : Hid (w11.heap[nb]? = some (.cells #[.int .i64 (x : Int), .int .i64 (y : Int), .int .i64 (k : Int)] 79 (0, 0))) := (hb11.block _ HL9.out.2.2.2.2).trans HX10.out
              have hrow11 : w11.ownsRow w5.heap.size 9 1 (.slice (some ⟨w5.heap.size, 0, none⟩) 256 256) 256 (rowW (Pr.wS wide)) := own_kept HRW10.out (Kept.of_below_at (p := fun k => k < bb) hb11 fun _ h => h) fun g hg => by
                have e : w5.heap.size = g := by simpa [Value.ownBlock] using hg
                have := HL9.out
                omega
              have hsig := rsig_any S1 Bv w5.heap.size w5.heap.size 256 wide y w11 HS1.out (by omega) hrow11 HG.out HW.out hy12
              have c1 := (row_cells (cs := [.int .i64 (x : Int), .int .i64 (y : Int), .int .i64 (k : Int)]) HX11.out 1 (by simp)).1
              clear hst hb11 HB10 HX10 HRW10 hrow11 HL9
              go_wp2_with fail
              refine hsig.mono ?_
              rintro e w12 ⟨T, at_, q, rfl, hso, hb12⟩
              clear hsig c1
              have HB12 : Hid (Below w.heap.size w w12) := HB11.out.trans (hb12.mono HB11.out.size)
              have HX12 : Hid (w12.heap[nb]? = some (.cells #[.int .i64 (x : Int), .int .i64 (y : Int), .int .i64 (k : Int)] 79 (0, 0))) := (hb12.block _ (Array.getElem?_eq_some_iff.1 HX11.out).1).trans HX11.out
              clear hb12 HB11 HX11
              rcases hso with ⟨b, hsg, rfl⟩ | ⟨t, r, hsg, rfl, hT, ha, hr⟩
              · have hrs : Pr.rs wide y Bv = ([], if b then 4 else 3) := by unfold Pr.rs; rw [hsg]; cases b <;> rfl
                have hq : ((if b then (4 : Int) else 3) != 0) = true := by cases b <;> rfl
                have HE : Hid (O = ([], if b then 4 else 3)) := by
                  show O = _
                  rw [← HO.out, hrs, if_pos (by simpa using hq)]
                generalize (if b then (4 : Int) else 3) = q at *
                clear HO hsg hrs
                go_wp2_with fail
                go_ret2
                exact ⟨⟨#[]⟩, by rw [HE.out]; rfl, by rw [HE.out], HB12.out⟩
              have haz : at_ ≤ S1.size := by rw [HS1z.out]; exact ha
              obtain ⟨Lf, hLf⟩ : ∃ Lf, S1.extract at_ S1.size = Lf := ⟨_, rfl⟩
              have HLf : Hid (Lf.data.toList = Pr.sb r) := by
                show _ = _
                rw [← hLf, ext_toList, HS1.out, ← hr]
                simp [Pr.sb, List.map_drop]
              have HLz : Hid (Lf.size = r.length) := by show _ = _; rw [Lib.size_eq, HLf.out, Pr.sb_length]
              have hTz : T.size ≤ 12288 := by
                have := (Pr.signs_of hsg).1
                rw [Lib.size_eq, hT, upB_length]
                omega
              have HRS : Hid (Pr.rs wide y Bv = if Pr.clean r then (Pr.upB t, 0) else ([], 4)) := by show _ = _; unfold Pr.rs; rw [hsg]; rfl
              have HT : Hid (T.data.toList = Pr.upB t) := hT
              clear hsg hT ha hr HS1 HS1z
              by_cases h7 : 7 < r.length
              · have hcl : Pr.clean r = false := by unfold Pr.clean; rw [decide_eq_false (by omega), Bool.false_and]
                have HE : Hid (O = ([], 4)) := by
                  show O = _
                  rw [← HO.out, HRS.out, hcl]
                  rfl
                have h7' : 7 < Lf.size := by rw [HLz.out]; exact h7
                have hq7 : decide ((7 : Int) < (Lf.size : Int)) = true := decide_eq_true (by omega)
                clear HO hcl HRS h7
                go_wp2_with fail
                go_ret2
                exact ⟨⟨#[]⟩, by rw [HE.out]; rfl, by rw [HE.out], HB12.out⟩
              have h7' : Lf.size ≤ 7 := by rw [HLz.out]; omega
              have hq7 : decide ((7 : Int) < (Lf.size : Int)) = false := decide_eq_false (by omega)
              have hcon := Try.strings_Contains_one Lf 49 w12
              rw [HLf.out, Pr.one_there] at hcon
              cases hall : (r.all fun b => !b) with
              | false =>
                rw [hall] at hcon
                have hcl : Pr.clean r = false := by unfold Pr.clean; rw [hall, Bool.and_false]
                have HE : Hid (O = ([], 4)) := by
                  show O = _
                  rw [← HO.out, HRS.out, hcl]
                  rfl
                clear HO hcl HRS hall h7
                go_wp2_with fail
                refine hcon.mono ?_
                rintro e w13 ⟨rfl, hw13⟩
                have hw13 := hw13.symm
                subst hw13
                go_wp2_with fail
                go_ret2
                exact ⟨⟨#[]⟩, by rw [HE.out]; rfl, by rw [HE.out], HB12.out⟩
              | true =>
                rw [hall] at hcon
                have hcl : Pr.clean r = true := by unfold Pr.clean; rw [hall, decide_eq_true (by omega)]; rfl
                rw [HRS.out, hcl] at HO
                have HOT : Hid (Pr.opT x (Pr.upB t) = O) := HO.out
                have hrd := rread_any T w12 (by omega)
                rw [HT.out] at hrd
                have hRl := Pr.rdR_len (Pr.upB t)
                generalize Pr.upB t = U0 at *
                clear HO hcl HRS hall h7
                go_wp2_with fail
                refine hcon.mono ?_
                rintro e w13 ⟨rfl, hw13⟩
                have hw13 := hw13.symm
                subst hw13
                clear hcon
                go_wp2_with fail
                refine hrd.mono ?_
                rintro e w14 ⟨v4, rfl, hrow4, hb4⟩
                clear hrd
                obtain ⟨a4, c4, rfl⟩ := own_form hrow4
                have HX14 : Hid (w14.heap[nb]? = some (.cells #[.int .i64 (x : Int), .int .i64 (y : Int), .int .i64 (k : Int)] 79 (0, 0))) := (hb4.block _ (Array.getElem?_eq_some_iff.1 HX12.out).1).trans HX12.out
                have HB14 : Hid (Below w.heap.size w w14) := HB12.out.trans (hb4.mono HB12.out.size)
                have htk : Toks w14 (.slice a4 (Lz.rdR U0).length c4) (Lz.rdR U0) := Toks.of_own hrow4
                clear hb4 HX12 HB12 hrow4
                by_cases x4 : (Lz.rd U0).2 = 0
                case neg =>
                  have HE : Hid (O = ([], ((Lz.rd U0).2 : Int))) := by show O = _; rw [← HOT.out]; exact Pr.opT_rd x4
                  generalize (Lz.rd U0).2 = e4 at *
                  have hq : ((e4 : Int) != 0) = true := by rw [bne_iff_ne]; omega
                  clear HOT x4 htk
                  generalize (Lz.rdR U0).length = zz at *
                  go_wp2_with fail
                  go_ret2
                  exact ⟨⟨#[]⟩, by rw [HE.out]; rfl, by rw [HE.out], HB14.out⟩
                have hex := rexpand_any (.slice a4 (Lz.rdR U0).length c4) (Lz.rdR U0) x w14 htk (by omega)
                have HX4R : Hid ((Lz.rd U0).2 = 0) := x4
                rw [x4]
                clear x4 htk
                have hEl := Pr.expd_len (Lz.rdR U0) hx4
                have HP : Hid ((Lz.expd (Lz.rdR U0) x).2 ≠ 0 → O = ([], ((Lz.expd (Lz.rdR U0) x).2 : Int))) := fun h => by rw [← HOT.out]; exact Pr.opT_ex hx4 HX4R.out h
                have HP2 : Hid ((Lz.expd (Lz.rdR U0) x).2 = 0 → (Lz.expd (Lz.rdR U0) x).1.length < x → O = ([], 4)) := fun h h' => by rw [← HOT.out]; exact Pr.opT_few hx4 HX4R.out h h'
                have HP3 : Hid ((Lz.expd (Lz.rdR U0) x).2 = 0 → ¬ (Lz.expd (Lz.rdR U0) x).1.length < x → O = ((Lz.expd (Lz.rdR U0) x).1, 0)) := fun h h' => by rw [← HOT.out]; exact Pr.opT_all hx4 HX4R.out h h'
                have HPE : Hid ((Lz.expd (Lz.rdR U0) x).2 ≠ 0 → (Lz.expd (Lz.rdR U0) x).1 = []) := Pr.expd_none
                clear HOT HX4R
                generalize Lz.expd (Lz.rdR U0) x = Y at *
                generalize (Lz.rdR U0).length = zz at *
                obtain ⟨U, e5⟩ := Y
                dsimp only at hex hEl HP HP2 HP3 HPE
                obtain ⟨SU, hSU⟩ : ∃ SU : ByteArray, SU = ⟨U.toArray⟩ := ⟨_, rfl⟩
                rw [← hSU] at hex
                have HSU : Hid (SU.data.toList = U) := by rw [hSU]; exact rfl
                have HSUz : Hid (SU.size = U.length) := by show _ = _; rw [Lib.size_eq, HSU.out]
                clear hSU
                have c0 := (row_cells (cs := [.int .i64 (x : Int), .int .i64 (y : Int), .int .i64 (k : Int)]) HX14.out 0 (by simp)).1
                go_wp2_with fail
                refine hex.mono ?_
                rintro e w15 ⟨rfl, hb5⟩
                clear hex c0
                have HX15 : Hid (w15.heap[nb]? = some (.cells #[.int .i64 (x : Int), .int .i64 (y : Int), .int .i64 (k : Int)] 79 (0, 0))) := (hb5.block _ (Array.getElem?_eq_some_iff.1 HX14.out).1).trans HX14.out
                have HB15 : Hid (Below w.heap.size w w15) := HB14.out.trans (hb5.mono HB14.out.size)
                have c0 := (row_cells (cs := [.int .i64 (x : Int), .int .i64 (y : Int), .int .i64 (k : Int)]) HX15.out 0 (by simp)).1
                clear hb5 HX14 HB14 HX15
                by_cases x5 : e5 = 0
                case neg =>
                  have HE : Hid (O = ([], (e5 : Int))) := HP.out x5
                  have HU : Hid (U = []) := HPE.out x5
                  have hq : ((e5 : Int) == 0) = false := by rw [beq_eq_false_iff_ne]; omega
                  clear HP HP2 HP3 HPE
                  go_wp2_with fail
                  go_ret2
                  exact ⟨SU, by rw [HE.out]; rfl, by rw [HE.out, HSU.out, HU.out], HB15.out⟩
                subst x5
                by_cases x6 : U.length < x
                · have HE : Hid (O = ([], 4)) := HP2.out (by simp) x6
                  have x7 : SU.size < x := by rw [HSUz.out]; exact x6
                  clear HP HP2 HP3 HPE x6
                  go_wp2_with fail
                  go_ret2
                  exact ⟨⟨#[]⟩, by rw [HE.out]; rfl, by rw [HE.out], HB15.out⟩
                · have HE : Hid (O = (U, 0)) := HP3.out (by simp) x6
                  have x7 : ¬ SU.size < x := by rw [HSUz.out]; exact x6
                  clear HP HP2 HP3 HPE x6
                  go_wp2_with fail
                  go_ret2
                  exact ⟨SU, by rw [HE.out]; rfl, by rw [HE.out, HSU.out], HB15.out⟩

set_option maxHeartbeats 2000000 in
set_option maxRecDepth 10000 in
theorem ropen_any (s : ByteArray) (w : World) (hs : s.size ≤ 1048576) :
    Calls Try.prog 38 #[.string s] w fun e w' => ∃ s' : ByteArray, e = .returned (.tuple #[.string s', .int .i64 (Pr.op s.data.toList).2]) ∧ s'.data.toList = (Pr.op s.data.toList).1 ∧ Below w.heap.size w w' := by
  by_cases h0 : s.size = 0
  · have hnil : s.data.toList = [] := List.length_eq_zero_iff.1 (by rw [← Lib.size_eq]; exact h0)
    have hem : s.toList.isEmpty = true := by rw [Lib.toList_data, hnil]; rfl
    rw [hnil, show Pr.op [] = ([], 3) from rfl]
    clear hnil
    go_enter Try.func38, Try.ntmps38
    go_wp2_with fail
    go_ret2
    exact ⟨⟨#[]⟩, rfl, rfl, Below.refl _ _⟩
  have J0 : 0 < s.size := by omega
  have hb := one_byte s (by omega)
  by_cases h1 : s[0] = 1
  · have hr : Pr.op s.data.toList = Pr.opC (s.data.toList.drop 1) := by
      conv => lhs; rw [hb, h1]
      exact Pr.op_one _
    exact ropenC_any s w hs J0 h1 _ hr.symm
  have hem : s.toList.isEmpty = false := by
    rw [Lib.toList_data, List.isEmpty_eq_false_iff]
    intro e
    have h := Lib.size_eq s
    rw [e, List.length_nil] at h
    omega
  have hx := ext_toList s 1
  have b0 := s[0].toNat_lt
  generalize ha : s[0] = a at *
  by_cases h2 : a = 0
  · have hr : Pr.op s.data.toList = if 4096 < (s.data.toList.drop 1).length then ([], 2) else (s.data.toList.drop 1, 0) := by
      rw [hb, h2]; exact Pr.op_zero _
    have hl : (s.data.toList.drop 1).length = s.size - 1 := by rw [List.length_drop, ← Lib.size_eq]
    rw [hl] at hr
    have hq : ((a.toNat : Int) == 0) = true := by rw [h2]; rfl
    by_cases h3 : 4097 < s.size
    · rw [if_pos (by omega)] at hr
      rw [hr]
      have hq2 : decide ((4097 : Int) < (s.size : Int)) = true := decide_eq_true (by omega)
      clear hb hx hr h1 h2 hl h0
      go_enter Try.func38, Try.ntmps38
      go_wp2_with fail
      go_ret2
      exact ⟨⟨#[]⟩, rfl, rfl, Below.refl _ _⟩
    · rw [if_neg (by omega)] at hr
      rw [hr]
      have hq2 : decide ((4097 : Int) < (s.size : Int)) = false := decide_eq_false (by omega)
      have HX : Hid ((s.extract 1 s.size).data.toList = s.data.toList.drop 1) := hx
      clear hb hx hr h1 h2 hl h0
      go_enter Try.func38, Try.ntmps38
      go_wp2_with fail
      go_ret2
      exact ⟨s.extract 1 s.size, rfl, HX.out, Below.refl _ _⟩
  have hr : Pr.op s.data.toList = ([], 5) := by
    rw [hb]
    show (if a = 0 then _ else if a = 1 then _ else _) = _
    rw [if_neg h2, if_neg h1]
  rw [hr]
  have hq : ((a.toNat : Int) == 0) = false := by rw [beq_eq_false_iff_ne]; intro e; exact h2 (UInt8.toNat_inj.1 (by show a.toNat = 0; omega))
  have hq2 : ((a.toNat : Int) != 1) = true := by rw [bne_iff_ne]; intro e; exact h1 (UInt8.toNat_inj.1 (by show a.toNat = 1; omega))
  clear hb hx hr h1 h2 h0
  go_enter Try.func38, Try.ntmps38
  go_wp2_with fail
  go_ret2
  exact ⟨⟨#[]⟩, rfl, rfl, Below.refl _ _⟩
end Go.Proofs.Ytkhejelmjkpgfaa

namespace Go.Proofs.Ytkhejelmjkpgfaa
open Go.RowKit
set_option maxRecDepth 4000
set_option linter.unusedVariables false

set_option maxHeartbeats 2000000 in
theorem rone_bad1 (b0 b1 b2 b3 b4 b5 b6 b7 : UInt8) (kd p q : Int) (s : ByteArray) (w : World) (hs : s.size ≤ 140737488351232) (h1 : p < 0) :
    Calls Try.prog 17 #[.string s, .agg #[.int .u8 (b0.toNat : Int), .int .u8 (b1.toNat : Int), .int .u8 (b2.toNat : Int), .int .u8 (b3.toNat : Int), .int .u8 (b4.toNat : Int), .int .u8 (b5.toNat : Int), .int .u8 (b6.toNat : Int), .int .u8 (b7.toNat : Int), .int .i64 kd, .int .i64 p, .int .i64 q]] w fun e w' => e = .returned (.tuple #[.agg #[.int .i64 0, .string ⟨#[]⟩], .int .i64 1]) ∧ Below w.heap.size w w' := by
  have HB : Hid (∀ o1 o2, Below w.heap.size w ((w.alloc o1).alloc o2)) := fun o1 o2 => ((Below.refl _ w).alloc (Nat.le_refl _) _).alloc (by simp) _
  go_enter Try.func17, Try.ntmps17
  go_wp2_with fail
  refine bodyPost_ret (v := .tuple #[.agg #[.int .i64 0, .string ⟨#[]⟩], .int .i64 1]) ?_ rfl ⟨rfl, HB.out _ _⟩
  have hres : Try.f17.results = #[.cell 4 24, .tmp 5] := by kernel_rfl
  simp only [results, hres]
  go_simp

set_option maxHeartbeats 2000000 in
theorem rone_bad2 (b0 b1 b2 b3 b4 b5 b6 b7 : UInt8) (kd p q : Int) (s : ByteArray) (w : World) (hs : s.size ≤ 140737488351232) (h1 : 0 ≤ p) (h2 : q < 0) :
    Calls Try.prog 17 #[.string s, .agg #[.int .u8 (b0.toNat : Int), .int .u8 (b1.toNat : Int), .int .u8 (b2.toNat : Int), .int .u8 (b3.toNat : Int), .int .u8 (b4.toNat : Int), .int .u8 (b5.toNat : Int), .int .u8 (b6.toNat : Int), .int .u8 (b7.toNat : Int), .int .i64 kd, .int .i64 p, .int .i64 q]] w fun e w' => e = .returned (.tuple #[.agg #[.int .i64 0, .string ⟨#[]⟩], .int .i64 1]) ∧ Below w.heap.size w w' := by
  have HB : Hid (∀ o1 o2, Below w.heap.size w ((w.alloc o1).alloc o2)) := fun o1 o2 => ((Below.refl _ w).alloc (Nat.le_refl _) _).alloc (by simp) _
  go_enter Try.func17, Try.ntmps17
  go_wp2_with fail
  refine bodyPost_ret (v := .tuple #[.agg #[.int .i64 0, .string ⟨#[]⟩], .int .i64 1]) ?_ rfl ⟨rfl, HB.out _ _⟩
  have hres : Try.f17.results = #[.cell 4 24, .tmp 5] := by kernel_rfl
  simp only [results, hres]
  go_simp

set_option maxHeartbeats 2000000 in
theorem rone_bad3 (b0 b1 b2 b3 b4 b5 b6 b7 : UInt8) (kd p q : Int) (s : ByteArray) (w : World) (hs : s.size ≤ 140737488351232) (h1 : 0 ≤ p) (h2 : 0 ≤ q) (h3 : (s.size : Int) < q) :
    Calls Try.prog 17 #[.string s, .agg #[.int .u8 (b0.toNat : Int), .int .u8 (b1.toNat : Int), .int .u8 (b2.toNat : Int), .int .u8 (b3.toNat : Int), .int .u8 (b4.toNat : Int), .int .u8 (b5.toNat : Int), .int .u8 (b6.toNat : Int), .int .u8 (b7.toNat : Int), .int .i64 kd, .int .i64 p, .int .i64 q]] w fun e w' => e = .returned (.tuple #[.agg #[.int .i64 0, .string ⟨#[]⟩], .int .i64 1]) ∧ Below w.heap.size w w' := by
  have HB : Hid (∀ o1 o2, Below w.heap.size w ((w.alloc o1).alloc o2)) := fun o1 o2 => ((Below.refl _ w).alloc (Nat.le_refl _) _).alloc (by simp) _
  go_enter Try.func17, Try.ntmps17
  go_wp2_with fail
  refine bodyPost_ret (v := .tuple #[.agg #[.int .i64 0, .string ⟨#[]⟩], .int .i64 1]) ?_ rfl ⟨rfl, HB.out _ _⟩
  have hres : Try.f17.results = #[.cell 4 24, .tmp 5] := by kernel_rfl
  simp only [results, hres]
  go_simp

set_option maxHeartbeats 2000000 in
theorem rone_bad4 (b0 b1 b2 b3 b4 b5 b6 b7 : UInt8) (kd p q : Int) (s : ByteArray) (w : World) (hs : s.size ≤ 140737488351232) (h1 : 0 ≤ p) (h2 : 0 ≤ q) (h3 : q ≤ (s.size : Int)) (h4 : (s.size : Int) - q < p) :
    Calls Try.prog 17 #[.string s, .agg #[.int .u8 (b0.toNat : Int), .int .u8 (b1.toNat : Int), .int .u8 (b2.toNat : Int), .int .u8 (b3.toNat : Int), .int .u8 (b4.toNat : Int), .int .u8 (b5.toNat : Int), .int .u8 (b6.toNat : Int), .int .u8 (b7.toNat : Int), .int .i64 kd, .int .i64 p, .int .i64 q]] w fun e w' => e = .returned (.tuple #[.agg #[.int .i64 0, .string ⟨#[]⟩], .int .i64 1]) ∧ Below w.heap.size w w' := by
  have HB : Hid (∀ o1 o2, Below w.heap.size w ((w.alloc o1).alloc o2)) := fun o1 o2 => ((Below.refl _ w).alloc (Nat.le_refl _) _).alloc (by simp) _
  go_enter Try.func17, Try.ntmps17
  go_wp2_with fail
  refine bodyPost_ret (v := .tuple #[.agg #[.int .i64 0, .string ⟨#[]⟩], .int .i64 1]) ?_ rfl ⟨rfl, HB.out _ _⟩
  have hres : Try.f17.results = #[.cell 4 24, .tmp 5] := by kernel_rfl
  simp only [results, hres]
  go_simp

set_option maxHeartbeats 4000000 in
theorem rone_kind (b0 b1 b2 b3 b4 b5 b6 b7 : UInt8) (kd : Int) (p q r : Nat) (s : ByteArray) (w : World) (hs : s.size ≤ 140737488351232) (hpr : p ≤ r) (hr : r ≤ s.size) (hq : q ≤ s.size) (i1 : (p : Int) + (q : Int) = (r : Int)) (h4 : (p : Int) ≤ (s.size : Int) - (q : Int)) (hk : kB kd = false) :
    Calls Try.prog 17 #[.string s, .agg #[.int .u8 (b0.toNat : Int), .int .u8 (b1.toNat : Int), .int .u8 (b2.toNat : Int), .int .u8 (b3.toNat : Int), .int .u8 (b4.toNat : Int), .int .u8 (b5.toNat : Int), .int .u8 (b6.toNat : Int), .int .u8 (b7.toNat : Int), .int .i64 kd, .int .i64 (p : Int), .int .i64 (q : Int)]] w fun e w' => e = .returned (.tuple #[.agg #[.int .i64 0, .string ⟨#[]⟩], .int .i64 5]) ∧ Below w.heap.size w w' := by
  obtain ⟨W2, hW2⟩ : ∃ W2, W2 = (w.alloc (.cells #[.int .u8 (b0.toNat : Int), .int .u8 (b1.toNat : Int), .int .u8 (b2.toNat : Int), .int .u8 (b3.toNat : Int), .int .u8 (b4.toNat : Int), .int .u8 (b5.toNat : Int), .int .u8 (b6.toNat : Int), .int .u8 (b7.toNat : Int), .int .i64 kd, .int .i64 (p : Int), .int .i64 (q : Int)] 38)).alloc (.cells #[.int .i64 0, .string ⟨#[]⟩] 24) := ⟨_, rfl⟩
  have hsz : W2.heap.size = w.heap.size + 2 := by rw [hW2]; simp
  have hX : Cz W2 w.heap.size (#[.int .u8 (b0.toNat : Int), .int .u8 (b1.toNat : Int), .int .u8 (b2.toNat : Int), .int .u8 (b3.toNat : Int), .int .u8 (b4.toNat : Int), .int .u8 (b5.toNat : Int), .int .u8 (b6.toNat : Int), .int .u8 (b7.toNat : Int), .int .i64 kd, .int .i64 (p : Int), .int .i64 (q : Int)] : Array Value).toList := by rw [hW2]; exact (Cz.new w #[.int .u8 (b0.toNat : Int), .int .u8 (b1.toNat : Int), .int .u8 (b2.toNat : Int), .int .u8 (b3.toNat : Int), .int .u8 (b4.toNat : Int), .int .u8 (b5.toNat : Int), .int .u8 (b6.toNat : Int), .int .u8 (b7.toNat : Int), .int .i64 kd, .int .i64 (p : Int), .int .i64 (q : Int)] 38).below ((Below.refl _ _).alloc (Nat.le_refl _) _) (by simp)
  have hR : Cz W2 (w.heap.size + 1) (#[.int .i64 0, .string ⟨#[]⟩] : Array Value).toList := by
    rw [hW2]
    have := Cz.new (w.alloc (.cells #[.int .u8 (b0.toNat : Int), .int .u8 (b1.toNat : Int), .int .u8 (b2.toNat : Int), .int .u8 (b3.toNat : Int), .int .u8 (b4.toNat : Int), .int .u8 (b5.toNat : Int), .int .u8 (b6.toNat : Int), .int .u8 (b7.toNat : Int), .int .i64 kd, .int .i64 (p : Int), .int .i64 (q : Int)] 38)) #[.int .i64 0, .string ⟨#[]⟩] 24
    rwa [World.size_alloc] at this
  have hB2 : Below w.heap.size w W2 := by rw [hW2]; exact ((Below.refl _ w).alloc (Nat.le_refl _) _).alloc (by simp) _
  have n0 : ¬ (p : Int) < 0 := by omega
  have n1 : ¬ (q : Int) < 0 := by omega
  have n2 : ¬ (s.size : Int) < (q : Int) := by omega
  have hisk := fun W => rkind_any kd W
  rw [hk] at hisk
  have e0 := hX.at_ 0 _ rfl
  have e1 := hX.at_ 1 _ rfl
  have e2 := hX.at_ 2 _ rfl
  have e3 := hX.at_ 3 _ rfl
  have e4 := hX.at_ 4 _ rfl
  have e5 := hX.at_ 5 _ rfl
  have e6 := hX.at_ 6 _ rfl
  have e7 := hX.at_ 7 _ rfl
  have e8 := hX.at_ 8 _ rfl
  have e9 := hX.at_ 9 _ rfl
  have e10 := hX.at_ 10 _ rfl
  have r0 := hR.at_ 0 _ rfl
  have r1 := hR.at_ 1 _ rfl
  have f0 := hR.fz 0
  have f1 := hR.fz 1
  have HB : Hid (Below w.heap.size w ((W2.setCell ⟨w.heap.size + 1, 0, none⟩ (.int .i64 0)).setCell ⟨w.heap.size + 1, 1, none⟩ (.string ⟨#[]⟩))) := (hB2.setCell (by simp) _).setCell (by simp) _
  clear hX hR hB2 hk hsz
  go_enter Try.func17, Try.ntmps17
  go_upto_region 1 with fail
  rw [← hW2]
  clear hW2
  go_wp2_with fail
  refine (hisk _).mono ?_
  rintro e u ⟨rfl, hu⟩
  obtain rfl := hu.symm
  clear hu hisk
  go_wp2_with fail
  refine bodyPost_ret (v := .tuple #[.agg #[.int .i64 0, .string ⟨#[]⟩], .int .i64 5]) ?_ rfl ⟨rfl, HB.out⟩
  have hres : Try.f17.results = #[.cell 4 24, .tmp 5] := by kernel_rfl
  simp only [results, hres]
  go_simp
set_option maxHeartbeats 4000000 in
theorem rone_open (b0 b1 b2 b3 b4 b5 b6 b7 : UInt8) (kd : Int) (p q r : Nat) (s : ByteArray) (w : World) (hs : s.size ≤ 140737488351232) (hpr : p ≤ r) (hr : r ≤ s.size) (hq : q ≤ s.size) (i1 : (p : Int) + (q : Int) = (r : Int)) (h4 : (p : Int) ≤ (s.size : Int) - (q : Int)) (er : Int) (t : ByteArray) (hk : kB kd = true) (her : er ≠ 0)
    (hop : ∀ W, Calls Try.prog 38 #[.string ((s.extract p s.size).extract 0 q)] W fun e w' => e = .returned (.tuple #[.string t, .int .i64 er]) ∧ Below W.heap.size W w') :
    Calls Try.prog 17 #[.string s, .agg #[.int .u8 (b0.toNat : Int), .int .u8 (b1.toNat : Int), .int .u8 (b2.toNat : Int), .int .u8 (b3.toNat : Int), .int .u8 (b4.toNat : Int), .int .u8 (b5.toNat : Int), .int .u8 (b6.toNat : Int), .int .u8 (b7.toNat : Int), .int .i64 kd, .int .i64 (p : Int), .int .i64 (q : Int)]] w fun e w' => e = .returned (.tuple #[.agg #[.int .i64 0, .string ⟨#[]⟩], .int .i64 er]) ∧ Below w.heap.size w w' := by
  obtain ⟨W2, hW2⟩ : ∃ W2, W2 = (w.alloc (.cells #[.int .u8 (b0.toNat : Int), .int .u8 (b1.toNat : Int), .int .u8 (b2.toNat : Int), .int .u8 (b3.toNat : Int), .int .u8 (b4.toNat : Int), .int .u8 (b5.toNat : Int), .int .u8 (b6.toNat : Int), .int .u8 (b7.toNat : Int), .int .i64 kd, .int .i64 (p : Int), .int .i64 (q : Int)] 38)).alloc (.cells #[.int .i64 0, .string ⟨#[]⟩] 24) := ⟨_, rfl⟩
  have hsz : W2.heap.size = w.heap.size + 2 := by rw [hW2]; simp
  have hX : Cz W2 w.heap.size (#[.int .u8 (b0.toNat : Int), .int .u8 (b1.toNat : Int), .int .u8 (b2.toNat : Int), .int .u8 (b3.toNat : Int), .int .u8 (b4.toNat : Int), .int .u8 (b5.toNat : Int), .int .u8 (b6.toNat : Int), .int .u8 (b7.toNat : Int), .int .i64 kd, .int .i64 (p : Int), .int .i64 (q : Int)] : Array Value).toList := by rw [hW2]; exact (Cz.new w #[.int .u8 (b0.toNat : Int), .int .u8 (b1.toNat : Int), .int .u8 (b2.toNat : Int), .int .u8 (b3.toNat : Int), .int .u8 (b4.toNat : Int), .int .u8 (b5.toNat : Int), .int .u8 (b6.toNat : Int), .int .u8 (b7.toNat : Int), .int .i64 kd, .int .i64 (p : Int), .int .i64 (q : Int)] 38).below ((Below.refl _ _).alloc (Nat.le_refl _) _) (by simp)
  have hR : Cz W2 (w.heap.size + 1) (#[.int .i64 0, .string ⟨#[]⟩] : Array Value).toList := by
    rw [hW2]
    have := Cz.new (w.alloc (.cells #[.int .u8 (b0.toNat : Int), .int .u8 (b1.toNat : Int), .int .u8 (b2.toNat : Int), .int .u8 (b3.toNat : Int), .int .u8 (b4.toNat : Int), .int .u8 (b5.toNat : Int), .int .u8 (b6.toNat : Int), .int .u8 (b7.toNat : Int), .int .i64 kd, .int .i64 (p : Int), .int .i64 (q : Int)] 38)) #[.int .i64 0, .string ⟨#[]⟩] 24
    rwa [World.size_alloc] at this
  have hB2 : Below w.heap.size w W2 := by rw [hW2]; exact ((Below.refl _ w).alloc (Nat.le_refl _) _).alloc (by simp) _
  have n0 : ¬ (p : Int) < 0 := by omega
  have n1 : ¬ (q : Int) < 0 := by omega
  have n2 : ¬ (s.size : Int) < (q : Int) := by omega
  have hisk := fun W => rkind_any kd W
  rw [hk] at hisk
  have her2 : (er == 0) = false := beq_eq_false_iff_ne.2 her
  have e0 := hX.at_ 0 _ rfl
  have e1 := hX.at_ 1 _ rfl
  have e2 := hX.at_ 2 _ rfl
  have e3 := hX.at_ 3 _ rfl
  have e4 := hX.at_ 4 _ rfl
  have e5 := hX.at_ 5 _ rfl
  have e6 := hX.at_ 6 _ rfl
  have e7 := hX.at_ 7 _ rfl
  have e8 := hX.at_ 8 _ rfl
  have e9 := hX.at_ 9 _ rfl
  have e10 := hX.at_ 10 _ rfl
  clear hk her
  go_enter Try.func17, Try.ntmps17
  go_upto_region 1 with fail
  rw [← hW2]
  clear hW2
  go_wp2_with fail
  refine (hisk _).mono ?_
  rintro e u ⟨rfl, hu⟩
  obtain rfl := hu.symm
  clear hu hisk
  have x9 : ∀ X : Since W2.heap.size W2, X.val.cell? ⟨w.heap.size, 9, none⟩ = some (.int .i64 (p : Int)) := fun X => (X.property.cell (p := ⟨w.heap.size, 9, none⟩) hX.lt).trans (hX.at_ 9 _ rfl)
  have x10 : ∀ X : Since W2.heap.size W2, X.val.cell? ⟨w.heap.size, 10, none⟩ = some (.int .i64 (q : Int)) := fun X => (X.property.cell (p := ⟨w.heap.size, 10, none⟩) hX.lt).trans (hX.at_ 10 _ rfl)
  have hne : Nonempty (Since W2.heap.size W2) := ⟨⟨W2, Below.refl _ _⟩⟩
  have zq : (s.extract p s.size).size = s.size - p := by rw [ByteArray.size_extract]; omega
  have zq2 : q ≤ (s.extract p s.size).size := by rw [zq]; omega
  clear zq
  go_upto_region 5 with fail
  refine wp_region_since (B := W2.heap.size) (W0 := W2) (by kernel_rfl) (by kernel_rfl) (Below.refl _ _) ?_
  repeat (go_big_quiet_step (first | rfl | exact quiet_since _ (hop _)))
  refine wpQuiet_nil ?_
  rintro w3 ⟨U, rfl⟩
  have hb3 := U.property
  generalize U.val = w3 at *
  clear x9 x10 hne zq2
  have hR3 := hR.below hb3 hR.lt
  have r0 := hR3.at_ 0 _ rfl
  have r1 := hR3.at_ 1 _ rfl
  have f0 := hR3.fz 0
  have f1 := hR3.fz 1
  have HB : Hid (Below w.heap.size w ((w3.setCell ⟨w.heap.size + 1, 0, none⟩ (.int .i64 0)).setCell ⟨w.heap.size + 1, 1, none⟩ (.string ⟨#[]⟩))) := ((hB2.trans (hb3.mono (by omega))).setCell (by simp) _).setCell (by simp) _
  clear hR hR3 hB2 hb3 hop hsz hX
  go_wp2_with fail
  refine bodyPost_ret (v := .tuple #[.agg #[.int .i64 0, .string ⟨#[]⟩], .int .i64 er]) ?_ rfl ⟨rfl, HB.out⟩
  have hres : Try.f17.results = #[.cell 4 24, .tmp 5] := by kernel_rfl
  simp only [results, hres]
  go_simp
set_option maxHeartbeats 4000000 in
theorem rone_ok (b0 b1 b2 b3 b4 b5 b6 b7 : UInt8) (kd : Int) (p q r : Nat) (s : ByteArray) (w : World) (hs : s.size ≤ 140737488351232) (hpr : p ≤ r) (hr : r ≤ s.size) (hq : q ≤ s.size) (i1 : (p : Int) + (q : Int) = (r : Int)) (h4 : (p : Int) ≤ (s.size : Int) - (q : Int)) (y0 y1 y2 y3 y4 y5 y6 y7 : UInt8) (t : ByteArray) (ie : Int) (same : Bool) (hk : kB kd = true)
    (hop : ∀ W, Calls Try.prog 38 #[.string ((s.extract p s.size).extract 0 q)] W fun e w' => e = .returned (.tuple #[.string t, .int .i64 0]) ∧ Below W.heap.size W w')
    (hid : ∀ W, Calls Try.prog 10 #[.agg #[.int .i64 kd, .string t]] W fun e w' => e = .returned (.tuple #[.agg #[.int .u8 (y0.toNat : Int), .int .u8 (y1.toNat : Int), .int .u8 (y2.toNat : Int), .int .u8 (y3.toNat : Int), .int .u8 (y4.toNat : Int), .int .u8 (y5.toNat : Int), .int .u8 (y6.toNat : Int), .int .u8 (y7.toNat : Int)], .int .i64 ie]) ∧ Below W.heap.size W w')
    (heq : ∀ W, (Op.equalIn 10000 26 (.agg #[.int .u8 (y0.toNat : Int), .int .u8 (y1.toNat : Int), .int .u8 (y2.toNat : Int), .int .u8 (y3.toNat : Int), .int .u8 (y4.toNat : Int), .int .u8 (y5.toNat : Int), .int .u8 (y6.toNat : Int), .int .u8 (y7.toNat : Int)]) (.agg #[.int .u8 (b0.toNat : Int), .int .u8 (b1.toNat : Int), .int .u8 (b2.toNat : Int), .int .u8 (b3.toNat : Int), .int .u8 (b4.toNat : Int), .int .u8 (b5.toNat : Int), .int .u8 (b6.toNat : Int), .int .u8 (b7.toNat : Int)])).run Try.prog W = .ok same W) :
    Calls Try.prog 17 #[.string s, .agg #[.int .u8 (b0.toNat : Int), .int .u8 (b1.toNat : Int), .int .u8 (b2.toNat : Int), .int .u8 (b3.toNat : Int), .int .u8 (b4.toNat : Int), .int .u8 (b5.toNat : Int), .int .u8 (b6.toNat : Int), .int .u8 (b7.toNat : Int), .int .i64 kd, .int .i64 (p : Int), .int .i64 (q : Int)]] w fun e w' => e = .returned (if same then .tuple #[.agg #[.int .i64 kd, .string t], .int .i64 0] else .tuple #[.agg #[.int .i64 0, .string ⟨#[]⟩], .int .i64 6]) ∧ Below w.heap.size w w' := by
  obtain ⟨W2, hW2⟩ : ∃ W2, W2 = (w.alloc (.cells #[.int .u8 (b0.toNat : Int), .int .u8 (b1.toNat : Int), .int .u8 (b2.toNat : Int), .int .u8 (b3.toNat : Int), .int .u8 (b4.toNat : Int), .int .u8 (b5.toNat : Int), .int .u8 (b6.toNat : Int), .int .u8 (b7.toNat : Int), .int .i64 kd, .int .i64 (p : Int), .int .i64 (q : Int)] 38)).alloc (.cells #[.int .i64 0, .string ⟨#[]⟩] 24) := ⟨_, rfl⟩
  have hsz : W2.heap.size = w.heap.size + 2 := by rw [hW2]; simp
  have hX : Cz W2 w.heap.size (#[.int .u8 (b0.toNat : Int), .int .u8 (b1.toNat : Int), .int .u8 (b2.toNat : Int), .int .u8 (b3.toNat : Int), .int .u8 (b4.toNat : Int), .int .u8 (b5.toNat : Int), .int .u8 (b6.toNat : Int), .int .u8 (b7.toNat : Int), .int .i64 kd, .int .i64 (p : Int), .int .i64 (q : Int)] : Array Value).toList := by rw [hW2]; exact (Cz.new w #[.int .u8 (b0.toNat : Int), .int .u8 (b1.toNat : Int), .int .u8 (b2.toNat : Int), .int .u8 (b3.toNat : Int), .int .u8 (b4.toNat : Int), .int .u8 (b5.toNat : Int), .int .u8 (b6.toNat : Int), .int .u8 (b7.toNat : Int), .int .i64 kd, .int .i64 (p : Int), .int .i64 (q : Int)] 38).below ((Below.refl _ _).alloc (Nat.le_refl _) _) (by simp)
  have hR : Cz W2 (w.heap.size + 1) (#[.int .i64 0, .string ⟨#[]⟩] : Array Value).toList := by
    rw [hW2]
    have := Cz.new (w.alloc (.cells #[.int .u8 (b0.toNat : Int), .int .u8 (b1.toNat : Int), .int .u8 (b2.toNat : Int), .int .u8 (b3.toNat : Int), .int .u8 (b4.toNat : Int), .int .u8 (b5.toNat : Int), .int .u8 (b6.toNat : Int), .int .u8 (b7.toNat : Int), .int .i64 kd, .int .i64 (p : Int), .int .i64 (q : Int)] 38)) #[.int .i64 0, .string ⟨#[]⟩] 24
    rwa [World.size_alloc] at this
  have hB2 : Below w.heap.size w W2 := by rw [hW2]; exact ((Below.refl _ w).alloc (Nat.le_refl _) _).alloc (by simp) _
  have n0 : ¬ (p : Int) < 0 := by omega
  have n1 : ¬ (q : Int) < 0 := by omega
  have n2 : ¬ (s.size : Int) < (q : Int) := by omega
  have hisk := fun W => rkind_any kd W
  rw [hk] at hisk
  have e0 := hX.at_ 0 _ rfl
  have e1 := hX.at_ 1 _ rfl
  have e2 := hX.at_ 2 _ rfl
  have e3 := hX.at_ 3 _ rfl
  have e4 := hX.at_ 4 _ rfl
  have e5 := hX.at_ 5 _ rfl
  have e6 := hX.at_ 6 _ rfl
  have e7 := hX.at_ 7 _ rfl
  have e8 := hX.at_ 8 _ rfl
  have e9 := hX.at_ 9 _ rfl
  have e10 := hX.at_ 10 _ rfl
  clear hk
  obtain ⟨RS, hRS⟩ : ∃ RS, (if same then Value.tuple #[.agg #[.int .i64 kd, .string t], .int .i64 0] else .tuple #[.agg #[.int .i64 0, .string ⟨#[]⟩], .int .i64 6]) = RS := ⟨_, rfl⟩
  rw [hRS]
  have HRS : Hid ((if same then Value.tuple #[.agg #[.int .i64 kd, .string t], .int .i64 0] else .tuple #[.agg #[.int .i64 0, .string ⟨#[]⟩], .int .i64 6]) = RS) := hRS
  clear hRS
  go_enter Try.func17, Try.ntmps17
  go_upto_region 1 with fail
  rw [← hW2]
  clear hW2
  go_wp2_with fail
  refine (hisk _).mono ?_
  rintro e u ⟨rfl, hu⟩
  obtain rfl := hu.symm
  clear hu hisk
  have x9 : ∀ X : Since W2.heap.size W2, X.val.cell? ⟨w.heap.size, 9, none⟩ = some (.int .i64 (p : Int)) := fun X => (X.property.cell (p := ⟨w.heap.size, 9, none⟩) hX.lt).trans (hX.at_ 9 _ rfl)
  have x10 : ∀ X : Since W2.heap.size W2, X.val.cell? ⟨w.heap.size, 10, none⟩ = some (.int .i64 (q : Int)) := fun X => (X.property.cell (p := ⟨w.heap.size, 10, none⟩) hX.lt).trans (hX.at_ 10 _ rfl)
  have hne : Nonempty (Since W2.heap.size W2) := ⟨⟨W2, Below.refl _ _⟩⟩
  have zq : (s.extract p s.size).size = s.size - p := by rw [ByteArray.size_extract]; omega
  have zq2 : q ≤ (s.extract p s.size).size := by rw [zq]; omega
  clear zq
  go_upto_region 5 with fail
  refine wp_region_since (B := W2.heap.size) (W0 := W2) (by kernel_rfl) (by kernel_rfl) (Below.refl _ _) ?_
  repeat (go_big_quiet_step (first | rfl | exact quiet_since _ (hop _)))
  refine wpQuiet_nil ?_
  rintro w3 ⟨U, rfl⟩
  have hb3 := U.property
  generalize U.val = w3 at *
  clear x9 x10 hne zq2
  have hX3 := hX.below hb3 hX.lt
  have hR3 := hR.below hb3 hR.lt
  have g8 := hX3.at_ 8 _ rfl
  have HB3 : Hid (Below w.heap.size w w3) := hB2.trans (hb3.mono (by omega))
  have hs3 : w.heap.size + 2 ≤ w3.heap.size := by have := hb3.size; omega
  clear hX hR hB2 hb3 hop hsz e0 e1 e2 e3 e4 e5 e6 e7 e8 e9 e10
  go_wp2_with fail
  refine (hid _).mono ?_
  rintro e w4 ⟨rfl, hb4⟩
  have hb4' := below_past hb4
  have hX4 := hX3.below hb4' hX3.lt
  have hR4 := hR3.below hb4' hR3.lt
  have hT4 := (Cz.new w3 #[.int .i64 kd, .string t] 24).below hb4 (by simp)
  have HB4 : Hid (Below w.heap.size w w4) := HB3.out.trans (hb4'.mono HB3.out.size)
  have hs4 : w3.heap.size + 1 ≤ w4.heap.size := by have := hb4.size; simp at this; omega
  have hA : Below w4.heap.size w4 (w4.alloc (.cells #[.int .u8 (y0.toNat : Int), .int .u8 (y1.toNat : Int), .int .u8 (y2.toNat : Int), .int .u8 (y3.toNat : Int), .int .u8 (y4.toNat : Int), .int .u8 (y5.toNat : Int), .int .u8 (y6.toNat : Int), .int .u8 (y7.toNat : Int)] 26)) := (Below.refl _ w4).alloc (Nat.le_refl _) _
  have hR5 := hR4.below hA hR4.lt
  have hT5 := hT4.below hA hT4.lt
  have e0 := (hX4.below hA hX4.lt).at_ 0 _ rfl
  have e1 := (hX4.below hA hX4.lt).at_ 1 _ rfl
  have e2 := (hX4.below hA hX4.lt).at_ 2 _ rfl
  have e3 := (hX4.below hA hX4.lt).at_ 3 _ rfl
  have e4 := (hX4.below hA hX4.lt).at_ 4 _ rfl
  have e5 := (hX4.below hA hX4.lt).at_ 5 _ rfl
  have e6 := (hX4.below hA hX4.lt).at_ 6 _ rfl
  have e7 := (hX4.below hA hX4.lt).at_ 7 _ rfl
  have t0 := hT5.at_ 0 _ rfl
  have t1 := hT5.at_ 1 _ rfl
  have r0 := hR5.at_ 0 _ rfl
  have r1 := hR5.at_ 1 _ rfl
  have f0 := hR5.fz 0
  have f1 := hR5.fz 1
  have HB5 : Hid (∀ x y, Below w.heap.size w (((w4.alloc (.cells #[.int .u8 (y0.toNat : Int), .int .u8 (y1.toNat : Int), .int .u8 (y2.toNat : Int), .int .u8 (y3.toNat : Int), .int .u8 (y4.toNat : Int), .int .u8 (y5.toNat : Int), .int .u8 (y6.toNat : Int), .int .u8 (y7.toNat : Int)] 26)).setCell ⟨w.heap.size + 1, 0, none⟩ x).setCell ⟨w.heap.size + 1, 1, none⟩ y)) := fun x y => ((HB4.out.trans (hA.mono HB4.out.size)).setCell (by simp) _).setCell (by simp) _
  have hpp : w.heap.size < w4.heap.size := by omega
  clear hX3 hX4 hR3 hR4 hR5 hT4 hT5 hb4 hb4' hid hA g8
  cases same with
  | true =>
    rw [if_pos rfl] at HRS
    go_wp2_with fail
    refine bodyPost_ret (v := .tuple #[.agg #[.int .i64 kd, .string t], .int .i64 0]) ?_ rfl ⟨by rw [← HRS.out], HB5.out _ _⟩
    have hres : Try.f17.results = #[.cell 4 24, .tmp 5] := by kernel_rfl
    simp only [results, hres]
    go_simp
  | false =>
    rw [if_neg (by decide)] at HRS
    go_wp2_with fail
    refine bodyPost_ret (v := .tuple #[.agg #[.int .i64 0, .string ⟨#[]⟩], .int .i64 6]) ?_ rfl ⟨by rw [← HRS.out], HB5.out _ _⟩
    have hres : Try.f17.results = #[.cell 4 24, .tmp 5] := by kernel_rfl
    simp only [results, hres]
    go_simp

/-- what the document's PackOne answers -/
theorem rone_any (s : ByteArray) (x : Ent) (w : World) (hs : s.size ≤ 1048576) :
    Calls Try.prog 17 #[.string s, enV x] w fun e w' => ∃ b : Blb, e = .returned (.tuple #[blV b, .int .i64 (Pk.one Pr.op s.data.toList x.p).2]) ∧ b.p = (Pk.one Pr.op s.data.toList x.p).1 ∧ Below w.heap.size w w' := by
  obtain ⟨id, hid8, kd, p, q⟩ := x
  obtain ⟨b0, b1, b2, b3, b4, b5, b6, b7, rfl⟩ := eight id hid8
  have hsz : (s.data.toList.length : Int) = (s.size : Int) := by rw [← Lib.size_eq]
  show Calls _ _ #[.string s, .agg #[.int .u8 (b0.toNat : Int), .int .u8 (b1.toNat : Int), .int .u8 (b2.toNat : Int), .int .u8 (b3.toNat : Int), .int .u8 (b4.toNat : Int), .int .u8 (b5.toNat : Int), .int .u8 (b6.toNat : Int), .int .u8 (b7.toNat : Int), .int .i64 kd, .int .i64 p, .int .i64 q]] w _
  by_cases hbad : p < 0 ∨ q < 0 ∨ (s.data.toList.length : Int) < q ∨ (s.data.toList.length : Int) - q < p
  · have hr : Pk.one Pr.op s.data.toList (Ent.p ⟨[b0, b1, b2, b3, b4, b5, b6, b7], hid8, kd, p, q⟩) = ((0, []), 1) := by
      show Pk.one Pr.op s.data.toList ⟨_, kd, p, q⟩ = _
      rw [one_eq, if_pos hbad]
    rw [hr]
    rw [hsz] at hbad
    have fin : ∀ (e : Ending) (w' : World), (e = .returned (.tuple #[.agg #[.int .i64 0, .string ⟨#[]⟩], .int .i64 1]) ∧ Below w.heap.size w w') → ∃ b : Blb, e = .returned (.tuple #[blV b, .int .i64 1]) ∧ b.p = (0, []) ∧ Below w.heap.size w w' := fun e w' ⟨he, hb⟩ => ⟨⟨0, ⟨#[]⟩⟩, he, rfl, hb⟩
    by_cases h1 : p < 0
    · exact (rone_bad1 b0 b1 b2 b3 b4 b5 b6 b7 kd p q s w (by omega) h1).mono fin
    by_cases h2 : q < 0
    · exact (rone_bad2 b0 b1 b2 b3 b4 b5 b6 b7 kd p q s w (by omega) (by omega) h2).mono fin
    by_cases h3 : (s.size : Int) < q
    · exact (rone_bad3 b0 b1 b2 b3 b4 b5 b6 b7 kd p q s w (by omega) (by omega) (by omega) h3).mono fin
    · exact (rone_bad4 b0 b1 b2 b3 b4 b5 b6 b7 kd p q s w (by omega) (by omega) (by omega) (by omega) (by omega)).mono fin
  · rw [hsz] at hbad
    obtain ⟨P, rfl⟩ : ∃ P : Nat, p = (P : Int) := ⟨p.toNat, by omega⟩
    obtain ⟨Q, rfl⟩ : ∃ Q : Nat, q = (Q : Int) := ⟨q.toNat, by omega⟩
    have hPQ : P + Q ≤ s.size := by omega
    have hex : ((s.extract P s.size).extract 0 Q).data.toList = (s.data.toList.drop P).take Q := by rw [ext_upto, ext_toList]
    by_cases hk : kB kd = true
    · have hop := fun W => ropen_any ((s.extract P s.size).extract 0 Q) W (by rw [ByteArray.size_extract, ByteArray.size_extract]; omega)
      rw [hex] at hop
      by_cases her : (Pr.op ((s.data.toList.drop P).take Q)).2 ≠ 0
      · have hr : Pk.one Pr.op s.data.toList (Ent.p ⟨[b0, b1, b2, b3, b4, b5, b6, b7], hid8, kd, (P : Int), (Q : Int)⟩) = ((0, []), (Pr.op ((s.data.toList.drop P).take Q)).2) := by
          show Pk.one Pr.op s.data.toList ⟨_, kd, (P : Int), (Q : Int)⟩ = _
          rw [one_eq, if_neg (by rw [hsz]; exact hbad), if_neg (fun h => h (kB_of.1 hk)), Int.toNat_natCast, Int.toNat_natCast, if_pos her]
        rw [hr]
        have hop' : ∀ W, Calls Try.prog 38 #[.string ((s.extract P s.size).extract 0 Q)] W fun e w' => e = .returned (.tuple #[.string ⟨(Pr.op ((s.data.toList.drop P).take Q)).1.toArray⟩, .int .i64 (Pr.op ((s.data.toList.drop P).take Q)).2]) ∧ Below W.heap.size W w' := fun W => (hop W).mono fun e w' ⟨s', h1, h2, h3⟩ => by
          obtain rfl : s' = ⟨(Pr.op ((s.data.toList.drop P).take Q)).1.toArray⟩ := by rw [← h2]
          exact ⟨h1, h3⟩
        exact (rone_open b0 b1 b2 b3 b4 b5 b6 b7 kd P Q (P + Q) s w (by omega) (by omega) hPQ (by omega) (by omega) (by omega) _ _ hk her hop').mono fun e w' ⟨he, hb⟩ => ⟨⟨0, ⟨#[]⟩⟩, he, rfl, hb⟩
      · have her0 := Classical.not_not.1 her
        have hfin : (Pr.op ((s.data.toList.drop P).take Q)).1.length ≤ 4096 := (Pr.op_fine _).1
        rw [her0] at hop
        obtain ⟨t, ht⟩ : ∃ t : ByteArray, t = ⟨(Pr.op ((s.data.toList.drop P).take Q)).1.toArray⟩ := ⟨_, rfl⟩
        have htd : t.data.toList = (Pr.op ((s.data.toList.drop P).take Q)).1 := by rw [ht]
        have hop' : ∀ W, Calls Try.prog 38 #[.string ((s.extract P s.size).extract 0 Q)] W fun e w' => e = .returned (.tuple #[.string t, .int .i64 0]) ∧ Below W.heap.size W w' := fun W => (hop W).mono fun e w' ⟨s', h1, h2, h3⟩ => by
          obtain rfl : s' = t := by rw [ht, ← h2]
          exact ⟨h1, h3⟩
        have htz : t.size ≤ 4096 := by rw [Lib.size_eq, htd]; exact hfin
        have hio := idOr_of hk htz
        have hidc := fun W => rpid_any ⟨kd, t⟩ W (by show t.size ≤ _; omega)
        rw [hio] at hidc
        obtain ⟨y0, y1, y2, y3, y4, y5, y6, y7, hy⟩ := eight (Pk.idB kd t.data.toList) (Pk.dg_length _)
        rw [hy] at hidc
        have hcall := rone_ok b0 b1 b2 b3 b4 b5 b6 b7 kd P Q (P + Q) s w (by omega) (by omega) hPQ (by omega) (by omega) (by omega) y0 y1 y2 y3 y4 y5 y6 y7 t _ _ hk hop' hidc (fun W => id_eq W [y0, y1, y2, y3, y4, y5, y6, y7] [b0, b1, b2, b3, b4, b5, b6, b7] rfl rfl)
        refine hcall.mono fun e w' ⟨he, hb⟩ => ?_
        have hone : Pk.one Pr.op s.data.toList (Ent.p ⟨[b0, b1, b2, b3, b4, b5, b6, b7], hid8, kd, (P : Int), (Q : Int)⟩) = if [y0, y1, y2, y3, y4, y5, y6, y7] ≠ [b0, b1, b2, b3, b4, b5, b6, b7] then ((0, []), 6) else ((kd, t.data.toList), 0) := by
          show Pk.one Pr.op s.data.toList ⟨_, kd, (P : Int), (Q : Int)⟩ = _
          rw [one_eq, if_neg (by rw [hsz]; exact hbad), if_neg (fun h => h (kB_of.1 hk)), Int.toNat_natCast, Int.toNat_natCast, if_neg her, ← htd, hy]
        rw [hone]
        by_cases hq : [y0, y1, y2, y3, y4, y5, y6, y7] = [b0, b1, b2, b3, b4, b5, b6, b7]
        · rw [if_neg (fun h => h hq)]
          rw [if_pos (beq_iff_eq.2 hq)] at he
          exact ⟨⟨kd, t⟩, he, rfl, hb⟩
        · rw [if_pos hq]
          rw [if_neg (fun h => hq (beq_iff_eq.1 h))] at he
          exact ⟨⟨0, ⟨#[]⟩⟩, he, rfl, hb⟩
    · have hr : Pk.one Pr.op s.data.toList (Ent.p ⟨[b0, b1, b2, b3, b4, b5, b6, b7], hid8, kd, (P : Int), (Q : Int)⟩) = ((0, []), 5) := by
        show Pk.one Pr.op s.data.toList ⟨_, kd, (P : Int), (Q : Int)⟩ = _
        rw [one_eq, if_neg (by rw [hsz]; exact hbad), if_pos (fun h : kd = 1 ∨ kd = 2 ∨ kd = 3 => hk (kB_of.2 h))]
      rw [hr]
      exact (rone_kind b0 b1 b2 b3 b4 b5 b6 b7 kd P Q (P + Q) s w (by omega) (by omega) hPQ (by omega) (by omega) (by omega) (by simpa using hk)).mono fun e w' ⟨he, hb⟩ => ⟨⟨0, ⟨#[]⟩⟩, he, rfl, hb⟩
end Go.Proofs.Ytkhejelmjkpgfaa

namespace Go.Proofs.Ytkhejelmjkpgfaa
open Go.RowKit
set_option maxRecDepth 4000

set_option maxHeartbeats 8000000 in
theorem rsplit_any (s : ByteArray) (w : World) (hs : s.size ≤ 1048576) :
    Calls Try.prog 19 #[.string s] w fun e w' => ∃ v, e = .returned (.tuple #[v, .int .i64 (Pk.split Pr.op s.data.toList).2]) ∧ SpOut w w' v (Pk.split Pr.op s.data.toList).1 := by
  obtain ⟨i0, hi, hz0, hz1, hz2⟩ := info_parts info_bl
  have hls := rlist_any s w (by omega)
  unfold Pk.split
  by_cases hE : (Pk.ls s.data.toList).2 ≠ 0
  · rw [if_pos hE]
    have hE2 : ((Pk.ls s.data.toList).2 == 0) = false := beq_eq_false_iff_ne.2 hE
    generalize Pk.ls s.data.toList = LS at *
    obtain ⟨ls, er⟩ := LS
    dsimp only at *
    clear hE
    go_enter Try.func19, Try.ntmps19
    go_wp2_with fail
    refine hls.mono ?_
    rintro e w1 ⟨v, rfl, es, _, hown, hb1⟩
    obtain ⟨a1, c1, rfl⟩ := own_form hown
    have HB1 : Hid (Below w.heap.size w w1) := hb1
    clear hls hb1 hown
    go_wp2_with fail
    go_ret2
    exact ⟨_, rfl, SpOut.none _ _ HB1.out⟩
  rw [if_neg hE]
  have HONE : Hid (∀ (x : Ent) (W : World), Calls Try.prog 17 #[.string s, enV x] W fun e w' => ∃ b : Blb, e = .returned (.tuple #[blV b, .int .i64 (Pk.one Pr.op s.data.toList x.p).2]) ∧ b.p = (Pk.one Pr.op s.data.toList x.p).1 ∧ Below W.heap.size W w') := fun x W => rone_any s x W hs
  rw [Classical.not_not.1 hE] at hls
  have h40 := ls_forty s.data.toList
  generalize Pk.ls s.data.toList = LS at *
  obtain ⟨ls, er⟩ := LS
  dsimp only at *
  obtain ⟨RR, hRR⟩ : ∃ RR, Pk.ones Pr.op s.data.toList ls [] = RR := ⟨_, rfl⟩
  have HRR : Hid (RR = Pk.ones Pr.op s.data.toList ls []) := hRR.symm
  rw [hRR]
  clear hE hRR
  generalize s.data.toList = SD at *
  go_enter Try.func19, Try.ntmps19
  go_wp2_with fail
  refine hls.mono ?_
  rintro e w1 ⟨v, rfl, es, hes, hown, hb1⟩
  have HB1 : Hid (Below w.heap.size w w1) := hb1
  have HEX : Hid (Ex w1 v es) := Rx.of_own enC_length hown
  have HOI : Hid (0 < es.length → ∃ g c, v = .slice (some ⟨g, 0, none⟩) es.length c) := fun h => own_some hown h
  rw [← hes] at HRR
  have he40 : es.length ≤ 40 := by rw [← hes, List.length_map] at h40; exact h40
  obtain ⟨ve, ce, rfl, hce1, hce2⟩ := HEX.out.slice
  have hs1 := hb1.size
  clear hls hb1 hown hes h40
  go_wp2_with fail
  go_loopw [6, 21] (fun vb i wr => ∃ (k : Nat) (out : List Blb), k ≤ es.length ∧ i = .int .i64 k ∧ Hid (out.length = k) ∧ Hid (RR = Pk.ones Pr.op SD ((es.drop k).map Ent.p) (out.map Blb.p)) ∧
      Hid (wr.ownsRow w1.heap.size 24 2 vb out.length (rowR blC out)) ∧ Hid (Below w1.heap.size w1 wr)) (fun _ i _ => es.length - (intOf i).toNat)
  case atStart => exact ⟨0, [], by omega, rfl, rfl, HRR, World.ownsRow_nil _ _ _ _, Below.refl _ _⟩
  case round =>
    obtain ⟨k, out, hk, rfl, hol, hR, hown, hbel⟩ := hrel
    clear HRR
    by_cases hlt : k < es.length
    · obtain ⟨x, hx⟩ : ∃ x, es[k]? = some x := ⟨_, List.getElem?_eq_getElem hlt⟩
      have HX : Hid (es[k]? = some x) := hx
      obtain ⟨gi, oi, hai, hgi, hcc⟩ := (HEX.out.below hbel.out).get k x hx
      obtain ⟨g', c', hv'⟩ := HOI.out (by omega)
      rw [Value.slice.injEq] at hv'
      obtain ⟨hv1, hv2, hv3⟩ := hv'
      clear hv2 hv3
      subst hv1
      have hai' : g' = gi ∧ 0 = oi := by simpa using hai
      obtain ⟨rfl, rfl⟩ : gi = g' ∧ oi = 0 := ⟨hai'.1.symm, hai'.2.symm⟩
      have HTR : RR = _ := hR.out
      rw [drop_here hx, List.map_cons, Pk.ones] at HTR
      have hone := fun W => HONE.out x W
      generalize Pk.one Pr.op SD x.p = OR at *
      obtain ⟨ob, oe⟩ := OR
      dsimp only at hone HTR
      obtain ⟨xid, hxid, kd, pp, qq⟩ := x
      obtain ⟨b0, b1, b2, b3, b4, b5, b6, b7, rfl⟩ := eight xid hxid
      simp only [Nat.zero_add] at hcc
      have c0 : wr.cell? ⟨gi, k * 11, none⟩ = some (.int .u8 (b0.toNat : Int)) := hcc 0 _ rfl
      have c1 : wr.cell? ⟨gi, k * 11 + 1, none⟩ = some (.int .u8 (b1.toNat : Int)) := hcc 1 _ rfl
      have c2 : wr.cell? ⟨gi, k * 11 + 2, none⟩ = some (.int .u8 (b2.toNat : Int)) := hcc 2 _ rfl
      have c3 : wr.cell? ⟨gi, k * 11 + 3, none⟩ = some (.int .u8 (b3.toNat : Int)) := hcc 3 _ rfl
      have c4 : wr.cell? ⟨gi, k * 11 + 4, none⟩ = some (.int .u8 (b4.toNat : Int)) := hcc 4 _ rfl
      have c5 : wr.cell? ⟨gi, k * 11 + 5, none⟩ = some (.int .u8 (b5.toNat : Int)) := hcc 5 _ rfl
      have c6 : wr.cell? ⟨gi, k * 11 + 6, none⟩ = some (.int .u8 (b6.toNat : Int)) := hcc 6 _ rfl
      have c7 : wr.cell? ⟨gi, k * 11 + 7, none⟩ = some (.int .u8 (b7.toNat : Int)) := hcc 7 _ rfl
      have c8 : wr.cell? ⟨gi, k * 11 + 8, none⟩ = some (.int .i64 kd) := hcc 8 _ rfl
      have c9 : wr.cell? ⟨gi, k * 11 + 9, none⟩ = some (.int .i64 pp) := hcc 9 _ rfl
      have c10 : wr.cell? ⟨gi, k * 11 + 10, none⟩ = some (.int .i64 qq) := hcc 10 _ rfl
      have hone' : ∀ W, Calls Try.prog 17 #[.string s, .agg #[.int .u8 (b0.toNat : Int), .int .u8 (b1.toNat : Int), .int .u8 (b2.toNat : Int), .int .u8 (b3.toNat : Int), .int .u8 (b4.toNat : Int), .int .u8 (b5.toNat : Int), .int .u8 (b6.toNat : Int), .int .u8 (b7.toNat : Int), .int .i64 kd, .int .i64 pp, .int .i64 qq]] W fun e w' => ∃ b : Blb, e = .returned (.tuple #[blV b, .int .i64 oe]) ∧ b.p = ob ∧ Below W.heap.size W w' := hone
      have hol40 : out.length ≤ 40 := by rw [hol.out]; omega
      have hsr := hbel.out.size
      clear hx hai hai' hcc hone
      by_cases hE : oe ≠ 0
      · rw [if_pos hE] at HTR
        have HRT : Hid (RR = ([], oe)) := HTR
        have hE2 : (oe == 0) = false := beq_eq_false_iff_ne.2 hE
        clear HTR hE
        go_wp2_with fail
        refine (hone' _).mono ?_
        rintro e w3 ⟨b, rfl, _, hb3⟩
        have HB3 : Hid (Below w.heap.size w w3) := HB1.out.trans ((hbel.out.trans ((below_past hb3).mono hsr)).mono HB1.out.size)
        have hs3 := HB3.out.size
        unfold blV
        clear hb3 hone' hown hbel
        go_wp2_with fail
        go_ret2
        exact ⟨_, by rw [HRT.out]; rfl, by rw [HRT.out]; exact SpOut.none _ _ (HB3.out.alloc hs3 _)⟩
      rw [if_neg hE] at HTR
      have HRT : Hid (RR = Pk.ones Pr.op SD ((es.drop (k + 1)).map Ent.p) (out.map Blb.p ++ [ob])) := HTR
      obtain rfl : oe = 0 := Classical.not_not.1 hE
      clear HTR hE
      go_wp2_with fail
      refine (hone' _).mono ?_
      rintro e w3 ⟨b, rfl, hbo, hb3⟩
      have HBO : Hid (b.p = ob) := hbo
      have hb3' := below_past hb3
      have HO3 : Hid (w3.ownsRow w1.heap.size 24 2 u6 out.length (rowR blC out)) := own_below hown.out hb3'
      have HB3 : Hid (Below w1.heap.size w1 w3) := hbel.out.trans (hb3'.mono hsr)
      have hs3 := HB3.out.size
      have hown3 := (HO3.out.alloc (.cells #[.int .i64 b.kind, .string b.bytes] 24))
      unfold blV
      clear hb3 hb3' hone' hown hbel hbo
      go_wp2_with (at_builtin; refine wpList_append_own _ rfl (.tmp 34) (.tmp 36) 22 rfl w1.heap.size 24 i0 (.agg #[.int .i64 0, .string ⟨#[]⟩]) 2 24 Try.underlying22 hi hz0 hz1 hz2 rfl (by decide) _ _ _ rfl (hown3.alloc _) ⟨w3.heap.size + 1, 0, none⟩ 1 1 (blC b) rfl rfl ?c1 ?c2 ?c3 ?c4 ?c5 ?_)
      case c1 =>
        have := pair_cells (w3.alloc (.cells #[.int .i64 b.kind, .string b.bytes] 24)) 24 (.int .i64 b.kind) (.string b.bytes)
        rw [World.size_alloc] at this
        exact this
      case c2 => exact blC_one b
      case c3 => unfold maxLen; omega
      case c4 => omega
      case c5 => simp; omega
      intro v' w6 hown6 hgrow _
      have HO6 : Hid (w6.ownsRow w1.heap.size 24 2 v' (out ++ [b]).length (rowR blC (out ++ [b]))) := own_one_more hown6
      have HB6 : Hid (Below w1.heap.size w1 w6) := ((HB3.out.alloc hs3 _).alloc (by simp; omega) _).grown hgrow (by simp; omega) (fun q hq => (HO3.out.lt q hq).1)
      clear hown6 hgrow hown3 HO3 HB3
      go_wp2_with fail
      go_roundw
      case rel =>
        refine ⟨k + 1, out ++ [b], by omega, by go_num, ?_, ?_, HO6, HB6⟩
        · show _ = _
          rw [List.length_append, hol.out]; rfl
        · show _ = _
          rw [HRT.out, List.map_append, List.map_singleton, HBO.out]
      case measure => simp only [intOf]; omega
    · obtain rfl : k = es.length := by omega
      have HRT : Hid (RR = (out.map Blb.p, 0)) := by
        show _ = _
        rw [hR.out, List.drop_of_length_le (Nat.le_refl _)]; rfl
      clear hR
      go_wp2_with fail
      go_ret2
      exact ⟨_, by rw [HRT.out]; rfl, by rw [HRT.out]; exact ⟨out, rfl, own_lower hown.out hs1, HB1.out.trans (hbel.out.mono hs1)⟩⟩
end Go.Proofs.Ytkhejelmjkpgfaa
