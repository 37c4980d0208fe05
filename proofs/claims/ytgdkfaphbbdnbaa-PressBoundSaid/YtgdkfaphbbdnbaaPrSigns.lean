/-
  What readSigns of package press answers.
-/
import Derived.Test.YtgdkfaphbbdnbaaPrSign
import Derived.Test.YtgdkfaphbbdnbaaLzApp
namespace Go.Proofs.Ytgdkfaphbbdnbaa
open Go.RowKit
set_option maxRecDepth 4000

namespace Pr
/-- so many signs and nothing but filling behind them: the answer, the error -/
def rsO : Sum Bool (List Nat × List Bool) → Bs × Int
  | .inl true => ([], 4)
  | .inl false => ([], 3)
  | .inr (t, r) => if clean r then (upB t, 0) else ([], 4)
def rs (l : List Nat) (m : Nat) (b : List Bool) : Bs × Int := rsO (signs l m b)
theorem opS_rs (n m : Nat) (wide : List Nat) (s : Bs) : opS n m wide s = if 2 ^ 48 < Hf.ksum wide then ([], 4) else if (rs wide m (bitsB (dnB s))).2 ≠ 0 then ([], (rs wide m (bitsB (dnB s))).2) else opT n (rs wide m (bitsB (dnB s))).1 := by
  unfold opS rs
  split
  · rfl
  · cases signs wide m (bitsB (dnB s)) with
    | inl e => cases e <;> rfl
    | inr q =>
      obtain ⟨t, r⟩ := q
      show (if clean r then opT n (upB t) else ([], 4)) = if (if clean r then (upB t, (0 : Int)) else ([], 4)).2 ≠ 0 then _ else _
      cases h : clean r <;> simp [rsO, h]
def cat (out : List Nat) : Sum Bool (List Nat × List Bool) → Sum Bool (List Nat × List Bool)
  | .inl e => .inl e
  | .inr (t, r) => .inr (out ++ t, r)
theorem cat_nil (x : Sum Bool (List Nat × List Bool)) : cat [] x = x := by
  cases x with
  | inl e => rfl
  | inr q => rfl
theorem cat_none {l : List Nat} {j : Nat} {b : List Bool} {out : List Nat} (h : front l b = none) : rsO (cat out (signs l (j + 1) b)) = ([], sgnE l b) := by
  rw [signs, h]
  unfold sgnE
  rw [h]
  show rsO (.inl (decide (48 ≤ b.length))) = ([], if 48 ≤ b.length then 4 else 3)
  by_cases e : 48 ≤ b.length
  · rw [decide_eq_true e, if_pos e]; rfl
  · rw [decide_eq_false e, if_neg e]; rfl
theorem cat_some {l : List Nat} {j i p : Nat} {b : List Bool} {out : List Nat} (h : front l (b.drop p) = some i) : cat out (signs l (j + 1) (b.drop p)) = cat (out ++ [i]) (signs l j (b.drop (p + l.getD i 0))) := by
  rw [signs, h]
  simp only [List.drop_drop]
  cases signs l j (b.drop (p + l.getD i 0)) with
  | inl e => rfl
  | inr q =>
    obtain ⟨t, r⟩ := q
    show Sum.inr (out ++ i :: t, r) = Sum.inr (out ++ [i] ++ t, r)
    rw [List.append_assoc]
    rfl
theorem cat_end (l : List Nat) (b : List Bool) (out : List Nat) : rsO (cat out (signs l 0 b)) = if clean b then (upB out, 0) else ([], 4) := by
  show (if clean b then (upB (out ++ []), 0) else ([], 4)) = _
  rw [List.append_nil]
theorem front_len {l : List Nat} (g : Good l) {b : List Bool} {i : Nat} (h : front l b = some i) : i < l.length ∧ l.getD i 0 ≤ b.length := by
  obtain ⟨h1, _, h3, _⟩ := (fits_val g).1 ((front_some g).1 h)
  exact ⟨h1, h3⟩
end Pr
/-- a row of bytes is no reader -/
theorem BR.apart {W : World} {base R p n : Nat} {s : ByteArray} {v : Value} {xs : List Value} (hb : BR W R s p) (h : W.ownsRow base 5 1 v n xs) : ∀ g, v.ownBlock = some g → g ≠ R := by
  intro g hg e
  subst e
  obtain ⟨cur, hc, _⟩ := own_block h hg
  have := hc.symm.trans hb
  simp at this
theorem up_more (out : List Nat) (i : Nat) : Pr.upB (out ++ [i]) = Pr.upB out ++ [UInt8.ofNat i] := by simp [Pr.upB]

set_option maxHeartbeats 4000000 in
theorem rsigns_any (base G : Nat) (l : List Nat) (V : Nat → Value) (s : ByteArray) (m : Nat) (w : World) (h : Book w base G l l.length V) (g : Pr.Good l) (hl : l.length ≤ 256) (hs : s.size ≤ 140737488351232) (hm : m ≤ 12288)
    (O : Pr.Bs × Int) (hO : Pr.rs l m (Pr.bitsS s) = O) :
    Calls Try.prog 40 #[.pointer (some ⟨G, 0, none⟩), .string s, .int .i64 m] w fun e w' => e = .returned (.tuple #[.string ⟨O.1.toArray⟩, .int .i64 O.2]) ∧ Below w.heap.size w w' := by
  obtain ⟨i0, hi, hz0, hz1, hz2⟩ := info_parts info_u8
  have HBK : Hid (Book w base G l l.length V) := h
  have HG : Hid (Pr.Good l) := g
  have HO : Hid (Pr.rsO (Pr.cat [] (Pr.signs l m ((Pr.bitsS s).drop 0))) = O) := by show _ = O; rw [Pr.cat_nil, List.drop_zero]; exact hO
  obtain ⟨W0, hW0⟩ : ∃ W0, W0 = w.alloc (.cells #[.string s, .int .i64 0] 114) := ⟨_, rfl⟩
  have HB0 : Hid (Below w.heap.size w W0) := by rw [hW0]; exact (Below.refl _ w).alloc (Nat.le_refl _) _
  have HR0 : Hid (BR W0 w.heap.size s 0) := by rw [hW0]; exact heap_alloc_new w _
  clear h g hO
  go_enter Try.func40, Try.ntmps40
  go_wp2_with fail
  rw [← hW0]
  clear hW0
  go_loopw [9, 15] (fun v i wr => ∃ (k p : Nat) (out : List Nat), k ≤ m ∧ i = .int .i64 k ∧ Hid (out.length = k) ∧ p ≤ 8 * s.size ∧ Hid (BR wr w.heap.size s p) ∧ wr.ownsRow w.heap.size 5 1 v (Pr.upB out).length ((Pr.upB out).map B) ∧ Hid (Pr.rsO (Pr.cat out (Pr.signs l (m - k) ((Pr.bitsS s).drop p))) = O) ∧ Hid (Below w.heap.size w wr)) (fun _ i _ => m - (intOf i).toNat)
  case atStart => exact ⟨0, 0, [], by omega, rfl, rfl, by omega, HR0, World.ownsRow_nil _ _ _ _, HO, HB0⟩
  case round =>
    obtain ⟨k, p, out, hk, rfl, hout, hp, hbr, hown, hO, hbel⟩ := hrel
    obtain ⟨a9, c9, rfl⟩ := own_form hown
    have hol : (Pr.upB out).length ≤ k := by rw [upB_length, hout.out]; exact Nat.le_refl _
    by_cases hlt : k < m
    · obtain ⟨j, hj⟩ : ∃ j, m - k = j + 1 := ⟨m - k - 1, by omega⟩
      have HJ : Hid (m - (k + 1) = j) := by show _ = _; omega
      rw [hj] at hO
      clear hj
      have hrs := rsign_any base G w.heap.size l V s p wr (HBK.out.below hbel.out) HG.out hl hbr.out hs hp _ rfl
      cases hF : Pr.front l ((Pr.bitsS s).drop p) with
      | none =>
        have HE : Hid (O = ([], Pr.sgnE l ((Pr.bitsS s).drop p))) := by show O = _; rw [← hO.out]; exact Pr.cat_none hF
        have hne : (Pr.sgnE l ((Pr.bitsS s).drop p) != 0) = true := by
          rw [bne_iff_ne]
          unfold Pr.sgnE
          rw [hF]
          show (if _ then (4 : Int) else 3) ≠ 0
          split <;> omega
        clear hO hF hol
        generalize Pr.sgnE l ((Pr.bitsS s).drop p) = E at *
        generalize Pr.sgnV l ((Pr.bitsS s).drop p) = F at *
        go_wp2_with fail
        refine hrs.mono ?_
        rintro e w1 ⟨rfl, hk1, _⟩
        have HB1 : Hid (Below w.heap.size w w1) := hbel.out.trans (hk1.below hbel.out.size fun k hk => by omega)
        clear hrs hk1
        go_wp2_with fail
        go_ret2
        exact ⟨by rw [HE.out]; rfl, HB1.out⟩
      | some i =>
        obtain ⟨i1, i2⟩ := Pr.front_len HG.out hF
        have hQl : ((Pr.bitsS s).drop p).length = 8 * s.size - p := by rw [List.length_drop, Pr.bitsS_length]
        have HO2 : Hid (Pr.rsO (Pr.cat (out ++ [i]) (Pr.signs l j ((Pr.bitsS s).drop (p + l.getD i 0)))) = O) := by show _ = O; rw [← hO.out, Pr.cat_some hF]
        have hsv : Pr.sgnV l ((Pr.bitsS s).drop p) = i := by show (Pr.front l _).getD 0 = i; rw [hF]; rfl
        have hse : Pr.sgnE l ((Pr.bitsS s).drop p) = 0 := by unfold Pr.sgnE; rw [hF]
        have HP2 : Hid (p + l.getD i 0 ≤ 8 * s.size) := by show _ ≤ _; omega
        rw [hsv, hse] at hrs
        have i256 : i < 256 := by omega
        have HF2 : Hid (Pr.front l ((Pr.bitsS s).drop p) = some i) := hF
        clear hO hF i2 hQl hsv hse
        go_wp2_with fail
        refine hrs.mono ?_
        rintro e w1 ⟨rfl, hk1, hbr1⟩
        have hbr1 := hbr1 i HF2.out
        generalize l.getD i 0 = d at *
        have hown1 := own_kept hown hk1 (hbr.out.apart hown)
        have hB1 : Below w.heap.size w w1 := hbel.out.trans (hk1.below hbel.out.size fun k hk => by omega)
        have HB1 : Hid (Below w.heap.size w w1) := hB1
        have HR1 : Hid (BR w1 w.heap.size s (p + d)) := hbr1
        have HAP : Hid (∀ g, (Value.slice a9 (Pr.upB out).length c9).ownBlock = some g → g ≠ w.heap.size) := hbr1.apart hown1
        have hw1 : w.heap.size < w1.heap.size := (Array.getElem?_eq_some_iff.1 hbr1).1
        clear hrs hk1 hbr1 hB1 hown hbel hbr HF2
        go_wp2_with (at_builtin; refine wpList_append_own _ rfl (.tmp 25) (.tmp 27) 26 rfl w.heap.size 5 i0 (.int .u8 0) 1 1 Try.underlying26 hi hz0 hz1 hz2 rfl (by decide) _ _ _ rfl (hown1.alloc _) ⟨w1.heap.size, 0, none⟩ 1 1 [.int .u8 (i : Int)] rfl rfl ?c1 ?c2 ?c3 ?c4 ?c5 ?_)
        case c1 =>
          intro j u hj
          match j, hj with
          | 0, hj => simp at hj; subst hj; simp [Addr.add]
        case c2 => intro u hu; simp at hu; subst hu; rfl
        case c3 => unfold maxLen; omega
        case c4 => omega
        case c5 => simp; omega
        intro v1 w3 hown3 hgrow _
        have HO3 : Hid (w3.ownsRow w.heap.size 5 1 v1 (Pr.upB (out ++ [i])).length ((Pr.upB (out ++ [i])).map B)) := by
          rw [up_more]
          refine own_byte ?_
          rw [UInt8.toNat_ofNat', Nat.mod_eq_of_lt i256]
          exact hown3
        have HB3 : Hid (Below w.heap.size w w3) := (HB1.out.alloc (by omega) _).grown hgrow (by simp; omega) fun j hj => (hown1.lt j hj).1
        have HR3 : Hid (BR w3 w.heap.size s (p + d)) := (hgrow.block _ (by simp; omega) (fun e => HAP.out _ e.symm rfl)).trans ((Below.heap_alloc _ _ _ hw1).trans HR1.out)
        clear hown3 hgrow hown1 HB1 HR1 HAP
        go_wp2_with fail
        go_roundw
        case rel => exact ⟨k + 1, p + d, out ++ [i], by omega, by go_num, by show _ = _; rw [List.length_append, hout.out]; rfl, HP2.out, HR3, HO3.out, by rw [HJ.out]; exact HO2, HB3⟩
        case measure => simp only [intOf]; omega
    · obtain rfl : k = m := by omega
      rw [Nat.sub_self, Pr.cat_end] at hO
      have hf := fill_any w.heap.size s p wr hbr.out hs hp
      have hap := hbr.out.apart hown
      generalize Pr.clean ((Pr.bitsS s).drop p) = C at *
      cases C with
      | false =>
        have HE : Hid (O = ([], 4)) := hO.out.symm
        clear hO
        go_wp2_with fail
        refine hf.mono ?_
        rintro e w1 ⟨rfl, hk1⟩
        have HB1 : Hid (Below w.heap.size w w1) := hbel.out.trans (hk1.below hbel.out.size fun k hk => by omega)
        clear hf hk1
        go_wp2_with fail
        go_ret2
        exact ⟨by rw [HE.out]; rfl, HB1.out⟩
      | true =>
        have HE : Hid (O = (Pr.upB out, 0)) := hO.out.symm
        clear hO
        go_wp2_with fail
        refine hf.mono ?_
        rintro e w1 ⟨rfl, hk1⟩
        have HB1 : Hid (Below w.heap.size w w1) := hbel.out.trans (hk1.below hbel.out.size fun k hk => by omega)
        have hstr := run_str (own_kept hown hk1 hap)
        clear hf hk1 hown
        go_wp2_with fail
        go_ret2
        exact ⟨by rw [HE.out]; rfl, HB1.out⟩
end Go.Proofs.Ytgdkfaphbbdnbaa
