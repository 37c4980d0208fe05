/-
  What readSign of package press answers.
-/
import Derived.Test.YtgdkfaphbbdnbaaPrFind
namespace Go.Proofs.Ytgdkfaphbbdnbaa
open Go.RowKit
set_option maxRecDepth 4000

theorem i64_or_bit (c b : Nat) (hc : c < 1152921504606846976) (hb : b < 2) : bits .or .i64 ((c : Int) * 2) (b : Int) = ((2 * c + b : Nat) : Int) := by
  rw [show (c : Int) * 2 = ((c * 2 : Nat) : Int) from by omega]
  show IntKind.i64.wrap ((BitVec.ofInt 64 ((c * 2 : Nat) : Int) ||| BitVec.ofInt 64 (b : Int)).toNat : Int) = _
  have e : c * 2 ||| b = 2 * c + b := by
    have := Nat.two_pow_add_eq_or_of_lt (i := 1) (b := b) hb c
    rw [Nat.mul_comm]
    exact this.symm
  rw [BitVec.toNat_or, ofInt_u64 (c * 2) (by omega), ofInt_u64 b (by omega), e]
  simp [IntKind.wrap, IntKind.bits, IntKind.signed]
  omega
namespace Pr
def sgnV (l : List Nat) (b : List Bool) : Nat := (front l b).getD 0
def sgnE (l : List Nat) (b : List Bool) : Int := match front l b with
  | some _ => 0
  | none => if 48 ≤ b.length then 4 else 3
/-- one bit more -/
theorem val_more {s : ByteArray} {p k : Nat} (h : p + k < 8 * s.size) : val (((bitsS s).drop p).take (k + 1)) = 2 * val (((bitsS s).drop p).take k) + bt s (p + k) := by
  have hl : k < ((bitsS s).drop p).length := by rw [List.length_drop, bitsS_length]; omega
  have hg := bitsS_get s (p + k) h
  have hb := bt_lt s (p + k)
  rw [List.take_add_one, List.getElem?_drop, hg]
  show val (_ ++ [_]) = _
  rw [val_snoc]
  by_cases e : bt s (p + k) = 1
  · rw [e]; rfl
  · rw [decide_eq_false e]
    simp only [Bool.false_eq_true, if_false]
    omega
end Pr
/-- a book and a reader that lie apart -/
theorem Book.apart_br {W : World} {base G : Nat} {l : List Nat} {k : Nat} {V : Nat → Value} (h : Book W base G l k V) {R p : Nat} {s : ByteArray} (hb : BR W R s p) : G ≠ R ∧ ∀ n, n ≤ 48 → ∀ g, (V n).ownBlock = some g → g ≠ R := by
  refine ⟨fun e => ?_, fun n hn g hg e => ?_⟩
  · subst e
    have := h.box.symm.trans hb
    simp at this
  · subst e
    obtain ⟨cur, hc, _⟩ := own_block (h.row n hn) hg
    have := hc.symm.trans hb
    simp at this

set_option maxHeartbeats 2000000 in
theorem rsign_any (base G R : Nat) (l : List Nat) (V : Nat → Value) (s : ByteArray) (p : Nat) (w : World) (h : Book w base G l l.length V) (g : Pr.Good l) (hl : l.length ≤ 256) (hbr : BR w R s p) (hs : s.size ≤ 140737488351232) (hp : p ≤ 8 * s.size)
    (Q : List Bool) (hQ : (Pr.bitsS s).drop p = Q) :
    Calls Try.prog 71 #[.pointer (some ⟨G, 0, none⟩), .pointer (some ⟨R, 0, none⟩)] w fun e w' => e = .returned (.tuple #[.int .u8 (Pr.sgnV l Q), .int .i64 (Pr.sgnE l Q)]) ∧ Kept (fun k => k ≠ R) w w' ∧ ∀ i, Pr.front l Q = some i → BR w' R s (p + l.getD i 0) := by
  have HQL : Hid (Q.length = 8 * s.size - p) := by show _ = _; rw [← hQ, List.length_drop, Pr.bitsS_length]
  have HVM : Hid (∀ k, p + k < 8 * s.size → Pr.val (Q.take (k + 1)) = 2 * Pr.val (Q.take k) + Pr.bt s (p + k)) := by rw [← hQ]; exact fun k hk => Pr.val_more hk
  have HBK : Hid (Book w base G l l.length V) := h
  have HBR : Hid (BR w R s p) := hbr
  have HAP : Hid (G ≠ R ∧ ∀ n, n ≤ 48 → ∀ g, (V n).ownBlock = some g → g ≠ R) := h.apart_br hbr
  have HG : Hid (Pr.Good l) := g
  clear hQ h hbr g
  go_enter Try.func71, Try.ntmps71
  go_wp2_with fail
  go_loopw [6, 7] (fun cv nv wr => ∃ k : Nat, k ≤ 48 ∧ k ≤ 8 * s.size - p ∧ nv = .int .i64 ((k : Int) + 1) ∧ cv = .int .i64 (Pr.val (Q.take k) : Nat) ∧ Hid (BR wr R s (p + k)) ∧ Hid (Pr.Not l Q k) ∧ Hid (Kept (fun k => k ≠ R) w wr)) (fun _ nv _ => 49 - (intOf nv).toNat)
  case atStart => exact ⟨0, by omega, by omega, rfl, rfl, HBR, Pr.Not.start _ _, Kept.refl _ _⟩
  case round =>
    obtain ⟨k, hk, hkp, rfl, rfl, hbr, hnot, hkept⟩ := hrel
    by_cases hlt : k < 48
    · have ht := take_any R s (p + k) wr hbr.out hs (by omega)
      have hv := Pr.val_take_lt Q k
      have hv2 : Pr.val (Q.take k) < 281474976710656 := Nat.lt_of_lt_of_le hv (Nat.pow_le_pow_right (by omega : 2 > 0) hk)
      have HV1 := HVM.out k
      clear hv
      generalize hC : Pr.val (Q.take k) = C at *
      clear hC
      go_wp2_with fail
      refine ht.mono ?_
      rintro e w1 ⟨b, t, rfl, htk, hk1⟩
      have HK1 : Hid (Kept (fun k => k ≠ R) w w1) := hkept.out.trans hk1
      clear ht hk1 hkept
      rcases htk with ⟨h1, rfl, hbt, hb1⟩ | ⟨h1, rfl, hbt, hb1⟩
      · have hb2 := Pr.bt_lt s (p + k)
        rw [← hbt] at hb2
        have HV2 : Hid (Pr.val (Q.take (k + 1)) = 2 * C + b) := by show _ = _; rw [HV1 h1, hbt]
        have hor := i64_or_bit C b (by omega) hb2
        have hv3 : 2 * C + b ≤ 281474976710656 := by
          have := Pr.val_take_lt Q (k + 1)
          rw [HV2.out] at this
          exact Nat.le_of_lt (Nat.lt_of_lt_of_le this (Nat.pow_le_pow_right (by omega : 2 > 0) (by omega : k + 1 ≤ 48)))
        have HB1 : Hid (BR w1 R s (p + (k + 1))) := hb1
        have hf := find_any base G l V (k + 1) (2 * C + b) w1 (HBK.out.kept HK1.out HAP.out.1 HAP.out.2) HG.out hl (by omega) (by omega) hv3
        have ek : ((k + 1 : Nat) : Int) = (k : Int) + 1 := by omega
        rw [ek] at hf
        generalize hD : 2 * C + b = D at *
        clear ek hbt hD HV1 hb1 hbr
        cases hF : Pr.fnd l (k + 1) D with
        | some i =>
          rw [hF] at hf
          dsimp only [Option.getD, Option.isSome] at hf
          obtain ⟨i1, i2, i3⟩ := Pr.fnd_some (by omega) hF
          have hfr : Pr.front l Q = some i := Pr.front_hit HG.out (k := k + 1) (by rw [HQL.out]; omega) i1 (by omega) i2 (by rw [HV2.out]; exact i3)
          have HSV : Hid (Pr.sgnV l Q = i) := by show (Pr.front l Q).getD 0 = i; rw [hfr]; rfl
          have HSE : Hid (Pr.sgnE l Q = 0) := by show Pr.sgnE l Q = 0; unfold Pr.sgnE; rw [hfr]
          have HFI : Hid (∀ i', Pr.front l Q = some i' → l.getD i' 0 = k + 1) := fun i' h' => by
            rw [hfr] at h'
            rw [← Option.some.inj h']
            exact i2
          clear hF i1 i2 i3 hfr hnot
          go_wp2_with fail
          refine hf.mono ?_
          rintro e w2 ⟨rfl, hb2⟩
          go_wp2_with fail
          go_ret2
          refine ⟨by rw [HSV.out, HSE.out]; rfl, HK1.out.trans (Kept.of_below hb2), fun i' h' => ?_⟩
          rw [HFI.out i' h']
          exact HB1.out.kept (q := fun _ => True) (Kept.of_below hb2) trivial
        | none =>
          rw [hF] at hf
          dsimp only [Option.getD, Option.isSome] at hf
          have HN : Hid (Pr.Not l Q (k + 1)) := hnot.out.next HG.out fun i hi e => by rw [HV2.out]; exact Pr.fnd_none (by omega) hF i hi e
          clear hF hnot
          go_wp2_with fail
          refine hf.mono ?_
          rintro e w2 ⟨rfl, hb2⟩
          have HK2 : Hid (Kept (fun k => k ≠ R) w w2) := HK1.out.trans (Kept.of_below hb2)
          have HB2 : Hid (BR w2 R s (p + (k + 1))) := HB1.out.kept (q := fun _ => True) (Kept.of_below hb2) trivial
          clear hb2 hf HB1
          go_wp2_with fail
          go_roundw
          case rel => exact ⟨k + 1, by omega, by omega, by go_num, by rw [HV2.out], HB2, HN, HK2⟩
          case measure => simp only [intOf]; omega
      · have hfr : Pr.front l Q = none := hnot.out.none HG.out (.inr (by rw [HQL.out]; omega))
        have HSV : Hid (Pr.sgnV l Q = 0) := by show (Pr.front l Q).getD 0 = 0; rw [hfr]; rfl
        have HSE : Hid (Pr.sgnE l Q = 3) := by
          show Pr.sgnE l Q = 3
          unfold Pr.sgnE
          rw [hfr]
          show (if 48 ≤ Q.length then (4 : Int) else 3) = 3
          rw [if_neg (by rw [HQL.out]; omega)]
        have HF : Hid (∀ i', Pr.front l Q = some i' → False) := fun i' h' => by rw [hfr] at h'; exact absurd h' (by simp)
        clear hfr hbt hb1 HV1 hnot hbr
        go_wp2_with fail
        go_ret2
        exact ⟨by rw [HSV.out, HSE.out]; rfl, HK1.out, fun i' h' => (HF.out i' h').elim⟩
    · have hfr : Pr.front l Q = none := hnot.out.none HG.out (.inl (by omega))
      have HSV : Hid (Pr.sgnV l Q = 0) := by show (Pr.front l Q).getD 0 = 0; rw [hfr]; rfl
      have HSE : Hid (Pr.sgnE l Q = 4) := by
        show Pr.sgnE l Q = 4
        unfold Pr.sgnE
        rw [hfr]
        show (if 48 ≤ Q.length then (4 : Int) else 3) = 4
        rw [if_pos (by rw [HQL.out]; omega)]
      have HF : Hid (∀ i', Pr.front l Q = some i' → False) := fun i' h' => by rw [hfr] at h'; exact absurd h' (by simp)
      clear hfr hnot hbr
      generalize Pr.val (Q.take k) = C at *
      go_wp2_with fail
      go_ret2
      exact ⟨by rw [HSV.out, HSE.out]; rfl, hkept.out, fun i' h' => (HF.out i' h').elim⟩
end Go.Proofs.Ytgdkfaphbbdnbaa
