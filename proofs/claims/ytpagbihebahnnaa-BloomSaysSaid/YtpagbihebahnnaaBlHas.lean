/-
  What Has of package bloom answers.
-/
import Derived.Test.YtpagbihebahnnaaBlAdd
namespace Go.Proofs.Ytpagbihebahnnaa
open Go.RowKit
set_option maxRecDepth 4000

theorem and_bit (v k : Nat) : (v &&& 2 ^ k = 0) ↔ v.testBit k = false := by
  rw [nat_bit, Nat.testBit_eq_decide_div_mod_eq]
  have : 0 < 2 ^ k := Nat.two_pow_pos k
  have h2 : v / 2 ^ k % 2 < 2 := Nat.mod_lt _ (by omega)
  constructor
  · intro h
    rcases Nat.mul_eq_zero.1 h with h | h
    · rw [h]; rfl
    · omega
  · intro h
    have := of_decide_eq_false h
    rw [show v / 2 ^ k % 2 = 0 from by omega, Nat.zero_mul]
theorem has_split {b ms : List Nat} {i : Nat} (hi : i < ms.length) : Bm.has b (ms.take (i + 1)) = (Bm.has b (ms.take i) && Bm.bit b (ms.getD i 0)) := by
  rw [List.take_succ_eq_append_getElem hi, Bm.has, List.all_append, List.getD_eq_getElem?_getD, List.getElem?_eq_getElem hi]
  simp [Bm.has]
theorem has_not {b ms : List Nat} {i : Nat} (hi : i < ms.length) (h : Bm.bit b (ms.getD i 0) = false) : Bm.has b ms = false := by
  cases e : Bm.has b ms with
  | false => rfl
  | true =>
    have := Bm.has_iff.1 e (ms.getD i 0) (by rw [List.getD_eq_getElem?_getD, List.getElem?_eq_getElem hi]; exact List.getElem_mem hi)
    rw [h] at this; cases this

set_option maxHeartbeats 1000000 in
theorem has_of (b : List Nat) (x : List UInt8) (ms : List Nat) (w : World) (hb : Bm.Ok b) (hx : x.length = 8) (hm4 : ms.length = 4) (hlt : ∀ k ∈ ms, k < 1024)
    (hm : ∀ W, Calls Try.prog 13 #[.agg (idC x).toArray] W fun e w' => e = .returned (.agg (ms.map U).toArray) ∧ Below W.heap.size W w') :
    Calls Try.prog 11 #[.agg (blmC b).toArray, .agg (idC x).toArray] w fun e w' => e = .returned (.bool (Bm.has b ms)) ∧ Below w.heap.size w w' := by
  have hlen := blmC_length hb
  have hlen2 : (idC x).length = 8 := by rw [idC, List.length_map, hx]
  obtain ⟨W2, hW2⟩ : ∃ W2, W2 = (w.alloc (.cells (blmC b).toArray 24)).alloc (.cells (idC x).toArray 26) := ⟨_, rfl⟩
  have HA : Hid (Bb W2 w.heap.size b ∧ Below w.heap.size w W2) := by
    show Bb W2 w.heap.size b ∧ Below w.heap.size w W2
    rw [hW2]
    exact ⟨(Bb.new hb w _).alloc _, ((Below.refl _ w).alloc (Nat.le_refl _) _).alloc (by simp) _⟩
  have HI : Hid (W2.rangeAt (w.heap.size + 1) 0 (idC x)) := by
    show W2.rangeAt (w.heap.size + 1) 0 (idC x)
    rw [hW2]
    have := idC_at (w := w.alloc (.cells (blmC b).toArray 24)) (x := x) (t := 26)
    rwa [World.size_alloc] at this
  have HL : Hid (∀ k ∈ ms, k < 1024) := hlt
  have HM : Hid (ms.length = 4) := hm4
  clear hlt hm4
  go_enter Try.func11, Try.ntmps11
  go_upto_region 1 with fail
  rw [← hW2]
  clear hW2 hlen hlen2
  refine wp_region_lit ?_
  refine wpList_load_mid rfl 26 (.tmp 3) rfl (w.heap.size + 1) 0 rfl (idC x) _ HI.out Try.underlying26 rfl (info_id8 hx) ?_
  clear HI
  go_wp2_with fail
  refine (hm _).mono ?_
  rintro e w1 ⟨rfl, hb1⟩
  have HA1 : Hid (Bb w1 w.heap.size b ∧ Below w.heap.size w w1) := ⟨HA.out.1.past hb1, HA.out.2.trans (hb1.mono HA.out.2.size)⟩
  clear hb1 HA hm
  go_wp2_with fail
  go_loopw [9] (fun i wr => ∃ j : Nat, j ≤ 4 ∧ i = .int .i64 j ∧ Hid (Bb wr w.heap.size b ∧ Below w.heap.size w wr) ∧ Hid (Bm.has b (ms.take j) = true)) (fun i _ => 4 - (intOf i).toNat)
  case atStart => exact ⟨0, by omega, rfl, HA1, rfl⟩
  case round =>
    obtain ⟨i, hi, rfl, HA, HT⟩ := hrel
    by_cases hlt : i < 4
    · have hdi : decide ((i : Int) < 4) = true := by rw [decide_eq_true_eq]; omega
      have hix := fun W => run_ix4 ms i W HM.out hlt
      have hk := get_lt HL.out (j := i) (by rw [HM.out]; exact hlt)
      have HN : Hid (Bm.has b (ms.take (i + 1)) = (Bm.has b (ms.take i) && Bm.bit b (ms.getD i 0))) := has_split (by rw [HM.out]; exact hlt)
      have HF : Hid (Bm.bit b (ms.getD i 0) = false → Bm.has b ms = false) := has_not (by rw [HM.out]; exact hlt)
      generalize ms.getD i 0 = k at *
      obtain ⟨q, hq, hq16⟩ : ∃ q : Nat, (k : Int) / 64 = (q : Int) ∧ q < 16 := ⟨k / 64, by omega, by omega⟩
      have hqi : (q : Int) < 16 := by omega
      have hqw : IntKind.u64.wrap (q : Int) = (q : Int) := wrap_u64 _ (by omega) (by omega)
      have HQ : Hid (k / 64 = q) := by show _ = _; omega
      have c0 : ∀ X : Since wr.heap.size wr, X.val.cell? ⟨w.heap.size, q, none⟩ = some (.int .u64 (b.getD q 0 : Nat)) := fun X => (HA.out.1.past X.property).at_ q hq16
      have hbit : ∀ X : Since wr.heap.size wr, Calls Try.prog 14 #[.int .u64 k] X.val fun e w' => e = .returned (.int .u64 (2 ^ (k % 64) : Nat)) ∧ ∃ Y : Since wr.heap.size wr, w' = Y.val := fun X => (bbit_any k X.val hk).mono fun _ _ h => ⟨h.1, _, h.2⟩
      have hand := u64_and_nat (b.getD q 0) (2 ^ (k % 64)) (HA.out.1.ok.get q) (pow_lt64 k)
      have hz := and_bit (b.getD q 0) (k % 64)
      have hE : Bm.bit b k = (b.getD q 0).testBit (k % 64) := by rw [Bm.bit, HQ.out]
      rw [← hE] at hz
      clear hE
      generalize b.getD q 0 &&& 2 ^ (k % 64) = n at *
      generalize 2 ^ (k % 64) = p at *
      generalize b.getD q 0 = v at *
      have hne : Nonempty (Since wr.heap.size wr) := ⟨⟨wr, Below.refl _ _⟩⟩
      cases hB : Bm.bit b k with
      | false =>
        have hn : ((n : Int) == 0) = true := by rw [hz.2 hB]; rfl
        have HR := HF.out hB
        clear hz HF HN
        go_upto_region 4 with fail
        refine wp_region_since (B := wr.heap.size) (W0 := wr) (by kernel_rfl) (by kernel_rfl) (Below.refl _ _) ?_
        repeat (go_big_quiet_step (first | rfl | exact hbit _))
        refine wpQuiet_nil ?_
        rintro w7 ⟨X, rfl⟩
        have HB3 : Hid (Below w.heap.size w X.val) := HA.out.2.trans (X.property.mono HA.out.2.size)
        generalize X.val = w3 at *
        clear c0 hbit hne hix
        go_wp2_with fail
        go_ret
        exact ⟨by rw [HR]; rfl, HB3.out⟩
      | true =>
        have hn : ((n : Int) == 0) = false := by
          rw [beq_eq_false_iff_ne]
          intro h
          have := hz.1 (by omega)
          rw [hB] at this; cases this
        have HR : Hid (Bm.has b (ms.take (i + 1)) = true) := by show _ = _; rw [HN.out, HT.out, hB]; rfl
        clear hz HF HN
        go_upto_region 4 with fail
        refine wp_region_since (B := wr.heap.size) (W0 := wr) (by kernel_rfl) (by kernel_rfl) (Below.refl _ _) ?_
        repeat (go_big_quiet_step (first | rfl | exact hbit _))
        refine wpQuiet_nil ?_
        rintro w7 ⟨X, rfl⟩
        have HB3 : Hid (Bb X.val w.heap.size b ∧ Below w.heap.size w X.val) := ⟨HA.out.1.past X.property, HA.out.2.trans (X.property.mono HA.out.2.size)⟩
        generalize X.val = w3 at *
        clear c0 hbit hne hix
        go_wp2_with fail
        go_roundw
        case rel => exact ⟨i + 1, by omega, by go_num, HB3, HR⟩
        case measure => simp only [intOf]; omega
    · obtain rfl : i = 4 := by omega
      have HT2 : Hid (Bm.has b ms = true) := by
        have := HT.out
        rwa [show ms.take 4 = ms from List.take_of_length_le (Nat.le_of_eq HM.out)] at this
      go_wp2_with fail
      go_ret
      exact ⟨by rw [HT2.out]; rfl, HA.out.2⟩
theorem has_any (b : List Nat) (x : List UInt8) (w : World) (hb : Bm.Ok b) (hx : x.length = 8) :
    Calls Try.prog 11 #[.agg (blmC b).toArray, .agg (idC x).toArray] w fun e w' => e = .returned (.bool (Bm.has b (Bm.marks x))) ∧ Below w.heap.size w w' :=
  has_of b x (Bm.marks x) w hb hx rfl (Bm.marks_lt x) fun W => marks_any x W hx
end Go.Proofs.Ytpagbihebahnnaa
