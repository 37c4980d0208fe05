/-
  What DateRead of package lumref answers.
-/
import Derived.Test.YtlglkfnihjfnoaaDoorCvRSpl
namespace Go.Proofs.YtlglkfnihjfnoaaDoor
open Go.RowKit
set_option maxRecDepth 4000

set_option maxHeartbeats 4000000 in
theorem rread_any (s : ByteArray) (w : World) (hs : s.size < 4294967281) (hM : Ml w) :
    Calls Tryd.prog 22 #[.string s] w fun e w' => e = .returned (readV s.data.toList) ∧ Below w.heap.size w w' := by
  obtain ⟨m, hm⟩ := hM
  have hsp := Tryd.strings_Split s ⟨#[45]⟩ m w hs hm (by decide)
  have hpl := pcs_length s
  rw [← hpl] at hsp
  have hdef : Lib.splitB ⟨#[45]⟩ 0 (Lib.countB s ⟨#[45]⟩) s = pcs s := rfl
  rw [hdef] at hsp
  clear hpl hdef
  have hlt : (pcs s).length ≤ s.size + 1 := by
    rw [pcs_length]
    have := Lib.countB_le ⟨#[45]⟩ (by decide) s.size s (Nat.le_refl _)
    omega
  by_cases h10 : s.size = 10
  · by_cases h3 : (pcs s).length = 3
    · obtain ⟨A, B, C, hL⟩ : ∃ A B C, pcs s = [A, B, C] := by
        match hp : pcs s with
        | [] => rw [hp] at h3; simp at h3
        | [_] => rw [hp] at h3; simp at h3
        | [_, _] => rw [hp] at h3; simp at h3
        | [A, B, C] => exact ⟨A, B, C, rfl⟩
        | _ :: _ :: _ :: _ :: _ => rw [hp] at h3; simp at h3
      obtain ⟨W1, hW1⟩ : ∃ W1, W1 = w.alloc (.cells ((pcs s).map Value.string).toArray 9) := ⟨_, rfl⟩
      have c0 : W1.cell? ⟨w.heap.size, 0, none⟩ = some (.string A) := by rw [hW1, hL]; simp
      have c1 : W1.cell? ⟨w.heap.size, 1, none⟩ = some (.string B) := by rw [hW1, hL]; simp
      have c2 : W1.cell? ⟨w.heap.size, 2, none⟩ = some (.string C) := by rw [hW1, hL]; simp
      have hz1 : W1.heap.size = w.heap.size + 1 := by rw [hW1]; simp
      have HB1 : Hid (Below w.heap.size w W1) := by rw [hW1]; exact (Below.refl _ w).alloc (Nat.le_refl _) _
      rw [← hW1] at hsp
      by_cases hA : A.size = 4
      · by_cases hB : B.size = 2
        · have hsz := pcs_size hL
          have HD : Hid (Cv.form s.data.toList = true ↔ ∀ P ∈ pcs s, ∀ c ∈ P.data.toList, Cv.isDig c = true) := form_pcs h10 hL hA hB
          have HV : Hid (Cv.form s.data.toList = true → readV s.data.toList = daysV (Cv.num A.data.toList) (Cv.num B.data.toList) (Cv.num C.data.toList)) := read_pcs hL
          have hP10 : Hid (∀ k (hk : k < (pcs s).length), (pcs s)[k].size ≤ 10) := by
            intro k hk
            have hm : (pcs s)[k] ∈ pcs s := List.getElem_mem hk
            generalize (pcs s)[k] = P at *
            rw [hL] at hm
            simp only [List.mem_cons, List.not_mem_nil, or_false] at hm
            rcases hm with rfl | rfl | rfl <;> omega
          obtain ⟨W2, hW2⟩ : ∃ W2, W2 = W1.alloc (.cells #[.int .i64 0, .int .i64 0, .int .i64 0] 48) := ⟨_, rfl⟩
          have HR0 : Hid (RD w W2 (pcs s) (vI (pcs s) 0 0)) := by
            have hb2 : Below W1.heap.size W1 W2 := by rw [hW2]; exact (Below.refl _ W1).alloc (Nat.le_refl _) _
            have hv0 : ∀ j, j < 3 → ((vI (pcs s) 0 0 j : Nat) : Int) = 0 := by
              intro j hj
              unfold vI
              rw [if_neg (by omega)]
              split
              · rw [List.take_zero]; rfl
              · rfl
            refine ⟨fun j hj => ?_, fun j hj => ?_, fun j hj => ?_, HB1.out.trans (hb2.mono (by omega)), by rw [hW2]; simp; omega⟩
            · rw [hb2.cell (p := ⟨w.heap.size, j, none⟩) (by show w.heap.size < _; omega), hW1, cell_of_row _ w.heap.size j _ _ _ (heap_alloc_new w _)]
              simp [hj]
            · rw [hv0 j hj, ← hz1, hW2, cell_of_row _ W1.heap.size j _ _ _ (heap_alloc_new W1 _)]
              have : j = 0 ∨ j = 1 ∨ j = 2 := by omega
              rcases this with rfl | rfl | rfl <;> rfl
            · rw [← hz1, hW2]; simp
          rw [h3] at hsp
          clear hW1 hm hs hlt hsz
          go_enter Tryd.func22, Tryd.ntmps22
          go_wp2_with fail
          refine hsp.mono ?_
          rintro e w1 ⟨rfl, rfl⟩
          go_upto_region 5 with fail
          rw [← hW2]
          clear hW2 hz1 c0 c1 c2
          go_wp2_with fail
          go_loopw [36] (fun i wr => ∃ k : Nat, k ≤ 3 ∧ i = .int .i64 k ∧ Hid (RD w wr (pcs s) (vI (pcs s) k 0)) ∧ Hid (∀ j (hj : j < (pcs s).length), j < k → ∀ c ∈ (pcs s)[j].data.toList, Cv.isDig c = true)) (fun i _ => 3 - (intOf i).toNat)
          case atStart => exact ⟨0, by omega, rfl, HR0, fun j hj h => absurd h (by omega)⟩
          case round =>
            obtain ⟨k, hk, rfl, HR, HG⟩ := hrel
            obtain ⟨wo, hwo⟩ : ∃ x, x = wr := ⟨_, rfl⟩
            subst hwo
            by_cases hlt : k < 3
            · have hki : (k : Int) < 3 := by omega
              have hcell := HR.out.ps k (by omega)
              have HPm : Hid ((pcs s)[k]'(by omega) ∈ pcs s) := List.getElem_mem _
              have hPz := hP10.out k (by omega)
              have HPd : Hid (((pcs s).getD k ⟨#[]⟩) = (pcs s)[k]'(by omega)) := by
                show _ = _
                rw [List.getD_eq_getElem?_getD, List.getElem?_eq_getElem (by omega)]
                rfl
              have HGk : Hid (∀ P, P = (pcs s)[k]'(by omega) → (∀ c ∈ P.data.toList, Cv.isDig c = true) → ∀ j (hj : j < (pcs s).length), j < k + 1 → ∀ c ∈ (pcs s)[j].data.toList, Cv.isDig c = true) := by
                rintro P rfl hP j hj h
                by_cases e : j = k
                · subst e; exact hP
                · exact HG.out j hj (by omega)
              have HPeq : Hid ((pcs s)[k]'(by omega) = (pcs s)[k]'(by omega)) := rfl
              obtain ⟨P, hP⟩ : ∃ P, P = (pcs s)[k]'(by omega) := ⟨_, rfl⟩
              rw [← hP] at hcell HPm hPz HPd
              replace HGk : Hid ((∀ c ∈ P.data.toList, Cv.isDig c = true) → ∀ j (hj : j < (pcs s).length), j < k + 1 → ∀ c ∈ (pcs s)[j].data.toList, Cv.isDig c = true) := HGk.out P hP
              obtain ⟨wc, cap, hcv, hbc, hlc, hcc⟩ := cv_bytes wo P
              have hRl := HR.out.lt
              have HRc : Hid (RD w wc (pcs s) (vI (pcs s) k 0)) := HR.out.past hbc
              have HCc : Hid (∀ j (hj : j < P.size), wc.cell? ⟨wo.heap.size, j, none⟩ = some (.int .u8 (P[j].toNat : Int))) := hcc
              have hPl : P.data.toList.length = P.size := by rw [← Lib.size_eq]
              clear hP HPeq hcc hbc HG
              go_wp2_with fail
              clear hcv hcell
              go_loopw [44] (fun i wq => ∃ q : Nat, q ≤ P.size ∧ i = .int .i64 q ∧ Hid (RD w wq (pcs s) (vI (pcs s) k q)) ∧ Hid (∀ c ∈ P.data.toList.take q, Cv.isDig c = true) ∧ Hid (∀ j (hj : j < P.size), wq.cell? ⟨wo.heap.size, j, none⟩ = some (.int .u8 (P[j].toNat : Int)))) (fun i _ => P.size - (intOf i).toNat)
              case atStart => exact ⟨0, by omega, rfl, HRc, fun c hc => absurd hc (by simp), HCc⟩
              case round =>
                obtain ⟨q, hq, rfl, HQ, HDq, HCq⟩ := hrel
                by_cases hlq : q < P.size
                · have hc := HCq.out q hlq
                  by_cases hg : 48 ≤ P[q].toNat ∧ P[q].toNat ≤ 57
                  · have HNx : Hid (Cv.num (P.data.toList.take (q + 1)) = 10 * Cv.num (P.data.toList.take q) + (P[q].toNat - 48)) := Cv.num_take P.data.toList (by omega)
                    have HD2 : Hid (∀ c ∈ P.data.toList.take (q + 1), Cv.isDig c = true) := by
                      intro c hc
                      rw [take_snoc P q hlq, List.mem_append] at hc
                      rcases hc with hc | hc
                      · exact HDq.out c hc
                      · rw [List.mem_singleton.1 hc]
                        exact (Cv.isDig_iff _).2 hg
                    have hnl : Cv.num (P.data.toList.take q) < 10000000000 := by
                      have h1 := Cv.num_lt (P.data.toList.take q) HDq.out
                      refine Nat.lt_of_lt_of_le h1 ?_
                      have : (10 : Nat) ^ (P.data.toList.take q).length ≤ 10 ^ 10 := Nat.pow_le_pow_right (by omega) (by rw [List.length_take]; omega)
                      omega
                    have hn := HQ.out.ns k hlt
                    have hf := HQ.out.fz k hlt
                    rw [vI_at, HPd.out] at hn
                    have HS : Hid (∀ x : Int, (Cv.num (P.data.toList.take (q + 1)) : Int) = x → RD w (wr.setCell ⟨w.heap.size + 1, k, none⟩ (.int .i64 x)) (pcs s) (vI (pcs s) k (q + 1))) := fun x hx => by
                      subst hx
                      exact HQ.out.set hlt (by rw [vI_at, HPd.out]) fun j hj => vI_off _ _ _ _ hj
                    have HC2 : Hid (∀ v : Value, ∀ j (hj : j < P.size), (wr.setCell ⟨w.heap.size + 1, k, none⟩ v).cell? ⟨wo.heap.size, j, none⟩ = some (.int .u8 (P[j].toNat : Int))) := fun v j hj => by
                      rw [World.cell?_setCell_other _ _ _ _ (by intro e; have := congrArg Addr.block e; simp at this; omega)]
                      exact HCq.out j hj
                    clear HQ HDq HCq HRc HCc
                    generalize Cv.num (P.data.toList.take q) = v at *
                    obtain ⟨c, hcq⟩ : ∃ c, c = P[q].toNat := ⟨_, rfl⟩
                    rw [← hcq] at hg hc HNx
                    clear hcq
                    go_wp2_with fail
                    go_roundw
                    case rel => exact ⟨q + 1, by omega, by go_num, HS.out _ (by rw [HNx.out]; omega), HD2, fun j hj => HC2.out _ j hj⟩
                    case measure => simp only [intOf]; omega
                  · have HF : Hid (Cv.form s.data.toList = false) := by
                      have : ¬ Cv.form s.data.toList = true := fun e => by
                        have h1 := HD.out.1 e P HPm.out P[q] (List.getElem_mem (by omega))
                        exact hg ((Cv.isDig_iff _).1 h1)
                      show _ = _
                      simpa using this
                    have HBq : Hid (Below w.heap.size w wr) := HQ.out.bel
                    have HV2 : Hid (readV s.data.toList = .tuple #[.int .i64 0, .int .i64 13]) := readV_no HF.out
                    clear HQ HDq HCq HRc HCc HF
                    obtain ⟨c, hcq⟩ : ∃ c, c = P[q].toNat := ⟨_, rfl⟩
                    rw [← hcq] at hg hc
                    clear hcq
                    by_cases hg1 : c < 48
                    · clear hg
                      go_wp2_with fail
                      go_ret2
                      exact ⟨by rw [HV2.out]; rfl, HBq.out⟩
                    · have hg2 : 57 < c := by omega
                      clear hg
                      go_wp2_with fail
                      go_ret2
                      exact ⟨by rw [HV2.out]; rfl, HBq.out⟩
                · obtain rfl : q = P.size := by omega
                  have HN2 : Hid (RD w wr (pcs s) (vI (pcs s) (k + 1) 0)) := by
                    have := vI_next (pcs s) k (k := P.size) (by rw [HPd.out]; omega)
                    show RD _ _ _ _
                    rw [← this]
                    exact HQ.out
                  have HG2 := HGk.out (by rw [List.take_of_length_le (by omega)] at HDq; exact HDq.out)
                  replace HG2 : Hid (∀ j (hj : j < (pcs s).length), j < k + 1 → ∀ c ∈ (pcs s)[j].data.toList, Cv.isDig c = true) := HG2
                  clear HQ HDq HCq HRc HCc HGk
                  go_wp2_with fail
                  go_roundw
                  case rel => exact ⟨k + 1, by omega, by go_num, HN2, HG2⟩
                  case measure => simp only [intOf]; omega
            · obtain rfl : k = 3 := by omega
              have hf : Cv.form s.data.toList = true := HD.out.2 fun P hP c hc => by
                obtain ⟨j, hj, rfl⟩ := List.getElem_of_mem hP
                exact HG.out j hj (by omega) c hc
              have hv := HV.out hf
              have n0 := HR.out.ns 0 (by omega)
              have n1 := HR.out.ns 1 (by omega)
              have n2 := HR.out.ns 2 (by omega)
              have v0 : vI (pcs s) 3 0 0 = Cv.num A.data.toList := by rw [hL]; rfl
              have v1 : vI (pcs s) 3 0 1 = Cv.num B.data.toList := by rw [hL]; rfl
              have v2 : vI (pcs s) 3 0 2 = Cv.num C.data.toList := by rw [hL]; rfl
              rw [v0] at n0
              rw [v1] at n1
              rw [v2] at n2
              have HBr : Hid (Below w.heap.size w wo) := HR.out.bel
              have hda := fun V => rDays_any (Cv.num A.data.toList) (Cv.num B.data.toList) (Cv.num C.data.toList) V
              rw [← hv] at hda
              obtain ⟨p, r, hpr⟩ : ∃ p r, readV s.data.toList = .tuple #[.int .i64 p, .int .i64 r] := ⟨_, _, rfl⟩
              have HW : Hid (readV s.data.toList = .tuple #[.int .i64 p, .int .i64 r]) := hpr
              rw [hpr] at hda
              clear HR HG HD HV hv hf v0 v1 v2 hpr
              generalize Cv.num A.data.toList = x0 at *
              generalize Cv.num B.data.toList = x1 at *
              generalize Cv.num C.data.toList = x2 at *
              go_wp2_with fail
              refine (hda _).mono ?_
              rintro e w1 ⟨rfl, rfl⟩
              go_wp2_with fail
              go_ret2
              exact ⟨by rw [HW.out]; rfl, HBr.out⟩
        · have hF : Cv.form s.data.toList = false := form_not (by rintro ⟨_, A', B', C', e, _, e2⟩; rw [hL] at e; cases e; exact hB e2)
          rw [readV_no hF]
          clear hm hF hs hlt hW1
          rw [h3] at hsp
          go_enter Tryd.func22, Tryd.ntmps22
          go_wp2_with fail
          refine hsp.mono ?_
          rintro e w1 ⟨rfl, rfl⟩
          go_wp2_with fail
          go_ret2
          exact ⟨rfl, HB1.out⟩
      · have hF : Cv.form s.data.toList = false := form_not (by rintro ⟨_, A', B', C', e, e2, _⟩; rw [hL] at e; cases e; exact hA e2)
        rw [readV_no hF]
        clear hm hF hs hlt hW1
        rw [h3] at hsp
        go_enter Tryd.func22, Tryd.ntmps22
        go_wp2_with fail
        refine hsp.mono ?_
        rintro e w1 ⟨rfl, rfl⟩
        go_wp2_with fail
        go_ret2
        exact ⟨rfl, HB1.out⟩
    · have hF : Cv.form s.data.toList = false := form_not (by rintro ⟨_, A', B', C', e, _⟩; rw [e] at h3; exact h3 rfl)
      rw [readV_no hF]
      have HB1 : Hid (Below w.heap.size w (w.alloc (.cells ((pcs s).map Value.string).toArray 9))) := (Below.refl _ w).alloc (Nat.le_refl _) _
      generalize w.alloc (.cells ((pcs s).map Value.string).toArray 9) = W1 at *
      clear hm hF hs
      generalize (pcs s).length = n at *
      go_enter Tryd.func22, Tryd.ntmps22
      go_wp2_with fail
      refine hsp.mono ?_
      rintro e w1 ⟨rfl, rfl⟩
      go_wp2_with fail
      go_ret2
      exact ⟨rfl, HB1.out⟩
  · have hF : Cv.form s.data.toList = false := form_not (fun q => h10 q.1)
    rw [readV_no hF]
    have HB1 : Hid (Below w.heap.size w (w.alloc (.cells ((pcs s).map Value.string).toArray 9))) := (Below.refl _ w).alloc (Nat.le_refl _) _
    generalize w.alloc (.cells ((pcs s).map Value.string).toArray 9) = W1 at *
    clear hm hF
    generalize (pcs s).length = n at *
    go_enter Tryd.func22, Tryd.ntmps22
    go_wp2_with fail
    refine hsp.mono ?_
    rintro e w1 ⟨rfl, rfl⟩
    go_wp2_with fail
    go_ret2
    exact ⟨rfl, HB1.out⟩

end Go.Proofs.YtlglkfnihjfnoaaDoor
