/-
  What Reach and Order of package lumref answer.
-/
import Derived.Test.YtoibiaikbgkbpaaGrRef
import Derived.Test.YtoibiaikbgkbpaaRHas
import Derived.Test.YtoibiaikbgkbpaaOwnLow
namespace Go.Proofs.Ytoibiaikbgkbpaa
open Go.RowKit
set_option maxRecDepth 4000

set_option maxHeartbeats 1000000 in
theorem rReach_any (v u : Value) (K : List (List Int)) (R : List Int) (w : World) (h : Kz w v K) (hr : Ints w u R) (hl : K.length ≤ 9223372036854775807) (hll : ∀ i, (Gr.kd K i).length ≤ 9223372036854775807) (hRl : R.length ≤ 9223372036854775807) :
    Calls Try.prog 8 #[v, u] w fun e w' => ∃ x, e = .returned (.tuple #[x, .int .i64 (Gr.rErr K R)]) ∧ w'.ownsRow w.heap.size 4 1 x (Gr.reach K R).length ((Gr.reach K R).map Tb) ∧ Below w.heap.size w w' := by
  have hg := rgraph_any v K w h hl hll
  obtain ⟨va, vc, rfl⟩ := h.slice
  by_cases h0 : Gr.gErr K = 0
  · have hK := Gr.gErr_ok h0
    have hn := hK.few
    have hp := rpoint_any u R K.length w hr hRl
    have hE : Gr.rErr K R = Gr.pErr K.length R := by unfold Gr.rErr; rw [h0, if_neg (by simp)]
    rw [h0] at hg
    by_cases h1 : Gr.pErr K.length R = 0
    · obtain ⟨p1, p2⟩ := Gr.pErr_ok h1
      have hE0 : Gr.rErr K R = 0 := hE.trans h1
      have hR : Gr.reach K R = Gr.rch K R := if_pos hE0
      have hre := rreached_any _ u K R w h hr hK p1 p2
      rw [hE0, hR]
      rw [h1] at hp
      clear hE hE0 hR h0 h1 hK p2 h hr
      go_enter Try.func8, Try.ntmps8
      go_wp2_with fail
      refine hg.mono ?_
      rintro e w1 ⟨rfl, rfl⟩
      go_wp2_with fail
      refine hp.mono ?_
      rintro e w1 ⟨rfl, rfl⟩
      go_wp2_with fail
      refine hre.mono ?_
      rintro e w2 ⟨x, rfl, o2, b2⟩
      clear hre
      go_wp2_with fail
      go_ret2
      exact ⟨_, rfl, o2, b2⟩
    · have hR : Gr.reach K R = [] := if_neg (by rw [hE]; exact h1)
      have hzq : (Gr.pErr K.length R != 0) = true := by simpa using h1
      rw [hE, hR]
      obtain ⟨z, hz⟩ : ∃ z, z = Gr.pErr K.length R := ⟨_, rfl⟩
      rw [← hz] at hp hzq ⊢
      clear hE hR h0 h1 hK h hr hz
      have hB := Below.refl w.heap.size w
      go_enter Try.func8, Try.ntmps8
      go_wp2_with fail
      refine hg.mono ?_
      rintro e w1 ⟨rfl, rfl⟩
      go_wp2_with fail
      refine hp.mono ?_
      rintro e w1 ⟨rfl, rfl⟩
      go_wp2_with fail
      go_ret2
      exact ⟨_, rfl, World.ownsRow_nil _ _ _ _, hB⟩
  · have hE : Gr.rErr K R = Gr.gErr K := by unfold Gr.rErr; rw [if_pos h0]
    have hR : Gr.reach K R = [] := if_neg (by rw [hE]; exact h0)
    have hzq : (Gr.gErr K != 0) = true := by simpa using h0
    rw [hE, hR]
    generalize Gr.gErr K = z at *
    clear hE hR h0 h hr
    have hB := Below.refl w.heap.size w
    go_enter Try.func8, Try.ntmps8
    go_wp2_with fail
    refine hg.mono ?_
    rintro e w1 ⟨rfl, rfl⟩
    go_wp2_with fail
    go_ret2
    exact ⟨_, rfl, World.ownsRow_nil _ _ _ _, hB⟩

namespace Gr
/-- is a thing not told, and its first m kids told? -/
def Rd (K : List (List Int)) (out : List Int) (i m : Nat) : Bool := decide ((i : Int) ∉ out) && ((kd K i).take m).all fun x => decide (x ∈ out)
theorem rd_zero (K : List (List Int)) (out : List Int) (i : Nat) : Rd K out i 0 = decide ((i : Int) ∉ out) := by unfold Rd; simp
theorem rd_next (K : List (List Int)) (out : List Int) (i : Nat) {m : Nat} (hm : m < (kd K i).length) : Rd K out i (m + 1) = (Rd K out i m && decide ((kd K i)[m] ∈ out)) := by
  unfold Rd
  rw [List.take_succ_eq_append_getElem hm, List.all_append, Bool.and_assoc]
  simp
theorem rd_all (K : List (List Int)) (out : List Int) (i : Nat) : Rd K out i (kd K i).length = decide (Rdy K out i) := by
  unfold Rd
  rw [List.take_length, Bool.eq_iff_iff, Bool.and_eq_true, decide_eq_true_eq, decide_eq_true_eq, List.all_eq_true]
  unfold Rdy
  simp
end Gr

theorem gr_ord_none {K : List (List Int)} {j : Nat} (h : Gr.ordTo K j = none) {n : Nat} (hn : j ≤ n) : Gr.ordTo K n = none := by
  obtain ⟨d, rfl⟩ : ∃ d, n = j + d := ⟨n - j, by omega⟩
  clear hn
  induction d with
  | zero => exact h
  | succ d ih => rw [show j + (d + 1) = (j + d) + 1 by omega, Gr.ordTo, ih]

set_option maxHeartbeats 400000 in
theorem rOrder_any (v : Value) (K : List (List Int)) (w : World) (h : Kz w v K) (hl : K.length ≤ 9223372036854775807) (hll : ∀ i, (Gr.kd K i).length ≤ 9223372036854775807) :
    Calls Try.prog 10 #[v] w fun e w' => ∃ x, e = .returned (.tuple #[x, .int .i64 (Gr.oErr K)]) ∧ w'.ownsRow w.heap.size 3 1 x (Gr.order K).length ((Gr.order K).map Iv) ∧ Below w.heap.size w w' := by
  have hg := rgraph_any v K w h hl hll
  obtain ⟨i0, hi, hz0, hz1, hz2⟩ := info_parts info_int
  obtain ⟨va, vc, rfl⟩ := h.slice
  by_cases h0 : Gr.gErr K = 0
  · have hK := Gr.gErr_ok h0
    have hn := hK.few
    have HE : Hid (Gr.oErr K = if Gr.ordTo K K.length = none then 4 else 0) := by show _ = _; unfold Gr.oErr; rw [h0, if_neg (by simp)]
    have HO : Hid (Gr.order K = (Gr.ordTo K K.length).getD []) := by show _ = _; unfold Gr.order; rw [h0, if_neg (by simp)]
    have HH : Hid (Kz w (.slice va K.length vc) K) := h
    have HKi : Hid (∀ i, i < K.length → (Gr.kd K i).length ≤ 64) := fun i hi => (hK.kids i hi).1
    rw [h0] at hg
    clear h h0 hK hll
    go_enter Try.func10, Try.ntmps10
    go_wp2_with fail
    refine hg.mono ?_
    rintro e w1 ⟨rfl, rfl⟩
    have HS0 : Hid (w1.ownsRow w1.heap.size 3 1 (.slice none 0 0) ([] : List Int).length (([] : List Int).map Iv)) := World.ownsRow_nil _ _ _ _
    clear hg
    go_wp2_with fail
    go_loopw [5, 19] (fun ov i wr => ∃ (j : Nat) (out : List Int), j ≤ K.length ∧ i = .int .i64 j ∧ Hid (Gr.ordTo K j = some out) ∧ Hid (wr.ownsRow w1.heap.size 3 1 ov out.length (out.map Iv)) ∧ Hid (Below w1.heap.size w1 wr)) (fun _ i _ => K.length - (intOf i).toNat)
    case atStart => exact ⟨0, [], by omega, rfl, rfl, HS0, Below.refl _ _⟩
    case round =>
      obtain ⟨j, out, hjn, rfl, HT, HS, HB⟩ := hrel
      obtain ⟨sa, sc, hsv⟩ := own_form HS.out
      subst hsv
      have hol := (Gr.ordTo_told j out HT.out).len
      by_cases hlj : j < K.length
      · have HJn : Hid (Gr.ordTo K (j + 1) = if 0 ≤ Gr.nxt K out then some (out ++ [Gr.nxt K out]) else none) := by
          show _ = _
          rw [Gr.ordTo, HT.out]
        have hhas := fun (x : Int) => rhas_int _ out x wr (Ints.of_own HS.out) (by omega)
        have HTk : Hid (∀ k : Nat, k < K.length → Gr.Rdy K out k → (∀ a, a < k → ¬ Gr.Rdy K out a) → Gr.ordTo K (j + 1) = some (out ++ [(k : Int)])) := fun k hk h1 h2 => by
          have e : Gr.nxt K out = (k : Int) := Gr.nxtTo_first h2 h1 _ hk
          rw [HJn.out, e, if_pos (by omega)]
        have HTn : Hid ((∀ a, a < K.length → ¬ Gr.Rdy K out a) → Gr.ordTo K K.length = none) := fun h1 => by
          have e : Gr.nxt K out = -1 := Gr.nxtTo_none _ h1
          have e2 : Gr.ordTo K (j + 1) = none := by rw [HJn.out, e, if_neg (by omega)]
          exact gr_ord_none e2 (by omega)
        have hol2 : out.length ≤ 200 := by omega
        clear HJn HT hol
        go_wp2_with fail
        go_loop [6, 23] (fun kv i => ∃ q : Nat, q ≤ K.length ∧ i = .int .i64 q ∧ kv = .int .i64 (-1) ∧ Hid (∀ a, a < q → ¬ Gr.Rdy K out a)) (fun _ i => K.length - (intOf i).toNat)
        case atStart => exact ⟨0, by omega, rfl, rfl, fun a h => absurd h (by omega)⟩
        case round =>
          obtain ⟨q, hqn, rfl, rfl, HN⟩ := hrel
          by_cases hlq : q < K.length
          · obtain ⟨bk, o, ka, kc, rfl, -, hbk, c0, hki⟩ := HH.out.get q hlq
            have c1 := (HB.out.cell (p := ⟨bk, o + q, none⟩) hbk).trans c0
            have hl64 := HKi.out q hlq
            have HIq : Hid (Ints w1 (.slice ka (Gr.kd K q).length kc) (Gr.kd K q)) := hki
            have hq := hhas (q : Int)
            have hr0 : decide ((q : Int) ∈ out) = !(Gr.Rd K out q 0) := by rw [Gr.rd_zero]; simp
            rw [hr0] at hq
            have HRn : Hid (∀ m (hm : m < (Gr.kd K q).length), Gr.Rd K out q (m + 1) = (Gr.Rd K out q m && decide ((Gr.kd K q)[m] ∈ out))) := fun m hm => Gr.rd_next K out q hm
            have HRa : Hid (Gr.Rd K out q (Gr.kd K q).length = decide (Gr.Rdy K out q)) := Gr.rd_all K out q
            clear c0 hki hr0
            generalize Gr.kd K q = L at *
            go_wp2_with fail
            refine hq.mono ?_
            rintro e w2 ⟨rfl, rfl⟩
            clear hq
            go_wp2_with fail
            go_loop [9, 34] (fun rv i => ∃ m : Nat, m ≤ L.length ∧ i = .int .i64 m ∧ rv = .bool (Gr.Rd K out q m)) (fun _ i => L.length - (intOf i).toNat)
            case atStart => exact ⟨0, by omega, rfl, by simp⟩
            case round =>
              obtain ⟨m, hm, rfl, rfl⟩ := hrel
              by_cases hlm : m < L.length
              · obtain ⟨bk', o', rfl, -, hbk', d0⟩ := HIq.out.get m hlm
                have d1 := (HB.out.cell (p := ⟨bk', o' + m, none⟩) hbk').trans d0
                have hx := hhas L[m]
                have hn2 := HRn.out m hlm
                cases hz : Gr.Rd K out q m with
                | true =>
                  rw [hz, Bool.true_and] at hn2
                  rw [← hn2] at hx
                  obtain ⟨z, hzz⟩ : ∃ z, z = Gr.Rd K out q (m + 1) := ⟨_, rfl⟩
                  have HN2 : Hid (Gr.Rd K out q (m + 1) = z) := hzz.symm
                  rw [← hzz] at hx
                  clear hz hn2 d0 hzz
                  generalize L[m] = t at *
                  go_wp2_with fail
                  refine hx.mono ?_
                  rintro e w3 ⟨rfl, rfl⟩
                  go_wp2_with fail
                  go_round
                  case rel => exact ⟨m + 1, by omega, by go_num, by rw [HN2.out]⟩
                  case measure => simp only [intOf]; omega
                | false =>
                  rw [hz, Bool.false_and] at hn2
                  have HN2 : Hid (Gr.Rd K out q (m + 1) = false) := hn2
                  clear hz hn2 d0 hx
                  generalize L[m] = t at *
                  go_wp2_with fail
                  go_round
                  case rel => exact ⟨m + 1, by omega, by go_num, by rw [HN2.out]⟩
                  case measure => simp only [intOf]; omega
              · obtain rfl : m = L.length := by omega
                rw [HRa.out]
                by_cases hR : Gr.Rdy K out q
                · rw [decide_eq_true hR]
                  have HT1 : Hid (Gr.ordTo K (j + 1) = some (out ++ [(q : Int)])) := HTk.out q hlq hR HN.out
                  have hown := HS.out
                  have hbel := HB.out
                  have hbs := hbel.size
                  clear HTk HTn HN hR HRa HRn hhas HS HB
                  go_wp2_with (at_builtin; refine wpList_append_own _ rfl _ _ 23 rfl w1.heap.size 3 i0 (.int .i64 0) 1 8 Try.underlying23 hi hz0 hz1 hz2 rfl (by decide) _ _ _ rfl (hown.alloc _) ⟨_, 0, none⟩ 1 1 [.int .i64 q] rfl rfl ?c1 ?c2 ?c3 ?c4 ?c5 ?_)
                  case c2 => rfl
                  case c3 => unfold maxLen; omega
                  case c4 => omega
                  case c5 => first | omega | (simp; omega)
                  intro v' w8 hown1 hgrow _
                  have R := own_int (w := w1) hown hown1 hgrow hbel (Nat.le_refl _)
                  have HR1 : Hid (w8.ownsRow w1.heap.size 3 1 v' (out ++ [(q : Int)]).length ((out ++ [(q : Int)]).map Iv)) := R.1
                  have HR2 : Hid (Below w1.heap.size w1 w8) := R.2
                  clear R hown1 hgrow hown hbel
                  go_wp2_with fail
                  go_roundw
                  case rel => exact ⟨j + 1, _, by omega, by go_num, HT1, HR1, HR2⟩
                  case measure => simp only [intOf]; omega
                · rw [decide_eq_false hR]
                  have HN2 : Hid (∀ a, a < q + 1 → ¬ Gr.Rdy K out a) := fun a ha => by
                    by_cases e : a = q
                    · subst e; exact hR
                    · exact HN.out a (by omega)
                  clear HN hR HRa HRn
                  go_wp2_with fail
                  go_round
                  case rel => exact ⟨q + 1, by omega, by go_num, rfl, HN2⟩
                  case measure => simp only [intOf]; omega
          · obtain rfl : q = K.length := by omega
            have hnone := HTn.out HN.out
            have hE4 : Gr.oErr K = 4 := by rw [HE.out, hnone, if_pos rfl]
            have hO0 : Gr.order K = [] := by rw [HO.out, hnone]; rfl
            have HF : Hid (∀ x : Value, x = .slice none 0 0 → ∃ x', Ending.returned (.tuple #[x, .int .i64 4]) = .returned (.tuple #[x', .int .i64 (Gr.oErr K)]) ∧ wr.ownsRow w1.heap.size 3 1 x' (Gr.order K).length ((Gr.order K).map Iv) ∧ Below w1.heap.size w1 wr) := by
              rintro x rfl
              rw [hE4, hO0]
              exact ⟨_, rfl, World.ownsRow_nil _ _ _ _, HB.out⟩
            clear HTk HTn HN hnone hE4 hO0 hhas HS HB HE HO
            go_wp2_with fail
            go_ret2
            exact HF.out _ rfl
      · obtain rfl : j = K.length := by omega
        have hE0 : Gr.oErr K = 0 := by rw [HE.out, HT.out, if_neg (by simp)]
        have hO1 : Gr.order K = out := by rw [HO.out, HT.out]; rfl
        have HF : Hid (∀ x : Value, x = .slice sa out.length sc → ∃ x', Ending.returned (.tuple #[x, .int .i64 0]) = .returned (.tuple #[x', .int .i64 (Gr.oErr K)]) ∧ wr.ownsRow w1.heap.size 3 1 x' (Gr.order K).length ((Gr.order K).map Iv) ∧ Below w1.heap.size w1 wr) := by
          rintro x rfl
          rw [hE0, hO1]
          exact ⟨_, rfl, HS.out, HB.out⟩
        clear HE HO HT hE0 hO1 HS hol HB
        go_wp2_with fail
        go_ret2
        exact HF.out _ rfl
  · have hE : Gr.oErr K = Gr.gErr K := by unfold Gr.oErr; rw [if_pos h0]
    have hR : Gr.order K = [] := by unfold Gr.order; rw [if_pos h0]
    have hzq : (Gr.gErr K != 0) = true := by simpa using h0
    rw [hE, hR]
    generalize Gr.gErr K = z at *
    clear hE hR h0 h
    have hB := Below.refl w.heap.size w
    go_enter Try.func10, Try.ntmps10
    go_wp2_with fail
    refine hg.mono ?_
    rintro e w1 ⟨rfl, rfl⟩
    go_wp2_with fail
    go_ret2
    exact ⟨_, rfl, World.ownsRow_nil _ _ _ _, hB⟩

end Go.Proofs.Ytoibiaikbgkbpaa
