/-
  What Order of package graph answers.
-/
import Derived.Test.YtoibiaikbgkbpaaGrProg2
import Derived.WalkMore
namespace Go.Proofs.Ytoibiaikbgkbpaa
open Go.RowKit
set_option maxRecDepth 4000

def gr_len : Value → Nat
  | .slice _ n _ => n
  | _ => 0

theorem FR.step {w W W' : World} {n : Nat} {f : Nat → Bool} (h : FR w W n f) (hb : Below (w.heap.size + 1) W W') : FR w W' n f := ⟨h.bel.trans (hb.mono (by omega)), own_under h.out hb (by omega)⟩

set_option maxHeartbeats 1000000 in
theorem gorder_any (v : Value) (K : List (List Int)) (w : World) (h : Kz w v K) (hl : K.length ≤ 9223372036854775807) (hll : ∀ i, (Gr.kd K i).length ≤ 9223372036854775807) :
    Calls Try.prog 9 #[v] w fun e w' => ∃ x, e = .returned (.tuple #[x, .int .i64 (Gr.oErr K)]) ∧ w'.ownsRow w.heap.size 3 1 x (Gr.order K).length ((Gr.order K).map Iv) ∧ Below w.heap.size w w' := by
  obtain ⟨j0, hj, hy0, hy1, hy2⟩ := info_parts info_bool
  obtain ⟨i0, hi, hz0, hz1, hz2⟩ := info_parts info_int
  have hg := gcheck_any v K w h hl hll
  obtain ⟨va, vc, rfl⟩ := h.slice
  by_cases h0 : Gr.gErr K = 0
  · have hK := Gr.gErr_ok h0
    have hn := hK.few
    have HH : Hid (Kz w (.slice va K.length vc) K) := h
    have HKi : Hid (∀ i, i < K.length → (Gr.kd K i).length ≤ 64 ∧ ∀ k ∈ Gr.kd K i, 0 ≤ k ∧ k < (K.length : Int)) := hK.kids
    have HEnd : Hid (∀ j out, Gr.ordTo K j = some out → j ≤ K.length → (∀ a, a < K.length → ¬ Gr.Rdy K out a) → (j = K.length ∧ Gr.oErr K = 0 ∧ Gr.order K = out) ∨ (j < K.length ∧ Gr.oErr K = 4 ∧ Gr.order K = [])) := fun j out h1 h2 h3 => Gr.ord_end h0 h1 h2 h3
    rw [h0] at hg
    clear h h0 hK hll
    go_enter Try.func9, Try.ntmps9
    go_wp2_with fail
    go_step3
    go_wp2_with fail
    refine hg.mono ?_
    rintro e w1 ⟨rfl, rfl⟩
    clear hg
    go_wp2_with first
      | (at_make; refine wpList_make_full _ rfl (.tmp 17) (.tmp 17) 24 rfl w1.heap.size 4 j0 (.bool false) 1 Try.underlying24 hj hy0 hy1 .i64 .i64 _ _ K.length rfl rfl rfl rfl (by rw [hy2]; omega) (by unfold maxLen; omega) (Nat.le_refl _) ?_; intro w4 hown hgrow)
      | (at_make; refine wpList_make_own _ rfl (.const (.int .i64 0)) (.tmp 20) 23 rfl (w1.heap.size + 1) 3 i0 (.int .i64 0) 1 Try.underlying23 hi hz0 hz1 .i64 .i64 _ K.length rfl rfl (by omega) (by rw [hz2]; omega) (by unfold maxLen; omega) (own_there hown) ?_; intro w5 o5 g5)
    have hown1 := made_falses hown
    rw [fl_false] at hown1
    have hb4 : w1.heap.size + 1 ≤ w4.heap.size := own_there hown1
    have HF0 : Hid (FR w1 w4 K.length (fun _ => false)) := ⟨(Below.refl _ w1).grown hgrow (Nat.le_refl _) (fun k hk => by cases hk), hown1⟩
    clear hown hgrow hown1
    have HF5 : Hid (FR w1 w5 K.length (Gr.tl [])) := by
      rw [Gr.tl_nil]
      exact HF0.out.step ((Below.refl _ w4).grown g5 hb4 (fun k hk => by cases hk))
    have HO5 : Hid (w5.ownsRow (w1.heap.size + 1) 3 1 (.slice (some ⟨w4.heap.size, 0, none⟩) 0 K.length) ([] : List Int).length (([] : List Int).map Iv)) := o5
    clear HF0 g5 o5
    go_step3
    go_wp2_with fail
    go_loopw [6] (fun ov wr => ∃ (j : Nat) (out : List Int), j ≤ K.length ∧ gr_len ov = j ∧ Hid (Gr.ordTo K j = some out) ∧ Hid (wr.ownsRow (w1.heap.size + 1) 3 1 ov out.length (out.map Iv)) ∧ Hid (FR w1 wr K.length (Gr.tl out))) (fun ov _ => K.length - gr_len ov)
    case atStart => exact ⟨0, [], by omega, rfl, rfl, HO5, HF5⟩
    case round =>
      obtain ⟨j, out, hjn, hgl, HT, HS, HF⟩ := hrel
      obtain ⟨sa, sc, hsv⟩ := own_form HS.out
      subst hsv
      have HOL : Hid (out.length = j) := (Gr.ordTo_told j out HT.out).len
      have hol2 : out.length ≤ 200 := by have := HOL.out; omega
      clear HF5 HO5 hgl
      go_wp2_with fail
      go_step3
      go_wp2_with fail
      go_step3
      go_wp2_with fail
      go_loop [6, 24] (fun ov i => ∃ q : Nat, q ≤ K.length ∧ i = .int .i64 q ∧ ov = .slice sa out.length sc ∧ Hid (∀ a, a < q → ¬ Gr.Rdy K out a)) (fun _ i => K.length - (intOf i).toNat)
      case atStart => exact ⟨0, by omega, rfl, rfl, fun a h => absurd h (by omega)⟩
      case round =>
        obtain ⟨q, hqn, rfl, rfl, HN⟩ := hrel
        by_cases hlq : q < K.length
        · obtain ⟨bk, o, ka, kc, rfl, -, hbk, c0, hki⟩ := HH.out.get q hlq
          have c1 := (HF.out.bel.cell (p := ⟨bk, o + q, none⟩) hbk).trans c0
          have hl64 := (HKi.out q hlq).1
          have HIq : Hid (Ints w1 (.slice ka (Gr.kd K q).length kc) (Gr.kd K q)) := hki
          have HLi : Hid (∀ k ∈ Gr.kd K q, 0 ≤ k ∧ k < (K.length : Int)) := (HKi.out q hlq).2
          have hqi : (q : Int) < (K.length : Int) := by omega
          have x1 := HF.out.at_ hlq
          have x2 := HF.out.fz q
          have HNo : Hid (¬ Gr.Rdy K out q → ∀ a, a < q + 1 → ¬ Gr.Rdy K out a) := fun hR a ha => by
            by_cases e : a = q
            · subst e; exact hR
            · exact HN.out a (by omega)
          have HRd : Hid (Gr.Rdy K out q = ((q : Int) ∉ out ∧ ∀ x ∈ Gr.kd K q, x ∈ out)) := rfl
          clear c0 hki
          cases hz : Gr.tl out q with
          | true =>
            have HN2 : Hid (∀ a, a < q + 1 → ¬ Gr.Rdy K out a) := HNo.out fun hR => hR.1 (of_decide_eq_true hz)
            rw [hz] at x1
            clear HN HNo HRd hz HIq HLi
            generalize Gr.kd K q = L at *
            go_wp2_with fail
            go_round
            case rel => exact ⟨q + 1, by omega, by go_num, rfl, HN2⟩
            case measure => simp only [intOf]; omega
          | false =>
            have hq0 : (q : Int) ∉ out := of_decide_eq_false hz
            rw [hz] at x1
            clear hz
            have HY : Hid ((∀ x ∈ Gr.kd K q, x ∈ out) → j < K.length ∧ Gr.ordTo K (j + 1) = some (out ++ [(q : Int)])) := fun hk => ⟨Gr.rdy_lt HT.out hjn hlq hq0, Gr.ord_next HT.out hlq ⟨hq0, hk⟩ HN.out⟩
            have HW : Hid (∀ x ∈ Gr.kd K q, x ∉ out → ∀ a, a < q + 1 → ¬ Gr.Rdy K out a) := fun x hx hxo => HNo.out fun hR => hxo (hR.2 x hx)
            clear HN HNo HRd hq0
            generalize Gr.kd K q = L at *
            go_wp2_with fail
            go_loop [35] (fun i => ∃ m : Nat, m ≤ L.length ∧ i = .int .i64 m ∧ Hid (∀ p (hp : p < L.length), p < m → L[p] ∈ out)) (fun i => L.length - (intOf i).toNat)
            case atStart => exact ⟨0, by omega, rfl, fun p _ h => absurd h (by omega)⟩
            case round =>
              obtain ⟨m, hm, rfl, HM⟩ := hrel
              by_cases hlm : m < L.length
              · obtain ⟨bk', o', rfl, -, hbk', d0⟩ := HIq.out.get m hlm
                have d1 := (HF.out.bel.cell (p := ⟨bk', o' + m, none⟩) hbk').trans d0
                have hb := HLi.out _ (List.getElem_mem hlm)
                obtain ⟨k, hk⟩ : ∃ k : Nat, L[m] = (k : Int) := ⟨L[m].toNat, by omega⟩
                have hkn : k < K.length := by omega
                have hki : (k : Int) < (K.length : Int) := by omega
                have y1 := HF.out.at_ hkn
                cases hz : Gr.tl out k with
                | true =>
                  have HM2 : Hid (∀ p (hp : p < L.length), p < m + 1 → L[p] ∈ out) := fun p hp h2 => by
                    by_cases e : p = m
                    · subst e; rw [hk]; exact of_decide_eq_true hz
                    · exact HM.out p hp (by omega)
                  rw [hz] at y1
                  rw [hk] at d1
                  clear HM hz hk hb d0
                  go_wp2_with fail
                  go_round
                  case rel => exact ⟨m + 1, by omega, by go_num, HM2⟩
                  case measure => simp only [intOf]; omega
                | false =>
                  have HN2 : Hid (∀ a, a < q + 1 → ¬ Gr.Rdy K out a) := HW.out _ (List.getElem_mem hlm) (by rw [hk]; exact of_decide_eq_false hz)
                  rw [hz] at y1
                  rw [hk] at d1
                  clear HM hz hk hb d0 HY HW
                  go_wp2_with fail
                  go_round
                  case rel => exact ⟨q + 1, by omega, by go_num, rfl, HN2⟩
                  case measure => simp only [intOf]; omega
              · obtain rfl : m = L.length := by omega
                have hall : ∀ x ∈ L, x ∈ out := fun x hx => by
                  obtain ⟨p, hp, rfl⟩ := List.getElem_of_mem hx
                  exact HM.out p hp hp
                obtain ⟨hjl, hnx⟩ := HY.out hall
                have HT1 : Hid (Gr.ordTo K (j + 1) = some (out ++ [(q : Int)])) := hnx
                have hF1 : FR w1 (wr.setCell ⟨w1.heap.size, q, none⟩ (.bool true)) K.length (Gr.tl (out ++ [(q : Int)])) := HF.out.set q true fun i _ => Gr.tl_next out q i
                have HF1 : Hid (FR w1 (wr.setCell ⟨w1.heap.size, q, none⟩ (.bool true)) K.length (Gr.tl (out ++ [(q : Int)]))) := hF1
                have hown : (wr.setCell ⟨w1.heap.size, q, none⟩ (.bool true)).ownsRow (w1.heap.size + 1) 3 1 (.slice sa out.length sc) out.length (out.map Iv) := own_aside HS.out (by show w1.heap.size < _; omega) _
                have hsz : w1.heap.size + 1 ≤ (wr.setCell ⟨w1.heap.size, q, none⟩ (.bool true)).heap.size := by
                  have := own_there hF1.out
                  omega
                clear HY HW hall hnx HM hF1 HS HF
                go_wp2_with (at_builtin; refine wpList_append_own _ rfl _ _ 23 rfl (w1.heap.size + 1) 3 i0 (.int .i64 0) 1 8 Try.underlying23 hi hz0 hz1 hz2 rfl (by decide) _ _ _ rfl (hown.alloc _) ⟨_, 0, none⟩ 1 1 [.int .i64 q] rfl rfl ?c1 ?c2 ?c3 ?c4 ?c5 ?_)
                case c2 => rfl
                case c3 => unfold maxLen; omega
                case c4 => omega
                case c5 =>
                  rw [World.size_setCell] at hsz
                  first | exact hsz | omega
                intro v' w8 hown1 hgrow _
                have R := own_int (w := (wr.setCell ⟨w1.heap.size, q, none⟩ (.bool true))) hown hown1 hgrow (Below.refl _ _) hsz
                have HR1 : Hid (w8.ownsRow (w1.heap.size + 1) 3 1 v' (out ++ [(q : Int)]).length ((out ++ [(q : Int)]).map Iv)) := R.1
                have HR2 : Hid (FR w1 w8 K.length (Gr.tl (out ++ [(q : Int)]))) := HF1.out.step R.2
                have hln : gr_len v' = j + 1 := by
                  obtain ⟨a', c', e'⟩ := own_form R.1
                  rw [e']
                  show (out ++ [(q : Int)]).length = j + 1
                  rw [List.length_append, HOL.out]
                  rfl
                clear R hown1 hgrow hown HF1
                go_wp2_with fail
                go_roundw
                case rel => repeat' first | exact ⟨⟨j + 1, _, by omega, hln, HT1, HR1, HR2⟩, rfl⟩ | apply Exists.intro
                case measure =>
                  show K.length - gr_len v' < K.length - out.length
                  have := HOL.out
                  omega
        · obtain rfl : q = K.length := by omega
          have hE := HEnd.out j out HT.out hjn HN.out
          have HF : Hid (Below w1.heap.size w1 wr) := HF.out.bel
          clear HN HEnd HT
          rcases hE with ⟨e1, e2, e3⟩ | ⟨e1, e2, e3⟩
          · have hlt : ¬ (out.length : Int) < (K.length : Int) := by have := HOL.out; omega
            clear e1
            have HQ : Hid (∀ x : Value, x = .slice sa out.length sc → ∃ x', Ending.returned (.tuple #[x, .int .i64 0]) = .returned (.tuple #[x', .int .i64 (Gr.oErr K)]) ∧ wr.ownsRow w1.heap.size 3 1 x' (Gr.order K).length ((Gr.order K).map Iv) ∧ Below w1.heap.size w1 wr) := by
              rintro x rfl
              rw [e2, e3]
              exact ⟨_, rfl, own_lower HS.out (by omega), HF.out⟩
            clear HS e2 e3
            go_wp2_with fail
            try rw [Exit.noGoto_ret]
            go_ret2
            exact HQ.out _ rfl
          · have hlt : (out.length : Int) < (K.length : Int) := by have := HOL.out; omega
            clear e1
            have HQ : Hid (∀ x : Value, x = .slice none 0 0 → ∃ x', Ending.returned (.tuple #[x, .int .i64 4]) = .returned (.tuple #[x', .int .i64 (Gr.oErr K)]) ∧ wr.ownsRow w1.heap.size 3 1 x' (Gr.order K).length ((Gr.order K).map Iv) ∧ Below w1.heap.size w1 wr) := by
              rintro x rfl
              rw [e2, e3]
              exact ⟨_, rfl, World.ownsRow_nil _ _ _ _, HF.out⟩
            clear HS e2 e3
            go_wp2_with fail
            try rw [Exit.noGoto_ret]
            go_ret2
            exact HQ.out _ rfl
  · have hE : Gr.oErr K = Gr.gErr K := by unfold Gr.oErr; rw [if_pos h0]
    have hR : Gr.order K = [] := by unfold Gr.order; rw [if_pos h0]
    have hzq : (Gr.gErr K != 0) = true := by simpa using h0
    rw [hE, hR]
    generalize Gr.gErr K = z at *
    clear hE hR h0 h
    have hB := Below.refl w.heap.size w
    go_enter Try.func9, Try.ntmps9
    go_wp2_with fail
    go_step3
    go_wp2_with fail
    refine hg.mono ?_
    rintro e w1 ⟨rfl, rfl⟩
    go_wp2_with fail
    try rw [Exit.noGoto_ret]
    go_ret2
    exact ⟨_, rfl, World.ownsRow_nil _ _ _ _, hB⟩

theorem gOrder_ok (w : World) : GOrderOk w := fun W _ v K h hl hll => gorder_any v K W h hl hll

end Go.Proofs.Ytoibiaikbgkbpaa
