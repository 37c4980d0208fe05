/-
  What the closure of GraphLeast answers: has a set the roots, and with each thing its kids?
-/
import Derived.Test.YtoibiaikbgkbpaaGrChain
namespace Go.Proofs.Ytoibiaikbgkbpaa
open Go.RowKit
set_option maxRecDepth 4000

theorem bls_at {w : World} {a : Option Addr} {n c : Nat} {S : List Bool} (h : Bls w (.slice a n c) S) {j : Nat} (hj : j < S.length) : ∃ bk o, a = some ⟨bk, o, none⟩ ∧ bk < w.heap.size ∧ w.cell? ⟨bk, o + j, none⟩ = some (.bool (S.getD j false)) := by
  obtain ⟨bk, o, e1, -, e3, e4⟩ := h.get j hj
  refine ⟨bk, o, e1, e3, ?_⟩
  rw [e4, List.getD_eq_getElem?_getD, List.getElem?_eq_getElem hj]
  rfl

set_option maxHeartbeats 4000000 in
theorem closed_any (br bk : Nat) (v u s : Value) (K : List (List Int)) (R : List Int) (S : List Bool) (w : World) (hr : w.cell? ⟨br, 0, none⟩ = some u) (hk : w.cell? ⟨bk, 0, none⟩ = some v) (h : Kz w v K) (hi : Ints w u R) (hs : Bls w s S) (hK : Gr.Ok K) (hR : R.length ≤ 64) (hRi : ∀ k ∈ R, 0 ≤ k ∧ k < (K.length : Int)) (hSl : S.length = K.length) (bb : Bool) (hbb : bb = true ↔ Gr.ClB K R S) :
    Calls Try.prog 16 #[s, .pointer (some ⟨br, 0, none⟩), .pointer (some ⟨bk, 0, none⟩)] w fun e w' => e = .returned (.bool bb) ∧ w' = w := by
  obtain ⟨va, vc, rfl⟩ := h.slice
  obtain ⟨ua, uc, rfl⟩ := hi.slice
  obtain ⟨sa, sc, rfl⟩ := hs.slice
  have HH : Hid (Kz w (.slice va K.length vc) K) := h
  have HI : Hid (Ints w (.slice ua R.length uc) R) := hi
  have HS : Hid (Bls w (.slice sa S.length sc) S) := hs
  have HRi : Hid (∀ k ∈ R, 0 ≤ k ∧ k < (K.length : Int)) := hRi
  have HKi : Hid (∀ i, i < K.length → (Gr.kd K i).length ≤ 64 ∧ ∀ k ∈ Gr.kd K i, 0 ≤ k ∧ k < (K.length : Int)) := hK.kids
  have HSl : Hid (S.length = K.length) := hSl
  have hn200 := hK.few
  have HBt : Hid (Gr.ClB K R S → bb = true) := hbb.2
  have HBf : Hid (¬ Gr.ClB K R S → bb = false) := fun q => by cases bb with | true => exact absurd (hbb.1 rfl) q | false => rfl
  clear hbb
  clear h hi hs hRi hK hSl
  go_enter Try.func16, Try.ntmps16
  go_wp2_with fail
  go_loop [13] (fun i => ∃ m : Nat, m ≤ R.length ∧ i = .int .i64 m ∧ Hid (∀ j (hj : j < R.length), j < m → S.getD R[j].toNat false = true)) (fun i => R.length - (intOf i).toNat)
  case atStart => exact ⟨0, by omega, rfl, fun j _ h => absurd h (by omega)⟩
  case round =>
    obtain ⟨m, hm, rfl, HZ⟩ := hrel
    by_cases hlt : m < R.length
    · obtain ⟨b1, o1, rfl, -, hb1, c1⟩ := HI.out.get m hlt
      have hb := HRi.out _ (List.getElem_mem hlt)
      obtain ⟨k, hke⟩ : ∃ k : Nat, R[m] = (k : Int) := ⟨R[m].toNat, by omega⟩
      have hkn : k < S.length := by rw [HSl.out]; omega
      have hki : (k : Int) < (S.length : Int) := by omega
      obtain ⟨b2, o2, rfl, hb2, c2⟩ := bls_at HS.out hkn
      rw [hke] at c1
      cases hz : S.getD k false with
      | true =>
        have HN : Hid (∀ j (hj : j < R.length), j < m + 1 → S.getD R[j].toNat false = true) := fun j hj h2 => by
          by_cases e : j = m
          · subst e; rw [hke, Int.toNat_natCast]; exact hz
          · exact HZ.out j hj (by omega)
        rw [hz] at c2
        clear HZ hb hke hz
        go_wp2_with fail
        go_round
        case rel => exact ⟨m + 1, by omega, by go_num, HN⟩
        case measure => simp only [intOf]; omega
      | false =>
        have HN : Hid (bb = false) := HBf.out fun q => by
          have := q.1 _ (List.getElem_mem hlt)
          rw [hke, Int.toNat_natCast, hz] at this
          cases this
        rw [hz] at c2
        clear HZ hb hke hz
        go_wp2_with fail
        go_ret
        exact ⟨by rw [HN.out]; rfl, rfl⟩
    · obtain rfl : m = R.length := by omega
      have HA : Hid (∀ k ∈ R, S.getD k.toNat false = true) := fun k hk => by
        obtain ⟨j, hj, rfl⟩ := List.getElem_of_mem hk
        exact HZ.out j hj hj
      clear HZ
      go_wp2_with fail
      go_loop [25] (fun i => ∃ q : Nat, q ≤ K.length ∧ i = .int .i64 q ∧ Hid (∀ i, i < q → S.getD i false = true → ∀ k ∈ Gr.kd K i, S.getD k.toNat false = true)) (fun i => K.length - (intOf i).toNat)
      case atStart => exact ⟨0, by omega, rfl, fun j h => absurd h (by omega)⟩
      case round =>
        obtain ⟨q, hqn, rfl, HQ⟩ := hrel
        by_cases hlq : q < K.length
        · obtain ⟨b1, o1, ka, kc, rfl, -, hb1, c1, hki⟩ := HH.out.get q hlq
          have HIq : Hid (Ints w (.slice ka (Gr.kd K q).length kc) (Gr.kd K q)) := hki
          have HLi : Hid (∀ k ∈ Gr.kd K q, 0 ≤ k ∧ k < (K.length : Int)) := (HKi.out q hlq).2
          have hl64 := (HKi.out q hlq).1
          have HNq : Hid ((S.getD q false = true → ∀ k ∈ Gr.kd K q, S.getD k.toNat false = true) → ∀ i, i < q + 1 → S.getD i false = true → ∀ k ∈ Gr.kd K i, S.getD k.toNat false = true) := fun hq i hi => by
            by_cases e : i = q
            · subst e; exact hq
            · exact HQ.out i (by omega)
          have HFq : Hid (S.getD q false = true → (∃ k ∈ Gr.kd K q, S.getD k.toNat false = false) → ¬ Gr.ClB K R S) := fun e1 ⟨k, hk, e2⟩ hc => by
            have := hc.2 q hlq e1 k hk
            rw [e2] at this
            cases this
          clear HQ hki
          generalize Gr.kd K q = L at *
          go_wp2_with fail
          go_loop [32] (fun i => ∃ p : Nat, p ≤ L.length ∧ i = .int .i64 p ∧ Hid (S.getD q false = true → ∀ j (hj : j < L.length), j < p → S.getD L[j].toNat false = true)) (fun i => L.length - (intOf i).toNat)
          case atStart => exact ⟨0, by omega, rfl, fun _ j _ h => absurd h (by omega)⟩
          case round =>
            obtain ⟨p, hpn, rfl, HP⟩ := hrel
            by_cases hlp : p < L.length
            · obtain ⟨b3, o3, rfl, -, hb3, c3⟩ := HIq.out.get p hlp
              have hb := HLi.out _ (List.getElem_mem hlp)
              obtain ⟨k, hke⟩ : ∃ k : Nat, L[p] = (k : Int) := ⟨L[p].toNat, by omega⟩
              have hkn : k < S.length := by rw [HSl.out]; omega
              have hki : (k : Int) < (S.length : Int) := by omega
              have hqS : q < S.length := by rw [HSl.out]; exact hlq
              obtain ⟨b2, o2, rfl, hb2, c2⟩ := bls_at HS.out hkn
              obtain ⟨b2', o2', e2, -, c4⟩ := bls_at HS.out hqS
              obtain ⟨rfl, rfl⟩ : b2 = b2' ∧ o2 = o2' := by simpa using e2
              clear e2
              rw [hke] at c3
              obtain ⟨zq, hzq⟩ : ∃ z, S.getD q false = z := ⟨_, rfl⟩
              cases zq with
              | true =>
                rw [hzq] at c4
                cases hz : S.getD k false with
                | true =>
                  have HN : Hid (S.getD q false = true → ∀ j (hj : j < L.length), j < p + 1 → S.getD L[j].toNat false = true) := fun e j hj h2 => by
                    by_cases e' : j = p
                    · subst e'; rw [hke, Int.toNat_natCast]; exact hz
                    · exact HP.out e j hj (by omega)
                  rw [hz] at c2
                  clear HP hb hke hz hzq
                  go_wp2_with fail
                  go_round
                  case rel => exact ⟨p + 1, by omega, by go_num, HN⟩
                  case measure => simp only [intOf]; omega
                | false =>
                  have HN : Hid (bb = false) := HBf.out <| HFq.out hzq ⟨_, List.getElem_mem hlp, by rw [hke, Int.toNat_natCast]; exact hz⟩
                  rw [hz] at c2
                  clear HP hb hke hz hzq
                  go_wp2_with fail
                  go_ret
                  exact ⟨by rw [HN.out]; rfl, rfl⟩
              | false =>
                rw [hzq] at c4
                have HN : Hid (S.getD q false = true → ∀ j (hj : j < L.length), j < p + 1 → S.getD L[j].toNat false = true) := fun e => by rw [hzq] at e; cases e
                clear HP hb hke hzq c2
                go_wp2_with fail
                go_round
                case rel => exact ⟨p + 1, by omega, by go_num, HN⟩
                case measure => simp only [intOf]; omega
            · obtain rfl : p = L.length := by omega
              have HN := HNq.out fun e k hk => by
                obtain ⟨j, hj, rfl⟩ := List.getElem_of_mem hk
                exact HP.out e j hj hj
              have HN' : Hid (∀ i, i < q + 1 → S.getD i false = true → ∀ k ∈ Gr.kd K i, S.getD k.toNat false = true) := HN
              clear HP HN HNq HFq
              go_wp2_with fail
              go_round
              case rel => exact ⟨q + 1, by omega, by go_num, HN'⟩
              case measure => simp only [intOf]; omega
        · obtain rfl : q = K.length := by omega
          have HN : Hid (bb = true) := HBt.out ⟨HA.out, HQ.out⟩
          go_wp2_with fail
          go_ret
          exact ⟨by rw [HN.out]; rfl, rfl⟩

end Go.Proofs.Ytoibiaikbgkbpaa
