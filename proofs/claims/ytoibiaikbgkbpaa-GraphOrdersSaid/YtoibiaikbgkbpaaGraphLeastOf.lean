/-
  What the law GraphLeast gives, where Reach and Order of package graph answer as they are asked to.
-/
import Derived.Test.YtoibiaikbgkbpaaGrClosed
namespace Go.Proofs.Ytoibiaikbgkbpaa
open Go.RowKit
set_option maxRecDepth 4000

theorem gr_reach_ok {K : List (List Int)} {R : List Int} (h : Gr.rErr K R = 0) : Gr.reach K R = Gr.rch K R := if_pos h
theorem gr_reach_no {K : List (List Int)} {R : List Int} (h : Gr.rErr K R ≠ 0) : Gr.reach K R = [] := if_neg h

set_option maxHeartbeats 8000000 in
theorem graphLeast_of (v u s : Value) (K : List (List Int)) (R : List Int) (S : List Bool) (w : World) (h : Kz w v K) (hr : Ints w u R) (hs : Bls w s S) (hl : K.length ≤ 9223372036854775807) (hll : ∀ i, (Gr.kd K i).length ≤ 9223372036854775807) (hRl : R.length ≤ 9223372036854775807) (hGR : GReachOk w) (hGO : GOrderOk w) :
    Calls Try.prog 4 #[v, u, s] w fun e w' => e = .returned (.bool true) ∧ Below w.heap.size w w' := by
  have hmf : ∀ (fn : Fn) (first cap : Array Value) (w : World), (Instr.makeFunc fn first cap).run Try.prog w = .ok (.func fn first cap) w := fun _ _ _ _ => rfl
  obtain ⟨W1, hW1⟩ : ∃ W1, W1 = (w.alloc (.cells #[v] 22)).alloc (.cells #[u] 23) := ⟨_, rfl⟩
  have HB1 : Hid (Below w.heap.size w W1) := by rw [hW1]; exact ((Below.refl _ w).alloc (Nat.le_refl _) _).alloc (by simp) _
  have hz1 : W1.heap.size = w.heap.size + 2 := by rw [hW1]; simp
  have hcv : W1.cell? ⟨w.heap.size, 0, none⟩ = some v := by rw [hW1, World.cell?_alloc_past _ _ _ (by simp), World.cell?_alloc_at _ _ _ _ rfl]; rfl
  have hcu : W1.cell? ⟨w.heap.size + 1, 0, none⟩ = some u := by rw [hW1, World.cell?_alloc_at _ _ _ _ (by simp)]; rfl
  have k1 := hGR W1 HB1.out v u K R (h.past HB1.out) (hr.past HB1.out) hl hll hRl
  have hch := fun V (hb : Below w.heap.size w V) => chained_any V (fun W hW => hGR W (hb.trans (hW.mono hb.size))) (fun W hW => hGO W (hb.trans (hW.mono hb.size)))
  have HCV : Hid (∀ V, Below W1.heap.size W1 V → V.cell? ⟨w.heap.size, 0, none⟩ = some v) := fun V hb => (hb.cell (p := ⟨w.heap.size, 0, none⟩) (by show w.heap.size < _; omega)).trans hcv
  have HCU : Hid (∀ V, Below W1.heap.size W1 V → V.cell? ⟨w.heap.size + 1, 0, none⟩ = some u) := fun V hb => (hb.cell (p := ⟨w.heap.size + 1, 0, none⟩) (by show w.heap.size + 1 < _; omega)).trans hcu
  have HK : Hid (Kz w v K) := h
  have HR : Hid (Ints w u R) := hr
  have HS : Hid (Bls w s S) := hs
  obtain ⟨va, vc, rfl⟩ := h.slice
  obtain ⟨ua, uc, rfl⟩ := hr.slice
  obtain ⟨sa, sc, rfl⟩ := hs.slice
  clear hGR hGO h hr hs
  by_cases hE : Gr.rErr K R = 0
  · obtain ⟨hK, hR64, hRi⟩ := Gr.rErr_ok hE
    rw [hE, gr_reach_ok hE] at k1
    have hLl := Gr.rch_length K R
    have HC : Hid (Gr.ClB K R (Gr.rch K R)) := Gr.rch_closed hE
    have HLe : Hid (∀ T : List Bool, Gr.ClB K R T → ∀ i, i < K.length → (Gr.rch K R).getD i false = true → T.getD i false = true) := fun T hT i hi e => Gr.rch_least hE hT hi e
    have hcl := fun V (hb : Below w.heap.size w V) (hb1 : Below W1.heap.size W1 V) (x : Value) (X : List Bool) (hX : Bls V x X) (hXl : X.length = K.length) => closed_any (w.heap.size + 1) w.heap.size _ _ x K R X V (HCU.out V hb1) (HCV.out V hb1) (HK.out.past hb) (HR.out.past hb) hX hK hR64 hRi hXl
    have hn200 := hK.few
    clear hE hRi hK hcv hcu hz1 hll
    generalize Gr.rch K R = L at *
    go_enter Try.func4, Try.ntmps4
    go_wp2_with fail
    rw [← hW1]
    clear hW1
    refine k1.mono ?_
    rintro e w2 ⟨x2, rfl, o2, b2⟩
    have HB2 : Hid (Below w.heap.size w w2) := HB1.out.trans (b2.mono HB1.out.size)
    have HG2 : Hid (Below W1.heap.size W1 w2) := b2
    have HX2 : Hid (Bls w2 x2 L) := Bls.of_own o2
    have k3 := hch w2 HB2.out
    clear k1 o2 b2
    go_wp2_with fail
    refine k3.mono ?_
    rintro e w3 ⟨rfl, b3⟩
    have HB3 : Hid (Below w.heap.size w w3) := HB2.out.trans (b3.mono HB2.out.size)
    have HG3 : Hid (Below W1.heap.size W1 w3) := HG2.out.trans (b3.mono HG2.out.size)
    have HX3 : Hid (Bls w3 x2 L) := HX2.out.past b3
    have hq := HX3.out.slice
    obtain ⟨xa, xc, rfl⟩ := hq
    have c1 := HCV.out w3 HG3.out
    have c2 := HCU.out w3 HG3.out
    have k4 := hcl w3 HB3.out HG3.out _ L HX3.out hLl true (by simp [HC.out])
    have k5 := hcl w3 HB3.out HG3.out _ S (HS.out.past HB3.out)
    have HS3 : Hid (Bls w3 (.slice sa S.length sc) S) := HS.out.past HB3.out
    clear k3 hch b3 HB2 HG2 HX2
    rw [hLl] at HX3 k4 ⊢
    clear hcl HCV HCU HB1 HK HR
    go_wp2_with fail
    refine k4.mono ?_
    rintro e w4 ⟨rfl, rfl⟩
    clear k4
    by_cases hSK : S.length = K.length
    · rw [hSK] at k5 HS3 ⊢
      by_cases hcS : Gr.ClB K R S
      · have k6 := k5 rfl true (by simp [hcS])
        have HLS : Hid (∀ i, i < K.length → L.getD i false = true → S.getD i false = true) := HLe.out S hcS
        clear k5 HLe hcS
        go_wp2_with fail
        refine k6.mono ?_
        rintro e w5 ⟨rfl, rfl⟩
        clear k6
        go_wp2_with fail
        go_loop [54] (fun i => ∃ m : Nat, m ≤ K.length ∧ i = .int .i64 m) (fun i => K.length - (intOf i).toNat)
        case atStart => exact ⟨0, by omega, rfl⟩
        case round =>
          obtain ⟨m, hm, rfl⟩ := hrel
          by_cases hlt : m < K.length
          · obtain ⟨b1, o1, rfl, hb1, d1⟩ := bls_at HX3.out (show m < L.length by omega)
            obtain ⟨b2, o2, rfl, hb2, d2⟩ := bls_at HS3.out (show m < S.length by omega)
            have hLm := HLS.out m hlt
            cases hz : L.getD m false with
            | true =>
              rw [hLm hz] at d2
              rw [hz] at d1
              clear hLm hz
              go_wp2_with fail
              go_round
              case rel => exact ⟨m + 1, by omega, by go_num⟩
              case measure => simp only [intOf]; omega
            | false =>
              rw [hz] at d1
              clear hLm hz
              go_wp2_with fail
              go_round
              case rel => exact ⟨m + 1, by omega, by go_num⟩
              case measure => simp only [intOf]; omega
          · obtain rfl : m = K.length := by omega
            have hB := HB3.out
            go_wp2_with fail
            go_ret
            exact ⟨rfl, hB⟩
      · have k6 := k5 rfl false (by simp [hcS])
        have hB := HB3.out
        clear k5 HLe hcS
        go_wp2_with fail
        refine k6.mono ?_
        rintro e w5 ⟨rfl, rfl⟩
        clear k6
        go_wp2_with fail
        go_ret
        exact ⟨rfl, hB⟩
    · have hne : ¬ (S.length : Int) = (K.length : Int) := by omega
      have hB := HB3.out
      clear k5 HLe hSK
      go_wp2_with fail
      go_ret
      exact ⟨rfl, hB⟩
  · rw [gr_reach_no hE] at k1
    have hzq : (Gr.rErr K R != 0) = true := by simpa using hE
    generalize Gr.rErr K R = z at *
    clear hE hcv hcu
    go_enter Try.func4, Try.ntmps4
    go_wp2_with fail
    rw [← hW1]
    clear hW1
    refine k1.mono ?_
    rintro e w2 ⟨x2, rfl, o2, b2⟩
    have HB2 : Hid (Below w.heap.size w w2) := HB1.out.trans (b2.mono HB1.out.size)
    have HX2 : Hid (Bls w2 x2 []) := Bls.of_own o2
    have k3 := hch w2 HB2.out
    clear k1 o2 b2
    go_wp2_with fail
    refine k3.mono ?_
    rintro e w3 ⟨rfl, b3⟩
    have HB3 : Hid (Below w.heap.size w w3) := HB2.out.trans (b3.mono HB2.out.size)
    have k4 := hch w3 HB3.out
    have hq := HX2.out.slice
    obtain ⟨xa, xc, rfl⟩ := hq
    clear k3 hch b3 HB2 HX2
    go_wp2_with fail
    refine k4.mono ?_
    rintro e w4 ⟨rfl, b4⟩
    have hB4 := HB3.out.trans (b4.mono HB3.out.size)
    clear k4 b4
    go_wp2_with fail
    go_ret
    exact ⟨rfl, hB4⟩

end Go.Proofs.Ytoibiaikbgkbpaa
