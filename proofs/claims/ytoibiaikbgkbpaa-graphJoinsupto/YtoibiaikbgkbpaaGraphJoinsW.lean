/-
  The walk of GraphJoins.
-/
import Derived.Test.YtoibiaikbgkbpaaGrCat
import Derived.Test.YtoibiaikbgkbpaaGraphLeastOf
import Derived.BigQuiet
import Derived.Deep.QuietTactic
namespace Go.Proofs.Ytoibiaikbgkbpaa
open Go.RowKit
set_option maxRecDepth 4000

theorem gr_reach_len2 {K : List (List Int)} {R : List Int} (h : Gr.rErr K R = 0) : (Gr.reach K R).length = K.length := by rw [gr_reach_ok h, Gr.rch_length]

set_option maxHeartbeats 8000000 in
theorem graphJoins_walk (v0 : Value) (l0 : List (List Int)) (v1 : Value) (l1 : List Int) (v2 : Value) (l2 : List Int) (z0 : l0.length ≤ 9223372036854775807) (f0 : ∀ i, (Gr.kd l0 i).length ≤ 9223372036854775807) (z1 : l1.length ≤ 1048576) (z2 : l2.length ≤ 1048576) (w : World) (t0 : Kz w v0 l0) (t1 : Ints w v1 l1) (t2 : Ints w v2 l2) :
    Calls Try.prog 5 #[v0, v1, v2] w fun e w' => e = .returned (.bool true) ∧ Below w.heap.size w w' := by
  have k1 := fun V (hb : Below w.heap.size w V) R u (hr : Ints V u R) (hl : R.length ≤ 9223372036854775807) => greach_any v0 u l0 R V (t0.past hb) hr z0 f0 hl
  have hch := fun V => chained_any V (gReach_ok V) (gOrder_ok V)
  have HA : Hid (Ints w v1 l1) := t1
  have HB : Hid (Ints w v2 l2) := t2
  have hcl := fun V (hb : Below w.heap.size w V) => clonei_any v1 l1 V (HA.out.past hb) (by omega)
  have HRj : Hid (Gr.rErr l0 l1 = 0 → Gr.rErr l0 l2 = 0 → Gr.rErr l0 (l1 ++ l2) = 0 → ∀ i, i < l0.length → (Gr.reach l0 (l1 ++ l2)).getD i false = ((Gr.reach l0 l1).getD i false || (Gr.reach l0 l2).getD i false)) := fun e1 e2 e3 i hi => by
    rw [gr_reach_ok e1, gr_reach_ok e2, gr_reach_ok e3]
    exact Gr.rch_joins e1 e2 e3 hi
  have HRm : Hid (Gr.rErr l0 l1 = 0 → ∀ i, i < l0.length → (Gr.reach l0 l1).getD i false = true → Gr.rErr l0 [(i : Int)] = 0 ∧ (Gr.reach l0 [(i : Int)]).length = l0.length ∧ ∀ k, k < l0.length → (Gr.reach l0 [(i : Int)]).getD k false = true → (Gr.reach l0 l1).getD k false = true) := fun e1 i hi h1 => by
    have hg : Gr.gErr l0 = 0 := by
      refine Decidable.byContradiction fun q => ?_
      unfold Gr.rErr at e1
      rw [if_pos q] at e1
      exact q e1
    have e2 := Gr.rch_one hg hi
    refine ⟨e2, gr_reach_len2 e2, fun k hk h2 => ?_⟩
    rw [gr_reach_ok e1] at h1 ⊢
    rw [gr_reach_ok e2] at h2
    exact Gr.rch_more e1 hi hk e2 h1 h2
  have HLen : Hid (∀ R, Gr.rErr l0 R = 0 → (Gr.reach l0 R).length = l0.length ∧ l0.length ≤ 200) := fun R h => ⟨gr_reach_len2 h, (Gr.rErr_ok h).1.few⟩
  obtain ⟨a0, c0, rfl⟩ := t0.slice
  clear t0 t1 t2 f0
  go_enter Try.func5, Try.ntmps5
  go_wp2_with fail
  refine (k1 w (Below.refl _ _) l1 v1 HA.out (by omega)).mono ?_
  rintro e w2 ⟨x1, rfl, o1, b1⟩
  have HX1 : Hid (Bls w2 x1 (Gr.reach l0 l1)) := Bls.of_own o1
  have HB2 : Hid (Below w.heap.size w w2) := b1
  clear o1 b1
  go_wp2_with fail
  refine (k1 w2 HB2.out l2 v2 (HB.out.past HB2.out) (by omega)).mono ?_
  rintro e w3 ⟨x2, rfl, o2, b2⟩
  have HX1' : Hid (Bls w3 x1 (Gr.reach l0 l1)) := HX1.out.past b2
  have HX2 : Hid (Bls w3 x2 (Gr.reach l0 l2)) := Bls.of_own o2
  have HB3 : Hid (Below w.heap.size w w3) := HB2.out.trans (b2.mono HB2.out.size)
  clear o2 b2 HX1 HB2
  go_wp2_with fail
  refine (hcl w3 HB3.out).mono ?_
  rintro e w4 ⟨y, rfl, o3, b3⟩
  have hB4 := HB3.out.trans (b3.mono HB3.out.size)
  obtain ⟨y2, w5, hrun, o5, g5⟩ := cat_ints (o3) (HB.out.past hB4) (by omega) b3.size
  have b5 : Below w3.heap.size w3 w5 := (b3.trans (Below.refl _ _)).grown g5 b3.size (fun k hk => (o3.lt k hk).1)
  have HB5 : Hid (Below w.heap.size w w5) := HB3.out.trans (b5.mono HB3.out.size)
  have HX1 : Hid (Bls w5 x1 (Gr.reach l0 l1)) := HX1'.out.past b5
  have HX2' : Hid (Bls w5 x2 (Gr.reach l0 l2)) := HX2.out.past b5
  have k5 := k1 w5 HB5.out (l1 ++ l2) y2 (Ints.of_own o5) (by rw [List.length_append]; omega)
  clear o3 b3 hB4 o5 g5 b5 HX1' HX2 HB3 hcl
  go_wp2_with (at_builtin; refine gr_append_run rfl (.tmp 32) (.tmp 33) 23 23 rfl rfl _ _ y2 w5 rfl rfl hrun ?_)
  clear hrun
  refine k5.mono ?_
  rintro e w6 ⟨x3, rfl, o6, b6⟩
  have HB6 : Hid (Below w.heap.size w w6) := HB5.out.trans (b6.mono HB5.out.size)
  have HX1' : Hid (Bls w6 x1 (Gr.reach l0 l1)) := HX1.out.past b6
  have HX2 : Hid (Bls w6 x2 (Gr.reach l0 l2)) := HX2'.out.past b6
  have HX3 : Hid (Bls w6 x3 (Gr.reach l0 (l1 ++ l2))) := Bls.of_own o6
  clear k5 o6 b6 HB5 HX1 HX2'
  go_wp2_with fail
  refine (hch w6).mono ?_
  rintro e w7 ⟨rfl, b7⟩
  have HB7 : Hid (Below w.heap.size w w7) := HB6.out.trans (b7.mono HB6.out.size)
  have HX1 : Hid (Bls w7 x1 (Gr.reach l0 l1)) := HX1'.out.past b7
  have HX2' : Hid (Bls w7 x2 (Gr.reach l0 l2)) := HX2.out.past b7
  have HX3' : Hid (Bls w7 x3 (Gr.reach l0 (l1 ++ l2))) := HX3.out.past b7
  clear b7 HB6 HX1' HX2 HX3
  by_cases e1 : Gr.rErr l0 l1 = 0
  · by_cases e2 : Gr.rErr l0 l2 = 0
    · by_cases e3 : Gr.rErr l0 (l1 ++ l2) = 0
      · obtain ⟨hn1, hn200⟩ := HLen.out _ e1
        obtain ⟨hn2, -⟩ := HLen.out _ e2
        obtain ⟨hn3, -⟩ := HLen.out _ e3
        have HJ : Hid (∀ i, i < l0.length → (Gr.reach l0 (l1 ++ l2)).getD i false = ((Gr.reach l0 l1).getD i false || (Gr.reach l0 l2).getD i false)) := HRj.out e1 e2 e3
        have HM := HRm.out e1
        have HM' : Hid (∀ i, i < l0.length → (Gr.reach l0 l1).getD i false = true → Gr.rErr l0 [(i : Int)] = 0 ∧ (Gr.reach l0 [(i : Int)]).length = l0.length ∧ ∀ k, k < l0.length → (Gr.reach l0 [(i : Int)]).getD k false = true → (Gr.reach l0 l1).getD k false = true) := HM
        have HK : Hid (∀ V, Below w.heap.size w V → ∀ R u, Ints V u R → R.length ≤ 9223372036854775807 → Calls Try.prog 7 #[.slice a0 l0.length c0, u] V fun e w' => ∃ x, e = .returned (.tuple #[x, .int .i64 (Gr.rErr l0 R)]) ∧ w'.ownsRow V.heap.size 4 1 x (Gr.reach l0 R).length ((Gr.reach l0 R).map Tb) ∧ Below V.heap.size V w') := fun V hb R u hr hl => k1 V hb R u hr hl
        rw [e1, e2, e3]
        clear k1 HRj HRm HLen HA HB HM e1 e2 e3 hch
        generalize Gr.reach l0 l1 = L1 at *
        generalize Gr.reach l0 l2 = L2 at *
        generalize Gr.reach l0 (l1 ++ l2) = L3 at *
        obtain ⟨q1, d1, rfl⟩ := HX1.out.slice
        obtain ⟨q2, d2, rfl⟩ := HX2'.out.slice
        obtain ⟨q3, d3, rfl⟩ := HX3'.out.slice
        have HN1 : Hid (L1.length = l0.length) := hn1
        have HN2 : Hid (L2.length = l0.length) := hn2
        have HN3 : Hid (L3.length = l0.length) := hn3
        rw [hn1] at HX1 ⊢
        rw [hn2] at HX2' ⊢
        rw [hn3] at HX3' ⊢
        clear hn1 hn2 hn3
        obtain ⟨n, hn⟩ : ∃ n, n = l0.length := ⟨_, rfl⟩
        rw [← hn] at HX1 HX2' HX3' HJ HM' HN1 HN2 HN3 HK hn200 z0 ⊢
        clear hn
        go_wp2_with fail
        go_loopw [74] (fun i wr => ∃ m : Nat, m ≤ n ∧ i = .int .i64 m ∧ Hid (Below w.heap.size w wr) ∧ Hid (Below w7.heap.size w7 wr)) (fun i _ => n - (intOf i).toNat)
        case atStart => exact ⟨0, by omega, rfl, HB7, Below.refl _ _⟩
        case round =>
          obtain ⟨m, hm, rfl, HBr, HGr⟩ := hrel
          by_cases hlt : m < n
          · have hmi : (m : Int) < (n : Int) := by omega
            have HY1 : Hid (Bls wr (.slice q1 n d1) L1) := HX1.out.past HGr.out
            obtain ⟨b1, o1, rfl, hb1, c1⟩ := bls_at HY1.out (show m < L1.length by rw [HN1.out]; exact hlt)
            obtain ⟨b2, o2, rfl, hb2, c2⟩ := bls_at (HX2'.out.past HGr.out) (show m < L2.length by rw [HN2.out]; exact hlt)
            obtain ⟨b3, o3, rfl, hb3, c3⟩ := bls_at (HX3'.out.past HGr.out) (show m < L3.length by rw [HN3.out]; exact hlt)
            have HD1 : Hid (∀ k, Below w.heap.size w (wr.drewN k)) := fun k => Go.below_drewN HBr.out k
            have HD2 : Hid (∀ k, Below w7.heap.size w7 (wr.drewN k)) := fun k => Go.below_drewN HGr.out k
            have hj := HJ.out m hlt
            cases hz : L1.getD m false with
            | false =>
              rw [hz, Bool.false_or] at hj
              rw [hj] at c3
              rw [hz] at c1
              cases hy : L2.getD m false with
              | false =>
                rw [hy] at c2 c3
                clear hj hz hy
                go_wp2_with fail
                go_quiet (fail)
                go_wp2_with fail
                go_roundw
                case rel => exact ⟨m + 1, by omega, by go_num, HD1.out _, HD2.out _⟩
                case measure => simp only [intOf]; omega
              | true =>
                rw [hy] at c2 c3
                clear hj hz hy
                go_wp2_with fail
                go_quiet (fail)
                go_wp2_with fail
                go_roundw
                case rel => exact ⟨m + 1, by omega, by go_num, HD1.out _, HD2.out _⟩
                case measure => simp only [intOf]; omega
            | true =>
              obtain ⟨m1, m2, m3⟩ := HM'.out m hlt hz
              have HMk : Hid (∀ k, k < n → (Gr.reach l0 [(m : Int)]).getD k false = true → L1.getD k false = true) := m3
              have HL4 : Hid ((Gr.reach l0 [(m : Int)]).length = n) := m2
              have hk := fun k => HK.out ((wr.drewN k).alloc (.cells #[.int .i64 m] 3)) ((HD1.out k).alloc (HD1.out k).size _) [(m : Int)] _ (Ints.laid (wr.drewN k) [(m : Int)] 1) (by simp)
              have HD3 : Hid (∀ k V, Below ((wr.drewN k).alloc (.cells #[.int .i64 m] 3)).heap.size ((wr.drewN k).alloc (.cells #[.int .i64 m] 3)) V → Below w.heap.size w V ∧ Below w7.heap.size w7 V ∧ Below wr.heap.size wr V) := fun k V hV => by
                have hx := below_past hV
                have hy : Below wr.heap.size wr V := (Go.below_drewN (Below.refl wr.heap.size wr) k).trans hx
                exact ⟨HBr.out.trans (hy.mono HBr.out.size), HGr.out.trans (hy.mono HGr.out.size), hy⟩
              rw [m1] at hk
              rw [hz, Bool.true_or] at hj
              rw [hj] at c3
              rw [hz] at c1
              clear hj hz m1 m2 m3 HM' HK HJ HX1 HX2' HX3' HBr HGr HD1 HD2
              generalize Gr.reach l0 [(m : Int)] = L4 at *
              go_wp2_with fail
              go_quiet (fail)
              go_wp2_with fail
              refine (hk _).mono ?_
              rintro e w8 ⟨x4, rfl, o4, b4⟩
              have HX4 : Hid (Bls w8 x4 L4) := Bls.of_own o4
              obtain ⟨g1, g2, g3⟩ := HD3.out _ _ b4
              have HG1 : Hid (Below w.heap.size w w8) := g1
              have HG2 : Hid (Below w7.heap.size w7 w8) := g2
              have HY2 : Hid (Bls w8 (.slice (some ⟨b1, o1, none⟩) n d1) L1) := HY1.out.past g3
              obtain ⟨q4, d4, rfl⟩ := HX4.out.slice
              rw [HL4.out] at HX4 ⊢
              clear hk HD3 o4 b4 g1 g2 g3 HY1
              go_wp2_with fail
              go_loop [109] (fun i => ∃ k : Nat, k ≤ n ∧ i = .int .i64 k) (fun i => n - (intOf i).toNat)
              case atStart => exact ⟨0, by omega, rfl⟩
              case round =>
                obtain ⟨k, hkn, rfl⟩ := hrel
                by_cases hlk : k < n
                · have hki : (k : Int) < (n : Int) := by omega
                  obtain ⟨b5, o5, rfl, hb5, c5⟩ := bls_at HX4.out (show k < L4.length by rw [HL4.out]; exact hlk)
                  obtain ⟨b6, o6, e6, hb6, c6⟩ := bls_at HY2.out (show k < L1.length by rw [HN1.out]; exact hlk)
                  obtain ⟨rfl, rfl⟩ : b1 = b6 ∧ o1 = o6 := by simpa using e6
                  have hmk := HMk.out k hlk
                  cases hx : L4.getD k false with
                  | true =>
                    rw [hmk hx] at c6
                    rw [hx] at c5
                    clear e6 hmk hx
                    go_wp2_with fail
                    go_round
                    case rel => exact ⟨k + 1, by omega, by go_num⟩
                    case measure => simp only [intOf]; omega
                  | false =>
                    rw [hx] at c5
                    clear e6 hmk hx c6
                    go_wp2_with fail
                    go_round
                    case rel => exact ⟨k + 1, by omega, by go_num⟩
                    case measure => simp only [intOf]; omega
                · obtain rfl : k = n := by omega
                  go_wp2_with fail
                  go_roundw
                  case rel => exact ⟨m + 1, by omega, by go_num, HG1, HG2⟩
                  case measure => simp only [intOf]; omega
          · obtain rfl : m = n := by omega
            have hB := HBr.out
            go_wp2_with fail
            go_ret
            exact ⟨rfl, hB⟩
      · have hzq : (Gr.rErr l0 (l1 ++ l2) != 0) = true := by simpa using e3
        rw [e1, e2]
        clear e1 e2 e3 k1 HRj HRm HLen HA HB
        go_wp2_with fail
        refine (hch w7).mono ?_
        rintro e w8 ⟨rfl, b8⟩
        have hB := HB7.out.trans (b8.mono HB7.out.size)
        go_wp2_with fail
        go_ret
        exact ⟨rfl, hB⟩
    · have hzq : (Gr.rErr l0 l2 != 0) = true := by simpa using e2
      rw [e1]
      clear e1 e2 k1 HRj HRm HLen HA HB
      go_wp2_with fail
      refine (hch w7).mono ?_
      rintro e w8 ⟨rfl, b8⟩
      have hB := HB7.out.trans (b8.mono HB7.out.size)
      go_wp2_with fail
      go_ret
      exact ⟨rfl, hB⟩
  · have hzq : (Gr.rErr l0 l1 != 0) = true := by simpa using e1
    clear e1 k1 HRj HRm HLen HA HB
    go_wp2_with fail
    refine (hch w7).mono ?_
    rintro e w8 ⟨rfl, b8⟩
    have hB := HB7.out.trans (b8.mono HB7.out.size)
    go_wp2_with fail
    go_ret
    exact ⟨rfl, hB⟩

end Go.Proofs.Ytoibiaikbgkbpaa
