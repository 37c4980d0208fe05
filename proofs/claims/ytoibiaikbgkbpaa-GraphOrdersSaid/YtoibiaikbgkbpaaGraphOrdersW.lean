/-
  The walk of GraphOrders.
-/
import Derived.Test.YtoibiaikbgkbpaaGrMap
import Derived.Test.YtoibiaikbgkbpaaGraphLeastOf
import Derived.Test.YtoibiaikbgkbpaaGrOrder
namespace Go.Proofs.Ytoibiaikbgkbpaa
open Go.RowKit
set_option maxRecDepth 4000

theorem under_mii : Try.prog.underlying 39 = some (.map 3 3) := Try.underlying39

set_option maxHeartbeats 8000000 in
theorem graphOrders_walk (v0 : Value) (l0 : List (List Int)) (z0 : l0.length ≤ 9223372036854775807) (f0 : ∀ i, (Gr.kd l0 i).length ≤ 9223372036854775807) (w : World) (t0 : Kz w v0 l0) :
    Calls Try.prog 6 #[v0] w fun e w' => e = .returned (.bool true) ∧ Below w.heap.size w w' := by
  have k1 := fun V (hb : Below w.heap.size w V) R u (hr : Ints V u R) (hl : R.length ≤ 9223372036854775807) => greach_any v0 u l0 R V (t0.past hb) hr z0 f0 hl
  have k2 := gorder_any v0 l0 w t0 z0 f0
  have k3 := fun V (hb : Below w.heap.size w V) => gcheck_any v0 l0 V (t0.past hb) z0 f0
  have hch := fun V => chained_any V (gReach_ok V) (gOrder_ok V)
  have HZ : Hid (Kz w v0 l0) := t0
  obtain ⟨a0, c0, rfl⟩ := t0.slice
  clear t0
  by_cases hg : Gr.gErr l0 = 0
  · have hK := Gr.gErr_ok hg
    have hn200 := hK.few
    have HKi : Hid (∀ i, i < l0.length → (Gr.kd l0 i).length ≤ 64 ∧ ∀ k ∈ Gr.kd l0 i, 0 ≤ k ∧ k < (l0.length : Int)) := hK.kids
    have HE : Hid (∀ i, i < l0.length → Gr.rErr l0 (Gr.kd l0 i) = 0) := fun i hi => Gr.rErr_kd hg hi
    have HC : Hid (∀ m, m < l0.length → Gr.cyc l0 (m + 1) = (Gr.cyc l0 m || (Gr.reach l0 (Gr.kd l0 m)).getD m false)) := fun m hm => by
      show _ = _
      rw [gr_reach_ok (HE.out m hm)]
      rfl
    have HL : Hid (∀ m, m < l0.length → (Gr.reach l0 (Gr.kd l0 m)).length = l0.length) := fun m hm => by
      show _ = _
      rw [gr_reach_ok (HE.out m hm), Gr.rch_length]
    have HOr : Hid ((Gr.oErr l0 = 0 ∧ Gr.Told l0 l0.length (Gr.order l0) ∧ Gr.cyc l0 l0.length = false) ∨ (Gr.oErr l0 = 4 ∧ Gr.order l0 = [] ∧ Gr.cyc l0 l0.length = true)) := by
      rcases Gr.order_or hg with ⟨h1, h2, h3⟩ | ⟨h1, h2, i, hi, h3⟩
      · exact .inl ⟨h1, h2, Gr.cyc_no hg h3 _ (Nat.le_refl _)⟩
      · exact .inr ⟨h1, h2, Gr.cyc_yes hg hi h3 _ hi (Nat.le_refl _)⟩
    rw [hg] at k3
    clear hK hg f0
    go_enter Try.func6, Try.ntmps6
    go_wp2_with fail
    refine k2.mono ?_
    rintro e w2 ⟨x2, rfl, o2, b2⟩
    have HB2 : Hid (Below w.heap.size w w2) := b2
    have HX2 : Hid (Ints w2 x2 (Gr.order l0)) := Ints.of_own o2
    obtain ⟨q2, d2, rfl⟩ := HX2.out.slice
    clear k2 o2 b2
    go_wp2_with fail
    refine (hch w2).mono ?_
    rintro e w3 ⟨rfl, b3⟩
    have HB3 : Hid (Below w.heap.size w w3) := HB2.out.trans (b3.mono HB2.out.size)
    have HX3 : Hid (Ints w3 (.slice q2 (Gr.order l0).length d2) (Gr.order l0)) := HX2.out.past b3
    clear HB2 HX2 b3
    go_wp2_with fail
    refine (k3 w3 HB3.out).mono ?_
    rintro e w4 ⟨rfl, rfl⟩
    clear k3 hch
    go_wp2_with fail
    go_loopw [5, 37] (fun cv i wr => ∃ m : Nat, m ≤ l0.length ∧ i = .int .i64 m ∧ cv = .bool (Gr.cyc l0 m) ∧ Hid (Below w.heap.size w wr) ∧ Hid (Below w4.heap.size w4 wr)) (fun _ i _ => l0.length - (intOf i).toNat)
    case atStart => exact ⟨0, by omega, rfl, rfl, HB3, Below.refl _ _⟩
    case round =>
      obtain ⟨m, hm, rfl, rfl, HBr, HGr⟩ := hrel
      by_cases hlt : m < l0.length
      · obtain ⟨bk, o, ka, kc, rfl, -, hbk, d1, hki⟩ := (HZ.out.past HBr.out).get m hlt
        have hmi : (m : Int) < (l0.length : Int) := by omega
        have k5 := k1 wr HBr.out (Gr.kd l0 m) _ hki (by have := (HKi.out m hlt).1; omega)
        rw [HE.out m hlt] at k5
        have hcy := HC.out m hlt
        have hln := HL.out m hlt
        have HLn : Hid ((Gr.reach l0 (Gr.kd l0 m)).length = l0.length) := hln
        clear hln hki k1
        generalize Gr.reach l0 (Gr.kd l0 m) = L at *
        generalize (Gr.kd l0 m).length = ln at *
        have HQ : Hid (∀ b, Gr.cyc l0 m = false → b = L.getD m false → Gr.cyc l0 (m + 1) = b) := fun b e1 e2 => by rw [hcy, e1, Bool.false_or, e2]
        have HT : Hid (Gr.cyc l0 m = true → Gr.cyc l0 (m + 1) = true) := fun e1 => by rw [hcy, e1, Bool.true_or]
        clear hcy
        cases hz : Gr.cyc l0 m with
        | true =>
          have HN : Hid (Gr.cyc l0 (m + 1) = true) := HT.out hz
          clear HQ HT hz
          go_wp2_with fail
          refine k5.mono ?_
          rintro e w5 ⟨x5, rfl, o5, b5⟩
          have HB5 : Hid (Below w.heap.size w w5) := HBr.out.trans (b5.mono HBr.out.size)
          have HG5 : Hid (Below w4.heap.size w4 w5) := HGr.out.trans (b5.mono HGr.out.size)
          clear k5 o5 b5
          go_wp2_with fail
          go_roundw
          case rel => exact ⟨m + 1, by omega, by go_num, by rw [HN.out], HB5, HG5⟩
          case measure => simp only [intOf]; omega
        | false =>
          have HN := fun b => HQ.out b hz
          have HN' : Hid (∀ b, b = L.getD m false → Gr.cyc l0 (m + 1) = b) := HN
          clear HQ HT hz HN
          go_wp2_with fail
          refine k5.mono ?_
          rintro e w5 ⟨x5, rfl, o5, b5⟩
          have HB5 : Hid (Below w.heap.size w w5) := HBr.out.trans (b5.mono HBr.out.size)
          have HG5 : Hid (Below w4.heap.size w4 w5) := HGr.out.trans (b5.mono HGr.out.size)
          have hx5 := Bls.of_own o5
          obtain ⟨q5, d5, rfl⟩ := hx5.slice
          obtain ⟨b6, o6, rfl, hb6, c6⟩ := bls_at hx5 (show m < L.length by rw [HLn.out]; exact hlt)
          rw [HLn.out]
          obtain ⟨bb, hbb⟩ : ∃ bb, bb = L.getD m false := ⟨_, rfl⟩
          have HN2 : Hid (Gr.cyc l0 (m + 1) = bb) := HN'.out bb hbb
          rw [← hbb] at c6
          clear k5 o5 b5 hx5 hbb HN'
          cases bb with
          | true =>
            go_wp2_with fail
            go_roundw
            case rel => exact ⟨m + 1, by omega, by go_num, by rw [HN2.out], HB5, HG5⟩
            case measure => simp only [intOf]; omega
          | false =>
            go_wp2_with fail
            go_roundw
            case rel => exact ⟨m + 1, by omega, by go_num, by rw [HN2.out], HB5, HG5⟩
            case measure => simp only [intOf]; omega
      · obtain rfl : m = l0.length := by omega
        clear k1 HC HE HL HB3
        have HX6 : Hid (Ints wr (.slice q2 (Gr.order l0).length d2) (Gr.order l0)) := HX3.out.past HGr.out
        have HZ6 : Hid (Kz wr (.slice a0 l0.length c0) l0) := HZ.out.past HBr.out
        clear HX3 HGr HZ
        rcases HOr.out with ⟨e1, e2, e3⟩ | ⟨e1, e2, e3⟩
        · obtain ⟨wo, hwo⟩ : ∃ x, x = wr := ⟨_, rfl⟩
          subst hwo
          rw [e1, e3]
          have HT : Hid (Gr.Told l0 l0.length (Gr.order l0)) := e2
          have hlen := e2.len
          clear e1 e2 e3 HOr
          generalize Gr.order l0 = O at *
          have HLen : Hid (O.length = l0.length) := hlen
          rw [hlen] at HX6 ⊢
          clear hlen
          have hmk := run_makeMap (P := Try.prog) 39 wo
          obtain ⟨bm, hbm⟩ : ∃ bm, bm = wo.heap.size := ⟨_, rfl⟩
          obtain ⟨W7, hW7⟩ : ∃ W7, W7 = wo.alloc (.map #[] 0) := ⟨_, rfl⟩
          have HM7 : Hid (Mo W7 bm 0 O 0) := by rw [hW7, hbm]; exact Mo.new wo O
          have HG7 : Hid (Below bm wo W7) := by rw [hW7, hbm]; exact (Below.refl _ wo).alloc (Nat.le_refl _) _
          have HS7 : Hid (bm = wo.heap.size) := hbm
          have hmk' : (Instr.makeMap 39 none).run Try.prog wo = .ok (.map (some bm)) W7 := by rw [hW7, hbm]; exact hmk
          clear hmk hbm hW7
          go_wp2_with fail
          go_loopw [77] (fun i wq => ∃ m : Nat, m ≤ l0.length ∧ i = .int .i64 m ∧ Hid (Mo wq bm m O m) ∧ Hid (Below bm wo wq)) (fun i _ => l0.length - (intOf i).toNat)
          case atStart => exact ⟨0, by omega, rfl, HM7, HG7⟩
          case round =>
            obtain ⟨m, hm, rfl, HMr, HBm⟩ := hrel
            by_cases hlt : m < l0.length
            · have hmO : m < O.length := by rw [HLen.out]; exact hlt
              obtain ⟨bk, o, rfl, -, hbk, d1⟩ := HX6.out.get m hmO
              have d2' := (HBm.out.cell (p := ⟨bk, o + m, none⟩) (by rw [HS7.out]; exact hbk)).trans d1
              have hin := HT.out.in_ _ (List.getElem_mem hmO)
              obtain ⟨k, hk⟩ : ∃ k : Nat, O[m] = (k : Int) := ⟨O[m].toNat, by omega⟩
              obtain ⟨W8, hput, hM8, g8⟩ := HMr.out.put under_mii hmO hk (Gr.told_new HT.out hmO) (by omega) (by omega)
              have HM8 : Hid (Mo W8 bm (m + 1) O (m + 1)) := hM8
              have HB8 : Hid (Below bm wo W8) := HBm.out.grown g8 (by have := HMr.out.lt; omega) (fun k hk => by cases hk; exact Nat.le_refl _)
              rw [hk] at d2'
              clear HMr HBm d1 hin hk hM8 g8
              go_wp2_with fail
              go_roundw
              case rel => exact ⟨m + 1, by omega, by go_num, HM8, HB8⟩
              case measure => simp only [intOf]; omega
            · obtain rfl : m = l0.length := by omega
              have hob : wo.heap.size ≤ bm := by rw [HS7.out]; omega
              have HBw : Hid (Below w.heap.size w wr) := HBr.out.trans (HBm.out.mono (Nat.le_trans HBr.out.size hob))
              have HZ7 : Hid (Kz wr (.slice a0 l0.length c0) l0) := HZ6.out.past (HBm.out.mono hob)
              have HPos : Hid (∀ i, i < l0.length → ∀ k ∈ Gr.kd l0 i, 0 < Gr.pos O l0.length k ∧ Gr.pos O l0.length k < Gr.pos O l0.length (i : Int)) := fun i hi k hk => Gr.pos_kid HT.out hi hk
              have hlook := fun (k : Nat) (hk : k < 1024) => HMr.out.look under_mii (w := wr) (by kernel_rfl) hk
              have HLook : Hid (∀ k : Nat, k < 1024 → (Instr.lookup 39 (.map (some bm)) (.int .i64 (k : Int)) false).run Try.prog wr = .ok (.int .i64 (Gr.pos O l0.length k)) wr) := hlook
              have hcount := HMr.out.count under_mii 3
              clear HMr HBm HBr HZ6 HX6 HT hlook hmk' HM7 HG7 HS7 hob hlt
              go_wp2_with fail
              go_loop [89] (fun i => ∃ m : Nat, m ≤ l0.length ∧ i = .int .i64 m) (fun i => l0.length - (intOf i).toNat)
              case atStart => exact ⟨0, by omega, rfl⟩
              case round =>
                obtain ⟨m, hmn, rfl⟩ := hrel
                by_cases hlt : m < l0.length
                · obtain ⟨bk, o, ka, kc, rfl, -, hbk, d1, hki⟩ := HZ7.out.get m hlt
                  have HI : Hid (Ints wr (.slice ka (Gr.kd l0 m).length kc) (Gr.kd l0 m)) := hki
                  have HKm : Hid (∀ k ∈ Gr.kd l0 m, 0 ≤ k ∧ k < (l0.length : Int)) := (HKi.out m hlt).2
                  have hl64 := (HKi.out m hlt).1
                  have HPm : Hid (∀ k ∈ Gr.kd l0 m, 0 < Gr.pos O l0.length k ∧ Gr.pos O l0.length k < Gr.pos O l0.length (m : Int)) := HPos.out m hlt
                  have hlm := HLook.out m (by omega)
                  clear hki
                  generalize Gr.kd l0 m = L at *
                  generalize Gr.pos O l0.length (m : Int) = pm at *
                  go_wp2_with fail
                  go_loop [96] (fun i => ∃ p : Nat, p ≤ L.length ∧ i = .int .i64 p) (fun i => L.length - (intOf i).toNat)
                  case atStart => exact ⟨0, by omega, rfl⟩
                  case round =>
                    obtain ⟨p, hpn, rfl⟩ := hrel
                    by_cases hlp : p < L.length
                    · obtain ⟨bk2, o2, rfl, -, hbk2, d3⟩ := HI.out.get p hlp
                      have hin := HKm.out _ (List.getElem_mem hlp)
                      obtain ⟨h1, h2⟩ := HPm.out _ (List.getElem_mem hlp)
                      obtain ⟨k, hk⟩ : ∃ k : Nat, L[p] = (k : Int) := ⟨L[p].toNat, by omega⟩
                      rw [hk] at d3 h1 h2
                      have hlk := HLook.out k (by omega)
                      generalize Gr.pos O l0.length (k : Int) = pk at *
                      have hpk : ((0 : Nat) : Int) < (pk : Int) := by omega
                      have hpm : (pk : Int) < (pm : Int) := by omega
                      have hpk0 : ((pk : Int) == 0) = false := by rw [beq_eq_false_iff_ne]; omega
                      have hpk1 : ¬ pk = 0 := by omega
                      have hpm1 : ¬ pm ≤ pk := by omega
                      clear hin hk h1 h2
                      go_wp2_with fail
                      go_round
                      case rel => exact ⟨p + 1, by omega, by go_num⟩
                      case measure => simp only [intOf]; omega
                    · obtain rfl : p = L.length := by omega
                      go_wp2_with fail
                      go_round
                      case rel => exact ⟨m + 1, by omega, by go_num⟩
                      case measure => simp only [intOf]; omega
                · obtain rfl : m = l0.length := by omega
                  have hB := HBw.out
                  go_wp2_with fail
                  go_ret
                  exact ⟨rfl, hB⟩
        · rw [e1, e2, e3]
          have hB := HBr.out
          clear e1 e2 e3 HOr HX6 HZ6 HKi
          go_wp2_with fail
          go_ret
          exact ⟨rfl, hB⟩
  · have hE : Gr.oErr l0 ≠ 0 := by
      unfold Gr.oErr
      rw [if_pos hg]
      exact hg
    have hO := gr_order_no hE
    rw [hO] at k2
    have hzq : (Gr.gErr l0 != 0) = true := by simpa using hg
    generalize Gr.gErr l0 = z at *
    generalize Gr.oErr l0 = y at *
    clear hO hE hg k1 f0 HZ
    go_enter Try.func6, Try.ntmps6
    go_wp2_with fail
    refine k2.mono ?_
    rintro e w2 ⟨x2, rfl, o2, b2⟩
    have HB2 : Hid (Below w.heap.size w w2) := b2
    obtain ⟨q2, d2, rfl⟩ := (Ints.of_own o2).slice
    clear k2 o2 b2
    go_wp2_with fail
    refine (hch w2).mono ?_
    rintro e w3 ⟨rfl, b3⟩
    have HB3 : Hid (Below w.heap.size w w3) := HB2.out.trans (b3.mono HB2.out.size)
    clear HB2 b3
    go_wp2_with fail
    refine (k3 w3 HB3.out).mono ?_
    rintro e w4 ⟨rfl, rfl⟩
    clear k3
    go_wp2_with fail
    refine (hch w4).mono ?_
    rintro e w5 ⟨rfl, b5⟩
    have hB := HB3.out.trans (b5.mono HB3.out.size)
    clear b5 HB3
    go_wp2_with fail
    go_ret
    exact ⟨rfl, hB⟩

end Go.Proofs.Ytoibiaikbgkbpaa
