/-
  What placeErr and Index of the document's answer (package lumref) answer.
-/
import Derived.Test.YtllioidjelgafaaPlChk
import Derived.Deep.Cut
namespace Go.Proofs.Ytllioidjelgafaa
open Go.RowKit
set_option maxRecDepth 4000

theorem ixrkind_any (k : Int) (w : World) :
    Calls Try.prog 44 #[.int .i64 k] w fun e w' => e = .returned (.bool (kB' k)) ∧ w' = w := by
  by_cases h1 : k = 1
  · subst h1
    go_enter Try.func44, Try.ntmps44
    go_wp2_with fail
    go_ret
    exact ⟨rfl, rfl⟩
  by_cases h2 : k = 2
  · subst h2
    go_enter Try.func44, Try.ntmps44
    go_wp2_with fail
    go_ret
    exact ⟨rfl, rfl⟩
  by_cases h3 : k = 3
  · subst h3
    go_enter Try.func44, Try.ntmps44
    go_wp2_with fail
    go_ret
    exact ⟨rfl, rfl⟩
  have HE : Hid (kB' k = false) := decide_eq_false fun h => by omega
  have e1 : (k == 1) = false := beq_eq_false_iff_ne.2 h1
  have e2 : (k == 2) = false := beq_eq_false_iff_ne.2 h2
  have e3 : (k == 3) = false := beq_eq_false_iff_ne.2 h3
  go_enter Try.func44, Try.ntmps44
  go_wp2_with fail
  go_ret
  exact ⟨by rw [HE.out]; rfl, rfl⟩

theorem min3 {P : Program} (x y z : Int) : ∃ m : Int, (∀ (ts : Array TypeId) (t : TypeId) (w : World), (Builtin.min_ ts t #[.int .i64 x, .int .i64 y, .int .i64 z]).run P w = .ok (.int .i64 m) w) ∧ (m < 0 ↔ x < 0 ∨ y < 0 ∨ z < 0) := by
  by_cases h1 : y < x
  · by_cases h2 : z < y
    · exact ⟨z, fun ts t w => by simp [Builtin.min_, Builtin.min2, h1, h2], by omega⟩
    · exact ⟨y, fun ts t w => by simp [Builtin.min_, Builtin.min2, h1, h2], by omega⟩
  · by_cases h2 : z < x
    · exact ⟨z, fun ts t w => by simp [Builtin.min_, Builtin.min2, h1, h2], by omega⟩
    · exact ⟨x, fun ts t w => by simp [Builtin.min_, Builtin.min2, h1, h2], by omega⟩
theorem max3 {P : Program} (x y z N : Int) : ∃ m : Int, (∀ (ts : Array TypeId) (t : TypeId) (w : World), (Builtin.max_ ts t #[.int .i64 x, .int .i64 y, .int .i64 z]).run P w = .ok (.int .i64 m) w) ∧ (N < m ↔ N < x ∨ N < y ∨ N < z) := by
  by_cases h1 : x < y
  · by_cases h2 : y < z
    · exact ⟨z, fun ts t w => by simp [Builtin.max_, Builtin.max2, h1, h2], by omega⟩
    · exact ⟨y, fun ts t w => by simp [Builtin.max_, Builtin.max2, h1, h2], by omega⟩
  · by_cases h2 : x < z
    · exact ⟨z, fun ts t w => by simp [Builtin.max_, Builtin.max2, h1, h2], by omega⟩
    · exact ⟨x, fun ts t w => by simp [Builtin.max_, Builtin.max2, h1, h2], by omega⟩

set_option maxHeartbeats 1000000 in
theorem rplace_of (x0 x1 x2 x3 x4 x5 x6 x7 : Value) (kd pk a l er : Int) (w : World)
    (he : er = if ¬ (kd = 1 ∨ kd = 2 ∨ kd = 3) then 5 else if pk < 0 ∨ 1099511627776 < pk ∨ a < 0 ∨ 1099511627776 < a ∨ l < 0 ∨ 1099511627776 < l then 1 else 0) :
    Calls Try.prog 28 #[.agg #[x0, x1, x2, x3, x4, x5, x6, x7, .int .i64 kd, .int .i64 pk, .int .i64 a, .int .i64 l]] w fun e w' => e = .returned (.int .i64 er) ∧ Below w.heap.size w w' := by
  have c0 := fun n W => ixrkind_any n W
  have hb : Hid (∀ o, Below w.heap.size w (w.alloc o)) := fun o => (Below.refl _ w).alloc (Nat.le_refl _) o
  obtain ⟨mn, hmn, hm1⟩ := min3 (P := Try.prog) pk a l
  obtain ⟨mx, hmx, hm2⟩ := max3 (P := Try.prog) pk a l 1099511627776
  cases hk : kB' kd with
  | false =>
    have hk' : ¬ (kd = 1 ∨ kd = 2 ∨ kd = 3) := of_decide_eq_false hk
    rw [if_pos hk'] at he
    subst he
    clear hk' hm1 hm2
    go_enter Try.func28, Try.ntmps28
    go_wp2_with (go_at_call 44; refine (c0 _ _).mono ?_; rintro e u ⟨rfl, rfl⟩)
    go_ret
    exact ⟨rfl, hb.out _⟩
  | true =>
    have hk' : (kd = 1 ∨ kd = 2 ∨ kd = 3) := of_decide_eq_true hk
    rw [if_neg (fun h => h hk')] at he
    clear hk'
    by_cases h1 : mn < 0
    · have hd1 : decide (mn < (0 : Int)) = true := decide_eq_true h1
      rw [if_pos (by omega)] at he
      subst he
      clear h1 hm1 hm2 hmx
      go_enter Try.func28, Try.ntmps28
      go_wp2_with (go_at_call 44; refine (c0 _ _).mono ?_; rintro e u ⟨rfl, rfl⟩)
      go_ret
      exact ⟨rfl, hb.out _⟩
    · have hd1 : decide (mn < (0 : Int)) = false := decide_eq_false h1
      by_cases h2 : 1099511627776 < mx
      · have hd2 : decide ((1099511627776 : Int) < mx) = true := decide_eq_true h2
        rw [if_pos (by omega)] at he
        subst he
        clear h1 h2 hm1 hm2
        go_enter Try.func28, Try.ntmps28
        go_wp2_with (go_at_call 44; refine (c0 _ _).mono ?_; rintro e u ⟨rfl, rfl⟩)
        go_ret
        exact ⟨rfl, hb.out _⟩
      · have hd2 : decide ((1099511627776 : Int) < mx) = false := decide_eq_false h2
        rw [if_neg (by omega)] at he
        subst he
        clear h1 h2 hm1 hm2
        go_enter Try.func28, Try.ntmps28
        go_wp2_with (go_at_call 44; refine (c0 _ _).mono ?_; rintro e u ⟨rfl, rfl⟩)
        go_ret
        exact ⟨rfl, hb.out _⟩

theorem rplace_any (t : Plc) (w : World) :
    Calls Try.prog 28 #[plV t] w fun e w' => e = .returned (.int .i64 (Ix.plErr t.p)) ∧ Below w.heap.size w w' := by
  obtain ⟨x, hx, k, p, a, l⟩ := t
  obtain ⟨b0, b1, b2, b3, b4, b5, b6, b7, rfl⟩ := oct x hx
  exact rplace_of _ _ _ _ _ _ _ _ k p a l _ w rfl
theorem str8_at (W : World) (G o c : Nat) (b0 b1 b2 b3 b4 b5 b6 b7 : UInt8) (h : ∀ j, j < 8 → W.cell? ⟨G, o + j, none⟩ = some (B ([b0, b1, b2, b3, b4, b5, b6, b7].getD j 0))) :
    (convert 56 9 (.slice (some ⟨G, o, none⟩) 8 c)).run Try.prog W = .ok (.string ⟨#[b0, b1, b2, b3, b4, b5, b6, b7]⟩) W := by
  refine run_convert_bytes_back W 56 9 5 ⟨G, o, none⟩ c [b0, b1, b2, b3, b4, b5, b6, b7] (by kernel_rfl) (by kernel_rfl) (by kernel_rfl) ?_
  intro j hj
  rw [show ((⟨G, o, none⟩ : Addr).add j) = ⟨G, o + j, none⟩ from by unfold Addr.add; split <;> simp_all, h j hj, List.getD_eq_getElem?_getD, List.getElem?_eq_getElem hj]
  rfl
theorem At12.str {W : World} {bk o c : Nat} {b0 b1 b2 b3 b4 b5 b6 b7 : UInt8} {k p a l : Int} (h : At12 W bk o b0 b1 b2 b3 b4 b5 b6 b7 k p a l) : (convert 56 9 (.slice (some ⟨bk, o, none⟩) 8 c)).run Try.prog W = .ok (.string ⟨#[b0, b1, b2, b3, b4, b5, b6, b7]⟩) W :=
  str8_at W bk o c b0 b1 b2 b3 b4 b5 b6 b7 fun j hj => by
    match j, hj with
    | 0, _ => exact h.c0
    | 1, _ => exact h.c1
    | 2, _ => exact h.c2
    | 3, _ => exact h.c3
    | 4, _ => exact h.c4
    | 5, _ => exact h.c5
    | 6, _ => exact h.c6
    | 7, _ => exact h.c7

set_option maxHeartbeats 4000000 in
theorem rcheck_any (v : Value) (l : List Plc) (w : World) (h : Px w v l) (hl : l.length ≤ 140737488351232) :
    Calls Try.prog 9 #[v] w fun e w' => e = .returned (.int .i64 (Ix.check (ps l))) ∧ Below w.heap.size w w' := by
  obtain ⟨a, c, rfl, hc1, hc2⟩ := h.slice
  by_cases h4 : 400 < l.length
  · have HE : Hid (Ix.check (ps l) = 2) := by show _ = _; unfold Ix.check; rw [if_pos (by rw [List.length_map]; exact h4)]
    clear h
    go_enter Try.func9, Try.ntmps9
    go_wp2_with fail
    go_ret
    exact ⟨by rw [HE.out]; rfl, Below.refl _ _⟩
  have h4' : l.length ≤ 400 := by omega
  obtain ⟨E, hE⟩ : ∃ E, Ix.check (ps l) = E := ⟨_, rfl⟩
  have HE0 : Hid (ckAt l 0 = E) := by
    show _ = _
    rw [← hE]; unfold Ix.check; rw [if_neg (by rw [List.length_map]; exact h4)]; rfl
  rw [hE]
  have HH : Hid (Px w (.slice a l.length c) l) := h
  have hck := fun t W => rplace_any t W
  clear h hE h4
  go_enter Try.func9, Try.ntmps9
  go_wp2_with fail
  go_loopw [11] (fun i wr => ∃ k : Nat, k ≤ l.length ∧ i = .int .i64 k ∧ Hid (ckAt l k = E) ∧ Hid (Below w.heap.size w wr)) (fun i _ => l.length - (intOf i).toNat)
  case atStart => exact ⟨0, by omega, rfl, HE0, Below.refl _ _⟩
  case round =>
    obtain ⟨k, hk, rfl, he, hbel⟩ := hrel
    clear HE0
    by_cases hlt : k < l.length
    · obtain ⟨t, ht⟩ : ∃ t, l[k]? = some t := ⟨_, List.getElem?_eq_getElem hlt⟩
      obtain ⟨b0, b1, b2, b3, b4, b5, b6, b7, k1, p1, a1, l1, ht12⟩ := t.as12
      rw [ht12] at ht
      have HT : Hid (l[k]? = some ⟨[b0, b1, b2, b3, b4, b5, b6, b7], rfl, k1, p1, a1, l1⟩) := ht
      obtain ⟨bk, o, hao, hbk, hat⟩ := (HH.out.below hbel.out).twelve k ht
      subst hao
      have hck1 : ∀ W, Calls Try.prog 28 #[.agg (pl12 b0 b1 b2 b3 b4 b5 b6 b7 k1 p1 a1 l1)] W fun e w' => e = .returned (.int .i64 (Ix.plErr (Plc.p ⟨[b0, b1, b2, b3, b4, b5, b6, b7], rfl, k1, p1, a1, l1⟩))) ∧ Below W.heap.size W w' := fun W => hck _ W
      obtain ⟨er, her⟩ : ∃ er, Ix.plErr (Plc.p ⟨[b0, b1, b2, b3, b4, b5, b6, b7], rfl, k1, p1, a1, l1⟩) = er := ⟨_, rfl⟩
      have HER : Hid (Ix.plErr (Plc.p ⟨[b0, b1, b2, b3, b4, b5, b6, b7], rfl, k1, p1, a1, l1⟩) = er) := her
      rw [her] at hck1
      clear her ht ht12 hck
      have x0 : wr.cell? ⟨bk, o + k * 12, none⟩ = some (.int .u8 (b0.toNat : Int)) := hat.c0
      have x1 : wr.cell? ⟨bk, o + k * 12 + 1, none⟩ = some (.int .u8 (b1.toNat : Int)) := hat.c1
      have x2 : wr.cell? ⟨bk, o + k * 12 + 2, none⟩ = some (.int .u8 (b2.toNat : Int)) := hat.c2
      have x3 : wr.cell? ⟨bk, o + k * 12 + 3, none⟩ = some (.int .u8 (b3.toNat : Int)) := hat.c3
      have x4 : wr.cell? ⟨bk, o + k * 12 + 4, none⟩ = some (.int .u8 (b4.toNat : Int)) := hat.c4
      have x5 : wr.cell? ⟨bk, o + k * 12 + 5, none⟩ = some (.int .u8 (b5.toNat : Int)) := hat.c5
      have x6 : wr.cell? ⟨bk, o + k * 12 + 6, none⟩ = some (.int .u8 (b6.toNat : Int)) := hat.c6
      have x7 : wr.cell? ⟨bk, o + k * 12 + 7, none⟩ = some (.int .u8 (b7.toNat : Int)) := hat.c7
      have x8 : wr.cell? ⟨bk, o + k * 12 + 8, none⟩ = some (.int .i64 k1) := hat.c8
      have x9 : wr.cell? ⟨bk, o + k * 12 + 9, none⟩ = some (.int .i64 p1) := hat.c9
      have x10 : wr.cell? ⟨bk, o + k * 12 + 10, none⟩ = some (.int .i64 a1) := hat.c10
      have x11 : wr.cell? ⟨bk, o + k * 12 + 11, none⟩ = some (.int .i64 l1) := hat.c11
      clear hat
      have HN : Hid (At12 (wr.alloc (.cells (pl12 b0 b1 b2 b3 b4 b5 b6 b7 k1 p1 a1 l1) 28)) wr.heap.size 0 b0 b1 b2 b3 b4 b5 b6 b7 k1 p1 a1 l1) := At12.new _ _ _ _ _ _ _ _ _ _ _ _ _ _
      have HB1 : Hid (Below w.heap.size w (wr.alloc (.cells (pl12 b0 b1 b2 b3 b4 b5 b6 b7 k1 p1 a1 l1) 28))) := hbel.out.alloc hbel.out.size _
      have HS : Hid ((wr.alloc (.cells (pl12 b0 b1 b2 b3 b4 b5 b6 b7 k1 p1 a1 l1) 28)).heap.size = wr.heap.size + 1) := by show (wr.heap.push _).size = _; simp
      by_cases hE : er = 0
      · subst hE
        by_cases hk0 : 0 < k
        · obtain ⟨m, hkm⟩ : ∃ m, k = m + 1 := ⟨k - 1, by omega⟩
          have HKM : Hid (k = m + 1) := hkm
          obtain ⟨s, hs⟩ : ∃ s, l[m]? = some s := ⟨_, List.getElem?_eq_getElem (by omega)⟩
          obtain ⟨d0, d1, d2, d3, d4, d5, d6, d7, k0, p0, a0, l0, hs12⟩ := s.as12
          rw [hs12] at hs
          have HSS : Hid (l[m]? = some ⟨[d0, d1, d2, d3, d4, d5, d6, d7], rfl, k0, p0, a0, l0⟩) := hs
          obtain ⟨bk', o', hao, hbk', hat⟩ := (HH.out.below hbel.out).twelve m hs
          rw [Option.some.injEq, Addr.mk.injEq] at hao
          obtain ⟨rfl, rfl, _⟩ := hao
          have HAT : Hid (At12 wr bk (o + m * 12) d0 d1 d2 d3 d4 d5 d6 d7 k0 p0 a0 l0) := hat
          have hm1 : (k : Int) - 1 = (m : Int) := by omega
          have hml : m < l.length := by omega
          obtain ⟨cc, hcc⟩ : ∃ cc, cId [d0, d1, d2, d3, d4, d5, d6, d7] [b0, b1, b2, b3, b4, b5, b6, b7] = cc := ⟨_, rfl⟩
          have HCC : Hid (cId [d0, d1, d2, d3, d4, d5, d6, d7] [b0, b1, b2, b3, b4, b5, b6, b7] = cc) := hcc
          have hk1 : decide (0 < k) = true := decide_eq_true (by omega)
          clear hcc hs hs12 hat hkm hk0
          go_wp2_with (go_at_call 28; refine (hck1 _).mono ?_; rintro e w2 ⟨rfl, hb2⟩)
          have HB2 : Hid (Below w.heap.size w w2) := HB1.out.trans (hb2.mono (by rw [HS.out]; have := hbel.out.size; omega))
          have HA2 := (HAT.out.below ((Below.refl wr.heap.size wr).alloc (Nat.le_refl _) (.cells (pl12 b0 b1 b2 b3 b4 b5 b6 b7 k1 p1 a1 l1) 28)) hbk).below hb2 (by rw [HS.out]; omega)
          have HN2 := HN.out.below hb2 (by rw [HS.out]; omega)
          have hz2 : wr.heap.size + 1 ≤ w2.heap.size := by rw [← HS.out]; exact hb2.size
          have hbk2 : bk < w2.heap.size := by omega
          have hbr2 : wr.heap.size < w2.heap.size := by omega
          clear hb2 hck1 HN HB1 HS HAT x0 x1 x2 x3 x4 x5 x6 x7 x8 x9 x10 x11
          have sy : ∀ X : Since w2.heap.size w2, (convert 56 9 (.slice (some ⟨bk, o + m * 12, none⟩) 8 8)).run Try.prog X.val = .ok (.string ⟨#[d0, d1, d2, d3, d4, d5, d6, d7]⟩) X.val := fun X => (HA2.below X.property hbk2).str
          have sz : ∀ X : Since w2.heap.size w2, (convert 56 9 (.slice (some ⟨wr.heap.size, 0, none⟩) 8 8)).run Try.prog X.val = .ok (.string ⟨#[b0, b1, b2, b3, b4, b5, b6, b7]⟩) X.val := fun X => (HN2.below X.property hbr2).str
          have hls : Op.bytesLess [d0, d1, d2, d3, d4, d5, d6, d7] [b0, b1, b2, b3, b4, b5, b6, b7] = decide (cc < 0) := by
            rw [less_val [d0, d1, d2, d3, d4, d5, d6, d7] [b0, b1, b2, b3, b4, b5, b6, b7] rfl, ← HCC.out]
            exact decide_eq_decide.2 cId_neg.symm
          clear HA2 HN2 hbk2 hbr2 hz2 hbk
          by_cases hneg : cc < 0
          · have HE2 : Hid (ckAt l (k + 1) = E) := by
              show _ = _
              rw [HKM.out, ← ckAt_form HSS.out (by rw [← HKM.out]; exact HT.out) HER.out (by rw [HCC.out]; exact hneg), ← HKM.out]
              exact he.out
            have hng : decide (cc < 0) = true := decide_eq_true hneg
            rw [hng] at hls
            clear HER he hneg HCC
            have hne : Nonempty (Since w2.heap.size w2) := ⟨⟨w2, Below.refl _ _⟩⟩
            refine wp_region_since (B := w2.heap.size) (W0 := w2) (by kernel_rfl) (by kernel_rfl) (Below.refl _ _) ?_
            repeat (go_big_quiet_step (fail))
            refine wpQuiet_nil ?_
            rintro w7 ⟨U, rfl⟩
            have HB3 : Hid (Below w.heap.size w U.val) := HB2.out.trans (U.property.mono HB2.out.size)
            generalize U.val = w7 at *
            clear hne sy sz hls
            go_wp2_with fail
            go_roundw
            case rel => exact ⟨k + 1, by omega, by go_num, HE2, HB3.out⟩
            case measure => simp only [intOf]; omega
          · have HE2 : Hid (E = 4) := by
              show _ = _
              rw [← he.out, HKM.out, ckAt_not HSS.out (by rw [← HKM.out]; exact HT.out) HER.out (by rw [HCC.out]; exact hneg)]
            have hng : decide (cc < 0) = false := decide_eq_false hneg
            rw [hng] at hls
            clear HER he hneg HCC
            have hne : Nonempty (Since w2.heap.size w2) := ⟨⟨w2, Below.refl _ _⟩⟩
            refine wp_region_since (B := w2.heap.size) (W0 := w2) (by kernel_rfl) (by kernel_rfl) (Below.refl _ _) ?_
            repeat (go_big_quiet_step (fail))
            refine wpQuiet_nil ?_
            rintro w7 ⟨U, rfl⟩
            have HB3 : Hid (Below w.heap.size w U.val) := HB2.out.trans (U.property.mono HB2.out.size)
            generalize U.val = w7 at *
            clear hne sy sz hls
            go_wp2_with fail
            go_ret
            exact ⟨by rw [HE2.out]; rfl, HB3.out⟩
        · have HE2 : Hid (ckAt l (k + 1) = E) := by
            have hk00 : k = 0 := by omega
            subst hk00
            exact (ckAt_first HT.out HER.out).symm.trans he.out
          have hk1 : decide (0 < k) = false := decide_eq_false (by omega)
          clear HER he hk0
          go_wp2_with (go_at_call 28; refine (hck1 _).mono ?_; rintro e w2 ⟨rfl, hb2⟩)
          have HB2 : Hid (Below w.heap.size w w2) := HB1.out.trans (hb2.mono (by rw [HS.out]; have := hbel.out.size; omega))
          clear hb2 hck1 HN HB1 HS x0 x1 x2 x3 x4 x5 x6 x7 x8 x9 x10 x11
          have hne : Nonempty (Since w2.heap.size w2) := ⟨⟨w2, Below.refl _ _⟩⟩
          refine wp_region_since (B := w2.heap.size) (W0 := w2) (by kernel_rfl) (by kernel_rfl) (Below.refl _ _) ?_
          repeat (go_big_quiet_step (fail))
          refine wpQuiet_nil ?_
          rintro w7 ⟨U, rfl⟩
          have HB3 : Hid (Below w.heap.size w U.val) := HB2.out.trans (U.property.mono HB2.out.size)
          generalize U.val = w7 at *
          clear hne
          go_wp2_with fail
          go_roundw
          case rel => exact ⟨k + 1, by omega, by go_num, HE2, HB3.out⟩
          case measure => simp only [intOf]; omega
      · have HR : Hid (E = er) := he.out.symm.trans ((ckAt_bad HT.out (by rw [HER.out]; exact hE)).trans HER.out)
        have hE2 : (er == 0) = false := by simpa using hE
        clear HER he hE
        go_wp2_with (go_at_call 28; refine (hck1 _).mono ?_; rintro e w2 ⟨rfl, hb2⟩)
        go_ret
        exact ⟨by rw [HR.out]; rfl, HB1.out.trans (hb2.mono (by rw [HS.out]; have := hbel.out.size; omega))⟩
    · have HR : Hid (E = 0) := he.out.symm.trans (ckAt_end (by omega))
      clear he hck
      go_wp2_with fail
      go_ret
      exact ⟨by rw [HR.out]; rfl, hbel.out⟩
end Go.Proofs.Ytllioidjelgafaa
