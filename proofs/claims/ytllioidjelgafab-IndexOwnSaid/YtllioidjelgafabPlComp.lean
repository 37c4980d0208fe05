/-
  What slices.CompactFunc makes of a row of places: of each digest the first one stays.
-/
import Derived.Test.YtllioidjelgafabPlSort
import Derived.Deep.Cut
namespace Go.Proofs.Ytllioidjelgafab
open Go.RowKit
set_option maxRecDepth 4000

theorem info_pl : (Try.prog.info? 29).map (·.size) = some 12 := by kernel_rfl
theorem zero_pl (w : World) : (zeroValue 29).run Try.prog w = .ok (plV pl0) w := by kernel_rfl
theorem run_clear_rows {P : Program} (w : World) (t e : TypeId) (z : Value) (ht : P.underlying t = some (.slice e)) (hv : (zeroValue e).run P w = .ok z w) (h1 : ∀ v ∈ z.cells, v.oneCell' = true) (b o n c : Nat) (hn : 0 < n) (hz : 0 < z.cells.size)
    (hc : ∀ j, j < n * z.cells.size → (w.cell? ⟨b, o + j, none⟩).isSome = true) (hf : ∀ j, j < n * z.cells.size → w.frozen? ⟨b, o + j, none⟩ = false) :
    ∃ vs, ∀ ty, (Builtin.clear_ #[t] ty #[.slice (some ⟨b, o, none⟩) n c]).run P w = .ok (.tuple #[]) (w.setCells b o vs) := by
  have hst := run_storeCells_cells (P := P) b o (Builtin.zeroCells z.cells n).toList 0 w (by simpa [Builtin.zeroCells] using hc) (by simpa [Builtin.zeroCells] using hf) (by
    intro v hv'
    simp only [Builtin.zeroCells, Array.toList_map, List.mem_map] at hv'
    obtain ⟨i, _, rfl⟩ := hv'
    have hm : i % z.cells.size < z.cells.size := Nat.mod_lt _ hz
    rw [getElem!_pos z.cells _ hm]
    exact h1 _ (Array.getElem_mem hm))
  simp only [Nat.add_zero] at hst
  obtain ⟨m, rfl⟩ : ∃ m, n = m + 1 := ⟨n - 1, by omega⟩
  exact ⟨(Builtin.zeroCells z.cells (m + 1)).toList, fun ty => by simp [Builtin.clear_, run_underlying ht, hv, hst]⟩
/-- what is left of the row from place number k on, behind place number k - 1 -/
def rst (L : List Plc) (k : Nat) : List Plc := fsts ((L[k - 1]?).map Plc.id) (L.drop k)
theorem rst_same {L : List Plc} {m : Nat} {s t : Plc} (h0 : L[m]? = some s) (h : L[m + 1]? = some t) (e : t.id = s.id) : rst L (m + 1) = rst L (m + 2) := by
  obtain ⟨hk, rfl⟩ := List.getElem?_eq_some_iff.1 h
  rw [rst, List.drop_eq_getElem_cons hk, Nat.add_sub_cancel, h0, Option.map_some, fsts, if_pos e, rst, show m + 2 - 1 = m + 1 from rfl, h, Option.map_some, e]
theorem rst_other {L : List Plc} {m : Nat} {s t : Plc} (h0 : L[m]? = some s) (h : L[m + 1]? = some t) (e : t.id ≠ s.id) : rst L (m + 1) = t :: rst L (m + 2) := by
  obtain ⟨hk, rfl⟩ := List.getElem?_eq_some_iff.1 h
  rw [rst, List.drop_eq_getElem_cons hk, Nat.add_sub_cancel, h0, Option.map_some, fsts, if_neg e, rst, show m + 2 - 1 = m + 1 from rfl, h, Option.map_some]
theorem rst_end {L : List Plc} {k : Nat} (h : L.length ≤ k) : rst L k = [] := by
  rw [rst, List.drop_eq_nil_of_le h]
  cases (L[k - 1]?).map Plc.id <;> rfl
theorem rst_first {L : List Plc} (h : 0 < L.length) : fsts none L = L.take 1 ++ rst L 1 := by
  cases L with
  | nil => simp at h
  | cons t L => rfl
/-- what CompactFunc leaves -/
def CpOut (w w' : World) (g : Nat) (v : Value) (cap : Nat) (out : List Plc) : Prop := v = .slice (some ⟨g, 0, none⟩) out.length cap ∧ Rw w' g out ∧ Kept (fun b => b ≠ g) w w'

set_option maxHeartbeats 8000000 in
theorem compact_of (g cap : Nat) (L : List Plc) (w : World) (h : Rw w g L) (hl : L.length ≤ 1000) (hc : L.length ≤ cap) (hc2 : cap ≤ 9223372036854775807) (h2 : 2 ≤ L.length) :
    Calls Try.prog 32 #[.slice (some ⟨g, 0, none⟩) L.length cap, .func (.func 33) #[] #[]] w fun e w' => ∃ v, e = .returned v ∧ CpOut w w' g v cap (fsts none L) := by
  obtain ⟨F, hF⟩ : ∃ F, fsts none L = F := ⟨_, rfl⟩
  have HF : Hid (F = L.take 1 ++ rst L 1) := hF.symm.trans (rst_first (by omega))
  rw [hF]
  have HH : Hid (Rw w g L) := h
  have hsm := fun s t W => same_any s t W
  clear h hF
  have hl2 : decide ((L.length : Int) < 2) = false := decide_eq_false (by omega)
  go_enter Try.func32, Try.ntmps32
  go_wp2_with fail
  go_loopw [5] (fun i wr => ∃ k : Nat, 1 ≤ k ∧ k ≤ L.length ∧ i = .int .i64 k ∧ Hid (F = L.take k ++ rst L k) ∧ Hid (Below w.heap.size w wr)) (fun i _ => L.length - (intOf i).toNat)
  case atStart => exact ⟨1, by omega, by omega, rfl, HF, Below.refl _ _⟩
  case round =>
    obtain ⟨k, hk1, hk, rfl, hf, hbel⟩ := hrel
    clear HF
    by_cases hlt : k < L.length
    · obtain ⟨m, hkm⟩ : ∃ m, k = m + 1 := ⟨k - 1, by omega⟩
      have HKM : Hid (k = m + 1) := hkm
      obtain ⟨t, ht⟩ : ∃ t, L[k]? = some t := ⟨_, List.getElem?_eq_getElem hlt⟩
      obtain ⟨s, hs⟩ : ∃ s, L[m]? = some s := ⟨_, List.getElem?_eq_getElem (by omega)⟩
      obtain ⟨b0, b1, b2, b3, b4, b5, b6, b7, k1, p1, a1, l1, ht12⟩ := t.as12
      obtain ⟨d0, d1, d2, d3, d4, d5, d6, d7, k0, p0, a0, l0, hs12⟩ := s.as12
      have HT : Hid (L[k]? = some t) := ht
      have HS : Hid (L[m]? = some s) := hs
      have hrw := HH.out.below hbel.out
      have hat : At12 wr g (k * 12) b0 b1 b2 b3 b4 b5 b6 b7 k1 p1 a1 l1 := At12.of fun r u hu => hrw.at_ k _ (by rw [ht, ht12]) r u hu
      have has : At12 wr g (m * 12) d0 d1 d2 d3 d4 d5 d6 d7 k0 p0 a0 l0 := At12.of fun r u hu => hrw.at_ m _ (by rw [hs, hs12]) r u hu
      have hg := hrw.lt
      have hsm1 : ∀ W, Calls Try.prog 33 #[.agg (pl12 b0 b1 b2 b3 b4 b5 b6 b7 k1 p1 a1 l1), .agg (pl12 d0 d1 d2 d3 d4 d5 d6 d7 k0 p0 a0 l0)] W fun e w' => e = .returned (.bool (t.id == s.id)) ∧ Below W.heap.size W w' := fun W => by
        have := hsm t s W
        rw [ht12, hs12] at this ⊢
        exact this
      have hm1 : (k : Int) - 1 = (m : Int) := by omega
      have hml : m < L.length := by omega
      have x0 : ∀ X : Since wr.heap.size wr, X.val.cell? ⟨g, k * 12, none⟩ = some (.int .u8 (b0.toNat : Int)) := fun X => (X.property.cell (p := ⟨g, k * 12, none⟩) hg).trans hat.c0
      have x1 : ∀ X : Since wr.heap.size wr, X.val.cell? ⟨g, k * 12 + 1, none⟩ = some (.int .u8 (b1.toNat : Int)) := fun X => (X.property.cell (p := ⟨g, k * 12 + 1, none⟩) hg).trans hat.c1
      have x2 : ∀ X : Since wr.heap.size wr, X.val.cell? ⟨g, k * 12 + 2, none⟩ = some (.int .u8 (b2.toNat : Int)) := fun X => (X.property.cell (p := ⟨g, k * 12 + 2, none⟩) hg).trans hat.c2
      have x3 : ∀ X : Since wr.heap.size wr, X.val.cell? ⟨g, k * 12 + 3, none⟩ = some (.int .u8 (b3.toNat : Int)) := fun X => (X.property.cell (p := ⟨g, k * 12 + 3, none⟩) hg).trans hat.c3
      have x4 : ∀ X : Since wr.heap.size wr, X.val.cell? ⟨g, k * 12 + 4, none⟩ = some (.int .u8 (b4.toNat : Int)) := fun X => (X.property.cell (p := ⟨g, k * 12 + 4, none⟩) hg).trans hat.c4
      have x5 : ∀ X : Since wr.heap.size wr, X.val.cell? ⟨g, k * 12 + 5, none⟩ = some (.int .u8 (b5.toNat : Int)) := fun X => (X.property.cell (p := ⟨g, k * 12 + 5, none⟩) hg).trans hat.c5
      have x6 : ∀ X : Since wr.heap.size wr, X.val.cell? ⟨g, k * 12 + 6, none⟩ = some (.int .u8 (b6.toNat : Int)) := fun X => (X.property.cell (p := ⟨g, k * 12 + 6, none⟩) hg).trans hat.c6
      have x7 : ∀ X : Since wr.heap.size wr, X.val.cell? ⟨g, k * 12 + 7, none⟩ = some (.int .u8 (b7.toNat : Int)) := fun X => (X.property.cell (p := ⟨g, k * 12 + 7, none⟩) hg).trans hat.c7
      have x8 : ∀ X : Since wr.heap.size wr, X.val.cell? ⟨g, k * 12 + 8, none⟩ = some (.int .i64 k1) := fun X => (X.property.cell (p := ⟨g, k * 12 + 8, none⟩) hg).trans hat.c8
      have x9 : ∀ X : Since wr.heap.size wr, X.val.cell? ⟨g, k * 12 + 9, none⟩ = some (.int .i64 p1) := fun X => (X.property.cell (p := ⟨g, k * 12 + 9, none⟩) hg).trans hat.c9
      have x10 : ∀ X : Since wr.heap.size wr, X.val.cell? ⟨g, k * 12 + 10, none⟩ = some (.int .i64 a1) := fun X => (X.property.cell (p := ⟨g, k * 12 + 10, none⟩) hg).trans hat.c10
      have x11 : ∀ X : Since wr.heap.size wr, X.val.cell? ⟨g, k * 12 + 11, none⟩ = some (.int .i64 l1) := fun X => (X.property.cell (p := ⟨g, k * 12 + 11, none⟩) hg).trans hat.c11
      have y0 : ∀ X : Since wr.heap.size wr, X.val.cell? ⟨g, m * 12, none⟩ = some (.int .u8 (d0.toNat : Int)) := fun X => (X.property.cell (p := ⟨g, m * 12, none⟩) hg).trans has.c0
      have y1 : ∀ X : Since wr.heap.size wr, X.val.cell? ⟨g, m * 12 + 1, none⟩ = some (.int .u8 (d1.toNat : Int)) := fun X => (X.property.cell (p := ⟨g, m * 12 + 1, none⟩) hg).trans has.c1
      have y2 : ∀ X : Since wr.heap.size wr, X.val.cell? ⟨g, m * 12 + 2, none⟩ = some (.int .u8 (d2.toNat : Int)) := fun X => (X.property.cell (p := ⟨g, m * 12 + 2, none⟩) hg).trans has.c2
      have y3 : ∀ X : Since wr.heap.size wr, X.val.cell? ⟨g, m * 12 + 3, none⟩ = some (.int .u8 (d3.toNat : Int)) := fun X => (X.property.cell (p := ⟨g, m * 12 + 3, none⟩) hg).trans has.c3
      have y4 : ∀ X : Since wr.heap.size wr, X.val.cell? ⟨g, m * 12 + 4, none⟩ = some (.int .u8 (d4.toNat : Int)) := fun X => (X.property.cell (p := ⟨g, m * 12 + 4, none⟩) hg).trans has.c4
      have y5 : ∀ X : Since wr.heap.size wr, X.val.cell? ⟨g, m * 12 + 5, none⟩ = some (.int .u8 (d5.toNat : Int)) := fun X => (X.property.cell (p := ⟨g, m * 12 + 5, none⟩) hg).trans has.c5
      have y6 : ∀ X : Since wr.heap.size wr, X.val.cell? ⟨g, m * 12 + 6, none⟩ = some (.int .u8 (d6.toNat : Int)) := fun X => (X.property.cell (p := ⟨g, m * 12 + 6, none⟩) hg).trans has.c6
      have y7 : ∀ X : Since wr.heap.size wr, X.val.cell? ⟨g, m * 12 + 7, none⟩ = some (.int .u8 (d7.toNat : Int)) := fun X => (X.property.cell (p := ⟨g, m * 12 + 7, none⟩) hg).trans has.c7
      have y8 : ∀ X : Since wr.heap.size wr, X.val.cell? ⟨g, m * 12 + 8, none⟩ = some (.int .i64 k0) := fun X => (X.property.cell (p := ⟨g, m * 12 + 8, none⟩) hg).trans has.c8
      have y9 : ∀ X : Since wr.heap.size wr, X.val.cell? ⟨g, m * 12 + 9, none⟩ = some (.int .i64 p0) := fun X => (X.property.cell (p := ⟨g, m * 12 + 9, none⟩) hg).trans has.c9
      have y10 : ∀ X : Since wr.heap.size wr, X.val.cell? ⟨g, m * 12 + 10, none⟩ = some (.int .i64 a0) := fun X => (X.property.cell (p := ⟨g, m * 12 + 10, none⟩) hg).trans has.c10
      have y11 : ∀ X : Since wr.heap.size wr, X.val.cell? ⟨g, m * 12 + 11, none⟩ = some (.int .i64 l0) := fun X => (X.property.cell (p := ⟨g, m * 12 + 11, none⟩) hg).trans has.c11
      clear hat has hrw hs ht ht12 hs12 hkm
      have hne : Nonempty (Since wr.heap.size wr) := ⟨⟨wr, Below.refl _ _⟩⟩
      cases hq : (t.id == s.id) with
      | false =>
        rw [hq] at hsm1
        have HF2 : Hid (F = L.take (k + 1) ++ rst L (k + 1)) := by
          show _ = _
          rw [hf.out, HKM.out, rst_other HS.out (by rw [← HKM.out]; exact HT.out) (beq_eq_false_iff_ne.1 hq), ← HKM.out, show m + 2 = k + 1 from by rw [HKM.out], List.take_add_one, HT.out]
          simp
        clear hf hq hsm
        go_upto_region 6 with fail
        refine wp_region_since (B := wr.heap.size) (W0 := wr) (by kernel_rfl) (by kernel_rfl) (Below.refl _ _) ?_
        repeat (go_big_quiet_step (exact quiet_since _ (hsm1 _)))
        refine wpQuiet_nil ?_
        rintro w7 ⟨U, rfl⟩
        have HB3 : Hid (Below w.heap.size w U.val) := hbel.out.trans (U.property.mono hbel.out.size)
        generalize U.val = w7 at *
        clear hne hsm1 x0 x1 x2 x3 x4 x5 x6 x7 x8 x9 x10 x11 y0 y1 y2 y3 y4 y5 y6 y7 y8 y9 y10 y11
        go_wp2_with fail
        go_roundw
        case rel => exact ⟨k + 1, by omega, by omega, by go_num, HF2, HB3.out⟩
        case measure => simp only [intOf]; omega
      | true =>
        rw [hq] at hsm1
        have HF2 : Hid (F = L.take k ++ rst L (k + 1)) := by
          show _ = _
          rw [hf.out, HKM.out, rst_same HS.out (by rw [← HKM.out]; exact HT.out) (beq_iff_eq.1 hq)]
        clear hf hq
        go_upto_region 6 with fail
        refine wp_region_since (B := wr.heap.size) (W0 := wr) (by kernel_rfl) (by kernel_rfl) (Below.refl _ _) ?_
        repeat (go_big_quiet_step (exact quiet_since _ (hsm1 _)))
        refine wpQuiet_nil ?_
        rintro w7 ⟨U, rfl⟩
        have HB3 : Hid (Below w.heap.size w U.val) := hbel.out.trans (U.property.mono hbel.out.size)
        generalize U.val = w7 at *
        clear hne hsm1 x0 x1 x2 x3 x4 x5 x6 x7 x8 x9 x10 x11 y0 y1 y2 y3 y4 y5 y6 y7 y8 y9 y10 y11
        have hkc : k < cap := by omega
        go_wp2_with fail
        obtain ⟨n2, hn2⟩ : ∃ n2, L.length - k = n2 := ⟨_, rfl⟩
        have HN2 : Hid (k + n2 = L.length) := by show k + n2 = L.length; omega
        have hn21 : 1 ≤ n2 := by omega
        have hn2c : n2 ≤ cap - k := by omega
        have hn2m : n2 ≤ 1000 := by omega
        rw [hn2]
        clear hn2 hlt hbel HT HS hm1 hml hg
        go_loopw [5, 7] (fun vK i wr => ∃ (K k2 : Nat) (M : List Plc), vK = .int .i64 K ∧ i = .int .i64 k2 ∧ 1 ≤ k2 ∧ k2 ≤ n2 ∧ k ≤ K ∧ K < k + k2 ∧ Hid (M.length = L.length) ∧ Hid (Rw wr g M) ∧ Hid (∀ j, k + k2 ≤ j + 1 → M[j]? = L[j]?) ∧ Hid (F = M.take K ++ rst L (k + k2)) ∧ Hid (Kept (fun b => b ≠ g) w wr)) (fun _ i _ => n2 - (intOf i).toNat)
        case atStart => exact ⟨k, 1, L, rfl, rfl, by omega, by omega, by omega, by omega, rfl, HH.out.below HB3.out, (fun _ _ => rfl), HF2, Kept.of_below HB3.out⟩
        case round =>
          obtain ⟨K, k2, M, rfl, rfl, h21, h22, hK1, hK2, hML, hrw, hag, hf, hkp⟩ := hrel
          clear HB3 HF2
          by_cases hlt : k2 < n2
          · obtain ⟨q, hkq⟩ : ∃ q, k2 = q + 1 := ⟨k2 - 1, by omega⟩
            have HKQ : Hid (k2 = q + 1) := hkq
            have hll : k + k2 < L.length := by have := HN2.out; omega
            obtain ⟨t, ht⟩ : ∃ t, L[k + k2]? = some t := ⟨_, List.getElem?_eq_getElem hll⟩
            obtain ⟨s, hs⟩ : ∃ s, L[k + q]? = some s := ⟨_, List.getElem?_eq_getElem (by omega)⟩
            obtain ⟨b0, b1, b2, b3, b4, b5, b6, b7, k1, p1, a1, l1, ht12⟩ := t.as12
            obtain ⟨d0, d1, d2, d3, d4, d5, d6, d7, k0, p0, a0, l0, hs12⟩ := s.as12
            have HT : Hid (L[k + k2]? = some t) := ht
            have HS : Hid (L[k + q]? = some s) := hs
            have ht' : M[k + k2]? = some t := (hag.out _ (by omega)).trans ht
            have hs' : M[k + q]? = some s := (hag.out _ (by omega)).trans hs
            have HTM : Hid (M[k + k2]? = some t) := ht'
            have ek : ∀ j r, k * 12 + j * 12 + r = (k + j) * 12 + r := fun j r => by omega
            have hat : At12 wr g (k * 12 + k2 * 12) b0 b1 b2 b3 b4 b5 b6 b7 k1 p1 a1 l1 := At12.of fun r u hu => by rw [ek]; exact hrw.out.at_ (k + k2) _ (by rw [ht', ht12]) r u hu
            have has : At12 wr g (k * 12 + q * 12) d0 d1 d2 d3 d4 d5 d6 d7 k0 p0 a0 l0 := At12.of fun r u hu => by rw [ek]; exact hrw.out.at_ (k + q) _ (by rw [hs', hs12]) r u hu
            have hg := hrw.out.lt
            have hsm1 : ∀ W, Calls Try.prog 33 #[.agg (pl12 b0 b1 b2 b3 b4 b5 b6 b7 k1 p1 a1 l1), .agg (pl12 d0 d1 d2 d3 d4 d5 d6 d7 k0 p0 a0 l0)] W fun e w' => e = .returned (.bool (t.id == s.id)) ∧ Below W.heap.size W w' := fun W => by
              have := hsm t s W
              rw [ht12, hs12] at this ⊢
              exact this
            have hm1 : (k2 : Int) - 1 = (q : Int) := by omega
            have hml : q < n2 := by omega
            have HT12 : Hid (plC t = (pl12 b0 b1 b2 b3 b4 b5 b6 b7 k1 p1 a1 l1).toList) := by rw [ht12]; rfl
            have x0 : ∀ X : Since wr.heap.size wr, X.val.cell? ⟨g, k * 12 + k2 * 12, none⟩ = some (.int .u8 (b0.toNat : Int)) := fun X => (X.property.cell (p := ⟨g, k * 12 + k2 * 12, none⟩) hg).trans hat.c0
            have x1 : ∀ X : Since wr.heap.size wr, X.val.cell? ⟨g, k * 12 + k2 * 12 + 1, none⟩ = some (.int .u8 (b1.toNat : Int)) := fun X => (X.property.cell (p := ⟨g, k * 12 + k2 * 12 + 1, none⟩) hg).trans hat.c1
            have x2 : ∀ X : Since wr.heap.size wr, X.val.cell? ⟨g, k * 12 + k2 * 12 + 2, none⟩ = some (.int .u8 (b2.toNat : Int)) := fun X => (X.property.cell (p := ⟨g, k * 12 + k2 * 12 + 2, none⟩) hg).trans hat.c2
            have x3 : ∀ X : Since wr.heap.size wr, X.val.cell? ⟨g, k * 12 + k2 * 12 + 3, none⟩ = some (.int .u8 (b3.toNat : Int)) := fun X => (X.property.cell (p := ⟨g, k * 12 + k2 * 12 + 3, none⟩) hg).trans hat.c3
            have x4 : ∀ X : Since wr.heap.size wr, X.val.cell? ⟨g, k * 12 + k2 * 12 + 4, none⟩ = some (.int .u8 (b4.toNat : Int)) := fun X => (X.property.cell (p := ⟨g, k * 12 + k2 * 12 + 4, none⟩) hg).trans hat.c4
            have x5 : ∀ X : Since wr.heap.size wr, X.val.cell? ⟨g, k * 12 + k2 * 12 + 5, none⟩ = some (.int .u8 (b5.toNat : Int)) := fun X => (X.property.cell (p := ⟨g, k * 12 + k2 * 12 + 5, none⟩) hg).trans hat.c5
            have x6 : ∀ X : Since wr.heap.size wr, X.val.cell? ⟨g, k * 12 + k2 * 12 + 6, none⟩ = some (.int .u8 (b6.toNat : Int)) := fun X => (X.property.cell (p := ⟨g, k * 12 + k2 * 12 + 6, none⟩) hg).trans hat.c6
            have x7 : ∀ X : Since wr.heap.size wr, X.val.cell? ⟨g, k * 12 + k2 * 12 + 7, none⟩ = some (.int .u8 (b7.toNat : Int)) := fun X => (X.property.cell (p := ⟨g, k * 12 + k2 * 12 + 7, none⟩) hg).trans hat.c7
            have x8 : ∀ X : Since wr.heap.size wr, X.val.cell? ⟨g, k * 12 + k2 * 12 + 8, none⟩ = some (.int .i64 k1) := fun X => (X.property.cell (p := ⟨g, k * 12 + k2 * 12 + 8, none⟩) hg).trans hat.c8
            have x9 : ∀ X : Since wr.heap.size wr, X.val.cell? ⟨g, k * 12 + k2 * 12 + 9, none⟩ = some (.int .i64 p1) := fun X => (X.property.cell (p := ⟨g, k * 12 + k2 * 12 + 9, none⟩) hg).trans hat.c9
            have x10 : ∀ X : Since wr.heap.size wr, X.val.cell? ⟨g, k * 12 + k2 * 12 + 10, none⟩ = some (.int .i64 a1) := fun X => (X.property.cell (p := ⟨g, k * 12 + k2 * 12 + 10, none⟩) hg).trans hat.c10
            have x11 : ∀ X : Since wr.heap.size wr, X.val.cell? ⟨g, k * 12 + k2 * 12 + 11, none⟩ = some (.int .i64 l1) := fun X => (X.property.cell (p := ⟨g, k * 12 + k2 * 12 + 11, none⟩) hg).trans hat.c11
            have y0 : ∀ X : Since wr.heap.size wr, X.val.cell? ⟨g, k * 12 + q * 12, none⟩ = some (.int .u8 (d0.toNat : Int)) := fun X => (X.property.cell (p := ⟨g, k * 12 + q * 12, none⟩) hg).trans has.c0
            have y1 : ∀ X : Since wr.heap.size wr, X.val.cell? ⟨g, k * 12 + q * 12 + 1, none⟩ = some (.int .u8 (d1.toNat : Int)) := fun X => (X.property.cell (p := ⟨g, k * 12 + q * 12 + 1, none⟩) hg).trans has.c1
            have y2 : ∀ X : Since wr.heap.size wr, X.val.cell? ⟨g, k * 12 + q * 12 + 2, none⟩ = some (.int .u8 (d2.toNat : Int)) := fun X => (X.property.cell (p := ⟨g, k * 12 + q * 12 + 2, none⟩) hg).trans has.c2
            have y3 : ∀ X : Since wr.heap.size wr, X.val.cell? ⟨g, k * 12 + q * 12 + 3, none⟩ = some (.int .u8 (d3.toNat : Int)) := fun X => (X.property.cell (p := ⟨g, k * 12 + q * 12 + 3, none⟩) hg).trans has.c3
            have y4 : ∀ X : Since wr.heap.size wr, X.val.cell? ⟨g, k * 12 + q * 12 + 4, none⟩ = some (.int .u8 (d4.toNat : Int)) := fun X => (X.property.cell (p := ⟨g, k * 12 + q * 12 + 4, none⟩) hg).trans has.c4
            have y5 : ∀ X : Since wr.heap.size wr, X.val.cell? ⟨g, k * 12 + q * 12 + 5, none⟩ = some (.int .u8 (d5.toNat : Int)) := fun X => (X.property.cell (p := ⟨g, k * 12 + q * 12 + 5, none⟩) hg).trans has.c5
            have y6 : ∀ X : Since wr.heap.size wr, X.val.cell? ⟨g, k * 12 + q * 12 + 6, none⟩ = some (.int .u8 (d6.toNat : Int)) := fun X => (X.property.cell (p := ⟨g, k * 12 + q * 12 + 6, none⟩) hg).trans has.c6
            have y7 : ∀ X : Since wr.heap.size wr, X.val.cell? ⟨g, k * 12 + q * 12 + 7, none⟩ = some (.int .u8 (d7.toNat : Int)) := fun X => (X.property.cell (p := ⟨g, k * 12 + q * 12 + 7, none⟩) hg).trans has.c7
            have y8 : ∀ X : Since wr.heap.size wr, X.val.cell? ⟨g, k * 12 + q * 12 + 8, none⟩ = some (.int .i64 k0) := fun X => (X.property.cell (p := ⟨g, k * 12 + q * 12 + 8, none⟩) hg).trans has.c8
            have y9 : ∀ X : Since wr.heap.size wr, X.val.cell? ⟨g, k * 12 + q * 12 + 9, none⟩ = some (.int .i64 p0) := fun X => (X.property.cell (p := ⟨g, k * 12 + q * 12 + 9, none⟩) hg).trans has.c9
            have y10 : ∀ X : Since wr.heap.size wr, X.val.cell? ⟨g, k * 12 + q * 12 + 10, none⟩ = some (.int .i64 a0) := fun X => (X.property.cell (p := ⟨g, k * 12 + q * 12 + 10, none⟩) hg).trans has.c10
            have y11 : ∀ X : Since wr.heap.size wr, X.val.cell? ⟨g, k * 12 + q * 12 + 11, none⟩ = some (.int .i64 l0) := fun X => (X.property.cell (p := ⟨g, k * 12 + q * 12 + 11, none⟩) hg).trans has.c11
            clear hat has hs ht ht12 hs12 hkq ht' hs' ek
            have hne : Nonempty (Since wr.heap.size wr) := ⟨⟨wr, Below.refl _ _⟩⟩
            cases hq : (t.id == s.id) with
            | true =>
              rw [hq] at hsm1
              have HF2 : Hid (F = M.take K ++ rst L (k + (k2 + 1))) := by
                show _ = _
                have e1 : k + k2 = (k + q) + 1 := by rw [HKQ.out]; omega
                have e2 : k + (k2 + 1) = (k + q) + 2 := by rw [HKQ.out]; omega
                rw [hf.out, e1, e2, rst_same HS.out (by rw [← e1]; exact HT.out) (beq_iff_eq.1 hq)]
              clear hf hq hsm
              go_upto_region 11 with fail
              refine wp_region_since (B := wr.heap.size) (W0 := wr) (by kernel_rfl) (by kernel_rfl) (Below.refl _ _) ?_
              repeat (go_big_quiet_step (exact quiet_since _ (hsm1 _)))
              refine wpQuiet_nil ?_
              rintro w8 ⟨U, rfl⟩
              have HR3 : Hid (Rw U.val g M) := hrw.out.below U.property
              have HK3 : Hid (Kept (fun b => b ≠ g) w U.val) := hkp.out.trans (Kept.of_below U.property)
              generalize U.val = w8 at *
              clear hne hsm1 hrw hkp x0 x1 x2 x3 x4 x5 x6 x7 x8 x9 x10 x11 y0 y1 y2 y3 y4 y5 y6 y7 y8 y9 y10 y11
              go_wp2_with fail
              go_roundw
              case rel => exact ⟨K, k2 + 1, M, rfl, by go_num, by omega, by omega, by omega, by omega, hML, HR3, (fun j hj => hag.out j (by omega)), HF2, HK3⟩
              case measure => simp only [intOf]; omega
            | false =>
              rw [hq] at hsm1
              have HF2 : Hid (F = (M.set K t).take (K + 1) ++ rst L (k + (k2 + 1))) := by
                show _ = _
                have e1 : k + k2 = (k + q) + 1 := by rw [HKQ.out]; omega
                have e2 : k + (k2 + 1) = (k + q) + 2 := by rw [HKQ.out]; omega
                have hKM : K < M.length := by rw [hML.out]; omega
                rw [hf.out, e1, e2, rst_other HS.out (by rw [← e1]; exact HT.out) (beq_eq_false_iff_ne.1 hq), List.take_add_one, List.getElem?_set_self hKM, List.take_set_of_le (Nat.le_refl _)]
                simp
              have HAG : Hid (∀ j, k + (k2 + 1) ≤ j + 1 → (M.set K t)[j]? = L[j]?) := fun j hj => by
                rw [List.getElem?_set_ne (by omega)]
                exact hag.out j (by omega)
              clear hf hq hsm
              go_upto_region 11 with fail
              refine wp_region_since (B := wr.heap.size) (W0 := wr) (by kernel_rfl) (by kernel_rfl) (Below.refl _ _) ?_
              repeat (go_big_quiet_step (exact quiet_since _ (hsm1 _)))
              refine wpQuiet_nil ?_
              rintro w8 ⟨U, rfl⟩
              have HR3 : Hid (Rw U.val g M) := hrw.out.below U.property
              have HK3 : Hid (Kept (fun b => b ≠ g) w U.val) := hkp.out.trans (Kept.of_below U.property)
              generalize U.val = w8 at *
              clear hne hsm1 hrw hkp x0 x1 x2 x3 x4 x5 x6 x7 x8 x9 x10 x11 y0 y1 y2 y3 y4 y5 y6 y7 y8 y9 y10 y11
              have hKl : K < L.length := by omega
              go_upto_region 12 with fail
              have hrng : w8.rangeAt g (k * 12 + k2 * 12) (plC t) := by rw [show k * 12 + k2 * 12 = (k + k2) * 12 from by omega]; exact HR3.out.range HTM.out
              have hth : w8.there g (K * 12) (plC t).toArray.size := by rw [List.size_toArray, plC_length]; exact HR3.out.there (by rw [hML.out]; exact hKl)
              have HR4 : Hid (Rw (w8.setCells g (K * 12) (plC t)) g (M.set K t)) := HR3.out.set (by rw [hML.out]; exact hKl) t
              have HK4 : Hid (Kept (fun b => b ≠ g) w (w8.setCells g (K * 12) (plC t))) := HK3.out.setCells (fun e => e rfl) _ _
              have hone : (plC t).toArray.all (·.oneCell') = true := by rw [Array.all_eq_true']; intro v hv; exact plC_one t v (by simpa using hv)
              have hin : (Try.prog.info? 29).map (·.size) = some (plC t).toArray.size := by rw [info_pl, List.size_toArray, plC_length]
              refine wp_region_lit ?_
              refine wpList_plain rfl fun C hC => ?_
              go_simp
              refine hC _ _ ?_
              clear hC C
              refine wpList_plain rfl fun C hC => ?_
              go_simp
              refine hC _ _ ?_
              clear hC C
              refine wpList_plain rfl fun C hC => ?_
              go_simp
              refine hC _ _ ?_
              clear hC C
              refine wpList_plain rfl fun C hC => ?_
              go_simp
              refine hC _ _ ?_
              clear hC C
              refine wpList_plain rfl fun C hC => ?_
              go_simp
              refine hC _ _ ?_
              clear hC C
              refine wpList_load_mid rfl 29 (.tmp 54) rfl g (k * 12 + k2 * 12) rfl (plC t) _ hrng Try.underlying29 rfl (by rw [info_pl, plC_length]) ?_
              refine wpList_plain rfl fun C hC => ?_
              go_simp
              refine hC _ _ ?_
              clear hC C
              refine wpList_store_mid rfl 29 (.tmp 56) (.tmp 55) rfl g (K * 12) (plC t).toArray rfl rfl hth hin hone ?_
              rw [show (plC t).toArray.toList = plC t from rfl]
              generalize w8.setCells g (K * 12) (plC t) = w9 at HR4 HK4 ⊢
              clear hrng hth hone hin HR3 HK3
              go_wp2_with fail
              go_roundw
              case rel => exact ⟨K + 1, k2 + 1, M.set K t, by go_num, by go_num, by omega, by omega, by omega, by omega, by show (M.set K t).length = L.length; rw [List.length_set]; exact hML.out, HR4, HAG, HF2, HK4⟩
              case measure => simp only [intOf]; omega
          · have hKl : K < L.length := by have := HN2.out; omega
            have hKc : K < cap := by omega
            have HF2 : Hid (F = M.take K) := by
              show _ = _
              have := HN2.out
              rw [hf.out, rst_end (by omega), List.append_nil]
            have hlp : 0 < L.length - K := by omega
            obtain ⟨vs, hcl⟩ := run_clear_rows (P := Try.prog) wr 22 29 (plV pl0) Try.underlying22 (zero_pl wr) (fun v hv => plC_one pl0 v (by simpa [plV, Value.cells] using hv)) g (K * 12) (L.length - K) (cap - K) hlp (by show 0 < (plC pl0).toArray.size; rw [List.size_toArray, plC_length]; omega)
              (fun j hj => by
                have hj2 : j < (L.length - K) * 12 := hj
                have := (hrw.out.there (j := K + j / 12) (by rw [hML.out]; omega) (j % 12) (by omega)).1
                rwa [show (K + j / 12) * 12 + j % 12 = K * 12 + j from by omega] at this)
              (fun j hj => by
                have hj2 : j < (L.length - K) * 12 := hj
                exact hrw.out.free _ (by rw [hML.out]; omega))
            have HR4 : Hid (Rw (wr.setCells g (K * 12) vs) g (M.take K)) := hrw.out.wipe (by rw [hML.out]; omega) vs
            have HK4 : Hid (Kept (fun b => b ≠ g) w (wr.setCells g (K * 12) vs)) := hkp.out.setCells (fun e => e rfl) _ _
            have HL4 : Hid ((M.take K).length = K) := by show (M.take K).length = K; rw [List.length_take, hML.out]; omega
            clear hf hsm hrw hkp
            generalize wr.setCells g (K * 12) vs = w9 at *
            go_wp2_with fail
            go_ret
            refine ⟨_, rfl, ?_, ?_, ?_⟩
            · rw [HF2.out, HL4.out]; rfl
            · rw [HF2.out]; exact HR4.out
            · exact HK4.out
    · have HF2 : Hid (F = L) := by
        show _ = _
        rw [hf.out, rst_end (by omega), List.append_nil, List.take_of_length_le (by omega)]
      clear hf hsm
      go_wp2_with fail
      go_ret
      refine ⟨_, rfl, ?_, ?_, ?_⟩
      · rw [HF2.out]; rfl
      · rw [HF2.out]; exact HH.out.below hbel.out
      · exact Kept.of_below hbel.out
end Go.Proofs.Ytllioidjelgafab
