/-
  What ID of package mix answers.
-/
import Derived.Test.YtkeckdfjgnacnaaMixRead
import Derived.Test.YtkeckdfjgnacnaaRefID
namespace Go.Proofs.Ytkeckdfjgnacnaa
open Go.RowKit

/-- what lies in cell j when d bytes, the last ones first, have been written -/
def idAt (l : List UInt8) (d j : Nat) : Int := if 8 - d ≤ j then ((l.getD j 0).toNat : Int) else 0
theorem low8_get (N d : Nat) (hd : d < 8) : (Nm.low 8 N).getD (7 - d) 0 = UInt8.ofNat (N / 256 ^ d % 256) := by
  match d, hd with
  | 0, _ => rfl
  | 1, _ => rfl
  | 2, _ => rfl
  | 3, _ => rfl
  | 4, _ => rfl
  | 5, _ => rfl
  | 6, _ => rfl
  | 7, _ => rfl
theorem idAt_new (N d : Nat) (hd : d < 8) : ((N / 256 ^ d : Nat) : Int) % 256 = idAt (Nm.low 8 N) (d + 1) (7 - d) := by
  rw [idAt, if_pos (by omega), low8_get N d hd, UInt8.toNat_ofNat']
  omega
theorem id_step {l : List UInt8} {d G : Nat} {w : World} {c : Int} (hd : d < 8) (hc : c = idAt l (d + 1) (7 - d)) (h : ∀ j, j < 8 → w.cell? ⟨G, j, none⟩ = some (.int .u8 (idAt l d j))) :
    ∀ j, j < 8 → (w.setCell ⟨G, 7 - d, none⟩ (.int .u8 c)).cell? ⟨G, j, none⟩ = some (.int .u8 (idAt l (d + 1) j)) := by
  intro j hj
  by_cases e : j = 7 - d
  · subst e
    rw [World.cell?_setCell_same _ _ _ (h _ hj), hc]
  · rw [World.cell?_setCell_other _ _ _ _ (by intro h; exact e (congrArg Addr.off h).symm), h j hj, idAt, idAt]
    by_cases hjk : 8 - d ≤ j
    · rw [if_pos hjk, if_pos (by omega)]
    · rw [if_neg hjk, if_neg (by omega)]

set_option maxHeartbeats 1000000 in
theorem id_of (N : Nat) (b0 b1 b2 b3 b4 b5 b6 b7 : UInt8) (s : ByteArray) (w : World) (hL : Nm.low 8 N = [b0, b1, b2, b3, b4, b5, b6, b7])
    (hn : ∀ W, Calls Try.prog 12 #[.string s] W fun e w' => e = .returned (.int .u64 N) ∧ Below W.heap.size W w') :
    Calls Try.prog 13 #[.string s] w fun e w' => e = .returned (.agg #[B b0, B b1, B b2, B b3, B b4, B b5, B b6, B b7]) ∧ Below w.heap.size w w' := by
  have HW : Hid (∀ d, d < 8 → ((N / 256 ^ d : Nat) : Int) % 256 = idAt (Nm.low 8 N) (d + 1) (7 - d)) := idAt_new N
  rw [hL] at HW
  clear hL
  go_enter Try.func13, Try.ntmps13
  go_wp2_with fail
  refine (hn _).mono ?_
  rintro e w1 ⟨rfl, hb1⟩
  have HB1 : Hid (Below w.heap.size w w1) := ((((Below.refl _ w).alloc (Nat.le_refl _) _).alloc (by simp) _)).trans (hb1.mono (by simp; omega))
  have HC : Hid (∀ j, j < 8 → w1.cell? ⟨w.heap.size + 1, j, none⟩ = some (.int .u8 (idAt [b0, b1, b2, b3, b4, b5, b6, b7] 0 j))) := fun j hj => by
    rw [idAt, if_neg (by omega)]
    refine (hb1.cell (p := ⟨w.heap.size + 1, j, none⟩) (by simp)).trans ?_
    match j, hj with
    | 0, _ => simp
    | 1, _ => simp
    | 2, _ => simp
    | 3, _ => simp
    | 4, _ => simp
    | 5, _ => simp
    | 6, _ => simp
    | 7, _ => simp
  have HF : Hid (∀ j, j < 8 → w1.frozen? ⟨w.heap.size + 1, j, none⟩ = false) := fun j hj =>
    (hb1.frozen (p := ⟨w.heap.size + 1, j, none⟩) (by simp)).trans (by simp)
  have HC0 : Hid (∀ j, j < 8 → w1.cell? ⟨w.heap.size, j, none⟩ = some (.int .u8 0)) := fun j hj => by
    refine (hb1.cell (p := ⟨w.heap.size, j, none⟩) (by simp; omega)).trans ?_
    match j, hj with
    | 0, _ => simp
    | 1, _ => simp
    | 2, _ => simp
    | 3, _ => simp
    | 4, _ => simp
    | 5, _ => simp
    | 6, _ => simp
    | 7, _ => simp
  have HF0 : Hid (∀ j, j < 8 → w1.frozen? ⟨w.heap.size, j, none⟩ = false) := fun j hj =>
    (hb1.frozen (p := ⟨w.heap.size, j, none⟩) (by simp; omega)).trans (by simp)
  clear hb1 hn
  go_wp2_with fail
  go_loopw [4, 5] (fun n i wr => ∃ d : Nat, d ≤ 8 ∧ n = .int .u64 ((N / 256 ^ d : Nat) : Int) ∧ i = .int .i64 (7 - (d : Int)) ∧ Hid (∀ j, j < 8 → wr.cell? ⟨w.heap.size + 1, j, none⟩ = some (.int .u8 (idAt [b0, b1, b2, b3, b4, b5, b6, b7] d j))) ∧
      Hid (∀ j, j < 8 → wr.frozen? ⟨w.heap.size + 1, j, none⟩ = false) ∧ Hid (∀ j, j < 8 → wr.cell? ⟨w.heap.size, j, none⟩ = some (.int .u8 0)) ∧ Hid (∀ j, j < 8 → wr.frozen? ⟨w.heap.size, j, none⟩ = false) ∧ Hid (Below w.heap.size w wr)) (fun _ i _ => (intOf i + 1).toNat)
  case atStart => exact ⟨0, by omega, by simp, rfl, HC, HF, HC0, HF0, HB1⟩
  case round =>
    obtain ⟨d, hd, rfl, rfl, hc, hf, hc0, hf0, hb⟩ := hrel
    clear HC HF HC0 HF0 HB1
    by_cases hlt : d < 8
    · have hst := id_step (G := w.heap.size + 1) (w := wr) hlt (HW.out d hlt) hc.out
      have HS : Hid (∀ j, j < 8 → (wr.setCell ⟨w.heap.size + 1, 7 - d, none⟩ (.int .u8 (((N / 256 ^ d : Nat) : Int) % 256))).cell? ⟨w.heap.size + 1, j, none⟩ = some (.int .u8 (idAt [b0, b1, b2, b3, b4, b5, b6, b7] (d + 1) j))) := hst
      clear hst
      have hq : ((N / 256 ^ d : Nat) : Int) / 256 = ((N / 256 ^ (d + 1) : Nat) : Int) := by
        rw [Nat.pow_succ, ← Nat.div_div_eq_div_mul]; omega
      have HQ : Hid (((N / 256 ^ d : Nat) : Int) / 256 = ((N / 256 ^ (d + 1) : Nat) : Int)) := hq
      clear hq
      have hkI : 7 - (d : Int) = ((7 - d : Nat) : Int) := by omega
      have hck := hc.out (7 - d) (by omega)
      have hfk := hf.out (7 - d) (by omega)
      generalize N / 256 ^ d = M at *
      go_wp2_with fail
      go_round
      case rel =>
        refine ⟨d + 1, by omega, int_eq HQ.out, int_eq (by omega), HS, ?_, ?_, ?_, ?_⟩
        · intro j hj
          simpa using hf.out j hj
        · intro j hj
          rw [World.cell?_setCell_other _ _ _ _ (by intro h; have := congrArg Addr.block h; simp at this)]
          exact hc0.out j hj
        · intro j hj
          simpa using hf0.out j hj
        · exact hb.out.setCell (by simp) _
      case measure => simp only [intOf]; omega
    · obtain rfl : d = 8 := by omega
      have c0 : wr.cell? ⟨w.heap.size + 1, 0, none⟩ = some (.int .u8 (b0.toNat : Int)) := hc.out 0 (by omega)
      have d0 := hc0.out 0 (by omega)
      have f0 := hf0.out 0 (by omega)
      have c1 : wr.cell? ⟨w.heap.size + 1, 1, none⟩ = some (.int .u8 (b1.toNat : Int)) := hc.out 1 (by omega)
      have d1 := hc0.out 1 (by omega)
      have f1 := hf0.out 1 (by omega)
      have c2 : wr.cell? ⟨w.heap.size + 1, 2, none⟩ = some (.int .u8 (b2.toNat : Int)) := hc.out 2 (by omega)
      have d2 := hc0.out 2 (by omega)
      have f2 := hf0.out 2 (by omega)
      have c3 : wr.cell? ⟨w.heap.size + 1, 3, none⟩ = some (.int .u8 (b3.toNat : Int)) := hc.out 3 (by omega)
      have d3 := hc0.out 3 (by omega)
      have f3 := hf0.out 3 (by omega)
      have c4 : wr.cell? ⟨w.heap.size + 1, 4, none⟩ = some (.int .u8 (b4.toNat : Int)) := hc.out 4 (by omega)
      have d4 := hc0.out 4 (by omega)
      have f4 := hf0.out 4 (by omega)
      have c5 : wr.cell? ⟨w.heap.size + 1, 5, none⟩ = some (.int .u8 (b5.toNat : Int)) := hc.out 5 (by omega)
      have d5 := hc0.out 5 (by omega)
      have f5 := hf0.out 5 (by omega)
      have c6 : wr.cell? ⟨w.heap.size + 1, 6, none⟩ = some (.int .u8 (b6.toNat : Int)) := hc.out 6 (by omega)
      have d6 := hc0.out 6 (by omega)
      have f6 := hf0.out 6 (by omega)
      have c7 : wr.cell? ⟨w.heap.size + 1, 7, none⟩ = some (.int .u8 (b7.toNat : Int)) := hc.out 7 (by omega)
      have d7 := hc0.out 7 (by omega)
      have f7 := hf0.out 7 (by omega)
      generalize N / 256 ^ 8 = M at *
      clear hc hf hc0 hf0 hd hlt HW
      go_wp2_with fail
      refine bodyPost_ret (v := .agg #[B b0, B b1, B b2, B b3, B b4, B b5, B b6, B b7]) ?_ rfl ⟨rfl, ?_⟩
      · have hres : Try.f13.results = #[.cell 2 30] := by kernel_rfl
        simp only [results, hres]
        go_simp
        exact ⟨rfl, rfl, rfl, rfl, rfl, rfl, rfl, rfl⟩
      · have hk : w.heap.size ≤ w.heap.size := Nat.le_refl _
        exact (((((((hb.out.setCell hk _).setCell hk _).setCell hk _).setCell hk _).setCell hk _).setCell hk _).setCell hk _).setCell hk _

theorem id_any (s : ByteArray) (w : World) (hs : s.size ≤ 140737488351232) :
    Calls Try.prog 13 #[.string s] w fun e w' => e = .returned (.agg ((Nm.low 8 (Mx.narrow 64 s.data.toList)).map B).toArray) ∧ Below w.heap.size w w' := by
  obtain ⟨b0, b1, b2, b3, b4, b5, b6, b7, hL⟩ := eight _ (Nm.low_length 8 (Mx.narrow 64 s.data.toList))
  rw [hL]
  exact id_of _ b0 b1 b2 b3 b4 b5 b6 b7 s w hL fun W => sum_any s W hs
end Go.Proofs.Ytkeckdfjgnacnaa
