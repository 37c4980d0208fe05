/-
  What marks of package bloom answers.
-/
import Derived.Test.YtpagbihebahnnaaBlNum
import Derived.Test.YtpagbihebahnnaaRxMem
import Derived.Test.YtpagbihebahnnaaQuietSince
namespace Go.Proofs.Ytpagbihebahnnaa
open Go.RowKit
set_option maxRecDepth 4000

/-- a word as a cell -/
def U (n : Nat) : Value := .int .u64 n
theorem eight8 (x : List UInt8) (h : x.length = 8) : ∃ b0 b1 b2 b3 b4 b5 b6 b7, x = [b0, b1, b2, b3, b4, b5, b6, b7] := by
  match x, h with
  | [b0, b1, b2, b3, b4, b5, b6, b7], _ => exact ⟨b0, b1, b2, b3, b4, b5, b6, b7, rfl⟩

abbrev idA (b0 b1 b2 b3 b4 b5 b6 b7 : UInt8) : Array Value := #[.int .u8 (b0.toNat : Int), .int .u8 (b1.toNat : Int), .int .u8 (b2.toNat : Int), .int .u8 (b3.toNat : Int), .int .u8 (b4.toNat : Int), .int .u8 (b5.toNat : Int), .int .u8 (b6.toNat : Int), .int .u8 (b7.toNat : Int)]
abbrev Z4 : Array Value := #[.int .u64 0, .int .u64 0, .int .u64 0, .int .u64 0]
theorem marks_eq (b0 b1 b2 b3 b4 b5 b6 b7 : UInt8) (a b : Nat) (ha : Nm.val [b0, b1, b2, b3] = a) (hb : Nm.val [b4, b5, b6, b7] = b) :
    (Bm.marks [b0, b1, b2, b3, b4, b5, b6, b7]).map U = [.int .u64 ((a : Int) % 1024), .int .u64 (((a : Int) + b) % 1024), .int .u64 (((a : Int) + 2 * b) % 1024), .int .u64 (((a : Int) + 3 * b) % 1024)] := by
  subst ha hb
  simp [Bm.marks, U]

set_option maxHeartbeats 1000000 in
theorem marks_of (b0 b1 b2 b3 b4 b5 b6 b7 : UInt8) (w : World) :
    Calls Try.prog 13 #[idV [b0, b1, b2, b3, b4, b5, b6, b7]] w fun e w' => e = .returned (.agg ((Bm.marks [b0, b1, b2, b3, b4, b5, b6, b7]).map U).toArray) ∧ Below w.heap.size w w' := by
  show Calls Try.prog 13 #[.agg (idA b0 b1 b2 b3 b4 b5 b6 b7)] w _
  obtain ⟨W2, hW2⟩ : ∃ W2, W2 = (w.alloc (.cells (idA b0 b1 b2 b3 b4 b5 b6 b7) 26)).alloc (.cells Z4 39) := ⟨_, rfl⟩
  have hsz : W2.heap.size = w.heap.size + 2 := by rw [hW2]; simp
  have HB : Hid (Below w.heap.size w W2) := by
    show Below w.heap.size w W2
    rw [hW2]; exact ((Below.refl _ w).alloc (Nat.le_refl _) _).alloc (by simp) _
  have z0 : W2.cell? ⟨w.heap.size + 1, 0, none⟩ = some (.int .u64 0) := by rw [hW2]; simp
  have z1 : W2.cell? ⟨w.heap.size + 1, 1, none⟩ = some (.int .u64 0) := by rw [hW2]; simp
  have z2 : W2.cell? ⟨w.heap.size + 1, 2, none⟩ = some (.int .u64 0) := by rw [hW2]; simp
  have z3 : W2.cell? ⟨w.heap.size + 1, 3, none⟩ = some (.int .u64 0) := by rw [hW2]; simp
  have y0 : W2.frozen? ⟨w.heap.size + 1, 0, none⟩ = false := by rw [hW2]; simp
  have y1 : W2.frozen? ⟨w.heap.size + 1, 1, none⟩ = false := by rw [hW2]; simp
  have y2 : W2.frozen? ⟨w.heap.size + 1, 2, none⟩ = false := by rw [hW2]; simp
  have y3 : W2.frozen? ⟨w.heap.size + 1, 3, none⟩ = false := by rw [hW2]; simp
  have hc1 : ∀ j (h : j < [b0, b1, b2, b3].length), W2.cell? ⟨w.heap.size, 0 + j, none⟩ = some (.int .u8 ([b0, b1, b2, b3][j].toNat : Int)) := fun j h => by
    rw [hW2]
    match j, h with
    | 0, _ => simp
    | 1, _ => simp
    | 2, _ => simp
    | 3, _ => simp
  have hc2 : ∀ j (h : j < [b4, b5, b6, b7].length), W2.cell? ⟨w.heap.size, 4 + j, none⟩ = some (.int .u8 ([b4, b5, b6, b7][j].toNat : Int)) := fun j h => by
    rw [hW2]
    match j, h with
    | 0, _ => simp
    | 1, _ => simp
    | 2, _ => simp
    | 3, _ => simp
  have k1 : ∀ X : Since W2.heap.size W2, Calls Try.prog 17 #[.slice (some ⟨w.heap.size, 0, none⟩) 4 8] X.val fun e w' => e = .returned (.int .u64 (Nm.val [b0, b1, b2, b3] : Nat)) ∧ w' = X.val := fun X =>
    bnum_any w.heap.size 0 8 [b0, b1, b2, b3] X.val (by simp) fun j h => (X.property.cell (p := ⟨w.heap.size, 0 + j, none⟩) (by rw [hsz]; show w.heap.size < _; omega)).trans (hc1 j h)
  have k2 : ∀ X : Since W2.heap.size W2, Calls Try.prog 17 #[.slice (some ⟨w.heap.size, 4, none⟩) 4 4] X.val fun e w' => e = .returned (.int .u64 (Nm.val [b4, b5, b6, b7] : Nat)) ∧ w' = X.val := fun X =>
    bnum_any w.heap.size 4 4 [b4, b5, b6, b7] X.val (by simp) fun j h => (X.property.cell (p := ⟨w.heap.size, 4 + j, none⟩) (by rw [hsz]; show w.heap.size < _; omega)).trans (hc2 j h)
  have v1 := Nm.val_lt [b0, b1, b2, b3]
  have v2 := Nm.val_lt [b4, b5, b6, b7]
  simp only [List.length_cons, List.length_nil] at v1 v2
  rw [marks_eq b0 b1 b2 b3 b4 b5 b6 b7 _ _ rfl rfl]
  generalize Nm.val [b0, b1, b2, b3] = a at *
  generalize Nm.val [b4, b5, b6, b7] = b at *
  have g1 : a < 4294967296 := v1
  have g2 : b < 4294967296 := v2
  have hne : Nonempty (Since W2.heap.size W2) := ⟨⟨W2, Below.refl _ _⟩⟩
  dsimp only [idA, Z4] at hW2 ⊢
  clear hc1 hc2 v1 v2
  go_enter Try.func13, Try.ntmps13
  go_wp2_with fail
  rw [← hW2]
  clear hW2
  refine wp_region_since (B := W2.heap.size) (W0 := W2) (by kernel_rfl) (by kernel_rfl) (Below.refl _ _) ?_
  go_big_quiet_step (rfl)
  go_big_quiet_step (exact (k1 _).mono fun _ _ h => ⟨h.1, _, h.2⟩)
  go_big_quiet_step (rfl)
  go_big_quiet_step (exact (k2 _).mono fun _ _ h => ⟨h.1, _, h.2⟩)
  repeat (go_big_quiet_step (fail))
  refine wpQuiet_nil ?_
  rintro w7 ⟨X, rfl⟩
  have hX := X.property
  have HB3 : Hid (Below w.heap.size w X.val) := HB.out.trans (hX.mono HB.out.size)
  have lt1 : w.heap.size + 1 < W2.heap.size := by omega
  have Z0 := (hX.cell (p := ⟨w.heap.size + 1, 0, none⟩) lt1).trans z0
  have Z1 := (hX.cell (p := ⟨w.heap.size + 1, 1, none⟩) lt1).trans z1
  have Z2 := (hX.cell (p := ⟨w.heap.size + 1, 2, none⟩) lt1).trans z2
  have Z3 := (hX.cell (p := ⟨w.heap.size + 1, 3, none⟩) lt1).trans z3
  have Y0 := (hX.frozen (p := ⟨w.heap.size + 1, 0, none⟩) lt1).trans y0
  have Y1 := (hX.frozen (p := ⟨w.heap.size + 1, 1, none⟩) lt1).trans y1
  have Y2 := (hX.frozen (p := ⟨w.heap.size + 1, 2, none⟩) lt1).trans y2
  have Y3 := (hX.frozen (p := ⟨w.heap.size + 1, 3, none⟩) lt1).trans y3
  have lt2 : w.heap.size + 1 < X.val.heap.size := Nat.lt_of_lt_of_le lt1 hX.size
  generalize X.val = w3 at *
  clear z0 z1 z2 z3 y0 y1 y2 y3 k1 k2 hne HB hsz hX lt1
  go_wp2_with fail
  refine wp_loop_rounds 5 ?_
  rw [rounds_succ]
  go_wp2_with fail
  rw [rounds_succ]
  go_wp2_with fail
  rw [rounds_succ]
  go_wp2_with fail
  rw [rounds_succ]
  go_wp2_with fail
  rw [rounds_succ]
  go_wp2_with fail
  refine bodyPost_ret (v := .agg #[.int .u64 ((a : Int) % 1024), .int .u64 (((a : Int) + b) % 1024), .int .u64 (((a : Int) + 2 * b) % 1024), .int .u64 (((a : Int) + 3 * b) % 1024)]) ?_ rfl ⟨rfl, ?_⟩
  · have hres : Try.f13.results = #[.cell 2 39] := by kernel_rfl
    simp only [results, hres]
    go_simp
  · have h1 : w.heap.size ≤ w.heap.size + 1 := by omega
    refine ((((HB3.out.setCell h1 _).setCell h1 _).setCell h1 _).setCell h1 _).alloc ?_ _
    simp
    omega
theorem marks_any (x : List UInt8) (w : World) (h : x.length = 8) :
    Calls Try.prog 13 #[idV x] w fun e w' => e = .returned (.agg ((Bm.marks x).map U).toArray) ∧ Below w.heap.size w w' := by
  obtain ⟨b0, b1, b2, b3, b4, b5, b6, b7, rfl⟩ := eight8 x h
  exact marks_of b0 b1 b2 b3 b4 b5 b6 b7 w
end Go.Proofs.Ytpagbihebahnnaa
