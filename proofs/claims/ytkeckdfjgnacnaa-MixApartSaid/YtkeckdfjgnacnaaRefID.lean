/-
  What ID of the document's answer (package lumref) answers.
-/
import Derived.Test.YtkeckdfjgnacnaaRefNarrow
import Derived.Test.YtkeckdfjgnacnaaBytes
import Derived.Laws.Cover3
namespace Go.Proofs.Ytkeckdfjgnacnaa
open Go.RowKit

theorem eight {α : Type} (l : List α) (h : l.length = 8) : ∃ a b c d e f g k, l = [a, b, c, d, e, f, g, k] := by
  match l, h with
  | [a, b, c, d, e, f, g, k], _ => exact ⟨a, b, c, d, e, f, g, k, rfl⟩

/-- '[]byte(s)' of eight bytes -/
theorem bytes8 (b0 b1 b2 b3 b4 b5 b6 b7 : UInt8) (w : World) : ∃ cap W,
    (convert 9 35 (.string ⟨#[b0, b1, b2, b3, b4, b5, b6, b7]⟩)).run Try.prog w = .ok (.slice (some ⟨w.heap.size, 0, none⟩) 8 cap) W ∧
    (∀ j (h : j < 8), W.cell? ⟨w.heap.size, j, none⟩ = some (.int .u8 ([b0, b1, b2, b3, b4, b5, b6, b7][j].toNat : Int))) ∧ Below w.heap.size w W := by
  refine ⟨_, _, run_bytes_of_string (P := Try.prog) w 9 35 5 ⟨#[b0, b1, b2, b3, b4, b5, b6, b7]⟩ (by kernel_rfl) (by kernel_rfl) (by kernel_rfl), ?_, ?_⟩
  · intro j h
    exact bytes_cell w ⟨#[b0, b1, b2, b3, b4, b5, b6, b7]⟩ _ _ j h
  · exact (Below.refl _ w).drew.alloc (Nat.le_refl _) _

set_option maxHeartbeats 1000000 in
theorem rid_of (N : Nat) (b0 b1 b2 b3 b4 b5 b6 b7 : UInt8) (s : ByteArray) (w : World) (hN : N < 18446744073709551616) (hL : Nm.low 8 N = [b0, b1, b2, b3, b4, b5, b6, b7])
    (hn : ∀ W, Calls Try.prog 8 #[.int .i64 64, .string s] W fun e w' => e = .returned (.int .u64 N) ∧ Below W.heap.size W w') :
    Calls Try.prog 14 #[.string s] w fun e w' => e = .returned (.agg #[B b0, B b1, B b2, B b3, B b4, B b5, B b6, B b7]) ∧ Below w.heap.size w w' := by
  have hwd := fun W => wide_nat N W hN
  rw [hL] at hwd
  have hat : ∀ (W : World) (cap : Nat) (a : Option Addr), (Instr.arrayAt 30 (.slice a 8 cap)).run Try.prog W = .ok (.pointer a) W := fun W cap a => run_arrayAt (P := Try.prog) W 30 5 8 a 8 cap (by kernel_rfl) (by omega)
  go_enter Try.func14, Try.ntmps14
  go_wp2_with fail
  refine (hn _).mono ?_
  rintro e w1 ⟨rfl, hb1⟩
  go_wp2_with fail
  refine (hwd _).mono ?_
  rintro e w2 ⟨rfl, hb2⟩
  have hb12 : Below (w.heap.size + 1) _ w2 := (show Below (w.heap.size + 1) _ w1 by simpa using hb1).trans (hb2.mono (by have := hb1.size; simpa using this))
  have hsz : w.heap.size < w2.heap.size := by have h1 := hb1.size; have h2 := hb2.size; simp at h1; omega
  obtain ⟨cap, W3, hcw, hcl, hb3⟩ := bytes8 b0 b1 b2 b3 b4 b5 b6 b7 w2
  have HB : Hid (Below w.heap.size w W3) := ((Below.refl _ w).alloc (Nat.le_refl _) _).trans ((hb12.mono (by omega)).trans (hb3.mono (by omega)))
  have hb4 := hb12.trans (hb3.mono (by omega))
  have c0 := hcl 0 (by omega)
  have d0 : W3.cell? ⟨w.heap.size, 0, none⟩ = some (.int .u8 0) := (hb4.cell (p := ⟨w.heap.size, 0, none⟩) (by simp)).trans (by simp)
  have f0 : W3.frozen? ⟨w.heap.size, 0, none⟩ = false := (hb4.frozen (p := ⟨w.heap.size, 0, none⟩) (by simp)).trans (by simp)
  have c1 := hcl 1 (by omega)
  have d1 : W3.cell? ⟨w.heap.size, 1, none⟩ = some (.int .u8 0) := (hb4.cell (p := ⟨w.heap.size, 1, none⟩) (by simp)).trans (by simp)
  have f1 : W3.frozen? ⟨w.heap.size, 1, none⟩ = false := (hb4.frozen (p := ⟨w.heap.size, 1, none⟩) (by simp)).trans (by simp)
  have c2 := hcl 2 (by omega)
  have d2 : W3.cell? ⟨w.heap.size, 2, none⟩ = some (.int .u8 0) := (hb4.cell (p := ⟨w.heap.size, 2, none⟩) (by simp)).trans (by simp)
  have f2 : W3.frozen? ⟨w.heap.size, 2, none⟩ = false := (hb4.frozen (p := ⟨w.heap.size, 2, none⟩) (by simp)).trans (by simp)
  have c3 := hcl 3 (by omega)
  have d3 : W3.cell? ⟨w.heap.size, 3, none⟩ = some (.int .u8 0) := (hb4.cell (p := ⟨w.heap.size, 3, none⟩) (by simp)).trans (by simp)
  have f3 : W3.frozen? ⟨w.heap.size, 3, none⟩ = false := (hb4.frozen (p := ⟨w.heap.size, 3, none⟩) (by simp)).trans (by simp)
  have c4 := hcl 4 (by omega)
  have d4 : W3.cell? ⟨w.heap.size, 4, none⟩ = some (.int .u8 0) := (hb4.cell (p := ⟨w.heap.size, 4, none⟩) (by simp)).trans (by simp)
  have f4 : W3.frozen? ⟨w.heap.size, 4, none⟩ = false := (hb4.frozen (p := ⟨w.heap.size, 4, none⟩) (by simp)).trans (by simp)
  have c5 := hcl 5 (by omega)
  have d5 : W3.cell? ⟨w.heap.size, 5, none⟩ = some (.int .u8 0) := (hb4.cell (p := ⟨w.heap.size, 5, none⟩) (by simp)).trans (by simp)
  have f5 : W3.frozen? ⟨w.heap.size, 5, none⟩ = false := (hb4.frozen (p := ⟨w.heap.size, 5, none⟩) (by simp)).trans (by simp)
  have c6 := hcl 6 (by omega)
  have d6 : W3.cell? ⟨w.heap.size, 6, none⟩ = some (.int .u8 0) := (hb4.cell (p := ⟨w.heap.size, 6, none⟩) (by simp)).trans (by simp)
  have f6 : W3.frozen? ⟨w.heap.size, 6, none⟩ = false := (hb4.frozen (p := ⟨w.heap.size, 6, none⟩) (by simp)).trans (by simp)
  have c7 := hcl 7 (by omega)
  have d7 : W3.cell? ⟨w.heap.size, 7, none⟩ = some (.int .u8 0) := (hb4.cell (p := ⟨w.heap.size, 7, none⟩) (by simp)).trans (by simp)
  have f7 : W3.frozen? ⟨w.heap.size, 7, none⟩ = false := (hb4.frozen (p := ⟨w.heap.size, 7, none⟩) (by simp)).trans (by simp)
  simp only [List.getElem_cons_zero, List.getElem_cons_succ] at c0 c1 c2 c3 c4 c5 c6 c7
  clear hcl hb4 hb3 hb12 hb2 hb1 hn hwd hL
  go_wp2_with fail
  refine bodyPost_ret (v := .agg #[B b0, B b1, B b2, B b3, B b4, B b5, B b6, B b7]) ?_ rfl ⟨rfl, ?_⟩
  · have hres : Try.f14.results = #[.cell 2 30] := by kernel_rfl
    simp only [results, hres]
    go_simp
    exact ⟨rfl, rfl, rfl, rfl, rfl, rfl, rfl, rfl⟩
  · have hk : w.heap.size ≤ w.heap.size := Nat.le_refl _
    exact (((((((HB.out.setCell hk _).setCell hk _).setCell hk _).setCell hk _).setCell hk _).setCell hk _).setCell hk _).setCell hk _

theorem rid_any (s : ByteArray) (w : World) (hs : s.size ≤ 140737488351232) :
    Calls Try.prog 14 #[.string s] w fun e w' => e = .returned (.agg ((Nm.low 8 (Mx.narrow 64 s.data.toList)).map B).toArray) ∧ Below w.heap.size w w' := by
  obtain ⟨b0, b1, b2, b3, b4, b5, b6, b7, hL⟩ := eight _ (Nm.low_length 8 (Mx.narrow 64 s.data.toList))
  rw [hL]
  exact rid_of _ b0 b1 b2 b3 b4 b5 b6 b7 s w (Mx.narrow_lt _ _) hL fun W => rnarrow_any 64 s W (by omega) hs
end Go.Proofs.Ytkeckdfjgnacnaa
