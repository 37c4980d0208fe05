/-
  The bytes of '[]byte(s)'.
  What ID of the document's answer (package lumref) answers.
  What ID of package mix answers.
  When two IDs are equal.
  When two blobs, two rows of a pack's list, two IDs are equal.
  Letters and copies (no Go in it): what tokens make, the longest copies, and that no tokens are fewer.
  Letters and copies (no Go in it): Expand with its errors, Pack and Read.
  A token as a value; what isDist, isLetter, isCopy and bytesOf of package lz, and tokenForm of package lumref answer.
  Tokens as they lie in memory; what Check of package lz and Tokens of package lumref answer.
  A region that draws its order, whose operations only read (what is read out of memory too) and whose callees leave what was there: one walk, in the order of the text, over the worlds that are as the first one was below a block.
  slices.Equal over two rows of the same tokens; rows of tokens that a call made.
  What sameBytes of package lz answers: the longest copy from one distance.
  A token that lies in a block of its own.
  What Greedy of package lz answers.
-/
import Derived.Test.YtkhejelmjkpgfaaG0
import Derived.Laws.IdiomStrings
import Derived.Laws.Cover3
import Derived.Stop.BytesEq
import Derived.Laws.StructEq
import Derived.WalkKit
import Derived.Lib.Repeat
import Derived.Deep.Cut
import Derived.Below
import Derived.BigQuiet
import Derived.Deep.CutRange

namespace Go.Proofs.Ytkhejelmjkpgfaa
open Go.RowKit

theorem bytes_cell (w : World) (s : ByteArray) (cap : Nat) (z : Nat × Nat) (j : Nat) (hj : j < s.size) :
    (w.alloc (.cells (bytesRow s cap) 5 z)).drew.cell? ⟨w.heap.size, j, none⟩ = some (.int .u8 (s[j].toNat : Int)) := by
  have hh : (w.alloc (.cells (bytesRow s cap) 5 z)).drew.heap[w.heap.size]? = some (.cells (bytesRow s cap) 5 z) := heap_alloc_new w _
  rw [cell_of_row _ w.heap.size j _ _ _ hh]
  have hsz : j < s.data.size := hj
  rw [bytesRow, Array.getElem?_append_left (by simpa using hsz), Array.getElem?_map, Array.getElem?_eq_getElem hsz]
  rfl
theorem bytes_free (w : World) (s : ByteArray) (cap : Nat) (j : Nat) (hj : j < s.size) :
    (w.alloc (.cells (bytesRow s cap) 5 ((bytesRow s cap).size, (bytesRow s cap).size + 1))).drew.frozen? ⟨w.heap.size, j, none⟩ = false := by
  have hh : (w.alloc (.cells (bytesRow s cap) 5 ((bytesRow s cap).size, (bytesRow s cap).size + 1))).drew.heap[w.heap.size]? = some (.cells (bytesRow s cap) 5 ((bytesRow s cap).size, (bytesRow s cap).size + 1)) := heap_alloc_new w _
  have hsz : j < s.data.size := hj
  simp only [World.frozen?, hh]
  simp [bytesRow]
  omega
end Go.Proofs.Ytkhejelmjkpgfaa

namespace Go.Proofs.Ytkhejelmjkpgfaa
open Go.RowKit
set_option maxRecDepth 4000

theorem eight {α : Type} (l : List α) (h : l.length = 8) : ∃ a b c d e f g k, l = [a, b, c, d, e, f, g, k] := by
  match l, h with
  | [a, b, c, d, e, f, g, k], _ => exact ⟨a, b, c, d, e, f, g, k, rfl⟩

/-- '[]byte(s)' of eight bytes -/
theorem bytes8 (b0 b1 b2 b3 b4 b5 b6 b7 : UInt8) (w : World) : ∃ cap W,
    (convert 9 51 (.string ⟨#[b0, b1, b2, b3, b4, b5, b6, b7]⟩)).run Try.prog w = .ok (.slice (some ⟨w.heap.size, 0, none⟩) 8 cap) W ∧
    (∀ j (h : j < 8), W.cell? ⟨w.heap.size, j, none⟩ = some (.int .u8 ([b0, b1, b2, b3, b4, b5, b6, b7][j].toNat : Int))) ∧ Below w.heap.size w W := by
  refine ⟨_, _, run_bytes_of_string (P := Try.prog) w 9 51 5 ⟨#[b0, b1, b2, b3, b4, b5, b6, b7]⟩ (by kernel_rfl) (by kernel_rfl) (by kernel_rfl), ?_, ?_⟩
  · intro j h
    exact bytes_cell w ⟨#[b0, b1, b2, b3, b4, b5, b6, b7]⟩ _ _ j h
  · exact (Below.refl _ w).drew.alloc (Nat.le_refl _) _

set_option maxHeartbeats 1000000 in
theorem rid_of (N : Nat) (b0 b1 b2 b3 b4 b5 b6 b7 : UInt8) (s : ByteArray) (w : World) (hN : N < 18446744073709551616) (hL : Nm.low 8 N = [b0, b1, b2, b3, b4, b5, b6, b7])
    (hn : ∀ W, Calls Try.prog 42 #[.int .i64 64, .string s] W fun e w' => e = .returned (.int .u64 N) ∧ Below W.heap.size W w') :
    Calls Try.prog 26 #[.string s] w fun e w' => e = .returned (.agg #[B b0, B b1, B b2, B b3, B b4, B b5, B b6, B b7]) ∧ Below w.heap.size w w' := by
  have hwd := fun W => wide_nat N W hN
  rw [hL] at hwd
  have hat : ∀ (W : World) (cap : Nat) (a : Option Addr), (Instr.arrayAt 26 (.slice a 8 cap)).run Try.prog W = .ok (.pointer a) W := fun W cap a => run_arrayAt (P := Try.prog) W 26 5 8 a 8 cap (by kernel_rfl) (by omega)
  go_enter Try.func26, Try.ntmps26
  go_wp2_with fail
  refine (hn _).mono ?_
  rintro e w1 ⟨rfl, hb1⟩
  go_wp2_with fail
  refine (hwd _).mono ?_
  rintro e w2 ⟨rfl, hb2⟩
  have hb12 : Below (w.heap.size + 1) _ w2 := (show Below (w.heap.size + 1) _ w1 by simpa using hb1).trans (hb2.mono (by have := hb1.size; simpa using this))
  have hsz : w.heap.size < w2.heap.size := by have h1 := hb1.size; have h2 := hb2.size; simp at h1; omega
  obtain ⟨cap, W3, hcw, hcl, hb3⟩ := bytes8 b0 b1 b2 b3 b4 b5 b6 b7 w2
  have HB : Hid (Below w.heap.size w W3) := ((Below.refl _ w).alloc (Nat.le_refl _) _).trans ((hb12.mono (by omega)).trans (hb3.mono (by omega)))
  have hb4 := hb12.trans (hb3.mono (by omega))
  have c0 := hcl 0 (by omega)
  have d0 : W3.cell? ⟨w.heap.size, 0, none⟩ = some (.int .u8 0) := (hb4.cell (p := ⟨w.heap.size, 0, none⟩) (by simp)).trans (by simp)
  have f0 : W3.frozen? ⟨w.heap.size, 0, none⟩ = false := (hb4.frozen (p := ⟨w.heap.size, 0, none⟩) (by simp)).trans (by simp)
  have c1 := hcl 1 (by omega)
  have d1 : W3.cell? ⟨w.heap.size, 1, none⟩ = some (.int .u8 0) := (hb4.cell (p := ⟨w.heap.size, 1, none⟩) (by simp)).trans (by simp)
  have f1 : W3.frozen? ⟨w.heap.size, 1, none⟩ = false := (hb4.frozen (p := ⟨w.heap.size, 1, none⟩) (by simp)).trans (by simp)
  have c2 := hcl 2 (by omega)
  have d2 : W3.cell? ⟨w.heap.size, 2, none⟩ = some (.int .u8 0) := (hb4.cell (p := ⟨w.heap.size, 2, none⟩) (by simp)).trans (by simp)
  have f2 : W3.frozen? ⟨w.heap.size, 2, none⟩ = false := (hb4.frozen (p := ⟨w.heap.size, 2, none⟩) (by simp)).trans (by simp)
  have c3 := hcl 3 (by omega)
  have d3 : W3.cell? ⟨w.heap.size, 3, none⟩ = some (.int .u8 0) := (hb4.cell (p := ⟨w.heap.size, 3, none⟩) (by simp)).trans (by simp)
  have f3 : W3.frozen? ⟨w.heap.size, 3, none⟩ = false := (hb4.frozen (p := ⟨w.heap.size, 3, none⟩) (by simp)).trans (by simp)
  have c4 := hcl 4 (by omega)
  have d4 : W3.cell? ⟨w.heap.size, 4, none⟩ = some (.int .u8 0) := (hb4.cell (p := ⟨w.heap.size, 4, none⟩) (by simp)).trans (by simp)
  have f4 : W3.frozen? ⟨w.heap.size, 4, none⟩ = false := (hb4.frozen (p := ⟨w.heap.size, 4, none⟩) (by simp)).trans (by simp)
  have c5 := hcl 5 (by omega)
  have d5 : W3.cell? ⟨w.heap.size, 5, none⟩ = some (.int .u8 0) := (hb4.cell (p := ⟨w.heap.size, 5, none⟩) (by simp)).trans (by simp)
  have f5 : W3.frozen? ⟨w.heap.size, 5, none⟩ = false := (hb4.frozen (p := ⟨w.heap.size, 5, none⟩) (by simp)).trans (by simp)
  have c6 := hcl 6 (by omega)
  have d6 : W3.cell? ⟨w.heap.size, 6, none⟩ = some (.int .u8 0) := (hb4.cell (p := ⟨w.heap.size, 6, none⟩) (by simp)).trans (by simp)
  have f6 : W3.frozen? ⟨w.heap.size, 6, none⟩ = false := (hb4.frozen (p := ⟨w.heap.size, 6, none⟩) (by simp)).trans (by simp)
  have c7 := hcl 7 (by omega)
  have d7 : W3.cell? ⟨w.heap.size, 7, none⟩ = some (.int .u8 0) := (hb4.cell (p := ⟨w.heap.size, 7, none⟩) (by simp)).trans (by simp)
  have f7 : W3.frozen? ⟨w.heap.size, 7, none⟩ = false := (hb4.frozen (p := ⟨w.heap.size, 7, none⟩) (by simp)).trans (by simp)
  simp only [List.getElem_cons_zero, List.getElem_cons_succ] at c0 c1 c2 c3 c4 c5 c6 c7
  clear hcl hb4 hb3 hb12 hb2 hb1 hn hwd hL
  go_wp2_with fail
  refine bodyPost_ret (v := .agg #[B b0, B b1, B b2, B b3, B b4, B b5, B b6, B b7]) ?_ rfl ⟨rfl, ?_⟩
  · have hres : Try.f26.results = #[.cell 2 26] := by kernel_rfl
    simp only [results, hres]
    go_simp
    exact ⟨rfl, rfl, rfl, rfl, rfl, rfl, rfl, rfl⟩
  · have hk : w.heap.size ≤ w.heap.size := Nat.le_refl _
    exact (((((((HB.out.setCell hk _).setCell hk _).setCell hk _).setCell hk _).setCell hk _).setCell hk _).setCell hk _).setCell hk _

theorem rid_any (s : ByteArray) (w : World) (hs : s.size ≤ 140737488351232) :
    Calls Try.prog 26 #[.string s] w fun e w' => e = .returned (.agg ((Nm.low 8 (Mx.narrow 64 s.data.toList)).map B).toArray) ∧ Below w.heap.size w w' := by
  obtain ⟨b0, b1, b2, b3, b4, b5, b6, b7, hL⟩ := eight _ (Nm.low_length 8 (Mx.narrow 64 s.data.toList))
  rw [hL]
  exact rid_of _ b0 b1 b2 b3 b4 b5 b6 b7 s w (Mx.narrow_lt _ _) hL fun W => rnarrow_any 64 s W (by omega) hs
end Go.Proofs.Ytkhejelmjkpgfaa

namespace Go.Proofs.Ytkhejelmjkpgfaa
open Go.RowKit
set_option maxRecDepth 4000

/-- what lies in cell j when d bytes, the last ones first, have been written -/
def idAt (l : List UInt8) (d j : Nat) : Int := if 8 - d ≤ j then ((l.getD j 0).toNat : Int) else 0
theorem low8_get (N d : Nat) (hd : d < 8) : (Nm.low 8 N).getD (7 - d) 0 = UInt8.ofNat (N / 256 ^ d % 256) := by
  match d, hd with
  | 0, _ => rfl
  | 1, _ => rfl
  | 2, _ => rfl
  | 3, _ => rfl
  | 4, _ => rfl
  | 5, _ => rfl
  | 6, _ => rfl
  | 7, _ => rfl
theorem idAt_new (N d : Nat) (hd : d < 8) : ((N / 256 ^ d : Nat) : Int) % 256 = idAt (Nm.low 8 N) (d + 1) (7 - d) := by
  rw [idAt, if_pos (by omega), low8_get N d hd, UInt8.toNat_ofNat']
  omega
theorem id_step {l : List UInt8} {d G : Nat} {w : World} {c : Int} (hd : d < 8) (hc : c = idAt l (d + 1) (7 - d)) (h : ∀ j, j < 8 → w.cell? ⟨G, j, none⟩ = some (.int .u8 (idAt l d j))) :
    ∀ j, j < 8 → (w.setCell ⟨G, 7 - d, none⟩ (.int .u8 c)).cell? ⟨G, j, none⟩ = some (.int .u8 (idAt l (d + 1) j)) := by
  intro j hj
  by_cases e : j = 7 - d
  · subst e
    rw [World.cell?_setCell_same _ _ _ (h _ hj), hc]
  · rw [World.cell?_setCell_other _ _ _ _ (by intro h; exact e (congrArg Addr.off h).symm), h j hj, idAt, idAt]
    by_cases hjk : 8 - d ≤ j
    · rw [if_pos hjk, if_pos (by omega)]
    · rw [if_neg hjk, if_neg (by omega)]

set_option maxHeartbeats 1000000 in
theorem id_of (N : Nat) (b0 b1 b2 b3 b4 b5 b6 b7 : UInt8) (s : ByteArray) (w : World) (hL : Nm.low 8 N = [b0, b1, b2, b3, b4, b5, b6, b7])
    (hn : ∀ W, Calls Try.prog 40 #[.string s] W fun e w' => e = .returned (.int .u64 N) ∧ Below W.heap.size W w') :
    Calls Try.prog 24 #[.string s] w fun e w' => e = .returned (.agg #[B b0, B b1, B b2, B b3, B b4, B b5, B b6, B b7]) ∧ Below w.heap.size w w' := by
  have HW : Hid (∀ d, d < 8 → ((N / 256 ^ d : Nat) : Int) % 256 = idAt (Nm.low 8 N) (d + 1) (7 - d)) := idAt_new N
  rw [hL] at HW
  clear hL
  go_enter Try.func24, Try.ntmps24
  go_wp2_with fail
  refine (hn _).mono ?_
  rintro e w1 ⟨rfl, hb1⟩
  have HB1 : Hid (Below w.heap.size w w1) := ((((Below.refl _ w).alloc (Nat.le_refl _) _).alloc (by simp) _)).trans (hb1.mono (by simp; omega))
  have HC : Hid (∀ j, j < 8 → w1.cell? ⟨w.heap.size + 1, j, none⟩ = some (.int .u8 (idAt [b0, b1, b2, b3, b4, b5, b6, b7] 0 j))) := fun j hj => by
    rw [idAt, if_neg (by omega)]
    refine (hb1.cell (p := ⟨w.heap.size + 1, j, none⟩) (by simp)).trans ?_
    match j, hj with
    | 0, _ => simp
    | 1, _ => simp
    | 2, _ => simp
    | 3, _ => simp
    | 4, _ => simp
    | 5, _ => simp
    | 6, _ => simp
    | 7, _ => simp
  have HF : Hid (∀ j, j < 8 → w1.frozen? ⟨w.heap.size + 1, j, none⟩ = false) := fun j hj =>
    (hb1.frozen (p := ⟨w.heap.size + 1, j, none⟩) (by simp)).trans (by simp)
  have HC0 : Hid (∀ j, j < 8 → w1.cell? ⟨w.heap.size, j, none⟩ = some (.int .u8 0)) := fun j hj => by
    refine (hb1.cell (p := ⟨w.heap.size, j, none⟩) (by simp; omega)).trans ?_
    match j, hj with
    | 0, _ => simp
    | 1, _ => simp
    | 2, _ => simp
    | 3, _ => simp
    | 4, _ => simp
    | 5, _ => simp
    | 6, _ => simp
    | 7, _ => simp
  have HF0 : Hid (∀ j, j < 8 → w1.frozen? ⟨w.heap.size, j, none⟩ = false) := fun j hj =>
    (hb1.frozen (p := ⟨w.heap.size, j, none⟩) (by simp; omega)).trans (by simp)
  clear hb1 hn
  go_wp2_with fail
  go_loopw [4, 5] (fun n i wr => ∃ d : Nat, d ≤ 8 ∧ n = .int .u64 ((N / 256 ^ d : Nat) : Int) ∧ i = .int .i64 (7 - (d : Int)) ∧ Hid (∀ j, j < 8 → wr.cell? ⟨w.heap.size + 1, j, none⟩ = some (.int .u8 (idAt [b0, b1, b2, b3, b4, b5, b6, b7] d j))) ∧
      Hid (∀ j, j < 8 → wr.frozen? ⟨w.heap.size + 1, j, none⟩ = false) ∧ Hid (∀ j, j < 8 → wr.cell? ⟨w.heap.size, j, none⟩ = some (.int .u8 0)) ∧ Hid (∀ j, j < 8 → wr.frozen? ⟨w.heap.size, j, none⟩ = false) ∧ Hid (Below w.heap.size w wr)) (fun _ i _ => (intOf i + 1).toNat)
  case atStart => exact ⟨0, by omega, by simp, rfl, HC, HF, HC0, HF0, HB1⟩
  case round =>
    obtain ⟨d, hd, rfl, rfl, hc, hf, hc0, hf0, hb⟩ := hrel
    clear HC HF HC0 HF0 HB1
    by_cases hlt : d < 8
    · have hst := id_step (G := w.heap.size + 1) (w := wr) hlt (HW.out d hlt) hc.out
      have HS : Hid (∀ j, j < 8 → (wr.setCell ⟨w.heap.size + 1, 7 - d, none⟩ (.int .u8 (((N / 256 ^ d : Nat) : Int) % 256))).cell? ⟨w.heap.size + 1, j, none⟩ = some (.int .u8 (idAt [b0, b1, b2, b3, b4, b5, b6, b7] (d + 1) j))) := hst
      clear hst
      have hq : ((N / 256 ^ d : Nat) : Int) / 256 = ((N / 256 ^ (d + 1) : Nat) : Int) := by
        rw [Nat.pow_succ, ← Nat.div_div_eq_div_mul]; omega
      have HQ : Hid (((N / 256 ^ d : Nat) : Int) / 256 = ((N / 256 ^ (d + 1) : Nat) : Int)) := hq
      clear hq
      have hkI : 7 - (d : Int) = ((7 - d : Nat) : Int) := by omega
      have hck := hc.out (7 - d) (by omega)
      have hfk := hf.out (7 - d) (by omega)
      generalize N / 256 ^ d = M at *
      go_wp2_with fail
      go_round
      case rel =>
        refine ⟨d + 1, by omega, int_eq HQ.out, int_eq (by omega), HS, ?_, ?_, ?_, ?_⟩
        · intro j hj
          simpa using hf.out j hj
        · intro j hj
          rw [World.cell?_setCell_other _ _ _ _ (by intro h; have := congrArg Addr.block h; simp at this)]
          exact hc0.out j hj
        · intro j hj
          simpa using hf0.out j hj
        · exact hb.out.setCell (by simp) _
      case measure => simp only [intOf]; omega
    · obtain rfl : d = 8 := by omega
      have c0 : wr.cell? ⟨w.heap.size + 1, 0, none⟩ = some (.int .u8 (b0.toNat : Int)) := hc.out 0 (by omega)
      have d0 := hc0.out 0 (by omega)
      have f0 := hf0.out 0 (by omega)
      have c1 : wr.cell? ⟨w.heap.size + 1, 1, none⟩ = some (.int .u8 (b1.toNat : Int)) := hc.out 1 (by omega)
      have d1 := hc0.out 1 (by omega)
      have f1 := hf0.out 1 (by omega)
      have c2 : wr.cell? ⟨w.heap.size + 1, 2, none⟩ = some (.int .u8 (b2.toNat : Int)) := hc.out 2 (by omega)
      have d2 := hc0.out 2 (by omega)
      have f2 := hf0.out 2 (by omega)
      have c3 : wr.cell? ⟨w.heap.size + 1, 3, none⟩ = some (.int .u8 (b3.toNat : Int)) := hc.out 3 (by omega)
      have d3 := hc0.out 3 (by omega)
      have f3 := hf0.out 3 (by omega)
      have c4 : wr.cell? ⟨w.heap.size + 1, 4, none⟩ = some (.int .u8 (b4.toNat : Int)) := hc.out 4 (by omega)
      have d4 := hc0.out 4 (by omega)
      have f4 := hf0.out 4 (by omega)
      have c5 : wr.cell? ⟨w.heap.size + 1, 5, none⟩ = some (.int .u8 (b5.toNat : Int)) := hc.out 5 (by omega)
      have d5 := hc0.out 5 (by omega)
      have f5 := hf0.out 5 (by omega)
      have c6 : wr.cell? ⟨w.heap.size + 1, 6, none⟩ = some (.int .u8 (b6.toNat : Int)) := hc.out 6 (by omega)
      have d6 := hc0.out 6 (by omega)
      have f6 := hf0.out 6 (by omega)
      have c7 : wr.cell? ⟨w.heap.size + 1, 7, none⟩ = some (.int .u8 (b7.toNat : Int)) := hc.out 7 (by omega)
      have d7 := hc0.out 7 (by omega)
      have f7 := hf0.out 7 (by omega)
      generalize N / 256 ^ 8 = M at *
      clear hc hf hc0 hf0 hd hlt HW
      go_wp2_with fail
      refine bodyPost_ret (v := .agg #[B b0, B b1, B b2, B b3, B b4, B b5, B b6, B b7]) ?_ rfl ⟨rfl, ?_⟩
      · have hres : Try.f24.results = #[.cell 2 26] := by kernel_rfl
        simp only [results, hres]
        go_simp
        exact ⟨rfl, rfl, rfl, rfl, rfl, rfl, rfl, rfl⟩
      · have hk : w.heap.size ≤ w.heap.size := Nat.le_refl _
        exact (((((((hb.out.setCell hk _).setCell hk _).setCell hk _).setCell hk _).setCell hk _).setCell hk _).setCell hk _).setCell hk _

theorem id_any (s : ByteArray) (w : World) (hs : s.size ≤ 140737488351232) :
    Calls Try.prog 24 #[.string s] w fun e w' => e = .returned (.agg ((Nm.low 8 (Mx.narrow 64 s.data.toList)).map B).toArray) ∧ Below w.heap.size w w' := by
  obtain ⟨b0, b1, b2, b3, b4, b5, b6, b7, hL⟩ := eight _ (Nm.low_length 8 (Mx.narrow 64 s.data.toList))
  rw [hL]
  exact id_of _ b0 b1 b2 b3 b4 b5 b6 b7 s w hL fun W => sum_any s W hs
end Go.Proofs.Ytkhejelmjkpgfaa

namespace Go.Proofs.Ytkhejelmjkpgfaa
open Go.RowKit

theorem id_eq (W : World) (xs ys : List UInt8) (hx : xs.length = 8) (hy : ys.length = 8) :
    (Op.equalIn 10000 26 (.agg (xs.map B).toArray) (.agg (ys.map B).toArray)).run Try.prog W = .ok (xs == ys) W :=
  run_equalIn_bytes (P := Try.prog) W 9998 26 5 8 (by kernel_rfl) (by kernel_rfl) (fun w => by go_simp) xs ys hx hy
end Go.Proofs.Ytkhejelmjkpgfaa

namespace Go.Proofs.Ytkhejelmjkpgfaa
open Go.RowKit

theorem eq_fields2 {P : Program} (W : World) (d : Nat) (xs ys : Array Value) (f0 f1 : Field) (v0 v1 u0 u1 : Value) (a b : Bool) (n0 : f0.name ≠ "_") (n1 : f1.name ≠ "_")
    (p0 : (part f0.type xs f0.offset).run P W = .ok v0 W) (p1 : (part f1.type xs f1.offset).run P W = .ok v1 W) (q0 : (part f0.type ys f0.offset).run P W = .ok u0 W) (q1 : (part f1.type ys f1.offset).run P W = .ok u1 W)
    (e0 : (Op.equalIn d f0.type v0 u0).run P W = .ok a W) (e1 : (Op.equalIn d f1.type v1 u1).run P W = .ok b W) :
    (Op.eqFields d xs ys [f0, f1]).run P W = .ok (a && b) W := by
  cases a <;> cases b <;> simp only [Op.eqFields, if_pos n0, if_pos n1, Sem.run_bind, p0, p1, q0, q1, Result.andThen_ok, e0, e1, Bool.not_true, Bool.not_false, Bool.false_eq_true, if_false, if_true, Sem.run_pure, Bool.and_true, Bool.and_false, Bool.and_self]
theorem eq_fields4 {P : Program} (W : World) (d : Nat) (xs : Array Value) (f0 f1 f2 f3 : Field) (v0 v1 v2 v3 : Value) (n0 : f0.name ≠ "_") (n1 : f1.name ≠ "_") (n2 : f2.name ≠ "_") (n3 : f3.name ≠ "_")
    (p0 : (part f0.type xs f0.offset).run P W = .ok v0 W) (p1 : (part f1.type xs f1.offset).run P W = .ok v1 W) (p2 : (part f2.type xs f2.offset).run P W = .ok v2 W) (p3 : (part f3.type xs f3.offset).run P W = .ok v3 W)
    (e0 : (Op.equalIn d f0.type v0 v0).run P W = .ok true W) (e1 : (Op.equalIn d f1.type v1 v1).run P W = .ok true W) (e2 : (Op.equalIn d f2.type v2 v2).run P W = .ok true W) (e3 : (Op.equalIn d f3.type v3 v3).run P W = .ok true W) :
    (Op.eqFields d xs xs [f0, f1, f2, f3]).run P W = .ok true W := by
  simp only [Op.eqFields, if_pos n0, if_pos n1, if_pos n2, if_pos n3, Sem.run_bind, p0, p1, p2, p3, Result.andThen_ok, e0, e1, e2, e3, Bool.not_true, Bool.false_eq_true, if_false, Sem.run_pure]

theorem fields_bl : ∃ f0 f1, (Try.prog.fieldsOf 24).toList = [f0, f1] ∧ f0.type = 3 ∧ f0.offset = 0 ∧ f0.name ≠ "_" ∧ f1.type = 9 ∧ f1.offset = 1 ∧ f1.name ≠ "_" := by
  rw [show (Try.prog.fieldsOf 24) = _ from by unfold Program.fieldsOf; rw [Try.underlying24]]
  exact ⟨_, _, rfl, rfl, rfl, by decide, rfl, rfl, by decide⟩
/-- are two blobs the same? -/
def blSame (a b : Blb) : Bool := (a.kind == b.kind) && (a.bytes.toList == b.bytes.toList)
theorem blSame_self (a : Blb) : blSame a a = true := by simp [blSame]
theorem blSame_iff {a b : Blb} : blSame a b = true ↔ a = b := by
  constructor
  · intro h
    simp only [blSame, Bool.and_eq_true, beq_iff_eq, Lib.toList_data] at h
    exact Blb.p_inj (Prod.ext h.1 h.2)
  · rintro rfl
    exact blSame_self a
theorem bl_cmp_at (d : Nat) (W : World) (a b : Blb) :
    (Op.equalIn (d + 1 + 1) 24 (.agg #[.int .i64 a.kind, .string a.bytes]) (.agg #[.int .i64 b.kind, .string b.bytes])).run Try.prog W = .ok (blSame a b) W := by
  have hp : Try.prog.stoodInHeld 24 = false := by kernel_rfl
  have hf : Try.prog.underlying 24 = some (.struct (Try.prog.fieldsOf 24)) := by kernel_rfl
  obtain ⟨f0, f1, hfs, t0, o0, n0, t1, o1, n1⟩ := fields_bl
  have h0 : (Op.equalIn (d + 1) 3 (.int .i64 a.kind) (.int .i64 b.kind)).run Try.prog W = .ok (a.kind == b.kind) W := run_equalIn_int W d 3 .i64 .i64 a.kind b.kind (by kernel_rfl)
  have h1 : (Op.equalIn (d + 1) 9 (.string a.bytes) (.string b.bytes)).run Try.prog W = .ok (a.bytes.toList == b.bytes.toList) W := run_equalIn_string (P := Try.prog) W d 9 a.bytes b.bytes (by kernel_rfl)
  rw [run_equalIn_struct W (d + 1) 24 _ _ hf hp, hfs]
  exact eq_fields2 W (d + 1) _ _ f0 f1 (.int .i64 a.kind) (.string a.bytes) (.int .i64 b.kind) (.string b.bytes) _ _ n0 n1 (by rw [t0, o0]; simp [part, go_sem]) (by rw [t1, o1]; simp [part, go_sem]) (by rw [t0, o0]; simp [part, go_sem]) (by rw [t1, o1]; simp [part, go_sem]) (by rw [t0]; exact h0) (by rw [t1]; exact h1)
theorem bl_cmp (W : World) (a b : Blb) :
    (Op.equalIn 10000 24 (.agg #[.int .i64 a.kind, .string a.bytes]) (.agg #[.int .i64 b.kind, .string b.bytes])).run Try.prog W = .ok (blSame a b) W := bl_cmp_at 9998 W a b

theorem fields_en : ∃ f0 f1 f2 f3, (Try.prog.fieldsOf 38).toList = [f0, f1, f2, f3] ∧ f0.type = 26 ∧ f0.offset = 0 ∧ f0.name ≠ "_" ∧ f1.type = 3 ∧ f1.offset = 8 ∧ f1.name ≠ "_" ∧ f2.type = 3 ∧ f2.offset = 9 ∧ f2.name ≠ "_" ∧ f3.type = 3 ∧ f3.offset = 10 ∧ f3.name ≠ "_" := by
  rw [show (Try.prog.fieldsOf 38) = _ from by unfold Program.fieldsOf; rw [Try.underlying38]]
  exact ⟨_, _, _, _, rfl, rfl, rfl, by decide, rfl, rfl, by decide, rfl, rfl, by decide, rfl, rfl, by decide⟩
theorem part_id (W : World) (e : Ent) : (part 26 (enC e).toArray 0).run Try.prog W = .ok (.agg (e.id.map B).toArray) W := by
  have h : List.take 8 (enC e) = List.map B e.id := by
    rw [enC, List.take_append_of_le_length (by rw [List.length_map, e.hid]; omega), List.take_of_length_le (by rw [List.length_map, e.hid]; omega)]
  simp [part, go_sem, h]
theorem enC_8 (e : Ent) : (enC e)[8]? = some (.int .i64 e.kind) := by
  rw [enC, List.getElem?_append_right (by simp [e.hid]), List.length_map, e.hid]; rfl
theorem enC_9 (e : Ent) : (enC e)[9]? = some (.int .i64 e.at_) := by
  rw [enC, List.getElem?_append_right (by simp [e.hid]), List.length_map, e.hid]; rfl
theorem enC_10 (e : Ent) : (enC e)[10]? = some (.int .i64 e.len) := by
  rw [enC, List.getElem?_append_right (by simp [e.hid]), List.length_map, e.hid]; rfl
theorem part_kind (W : World) (e : Ent) : (part 3 (enC e).toArray 8).run Try.prog W = .ok (.int .i64 e.kind) W := by
  have h := enC_8 e
  simp [part, go_sem, h]
theorem part_at_ (W : World) (e : Ent) : (part 3 (enC e).toArray 9).run Try.prog W = .ok (.int .i64 e.at_) W := by
  have h := enC_9 e
  simp [part, go_sem, h]
theorem part_len (W : World) (e : Ent) : (part 3 (enC e).toArray 10).run Try.prog W = .ok (.int .i64 e.len) W := by
  have h := enC_10 e
  simp [part, go_sem, h]
theorem id_eq_at (W : World) (d : Nat) (xs ys : List UInt8) (hx : xs.length = 8) (hy : ys.length = 8) :
    (Op.equalIn (d + 2) 26 (.agg (xs.map B).toArray) (.agg (ys.map B).toArray)).run Try.prog W = .ok (xs == ys) W :=
  run_equalIn_bytes (P := Try.prog) W d 26 5 8 (by kernel_rfl) (by kernel_rfl) (fun w => by go_simp) xs ys hx hy
theorem en_eq_at (d : Nat) (W : World) (e : Ent) :
    (Op.equalIn (d + 2 + 1) 38 (.agg (enC e).toArray) (.agg (enC e).toArray)).run Try.prog W = .ok true W := by
  have hp : Try.prog.stoodInHeld 38 = false := by kernel_rfl
  have hf : Try.prog.underlying 38 = some (.struct (Try.prog.fieldsOf 38)) := by kernel_rfl
  obtain ⟨f0, f1, f2, f3, hfs, t0, o0, n0, t1, o1, n1, t2, o2, n2, t3, o3, n3⟩ := fields_en
  have hi : ∀ i : Int, (Op.equalIn (d + 2) 3 (.int .i64 i) (.int .i64 i)).run Try.prog W = .ok true W := fun i => by
    have := run_equalIn_int (P := Try.prog) W (d + 1) 3 .i64 .i64 i i (by kernel_rfl)
    rwa [beq_self_eq_true] at this
  have h0 := id_eq_at W d e.id e.id e.hid e.hid
  rw [beq_self_eq_true] at h0
  rw [run_equalIn_struct W (d + 2) 38 _ _ hf hp, hfs]
  exact eq_fields4 W (d + 2) _ f0 f1 f2 f3 _ _ _ _ n0 n1 n2 n3 (by rw [t0, o0]; exact part_id W e) (by rw [t1, o1]; exact part_kind W e) (by rw [t2, o2]; exact part_at_ W e) (by rw [t3, o3]; exact part_len W e) (by rw [t0]; exact h0) (by rw [t1]; exact hi _) (by rw [t2]; exact hi _) (by rw [t3]; exact hi _)
theorem en_eq (W : World) (e : Ent) : (Op.equalIn 10000 38 (.agg (enC e).toArray) (.agg (enC e).toArray)).run Try.prog W = .ok true W := en_eq_at 9997 W e
end Go.Proofs.Ytkhejelmjkpgfaa

namespace Go.Proofs.Ytkhejelmjkpgfaa
namespace Lz

abbrev Bs := List UInt8
/-- a letter (len 0), or a copy -/
structure Tk where
  lit : UInt8
  len : Nat
  dist : Nat
def Tk.size (t : Tk) : Nat := if t.len = 0 then 1 else t.len
def cpy (out : Bs) (d : Nat) : Nat → Bs
  | 0 => out
  | n + 1 => cpy out d n ++ [(cpy out d n).getD ((cpy out d n).length - d) 0]
/-- what has been made, and this token's bytes -/
def Tk.make (t : Tk) (out : Bs) : Bs := if t.len = 0 then out ++ [t.lit] else cpy out t.dist t.len
theorem Tk.size_pos (t : Tk) : 1 ≤ t.size := by unfold Tk.size; split <;> omega

theorem cpy_length (out : Bs) (d n : Nat) : (cpy out d n).length = out.length + n := by
  induction n with
  | zero => rfl
  | succ n ih => rw [cpy, List.length_append, ih]; rfl
theorem make_length (t : Tk) (out : Bs) : (t.make out).length = out.length + t.size := by
  unfold Tk.make Tk.size
  split
  · simp
  · rw [cpy_length]
theorem cpy_old (out : Bs) (d n j : Nat) (h : j < out.length) : (cpy out d n)[j]? = out[j]? := by
  induction n with
  | zero => rfl
  | succ n ih => rw [cpy, List.getElem?_append_left (by rw [cpy_length]; omega), ih]
theorem cpy_new (out : Bs) (d : Nat) (h1 : 1 ≤ d) (hd : d ≤ out.length) (n j : Nat) (h : j < n) : (cpy out d n)[out.length + j]? = (cpy out d n)[out.length + j - d]? := by
  induction n with
  | zero => omega
  | succ n ih =>
    have hl := cpy_length out d n
    rw [cpy, List.getElem?_append_left (i := out.length + j - d) (by omega)]
    by_cases hj : j < n
    · rw [List.getElem?_append_left (by omega), ih hj]
    · obtain rfl : j = n := by omega
      have hlt : out.length + j - d < (cpy out d j).length := by omega
      rw [List.getElem?_append_right (by omega), hl, Nat.sub_self, List.getElem?_eq_getElem hlt, List.getElem?_cons_zero, List.getD_eq_getElem?_getD, List.getElem?_eq_getElem hlt, Option.getD_some]
/-- what comes behind the old bytes goes round them, d by d -/
theorem cpy_mod (out : Bs) (d : Nat) (h1 : 1 ≤ d) (hd : d ≤ out.length) (n j : Nat) (h : j < n) : (cpy out d n)[out.length + j]? = out[out.length - d + j % d]? := by
  induction j using Nat.strongRecOn with
  | ind j ih =>
    rw [cpy_new out d h1 hd n j h]
    by_cases hj : j < d
    · rw [Nat.mod_eq_of_lt hj, show out.length + j - d = out.length - d + j from by omega, cpy_old _ _ _ _ (by omega)]
    · rw [show out.length + j - d = out.length + (j - d) from by omega, ih (j - d) (by omega) (by omega), ← Nat.mod_eq_sub_mod (by omega)]

/-! ### a copy's bytes stand d bytes ahead -/
def M (s : Bs) (p d n : Nat) : Prop := p + n ≤ s.length ∧ ∀ j, j < n → s[p + j]? = s[p + j - d]?
theorem M.none {s : Bs} {p d : Nat} (h : p ≤ s.length) : M s p d 0 := ⟨by omega, fun j hj => absurd hj (Nat.not_lt_zero _)⟩
theorem M.succ {s : Bs} {p d n : Nat} (h : M s p d n) (h1 : p + n < s.length) (h2 : s[p + n]? = s[p + n - d]?) : M s p d (n + 1) :=
  ⟨by omega, fun j hj => by
    by_cases e : j < n
    · exact h.2 j e
    · obtain rfl : j = n := by omega
      exact h2⟩
theorem M.less {s : Bs} {p d n m : Nat} (h : M s p d n) (hm : m ≤ n) : M s p d m := ⟨by have := h.1; omega, fun j hj => h.2 j (by omega)⟩
theorem M.tail {s : Bs} {q d n p : Nat} (h : M s q d n) (h1 : q ≤ p) (h2 : p ≤ q + n) : M s p d (q + n - p) :=
  ⟨by have := h.1; omega, fun j hj => by
    have := h.2 (p - q + j) (by omega)
    rwa [show q + (p - q + j) = p + j from by omega] at this⟩
theorem cpy_of {s : Bs} {p d n : Nat} (h1 : 1 ≤ d) (hd : d ≤ p) (h : M s p d n) : cpy (s.take p) d n = s.take (p + n) := by
  induction n with
  | zero => rfl
  | succ n ih =>
    have hs := h.1
    have e := h.2 n (Nat.lt_succ_self n)
    rw [cpy, ih (h.less (Nat.le_succ n)), List.length_take, Nat.min_eq_left (by omega), List.getD_eq_getElem?_getD, List.getElem?_take_of_lt (by omega), ← e, List.getElem?_eq_getElem (by omega), Option.getD_some,
      show p + (n + 1) = (p + n) + 1 from rfl, List.take_succ_eq_append_getElem (by omega)]
theorem M.of_cpy {s : Bs} {p d n : Nat} (h1 : 1 ≤ d) (hd : d ≤ p) (hs : p + n ≤ s.length) (h : cpy (s.take p) d n = s.take (p + n)) : M s p d n := by
  refine ⟨hs, fun j hj => ?_⟩
  have hp : (s.take p).length = p := by rw [List.length_take]; omega
  have := cpy_new (s.take p) d h1 (by omega) n j hj
  rw [hp, h, List.getElem?_take_of_lt (by omega), List.getElem?_take_of_lt (by omega)] at this
  exact this

/-! ### the longest copy at a place -/
def ml (s : Bs) (p d : Nat) : Nat → Nat
  | 0 => 0
  | k + 1 => if ml s p d k = k ∧ p + k < s.length ∧ s[p + k]? = s[p + k - d]? then k + 1 else ml s p d k
theorem ml_le (s : Bs) (p d k : Nat) : ml s p d k ≤ k := by
  induction k with
  | zero => exact Nat.le_refl _
  | succ k ih => rw [ml]; split <;> omega
theorem ml_M {s : Bs} {p : Nat} (hp : p ≤ s.length) (d k : Nat) : M s p d (ml s p d k) := by
  induction k with
  | zero => exact M.none hp
  | succ k ih =>
    rw [ml]
    split
    · rename_i h
      rw [h.1] at ih
      exact ih.succ h.2.1 h.2.2
    · exact ih
theorem ml_full {s : Bs} {p d k : Nat} (h : M s p d k) : ml s p d k = k := by
  induction k with
  | zero => rfl
  | succ k ih => rw [ml, if_pos ⟨ih (h.less (Nat.le_succ k)), by have := h.1; omega, h.2 k (Nat.lt_succ_self k)⟩]
theorem ml_max {s : Bs} {p d k m : Nat} (hm : m ≤ k) (h : M s p d m) : m ≤ ml s p d k := by
  induction k with
  | zero => omega
  | succ k ih =>
    by_cases e : m ≤ k
    · have := ih e
      have := ml_le s p d k
      rw [ml]
      split <;> omega
    · obtain rfl : m = k + 1 := by omega
      rw [ml_full h]
      exact Nat.le_refl _
/-- where the count stops it is the longest -/
theorem ml_stop {s : Bs} {p d k n : Nat} (hp : p ≤ s.length) (hn : n ≤ k) (h : M s p d n) (hs : ¬ (n < k ∧ p + n < s.length ∧ s[p + n]? = s[p + n - d]?)) : n = ml s p d k := by
  have h1 := ml_max hn h
  have h2 := ml_M hp d k
  have h3 := ml_le s p d k
  apply Classical.byContradiction
  intro e
  exact hs ⟨by omega, by have := h2.1; omega, h2.2 n (by omega)⟩
/-- of the distances up to D the first with the longest copy -/
def bst (s : Bs) (p : Nat) : Nat → Nat × Nat
  | 0 => (0, 0)
  | d + 1 => if (bst s p d).1 < ml s p (d + 1) 255 then (ml s p (d + 1) 255, d + 1) else bst s p d
theorem bst_max (s : Bs) (p D d : Nat) (h1 : 1 ≤ d) (hd : d ≤ D) : ml s p d 255 ≤ (bst s p D).1 := by
  induction D with
  | zero => omega
  | succ D ih =>
    rw [bst]
    by_cases e : d ≤ D
    · have := ih e
      split <;> omega
    · obtain rfl : d = D + 1 := by omega
      split <;> omega
theorem bst_is (s : Bs) (p D : Nat) : bst s p D = (0, 0) ∨ (1 ≤ (bst s p D).2 ∧ (bst s p D).2 ≤ D ∧ (bst s p D).1 = ml s p (bst s p D).2 255 ∧ 1 ≤ (bst s p D).1) := by
  induction D with
  | zero => exact .inl rfl
  | succ D ih =>
    rw [bst]
    split
    · exact .inr ⟨by dsimp only; omega, by dsimp only; omega, by dsimp only, by dsimp only; omega⟩
    · rcases ih with h | ⟨h1, h2, h3, h4⟩
      · exact .inl h
      · exact .inr ⟨h1, by omega, h3, h4⟩
def bestAt (s : Bs) (p : Nat) : Nat × Nat := bst s p (min 1024 p)
def tokAt (s : Bs) (p : Nat) : Tk := if (bestAt s p).1 = 0 then ⟨s.getD p 0, 0, 0⟩ else ⟨0, (bestAt s p).1, (bestAt s p).2⟩

/-! ### tokens that make a text from a place on -/
/-- at place q of s this token makes what stands there -/
def Fits (s : Bs) (q : Nat) (t : Tk) : Prop :=
  (t.len = 0 ∧ t.dist = 0 ∧ s[q]? = some t.lit) ∨ (t.lit = 0 ∧ 1 ≤ t.len ∧ t.len ≤ 255 ∧ 1 ≤ t.dist ∧ t.dist ≤ 1024 ∧ t.dist ≤ q ∧ M s q t.dist t.len)
theorem Fits.size {s : Bs} {q : Nat} {t : Tk} (h : Fits s q t) : q + t.size ≤ s.length := by
  unfold Tk.size
  rcases h with ⟨h1, _, h2⟩ | ⟨_, h1, _, _, _, _, h2⟩
  · rw [if_pos h1]
    have := (List.getElem?_eq_some_iff.1 h2).1
    omega
  · rw [if_neg (by omega)]
    exact h2.1
theorem Fits.make {s : Bs} {q : Nat} {t : Tk} (h : Fits s q t) : t.make (s.take q) = s.take (q + t.size) := by
  unfold Tk.make Tk.size
  rcases h with ⟨h1, _, h2⟩ | ⟨_, h1, _, h3, _, h4, h2⟩
  · rw [if_pos h1, if_pos h1]
    obtain ⟨hq, e⟩ := List.getElem?_eq_some_iff.1 h2
    rw [List.take_succ_eq_append_getElem hq, e]
  · rw [if_neg (by omega), if_neg (by omega)]
    exact cpy_of h3 h4 h2
theorem fits_tokAt {s : Bs} {p : Nat} (hp : p < s.length) : Fits s p (tokAt s p) := by
  unfold tokAt
  have hb := bst_is s p (min 1024 p)
  split
  · refine .inl ⟨rfl, rfl, ?_⟩
    rw [List.getD_eq_getElem?_getD, List.getElem?_eq_getElem hp, Option.getD_some]
  · rename_i h
    rcases hb with e | ⟨h1, h2, h3, h4⟩
    · exact absurd (by unfold bestAt; rw [e]) h
    · refine .inr ⟨rfl, h4, ?_, h1, ?_, ?_, ?_⟩
      · show (bst s p (min 1024 p)).1 ≤ 255
        rw [h3]; exact ml_le _ _ _ _
      · show (bst s p (min 1024 p)).2 ≤ 1024
        omega
      · show (bst s p (min 1024 p)).2 ≤ p
        omega
      · show M s p (bst s p (min 1024 p)).2 (bst s p (min 1024 p)).1
        rw [h3]
        exact ml_M (by omega) _ _
/-- a token that begins no later reaches no further than the longest copy does -/
theorem reach {s : Bs} {q p : Nat} {t : Tk} (h : Fits s q t) (h1 : q ≤ p) (h2 : p < q + t.size) : q + t.size ≤ p + (tokAt s p).size := by
  have hz := (tokAt s p).size_pos
  rcases h with ⟨e, _, _⟩ | ⟨_, e1, e2, e3, e4, e5, hM⟩
  · unfold Tk.size at h2 ⊢
    rw [if_pos e] at h2 ⊢
    unfold Tk.size at hz
    omega
  · have hsz : t.size = t.len := by unfold Tk.size; rw [if_neg (by omega)]
    rw [hsz] at h2 ⊢
    have hm := ml_max (k := 255) (by omega) (hM.tail h1 (by omega))
    have hb := bst_max s p (min 1024 p) t.dist e3 (by omega)
    have : t.len + q - p ≤ (tokAt s p).size := by
      unfold tokAt Tk.size
      have : ¬ (bestAt s p).1 = 0 := by
        show ¬ (bst s p (min 1024 p)).1 = 0
        omega
      rw [if_neg this, if_neg this]
      show _ ≤ (bst s p (min 1024 p)).1
      omega
    omega
def Makes (s : Bs) : Nat → List Tk → Prop
  | q, [] => q = s.length
  | q, t :: l => Fits s q t ∧ Makes s (q + t.size) l
def gr (s : Bs) : Nat → Nat → List Tk
  | 0, _ => []
  | f + 1, p => if p < s.length then tokAt s p :: gr s f (p + (tokAt s p).size) else []
theorem gr_fuel (s : Bs) (f g p : Nat) (hf : s.length ≤ p + f) (hg : s.length ≤ p + g) : gr s f p = gr s g p := by
  induction f generalizing g p with
  | zero =>
    cases g with
    | zero => rfl
    | succ g => rw [gr, gr, if_neg (by omega)]
  | succ f ih =>
    have hz := (tokAt s p).size_pos
    cases g with
    | zero => rw [gr, gr, if_neg (by omega)]
    | succ g =>
      rw [gr, gr]
      split
      · rw [ih g _ (by omega) (by omega)]
      · rfl
/-- the longest copies' tokens -/
def greedy (s : Bs) : List Tk := gr s s.length 0
def rest (s : Bs) (p : Nat) : List Tk := gr s (s.length - p) p
theorem rest_zero (s : Bs) : rest s 0 = greedy s := rfl
theorem rest_end (s : Bs) (p : Nat) (h : s.length ≤ p) : rest s p = [] := by
  unfold rest
  rw [show s.length - p = 0 from by omega]
  rfl
theorem rest_step (s : Bs) (p : Nat) (h : p < s.length) : rest s p = tokAt s p :: rest s (p + (tokAt s p).size) := by
  have hz := (tokAt s p).size_pos
  unfold rest
  rw [show s.length - p = (s.length - p - 1) + 1 from by omega, gr, if_pos h, gr_fuel s (s.length - p - 1) (s.length - (p + (tokAt s p).size)) _ (by omega) (by omega)]
theorem makes_rest (s : Bs) (n p : Nat) (hn : s.length - p = n) (hp : p ≤ s.length) : Makes s p (rest s p) := by
  induction n using Nat.strongRecOn generalizing p with
  | ind n ih =>
    by_cases h : p < s.length
    · have hF := fits_tokAt h
      have hz := (tokAt s p).size_pos
      have hs := hF.size
      rw [rest_step s p h]
      exact ⟨hF, ih (s.length - (p + (tokAt s p).size)) (by omega) _ rfl hs⟩
    · rw [rest_end s p (by omega)]
      show p = s.length
      omega
theorem makes_greedy (s : Bs) : Makes s 0 (greedy s) := makes_rest s _ 0 rfl (Nat.zero_le _)
/-- STORER, SZYMANSKI -/
theorem least (s : Bs) (l : List Tk) (q p : Nat) (h : Makes s q l) (h1 : q ≤ p) (h2 : p ≤ s.length) : (rest s p).length ≤ l.length := by
  induction l generalizing q p with
  | nil =>
    have : q = s.length := h
    rw [rest_end s p (by omega)]
    exact Nat.le_refl _
  | cons t l ih =>
    obtain ⟨hF, hM⟩ := h
    by_cases e : q + t.size ≤ p
    · have := ih _ _ hM e h2
      rw [List.length_cons]
      omega
    · have hs := hF.size
      have hp : p < s.length := by omega
      have hr := reach hF h1 (by omega)
      have hs2 := (fits_tokAt hp).size
      have := ih _ _ hM hr hs2
      rw [rest_step s p hp, List.length_cons, List.length_cons]
      omega
theorem greedy_least (s : Bs) (l : List Tk) (h : Makes s 0 l) : (greedy s).length ≤ l.length := least s l 0 0 h (Nat.le_refl _) (Nat.zero_le _)
theorem makes_length (s : Bs) (l : List Tk) (q : Nat) (h : Makes s q l) : l.length + q ≤ s.length := by
  induction l generalizing q with
  | nil =>
    have : q = s.length := h
    simp only [List.length_nil]; omega
  | cons t l ih =>
    have := ih _ h.2
    have := t.size_pos
    rw [List.length_cons]
    omega
end Lz
end Go.Proofs.Ytkhejelmjkpgfaa

namespace Go.Proofs.Ytkhejelmjkpgfaa
namespace Lz

/-- a letter, or a copy -/
def Good (t : Tk) : Prop := (t.len = 0 ∧ t.dist = 0) ∨ (t.lit = 0 ∧ 1 ≤ t.len ∧ t.len ≤ 255 ∧ 1 ≤ t.dist ∧ t.dist ≤ 1024)
theorem Fits.good {s : Bs} {q : Nat} {t : Tk} (h : Fits s q t) : Good t := by
  rcases h with ⟨h1, h2, _⟩ | ⟨h0, h1, h2, h3, h4, _⟩
  · exact .inl ⟨h1, h2⟩
  · exact .inr ⟨h0, h1, h2, h3, h4⟩
theorem Fits.dist {s : Bs} {q : Nat} {t : Tk} (h : Fits s q t) : t.dist ≤ q := by
  rcases h with ⟨_, h2, _⟩ | ⟨_, _, _, _, _, h2, _⟩
  · omega
  · exact h2
theorem Makes.good {s : Bs} {l : List Tk} {q : Nat} (h : Makes s q l) : ∀ t ∈ l, Good t := by
  induction l generalizing q with
  | nil => exact fun t ht => absurd ht (by simp)
  | cons u l ih =>
    intro t ht
    rcases List.mem_cons.1 ht with rfl | ht
    · exact h.1.good
    · exact ih h.2 t ht

/-! ### tokens as they come in -/
structure Tr where
  lit : UInt8
  len : Int
  dist : Int
abbrev Tr.form (t : Tr) : Prop := (t.len = 0 ∧ t.dist = 0) ∨ (t.lit = 0 ∧ 1 ≤ t.len ∧ t.len ≤ 255 ∧ 1 ≤ t.dist ∧ t.dist ≤ 1024)
def Tk.raw (t : Tk) : Tr := ⟨t.lit, t.len, t.dist⟩
theorem Good.form {t : Tk} (h : Good t) : t.raw.form := by
  unfold Tr.form Tk.raw
  rcases h with ⟨h1, h2⟩ | ⟨h0, h1, h2, h3, h4⟩
  · exact .inl ⟨by dsimp only; omega, by dsimp only; omega⟩
  · exact .inr ⟨h0, by dsimp only; omega, by dsimp only; omega, by dsimp only; omega, by dsimp only; omega⟩
theorem Tr.tk {t : Tr} (h : t.form) : ∃ u : Tk, u.raw = t ∧ Good u := by
  obtain ⟨b, n, d⟩ := t
  refine ⟨⟨b, n.toNat, d.toNat⟩, ?_, ?_⟩
  · rcases h with ⟨h1, h2⟩ | ⟨h0, h1, h2, h3, h4⟩ <;> dsimp only at * <;> unfold Tk.raw <;> dsimp only <;> congr <;> omega
  · rcases h with ⟨h1, h2⟩ | ⟨h0, h1, h2, h3, h4⟩ <;> dsimp only at *
    · exact .inl ⟨by dsimp only; omega, by dsimp only; omega⟩
    · exact .inr ⟨h0, by dsimp only; omega, by dsimp only; omega, by dsimp only; omega, by dsimp only; omega⟩
theorem raws {l : List Tr} (h : ∀ t ∈ l, t.form) : ∃ m : List Tk, m.map Tk.raw = l ∧ ∀ t ∈ m, Good t := by
  induction l with
  | nil => exact ⟨[], rfl, fun t ht => absurd ht (by simp)⟩
  | cons t l ih =>
    obtain ⟨m, h1, h2⟩ := ih fun u hu => h u (List.mem_cons_of_mem _ hu)
    obtain ⟨u, h3, h4⟩ := Tr.tk (h t List.mem_cons_self)
    refine ⟨u :: m, by rw [List.map_cons, h3, h1], fun x hx => ?_⟩
    rcases List.mem_cons.1 hx with rfl | hx
    · exact h4
    · exact h2 x hx
/-- P15's Check -/
def chk (l : List Tr) : Nat := if 4096 < l.length then 2 else if ∀ t ∈ l, t.form then 0 else 4

/-! ### a copy's bytes, by repeating what stands there -/
theorem rep_get (l : Bs) (c j : Nat) (h : j < c * l.length) : (Lib.repeatL l c)[j]? = l[j % l.length]? := by
  induction c generalizing j with
  | zero => omega
  | succ c ih =>
    rw [Lib.repeatL]
    by_cases e : j < l.length
    · rw [List.getElem?_append_left e, Nat.mod_eq_of_lt e]
    · rw [Nat.succ_mul] at h
      rw [List.getElem?_append_right (by omega), ih (j - l.length) (by omega), ← Nat.mod_eq_sub_mod (by omega)]
theorem cpy_rep (out : Bs) (d n : Nat) (h1 : 1 ≤ d) (hd : d ≤ out.length) : cpy out d n = out ++ (Lib.repeatL (out.drop (out.length - d)) (n / d + 1)).take n := by
  have hl : (out.drop (out.length - d)).length = d := by rw [List.length_drop]; omega
  have hn : n < (n / d + 1) * d := by
    have h := Nat.div_add_mod n d
    have h2 := Nat.mod_lt n (show d > 0 by omega)
    rw [Nat.succ_mul, Nat.mul_comm]
    omega
  apply List.ext_getElem?
  intro j
  by_cases hj : j < out.length
  · rw [cpy_old _ _ _ _ hj, List.getElem?_append_left hj]
  · by_cases hj2 : j - out.length < n
    · have h := cpy_mod out d h1 hd n (j - out.length) hj2
      rw [show out.length + (j - out.length) = j from by omega] at h
      rw [h, List.getElem?_append_right (by omega), List.getElem?_take_of_lt hj2, rep_get _ _ _ (by rw [hl]; omega), hl, List.getElem?_drop]
    · rw [List.getElem?_eq_none (by rw [cpy_length]; omega), List.getElem?_eq_none]
      rw [List.length_append, List.length_take, Lib.repeatL_length, hl]
      omega

/-! ### Expand, behind Check: 4 where a copy begins too far ahead, 2 where it is too much -/
def ex (most : Nat) : Bs → List Tk → Bs × Nat
  | out, [] => (out, 0)
  | out, t :: l => if out.length < t.dist then ([], 4) else if most < out.length + t.size then ([], 2) else ex most (t.make out) l
theorem make_prefix (t : Tk) (out : Bs) : (t.make out).take out.length = out := by
  apply List.ext_getElem?
  intro j
  by_cases h : j < out.length
  · rw [List.getElem?_take_of_lt h]
    unfold Tk.make
    split
    · rw [List.getElem?_append_left h]
    · exact cpy_old _ _ _ _ h
  · rw [List.getElem?_eq_none (by rw [List.length_take]; omega), List.getElem?_eq_none (by omega)]
theorem ex_makes {most : Nat} {s out : Bs} {l : List Tk} (hg : ∀ t ∈ l, Good t) (h : ex most out l = (s, 0)) (ho : out.length ≤ most) : s.take out.length = out ∧ Makes s out.length l ∧ s.length ≤ most := by
  induction l generalizing out with
  | nil =>
    have e : out = s := congrArg Prod.fst h
    subst e
    exact ⟨List.take_length, rfl, ho⟩
  | cons t l ih =>
    rw [ex] at h
    split at h
    · exact absurd (congrArg Prod.snd h) (by simp)
    rename_i hd
    split at h
    · exact absurd (congrArg Prod.snd h) (by simp)
    rename_i hm
    have hl := make_length t out
    obtain ⟨h1, h2, h3⟩ := ih (fun u hu => hg u (List.mem_cons_of_mem _ hu)) h (by omega)
    rw [hl] at h1 h2
    have hp : s.take out.length = out := by
      have := congrArg (List.take out.length) h1
      rw [make_prefix, List.take_take, Nat.min_eq_left (by omega)] at this
      exact this
    have hs : out.length + t.size ≤ s.length := by
      have := congrArg List.length h1
      rw [List.length_take, hl] at this
      omega
    refine ⟨hp, ⟨?_, h2⟩, h3⟩
    rcases hg t List.mem_cons_self with ⟨e1, e2⟩ | ⟨e0, e1, e2, e3, e4⟩
    · refine .inl ⟨e1, e2, ?_⟩
      have hz : t.size = 1 := by unfold Tk.size; rw [if_pos e1]
      have := congrArg (fun x : Bs => x[out.length]?) h1
      simp only [hz] at this
      rw [List.getElem?_take_of_lt (by omega)] at this
      rw [this]
      unfold Tk.make
      rw [if_pos e1, List.getElem?_append_right (Nat.le_refl _), Nat.sub_self, List.getElem?_cons_zero]
    · have hz : t.size = t.len := by unfold Tk.size; rw [if_neg (by omega)]
      refine .inr ⟨e0, e1, e2, e3, e4, by omega, M.of_cpy e3 (by omega) (by omega) ?_⟩
      rw [hp, ← hz, h1]
      unfold Tk.make
      rw [if_neg (by omega), hz]
theorem makes_ex {most : Nat} {s : Bs} {l : List Tk} {q : Nat} (h : Makes s q l) (hm : s.length ≤ most) : ex most (s.take q) l = (s, 0) := by
  induction l generalizing q with
  | nil =>
    have e : q = s.length := h
    rw [e, List.take_length, ex]
  | cons t l ih =>
    have hs := h.1.size
    have hd := h.1.dist
    have hl : (s.take q).length = q := by rw [List.length_take]; omega
    rw [ex, hl, if_neg (by omega), if_neg (by omega), h.1.make, ih h.2]
theorem makes_ex_less {most : Nat} {s : Bs} {l : List Tk} {q : Nat} (h : Makes s q l) (hm : most < s.length) (hq : q ≤ most) : ex most (s.take q) l = ([], 2) := by
  induction l generalizing q with
  | nil =>
    have e : q = s.length := h
    omega
  | cons t l ih =>
    have hs := h.1.size
    have hd := h.1.dist
    have hl : (s.take q).length = q := by rw [List.length_take]; omega
    rw [ex, hl, if_neg (by omega)]
    split
    · rfl
    · rw [h.1.make, ih h.2 (by omega)]
theorem ex_error {most : Nat} {out : Bs} {l : List Tk} (h : (ex most out l).2 ≠ 0) : (ex most out l).1 = [] := by
  induction l generalizing out with
  | nil => exact absurd rfl h
  | cons t l ih =>
    rw [ex] at h ⊢
    split
    · rfl
    · rename_i h1
      rw [if_neg h1] at h
      split
      · rfl
      · rename_i h2
        rw [if_neg h2] at h
        exact ih h

/-! ### Pack and Read -/
def Tk.text (t : Tk) : Bs := if t.len = 0 then [0, t.lit] else [UInt8.ofNat t.len, UInt8.ofNat (t.dist % 256), UInt8.ofNat (t.dist / 256)]
def pack (l : List Tk) : Bs := (l.map Tk.text).flatten
def rdA : List Tk → Bs → List Tk × Nat
  | out, [] => (out, 0)
  | _, [_] => ([], 3)
  | out, a :: x :: r =>
    if a = 0 then (if out.length = 4096 then ([], 2) else rdA (out ++ [⟨x, 0, 0⟩]) r)
    else match r with
      | [] => ([], 3)
      | y :: r' =>
        if x.toNat + 256 * y.toNat = 0 ∨ 1024 < x.toNat + 256 * y.toNat then ([], 4)
        else if out.length = 4096 then ([], 2) else rdA (out ++ [⟨0, a.toNat, x.toNat + 256 * y.toNat⟩]) r'
theorem rdA_letter (out : List Tk) (x : UInt8) (r : Bs) : rdA out (0 :: x :: r) = if out.length = 4096 then ([], 2) else rdA (out ++ [⟨x, 0, 0⟩]) r := by
  cases r with
  | nil =>
    show (if (0 : UInt8) = 0 then (if out.length = 4096 then ([], 2) else rdA (out ++ [⟨x, 0, 0⟩]) []) else ([], 3)) = _
    rw [if_pos rfl]
  | cons y r => rw [rdA, if_pos rfl]
theorem rdA_short (out : List Tk) (a x : UInt8) (ha : ¬ a = 0) : rdA out [a, x] = ([], 3) := by rw [rdA, if_neg ha]
theorem rdA_copy (out : List Tk) (a x y : UInt8) (r : Bs) (ha : ¬ a = 0) : rdA out (a :: x :: y :: r) =
    if x.toNat + 256 * y.toNat = 0 ∨ 1024 < x.toNat + 256 * y.toNat then ([], 4)
    else if out.length = 4096 then ([], 2) else rdA (out ++ [⟨0, a.toNat, x.toNat + 256 * y.toNat⟩]) r := by rw [rdA, if_neg ha]
theorem read_pack (l out : List Tk) (hg : ∀ t ∈ l, Good t) (hl : out.length + l.length ≤ 4096) : rdA out (pack l) = (out ++ l, 0) := by
  induction l generalizing out with
  | nil => rw [List.append_nil]; rfl
  | cons t l ih =>
    rw [List.length_cons] at hl
    have ih' := ih (out ++ [t]) (fun u hu => hg u (List.mem_cons_of_mem _ hu)) (by rw [List.length_append, List.length_singleton]; omega)
    rw [List.append_assoc, List.singleton_append] at ih'
    obtain ⟨b, n, d⟩ := t
    show rdA out (Tk.text ⟨b, n, d⟩ ++ pack l) = _
    rcases hg _ List.mem_cons_self with ⟨e1, e2⟩ | ⟨e0, e1, e2, e3, e4⟩
    · have e1 : n = 0 := e1
      have e2 : d = 0 := e2
      subst e1 e2
      unfold Tk.text
      rw [if_pos rfl]
      show rdA out (0 :: b :: pack l) = _
      rw [rdA_letter, if_neg (by omega)]
      exact ih'
    · have e0 : b = 0 := e0
      have e1 : 1 ≤ n := e1
      have e2 : n ≤ 255 := e2
      have e3 : 1 ≤ d := e3
      have e4 : d ≤ 1024 := e4
      subst e0
      have hn : (UInt8.ofNat n).toNat = n := by simp; omega
      have hx : (UInt8.ofNat (d % 256)).toNat = d % 256 := by simp
      have hy : (UInt8.ofNat (d / 256)).toNat = d / 256 := by simp; omega
      have hz : ¬ UInt8.ofNat n = 0 := by
        intro e
        have := congrArg UInt8.toNat e
        rw [hn] at this
        simp at this
        omega
      unfold Tk.text
      rw [if_neg (by show ¬ n = 0; omega)]
      show rdA out (UInt8.ofNat n :: UInt8.ofNat (d % 256) :: UInt8.ofNat (d / 256) :: pack l) = _
      rw [rdA_copy _ _ _ _ _ hz]
      simp only [hn, hx, hy]
      rw [show d % 256 + 256 * (d / 256) = d from by omega, if_neg (by omega), if_neg (by omega)]
      exact ih'
theorem pack_read (k : Nat) (s : Bs) (hk : s.length ≤ k) (out l : List Tk) (h : rdA out s = (l, 0)) (ho : out.length ≤ 4096) : ∃ m, l = out ++ m ∧ pack m = s ∧ (∀ t ∈ m, Good t) ∧ l.length ≤ 4096 := by
  induction k generalizing s out with
  | zero =>
    obtain rfl : s = [] := List.length_eq_zero_iff.1 (by omega)
    have e : out = l := congrArg Prod.fst h
    exact ⟨[], by rw [List.append_nil, e], rfl, fun t ht => absurd ht (by simp), by rw [← e]; exact ho⟩
  | succ k ih =>
    match s, hk, h with
    | [], _, h =>
      have e : out = l := congrArg Prod.fst h
      exact ⟨[], by rw [List.append_nil, e], rfl, fun t ht => absurd ht (by simp), by rw [← e]; exact ho⟩
    | [_], _, h => exact absurd (congrArg Prod.snd h) (by simp [rdA])
    | a :: x :: r, hk, h =>
      simp only [List.length_cons] at hk
      by_cases ha : a = 0
      · rw [ha, rdA_letter] at h
        split at h
        · exact absurd (congrArg Prod.snd h) (by simp)
        · rename_i h4
          obtain ⟨m, h1, h2, h3, h5⟩ := ih r (by omega) (out ++ [⟨x, 0, 0⟩]) h (by rw [List.length_append, List.length_singleton]; omega)
          refine ⟨⟨x, 0, 0⟩ :: m, by rw [h1, List.append_assoc, List.singleton_append], ?_, ?_, h5⟩
          · show Tk.text ⟨x, 0, 0⟩ ++ pack m = _
            rw [h2, ha]; rfl
          · intro t ht
            rcases List.mem_cons.1 ht with rfl | ht
            · exact .inl ⟨rfl, rfl⟩
            · exact h3 t ht
      · match r, hk, h with
        | [], _, h =>
          rw [rdA_short _ _ _ ha] at h
          exact absurd (congrArg Prod.snd h) (by simp)
        | y :: r', hk, h =>
          simp only [List.length_cons] at hk
          rw [rdA_copy _ _ _ _ _ ha] at h
          split at h
          · exact absurd (congrArg Prod.snd h) (by simp)
          rename_i hd
          split at h
          · exact absurd (congrArg Prod.snd h) (by simp)
          rename_i h4
          have hx := x.toNat_lt
          have hy := y.toNat_lt
          have hn := a.toNat_lt
          have hz : a.toNat ≠ 0 := fun e => ha (UInt8.toNat_inj.1 e)
          obtain ⟨m, h1, h2, h3, h5⟩ := ih r' (by omega) (out ++ [⟨0, a.toNat, x.toNat + 256 * y.toNat⟩]) h (by rw [List.length_append, List.length_singleton]; omega)
          refine ⟨⟨0, a.toNat, x.toNat + 256 * y.toNat⟩ :: m, by rw [h1, List.append_assoc, List.singleton_append], ?_, ?_, h5⟩
          · show Tk.text ⟨0, a.toNat, x.toNat + 256 * y.toNat⟩ ++ pack m = _
            unfold Tk.text
            dsimp only
            rw [if_neg hz, h2, show (x.toNat + 256 * y.toNat) % 256 = x.toNat from by omega, show (x.toNat + 256 * y.toNat) / 256 = y.toNat from by omega, UInt8.ofNat_toNat, UInt8.ofNat_toNat, UInt8.ofNat_toNat]
            rfl
          · intro t ht
            rcases List.mem_cons.1 ht with rfl | ht
            · exact .inr ⟨rfl, by show 1 ≤ a.toNat; omega, by show a.toNat ≤ 255; omega, by show 1 ≤ x.toNat + 256 * y.toNat; omega, by show x.toNat + 256 * y.toNat ≤ 1024; omega⟩
            · exact h3 t ht
end Lz
end Go.Proofs.Ytkhejelmjkpgfaa

namespace Go.Proofs.Ytkhejelmjkpgfaa
open Go.RowKit
set_option maxRecDepth 4000

theorem below_past {w w' : World} {o : Obj} (h : Below (w.alloc o).heap.size (w.alloc o) w') : Below w.heap.size w w' :=
  ((Below.refl _ w).alloc (Nat.le_refl _) o).trans (h.mono (by simp))
namespace Lz
def dOK (d : Int) : Bool := decide (1 ≤ d ∧ d ≤ 1024)
def Tr.isL (t : Tr) : Bool := decide (t.len = 0 ∧ t.dist = 0)
def Tr.isC (t : Tr) : Bool := decide (t.lit = 0 ∧ 1 ≤ t.len ∧ t.len ≤ 255 ∧ 1 ≤ t.dist ∧ t.dist ≤ 1024)
def Tr.ok (t : Tr) : Bool := decide t.form
/-- how many bytes a token makes -/
def Tr.many (t : Tr) : Int := if t.len = 0 ∧ t.dist = 0 then 1 else t.len
theorem Tr.ok_or (t : Tr) : t.ok = (t.isL || t.isC) := by
  unfold Tr.ok Tr.isL Tr.isC Tr.form
  exact Bool.decide_or _ _
end Lz
theorem ret_dec {p : Prop} [Decidable p] {b c : Bool} (hc : c = decide p) (h : (b = true ∧ p) ∨ (b = false ∧ ¬ p)) : Ending.returned (.bool b) = .returned (.bool c) := by
  subst hc
  rcases h with ⟨rfl, h⟩ | ⟨rfl, h⟩
  · rw [decide_eq_true h]
  · rw [decide_eq_false h]
/-- a token, as it is handed over -/
def tokV (t : Lz.Tr) : Value := .agg #[.int .u8 t.lit.toNat, .int .i64 t.len, .int .i64 t.dist]
theorem lit_nat (b : UInt8) : b = 0 ↔ (b.toNat : Int) = 0 := by
  constructor
  · rintro rfl; rfl
  · intro h
    exact UInt8.toNat_inj.1 (by simp; omega)

set_option maxHeartbeats 400000 in
theorem dist_any (d : Int) (w : World) :
    Calls Try.prog 135 #[.int .i64 d] w fun e w' => e = .returned (.bool (Lz.dOK d)) ∧ w' = w := by
  go_enter Try.func135, Try.ntmps135
  go_wp2
  all_goals go_ret
  all_goals exact ⟨ret_dec rfl (by simp; omega), rfl⟩

set_option maxHeartbeats 400000 in
theorem letter_any (t : Lz.Tr) (w : World) :
    Calls Try.prog 102 #[tokV t] w fun e w' => e = .returned (.bool t.isL) ∧ Below w.heap.size w w' := by
  unfold tokV
  go_enter Try.func102, Try.ntmps102
  go_wp2
  all_goals go_ret
  all_goals exact ⟨ret_dec rfl (by simp; omega), (Below.refl _ w).alloc (Nat.le_refl _) _⟩

set_option maxHeartbeats 400000 in
theorem copy_any (t : Lz.Tr) (w : World) :
    Calls Try.prog 128 #[tokV t] w fun e w' => e = .returned (.bool t.isC) ∧ Below w.heap.size w w' := by
  unfold tokV
  go_enter Try.func128, Try.ntmps128
  go_wp2_with (refine (dist_any _ _).mono ?_; rintro e w' ⟨rfl, rfl⟩)
  all_goals go_ret
  all_goals refine ⟨ret_dec rfl ?_, (Below.refl _ w).alloc (Nat.le_refl _) _⟩
  all_goals (try unfold Lz.dOK); simp [lit_nat]; omega

set_option maxHeartbeats 400000 in
theorem bytes_any (t : Lz.Tr) (w : World) :
    Calls Try.prog 100 #[tokV t] w fun e w' => e = .returned (.int .i64 t.many) ∧ Below w.heap.size w w' := by
  have hl := letter_any t
  unfold tokV at hl ⊢
  cases hb : t.isL with
  | true =>
    have h := of_decide_eq_true hb
    have HM : Hid (t.many = 1) := if_pos h
    rw [hb] at hl
    clear hb h
    go_enter Try.func100, Try.ntmps100
    go_wp2_with (refine (hl _).mono ?_; rintro e w' ⟨rfl, hb⟩)
    go_ret
    exact ⟨by rw [HM.out]; rfl, below_past hb⟩
  | false =>
    have h := of_decide_eq_false hb
    have HM : Hid (t.many = t.len) := if_neg h
    rw [hb] at hl
    clear hb h
    go_enter Try.func100, Try.ntmps100
    go_wp2_with fail
    refine (hl _).mono ?_
    rintro e w' ⟨rfl, hb⟩
    have hc := (hb.cell (p := ⟨w.heap.size, 1, none⟩) (by simp)).trans (show _ = some (.int .i64 t.len) from by simp)
    go_wp2_with fail
    go_ret
    exact ⟨by rw [HM.out]; rfl, below_past hb⟩

set_option maxHeartbeats 1000000 in
theorem form_any (t : Lz.Tr) (w : World) :
    Calls Try.prog 123 #[tokV t] w fun e w' => e = .returned (.bool t.ok) ∧ Below w.heap.size w w' := by
  unfold tokV
  go_enter Try.func123, Try.ntmps123
  go_wp2
  all_goals go_ret
  all_goals refine ⟨ret_dec rfl ?_, (Below.refl _ w).alloc (Nat.le_refl _) _⟩
  all_goals unfold Lz.Tr.form; simp [lit_nat]; omega
end Go.Proofs.Ytkhejelmjkpgfaa

namespace Go.Proofs.Ytkhejelmjkpgfaa
open Go.RowKit
set_option maxRecDepth 4000

def tokC (t : Lz.Tr) : List Value := [.int .u8 t.lit.toNat, .int .i64 t.len, .int .i64 t.dist]
/-- tokens that lie in memory -/
structure Toks (w : World) (v : Value) (l : List Lz.Tr) : Prop where
  at_ : ((∃ a c, v = .slice a 0 c) ∧ l = []) ∨ ∃ bk o cap, v = .slice (some ⟨bk, o, none⟩) l.length cap ∧ bk < w.heap.size ∧
    ∀ j (hj : j < l.length), w.cell? ⟨bk, o + j * 3, none⟩ = some (.int .u8 l[j].lit.toNat) ∧ w.cell? ⟨bk, o + j * 3 + 1, none⟩ = some (.int .i64 l[j].len) ∧ w.cell? ⟨bk, o + j * 3 + 2, none⟩ = some (.int .i64 l[j].dist)
theorem Toks.slice {w : World} {v : Value} {l : List Lz.Tr} (h : Toks w v l) : ∃ a c, v = .slice a l.length c := by
  rcases h.at_ with ⟨⟨a, c, rfl⟩, rfl⟩ | ⟨bk, o, cap, rfl, _⟩
  · exact ⟨_, _, rfl⟩
  · exact ⟨_, _, rfl⟩
theorem Toks.below {w w' : World} {v : Value} {l : List Lz.Tr} (h : Toks w v l) {B : Nat} (hB : w.heap.size ≤ B) (hb : Below B w w') : Toks w' v l := by
  rcases h.at_ with h | ⟨bk, o, cap, h1, h3, h4⟩
  · exact ⟨.inl h⟩
  · refine ⟨.inr ⟨bk, o, cap, h1, Nat.lt_of_lt_of_le h3 hb.size, fun j hj => ?_⟩⟩
    obtain ⟨e1, e2, e3⟩ := h4 j hj
    exact ⟨(hb.cell (p := ⟨bk, o + j * 3, none⟩) (Nat.lt_of_lt_of_le h3 hB)).trans e1, (hb.cell (p := ⟨bk, o + j * 3 + 1, none⟩) (Nat.lt_of_lt_of_le h3 hB)).trans e2, (hb.cell (p := ⟨bk, o + j * 3 + 2, none⟩) (Nat.lt_of_lt_of_le h3 hB)).trans e3⟩
/-- one of them -/
theorem Toks.get {w : World} {a : Option Addr} {n c : Nat} {l : List Lz.Tr} (h : Toks w (.slice a n c) l) (j : Nat) (hj : j < l.length) : ∃ bk o, a = some ⟨bk, o, none⟩ ∧ n = l.length ∧ bk < w.heap.size ∧
    w.cell? ⟨bk, o + j * 3, none⟩ = some (.int .u8 l[j].lit.toNat) ∧ w.cell? ⟨bk, o + j * 3 + 1, none⟩ = some (.int .i64 l[j].len) ∧ w.cell? ⟨bk, o + j * 3 + 2, none⟩ = some (.int .i64 l[j].dist) := by
  rcases h.at_ with ⟨_, rfl⟩ | ⟨bk, o, cap, h1, h3, h4⟩
  · simp at hj
  · simp at h1
    obtain ⟨rfl, rfl, rfl⟩ := h1
    exact ⟨bk, o, rfl, rfl, h3, h4 j hj⟩

namespace Lz
theorem chk_all {l : List Tr} (h : ¬ 4096 < l.length) (ha : ∀ j (hj : j < l.length), l[j].ok = true) : chk l = 0 := by
  unfold chk
  rw [if_neg h, if_pos]
  intro t ht
  obtain ⟨j, hj, rfl⟩ := List.getElem_of_mem ht
  exact of_decide_eq_true (ha j hj)
theorem chk_one {l : List Tr} (h : ¬ 4096 < l.length) (j : Nat) (hj : j < l.length) (ha : l[j].ok = false) : chk l = 4 := by
  unfold chk
  rw [if_neg h, if_neg]
  intro h2
  exact of_decide_eq_false ha (h2 _ (List.getElem_mem hj))
end Lz


set_option maxHeartbeats 400000 in
theorem rcheck_any (v : Value) (l : List Lz.Tr) (w : World) (h : Toks w v l) (hl : l.length ≤ 140737488351232) :
    Calls Try.prog 91 #[v] w fun e w' => e = .returned (.int .i64 (Lz.chk l)) ∧ Below w.heap.size w w' := by
  obtain ⟨a, c, rfl⟩ := h.slice
  by_cases hlen : 4096 < l.length
  · have HK : Hid (Lz.chk l = 2) := if_pos hlen
    go_enter Try.func91, Try.ntmps91
    go_wp2_with fail
    go_ret
    exact ⟨by rw [HK.out]; rfl, Below.refl _ _⟩
  · have HN : Hid (¬ 4096 < l.length) := hlen
    go_enter Try.func91, Try.ntmps91
    go_wp2_with fail
    go_loopw [10] (fun i wr => ∃ k : Nat, k ≤ l.length ∧ i = .int .i64 k ∧ Hid (∀ j (hj : j < l.length), j < k → l[j].ok = true) ∧ Below w.heap.size w wr) (fun i _ => l.length - (intOf i).toNat)
    case atStart => exact ⟨0, by omega, rfl, fun j _ h => by omega, Below.refl _ _⟩
    case round =>
      obtain ⟨k, hk, rfl, hall, hbel⟩ := hrel
      by_cases hlt : k < l.length
      · obtain ⟨bk, o, rfl, _, hbk, c0, c1, c2⟩ := (h.below (Nat.le_refl _) hbel).get k hlt
        have hf := form_any l[k]
        generalize ht : l[k] = t at *
        have HT : Hid (l[k] = t) := ht
        have hbs := hbel.size
        clear ht h
        unfold tokV at hf
        cases hb : t.ok with
        | true =>
          have HO : Hid (t.ok = true) := hb
          rw [hb] at hf
          clear hb
          go_wp2_with fail
          refine (hf _).mono ?_
          rintro e w2 ⟨rfl, hb2⟩
          clear hf
          have HB2 : Hid (Below w.heap.size w w2) := (hbel.alloc hbs _).trans (hb2.mono (by simp; omega))
          clear hb2 hbel
          go_wp2_with fail
          go_roundw
          case rel =>
            refine ⟨k + 1, by omega, by go_num, fun j hj hjk => ?_, HB2.out⟩
            by_cases e : j = k
            · subst e; rw [HT.out]; exact HO.out
            · exact hall.out j hj (by omega)
          case measure => simp only [intOf]; omega
        | false =>
          have HK : Hid (Lz.chk l = 4) := Lz.chk_one HN.out k hlt (by rw [HT.out]; exact hb)
          rw [hb] at hf
          clear hb
          go_wp2_with fail
          refine (hf _).mono ?_
          rintro e w2 ⟨rfl, hb2⟩
          clear hf
          have HB2 : Hid (Below w.heap.size w w2) := (hbel.alloc hbs _).trans (hb2.mono (by simp; omega))
          clear hb2 hbel
          go_wp2_with fail
          go_ret
          exact ⟨by rw [HK.out]; rfl, HB2.out⟩
      · have HK : Hid (Lz.chk l = 0) := Lz.chk_all HN.out fun j hj => hall.out j hj (by omega)
        go_wp2_with fail
        go_ret
        exact ⟨by rw [HK.out]; rfl, hbel⟩

set_option maxHeartbeats 1000000 in
theorem check_any (v : Value) (l : List Lz.Tr) (w : World) (h : Toks w v l) (hl : l.length ≤ 140737488351232) :
    Calls Try.prog 101 #[v] w fun e w' => e = .returned (.int .i64 (Lz.chk l)) ∧ Below w.heap.size w w' := by
  obtain ⟨a, c, rfl⟩ := h.slice
  by_cases hlen : 4096 < l.length
  · have HK : Hid (Lz.chk l = 2) := if_pos hlen
    go_enter Try.func101, Try.ntmps101
    go_wp2_with fail
    go_ret
    exact ⟨by rw [HK.out]; rfl, Below.refl _ _⟩
  · have HN : Hid (¬ 4096 < l.length) := hlen
    go_enter Try.func101, Try.ntmps101
    go_wp2_with fail
    go_loopw [10] (fun i wr => ∃ k : Nat, k ≤ l.length ∧ i = .int .i64 k ∧ Hid (∀ j (hj : j < l.length), j < k → l[j].ok = true) ∧ Below w.heap.size w wr) (fun i _ => l.length - (intOf i).toNat)
    case atStart => exact ⟨0, by omega, rfl, fun j _ h => by omega, Below.refl _ _⟩
    case round =>
      obtain ⟨k, hk, rfl, hall, hbel⟩ := hrel
      by_cases hlt : k < l.length
      · obtain ⟨bk, o, rfl, _, hbk, c0, c1, c2⟩ := (h.below (Nat.le_refl _) hbel).get k hlt
        have hf := letter_any l[k]
        have hf2 := copy_any l[k]
        generalize ht : l[k] = t at *
        have HT : Hid (l[k] = t) := ht
        have hbs := hbel.size
        clear ht h
        unfold tokV at hf hf2
        cases hb : t.isL with
        | true =>
          have HO : Hid (t.ok = true) := by show _ = _; rw [t.ok_or, hb]; rfl
          rw [hb] at hf
          clear hb
          go_wp2_with fail
          refine (hf _).mono ?_
          rintro e w2 ⟨rfl, hb2⟩
          clear hf hf2
          have HB2 : Hid (Below w.heap.size w w2) := (hbel.alloc hbs _).trans (hb2.mono (by simp; omega))
          clear hb2 hbel
          go_wp2_with fail
          go_roundw
          case rel =>
            refine ⟨k + 1, by omega, by go_num, fun j hj hjk => ?_, HB2.out⟩
            by_cases e : j = k
            · subst e; rw [HT.out]; exact HO.out
            · exact hall.out j hj (by omega)
          case measure => simp only [intOf]; omega
        | false =>
          rw [hb] at hf
          have HL : Hid (t.ok = t.isC) := by show _ = _; rw [t.ok_or, hb, Bool.false_or]
          clear hb
          go_wp2_with fail
          refine (hf _).mono ?_
          rintro e w2 ⟨rfl, hb2⟩
          clear hf
          have d0 := (hb2.cell (p := ⟨wr.heap.size, 0, none⟩) (by simp)).trans (show _ = some (.int .u8 t.lit.toNat) from by simp)
          have d1 := (hb2.cell (p := ⟨wr.heap.size, 1, none⟩) (by simp)).trans (show _ = some (.int .i64 t.len) from by simp)
          have d2 := (hb2.cell (p := ⟨wr.heap.size, 2, none⟩) (by simp)).trans (show _ = some (.int .i64 t.dist) from by simp)
          have hB2 := (hbel.alloc hbs _).trans (hb2.mono (by simp; omega))
          have hs2 := hB2.size
          clear hb2 hbel c0 c1 c2
          cases hb : t.isC with
          | true =>
            have HO : Hid (t.ok = true) := by show _ = _; rw [HL.out, hb]
            rw [hb] at hf2
            clear hb
            go_wp2_with fail
            refine (hf2 _).mono ?_
            rintro e w3 ⟨rfl, hb3⟩
            clear hf2
            have HB3 : Hid (Below w.heap.size w w3) := hB2.trans (hb3.mono hs2)
            clear hb3 hB2 d0 d1 d2
            go_wp2_with fail
            go_roundw
            case rel =>
              refine ⟨k + 1, by omega, by go_num, fun j hj hjk => ?_, HB3.out⟩
              by_cases e : j = k
              · subst e; rw [HT.out]; exact HO.out
              · exact hall.out j hj (by omega)
            case measure => simp only [intOf]; omega
          | false =>
            have HK : Hid (Lz.chk l = 4) := Lz.chk_one HN.out k hlt (by rw [HT.out, HL.out]; exact hb)
            rw [hb] at hf2
            clear hb
            go_wp2_with fail
            refine (hf2 _).mono ?_
            rintro e w3 ⟨rfl, hb3⟩
            clear hf2
            have HB3 : Hid (Below w.heap.size w w3) := hB2.trans (hb3.mono hs2)
            clear hb3 hB2 d0 d1 d2
            go_wp2_with fail
            go_ret
            exact ⟨by rw [HK.out]; rfl, HB3.out⟩
      · have HK : Hid (Lz.chk l = 0) := Lz.chk_all HN.out fun j hj => hall.out j hj (by omega)
        go_wp2_with fail
        go_ret
        exact ⟨by rw [HK.out]; rfl, hbel⟩
end Go.Proofs.Ytkhejelmjkpgfaa

namespace Go.Proofs.Ytkhejelmjkpgfaa
open Go.RowKit

/-- the worlds that are as W0 was below block B -/
structure Since (B : Nat) (W0 : World) where
  val : World
  property : Below B W0 val
theorem wp_region_since {P : Program} {id : Nat} {Q : Exit → Act → World → Prop} {a : Act} {w : World} {l : List Oper} {B : Nat} {W0 : World} (hm : P.follows .mixedOrders = true) (hB : Region.lexB .any l.toArray = true) (hw : Below B W0 w)
    (h : wpQuiet P l.toArray (fun w' => ∃ X : Since B W0, w' = X.val) (fun a' => ∀ w', (∃ X : Since B W0, w' = X.val) → Q .normal a' w') l a) : (Code.region id l.toArray true).wp P Q a w :=
  wp_region_quiet (C := fun w' => ∃ X : Since B W0, w' = X.val) hm hB ⟨⟨_, hw.drew⟩, rfl⟩ h
/-- a callee that leaves what was there, met in such a world -/
theorem quiet_since {P : Program} {f : FuncId} {args : Array Value} {W0 : World} {v : Value} (X : Since W0.heap.size W0) (h : Calls P f args X.val fun e w' => e = .returned v ∧ Below X.val.heap.size X.val w') :
    Calls P f args X.val fun e w'' => e = .returned v ∧ ∃ Y : Since W0.heap.size W0, w'' = Y.val :=
  h.mono fun _ w' ⟨he, hb⟩ => ⟨he, ⟨w', X.property.trans (hb.mono X.property.size)⟩, rfl⟩
end Go.Proofs.Ytkhejelmjkpgfaa

namespace Go.Proofs.Ytkhejelmjkpgfaa
open Go.RowKit

theorem fields_tok : ∃ f0 f1 f2, (Try.prog.fieldsOf 131).toList = [f0, f1, f2] ∧ f0.type = 5 ∧ f0.offset = 0 ∧ f0.name ≠ "_" ∧ f1.type = 3 ∧ f1.offset = 1 ∧ f1.name ≠ "_" ∧ f2.type = 3 ∧ f2.offset = 2 ∧ f2.name ≠ "_" := by
  rw [show (Try.prog.fieldsOf 131) = _ from by unfold Program.fieldsOf; rw [Try.underlying131]]
  exact ⟨_, _, _, rfl, rfl, rfl, by decide, rfl, rfl, by decide, rfl, rfl, by decide⟩
theorem eq_three {P : Program} (W : World) (d : Nat) (xs : Array Value) (f0 f1 f2 : Field) (v0 v1 v2 : Value) (n0 : f0.name ≠ "_") (n1 : f1.name ≠ "_") (n2 : f2.name ≠ "_")
    (p0 : (part f0.type xs f0.offset).run P W = .ok v0 W) (p1 : (part f1.type xs f1.offset).run P W = .ok v1 W) (p2 : (part f2.type xs f2.offset).run P W = .ok v2 W)
    (e0 : (Op.equalIn d f0.type v0 v0).run P W = .ok true W) (e1 : (Op.equalIn d f1.type v1 v1).run P W = .ok true W) (e2 : (Op.equalIn d f2.type v2 v2).run P W = .ok true W) :
    (Op.eqFields d xs xs [f0, f1, f2]).run P W = .ok true W := by
  simp only [Op.eqFields, if_pos n0, if_pos n1, if_pos n2, Sem.run_bind, p0, p1, p2, Result.andThen_ok, e0, e1, e2, Bool.not_true, Bool.false_eq_true, if_false, Sem.run_pure]
theorem tok_eq_at (d : Nat) (W : World) (b : Nat) (n k : Int) :
    (Op.equalIn (d + 1 + 1) 131 (.agg #[.int .u8 b, .int .i64 n, .int .i64 k]) (.agg #[.int .u8 b, .int .i64 n, .int .i64 k])).run Try.prog W = .ok true W := by
  have hp : Try.prog.stoodInHeld 131 = false := by kernel_rfl
  have hf : Try.prog.underlying 131 = some (.struct (Try.prog.fieldsOf 131)) := by kernel_rfl
  obtain ⟨f0, f1, f2, hfs, t0, o0, n0, t1, o1, n1, t2, o2, n2⟩ := fields_tok
  have h0 : (Op.equalIn (d + 1) 5 (.int .u8 (b : Int)) (.int .u8 (b : Int))).run Try.prog W = .ok ((b : Int) == (b : Int)) W := run_equalIn_int W d 5 .u8 .u8 (b : Int) (b : Int) (by kernel_rfl)
  have h1 : (Op.equalIn (d + 1) 3 (.int .i64 n) (.int .i64 n)).run Try.prog W = .ok (n == n) W := run_equalIn_int W d 3 .i64 .i64 n n (by kernel_rfl)
  have h2 : (Op.equalIn (d + 1) 3 (.int .i64 k) (.int .i64 k)).run Try.prog W = .ok (k == k) W := run_equalIn_int W d 3 .i64 .i64 k k (by kernel_rfl)
  rw [beq_self_eq_true] at h0 h1 h2
  rw [run_equalIn_struct W (d + 1) 131 _ _ hf hp, hfs]
  exact eq_three W (d + 1) _ f0 f1 f2 (.int .u8 b) (.int .i64 n) (.int .i64 k) n0 n1 n2 (by rw [t0, o0]; simp [part, go_sem]) (by rw [t1, o1]; simp [part, go_sem]) (by rw [t2, o2]; simp [part, go_sem]) (by rw [t0]; exact h0) (by rw [t1]; exact h1) (by rw [t2]; exact h2)
theorem tok_eq (W : World) (b : Nat) (n k : Int) :
    (Op.equalIn 10000 131 (.agg #[.int .u8 b, .int .i64 n, .int .i64 k]) (.agg #[.int .u8 b, .int .i64 n, .int .i64 k])).run Try.prog W = .ok true W := tok_eq_at 9998 W b n k

/-! ### a row of tokens that a call made -/
def rowC (l : List Lz.Tr) : List Value := l.flatMap tokC
theorem rowC_length (l : List Lz.Tr) : (rowC l).length = 3 * l.length := by
  induction l with
  | nil => rfl
  | cons t l ih => show (tokC t ++ rowC l).length = _; rw [List.length_append, ih, List.length_cons]; simp [tokC]; omega
theorem rowC_more (l : List Lz.Tr) (t : Lz.Tr) : rowC (l ++ [t]) = rowC l ++ tokC t := by simp [rowC]
theorem rowC_get (l : List Lz.Tr) (i r : Nat) (hi : i < l.length) (hr : r < 3) : (rowC l)[3 * i + r]? = (tokC l[i])[r]? := by
  induction l generalizing i with
  | nil => simp at hi
  | cons t l ih =>
    show (tokC t ++ rowC l)[3 * i + r]? = _
    cases i with
    | zero => rw [List.getElem?_append_left (by simp [tokC]; omega)]; simp
    | succ i =>
      rw [List.getElem?_append_right (by simp [tokC]; omega), show 3 * (i + 1) + r - (tokC t).length = 3 * i + r from by simp [tokC]; omega, ih i (by simpa using hi)]
      rfl
theorem Toks.of_own {base : Nat} {w : World} {v : Value} {l : List Lz.Tr} (h : w.ownsRow base 131 3 v l.length (rowC l)) : Toks w v l := by
  rcases h.2 with ⟨rfl, h0⟩ | ⟨g, cap, cur, rfl, hg, hh, _⟩
  · exact ⟨.inl ⟨⟨_, _, rfl⟩, List.length_eq_zero_iff.1 h0⟩⟩
  · refine ⟨.inr ⟨g, 0, cap, rfl, (Array.getElem?_eq_some_iff.1 hh).1, fun j hj => ?_⟩⟩
    have e := fun r (hr : r < 3) => (h.cellAt (3 * j + r) (by omega)).trans (rowC_get l j r hj hr)
    have e0 := e 0 (by omega)
    have e1 := e 1 (by omega)
    have e2 := e 2 (by omega)
    rw [show 3 * j = j * 3 from by omega] at e0 e1 e2
    simp only [Nat.zero_add]
    exact ⟨e0, e1, e2⟩
theorem info_tok : (Try.prog.info? 131).map (fun i => (i.zero, i.size, i.bytes)) = some (some (.agg #[.int .u8 0, .int .i64 0, .int .i64 0]), 3, 24) := by kernel_rfl
theorem own_below {base : Nat} {e : TypeId} {k : Nat} {v : Value} {n : Nat} {xs : List Value} {w w' : World} (h : w.ownsRow base e k v n xs) (hb : Below w.heap.size w w') : w'.ownsRow base e k v n xs := by
  obtain ⟨h1, h2⟩ := h
  refine ⟨h1, ?_⟩
  rcases h2 with h2 | ⟨g, cap, cur, hv, hg, hh, r⟩
  · exact .inl h2
  · refine .inr ⟨g, cap, cur, hv, hg, ?_, r⟩
    rw [hb.block g ?_, hh]
    exact (Array.getElem?_eq_some_iff.1 hh).1
theorem own_lower {base base' : Nat} {e : TypeId} {k : Nat} {v : Value} {n : Nat} {xs : List Value} {w : World} (h : w.ownsRow base e k v n xs) (hb : base' ≤ base) : w.ownsRow base' e k v n xs := by
  obtain ⟨h1, h2⟩ := h
  refine ⟨h1, ?_⟩
  rcases h2 with h2 | ⟨g, cap, cur, hv, hg, r⟩
  · exact .inl h2
  · exact .inr ⟨g, cap, cur, hv, by omega, r⟩
end Go.Proofs.Ytkhejelmjkpgfaa

namespace Go.Proofs.Ytkhejelmjkpgfaa
open Go.RowKit
set_option maxRecDepth 4000

theorem byte_get (s : ByteArray) (k : Nat) (h : k < s.size) : s.data.toList[k]? = some s[k] := by
  rw [List.getElem?_eq_getElem (by simpa using h)]; rfl
theorem byte_ne (a b : UInt8) (h : ¬ a = b) : ((a.toNat : Int) != (b.toNat : Int)) = true := by
  rw [bne_iff_ne]
  intro e
  exact h (UInt8.toNat_inj.1 (by omega))

set_option maxHeartbeats 1000000 in
theorem same_any (s : ByteArray) (p d : Nat) (w : World) (hs : s.size ≤ 4096) (hp : p ≤ s.size) (hd1 : 1 ≤ d) (hd : d ≤ p) :
    Calls Try.prog 127 #[.string s, .int .i64 p, .int .i64 d] w fun e w' => e = .returned (.int .i64 (Lz.ml s.data.toList p d 255)) ∧ Below w.heap.size w w' := by
  have HL : Hid (s.data.toList.length = s.size) := (Lib.size_eq s).symm
  obtain ⟨q, hq⟩ : ∃ q : Nat, q = min (s.size - p) 255 := ⟨_, rfl⟩
  have HQ : Hid (q = min (s.size - p) 255) := hq
  have hq2 : q ≤ 255 := by omega
  have hq3 : p + q ≤ s.size := by omega
  clear hq
  go_enter Try.func127, Try.ntmps127
  go_upto_region 1 with fail
  go_cut [7] from 9 (fun x wx => x = .int .i64 q ∧ wx = w)
  case first =>
    go_wp2_with fail
    all_goals go_meet
    all_goals exact ⟨int_eq (by have := HQ.out; omega), rfl⟩
  case rest =>
    obtain ⟨rfl, rfl⟩ := hcut
    go_wp2_with fail
    go_loopw [15] (fun i wr => ∃ k : Nat, k ≤ q ∧ i = .int .i64 k ∧ Hid (Lz.M s.data.toList p d k) ∧ Below wc.heap.size wc wr) (fun i _ => q - (intOf i).toNat)
    case atStart => exact ⟨0, by omega, rfl, Lz.M.none (by rw [HL.out]; exact hp), Below.refl _ _⟩
    case round =>
      obtain ⟨k, hk, rfl, hM, hbel⟩ := hrel
      by_cases hlt : k < q
      · have hb1 : p + k < s.size := by omega
        obtain ⟨m, hm⟩ : ∃ m, m = p + k - d := ⟨_, rfl⟩
        have hb2 : m < s.size := by omega
        have G1 := byte_get s (p + k) hb1
        have G2 := byte_get s m hb2
        have i1 : (0 : Int) ≤ (p : Int) + (k : Int) := by omega
        have i2 : (p : Int) + (k : Int) < (s.size : Int) := by omega
        have i3 : (p : Int) + (k : Int) - (d : Int) = (m : Int) := by omega
        have hne : Nonempty (Since wr.heap.size wr) := ⟨⟨wr, Below.refl _ _⟩⟩
        by_cases he : s[p + k] = s[m]
        · have HM : Hid (Lz.M s.data.toList p d (k + 1)) := hM.out.succ (by rw [HL.out]; exact hb1) (by rw [G1, ← hm, G2, he])
          have e1 : ((s[p + k].toNat : Int) != (s[m].toNat : Int)) = false := by rw [he]; simp
          clear G1 G2 hm he
          go_upto_region 5 with fail
          refine wp_region_since (B := wr.heap.size) (W0 := wr) (by kernel_rfl) (by kernel_rfl) (Below.refl _ _) ?_
          repeat (go_big_quiet_step (fail))
          refine wpQuiet_nil ?_
          rintro w7 ⟨U, rfl⟩
          have hU := U.property
          have HB3 : Hid (Below wc.heap.size wc U.val) := hbel.trans (hU.mono hbel.size)
          generalize U.val = w7 at *
          clear hU hbel hne
          go_wp2_with fail
          go_roundw
          case rel => exact ⟨k + 1, by omega, by go_num, HM, HB3.out⟩
          case measure => simp only [intOf]; omega
        · have HK : Hid (k = Lz.ml s.data.toList p d 255) := by
            refine Lz.ml_stop (by rw [HL.out]; exact hp) (by omega) hM.out ?_
            rintro ⟨_, _, h3⟩
            rw [G1, ← hm, G2] at h3
            exact he (by simpa using h3)
          have e1 : ((s[p + k].toNat : Int) != (s[m].toNat : Int)) = true := byte_ne _ _ he
          clear G1 G2 hm he
          go_upto_region 5 with fail
          refine wp_region_since (B := wr.heap.size) (W0 := wr) (by kernel_rfl) (by kernel_rfl) (Below.refl _ _) ?_
          repeat (go_big_quiet_step (fail))
          refine wpQuiet_nil ?_
          rintro w7 ⟨U, rfl⟩
          have hU := U.property
          have HB3 : Hid (Below wc.heap.size wc U.val) := hbel.trans (hU.mono hbel.size)
          generalize U.val = w7 at *
          clear hU hbel hne
          go_wp2_with fail
          go_ret
          exact ⟨by rw [← HK.out]; rfl, HB3.out⟩
      · have HK : Hid (q = Lz.ml s.data.toList p d 255) := by
          refine Lz.ml_stop (by rw [HL.out]; exact hp) hq2 (by rw [show q = k from by omega]; exact hM.out) ?_
          rintro ⟨h1, h2, _⟩
          rw [HL.out] at h2
          have := HQ.out
          omega
        go_wp2_with fail
        go_ret
        exact ⟨by rw [← HK.out]; rfl, hbel⟩
end Go.Proofs.Ytkhejelmjkpgfaa

namespace Go.Proofs.Ytkhejelmjkpgfaa
open Go.RowKit
set_option maxRecDepth 4000

structure Box (W : World) (G : Nat) (t : Lz.Tr) : Prop where
  c0 : W.cell? ⟨G, 0, none⟩ = some (.int .u8 t.lit.toNat)
  c1 : W.cell? ⟨G, 1, none⟩ = some (.int .i64 t.len)
  c2 : W.cell? ⟨G, 2, none⟩ = some (.int .i64 t.dist)
  f0 : W.frozen? ⟨G, 0, none⟩ = false
  f1 : W.frozen? ⟨G, 1, none⟩ = false
  f2 : W.frozen? ⟨G, 2, none⟩ = false
  lt : G < W.heap.size
theorem Box.new (w : World) (t : Lz.Tr) : Box (w.alloc (.cells #[.int .u8 t.lit.toNat, .int .i64 t.len, .int .i64 t.dist] 131)) w.heap.size t :=
  ⟨by simp, by simp, by simp, by simp, by simp, by simp, by simp⟩
theorem Box.below {W W' : World} {G B : Nat} {t : Lz.Tr} (h : Box W G t) (hb : Below B W W') (hg : G < B) : Box W' G t :=
  ⟨(hb.cell (p := ⟨G, 0, none⟩) hg).trans h.c0, (hb.cell (p := ⟨G, 1, none⟩) hg).trans h.c1, (hb.cell (p := ⟨G, 2, none⟩) hg).trans h.c2,
   (hb.frozen (p := ⟨G, 0, none⟩) hg).trans h.f0, (hb.frozen (p := ⟨G, 1, none⟩) hg).trans h.f1, (hb.frozen (p := ⟨G, 2, none⟩) hg).trans h.f2, Nat.lt_of_lt_of_le h.lt hb.size⟩
theorem Box.alloc {W : World} {G : Nat} {t : Lz.Tr} (h : Box W G t) (o : Obj) : Box (W.alloc o) G t := h.below ((Below.refl W.heap.size W).alloc (Nat.le_refl _) o) h.lt
theorem Box.other {W : World} {G : Nat} {t : Lz.Tr} (h : Box W G t) {p : Addr} (hp : p.block ≠ G) (u : Value) : Box (W.setCell p u) G t := by
  have e : ∀ k, (⟨G, k, none⟩ : Addr) ≠ p := fun k q => hp (by rw [← q])
  refine ⟨?_, ?_, ?_, ?_, ?_, ?_, ?_⟩
  · rw [World.cell?_setCell_other _ _ _ _ (e 0).symm]; exact h.c0
  · rw [World.cell?_setCell_other _ _ _ _ (e 1).symm]; exact h.c1
  · rw [World.cell?_setCell_other _ _ _ _ (e 2).symm]; exact h.c2
  · simpa using h.f0
  · simpa using h.f1
  · simpa using h.f2
  · simpa using h.lt
theorem Box.set0 {W : World} {G : Nat} {t : Lz.Tr} (h : Box W G t) (b : UInt8) : Box (W.setCell ⟨G, 0, none⟩ (.int .u8 b.toNat)) G ⟨b, t.len, t.dist⟩ :=
  ⟨World.cell?_setCell_same _ _ _ h.c0, by rw [World.cell?_setCell_other _ _ _ _ (by simp)]; exact h.c1, by rw [World.cell?_setCell_other _ _ _ _ (by simp)]; exact h.c2, by simpa using h.f0, by simpa using h.f1, by simpa using h.f2, by simpa using h.lt⟩
theorem Box.set1 {W : World} {G : Nat} {t : Lz.Tr} (h : Box W G t) (n : Int) : Box (W.setCell ⟨G, 1, none⟩ (.int .i64 n)) G ⟨t.lit, n, t.dist⟩ :=
  ⟨by rw [World.cell?_setCell_other _ _ _ _ (by simp)]; exact h.c0, World.cell?_setCell_same _ _ _ h.c1, by rw [World.cell?_setCell_other _ _ _ _ (by simp)]; exact h.c2, by simpa using h.f0, by simpa using h.f1, by simpa using h.f2, by simpa using h.lt⟩
theorem Box.set2 {W : World} {G : Nat} {t : Lz.Tr} (h : Box W G t) (n : Int) : Box (W.setCell ⟨G, 2, none⟩ (.int .i64 n)) G ⟨t.lit, t.len, n⟩ :=
  ⟨by rw [World.cell?_setCell_other _ _ _ _ (by simp)]; exact h.c0, by rw [World.cell?_setCell_other _ _ _ _ (by simp)]; exact h.c1, World.cell?_setCell_same _ _ _ h.c2, by simpa using h.f0, by simpa using h.f1, by simpa using h.f2, by simpa using h.lt⟩
theorem Box.store {W : World} {G : Nat} {t u : Lz.Tr} (h : Box W G t) : Box (((W.setCell ⟨G, 0, none⟩ (.int .u8 u.lit.toNat)).setCell ⟨G, 1, none⟩ (.int .i64 u.len)).setCell ⟨G, 2, none⟩ (.int .i64 u.dist)) G u :=
  ((h.set0 u.lit).set1 u.len).set2 u.dist

/-- the longest copy at p, as it is handed over -/
def Lz.best (s : Lz.Bs) (p : Nat) : Lz.Tr := ⟨0, (Lz.bestAt s p).1, (Lz.bestAt s p).2⟩
def Lz.found (s : Lz.Bs) (p : Nat) : Bool := decide (0 < (Lz.bestAt s p).1)

set_option maxHeartbeats 1000000 in
theorem longest_any (s : ByteArray) (p : Nat) (w : World) (hs : s.size ≤ 4096) (hp : p ≤ s.size) :
    Calls Try.prog 99 #[.string s, .int .i64 p] w fun e w' => e = .returned (.tuple #[tokV (Lz.best s.data.toList p), .bool (Lz.found s.data.toList p)]) ∧ Below w.heap.size w w' := by
  obtain ⟨q, hq⟩ : ∃ q : Nat, q = min 1024 p := ⟨_, rfl⟩
  have HQ : Hid (q = min 1024 p) := hq
  have hq1 : q ≤ p := by omega
  clear hq
  obtain ⟨L, hL⟩ : ∃ L, s.data.toList = L := ⟨_, rfl⟩
  have HS : Hid (∀ d V, 1 ≤ d → d ≤ p → Calls Try.prog 127 #[.string s, .int .i64 p, .int .i64 d] V fun e w' => e = .returned (.int .i64 (Lz.ml L p d 255)) ∧ Below V.heap.size V w') := fun d V h1 h2 => by
    rw [← hL]; exact same_any s p d V hs hp h1 h2
  rw [hL]
  clear hL
  obtain ⟨W4, hW4⟩ : ∃ W4, W4 = (w.alloc (.cells #[.int .u8 0, .int .i64 0, .int .i64 0] 131)).alloc (.cells #[.int .u8 0, .int .i64 0, .int .i64 0] 131) := ⟨_, rfl⟩
  have X1 : Hid (Box W4 w.heap.size ⟨0, 0, 0⟩) := by rw [hW4]; exact (Box.new w ⟨0, 0, 0⟩).alloc _
  have X2 : Hid (Box W4 (w.heap.size + 1) ⟨0, 0, 0⟩) := by
    rw [hW4]
    have := Box.new (w.alloc (.cells #[.int .u8 0, .int .i64 0, .int .i64 0] 131)) ⟨0, 0, 0⟩
    rwa [World.size_alloc] at this
  have XB : Hid (Below w.heap.size w W4) := by rw [hW4]; exact ((Below.refl _ w).alloc (Nat.le_refl _) _).alloc (by simp) _
  go_enter Try.func99, Try.ntmps99
  go_wp2_with fail
  rw [← hW4]
  clear hW4
  go_loopw [7] (fun i wr => ∃ D : Nat, D ≤ q ∧ i = .int .i64 ((D : Int) + 1) ∧ Hid (Box wr w.heap.size ⟨0, 0, 0⟩) ∧ Hid (Box wr (w.heap.size + 1) ⟨0, (Lz.bst L p D).1, (Lz.bst L p D).2⟩) ∧ Below w.heap.size w wr) (fun i _ => q + 1 - (intOf i).toNat)
  case atStart => exact ⟨0, by omega, rfl, X1, X2, XB.out⟩
  case round =>
    obtain ⟨D, hD, rfl, hx1, hx2, hbel⟩ := hrel
    obtain ⟨b, hb⟩ : ∃ b, b = decide (D < q) := ⟨_, rfl⟩
    have HB : Hid (b = decide (D < q)) := hb
    clear hb
    go_upto_region 3 with fail
    go_cut [12] from 9 to 25 (fun x wx => x = .bool b ∧ wx = wr)
    case first =>
      go_wp2_with fail
      all_goals go_meet
      all_goals exact ⟨by rw [HB.out]; exact congrArg Value.bool (decide_eq_decide.2 (by have := HQ.out; omega)), rfl⟩
    case rest =>
    obtain ⟨rfl, rfl⟩ := hcut
    have hg2 := hx2.out.lt
    cases b with
    | true =>
      have hlt := of_decide_eq_true HB.out.symm
      have hc := fun V => HS.out (D + 1) V (by omega) (by omega)
      have hm := Lz.ml_le L p (D + 1) 255
      have HBS : Hid (Lz.bst L p (D + 1) = if (Lz.bst L p D).1 < Lz.ml L p (D + 1) 255 then (Lz.ml L p (D + 1) 255, D + 1) else Lz.bst L p D) := rfl
      generalize Lz.ml L p (D + 1) 255 = m at *
      generalize hbd : Lz.bst L p D = bd at *
      go_wp2_with fail
      refine (hc _).mono ?_
      rintro e w2 ⟨rfl, hb2⟩
      have y1 := hx1.out.below hb2 hx1.out.lt
      have y2 := hx2.out.below hb2 hx2.out.lt
      have HB2 : Hid (Below w.heap.size w w2) := hbel.trans (hb2.mono hbel.size)
      clear hc hb2 hx1 hx2 hbel
      have HY1 : Hid (Box w2 w.heap.size ⟨0, 0, 0⟩) := y1
      have HY2 : Hid (Box w2 (w.heap.size + 1) ⟨0, bd.1, bd.2⟩) := y2
      have c0 := y2.c0
      have c1 := y2.c1
      have c2 := y2.c2
      have f0 := y2.f0
      have f1 := y2.f1
      have f2 := y2.f2
      clear y1 y2
      by_cases hgt : bd.1 < m
      · rw [if_pos hgt] at HBS
        have HN : Hid (Box (((w2.setCell ⟨w.heap.size + 1, 0, none⟩ (.int .u8 0)).setCell ⟨w.heap.size + 1, 1, none⟩ (.int .i64 m)).setCell ⟨w.heap.size + 1, 2, none⟩ (.int .i64 ((D : Int) + 1))) (w.heap.size + 1) ⟨0, (m : Int), (D : Int) + 1⟩) := HY2.out.store (u := ⟨0, (m : Int), (D : Int) + 1⟩)
        go_wp2_with fail
        refine ⟨⟨D + 1, by omega, int_eq (by omega), ?_, ?_, ?_⟩, by simp only [intOf]; omega⟩
        · exact ((HY1.out.other (by simp) _).other (by simp) _).other (by simp) _
        · rw [HBS.out]; exact HN.out
        · exact ((HB2.out.setCell (by simp) _).setCell (by simp) _).setCell (by simp) _
      · rw [if_neg hgt] at HBS
        go_wp2_with fail
        go_roundw
        case rel => exact ⟨D + 1, by omega, by go_num, HY1, by rw [HBS.out]; exact HY2, HB2.out⟩
        case measure => simp only [intOf]; omega
    | false =>
      have hlt := of_decide_eq_false HB.out.symm
      have hDq : D = q := by omega
      rw [hDq, HQ.out] at hx2
      have HX2 : Hid (Box wc (w.heap.size + 1) (Lz.best L p)) := hx2.out
      have HX1 : Hid (Box wc w.heap.size ⟨0, 0, 0⟩) := hx1.out
      have HBL : Hid (Below w.heap.size w wc) := hbel
      obtain ⟨t, ht⟩ : ∃ t, t = Lz.best L p := ⟨_, rfl⟩
      have HF : Hid (decide (0 < t.len) = Lz.found L p) := by
        rw [ht]
        show decide (0 < ((Lz.bestAt L p).1 : Int)) = decide (0 < (Lz.bestAt L p).1)
        exact decide_eq_decide.2 (by omega)
      have HT : Hid (t = Lz.best L p) := ht
      rw [← ht] at HX2
      clear ht hx1 hx2 hbel hDq
      have c0 := HX2.out.c0
      have c1 := HX2.out.c1
      have c2 := HX2.out.c2
      have d0 := HX1.out.c0
      have d1 := HX1.out.c1
      have d2 := HX1.out.c2
      have f0 := HX1.out.f0
      have f1 := HX1.out.f1
      have f2 := HX1.out.f2
      go_wp2_with fail
      go_region
      all_goals go_wp2_with fail
      all_goals refine bodyPost_ret (v := .tuple #[tokV t, .bool (decide (0 < t.len))]) ?_ rfl ⟨by rw [← HF.out, ← HT.out], (((HBL.out.setCell (Nat.le_refl _) _).setCell (Nat.le_refl _) _).setCell (Nat.le_refl _) _).drew⟩
      all_goals simp [results, asAddr, go_sem, d0, d1, d2, tokV]
end Go.Proofs.Ytkhejelmjkpgfaa

namespace Go.Proofs.Ytkhejelmjkpgfaa
open Go.RowKit
set_option maxRecDepth 4000

theorem own_tok {base : Nat} {w1 : World} {v1 : Value} {l : List Lz.Tr} {t : Lz.Tr} (h : w1.ownsRow base 131 3 v1 (l.length + 1) (rowC l ++ tokC t)) : w1.ownsRow base 131 3 v1 (l ++ [t]).length (rowC (l ++ [t])) := by
  rw [rowC_more, List.length_append, List.length_singleton]; exact h
theorem own_form {base : Nat} {e : TypeId} {k n : Nat} {w : World} {v : Value} {xs : List Value} (h : w.ownsRow base e k v n xs) : ∃ a c, v = .slice a n c := by
  rcases h.2 with ⟨rfl, h0⟩ | ⟨g, cap, cur, rfl, _⟩
  · exact ⟨_, _, by rw [h0]⟩
  · exact ⟨_, _, rfl⟩
namespace Lz
def greedyR (s : Bs) : List Tr := (greedy s).map Tk.raw
def restR (s : Bs) (p : Nat) : List Tr := (rest s p).map Tk.raw
theorem tok_found {s : Bs} {p : Nat} (h : found s p = true) : (tokAt s p).raw = best s p := by
  have h := of_decide_eq_true h
  unfold tokAt best Tk.raw
  rw [if_neg (by omega)]
theorem tok_none {s : Bs} {p : Nat} (h : found s p = false) : (tokAt s p).raw = ⟨s.getD p 0, 0, 0⟩ := by
  have h := of_decide_eq_false h
  unfold tokAt Tk.raw
  rw [if_pos (by omega)]
  rfl
theorem many_size (s : Bs) (p : Nat) (hp : p < s.length) : (tokAt s p).raw.many = ((tokAt s p).size : Nat) := by
  unfold Tr.many Tk.size Tk.raw
  rcases fits_tokAt hp with ⟨h1, h2, _⟩ | ⟨_, h1, h2, h3, h4, _⟩
  · dsimp only
    rw [if_pos ⟨by omega, by omega⟩, if_pos h1]; rfl
  · dsimp only
    rw [if_neg (by omega), if_neg (by omega)]
end Lz
theorem getD_byte (s : ByteArray) (k : Nat) (h : k < s.size) : s.data.toList.getD k 0 = s[k] := by
  rw [List.getD_eq_getElem?_getD, byte_get s k h]; rfl

set_option maxHeartbeats 400000 in
theorem greedy_large (s : ByteArray) (w : World) (hs : 4096 < s.size) (_h : s.size ≤ 140737488351232) :
    Calls Try.prog 69 #[.string s] w fun e w' => e = .returned (.tuple #[.slice none 0 0, .int .i64 2]) ∧ w' = w := by
  go_enter Try.func69, Try.ntmps69
  go_wp2_with fail
  go_ret2
  exact ⟨rfl, rfl⟩

set_option maxHeartbeats 1000000 in
theorem greedy_of (s : ByteArray) (w : World) (hs : s.size ≤ 4096) (T : Nat → Lz.Tr) (z : Nat → Nat) (F : Nat → Bool) (Bt : Nat → Lz.Tr) (R : Nat → List Lz.Tr)
    (hc : ∀ p V, p < s.size → Calls Try.prog 99 #[.string s, .int .i64 p] V fun e w' => e = .returned (.tuple #[tokV (Bt p), .bool (F p)]) ∧ Below V.heap.size V w')
    (hf : ∀ p, p < s.size → F p = true → T p = Bt p) (hn : ∀ p (h : p < s.size), F p = false → T p = ⟨s[p], 0, 0⟩)
    (hz : ∀ p, p < s.size → (T p).many = (z p : Nat) ∧ 1 ≤ z p ∧ p + z p ≤ s.size)
    (hR : ∀ p, p < s.size → R p = T p :: R (p + z p)) (hR0 : R s.size = []) :
    Calls Try.prog 69 #[.string s] w fun e w' => ∃ v, e = .returned (.tuple #[v, .int .i64 0]) ∧ w'.ownsRow w.heap.size 131 3 v (R 0).length (rowC (R 0)) ∧ Below w.heap.size w w' := by
  have HC : Hid (∀ p V, p < s.size → Calls Try.prog 99 #[.string s, .int .i64 p] V fun e w' => e = .returned (.tuple #[tokV (Bt p), .bool (F p)]) ∧ Below V.heap.size V w') := hc
  have HF : Hid (∀ p, p < s.size → F p = true → T p = Bt p) := hf
  have HN : Hid (∀ p (h : p < s.size), F p = false → T p = ⟨s[p], 0, 0⟩) := hn
  have HZ : Hid (∀ p, p < s.size → (T p).many = (z p : Nat) ∧ 1 ≤ z p ∧ p + z p ≤ s.size) := hz
  have HR : Hid (∀ p, p < s.size → R p = T p :: R (p + z p)) := hR
  have HR0 : Hid (R s.size = []) := hR0
  clear hc hf hn hz hR hR0
  obtain ⟨i0, hi, hz0, hz1, hz2⟩ := info_parts info_tok
  go_enter Try.func69, Try.ntmps69
  go_wp2_with fail
  go_loopw [4, 5] (fun v i wr => ∃ (p : Nat) (out : List Lz.Tr), p ≤ s.size ∧ out.length ≤ p ∧ i = .int .i64 p ∧ Hid (out ++ R p = R 0) ∧ wr.ownsRow w.heap.size 131 3 v out.length (rowC out) ∧ Below w.heap.size w wr) (fun _ i _ => s.size - (intOf i).toNat)
  case atStart => exact ⟨0, [], by omega, by simp, rfl, rfl, World.ownsRow_nil _ _ _ _, Below.refl _ _⟩
  case round =>
    obtain ⟨p, out, hp, ho, rfl, hout, hown, hbel⟩ := hrel
    by_cases hlt : p < s.size
    · have hcall := fun V => HC.out p V hlt
      have hzp := HZ.out p hlt
      have hby := fun V => bytes_any (T p) V
      rw [hzp.1] at hby
      have hk1 := hzp.2.1
      have hk2 := hzp.2.2
      have HRp : Hid (R p = T p :: R (p + z p)) := HR.out p hlt
      have hFp := HF.out p hlt
      have hNp := HN.out p hlt
      generalize hTp : T p = t at *
      generalize hBp : Bt p = bt at *
      generalize hfp : F p = f at *
      generalize hzp' : z p = k at *
      have HK : Hid (z p = k) := hzp'
      clear hzp hTp hBp hfp hzp'
      unfold tokV at hcall hby
      go_upto_region 6 with fail
      go_wp2_with fail
      refine (hcall _).mono ?_
      rintro e w2 ⟨rfl, hb2⟩
      have hown2 := own_below hown hb2
      have hB2 := hbel.trans (hb2.mono hbel.size)
      have hs2 := hB2.size
      clear hcall hb2 hown hbel
      have HF2 : Hid (f = true → t = bt) := hFp
      have HN2 : Hid (f = false → t = ⟨s[p], 0, 0⟩) := hNp
      clear hFp hNp
      go_upto_if 22 with fail
      go_cut [] from 11 to 34 (fun wx => wx = w2.alloc (.cells #[.int .u8 t.lit.toNat, .int .i64 t.len, .int .i64 t.dist] 131))
      case first =>
        cases f with
        | true =>
          go_wp2_with fail
          go_meet
          rw [HF2.out trivial]
        | false =>
          go_wp2_with fail
          go_meet
          rw [HN2.out trivial]
      case rest =>
      obtain rfl := hcut
      clear HF2 HN2
      go_wp2_with (at_builtin; refine wpList_append_own _ rfl (.tmp 27) (.tmp 29) 97 rfl w.heap.size 131 i0 (.agg #[.int .u8 0, .int .i64 0, .int .i64 0]) 3 24 Try.underlying97 hi hz0 hz1 hz2 rfl (by decide) _ _ _ rfl ((hown2.alloc _).alloc _) ⟨w2.heap.size + 1, 0, none⟩ 1 1 (tokC t) rfl rfl ?c1 ?c2 ?c3 ?c4 ?c5 ?_)
      case c1 =>
        intro j u hj
        match j, hj with
        | 0, hj => simp [tokC] at hj; subst hj; simp [Addr.add]
        | 1, hj => simp [tokC] at hj; subst hj; simp [Addr.add]
        | 2, hj => simp [tokC] at hj; subst hj; simp [Addr.add]
      case c2 => intro u hu; simp [tokC] at hu; rcases hu with rfl | rfl | rfl <;> rfl
      case c3 => unfold maxLen; omega
      case c4 => omega
      case c5 => simp; omega
      intro v' w4 hown4 hgrow _
      have hne : some w2.heap.size ≠ u4.ownBlock := fun e => by have := (hown2.lt _ e.symm).2; omega
      have x0 : w4.cell? ⟨w2.heap.size, 0, none⟩ = some (.int .u8 (t.lit.toNat : Int)) := hgrow.cell (by simp) hne
      have x1 : w4.cell? ⟨w2.heap.size, 1, none⟩ = some (.int .i64 t.len) := hgrow.cell (by simp) hne
      have x2 : w4.cell? ⟨w2.heap.size, 2, none⟩ = some (.int .i64 t.dist) := hgrow.cell (by simp) hne
      have hB4 : Below w.heap.size w w4 := ((hB2.alloc hs2 _).alloc (by simp; omega) _).grown hgrow (by simp; omega) fun k hk => (hown2.lt k hk).1
      have hown5 := own_tok hown4
      have hs4 := hB4.size
      clear hown4 hgrow hown2 hB2 hne
      go_wp2_with fail
      refine (hby _).mono ?_
      rintro e w6 ⟨rfl, hb6⟩
      have HO6 : Hid (w6.ownsRow w.heap.size 131 3 v' (out ++ [t]).length (rowC (out ++ [t]))) := own_below hown5 hb6
      have HB6 : Hid (Below w.heap.size w w6) := hB4.trans (hb6.mono hs4)
      have HOU : Hid ((out ++ [t]) ++ R (p + k) = R 0) := by
        show _ = _
        rw [← hout.out, HRp.out]
        simp
      clear hby hb6 hown5 hB4 x0 x1 x2
      go_wp2_with fail
      go_roundw
      case rel => exact ⟨p + k, out ++ [t], hk2, by simp; omega, by go_num, HOU, HO6.out, HB6.out⟩
      case measure => simp only [intOf]; omega
    · have HE : Hid (out = R 0) := by
        show _ = _
        rw [← hout.out, show p = s.size from by omega, HR0.out, List.append_nil]
      rw [HE.out] at hown
      clear HE hout
      go_wp2_with fail
      go_ret2
      exact ⟨_, rfl, hown, hbel⟩
theorem greedy_any (s : ByteArray) (w : World) (hs : s.size ≤ 4096) :
    Calls Try.prog 69 #[.string s] w fun e w' => ∃ v, e = .returned (.tuple #[v, .int .i64 0]) ∧ w'.ownsRow w.heap.size 131 3 v (Lz.greedyR s.data.toList).length (rowC (Lz.greedyR s.data.toList)) ∧ Below w.heap.size w w' := by
  have hl : s.data.toList.length = s.size := (Lib.size_eq s).symm
  refine greedy_of s w hs (fun p => (Lz.tokAt s.data.toList p).raw) (fun p => (Lz.tokAt s.data.toList p).size) (fun p => Lz.found s.data.toList p) (fun p => Lz.best s.data.toList p) (fun p => Lz.restR s.data.toList p)
    (fun p V hp => longest_any s p V hs (by omega)) (fun p _ hf => Lz.tok_found hf) (fun p hp hf => by rw [← getD_byte s p hp]; exact Lz.tok_none hf) (fun p hp => ?_) (fun p hp => ?_) ?_
  · exact ⟨Lz.many_size _ _ (by omega), Lz.Tk.size_pos _, by rw [← hl]; exact (Lz.fits_tokAt (by omega)).size⟩
  · show (Lz.rest _ _).map _ = _
    rw [Lz.rest_step _ _ (by omega)]
    rfl
  · show (Lz.rest _ _).map _ = _
    rw [Lz.rest_end _ _ (by omega)]
    rfl
end Go.Proofs.Ytkhejelmjkpgfaa
