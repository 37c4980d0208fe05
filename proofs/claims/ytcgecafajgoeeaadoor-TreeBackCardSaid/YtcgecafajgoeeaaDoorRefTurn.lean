/-
  What turned of the document's answer (package lumref) answers: each byte b as 255 - b.
-/
import Derived.Test.YtcgecafajgoeeaaDoorLow
import Derived.Test.YtcgecafajgoeeaaDoorBytes
import Derived.Laws.IdiomStrings
namespace Go.Proofs.YtcgecafajgoeeaaDoor
open Go.RowKit
set_option maxRecDepth 4000

/-- what lies in cell j when k bytes have been turned -/
def turnAt (s : ByteArray) (k j : Nat) : Int := if j < k then 255 - ((s.data.toList.getD j 0).toNat : Int) else ((s.data.toList.getD j 0).toNat : Int)
theorem getD_byteT (s : ByteArray) (j : Nat) (h : j < s.size) : s.data.toList.getD j 0 = s[j] := by
  rw [List.getD_eq_getElem?_getD, List.getElem?_eq_getElem (by simpa using h)]; rfl
theorem turn_step {s : ByteArray} {k B : Nat} {w : World} (hk : k < s.size) (h : ∀ j, j < s.size → w.cell? ⟨B, j, none⟩ = some (.int .u8 (turnAt s k j))) :
    ∀ j, j < s.size → (w.setCell ⟨B, k, none⟩ (.int .u8 (255 - (s[k].toNat : Int)))).cell? ⟨B, j, none⟩ = some (.int .u8 (turnAt s (k + 1) j)) := by
  intro j hj
  by_cases e : j = k
  · subst e
    rw [World.cell?_setCell_same _ _ _ (h j hj), turnAt, if_pos (by omega), getD_byteT s j hj]
  · rw [World.cell?_setCell_other _ _ _ _ (by intro h; exact e (congrArg Addr.off h).symm), h j hj, turnAt, turnAt]
    by_cases hjk : j < k
    · rw [if_pos hjk, if_pos (by omega)]
    · rw [if_neg hjk, if_neg (by omega)]
theorem turn_back (s : ByteArray) (B cap : Nat) (w : World) (h : ∀ j, j < s.size → w.cell? ⟨B, j, none⟩ = some (.int .u8 (turnAt s s.size j))) :
    (convert 41 9 (.slice (some ⟨B, 0, none⟩) s.size cap)).run Tryd.prog w = .ok (.string ⟨(Nm.tn 255 s.data.toList).toArray⟩) w := by
  have hl : (Nm.tn 255 s.data.toList).length = s.size := by rw [Nm.tn_length, ← Lib.size_eq]
  have := run_convert_bytes_back w 41 9 5 ⟨B, 0, none⟩ cap (Nm.tn 255 s.data.toList) (P := Tryd.prog) (by kernel_rfl) (by kernel_rfl) (by kernel_rfl) (by
    intro j hj
    rw [hl] at hj
    have e : (⟨B, 0, none⟩ : Addr).add j = ⟨B, j, none⟩ := by unfold Addr.add; split <;> simp_all
    have hb := s[j].toNat_lt
    have g : (Nm.tn 255 s.data.toList)[j] = s[j] ^^^ UInt8.ofNat 255 := by simp [Nm.tn]; rfl
    rw [e, h j hj, turnAt, if_pos hj, getD_byteT s j hj, g, Nm.not_byte]
    congr 2
    omega)
  rw [hl] at this
  exact this

set_option maxHeartbeats 400000 in
theorem turned_any (s : ByteArray) (w : World) (hs : s.size ≤ 140737488351232) :
    Calls Tryd.prog 36 #[.string s] w fun e w' => e = .returned (.string ⟨(Nm.tn 255 s.data.toList).toArray⟩) ∧ Below w.heap.size w w' := by
  have hcv := run_bytes_of_string (P := Tryd.prog) w 9 41 5 s (by kernel_rfl) (by kernel_rfl) (by kernel_rfl)
  have hcell : ∀ j, j < s.size → (w.alloc (.cells (bytesRow s (grownCap w s.size 0 5)) 5 ((bytesRow s (grownCap w s.size 0 5)).size, (bytesRow s (grownCap w s.size 0 5)).size + 1))).drew.cell? ⟨w.heap.size, j, none⟩ = some (.int .u8 (turnAt s 0 j)) := by
    intro j hj
    rw [turnAt, if_neg (by omega), getD_byteT s j hj]
    exact bytes_cell w s _ _ j hj
  have hfz : ∀ j, j < s.size → (w.alloc (.cells (bytesRow s (grownCap w s.size 0 5)) 5 ((bytesRow s (grownCap w s.size 0 5)).size, (bytesRow s (grownCap w s.size 0 5)).size + 1))).drew.frozen? ⟨w.heap.size, j, none⟩ = false := by
    intro j hj
    exact bytes_free w s _ j hj
  generalize bytesRow s (grownCap w s.size 0 5) = C at *
  generalize grownCap w s.size 0 5 = cap at *
  have HC := hcell
  have HF := hfz
  have H1 : Hid (∀ j, j < s.size → (w.alloc (.cells C 5 (C.size, C.size + 1))).drew.cell? ⟨w.heap.size, j, none⟩ = some (.int .u8 (turnAt s 0 j))) := hcell
  have H2 : Hid (∀ j, j < s.size → (w.alloc (.cells C 5 (C.size, C.size + 1))).drew.frozen? ⟨w.heap.size, j, none⟩ = false) := hfz
  clear hcell hfz HC HF
  go_enter Tryd.func36, Tryd.ntmps36
  go_wp2
  go_loopw [9] (fun i wr => ∃ k : Nat, k ≤ s.size ∧ i = .int .i64 k ∧ (∀ j, j < s.size → wr.cell? ⟨w.heap.size, j, none⟩ = some (.int .u8 (turnAt s k j))) ∧
      (∀ j, j < s.size → wr.frozen? ⟨w.heap.size, j, none⟩ = false) ∧ Below w.heap.size w wr) (fun i _ => s.size - (intOf i).toNat)
  case atStart => exact ⟨0, Nat.zero_le _, rfl, H1.out, H2.out, ((Below.refl _ _).alloc (Nat.le_refl _) _).drew⟩
  case round =>
    obtain ⟨k, hk, rfl, hc, hf, hb⟩ := hrel
    by_cases hlt : k < s.size
    · have hck : wr.cell? ⟨w.heap.size, k, none⟩ = some (.int .u8 (s[k].toNat : Int)) := by rw [hc k hlt, turnAt, if_neg (by omega), getD_byteT s k hlt]
      have hfk := hf k hlt
      have hst := turn_step hlt hc
      have hbk := s[k].toNat_lt
      have HS : Hid (∀ j, j < s.size → (wr.setCell ⟨w.heap.size, k, none⟩ (.int .u8 (255 - (s[k].toNat : Int)))).cell? ⟨w.heap.size, j, none⟩ = some (.int .u8 (turnAt s (k + 1) j))) := hst
      have HF : Hid (∀ j, j < s.size → wr.frozen? ⟨w.heap.size, j, none⟩ = false) := hf
      clear hst hc hf hcv
      go_wp2
      go_roundw
      case rel => exact ⟨k + 1, by omega, by go_num, HS.out, by simpa using HF.out, hb.setCell (Nat.le_refl _) _⟩
      case measure => simp [intOf]; omega
    · obtain rfl : k = s.size := by omega
      have hbk := turn_back s w.heap.size cap wr hc
      clear hc hf hcv
      go_wp2
      go_ret
      exact ⟨rfl, hb⟩
end Go.Proofs.YtcgecafajgoeeaaDoor
