/-
  strings.SplitN at a slash: at most nine parts, in a row of one's own.
-/
import Derived.Test.YtfcnlfblfennaaaDoorNnCutM
import Derived.Test.YtfcnlfblfennaaaDoorTxMem
import Derived.Test.YtfcnlfblfennaaaDoorShelfIx
import Derived.WalkKit
import Derived.Deep.LoopGhost
import Derived.Deep.OwnRows
namespace Go.Proofs.YtfcnlfblfennaaaDoor
open Go.RowKit Go.Lib

set_option maxHeartbeats 1000000 in
theorem gen_any (s : ByteArray) (w : World) (hs : s.size ≤ 140737488355328) (n : Int) (hn : 1 ≤ n) (hn9 : n ≤ 9) (N : Nat) (hN : (N : Int) = min n ((s.size : Int) + 1)) :
    Calls Tryd.prog 53 #[.string s, .string ⟨#[47]⟩, .int .i64 0, .int .i64 n] w fun e w' =>
      e = .returned (.slice (some ⟨w.heap.size, 0, none⟩) (Nn.spB (N - 1) s).length N) ∧ w' = w.alloc (.cells (Lib.cellsOf (Nn.spB (N - 1) s) N) 9) := by
  have hN1 : 1 ≤ N := by omega
  have hNs : N ≤ s.size + 1 := by omega
  have hN9 : N ≤ 9 := by omega
  have hmk := run_make_row' (P := Tryd.prog) 30 9 (.string ByteArray.empty) 16 Tryd.underlying30 (by kernel_rfl) rfl .i64 .i64 N (by omega) (by omega)
  have hne : (n == 0) = false := beq_eq_false_iff_ne.2 (by omega)
  have hng : ¬ n < 0 := by omega
  have hNi : min n ((s.size : Int) + 1) = (N : Int) := hN.symm
  clear hN
  go_enter Tryd.func53, Tryd.ntmps53
  go_wp2_with fail
  clear hmk
  go_loopg [0, 10] (N - 1) (fun g s0 s10 wr => ∃ (done : List ByteArray) (rest : ByteArray), s0 = .string rest ∧ s10 = .int .i64 done.length ∧ done.length ≤ N - 1 ∧ g = N - 1 - done.length ∧ rest.size ≤ s.size ∧
      wr = w.alloc (.cells (Lib.cellsOf done N) 9) ∧ done ++ Nn.spB (N - 1 - done.length) rest = Nn.spB (N - 1) s)
  case atStart => exact ⟨[], s, rfl, rfl, Nat.zero_le _, rfl, Nat.le_refl _, by rw [Lib.cellsOf_nil], rfl⟩
  case round =>
    obtain ⟨done, rest, rfl, rfl, hd, rfl, hrs, rfl, hsp⟩ := hrel
    have hnext : (Lib.cellsOf done N)[done.length]? = some (.string ByteArray.empty) := Lib.cellsOf_next (by omega)
    have HS : Hid (done ++ Nn.spB (N - 1 - done.length) rest = Nn.spB (N - 1) s) := hsp
    clear hsp
    have HFin : Hid (Nn.spB (N - 1 - done.length) rest = [rest] → (Nn.spB (N - 1) s).length = done.length + 1 ∧ (Lib.cellsOf done N).setIfInBounds done.length (.string rest) = Lib.cellsOf (Nn.spB (N - 1) s) N) := fun h => by
      have e := HS.out
      rw [h] at e
      rw [← e]
      exact ⟨by simp, Lib.cellsOf_set (by omega) rest⟩
    by_cases hlt : done.length < N - 1
    · have hltz : ((done.length : Nat) : Int) < (N : Int) - 1 := by omega
      have hI := Tryd.strings_Index_one rest 47 (w.alloc (.cells (Lib.cellsOf done N) 9))
      rcases Nn.ix_cases 47 rest.data.toList with ⟨hix, _⟩ | ⟨i, hix, hroom, _⟩
      · rw [hix] at hI
        go_wp2_with fail
        refine hI.mono ?_
        rintro e w' ⟨rfl, hw⟩
        rw [hw]
        go_wp2_with fail
        go_ret
        obtain ⟨f1, f2⟩ := HFin.out (Nn.spB_none hix)
        rw [f1, ← f2]
        exact ⟨by first | rfl | (congr 2 <;> omega), rfl⟩
      · rw [← Lib.size_eq] at hroom
        have c0 : ¬ ((i : Int) < 0) := by omega
        have c2 : (↑i : Int) ≤ ↑rest.size := by omega
        have c4 : (↑i + 1 : Int) ≤ ↑rest.size := by omega
        have c3 : (0 : Int) ≤ ↑i + 1 := by omega
        have HX : Hid (indexByte rest.data.toList 47 = i) := hix
        rw [hix] at hI
        clear hix
        go_wp2_with fail
        refine hI.mono ?_
        rintro e w' ⟨rfl, hw⟩
        rw [hw]
        clear hw hI
        go_wp2_with fail
        go_roundg (N - 1 - (done.length + 1))
        case measure => omega
        case rel =>
          refine ⟨done ++ [rest.extract 0 i], rest.extract (i + 1) rest.size, rfl, by simp, by simp; omega, by simp, by rw [ByteArray.size_extract]; omega, by rw [← Lib.cellsOf_set (by omega)], ?_⟩
          rw [← HS.out, show N - 1 - done.length = (N - 1 - (done.length + 1)) + 1 by omega, Nn.spB_at HX.out]
          simp
    · have hltz : ¬ (((done.length : Nat) : Int) < (N : Int) - 1) := by omega
      go_wp2_with fail
      go_ret
      obtain ⟨f1, f2⟩ := HFin.out (by rw [show N - 1 - done.length = 0 by omega]; rfl)
      rw [f1, ← f2]
      exact ⟨by first | rfl | (congr 2 <;> omega), rfl⟩
/-- the parts lie in a row of one's own -/
theorem cells_own (w : World) (l : List ByteArray) (N : Nat) (h1 : l.length ≤ N) (hN : N ≤ 9) :
    (w.alloc (.cells (Lib.cellsOf l N) 9)).ownsRow w.heap.size 9 1 (.slice (some ⟨w.heap.size, 0, none⟩) l.length N) l.length (l.map Tv) := by
  refine ⟨by simp, .inr ⟨w.heap.size, N, _, rfl, Nat.le_refl _, heap_alloc_new w _, h1, by unfold maxLen; omega, by rw [Lib.cellsOf_size h1, Nat.mul_one], ?_⟩⟩
  unfold Lib.cellsOf
  rw [Nat.mul_one, List.take_left' (by simp)]
  rfl
theorem splitN_any (s : ByteArray) (w : World) (hs : s.size ≤ 140737488355328) :
    Calls Tryd.prog 32 #[.string s, .string ⟨#[47]⟩, .int .i64 9] w fun e w' => ∃ N, e = .returned (.slice (some ⟨w.heap.size, 0, none⟩) (Nn.spB 8 s).length N) ∧
      w'.ownsRow w.heap.size 9 1 (.slice (some ⟨w.heap.size, 0, none⟩) (Nn.spB 8 s).length N) (Nn.spB 8 s).length ((Nn.spB 8 s).map Tv) ∧ Below w.heap.size w w' := by
  obtain ⟨N, hN⟩ : ∃ N, N = min 9 (s.size + 1) := ⟨_, rfl⟩
  have hg := gen_any s w hs 9 (by omega) (by omega) N (by omega)
  have he : Nn.spB (N - 1) s = Nn.spB 8 s := by
    rcases Nat.lt_or_ge s.size 9 with h | h
    · have hm : (Nn.spB (N - 1) s).map (·.data.toList) = (Nn.spB 8 s).map (·.data.toList) := by
        rw [Nn.spB_spn, Nn.spB_spn, Nn.spn_more (N - 1) 8 _ (by rw [← Lib.size_eq]; omega) (by rw [← Lib.size_eq]; omega)]
      refine List.map_inj_right (f := fun x : ByteArray => x.data.toList) (fun x y h => ?_) |>.1 hm
      exact ByteArray.ext (Array.toList_inj.1 h)
    · rw [show N - 1 = 8 by omega]
  rw [he] at hg
  have hl := (Nn.spB_len (N - 1) s).2
  rw [he] at hl
  have HO : Hid ((w.alloc (.cells (Lib.cellsOf (Nn.spB 8 s) N) 9)).ownsRow w.heap.size 9 1 (.slice (some ⟨w.heap.size, 0, none⟩) (Nn.spB 8 s).length N) (Nn.spB 8 s).length ((Nn.spB 8 s).map Tv)) := cells_own w _ N (by omega) (by omega)
  generalize Nn.spB 8 s = l at *
  clear he hN
  go_enter Tryd.func32, Tryd.ntmps32
  go_wp2_with fail
  refine hg.mono ?_
  rintro e w' ⟨rfl, hw⟩
  rw [hw]
  clear hg hw
  go_wp2_with fail
  go_ret
  exact ⟨N, rfl, HO.out, (Below.refl _ w).alloc (Nat.le_refl _) _⟩
end Go.Proofs.YtfcnlfblfennaaaDoor
