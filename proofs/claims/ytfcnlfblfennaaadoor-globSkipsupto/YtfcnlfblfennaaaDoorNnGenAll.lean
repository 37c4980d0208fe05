/-
  strings.Split at a slash: all parts, in a row of one's own.
-/
import Derived.Test.YtfcnlfblfennaaaDoorNnGen
import Derived.Test.YtfcnlfblfennaaaDoorNnAll
import Derived.Test.YtfcnlfblfennaaaDoorShelfCnt
namespace Go.Proofs.YtfcnlfblfennaaaDoor
open Go.RowKit Go.Lib

/-- cut as often as there are slashes: all of it -/
theorem Nn.spn_all : ∀ (k : Nat) (l : List UInt8), l.count 47 ≤ k → Nn.spn k l = Nn.cut l := by
  intro k
  induction k with
  | zero =>
    intro l h
    have hn : (47 : UInt8) ∉ l := fun hm => by
      have := List.count_pos_iff.2 hm
      omega
    rw [Nn.cut_plain hn]
    rfl
  | succ k ih =>
    intro l h
    rcases Nn.ix_cases 47 l with ⟨hix, _⟩ | ⟨i, hix, hi, hl, hn⟩
    · rw [Nn.spn_none hix, Nn.cut_none hix]
    · rw [Nn.spn_at hix, Nn.cut_at hix, ih]
      have e := congrArg (List.count 47) hl
      rw [List.count_append, List.count_cons_self] at e
      omega
theorem Nn.cut_count : ∀ (n : Nat) (l : List UInt8), l.length ≤ n → (Nn.cut l).length = l.count 47 + 1 := by
  intro n
  induction n with
  | zero =>
    intro l h
    have : l = [] := List.length_eq_zero_iff.1 (Nat.le_zero.1 h)
    subst this
    rfl
  | succ n ih =>
    intro l h
    rcases Nn.ix_cases 47 l with ⟨hix, hm⟩ | ⟨i, hix, hi, hl, hn⟩
    · rw [Nn.cut_none hix, List.count_eq_zero.2 hm]; rfl
    · rw [Nn.cut_at hix, List.length_cons, ih (l.drop (i + 1)) (by rw [List.length_drop]; omega)]
      have e := congrArg (List.count 47) hl
      rw [List.count_append, List.count_cons_self, List.count_eq_zero.2 hn] at e
      omega
theorem Nn.spB_all (s : ByteArray) : dl (Nn.spB (s.data.toList.count 47) s) = Nn.cut s.data.toList := by
  rw [dl, Nn.spB_spn]
  exact Nn.spn_all _ _ (Nat.le_refl _)

set_option maxHeartbeats 1000000 in
theorem gen_all (s : ByteArray) (w : World) (hs : s.size ≤ 1048576) (N : Nat) (hN : N = s.data.toList.count 47 + 1) :
    Calls Tryd.prog 53 #[.string s, .string ⟨#[47]⟩, .int .i64 0, .int .i64 (-1)] w fun e w' =>
      e = .returned (.slice (some ⟨w.heap.size, 0, none⟩) (Nn.spB (N - 1) s).length N) ∧ w' = w.alloc (.cells (Lib.cellsOf (Nn.spB (N - 1) s) N) 9) := by
  have hcl : s.data.toList.count 47 ≤ s.size := by rw [Lib.size_eq]; exact List.count_le_length
  have hN1 : 1 ≤ N := by omega
  have hNs : N ≤ s.size + 1 := by omega
  have hmk := run_make_row' (P := Tryd.prog) 30 9 (.string ByteArray.empty) 16 Tryd.underlying30 (by kernel_rfl) rfl .i64 .i64 N (by omega) (by omega)
  have hcnt := Tryd.strings_Count_one s 47 w
  rw [show Lib.countByte s.data.toList 47 = s.data.toList.count 47 from rfl] at hcnt
  obtain ⟨K, hK⟩ : ∃ K, K = s.data.toList.count 47 := ⟨_, rfl⟩
  rw [← hK] at hcnt hN
  have hNi : min ((K : Int) + 1) ((s.size : Int) + 1) = (N : Int) := by omega
  have hNk : (K : Int) + 1 = (N : Int) := by omega
  clear hK hcl hN
  go_enter Tryd.func53, Tryd.ntmps53
  go_wp2_with fail
  refine hcnt.mono ?_
  rintro e u ⟨rfl, hu⟩
  obtain rfl := hu.symm
  clear hcnt
  rw [hNk] at hNi
  go_wp2_with fail
  clear hmk
  go_loopg [0, 10] (N - 1) (fun g s0 s10 wr => ∃ (done : List ByteArray) (rest : ByteArray), s0 = .string rest ∧ s10 = .int .i64 done.length ∧ done.length ≤ N - 1 ∧ g = N - 1 - done.length ∧ rest.size ≤ s.size ∧
      wr = w.alloc (.cells (Lib.cellsOf done N) 9) ∧ done ++ Nn.spB (N - 1 - done.length) rest = Nn.spB (N - 1) s)
  case atStart => exact ⟨[], s, rfl, rfl, Nat.zero_le _, rfl, Nat.le_refl _, by rw [Lib.cellsOf_nil], rfl⟩
  case round =>
    obtain ⟨done, rest, rfl, rfl, hd, rfl, hrs, rfl, hsp⟩ := hrel
    have hnext : (Lib.cellsOf done N)[done.length]? = some (.string ByteArray.empty) := Lib.cellsOf_next (by omega)
    have HS : Hid (done ++ Nn.spB (N - 1 - done.length) rest = Nn.spB (N - 1) s) := hsp
    clear hsp
    have HFin : Hid (Nn.spB (N - 1 - done.length) rest = [rest] → (Nn.spB (N - 1) s).length = done.length + 1 ∧ (Lib.cellsOf done N).setIfInBounds done.length (.string rest) = Lib.cellsOf (Nn.spB (N - 1) s) N) := fun h => by
      have e := HS.out
      rw [h] at e
      rw [← e]
      exact ⟨by simp, Lib.cellsOf_set (by omega) rest⟩
    by_cases hlt : done.length < N - 1
    · have hltz : ((done.length : Nat) : Int) < (N : Int) - 1 := by omega
      have hI := Tryd.strings_Index_one rest 47 (w.alloc (.cells (Lib.cellsOf done N) 9))
      rcases Nn.ix_cases 47 rest.data.toList with ⟨hix, _⟩ | ⟨i, hix, hroom, _⟩
      · rw [hix] at hI
        go_wp2_with fail
        refine hI.mono ?_
        rintro e w' ⟨rfl, hw⟩
        rw [hw]
        go_wp2_with fail
        go_ret
        obtain ⟨f1, f2⟩ := HFin.out (Nn.spB_none hix)
        rw [f1, ← f2]
        exact ⟨by first | rfl | (congr 2 <;> omega), rfl⟩
      · rw [← Lib.size_eq] at hroom
        have c0 : ¬ ((i : Int) < 0) := by omega
        have c2 : (↑i : Int) ≤ ↑rest.size := by omega
        have c4 : (↑i + 1 : Int) ≤ ↑rest.size := by omega
        have c3 : (0 : Int) ≤ ↑i + 1 := by omega
        have HX : Hid (indexByte rest.data.toList 47 = i) := hix
        rw [hix] at hI
        clear hix
        go_wp2_with fail
        refine hI.mono ?_
        rintro e w' ⟨rfl, hw⟩
        rw [hw]
        clear hw hI
        go_wp2_with fail
        go_roundg (N - 1 - (done.length + 1))
        case measure => omega
        case rel =>
          refine ⟨done ++ [rest.extract 0 i], rest.extract (i + 1) rest.size, rfl, by simp, by simp; omega, by simp, by rw [ByteArray.size_extract]; omega, by rw [← Lib.cellsOf_set (by omega)], ?_⟩
          rw [← HS.out, show N - 1 - done.length = (N - 1 - (done.length + 1)) + 1 by omega, Nn.spB_at HX.out]
          simp
    · have hltz : ¬ (((done.length : Nat) : Int) < (N : Int) - 1) := by omega
      go_wp2_with fail
      go_ret
      obtain ⟨f1, f2⟩ := HFin.out (by rw [show N - 1 - done.length = 0 by omega]; rfl)
      rw [f1, ← f2]
      exact ⟨by first | rfl | (congr 2 <;> omega), rfl⟩
/-- what strings.Split at a slash answers -/
theorem splitA_any (s : ByteArray) (w : World) (hs : s.size ≤ 1048576) :
    Calls Tryd.prog 43 #[.string s, .string ⟨#[47]⟩] w fun e w' => ∃ v l, e = .returned v ∧ dl l = Nn.cut s.data.toList ∧ Tx w' v l ∧ l.length ≤ s.size + 1 ∧ (∀ t ∈ l, t.size ≤ s.size) ∧ Below w.heap.size w w' := by
  have hg := gen_all s w hs _ rfl
  have hall := Nn.spB_all s
  rw [Nat.add_sub_cancel] at hg
  obtain ⟨l, hl⟩ : ∃ l, l = Nn.spB (s.data.toList.count 47) s := ⟨_, rfl⟩
  have HSz : Hid (∀ t ∈ l, t.size ≤ s.size) := fun t ht => Nn.spB_size _ _ _ (by rw [← hl]; exact ht)
  rw [← hl] at hg hall
  have HD : Hid (dl l = Nn.cut s.data.toList) := hall
  have hlen : l.length = s.data.toList.count 47 + 1 := by
    rw [← dl_length, hall, Nn.cut_count _ _ (Nat.le_refl _)]
  have hcl : s.data.toList.count 47 ≤ s.size := by rw [Lib.size_eq]; exact List.count_le_length
  have HL : Hid (l.length ≤ s.size + 1) := by show _ ≤ _; omega
  rw [← hlen] at hg
  have HT : Hid (Tx (w.alloc (.cells (Lib.cellsOf l l.length) 9)) (.slice (some ⟨w.heap.size, 0, none⟩) l.length l.length) l) := by
    refine ⟨.inr ⟨w.heap.size, 0, l.length, rfl, by simp, fun j hj => ?_⟩⟩
    rw [World.cell?_alloc_new]
    show (Lib.cellsOf l l.length)[0 + j]? = _
    unfold Lib.cellsOf
    rw [Nat.zero_add, List.getElem?_toArray, List.getElem?_append_left (by simpa using hj)]
    simp [List.getD_eq_getElem?_getD, hj]
  clear hl hall hlen hcl
  generalize hN : l.length = N at *
  have HNl : Hid (l.length = N) := hN
  clear hN
  go_enter Tryd.func43, Tryd.ntmps43
  go_wp2_with fail
  refine hg.mono ?_
  rintro e w' ⟨rfl, hw⟩
  rw [hw]
  clear hg hw
  go_wp2_with fail
  go_ret
  exact ⟨_, l, rfl, HD.out, HT.out, by rw [HNl.out]; exact HL.out, HSz.out, (Below.refl _ w).alloc (Nat.le_refl _) _⟩
end Go.Proofs.YtfcnlfblfennaaaDoor
