/-
  P36: what mayStand and Check of package names answer.
-/
import Derived.Test.YtcgecafajgoeeaaDoorNnChr
import Derived.Test.YtcgecafajgoeeaaDoorProg
import Derived.Lib.ValidU
import Derived.Lib.ValidLaws
import Derived.Laws.RangeAny
import Derived.Shelf.Unicode.DecodeSlow
import Derived.WalkKit
import Derived.WalkSpells
import Derived.WalkLawsBesides
namespace Go.Proofs.YtcgecafajgoeeaaDoor
open Go.RowKit
set_option maxRecDepth 4000

namespace Nn
open Go.Lib
/-- a text has characters just if it is UTF-8 -/
theorem chars_valid (l : List UInt8) : validD l = (chars l).isSome := by
  induction l using chars_ind with
  | h0 => rfl
  | hs l hne ih =>
    rw [validD_step l hne, chars_step l hne]
    by_cases c : decodeL l = (65533, 1)
    · have e : (chr l).2 = 0 := by rw [chr, if_neg hne, if_pos c]
      rw [if_pos (by rw [c]; exact ⟨rfl, rfl⟩), if_pos e]
      rfl
    · have e : chr l = decodeL l := by rw [chr, if_neg hne, if_neg c]
      have h1 := decodeL_width l
      rw [if_neg (fun q => c (Prod.ext q.1 q.2)), if_neg (by rw [e]; omega), ← e, ih (by rw [e]; omega)]
      cases chars (l.drop (chr l).2) <;> rfl
/-- may a name have that character? -/
def may (c : Nat) : Bool := decide (32 ≤ c ∧ c ≠ 127 ∧ c ≠ 47)
theorem may_any_iff (l : List Nat) : l.any (fun c => decide (c = 47 ∨ c < 32 ∨ c = 127)) = !l.all may := by
  induction l with
  | nil => rfl
  | cons c l ih =>
    rw [List.any_cons, List.all_cons, ih, Bool.not_and]
    congr 1
    unfold may
    by_cases h : c = 47 ∨ c < 32 ∨ c = 127
    · rw [decide_eq_true h, decide_eq_false (by omega)]; rfl
    · rw [decide_eq_false h, decide_eq_true (by omega)]; rfl
/-- P36 of a text that has characters -/
theorem nm_some {s : List UInt8} {l : List Nat} (h : chars s = some l) (h0 : s ≠ []) (h1 : s ≠ [46]) (h2 : s ≠ [46, 46]) : nm s = if l.all may = false then 8 else if 24 < l.length then 2 else 0 := by
  have hl : l ≠ [] := fun e => h0 ((chars_empty s).1 (by rw [h, e]))
  unfold nm
  rw [h]
  dsimp only
  rw [if_neg (by simp only [not_or]; exact ⟨hl, h1, h2⟩), may_any_iff]
  cases l.all may <;> simp
theorem nm_none {s : List UInt8} (h : chars s = none) : nm s = 8 := by unfold nm; rw [h]
theorem nm_few {s : List UInt8} (h : s = [] ∨ s = [46] ∨ s = [46, 46]) : nm s = 8 := by
  rcases h with rfl | rfl | rfl <;> decide +kernel
/-- a step of ranging -/
theorem chars_head {l : List UInt8} {r : List Nat} (h : chars l = some r) (hne : l ≠ []) : decodeL l = chr l ∧ 1 ≤ (chr l).2 ∧ ∃ r', r = (chr l).1 :: r' ∧ chars (l.drop (chr l).2) = some r' := by
  rw [chars_step l hne] at h
  by_cases c : (chr l).2 = 0
  · rw [if_pos c] at h; cases h
  rw [if_neg c] at h
  obtain ⟨r', h1, rfl⟩ := Option.map_eq_some_iff.1 h
  refine ⟨?_, by omega, r', rfl, h1⟩
  unfold chr at c ⊢
  rw [if_neg hne] at c ⊢
  split at c
  · exact absurd rfl c
  · rename_i q; rw [if_neg q]
end Nn

theorem may_any (c : Nat) (w : World) :
    Calls Tryd.prog 53 #[.int .i32 c] w fun e w' => e = .returned (.bool (Nn.may c)) ∧ w' = w := by
  by_cases h1 : 32 ≤ c
  · by_cases h2 : c = 127
    · have HE : Hid (Nn.may c = false) := decide_eq_false (by omega)
      have hq : ((c : Int) != 127) = false := by rw [bne_eq_false_iff_eq]; omega
      clear h2
      go_enter Tryd.func53, Tryd.ntmps53
      go_wp2_with fail
      go_ret
      exact ⟨by rw [HE.out]; rfl, rfl⟩
    · have hq : ((c : Int) != 127) = true := by rw [bne_iff_ne]; omega
      by_cases h3 : c = 47
      · have HE : Hid (Nn.may c = false) := decide_eq_false (by omega)
        have hr : ((c : Int) != 47) = false := by rw [bne_eq_false_iff_eq]; omega
        clear h2 h3
        go_enter Tryd.func53, Tryd.ntmps53
        go_wp2_with fail
        go_ret
        exact ⟨by rw [HE.out]; rfl, rfl⟩
      · have HE : Hid (Nn.may c = true) := decide_eq_true (by omega)
        have hr : ((c : Int) != 47) = true := by rw [bne_iff_ne]; omega
        clear h2 h3
        go_enter Tryd.func53, Tryd.ntmps53
        go_wp2_with fail
        go_ret
        exact ⟨by rw [HE.out]; rfl, rfl⟩
  · have HE : Hid (Nn.may c = false) := decide_eq_false (by omega)
    go_enter Tryd.func53, Tryd.ntmps53
    go_wp2_with fail
    go_ret
    exact ⟨by rw [HE.out]; rfl, rfl⟩

/-- unicode/utf8's tables as they are laid -/
def Tabs (w : World) : Prop := Lib.Utf8Tabs 0 1 w
theorem Tabs.below {w w' : World} (h : Tabs w) (hb : Below w.heap.size w w') : Tabs w' := Utf8Tabs_below h hb

theorem data_ne {s : ByteArray} {l : List UInt8} (h : s.data.toList ≠ l) : (s.toList == l) = false := by
  rw [beq_eq_false_iff_ne, Lib.toList_data]
  exact h
theorem of_data {s : ByteArray} {l : List UInt8} (h : s.data.toList = l) : s = ⟨l.toArray⟩ := by
  apply ByteArray.ext
  apply Array.toList_inj.1
  simpa using h

set_option maxHeartbeats 1000000 in
theorem check_few (s : ByteArray) (w : World) (h : s.data.toList = [] ∨ s.data.toList = [46] ∨ s.data.toList = [46, 46]) :
    Calls Tryd.prog 37 #[.string s] w fun e w' => e = .returned (.int .i64 8) ∧ Below w.heap.size w w' := by
  rcases h with h | h | h
  all_goals
    obtain rfl := of_data h
    clear h
    go_enter Tryd.func37, Tryd.ntmps37
    go_wp2_with fail
    go_ret
    exact ⟨rfl, Below.refl _ _⟩

set_option maxHeartbeats 1000000 in
theorem check_of (s : ByteArray) (w : World) (hs : s.size ≤ 9223372036854775807)
    (hV : Calls Tryd.prog 52 #[.string s] w fun e w' => e = .returned (.bool (Lib.validD s.data.toList)) ∧ Below w.heap.size w w') :
    Calls Tryd.prog 37 #[.string s] w fun e w' => e = .returned (.int .i64 (Nn.nm s.data.toList)) ∧ Below w.heap.size w w' := by
  by_cases h : s.data.toList = [] ∨ s.data.toList = [46] ∨ s.data.toList = [46, 46]
  · rw [Nn.nm_few h]
    exact check_few s w h
  simp only [not_or] at h
  have e0 : (s.toList == []) = false := data_ne h.1
  have e0' : s.toList.isEmpty = false := by
    rw [Lib.toList_data]
    cases hx : s.data.toList with
    | nil => exact absurd hx h.1
    | cons a b => rfl
  have e1 : (s.toList == [46]) = false := data_ne h.2.1
  have e2 : (s.toList == [46, 46]) = false := data_ne h.2.2
  cases hc : Nn.chars s.data.toList with
  | none =>
    rw [Nn.chars_valid, hc] at hV
    have HE : Hid (Nn.nm s.data.toList = 8) := Nn.nm_none hc
    clear hc h
    go_enter Tryd.func37, Tryd.ntmps37
    go_wp2_with fail
    refine hV.mono ?_
    rintro e w1 ⟨rfl, b1⟩
    go_wp2_with fail
    go_ret
    exact ⟨by rw [HE.out]; rfl, b1⟩
  | some L =>
    rw [Nn.chars_valid, hc] at hV
    have HE : Hid (Nn.nm s.data.toList = if L.all Nn.may = false then 8 else if 24 < L.length then 2 else 0) := Nn.nm_some hc h.1 h.2.1 h.2.2
    have HC : Hid (Nn.chars (s.data.toList.drop 0) = some L) := hc
    clear hc h
    go_enter Tryd.func37, Tryd.ntmps37
    go_wp2_with fail
    refine hV.mono ?_
    rintro e w1 ⟨rfl, b1⟩
    have HB : Hid (Below w.heap.size w w1) := b1
    clear b1 hV
    go_wp2_with fail
    go_loopw [3] (fun c wr => ∃ (pos : Nat) (ds rs : List Nat), c = .int .i64 ds.length ∧ wr = w1.iter s pos ∧ Hid (Nn.chars (s.data.toList.drop pos) = some rs) ∧ Hid (ds.all Nn.may = true) ∧ Hid (L = ds ++ rs) ∧ pos ≤ s.size ∧ ds.length ≤ pos) (fun _ wr => s.size - wr.iterPos w1.heap.size)
    case atStart => exact ⟨0, [], L, rfl, rfl, HC, rfl, rfl, by omega, by simp⟩
    case round =>
      clear HC
      obtain ⟨pos, ds, rs, rfl, rfl, HC, HM, HL, hp, hd⟩ := hrel
      by_cases hlt : pos < s.size
      · have hne : s.data.toList.drop pos ≠ [] := by
          intro e
          have := List.drop_eq_nil_iff.1 e
          rw [← Lib.size_eq] at this
          omega
        obtain ⟨x1, x2, r', x3, x4⟩ := Nn.chars_head HC.out hne
        have x5 := Nn.chr_le (s.data.toList.drop pos)
        rw [List.length_drop, ← Lib.size_eq] at x5
        rw [Lib.decodeL_drop] at x1
        rw [List.drop_drop] at x4
        have hnx : ∀ ty, (Instr.next (.pointer (some ⟨w1.heap.size, 0, none⟩)) true ty).run Tryd.prog (w1.iter s pos) = _ := fun ty => run_next_any w1 s pos ty hlt
        rw [x1] at hnx
        generalize Nn.chr (s.data.toList.drop pos) = D at *
        obtain ⟨r, n⟩ := D
        dsimp only at *
        have HX4 : Hid (Nn.chars (s.data.toList.drop (pos + n)) = some r') := x4
        have HL2 : Hid (L = ds ++ r :: r') := by rw [← x3]; exact HL.out
        clear x1 x3 x4 HC HL hne
        by_cases hm : Nn.may r = true
        · have hq := may_any r (w1.iter s (pos + n))
          rw [hm] at hq
          go_wp2_with fail
          refine hq.mono ?_
          rintro e u ⟨rfl, rfl⟩
          go_wp2_with fail
          go_roundw
          case rel =>
            refine ⟨pos + n, ds ++ [r], r', by simp, rfl, HX4, ?_, ?_, by omega, by simp; omega⟩
            · show _ = _
              rw [List.all_append, HM.out]; simp [hm]
            · show _ = _
              rw [HL2.out]; simp
          case measure => simp only [World.iterPos_iter]; omega
        · have hm := Bool.eq_false_iff.2 hm
          have hq := may_any r (w1.iter s (pos + n))
          rw [hm] at hq
          have HZ : Hid (Nn.nm s.data.toList = 8) := by
            show _ = _
            rw [HE.out, HL2.out, if_pos (by simp [hm])]
          go_wp2_with fail
          refine hq.mono ?_
          rintro e u ⟨rfl, hu⟩
          obtain rfl := hu.symm
          go_wp2_with fail
          go_ret
          exact ⟨by rw [HZ.out]; rfl, HB.out.alloc HB.out.size _⟩
      · obtain rfl : pos = s.size := by omega
        have hr : rs = [] := by
          have := HC.out
          rw [List.drop_eq_nil_of_le (by rw [← Lib.size_eq]; omega), Nn.chars_nil] at this
          exact (Option.some.inj this).symm
        have hnx : ∀ ty, (Instr.next (.pointer (some ⟨w1.heap.size, 0, none⟩)) true ty).run Tryd.prog (w1.iter s s.size) = _ := fun ty => run_next_end w1 s s.size ty hlt
        have HZ : Hid (Nn.nm s.data.toList = if 24 < ds.length then 2 else 0) := by
          show _ = _
          rw [HE.out, HL.out, hr, List.append_nil, if_neg (by rw [HM.out]; simp)]
        clear HC HL hr hlt hp
        by_cases hq : 24 < ds.length
        · go_wp2_with fail
          go_ret
          exact ⟨by rw [HZ.out, if_pos hq]; rfl, HB.out.alloc HB.out.size _⟩
        · go_wp2_with fail
          go_ret
          exact ⟨by rw [HZ.out, if_neg hq]; rfl, HB.out.alloc HB.out.size _⟩
end Go.Proofs.YtcgecafajgoeeaaDoor
