/-
  The walk of PressBound.
-/
import Derived.Test.YtgdkfaphbbdnbaaPrOpen
namespace Go.Proofs.Ytgdkfaphbbdnbaa
open Go.RowKit
set_option maxRecDepth 4000

theorem bytes_of {s : ByteArray} {l : List UInt8} (h : s.data.toList = l) : s = ⟨l.toArray⟩ := by
  obtain ⟨d⟩ := s
  have h : d.toList = l := h
  rw [← h]

set_option maxHeartbeats 1000000 in
theorem pressBound_of (a : ByteArray) (O : Pr.Bs × Int) (w : World) (_ha : a.size ≤ 140737488351232)
    (h1 : ∀ V, Calls Try.prog 9 #[.string ⟨#[0, 97, 98]⟩] V fun e w' => ∃ s' : ByteArray, e = .returned (.tuple #[.string s', .int .i64 0]) ∧ s'.data.toList = [97, 98] ∧ Below V.heap.size V w')
    (h2 : ∀ V, Calls Try.prog 9 #[.string a] V fun e w' => ∃ s' : ByteArray, e = .returned (.tuple #[.string s', .int .i64 O.2]) ∧ s'.data.toList = O.1 ∧ Below V.heap.size V w')
    (f1 : O.1.length ≤ 4096) (f2 : O.2 = 0 ∨ O.1 = []) (f3 : O.2 = 0 → 0 < a.size) :
    Calls Try.prog 6 #[.string a] w fun e w' => e = .returned (.bool true) ∧ Below w.heap.size w w' := by
  obtain ⟨L, q⟩ := O
  dsimp only at h2 f1 f2 f3
  have h1 := h1 w
  go_enter Try.func6, Try.ntmps6
  go_wp2_with fail
  refine h1.mono ?_
  rintro e w1 ⟨s1, rfl, hs1, hb1⟩
  obtain rfl := bytes_of hs1
  clear h1 hs1
  go_wp2_with fail
  refine (h2 w1).mono ?_
  rintro e w2 ⟨s2, rfl, hs2, hb2⟩
  have HB : Hid (Below w.heap.size w w2) := hb1.trans (hb2.mono hb1.size)
  have z2 : s2.size ≤ 4096 := by rw [Lib.size_eq, hs2]; exact f1
  clear h2 hb1 hb2
  by_cases hq : q = 0
  · subst hq
    have f4 := f3 rfl
    clear f2 f3 hs2 f1
    go_wp2_with fail
    go_ret
    exact ⟨rfl, HB.out⟩
  · have hL : L = [] := f2.resolve_left hq
    rw [hL] at hs2
    obtain rfl := bytes_of hs2
    have hq1 : (q == 0) = false := by simpa using hq
    have hq2 : (q != 0) = true := by simpa using hq
    clear f2 f3 hs2 hL f1 hq
    go_wp2_with fail
    go_ret
    exact ⟨rfl, HB.out⟩

theorem pressBound_walk (a0 : ByteArray) (z0 : a0.size ≤ 140737488351232) (w : World) :
    Calls Try.prog 6 #[.string a0] w fun e w' => e = .returned (.bool true) ∧ Below w.heap.size w w' := by
  refine pressBound_of a0 (Pr.op a0.data.toList) w z0 (fun V => ?_) (fun V => open_any a0 V z0) (Pr.op_fine _).1 (Pr.op_fine _).2 (fun h => ?_)
  · have h := open_any ⟨#[0, 97, 98]⟩ V (by decide)
    have e : Pr.op (⟨#[0, 97, 98]⟩ : ByteArray).data.toList = ([97, 98], 0) := by rfl
    rw [e] at h
    exact h
  · have := Pr.op_some h
    rw [← Lib.size_eq] at this
    exact this
end Go.Proofs.Ytgdkfaphbbdnbaa
