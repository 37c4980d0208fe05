/-
  The walk of lumkeep.GlobBeneath: it returns true.
-/
import Derived.Test.YtfcnlfblfennaaaDoorGlAll
namespace Go.Proofs.YtfcnlfblfennaaaDoor
open Go.RowKit
set_option maxRecDepth 4000

set_option maxRecDepth 8000 in
set_option maxHeartbeats 2000000 in
theorem globBeneath_walk (v0 : Value) (l0 : List ByteArray) (a1 : ByteArray) (a2 : ByteArray) (z0 : l0.length ≤ 140737488351232) (_ : Few l0) (_ : Cp v0) (z1 : a1.size ≤ 140737488351232) (z2 : a2.size ≤ 140737488351232) (w : World) (t0 : Tx w v0 l0) (hT : Tabs w) :
    Calls Tryd.prog 7 #[v0, .string a1, .string a2] w fun e w' => e = .returned (.bool true) ∧ Below w.heap.size w w' := by
  have HX : Hid (Tx w v0 l0) := t0
  have HT : Hid (Tabs w) := hT
  obtain ⟨W0, hW0⟩ : ∃ W0, W0 = w.alloc (.cells #[.string ⟨#[47, 97]⟩] 9) := ⟨_, rfl⟩
  have HB0 : Hid (Below w.heap.size w W0) := by rw [hW0]; exact (Below.refl _ w).alloc (Nat.le_refl _) _
  have h1 := skips_of (.slice (some ⟨w.heap.size, 0, none⟩) 1 1) [⟨#[47, 97]⟩] ⟨#[47, 97, 47, 98]⟩ W0 (by rw [hW0]; exact tx_lit1 w _) (by simp) (by simp [ByteArray.size]) (HT.out.below HB0.out) true 0 (by decide +kernel)
  obtain ⟨A, E, hA⟩ : ∃ A E, Gb.skips (dl l0) a1.data.toList = (A, E) := ⟨_, _, rfl⟩
  have hr : Gb.skips (dl l0) [47] = (false, (Gb.skips (dl l0) [47]).2) := Prod.ext (Gb.skips_root (dl l0)) rfl
  generalize (Gb.skips (dl l0) [47]).2 = E2 at hr
  obtain ⟨B, F, hB⟩ : ∃ B F, Gb.skips (dl l0) (a1.data.toList ++ 47 :: a2.data.toList) = (B, F) := ⟨_, _, rfl⟩
  have HA : Hid (Gb.skips (dl l0) a1.data.toList = (A, E)) := hA
  have HBn : Hid (Gb.skips (dl l0) (a1.data.toList ++ 47 :: a2.data.toList) = (B, F)) := hB
  have HR : Hid (Gb.skips (dl l0) [47] = (false, E2)) := hr
  have HBad : Hid (E ≠ 0 → A = false) := fun h => by
    have := Gb.skips_bad (R := dl l0) (p := a1.data.toList) (by rw [HA.out]; exact h)
    rwa [HA.out] at this
  have HGood : Hid (A = true → E = 0 → F = 0 → B = true) := fun h1 h2 h3 => by
    subst h1; subst h2; subst h3
    exact Gb.skips_beneath HA.out HBn.out
  have HSh : Hid (E = 0 → a1.size ≤ 777) := fun h => by
    subst h
    have := (Gb.skips_ok HA.out).1
    rw [Lib.size_eq]
    exact Nn.split_short (by rw [this])
  clear t0 hT hA hB hr
  go_enter Tryd.func7, Tryd.ntmps7
  go_wp2_with fail
  rw [← hW0]
  clear hW0
  refine h1.mono ?_
  rintro e w1 ⟨rfl, b1⟩
  have HB1 : Hid (Below w.heap.size w w1) := HB0.out.trans (b1.mono HB0.out.size)
  clear b1 h1
  have h2 := skips_of v0 l0 ⟨#[47]⟩ w1 (HX.out.below HB1.out) (by omega) (by simp [ByteArray.size]) (HT.out.below HB1.out) false E2 HR.out
  go_wp2_with fail
  refine h2.mono ?_
  rintro e w2 ⟨rfl, b2⟩
  have HB2 : Hid (Below w.heap.size w w2) := HB1.out.trans (b2.mono HB1.out.size)
  clear b2 h2
  have h3 := skips_of v0 l0 a1 w2 (HX.out.below HB2.out) (by omega) (by omega) (HT.out.below HB2.out) A E HA.out
  go_wp2_with fail
  refine h3.mono ?_
  rintro e w3 ⟨rfl, b3⟩
  have HB3 : Hid (Below w.heap.size w w3) := HB2.out.trans (b3.mono HB2.out.size)
  clear b3 h3
  by_cases hE : E = 0
  · subst hE
    cases A with
    | false =>
      go_wp2_with fail
      go_ret
      exact ⟨rfl, HB3.out⟩
    | true =>
      have hsh := HSh.out rfl
      have hcat : (a1 ++ ⟨#[47]⟩ ++ a2).data.toList = a1.data.toList ++ 47 :: a2.data.toList := by simp
      have hz : (a1 ++ ⟨#[47]⟩ ++ a2).size ≤ 140737488355328 := by
        rw [Lib.size_eq, hcat]
        have e1 := Lib.size_eq a1
        have e2 := Lib.size_eq a2
        simp only [List.length_append, List.length_cons]
        omega
      have h4 := skips_of v0 l0 (a1 ++ ⟨#[47]⟩ ++ a2) w3 (HX.out.below HB3.out) (by omega) hz (HT.out.below HB3.out) B F (by rw [hcat]; exact HBn.out)
      clear hcat hz
      go_wp2_with fail
      refine h4.mono ?_
      rintro e w4 ⟨rfl, b4⟩
      have HB4 : Hid (Below w.heap.size w w4) := HB3.out.trans (b4.mono HB3.out.size)
      clear b4 h4
      by_cases hF : F = 0
      · subst hF
        have hb : B = true := by
          have := HGood.out
          simpa using this
        subst hb
        go_wp2_with fail
        go_ret
        exact ⟨rfl, HB4.out⟩
      · have hqn : (F != 0) = true := by rw [bne_iff_ne]; exact hF
        clear HGood hF
        go_wp2_with fail
        go_ret
        exact ⟨rfl, HB4.out⟩
  · have hb : A = false := HBad.out hE
    subst hb
    have hqn : (E != 0) = true := by rw [bne_iff_ne]; exact hE
    have hqe : (E == 0) = false := by rw [beq_eq_false_iff_ne]; exact hE
    clear HGood hE HSh HBad
    go_wp2_with fail
    go_ret
    exact ⟨rfl, HB3.out⟩
end Go.Proofs.YtfcnlfblfennaaaDoor
