/-
  lumref: what nodeErr answers.
-/
import Derived.Test.YtcgecafajgoeeaaDoorRnName
import Derived.Test.YtcgecafajgoeeaaDoorNdMem
namespace Go.Proofs.YtcgecafajgoeeaaDoor
open Go.RowKit
set_option maxRecDepth 4000

/-- a node by value, v its parts -/
abbrev ndV (n : Nod) (v : Value) : Value := .agg (ndC n v).toArray
/-- a node's cells in a block of its own -/
theorem seven_at {w : World} {b : Nat} {T : TypeId} {fr : Nat × Nat} {x0 x1 x2 x3 x4 x5 x6 : Value} (h : w.heap[b]? = some (.cells #[x0, x1, x2, x3, x4, x5, x6] T fr)) :
    w.cell? ⟨b, 0, none⟩ = some x0 ∧ w.cell? ⟨b, 1, none⟩ = some x1 ∧ w.cell? ⟨b, 2, none⟩ = some x2 ∧ w.cell? ⟨b, 3, none⟩ = some x3 ∧ w.cell? ⟨b, 4, none⟩ = some x4 ∧ w.cell? ⟨b, 5, none⟩ = some x5 ∧ w.cell? ⟨b, 6, none⟩ = some x6 := by
  simp only [World.cell?, h]
  exact ⟨rfl, rfl, rfl, rfl, rfl, rfl, rfl⟩

set_option maxHeartbeats 4000000 in
set_option maxRecDepth 10000 in
theorem nodeErr_any (n : Nod) (a : Option Addr) (c : Nat) (w : World) (hn : n.name.size ≤ 4194304) (hl : n.link.size ≤ 9223372036854775807) :
    Calls Tryd.prog 17 #[ndV n (.slice a n.parts.length c)] w fun e w' => e = .returned (.int .i64 (Td.nErr n.nd)) ∧ Below w.heap.size w w' := by
  have HT : Hid (Td.nErr n.nd = if Nn.nm n.name.data.toList ≠ 0 then Nn.nm n.name.data.toList
    else if n.mode < 0 ∨ 511 < n.mode ∨ n.size < 0 ∨ 4096 < n.size ∨ 300 < n.parts.length then 1
    else if n.kind < 1 ∨ 3 < n.kind then 5
    else if (n.kind = 1 ∧ n.link.data.toList ≠ []) ∨ (1 < n.kind ∧ n.size ≠ 0) ∨ (n.kind = 2 ∧ (n.parts.length ≠ 1 ∨ n.link.data.toList ≠ [])) ∨ (n.kind = 3 ∧ (n.parts.length ≠ 0 ∨ n.link.data.toList = [])) then 4
    else if 1024 < n.link.data.toList.length then 2 else 0) := rfl
  obtain ⟨W1, hW1⟩ : ∃ W1, W1 = w.alloc (.cells (ndC n (.slice a n.parts.length c)).toArray 32) := ⟨_, rfl⟩
  have HB1 : Hid (Below w.heap.size w W1) := by rw [hW1]; exact (Below.refl _ w).alloc (Nat.le_refl _) _
  have HM1 : Hid (W1.heap[w.heap.size]? = some (.cells (ndC n (.slice a n.parts.length c)).toArray 32 (0, 0))) := by rw [hW1]; exact heap_alloc_new w _
  have hr := rname_any n.name W1 hn
  generalize Td.nErr n.nd = R at *
  generalize Nn.nm n.name.data.toList = E at *
  generalize n.parts.length = P at *
  obtain ⟨name, kind, mode, time, size, parts, link⟩ := n
  dsimp only at *
  go_enter Tryd.func17, Tryd.ntmps17
  go_wp2_with fail
  rw [← hW1]
  clear hW1
  refine hr.mono ?_
  rintro e w2 ⟨rfl, b2⟩
  have HB : Hid (Below w.heap.size w w2) := HB1.out.trans (b2.mono HB1.out.size)
  obtain ⟨m0, m1, m2, m3, m4, m5, m6⟩ := seven_at ((b2.block _ (Array.getElem?_eq_some_iff.1 HM1.out).1).trans HM1.out)
  clear HB1 HM1 hr b2 m0 m3 hn
  obtain ⟨bk, hbk⟩ : ∃ bk, bk = w.heap.size := ⟨_, rfl⟩
  rw [← hbk] at m1 m2 m4 m5 m6 ⊢
  clear hbk
  by_cases hE : E = 0
  · subst hE
    rw [if_neg (by simp)] at HT
    by_cases h1 : mode < 0
    · have HR : Hid (R = 1) := by
        have := HT.out
        rwa [if_pos (by omega)] at this
      clear HT
      go_wp2_with fail
      go_ret
      exact ⟨by rw [HR.out]; rfl, HB.out⟩
    by_cases h2 : 511 < mode
    · have HR : Hid (R = 1) := by
        have := HT.out
        rwa [if_pos (by omega)] at this
      clear HT
      go_wp2_with fail
      go_ret
      exact ⟨by rw [HR.out]; rfl, HB.out⟩
    by_cases h3 : size < 0
    · have HR : Hid (R = 1) := by
        have := HT.out
        rwa [if_pos (by omega)] at this
      clear HT
      go_wp2_with fail
      go_ret
      exact ⟨by rw [HR.out]; rfl, HB.out⟩
    by_cases h4 : 4096 < size
    · have HR : Hid (R = 1) := by
        have := HT.out
        rwa [if_pos (by omega)] at this
      clear HT
      go_wp2_with fail
      go_ret
      exact ⟨by rw [HR.out]; rfl, HB.out⟩
    by_cases h5 : 300 < P
    · have g5 : (300 : Int) < (P : Int) := by omega
      have HR : Hid (R = 1) := by
        have := HT.out
        rwa [if_pos (by omega)] at this
      clear HT
      go_wp2_with fail
      go_ret
      exact ⟨by rw [HR.out]; rfl, HB.out⟩
    have g5 : ¬ (300 : Int) < (P : Int) := by omega
    rw [if_neg (by omega)] at HT
    by_cases k1 : kind < 1
    · have HR : Hid (R = 5) := by
        have := HT.out
        rwa [if_pos (by omega)] at this
      clear HT
      go_wp2_with fail
      go_ret
      exact ⟨by rw [HR.out]; rfl, HB.out⟩
    by_cases k2 : 3 < kind
    · have HR : Hid (R = 5) := by
        have := HT.out
        rwa [if_pos (by omega)] at this
      clear HT
      go_wp2_with fail
      go_ret
      exact ⟨by rw [HR.out]; rfl, HB.out⟩
    rw [if_neg (by omega)] at HT
    obtain rfl | rfl | rfl : kind = 1 ∨ kind = 2 ∨ kind = 3 := by omega
    · by_cases hk : link.data.toList = []
      · obtain rfl := of_data hk
        rw [if_neg (by simp)] at HT
        have HR : Hid (R = 0) := by
          have := HT.out
          rwa [if_neg (by simp)] at this
        clear HT
        go_wp2_with fail
        go_ret
        exact ⟨by rw [HR.out]; rfl, HB.out⟩
      · have e1 : (link.toList == []) = false := data_ne hk
        have HR : Hid (R = 4) := by
          have := HT.out
          rwa [if_pos (.inl ⟨rfl, hk⟩)] at this
        clear HT
        go_wp2_with fail
        go_ret
        exact ⟨by rw [HR.out]; rfl, HB.out⟩
    · by_cases hz : size = 0
      · subst hz
        by_cases hp : P = 1
        · subst hp
          by_cases hk : link.data.toList = []
          · obtain rfl := of_data hk
            rw [if_neg (by simp)] at HT
            have HR : Hid (R = 0) := by
              have := HT.out
              rwa [if_neg (by simp)] at this
            clear HT
            go_wp2_with fail
            go_ret
            exact ⟨by rw [HR.out]; rfl, HB.out⟩
          · have e1 : (link.toList == []) = false := data_ne hk
            have HR : Hid (R = 4) := by
              have := HT.out
              rwa [if_pos (.inr (.inr (.inl ⟨rfl, .inr hk⟩)))] at this
            clear HT
            go_wp2_with fail
            go_ret
            exact ⟨by rw [HR.out]; rfl, HB.out⟩
        · have gp : ((P : Int) != 1) = true := by rw [bne_iff_ne]; omega
          have HR : Hid (R = 4) := by
            have := HT.out
            rwa [if_pos (.inr (.inr (.inl ⟨rfl, .inl hp⟩)))] at this
          clear HT
          go_wp2_with fail
          go_ret
          exact ⟨by rw [HR.out]; rfl, HB.out⟩
      · have gz : (size != 0) = true := by rw [bne_iff_ne]; exact hz
        have HR : Hid (R = 4) := by
          have := HT.out
          rwa [if_pos (.inr (.inl ⟨by omega, hz⟩))] at this
        clear HT
        go_wp2_with fail
        go_ret
        exact ⟨by rw [HR.out]; rfl, HB.out⟩
    · by_cases hz : size = 0
      · subst hz
        by_cases hp : P = 0
        · subst hp
          by_cases hk : link.data.toList = []
          · obtain rfl := of_data hk
            have HR : Hid (R = 4) := by
              have := HT.out
              rwa [if_pos (.inr (.inr (.inr ⟨rfl, .inr hk⟩)))] at this
            clear HT
            go_wp2_with fail
            go_ret
            exact ⟨by rw [HR.out]; rfl, HB.out⟩
          · have e1 : (link.toList == []) = false := data_ne hk
            rw [if_neg (by simp [hk])] at HT
            by_cases hL : 1024 < link.size
            · have gL : (1024 : Int) < (link.size : Int) := by omega
              have HR : Hid (R = 2) := by
                have := HT.out
                rwa [if_pos (by rw [← Lib.size_eq]; exact hL)] at this
              clear HT
              go_wp2_with fail
              go_ret
              exact ⟨by rw [HR.out]; rfl, HB.out⟩
            · have gL : ¬ (1024 : Int) < (link.size : Int) := by omega
              have HR : Hid (R = 0) := by
                have := HT.out
                rwa [if_neg (by rw [← Lib.size_eq]; exact hL)] at this
              clear HT
              go_wp2_with fail
              go_ret
              exact ⟨by rw [HR.out]; rfl, HB.out⟩
        · have gp : ((P : Int) != 0) = true := by rw [bne_iff_ne]; omega
          have HR : Hid (R = 4) := by
            have := HT.out
            rwa [if_pos (.inr (.inr (.inr ⟨rfl, .inl hp⟩)))] at this
          clear HT
          go_wp2_with fail
          go_ret
          exact ⟨by rw [HR.out]; rfl, HB.out⟩
      · have gz : (size != 0) = true := by rw [bne_iff_ne]; exact hz
        have HR : Hid (R = 4) := by
          have := HT.out
          rwa [if_pos (.inr (.inl ⟨by omega, hz⟩))] at this
        clear HT
        go_wp2_with fail
        go_ret
        exact ⟨by rw [HR.out]; rfl, HB.out⟩
  · have hqn : (E != 0) = true := by rw [bne_iff_ne]; exact hE
    have HR : Hid (R = E) := by
      have := HT.out
      rwa [if_pos hE] at this
    clear HT
    go_wp2_with fail
    go_ret
    exact ⟨by rw [HR.out]; rfl, HB.out⟩
end Go.Proofs.YtcgecafajgoeeaaDoor
