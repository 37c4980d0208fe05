/-
  P37: what checkAll of package names answers: the first error of names.
-/
import Derived.Test.YtfcnlfblfennaaaDoorNnValid
import Derived.Test.YtfcnlfblfennaaaDoorNnPath
import Derived.Test.YtfcnlfblfennaaaDoorTxMem
namespace Go.Proofs.YtfcnlfblfennaaaDoor
open Go.RowKit
set_option maxRecDepth 4000

/-- texts as lists of bytes -/
def dl (l : List ByteArray) : List Nn.Name := l.map (·.data.toList)
/-- no slice is longer than its room -/
def Cp (v : Value) : Prop := ∀ a n c, v = .slice a n c → n ≤ c
theorem Cp.none : Cp (.slice none 0 0) := fun a n c h => by cases h; exact Nat.le_refl _
theorem Cp.of_own {base : Nat} {e : TypeId} {w : World} {v : Value} {n : Nat} {xs : List Value} (h : w.ownsRow base e 1 v n xs) : Cp v := fun a m c hv => by
  rcases h.2 with ⟨rfl, h0⟩ | ⟨g, cap, cur, rfl, _, _, hle, _⟩
  · cases hv; exact Nat.le_refl _
  · cases hv; exact hle
/-- no text is longer than a text may be -/
def Few (l : List ByteArray) : Prop := ∀ s ∈ l, s.size ≤ 9223372036854775807
theorem dl_length (l : List ByteArray) : (dl l).length = l.length := by simp [dl]
theorem errsF_drop (l : List ByteArray) (k : Nat) (hk : k < l.length) : Nn.errsF k (dl (l.drop k)) = if 8 ≤ k then 14 else if Nn.nm (l.getD k ByteArray.empty).data.toList ≠ 0 then Nn.nm (l.getD k ByteArray.empty).data.toList else Nn.errsF (k + 1) (dl (l.drop (k + 1))) := by
  rw [List.drop_eq_getElem_cons hk, List.getD_eq_getElem?_getD, List.getElem?_eq_getElem hk]
  rfl

set_option maxHeartbeats 1000000 in
theorem all_any (v : Value) (l : List ByteArray) (w : World) (h : Tx w v l) (hl : l.length ≤ 140737488351232) (hf : Few l) (hT : Tabs w) :
    Calls Tryd.prog 33 #[v] w fun e w' => e = .returned (.int .i64 (Nn.errs (dl l))) ∧ Below w.heap.size w w' := by
  obtain ⟨a, c, rfl⟩ := h.slice
  have HS : Hid (Nn.errsF 0 (dl (l.drop 0)) = Nn.errs (dl l)) := rfl
  have HX : Hid (Tx w (.slice a l.length c) l) := h
  have HF : Hid (Few l) := hf
  have HT : Hid (Tabs w) := hT
  clear h hf hT
  obtain ⟨N, hN⟩ : ∃ N, N = l.length := ⟨_, rfl⟩
  have HN : Hid (N = l.length) := hN
  rw [← hN] at HX hl ⊢
  clear hN
  generalize Nn.errs (dl l) = Z at *
  go_enter Tryd.func33, Tryd.ntmps33
  go_wp2_with fail
  go_loopw [8] (fun i wr => ∃ k : Nat, k ≤ N ∧ i = .int .i64 k ∧ Hid (Nn.errsF k (dl (l.drop k)) = Z) ∧ Hid (Below w.heap.size w wr)) (fun i _ => N - (intOf i).toNat)
  case atStart => exact ⟨0, by omega, rfl, HS, Below.refl _ _⟩
  case round =>
    clear HS
    obtain ⟨k, hk, rfl, HS, HB⟩ := hrel
    by_cases hlt : k < N
    · obtain ⟨bk, o, rfl, hbk, c0⟩ := (HX.out.below HB.out).get k (by rw [← HN.out]; omega)
      have hz : (l.getD k ByteArray.empty).size ≤ 9223372036854775807 := by
        have hk' : k < l.length := by rw [← HN.out]; exact hlt
        rw [List.getD_eq_getElem?_getD, List.getElem?_eq_getElem hk']
        exact HF.out _ (List.getElem_mem hk')
      have HD : Hid (Z = if 8 ≤ k then 14 else if Nn.nm (l.getD k ByteArray.empty).data.toList ≠ 0 then Nn.nm (l.getD k ByteArray.empty).data.toList else Nn.errsF (k + 1) (dl (l.drop (k + 1)))) := by
        show _ = _
        rw [← errsF_drop _ _ (by rw [← HN.out]; omega)]; exact HS.out.symm
      have hq := check_any (l.getD k ByteArray.empty) wr hz (HT.out.below HB.out)
      generalize l.getD k ByteArray.empty = s at *
      generalize Nn.nm s.data.toList = E at *
      clear HS
      by_cases h8 : 8 ≤ k
      · have HZ : Hid (Z = 14) := by have := HD.out; rwa [if_pos h8] at this
        clear hq
        go_wp2_with fail
        go_ret
        exact ⟨by rw [HZ.out]; rfl, HB.out⟩
      · by_cases h0 : E = 0
        · have HZ : Hid (Nn.errsF (k + 1) (dl (l.drop (k + 1))) = Z) := by have := HD.out; rw [if_neg h8, if_neg (by simpa using h0)] at this; exact this.symm
          rw [h0] at hq
          clear h0 HD
          go_wp2_with fail
          refine hq.mono ?_
          rintro e u ⟨rfl, bu⟩
          have HB2 : Hid (Below w.heap.size w u) := HB.out.trans (bu.mono HB.out.size)
          clear bu
          go_wp2_with fail
          go_roundw
          case rel => exact ⟨k + 1, by omega, by go_num, HZ, HB2⟩
          case measure => simp only [intOf]; omega
        · have HZ : Hid (Z = E) := by have := HD.out; rwa [if_neg h8, if_pos h0] at this
          have hqn : (E != 0) = true := by rw [bne_iff_ne]; exact h0
          clear HD
          go_wp2_with fail
          refine hq.mono ?_
          rintro e u ⟨rfl, bu⟩
          have HB2 : Hid (Below w.heap.size w u) := HB.out.trans (bu.mono HB.out.size)
          clear bu
          go_wp2_with fail
          go_ret
          exact ⟨by rw [HZ.out]; rfl, HB2.out⟩
    · have HZ : Hid (Z = 0) := by
        have := HS.out
        rw [List.drop_eq_nil_of_le (by rw [← HN.out]; omega)] at this
        exact this.symm
      obtain rfl : k = N := by omega
      go_wp2_with fail
      go_ret
      exact ⟨by rw [HZ.out]; rfl, HB.out⟩
end Go.Proofs.YtfcnlfblfennaaaDoor
