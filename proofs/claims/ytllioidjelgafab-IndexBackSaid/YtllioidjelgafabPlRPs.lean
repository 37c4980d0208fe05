/-
  What readPlace of package index answers where the text is too short, and whatever text it is.
-/
import Derived.Test.YtllioidjelgafabPlRPl
namespace Go.Proofs.Ytllioidjelgafab
open Go.RowKit
set_option maxRecDepth 4000

set_option maxHeartbeats 1000000 in
theorem rplc_short (s : ByteArray) (w : World) (h9 : s.size < 9) :
    Calls Try.prog 21 #[.string s] w fun e w' => e = .returned (.tuple #[plV pl0, .string ⟨#[]⟩, .int .i64 3]) ∧ Below w.heap.size w w' := by
  obtain ⟨W1, hW1⟩ : ∃ W1, W1 = w.alloc (.cells (pl12 0 0 0 0 0 0 0 0 0 0 0 0) 29) := ⟨_, rfl⟩
  have b1w : Below w.heap.size w W1 := by rw [hW1]; exact (Below.refl _ w).alloc (Nat.le_refl _) _
  have hth : W1.there w.heap.size 0 12 := by rw [hW1]; exact rp_there w _ _ 12 rfl
  have HBE : Hid (Below w.heap.size w (W1.setCells w.heap.size 0 (plC pl0))) := rp_below (Nat.le_refl _) _ _ b1w (Nat.le_refl _)
  have hres := rp_res hth pl0
  have hd : decide ((s.size : Int) < 9) = true := decide_eq_true (by omega)
  go_enter Try.func21, Try.ntmps21
  go_upto_region 1 with fail
  have ea : w.alloc (.cells #[.int .u8 0, .int .u8 0, .int .u8 0, .int .u8 0, .int .u8 0, .int .u8 0, .int .u8 0, .int .u8 0, .int .i64 0, .int .i64 0, .int .i64 0, .int .i64 0] 29) = W1 := hW1.symm
  rw [ea]
  clear ea hW1 b1w h9
  go_upto_region 2 with fail
  refine wp_region_lit ?_
  refine wpList_plain rfl fun C hC => ?_
  go_simp
  refine hC _ _ ?_
  clear hC C
  refine wpList_store_mid rfl 29 (.tmp 2) (.tmp 16) rfl w.heap.size 0 (plC pl0).toArray rfl rfl (by rw [rp_sz]; exact hth) (by rw [rp_info, rp_sz]) (rp_all pl0) ?_
  rw [show (plC pl0).toArray.toList = plC pl0 from rfl]
  generalize W1.setCells w.heap.size 0 (plC pl0) = wF at *
  go_wp2_with fail
  refine bodyPost_ret (v := .tuple #[plV pl0, .string ⟨#[]⟩, .int .i64 3]) ?_ rfl ⟨rfl, HBE.out⟩
  simp [results, asAddr, hres]

theorem rnum_fix (s : ByteArray) (hs : s.size ≤ 140737488351232) (W : World) :
    Calls Try.prog 20 #[.string s, .int .u64 1099511627776] W fun e w' => e = .returned (.tuple #[.int .i64 (Ix.num s.data.toList).1, .string ⟨(Ix.num s.data.toList).2.1.toArray⟩, .int .i64 (Ix.num s.data.toList).2.2]) ∧ Below W.heap.size W w' := by
  refine (ixrnum_any s 1099511627776 W hs (Nat.le_refl _)).mono fun e w' ⟨s', h1, h2, _, h4⟩ => ⟨?_, h4⟩
  have e2 : s' = ⟨(Ix.num s.data.toList).2.1.toArray⟩ := by
    have : s'.data.toList = (Ix.num s.data.toList).2.1 := h2
    obtain ⟨⟨l⟩⟩ := s'
    rw [← this]
  rw [e2] at h1
  exact h1
theorem num_len (s : List UInt8) : (Ix.num s).2.1.length ≤ s.length := by
  rw [← rnum_ix]
  unfold rnum
  split
  · exact Nat.zero_le _
  · split
    · exact Nat.zero_le _
    · rw [List.length_drop]; omega
/-- how a place is read, step by step -/
theorem rd_steps {s : List UInt8} (h : 9 ≤ s.length) : (Ix.rdOne s).2.2 = (if (Ix.num (s.drop 9)).2.2 ≠ 0 then (Ix.num (s.drop 9)).2.2 else if (Ix.num (Ix.num (s.drop 9)).2.1).2.2 ≠ 0 then (Ix.num (Ix.num (s.drop 9)).2.1).2.2 else if (Ix.num (Ix.num (Ix.num (s.drop 9)).2.1).2.1).2.2 ≠ 0 then (Ix.num (Ix.num (Ix.num (s.drop 9)).2.1).2.1).2.2 else 0) ∧
    ((Ix.num (s.drop 9)).2.2 = 0 → (Ix.num (Ix.num (s.drop 9)).2.1).2.2 = 0 → (Ix.num (Ix.num (Ix.num (s.drop 9)).2.1).2.1).2.2 = 0 → Ix.rdOne s = (⟨s.take 8, (s.getD 8 0).toNat, (Ix.num (s.drop 9)).1, (Ix.num (Ix.num (s.drop 9)).2.1).1, (Ix.num (Ix.num (Ix.num (s.drop 9)).2.1).2.1).1⟩, (Ix.num (Ix.num (Ix.num (s.drop 9)).2.1).2.1).2.1, 0)) := by
  unfold Ix.rdOne
  rw [if_neg (by omega)]
  dsimp only
  generalize Ix.num (s.drop 9) = a
  generalize Ix.num a.2.1 = b
  generalize Ix.num b.2.1 = c
  refine ⟨?_, fun h1 h2 h3 => by rw [if_neg (fun k => k h1), if_neg (fun k => k h2), if_neg (fun k => k h3)]⟩
  by_cases h1 : a.2.2 ≠ 0
  · rw [if_pos h1, if_pos h1]
  · rw [if_neg h1, if_neg h1]
    by_cases h2 : b.2.2 ≠ 0
    · rw [if_pos h2, if_pos h2]
    · rw [if_neg h2, if_neg h2]
      by_cases h3 : c.2.2 ≠ 0
      · rw [if_pos h3, if_pos h3]
      · rw [if_neg h3, if_neg h3]
theorem rd_short {s : List UInt8} (h : s.length < 9) : (Ix.rdOne s).2.2 = 3 := by
  unfold Ix.rdOne
  rw [if_pos h]
/-- what a place's reading leaves -/
def RpOut (s : List UInt8) (t : Plc) (s' : ByteArray) (er : Int) : Prop := (Ix.rdOne s).2.2 = er ∧ (er = 0 → t.p = (Ix.rdOne s).1 ∧ s'.data.toList = (Ix.rdOne s).2.1)
theorem ba_size (l : List UInt8) : (⟨l.toArray⟩ : ByteArray).size = l.length := by show l.toArray.size = _; rw [List.size_toArray]

theorem rplc_any (s : ByteArray) (w : World) (hs : s.size ≤ 140737488351232) :
    Calls Try.prog 21 #[.string s] w fun e w' => ∃ (t : Plc) (s' : ByteArray) (er : Int), e = .returned (.tuple #[plV t, .string s', .int .i64 er]) ∧ RpOut s.data.toList t s' er ∧ s'.size ≤ s.size ∧ Below w.heap.size w w' := by
  have hsz : s.data.toList.length = s.size := (Lib.size_eq s).symm
  by_cases h9 : s.size < 9
  · exact (rplc_short s w h9).mono fun e w' ⟨he, hb⟩ => ⟨pl0, ⟨#[]⟩, 3, he, ⟨rd_short (by omega), fun h => by omega⟩, Nat.zero_le _, hb⟩
  · have h9' : 9 ≤ s.size := by omega
    obtain ⟨b0, b1, b2, b3, b4, b5, b6, b7, hL⟩ := oct (s.data.toList.take 8) (by rw [List.length_take]; omega)
    have hx9 := ixext_toList s 9
    have hz9 : (s.extract 9 s.size).size ≤ 140737488351232 := by rw [ByteArray.size_extract]; omega
    have st := rd_steps (s := s.data.toList) (by omega)
    obtain ⟨A, hA⟩ : ∃ A, Ix.num (s.data.toList.drop 9) = A := ⟨_, rfl⟩
    obtain ⟨Bb, hB⟩ : ∃ Bb, Ix.num A.2.1 = Bb := ⟨_, rfl⟩
    obtain ⟨Cc, hC⟩ : ∃ Cc, Ix.num Bb.2.1 = Cc := ⟨_, rfl⟩
    have lA := num_len (s.data.toList.drop 9)
    have lB := num_len A.2.1
    have lC := num_len Bb.2.1
    rw [hA, hB, hC] at st
    rw [hA] at lA
    rw [hB] at lB
    rw [hC] at lC
    rw [List.length_drop] at lA
    have c0 := fun W => rnum_fix (s.extract 9 s.size) hz9 W
    rw [hx9, hA] at c0
    have c1 := fun W => rnum_fix ⟨A.2.1.toArray⟩ (by rw [ba_size]; omega) W
    rw [show (⟨A.2.1.toArray⟩ : ByteArray).data.toList = A.2.1 from rfl, hB] at c1
    have c2 := fun W => rnum_fix ⟨Bb.2.1.toArray⟩ (by rw [ba_size]; omega) W
    rw [show (⟨Bb.2.1.toArray⟩ : ByteArray).data.toList = Bb.2.1 from rfl, hC] at c2
    have hlong := rplc_long b0 b1 b2 b3 b4 b5 b6 b7 s s[8].toNat w h9' rfl hs hL A.1 Bb.1 Cc.1 A.2.2 Bb.2.2 Cc.2.2 ⟨A.2.1.toArray⟩ ⟨Bb.2.1.toArray⟩ ⟨Cc.2.1.toArray⟩ c0 (fun _ => c1) (fun _ _ => c2)
    refine hlong.mono fun e w' ⟨he, hb⟩ => ?_
    by_cases h1 : A.2.2 ≠ 0
    · rw [if_pos h1] at he
      refine ⟨pl0, ⟨#[]⟩, A.2.2, he, ⟨by rw [st.1, if_pos h1], fun h => absurd h h1⟩, Nat.zero_le _, hb⟩
    · rw [if_neg h1] at he
      by_cases h2 : Bb.2.2 ≠ 0
      · rw [if_pos h2] at he
        refine ⟨pl0, ⟨#[]⟩, Bb.2.2, he, ⟨by rw [st.1, if_neg h1, if_pos h2], fun h => absurd h h2⟩, Nat.zero_le _, hb⟩
      · rw [if_neg h2] at he
        by_cases h3 : Cc.2.2 ≠ 0
        · rw [if_pos h3] at he
          refine ⟨pl0, ⟨#[]⟩, Cc.2.2, he, ⟨by rw [st.1, if_neg h1, if_neg h2, if_pos h3], fun h => absurd h h3⟩, Nat.zero_le _, hb⟩
        · rw [if_neg h3] at he
          have hall := st.2 (Decidable.not_not.1 h1) (Decidable.not_not.1 h2) (Decidable.not_not.1 h3)
          refine ⟨_, _, 0, he, ⟨by rw [hall], fun _ => ⟨?_, ?_⟩⟩, by rw [ba_size]; omega, hb⟩
          · rw [hall]
            have e8 : s.data.toList.getD 8 0 = s[8] := by
              rw [List.getD_eq_getElem?_getD, List.getElem?_eq_getElem (by omega)]
              rfl
            simp only [Plc.p, hL, e8]
          · rw [hall]
end Go.Proofs.Ytllioidjelgafab
