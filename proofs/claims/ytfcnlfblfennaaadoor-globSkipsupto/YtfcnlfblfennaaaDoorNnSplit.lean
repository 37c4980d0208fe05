/-
  P37: what Split of package names answers.
-/
import Derived.Test.YtfcnlfblfennaaaDoorNnAll
import Derived.Test.YtfcnlfblfennaaaDoorNnGen
import Derived.Test.YtfcnlfblfennaaaDoorShelfPre
import Derived.Test.YtfcnlfblfennaaaDoorShelfClone
import Derived.Deep.RegionWith
namespace Go.Proofs.YtfcnlfblfennaaaDoor
open Go.RowKit
set_option maxRecDepth 4000

theorem clone_any (s : ByteArray) (w : World) (hs : s.size ≤ 140737488355328) :
    Calls Tryd.prog 34 #[.string s] w fun e w' => e = .returned (.string s) ∧ Below w.heap.size w w' := by
  go_enter Tryd.func34, Tryd.ntmps34
  go_wp2_with (refine (Tryd.stringslite_Clone _ _ (by omega)).mono ?_; rintro e w' ⟨rfl, hb⟩)
  go_ret
  exact ⟨rfl, hb⟩

/-- what Split answers: the names, in memory that was not there, and the error -/
def SpOut (p : ByteArray) (w : World) (e : Ending) (w' : World) : Prop :=
  ∃ v l, e = .returned (.tuple #[v, .int .i64 (Nn.split p.data.toList).2]) ∧ dl l = (Nn.split p.data.toList).1 ∧ Tx w' v l ∧ Cp v ∧ Below w.heap.size w w'
theorem Tx.none (w : World) : Tx w (.slice none 0 0) [] := ⟨.inl ⟨⟨_, _, rfl⟩, rfl⟩⟩

theorem hasPre_slash (s : ByteArray) : Lib.hasPrefix s.data.toList [47] = decide (s.data.toList.head? = some 47) := by
  cases s.data.toList with
  | nil => rfl
  | cons b l =>
    show (([47] : List UInt8).isPrefixOf (b :: l)) = _
    simp only [List.isPrefixOf, Bool.and_true, List.head?_cons, Option.some.injEq]
    by_cases h : b = 47
    · subst h; rfl
    · rw [decide_eq_false h, beq_eq_false_iff_ne]; exact fun e => h e.symm

set_option maxHeartbeats 1000000 in
theorem split_root (w : World) :
    Calls Tryd.prog 17 #[.string ⟨#[47]⟩] w fun e w' => e = .returned (.tuple #[.slice none 0 0, .int .i64 0]) ∧ w' = w := by
  go_enter Tryd.func17, Tryd.ntmps17
  go_wp2_with fail
  go_ret2
  exact ⟨rfl, rfl⟩

set_option maxHeartbeats 1000000 in
theorem split_no (p : ByteArray) (w : World) (h1 : p.data.toList ≠ [47]) (h : p.data.toList.head? ≠ some 47) :
    Calls Tryd.prog 17 #[.string p] w fun e w' => e = .returned (.tuple #[.slice none 0 0, .int .i64 8]) ∧ w' = w := by
  have e1 : (p.toList == [47]) = false := data_ne h1
  have hq := Tryd.strings_HasPrefix p ⟨#[47]⟩ w
  rw [show (⟨#[47]⟩ : ByteArray).data.toList = [47] from rfl, hasPre_slash, decide_eq_false h] at hq
  clear h h1
  go_enter Tryd.func17, Tryd.ntmps17
  go_wp2_with fail
  refine hq.mono ?_
  rintro e u ⟨rfl, hu⟩
  obtain rfl := hu.symm
  go_wp2_with fail
  go_ret2
  exact ⟨rfl, rfl⟩

set_option maxHeartbeats 1000000 in
theorem split_bad (p : ByteArray) (w : World) (hp : p.size ≤ 140737488355328) (hT : Tabs w) (h1 : p.data.toList ≠ [47]) (h : p.data.toList.head? = some 47) (l : List ByteArray) (hl : l = Nn.spB 8 (p.extract 1 p.size)) (E : Int) (hE : E = Nn.errs (dl l)) (h0 : E ≠ 0) :
    Calls Tryd.prog 17 #[.string p] w fun e w' => e = .returned (.tuple #[.slice none 0 0, .int .i64 E]) ∧ Below w.heap.size w w' := by
  have e1 : (p.toList == [47]) = false := data_ne h1
  have hq := Tryd.strings_HasPrefix p ⟨#[47]⟩ w
  rw [show (⟨#[47]⟩ : ByteArray).data.toList = [47] from rfl, hasPre_slash, decide_eq_true h] at hq
  have h1p : 1 ≤ p.size := by
    rw [Lib.size_eq]
    cases hx : p.data.toList with
    | nil => rw [hx] at h; cases h
    | cons a b => simp
  have h1z : (1 : Int) ≤ (p.size : Int) := by omega
  have hz : (p.extract 1 p.size).size ≤ 140737488355328 := by rw [ByteArray.size_extract]; omega
  have hs := splitN_any (p.extract 1 p.size) w hz
  rw [← hl] at hs
  have HF : Hid (Few l) := fun t ht => by
    rw [hl] at ht
    have := Nn.spB_size _ _ _ ht
    omega
  have HL : Hid (l.length ≤ 9) := by
    show _ ≤ _
    rw [hl]; exact (Nn.spB_len 8 _).2
  have HT : Hid (Tabs w) := hT
  have HE : Hid (E = Nn.errs (dl l)) := hE
  have hqn : (E != 0) = true := by rw [bne_iff_ne]; exact h0
  clear h h1 hz hl hT hE
  go_enter Tryd.func17, Tryd.ntmps17
  go_wp2_with fail
  refine hq.mono ?_
  rintro e u ⟨rfl, hu⟩
  obtain rfl := hu.symm
  go_wp2_with fail
  refine hs.mono ?_
  rintro e w1 ⟨N, rfl, o1, b1⟩
  have ha := all_any _ l w1 (Tx.of_own o1) (by have := HL.out; omega) HF.out (HT.out.below b1)
  rw [← HE.out] at ha
  have HB : Hid (Below w.heap.size w w1) := b1
  clear o1 b1
  go_wp2_with fail
  refine ha.mono ?_
  rintro e w2 ⟨rfl, b2⟩
  have HB2 : Hid (Below w.heap.size w w2) := HB.out.trans (b2.mono HB.out.size)
  clear b2
  go_wp2_with fail
  go_ret2
  exact ⟨rfl, HB2.out⟩

set_option maxHeartbeats 1000000 in
theorem split_ok (p : ByteArray) (w : World) (hp : p.size ≤ 140737488355328) (hT : Tabs w) (h1 : p.data.toList ≠ [47]) (h : p.data.toList.head? = some 47) (l : List ByteArray) (hl : l = Nn.spB 8 (p.extract 1 p.size)) (hE : Nn.errs (dl l) = 0) :
    Calls Tryd.prog 17 #[.string p] w fun e w' => ∃ v, e = .returned (.tuple #[v, .int .i64 0]) ∧ w'.ownsRow w.heap.size 9 1 v l.length (l.map Tv) ∧ Below w.heap.size w w' := by
  have e1 : (p.toList == [47]) = false := data_ne h1
  have hq := Tryd.strings_HasPrefix p ⟨#[47]⟩ w
  rw [show (⟨#[47]⟩ : ByteArray).data.toList = [47] from rfl, hasPre_slash, decide_eq_true h] at hq
  have h1p : 1 ≤ p.size := by
    rw [Lib.size_eq]
    cases hx : p.data.toList with
    | nil => rw [hx] at h; cases h
    | cons a b => simp
  have h1z : (1 : Int) ≤ (p.size : Int) := by omega
  have hz : (p.extract 1 p.size).size ≤ 140737488355328 := by rw [ByteArray.size_extract]; omega
  have hs := splitN_any (p.extract 1 p.size) w hz
  rw [← hl] at hs
  have HF : Hid (∀ t ∈ l, t.size ≤ 140737488355328) := fun t ht => by
    rw [hl] at ht
    have := Nn.spB_size _ _ _ ht
    omega
  have HL : Hid (l.length ≤ 9) := by
    show _ ≤ _
    rw [hl]; exact (Nn.spB_len 8 _).2
  have HT : Hid (Tabs w) := hT
  have HE : Hid (Nn.errs (dl l) = 0) := hE
  clear h h1 hz hl hT hE
  go_enter Tryd.func17, Tryd.ntmps17
  go_wp2_with fail
  refine hq.mono ?_
  rintro e u ⟨rfl, hu⟩
  obtain rfl := hu.symm
  go_wp2_with fail
  refine hs.mono ?_
  rintro e w1 ⟨N, rfl, o1, b1⟩
  have ha := all_any _ l w1 (Tx.of_own o1) (by have := HL.out; omega) (fun t ht => Nat.le_trans (HF.out t ht) (by omega)) (HT.out.below b1)
  rw [HE.out] at ha
  have HB : Hid (Below w.heap.size w w1) := b1
  have HO : Hid (w1.ownsRow w.heap.size 9 1 (.slice (some ⟨w.heap.size, 0, none⟩) l.length N) l.length (l.map Tv)) := o1
  clear o1 b1 hs
  go_wp2_with fail
  refine ha.mono ?_
  rintro e w2 ⟨rfl, b2⟩
  have HB2 : Hid (Below w.heap.size w w2) := HB.out.trans (b2.mono HB.out.size)
  have HO2 : Hid (w2.ownsRow w.heap.size 9 1 (.slice (some ⟨w.heap.size, 0, none⟩) l.length N) l.length (l.map Tv)) := own_below HO.out b2
  obtain ⟨B, hB⟩ : ∃ B, B = w.heap.size := ⟨_, rfl⟩
  have HBe : Hid (B = w.heap.size) := hB
  rw [← hB] at HB2 HO2 ⊢
  clear b2 HB HO ha hB
  obtain ⟨M, hM⟩ : ∃ M, M = l.length := ⟨_, rfl⟩
  have HM : Hid (M = l.length) := hM
  rw [← hM] at HO2 ⊢
  have hM9 : M ≤ 9 := by rw [hM]; exact HL.out
  clear hM HL
  go_wp2_with fail
  go_loopw [23] (fun i wr => ∃ k : Nat, k ≤ M ∧ i = .int .i64 k ∧ Hid (wr.ownsRow B 9 1 (.slice (some ⟨B, 0, none⟩) M N) M (l.map Tv)) ∧ Hid (Below B w wr)) (fun i _ => M - (intOf i).toNat)
  case atStart => exact ⟨0, by omega, rfl, HO2, HB2⟩
  case round =>
    clear HO2 HB2
    obtain ⟨k, hk, rfl, HO, HB⟩ := hrel
    by_cases hlt : k < M
    · have hk' : k < l.length := by rw [← HM.out]; exact hlt
      have c0 : wr.cell? ⟨B, k, none⟩ = some (.string l[k]) := by
        rw [HO.out.cellAt k (by omega), List.getElem?_map, List.getElem?_eq_getElem hk']
        rfl
      have hz : l[k].size ≤ 140737488355328 := HF.out _ (List.getElem_mem hk')
      have HS : Hid (l.set k l[k] = l) := List.set_getElem_self hk'
      have hbk : B < wr.heap.size := World.block_lt_of_cell? wr _ c0
      generalize l[k] = t at *
      have hc := fun u => clone_any t u hz
      go_wp2_with fail
      refine (hc _).mono ?_
      rintro e w3 ⟨rfl, b3⟩
      have HO3 : Hid (w3.ownsRow B 9 1 (.slice (some ⟨B, 0, none⟩) M N) M (l.map Tv)) := own_below HO.out b3
      have HB3 : Hid (Below B w w3) := HB.out.trans (b3.mono (by omega))
      have c3 : w3.cell? ⟨B, k, none⟩ = some (.string t) := (b3.cell (p := ⟨B, k, none⟩) hbk).trans c0
      have f3 : w3.frozen? ⟨B, k, none⟩ = false := HO3.out.frozenAt k
      clear b3 HO HB c0
      go_wp2_with fail
      go_roundw
      case rel =>
        refine ⟨k + 1, by omega, by go_num, ?_, HB3.out.setCell (by simp) _⟩
        have := tx_store HO3.out k t
        rw [HS.out] at this
        exact this
      case measure => simp only [intOf]; omega
    · obtain rfl : k = M := by omega
      go_wp2_with fail
      go_ret2
      refine ⟨_, rfl, ?_, ?_⟩
      · rw [← HBe.out, ← HM.out]; exact HO.out
      · rw [← HBe.out]; exact HB.out

theorem split_any (p : ByteArray) (w : World) (hp : p.size ≤ 140737488355328) (hT : Tabs w) :
    Calls Tryd.prog 17 #[.string p] w (SpOut p w) := by
  by_cases h : p.data.toList.head? = some 47
  · by_cases h1 : p.data.toList = [47]
    · obtain rfl := of_data h1
      refine (split_root w).mono ?_
      rintro e w' ⟨rfl, rfl⟩
      exact ⟨_, [], rfl, rfl, Tx.none _, Cp.none, Below.refl _ _⟩
    · have hd : dl (Nn.spB 8 (p.extract 1 p.size)) = Nn.spn 8 p.data.toList.tail := by
        rw [dl, Nn.spB_spn, Nn.ext_drop, List.drop_one]
      have he : Nn.errs (dl (Nn.spB 8 (p.extract 1 p.size))) = Nn.errs (Nn.cut p.data.toList.tail) := by
        rw [hd]; exact Nn.errs_spn 8 0 _ rfl
      by_cases h0 : Nn.errs (Nn.cut p.data.toList.tail) = 0
      · have hs : Nn.split p.data.toList = (Nn.cut p.data.toList.tail, 0) := by
          unfold Nn.split
          rw [if_neg (by simpa using h), if_neg h1, if_neg (by simpa using h0)]
        refine (split_ok p w hp hT h1 h _ rfl (he.trans h0)).mono ?_
        rintro e w' ⟨v, rfl, o, b⟩
        refine ⟨v, _, by rw [hs], ?_, Tx.of_own o, Cp.of_own o, b⟩
        rw [hs, hd]
        exact Nn.spn_cut 8 0 _ rfl h0
      · have hs : Nn.split p.data.toList = ([], Nn.errs (Nn.cut p.data.toList.tail)) := by
          unfold Nn.split
          rw [if_neg (by simpa using h), if_neg h1, if_pos h0]
        refine (split_bad p w hp hT h1 h _ rfl _ he.symm h0).mono ?_
        rintro e w' ⟨rfl, b⟩
        exact ⟨_, [], by rw [hs], by rw [hs]; rfl, Tx.none _, Cp.none, b⟩
  · have hs : Nn.split p.data.toList = ([], 8) := by
      unfold Nn.split
      rw [if_pos h]
    refine (split_no p w (fun e => h (by rw [e]; rfl)) h).mono ?_
    rintro e w' ⟨rfl, rfl⟩
    exact ⟨_, [], by rw [hs], by rw [hs]; rfl, Tx.none _, Cp.none, Below.refl _ _⟩
end Go.Proofs.YtfcnlfblfennaaaDoor
