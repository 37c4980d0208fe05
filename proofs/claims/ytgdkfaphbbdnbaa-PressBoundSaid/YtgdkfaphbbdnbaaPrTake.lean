/-
  What take and onlyFilling of package press answer.
-/
import Derived.Test.YtgdkfaphbbdnbaaPrHead
import Derived.Test.YtgdkfaphbbdnbaaPrBook
import Derived.Laws.BitsAllLaws
import Derived.BigQuiet
import Derived.Deep.QuietTactic
namespace Go.Proofs.Ytgdkfaphbbdnbaa
open Go.RowKit
set_option maxRecDepth 4000

/-- a reader of bits in a block of its own -/
def BR (W : World) (R : Nat) (s : ByteArray) (p : Nat) : Prop := W.heap[R]? = some (.cells #[.string s, .int .i64 p] 114 (0, 0))
theorem BR.cells {W : World} {R : Nat} {s : ByteArray} {p : Nat} (h : BR W R s p) : W.cell? ⟨R, 0, none⟩ = some (.string s) ∧ W.cell? ⟨R, 1, none⟩ = some (.int .i64 p) ∧ W.frozen? ⟨R, 1, none⟩ = false ∧ R < W.heap.size := by
  refine ⟨?_, ?_, ?_, (Array.getElem?_eq_some_iff.1 h).1⟩
  · rw [cell_of_row _ R 0 _ _ _ h]; rfl
  · rw [cell_of_row _ R 1 _ _ _ h]; rfl
  · simp [World.frozen?, show W.heap[R]? = _ from h]
theorem BR.kept {q : Nat → Prop} {W W' : World} {R : Nat} {s : ByteArray} {p : Nat} (h : BR W R s p) (hk : Kept q W W') (hR : q R) : BR W' R s p := hk.obj hR h
theorem BR.step {W : World} {R : Nat} {s : ByteArray} {p : Nat} (h : BR W R s p) (q : Nat) : BR (W.setCell ⟨R, 1, none⟩ (.int .i64 (q : Int))) R s q := by
  unfold BR at h ⊢
  rw [heap_setCell_same _ _ _ _ _ _ h]
  rfl
namespace Pr
/-- one bit of a text -/
def bt (s : ByteArray) (p : Nat) : Nat := (s.data.toList.getD (p / 8) 0).toNat / 2 ^ (7 - p % 8) % 2
end Pr
theorem i64_and_one (n : Nat) (h : n < 9223372036854775808) : bits .and .i64 (n : Int) 1 = ((n % 2 : Nat) : Int) := by
  show IntKind.i64.wrap ((BitVec.ofInt 64 (n : Int) &&& BitVec.ofInt 64 ((1 : Nat) : Int)).toNat : Int) = _
  rw [BitVec.toNat_and, ofInt_u64 n (by omega), ofInt_u64 1 (by omega), Nat.and_one_is_mod]
  simp [IntKind.wrap, IntKind.bits, IntKind.signed]
  omega
theorem bt_walk (s : ByteArray) (p q : Nat) (hq : q = p / 8) (h : q < s.size) : bits BinOp.and IntKind.i64 ((s[q].toNat : Int) / 2 ^ (7 - p % 8)) 1 = (Pr.bt s p : Int) := by
  have hb := s[q].toNat_lt
  have e : ((s[q].toNat : Int) / 2 ^ (7 - p % 8)) = ((s[q].toNat / 2 ^ (7 - p % 8) : Nat) : Int) := by simp
  have hd := Nat.div_le_self s[q].toNat (2 ^ (7 - p % 8))
  rw [e, i64_and_one _ (by omega)]
  unfold Pr.bt
  rw [← hq, List.getD_eq_getElem?_getD, byte_get s q h]
  rfl

set_option maxHeartbeats 1000000 in
theorem take_none (R : Nat) (s : ByteArray) (p : Nat) (w : World) (h : BR w R s p) (hs : s.size ≤ 140737488351232) (hp : p = 8 * s.size) :
    Calls Try.prog 92 #[.pointer (some ⟨R, 0, none⟩)] w fun e w' => e = .returned (.tuple #[.int .i64 0, .bool false]) ∧ Below w.heap.size w w' := by
  obtain ⟨c0, c1, f1, hR⟩ := h.cells
  have hq : ((p : Int) == 8 * (s.size : Int)) = true := by rw [beq_iff_eq]; omega
  have hp2 : p ≤ 1125899906809856 := by omega
  clear h hp
  go_enter Try.func92, Try.ntmps92
  go_wp2_with fail
  go_quiet (fail)
  go_wp2_with fail
  go_ret2
  exact ⟨rfl, below_drewN (Below.refl _ _) _⟩

set_option maxHeartbeats 1000000 in
theorem take_some (R : Nat) (s : ByteArray) (p : Nat) (w : World) (h : BR w R s p) (hs : s.size ≤ 140737488351232) (hp : p < 8 * s.size) :
    Calls Try.prog 92 #[.pointer (some ⟨R, 0, none⟩)] w fun e w' => e = .returned (.tuple #[.int .i64 (Pr.bt s p), .bool true]) ∧ BR w' R s (p + 1) ∧ Kept (fun k => k ≠ R) w w' := by
  obtain ⟨c0, c1, f1, hR⟩ := h.cells
  have hq : ((p : Int) == 8 * (s.size : Int)) = false := by rw [beq_eq_false_iff_ne]; omega
  have hp2 : p ≤ 1125899906809856 := by omega
  have HBR : Hid (BR w R s p) := h
  clear h
  go_enter Try.func92, Try.ntmps92
  go_wp2_with fail
  go_quiet (fail)
  obtain ⟨q, hq8⟩ : ∃ q, q = p / 8 := ⟨_, rfl⟩
  have i1 : (p : Int) / 8 = (q : Int) := by omega
  have i2 : q < s.size := by omega
  have i3 : (q : Int) < (s.size : Int) := by omega
  have HQ : Hid (q = p / 8) := hq8
  clear hq8 hp
  have b0 := s[q].toNat_lt
  have HBT : Hid (bits BinOp.and IntKind.i64 ((s[q].toNat : Int) / 2 ^ (7 - p % 8)) 1 = (Pr.bt s p : Int)) := bt_walk s p q HQ.out i2
  go_wp2_with fail
  refine wp_region_quiet_lit (by kernel_rfl) (by kernel_rfl) ?_
  repeat (go_big_quiet_step (fail))
  refine wpQuiet_nil ?_
  rintro w' ⟨nq', rfl⟩
  go_wp2_with fail
  go_ret2
  refine ⟨by rw [HBT.out]; rfl, ?_, ?_⟩
  · exact BR.step (W := w.drewN (nq + nq')) (HBR.out.kept (q := fun _ => True) (Kept.of_below (below_drewN (Below.refl _ _) _)) trivial) (p + 1)
  · exact Kept.setCell (p := fun k => k ≠ R) (Kept.of_below (below_drewN (Below.refl _ _) _)) (fun h => h rfl) _
/-- a bit that was taken, or none -/
def Took (W : World) (R : Nat) (s : ByteArray) (p : Nat) (b : Nat) (t : Bool) : Prop := (p < 8 * s.size ∧ t = true ∧ b = Pr.bt s p ∧ BR W R s (p + 1)) ∨ (p = 8 * s.size ∧ t = false ∧ b = 0 ∧ BR W R s p)
theorem take_any (R : Nat) (s : ByteArray) (p : Nat) (w : World) (h : BR w R s p) (hs : s.size ≤ 140737488351232) (hp : p ≤ 8 * s.size) :
    Calls Try.prog 92 #[.pointer (some ⟨R, 0, none⟩)] w fun e w' => ∃ (b : Nat) (t : Bool), e = .returned (.tuple #[.int .i64 b, .bool t]) ∧ Took w' R s p b t ∧ Kept (fun k => k ≠ R) w w' := by
  by_cases hend : p = 8 * s.size
  · refine (take_none R s p w h hs hend).mono ?_
    rintro e w' ⟨rfl, hb⟩
    exact ⟨0, false, rfl, .inr ⟨hend, rfl, rfl, h.kept (q := fun _ => True) (Kept.of_below hb) trivial⟩, Kept.of_below hb⟩
  · refine (take_some R s p w h hs (by omega)).mono ?_
    rintro e w' ⟨rfl, hb, hk⟩
    exact ⟨_, true, rfl, .inl ⟨by omega, rfl, rfl, hb⟩, hk⟩
def brPos (w : World) (R : Nat) : Nat := match w.cell? ⟨R, 1, none⟩ with
  | some (.int _ n) => n.toNat
  | _ => 0
theorem BR.pos {W : World} {R : Nat} {s : ByteArray} {p : Nat} (h : BR W R s p) : brPos W R = p := by
  unfold brPos
  rw [h.cells.2.1]
  rfl
def boolN (t : Value) : Nat := match t with
  | .bool true => 1
  | _ => 0

namespace Pr
/-- the bits of a text -/
def bitsS (s : ByteArray) : List Bool := bitsB (dnB s.data.toList)
theorem bitsS_length (s : ByteArray) : (bitsS s).length = 8 * s.size := by
  unfold bitsS dnB
  rw [bitsB_length, List.length_map, ← Lib.size_eq]
theorem bitsS_get (s : ByteArray) (p : Nat) (h : p < 8 * s.size) : (bitsS s)[p]? = some (decide (bt s p = 1)) := by
  have hl : (dnB s.data.toList).length = s.size := by unfold dnB; rw [List.length_map, ← Lib.size_eq]
  unfold bitsS bt
  rw [bitsB_get (by rw [hl]; exact h)]
  unfold dnB
  rw [List.getD_eq_getElem?_getD, List.getD_eq_getElem?_getD, List.getElem?_map]
  cases e : s.data.toList[p / 8]? with
  | none => rfl
  | some b => rfl
theorem bt_lt (s : ByteArray) (p : Nat) : bt s p < 2 := Nat.mod_lt _ (by omega)
theorem bitsS_drop (s : ByteArray) (p : Nat) (h : p < 8 * s.size) : (bitsS s).drop p = decide (bt s p = 1) :: (bitsS s).drop (p + 1) := by
  rw [List.drop_eq_getElem_cons (by rw [bitsS_length]; exact h)]
  have := bitsS_get s p h
  rw [List.getElem?_eq_getElem (by rw [bitsS_length]; exact h)] at this
  rw [Option.some.inj this]
/-- nothing left but filling -/
theorem clean_more (s : ByteArray) (p : Nat) (h : (p + 7) / 8 < s.size) : clean ((bitsS s).drop p) = false := by
  have hl : ((bitsS s).drop p).length = 8 * s.size - p := by rw [List.length_drop, bitsS_length]
  unfold clean
  rw [hl, decide_eq_false (by omega), Bool.false_and]
theorem clean_few (s : ByteArray) (p : Nat) (h : ¬ (p + 7) / 8 < s.size) : clean ((bitsS s).drop p) = ((bitsS s).drop p).all fun b => !b := by
  have hl : ((bitsS s).drop p).length = 8 * s.size - p := by rw [List.length_drop, bitsS_length]
  unfold clean
  rw [hl, decide_eq_true (by omega), Bool.true_and]
theorem all_one (s : ByteArray) (p : Nat) (h : p < 8 * s.size) (hb : bt s p = 1) : (((bitsS s).drop p).all fun b => !b) = false := by
  rw [bitsS_drop s p h, List.all_cons, hb]
  rfl
theorem all_zero (s : ByteArray) (p : Nat) (h : p < 8 * s.size) (hb : bt s p ≠ 1) : (((bitsS s).drop p).all fun b => !b) = (((bitsS s).drop (p + 1)).all fun b => !b) := by
  rw [bitsS_drop s p h, List.all_cons, decide_eq_false hb]
  rfl
theorem all_none (s : ByteArray) (p : Nat) (h : 8 * s.size ≤ p) : (((bitsS s).drop p).all fun b => !b) = true := by
  rw [List.drop_eq_nil_of_le (by rw [bitsS_length]; exact h)]
  rfl
end Pr

set_option maxHeartbeats 2000000 in
theorem fill_any (R : Nat) (s : ByteArray) (p : Nat) (w : World) (h : BR w R s p) (hs : s.size ≤ 140737488351232) (hp : p ≤ 8 * s.size) :
    Calls Try.prog 72 #[.pointer (some ⟨R, 0, none⟩)] w fun e w' => e = .returned (.bool (Pr.clean ((Pr.bitsS s).drop p))) ∧ Kept (fun k => k ≠ R) w w' := by
  obtain ⟨c0, c1, f1, hR⟩ := h.cells
  have hp2 : p ≤ 1125899906809856 := by omega
  by_cases hmore : (p + 7) / 8 < s.size
  · have HC : Hid (Pr.clean ((Pr.bitsS s).drop p) = false) := Pr.clean_more s p hmore
    have hq : decide (((p : Int) + 8 - 1) / 8 < (s.size : Int)) = true := decide_eq_true (by omega)
    clear h hmore
    go_enter Try.func72, Try.ntmps72
    go_wp2_with fail
    go_ret
    exact ⟨by rw [HC.out]; rfl, Kept.refl _ _⟩
  have HC : Hid (Pr.clean ((Pr.bitsS s).drop p) = ((Pr.bitsS s).drop p).all fun b => !b) := Pr.clean_few s p hmore
  have hq : decide (((p : Int) + 8 - 1) / 8 < (s.size : Int)) = false := decide_eq_false (by omega)
  obtain ⟨A, hA⟩ : ∃ A, (((Pr.bitsS s).drop p).all fun b => !b) = A := ⟨_, rfl⟩
  rw [hA] at HC
  have HA : Hid ((((Pr.bitsS s).drop p).all fun b => !b) = A) := hA
  have HBR : Hid (BR w R s p) := h
  clear hmore hA h
  have ht := take_any R s p w HBR.out hs hp
  go_enter Try.func72, Try.ntmps72
  go_wp2_with fail
  refine ht.mono ?_
  rintro e w1 ⟨b, t, rfl, htk, hk1⟩
  clear c0 c1 f1 ht hq
  have HT1 : Hid (Took w1 R s p b t) := htk
  have HK1 : Hid (Kept (fun k => k ≠ R) w w1) := hk1
  clear htk hk1
  go_wp2_with fail
  go_loopw [4, 5] (fun bv tv wr => ∃ (q b : Nat) (t : Bool), q ≤ 8 * s.size ∧ bv = .int .i64 b ∧ tv = .bool t ∧ Hid (Took wr R s q b t) ∧ Hid ((((Pr.bitsS s).drop q).all fun b => !b) = A) ∧ Hid (Kept (fun k => k ≠ R) w wr)) (fun _ tv wr => (8 * s.size - brPos wr R) + boolN tv)
  case atStart => exact ⟨p, b, t, hp, rfl, rfl, HT1, HA, HK1⟩
  case round =>
    clear HBR HT1 HK1
    obtain ⟨q, b, t, hq, rfl, rfl, htk, hall, hk⟩ := hrel
    rcases htk.out with ⟨h1, rfl, hbt, hbr⟩ | ⟨h1, rfl, hbt, hbr⟩
    · by_cases h2 : Pr.bt s q = 1
      · have HAF : Hid (A = false) := by show A = false; rw [← hall.out]; exact Pr.all_one s q h1 h2
        have hne : ((b : Int) != 0) = true := by rw [bne_iff_ne]; omega
        clear hall hbt h2 htk hbr
        go_wp2_with fail
        go_ret
        exact ⟨by rw [HC.out, HAF.out]; rfl, hk.out⟩
      · have hlt := Pr.bt_lt s q
        have hne : ((b : Int) != 0) = false := by rw [bne_eq_false_iff_eq]; omega
        have HN : Hid ((((Pr.bitsS s).drop (q + 1)).all fun b => !b) = A) := by show _ = A; rw [← hall.out]; exact (Pr.all_zero s q h1 h2).symm
        have HP : Hid (brPos wr R = q + 1) := hbr.pos
        have ht := take_any R s (q + 1) wr hbr hs (by omega)
        clear hall hbt h2 htk hbr hlt
        go_wp2_with fail
        refine ht.mono ?_
        rintro e w2 ⟨b2, t2, rfl, htk, hk2⟩
        have HT2 : Hid (Took w2 R s (q + 1) b2 t2) := htk
        have HK2 : Hid (Kept (fun k => k ≠ R) w w2) := hk.out.trans hk2
        have HM : Hid ((8 * s.size - brPos w2 R) + boolN (.bool t2) < (8 * s.size - brPos wr R) + boolN (.bool true)) := by
          show _ < _
          rw [HP.out]
          rcases htk with ⟨g1, rfl, _, g2⟩ | ⟨g1, rfl, _, g2⟩
          · rw [g2.pos]; show _ + 1 < _ + 1; omega
          · rw [g2.pos]; show _ + 0 < _ + 1; omega
        clear htk hk2 ht hk
        go_wp2_with fail
        go_roundw
        case rel => exact ⟨q + 1, b2, t2, by omega, rfl, rfl, HT2, HN, HK2⟩
        case measure => exact HM.out
    · have HAT : Hid (A = true) := by show A = true; rw [← hall.out]; exact Pr.all_none s q (by omega)
      clear hall hbt htk hbr
      go_wp2_with fail
      go_ret
      exact ⟨by rw [HC.out, HAT.out]; rfl, hk.out⟩
end Go.Proofs.Ytgdkfaphbbdnbaa
