/-
  What PutInt of the document's answer (package lumref) answers.
-/
import Derived.Test.YtcgecafajgoeeaaDoorRefDig
import Derived.Test.YtcgecafajgoeeaaDoorRefTurn
namespace Go.Proofs.YtcgecafajgoeeaaDoor
open Go.RowKit
set_option maxRecDepth 4000

set_option maxHeartbeats 400000 in
theorem rputI_any (n : Int) (w : World) (n0 : -9223372036854775808 ≤ n) (n1 : n ≤ 9223372036854775807) :
    Calls Tryd.prog 22 #[.int .i64 n] w fun e w' => e = .returned (.string ⟨(Nm.putI n).toArray⟩) ∧ Below w.heap.size w w' := by
  by_cases h : n < 0
  · have hl := Nm.dig_length_le (-1 - n).toNat
    have hb0 : (0 : Int) ≤ 127 - ((Nm.dig (-1 - n).toNat).length : Int) := by omega
    have hb1 : 127 - ((Nm.dig (-1 - n).toNat).length : Int) ≤ 255 := by omega
    obtain ⟨c, hc⟩ : ∃ c, c = UInt8.ofNat (127 - ((Nm.dig (-1 - n).toNat).length : Int)).toNat := ⟨_, rfl⟩
    have hr1 := str_new (127 - ((Nm.dig (-1 - n).toNat).length : Int)) hb0 hb1
    have hr2 := str_new_drew (127 - ((Nm.dig (-1 - n).toNat).length : Int)) hb0 hb1
    rw [← hc] at hr1 hr2
    have hcat : ∀ W : World, (Op.stringOp .add ⟨#[c]⟩ ⟨(Nm.tn 255 (Nm.dig (-1 - n).toNat)).toArray⟩).run Tryd.prog W = .ok (.string ⟨(Nm.putI n).toArray⟩) W := fun W => by
      have := run_string_add_lists (P := Tryd.prog) W [c] (Nm.tn 255 (Nm.dig (-1 - n).toNat)) (by simp) (by rw [Nm.tn_length]; omega)
      rw [Nm.putI, if_pos h, show 127 - (Nm.dig (-1 - n).toNat).length = (127 - ((Nm.dig (-1 - n).toNat).length : Int)).toNat from by omega, ← hc]
      exact this
    have HC : Hid (c = UInt8.ofNat (127 - ((Nm.dig (-1 - n).toNat).length : Int)).toNat) := hc
    clear hc
    go_enter Tryd.func22, Tryd.ntmps22
    go_wp2_with fail
    refine (digits_any 8 _ _ (by omega) (by omega) (by omega)).mono ?_
    rintro e w1 ⟨rfl, hb⟩
    rw [show Nm.digF 8 (-1 - n).toNat = Nm.dig (-1 - n).toNat from rfl]
    have hw1 : IntKind.i64.wrap (127 - ((Nm.dig (-1 - n).toNat).length : Int)) = 127 - ((Nm.dig (-1 - n).toNat).length : Int) := by rw [IntKind.wrap_i64]; omega
    have hw2 : IntKind.u8.wrap (127 - ((Nm.dig (-1 - n).toNat).length : Int)) = 127 - ((Nm.dig (-1 - n).toNat).length : Int) := by rw [IntKind.wrap_u8]; omega
    go_wp2_with fail
    go_region_with (go_at_call 36; refine (turned_any _ _ (by simp [ByteArray.size]; omega)).mono ?_; rintro e w' ⟨rfl, hb2⟩; try (have hr3 := str_kept w1 (127 - ((Nm.dig (-1 - n).toNat).length : Int)) hb0 hb1 hb2; rw [← HC.out] at hr3))
    all_goals
      clear hr1 hr2 hcat
      go_wp2_with fail
      go_ret
      refine ⟨rfl, ?_⟩
      have hs1 := hb.size
      first
        | (have h := hb2.size; exact ((hb.drew).trans (hb2.mono (by simpa using hs1))).alloc (by simp at h; omega) _)
        | exact ((hb.alloc hs1 _).drew).trans (hb2.mono (by simp; omega))
  · have hl := Nm.dig_length_le n.toNat
    obtain ⟨c, hc⟩ : ∃ c, c = UInt8.ofNat (128 + ((Nm.dig n.toNat).length : Int)).toNat := ⟨_, rfl⟩
    have hr1 := str_new (128 + ((Nm.dig n.toNat).length : Int)) (by omega) (by omega)
    rw [← hc] at hr1
    have hcat : ∀ W : World, (Op.stringOp .add ⟨#[c]⟩ ⟨(Nm.dig n.toNat).toArray⟩).run Tryd.prog W = .ok (.string ⟨(Nm.putI n).toArray⟩) W := fun W => by
      have := run_string_add_lists (P := Tryd.prog) W [c] (Nm.dig n.toNat) (by simp) (by omega)
      rw [Nm.putI, if_neg h, show 128 + (Nm.dig n.toNat).length = (128 + ((Nm.dig n.toNat).length : Int)).toNat from by omega, ← hc]
      exact this
    clear hc
    go_enter Tryd.func22, Tryd.ntmps22
    go_wp2_with fail
    refine (digits_any 8 _ _ (by omega) (by omega) (by omega)).mono ?_
    rintro e w1 ⟨rfl, hb⟩
    rw [show Nm.digF 8 n.toNat = Nm.dig n.toNat from rfl]
    have hbs := hb.size
    go_wp2_with fail
    go_ret
    exact ⟨rfl, hb.alloc hbs _⟩
end Go.Proofs.YtcgecafajgoeeaaDoor
