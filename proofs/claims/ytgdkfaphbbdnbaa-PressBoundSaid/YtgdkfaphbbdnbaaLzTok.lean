/-
  A token as a value; what isDist, isLetter, isCopy and bytesOf of package lz, and tokenForm of package lumref answer.
-/
import Derived.Test.YtgdkfaphbbdnbaaBase
import Derived.Test.YtgdkfaphbbdnbaaLzMath2
import Derived.Deep.Cut
namespace Go.Proofs.Ytgdkfaphbbdnbaa
open Go.RowKit
set_option maxRecDepth 4000

theorem below_past {w w' : World} {o : Obj} (h : Below (w.alloc o).heap.size (w.alloc o) w') : Below w.heap.size w w' :=
  ((Below.refl _ w).alloc (Nat.le_refl _) o).trans (h.mono (by simp))
namespace Lz
def dOK (d : Int) : Bool := decide (1 ≤ d ∧ d ≤ 1024)
def Tr.isL (t : Tr) : Bool := decide (t.len = 0 ∧ t.dist = 0)
def Tr.isC (t : Tr) : Bool := decide (t.lit = 0 ∧ 1 ≤ t.len ∧ t.len ≤ 255 ∧ 1 ≤ t.dist ∧ t.dist ≤ 1024)
def Tr.ok (t : Tr) : Bool := decide t.form
/-- how many bytes a token makes -/
def Tr.many (t : Tr) : Int := if t.len = 0 ∧ t.dist = 0 then 1 else t.len
theorem Tr.ok_or (t : Tr) : t.ok = (t.isL || t.isC) := by
  unfold Tr.ok Tr.isL Tr.isC Tr.form
  exact Bool.decide_or _ _
end Lz
theorem ret_dec {p : Prop} [Decidable p] {b c : Bool} (hc : c = decide p) (h : (b = true ∧ p) ∨ (b = false ∧ ¬ p)) : Ending.returned (.bool b) = .returned (.bool c) := by
  subst hc
  rcases h with ⟨rfl, h⟩ | ⟨rfl, h⟩
  · rw [decide_eq_true h]
  · rw [decide_eq_false h]
/-- a token, as it is handed over -/
def tokV (t : Lz.Tr) : Value := .agg #[.int .u8 t.lit.toNat, .int .i64 t.len, .int .i64 t.dist]
theorem lit_nat (b : UInt8) : b = 0 ↔ (b.toNat : Int) = 0 := by
  constructor
  · rintro rfl; rfl
  · intro h
    exact UInt8.toNat_inj.1 (by simp; omega)

set_option maxHeartbeats 400000 in
theorem dist_any (d : Int) (w : World) :
    Calls Try.prog 94 #[.int .i64 d] w fun e w' => e = .returned (.bool (Lz.dOK d)) ∧ w' = w := by
  go_enter Try.func94, Try.ntmps94
  go_wp2
  all_goals go_ret
  all_goals exact ⟨ret_dec rfl (by simp; omega), rfl⟩

set_option maxHeartbeats 400000 in
theorem letter_any (t : Lz.Tr) (w : World) :
    Calls Try.prog 52 #[tokV t] w fun e w' => e = .returned (.bool t.isL) ∧ Below w.heap.size w w' := by
  unfold tokV
  go_enter Try.func52, Try.ntmps52
  go_wp2
  all_goals go_ret
  all_goals exact ⟨ret_dec rfl (by simp; omega), (Below.refl _ w).alloc (Nat.le_refl _) _⟩

set_option maxHeartbeats 400000 in
theorem copy_any (t : Lz.Tr) (w : World) :
    Calls Try.prog 81 #[tokV t] w fun e w' => e = .returned (.bool t.isC) ∧ Below w.heap.size w w' := by
  unfold tokV
  go_enter Try.func81, Try.ntmps81
  go_wp2_with (refine (dist_any _ _).mono ?_; rintro e w' ⟨rfl, rfl⟩)
  all_goals go_ret
  all_goals refine ⟨ret_dec rfl ?_, (Below.refl _ w).alloc (Nat.le_refl _) _⟩
  all_goals (try unfold Lz.dOK); simp [lit_nat]; omega

set_option maxHeartbeats 400000 in
theorem bytes_any (t : Lz.Tr) (w : World) :
    Calls Try.prog 50 #[tokV t] w fun e w' => e = .returned (.int .i64 t.many) ∧ Below w.heap.size w w' := by
  have hl := letter_any t
  unfold tokV at hl ⊢
  cases hb : t.isL with
  | true =>
    have h := of_decide_eq_true hb
    have HM : Hid (t.many = 1) := if_pos h
    rw [hb] at hl
    clear hb h
    go_enter Try.func50, Try.ntmps50
    go_wp2_with (refine (hl _).mono ?_; rintro e w' ⟨rfl, hb⟩)
    go_ret
    exact ⟨by rw [HM.out]; rfl, below_past hb⟩
  | false =>
    have h := of_decide_eq_false hb
    have HM : Hid (t.many = t.len) := if_neg h
    rw [hb] at hl
    clear hb h
    go_enter Try.func50, Try.ntmps50
    go_wp2_with fail
    refine (hl _).mono ?_
    rintro e w' ⟨rfl, hb⟩
    have hc := (hb.cell (p := ⟨w.heap.size, 1, none⟩) (by simp)).trans (show _ = some (.int .i64 t.len) from by simp)
    go_wp2_with fail
    go_ret
    exact ⟨by rw [HM.out]; rfl, below_past hb⟩

set_option maxHeartbeats 1000000 in
theorem form_any (t : Lz.Tr) (w : World) :
    Calls Try.prog 79 #[tokV t] w fun e w' => e = .returned (.bool t.ok) ∧ Below w.heap.size w w' := by
  unfold tokV
  go_enter Try.func79, Try.ntmps79
  go_wp2
  all_goals go_ret
  all_goals refine ⟨ret_dec rfl ?_, (Below.refl _ w).alloc (Nat.le_refl _) _⟩
  all_goals unfold Lz.Tr.form; simp [lit_nat]; omega
end Go.Proofs.Ytgdkfaphbbdnbaa
