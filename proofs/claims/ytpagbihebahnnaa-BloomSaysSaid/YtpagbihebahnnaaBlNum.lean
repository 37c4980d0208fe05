/-
  What number and marks of package bloom answer.
-/
import Derived.Test.YtpagbihebahnnaaBlBit
import Derived.Deep.Cut
import Derived.Deep.QuietTactic
import Derived.BigQuiet
namespace Go.Proofs.Ytpagbihebahnnaa
open Go.RowKit
set_option maxRecDepth 4000

theorem or_byte (n : Nat) (b : UInt8) (hn : n < 16777216) : bits .or .u64 ((n : Int) * 256) (b.toNat : Int) = ((256 * n + b.toNat : Nat) : Int) := by
  have hb := b.toNat_lt
  have h := u64_or_nat (n * 256) b.toNat (by omega) (by omega)
  rw [nat_join 8 (n * 256) b.toNat (by omega) (by omega)] at h
  rw [show (n : Int) * 256 = ((n * 256 : Nat) : Int) from by simp, h]
  omega

set_option maxHeartbeats 1000000 in
theorem bnum_any (bk o c : Nat) (l : List UInt8) (w : World) (hl : l.length ≤ 4) (hc : ∀ j (h : j < l.length), w.cell? ⟨bk, o + j, none⟩ = some (.int .u8 (l[j].toNat : Int))) :
    Calls Try.prog 17 #[.slice (some ⟨bk, o, none⟩) l.length c] w fun e w' => e = .returned (.int .u64 (Nm.val l : Nat)) ∧ w' = w := by
  go_enter Try.func17, Try.ntmps17
  go_wp2_with fail
  go_loop [3, 8] (fun s i => ∃ j : Nat, j ≤ l.length ∧ i = .int .i64 j ∧ s = .int .u64 (Nm.val (l.take j) : Nat)) (fun _ i => l.length - (intOf i).toNat)
  case atStart => exact ⟨0, by omega, rfl, rfl⟩
  case round =>
    obtain ⟨i, hi, rfl, rfl⟩ := hrel
    by_cases hlt : i < l.length
    · have c0 := hc i hlt
      have hlt2 := Nm.val_lt (l.take i)
      have hv : Nm.val (l.take i) < 16777216 := Nat.lt_of_lt_of_le hlt2 (Nat.le_trans (Nat.pow_le_pow_right (by omega) (show (l.take i).length ≤ 3 from by rw [List.length_take]; omega)) (by decide))
      have hor := or_byte (Nm.val (l.take i)) l[i] hv
      have HN : Hid (Nm.val (l.take (i + 1)) = 256 * Nm.val (l.take i) + l[i].toNat) := by
        show _ = _
        rw [List.take_succ_eq_append_getElem hlt, Nm.val_snoc]
      have hb := l[i].toNat_lt
      generalize l[i].toNat = b at *
      generalize Nm.val (l.take i) = n at *
      clear hc hlt2
      go_wp2_with fail
      go_round
      case rel => exact ⟨i + 1, by omega, by go_num, int_eq (by rw [HN.out]; omega)⟩
      case measure => simp only [intOf]; omega
    · obtain rfl : i = l.length := by omega
      go_wp2_with fail
      go_ret
      exact ⟨rfl, rfl⟩
end Go.Proofs.Ytpagbihebahnnaa
