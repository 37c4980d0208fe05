/-
  What number and isOfForm of package civil answer.
-/
import Derived.Test.YtlglkfnihjfnoaaDoorCvSome
import Derived.Test.YtlglkfnihjfnoaaDoorBytes
import Derived.Test.YtlglkfnihjfnoaaDoorQuietSince
import Derived.Deep.RegionWith
import Derived.Deep.QuietTactic
namespace Go.Proofs.YtlglkfnihjfnoaaDoor
open Go.RowKit
set_option maxRecDepth 4000

/-- '[]byte(s)': a row of its own -/
theorem cv_bytes (w : World) (s : ByteArray) : ∃ W1 cap, (convert 9 49 (.string s)).run Tryd.prog w = .ok (.slice (some ⟨w.heap.size, 0, none⟩) s.size cap) W1 ∧ Below w.heap.size w W1 ∧ w.heap.size < W1.heap.size ∧ ∀ j (hj : j < s.size), W1.cell? ⟨w.heap.size, j, none⟩ = some (.int .u8 (s[j].toNat : Int)) := by
  have hcv := run_bytes_of_string (P := Tryd.prog) w 9 49 5 s (by kernel_rfl) (by kernel_rfl) (by kernel_rfl)
  exact ⟨_, _, hcv, ((Below.refl _ w).alloc (Nat.le_refl _) _).drew, by simp, fun j hj => bytes_cell w s _ _ j hj⟩

theorem number_any (s : ByteArray) (w : World) (hs : s.size ≤ 6) (hd : ∀ c ∈ s.data.toList, Cv.isDig c = true) :
    Calls Tryd.prog 32 #[.string s] w fun e w' => e = .returned (.int .i64 (Cv.num s.data.toList)) ∧ Below w.heap.size w w' := by
  obtain ⟨W1, cap, hcv, hb1, hl1, hc1⟩ := cv_bytes w s
  have hsl : s.data.toList.length = s.size := by rw [← Lib.size_eq]
  have hnl : ∀ k, k ≤ s.size → Cv.num (s.data.toList.take k) < 1000000 := by
    intro k hk
    have h1 := Cv.num_lt (s.data.toList.take k) (fun c hc => hd c (List.mem_of_mem_take hc))
    refine Nat.lt_of_lt_of_le h1 ?_
    have : (10 : Nat) ^ (s.data.toList.take k).length ≤ 10 ^ 6 := Nat.pow_le_pow_right (by omega) (by rw [List.length_take]; omega)
    omega
  have HC : Hid (∀ j (hj : j < s.size), W1.cell? ⟨w.heap.size, j, none⟩ = some (.int .u8 (s[j].toNat : Int))) := hc1
  clear hc1
  go_enter Tryd.func32, Tryd.ntmps32
  go_wp2_with fail
  clear hcv
  go_loop [3, 9] (fun o i => ∃ k : Nat, k ≤ s.size ∧ i = .int .i64 k ∧ o = .int .i64 (Cv.num (s.data.toList.take k) : Nat)) (fun _ i => s.size - (intOf i).toNat)
  case atStart => exact ⟨0, by omega, rfl, rfl⟩
  case round =>
    obtain ⟨k, hk, rfl, rfl⟩ := hrel
    by_cases hlt : k < s.size
    · have hc := HC.out k hlt
      have hm := hnl k hk
      have hdk := (Cv.isDig_iff s[k]).1 (hd _ (List.getElem_mem (by omega)))
      have HT : Hid (Cv.num (s.data.toList.take (k + 1)) = 10 * Cv.num (s.data.toList.take k) + (s[k].toNat - 48)) := Cv.num_take s.data.toList (by omega)
      have hm2 := hnl (k + 1) hlt
      rw [HT.out] at hm2
      generalize Cv.num (s.data.toList.take k) = v at *
      generalize s[k].toNat = c at *
      go_wp2_with fail
      go_round
      case rel => exact ⟨k + 1, by omega, by go_num, by rw [HT.out]; go_num⟩
      case measure => simp [intOf]; omega
    · obtain rfl : k = s.size := by omega
      rw [List.take_of_length_le (by omega)]
      go_wp2_with fail
      go_ret
      exact ⟨rfl, hb1⟩

theorem okAt_dash {i : Nat} {c : UInt8} (h : i = 4 ∨ i = 7) : Cv.okAt i c = decide (c.toNat = 45) := by
  unfold Cv.okAt
  rw [if_pos h, Bool.eq_iff_iff, beq_iff_eq, decide_eq_true_eq, ← UInt8.toNat_inj]
  rfl

theorem okAt_dig {i : Nat} {c : UInt8} (h : ¬ (i = 4 ∨ i = 7)) : Cv.okAt i c = decide (48 ≤ c.toNat ∧ c.toNat ≤ 57) := by
  unfold Cv.okAt
  rw [if_neg h, Bool.eq_iff_iff, Cv.isDig_iff, decide_eq_true_eq]

set_option maxHeartbeats 4000000 in
theorem isOfForm_any (s : ByteArray) (w : World) :
    Calls Tryd.prog 31 #[.string s] w fun e w' => e = .returned (.bool (Cv.form s.data.toList)) ∧ Below w.heap.size w w' := by
  have hsl : s.data.toList.length = s.size := by rw [← Lib.size_eq]
  by_cases hs : s.size = 10
  · obtain ⟨W1, cap, hcv, hb1, hl1, hc1⟩ := cv_bytes w s
    have HA : Hid ((∀ i (hi : i < s.data.toList.length), Cv.okAt i s.data.toList[i] = true) → Cv.form s.data.toList = true) := (Cv.form_all (by omega)).2
    have HN : Hid (∀ i (hi : i < s.size), Cv.okAt i s[i] = false → Cv.form s.data.toList = false) := fun i hi h => Cv.form_no (by omega) (by omega) h
    have HC : Hid (∀ j (hj : j < s.size), W1.cell? ⟨w.heap.size, j, none⟩ = some (.int .u8 (s[j].toNat : Int))) := hc1
    clear hc1
    have hv0 : ((⟨#[89, 89, 89, 89, 45, 77, 77, 45, 68, 68]⟩ : ByteArray)[0]'(by decide)).toNat = 89 := rfl
    have hv1 : ((⟨#[89, 89, 89, 89, 45, 77, 77, 45, 68, 68]⟩ : ByteArray)[1]'(by decide)).toNat = 89 := rfl
    have hv2 : ((⟨#[89, 89, 89, 89, 45, 77, 77, 45, 68, 68]⟩ : ByteArray)[2]'(by decide)).toNat = 89 := rfl
    have hv3 : ((⟨#[89, 89, 89, 89, 45, 77, 77, 45, 68, 68]⟩ : ByteArray)[3]'(by decide)).toNat = 89 := rfl
    have hv4 : ((⟨#[89, 89, 89, 89, 45, 77, 77, 45, 68, 68]⟩ : ByteArray)[4]'(by decide)).toNat = 45 := rfl
    have hv5 : ((⟨#[89, 89, 89, 89, 45, 77, 77, 45, 68, 68]⟩ : ByteArray)[5]'(by decide)).toNat = 77 := rfl
    have hv6 : ((⟨#[89, 89, 89, 89, 45, 77, 77, 45, 68, 68]⟩ : ByteArray)[6]'(by decide)).toNat = 77 := rfl
    have hv7 : ((⟨#[89, 89, 89, 89, 45, 77, 77, 45, 68, 68]⟩ : ByteArray)[7]'(by decide)).toNat = 45 := rfl
    have hv8 : ((⟨#[89, 89, 89, 89, 45, 77, 77, 45, 68, 68]⟩ : ByteArray)[8]'(by decide)).toNat = 68 := rfl
    have hv9 : ((⟨#[89, 89, 89, 89, 45, 77, 77, 45, 68, 68]⟩ : ByteArray)[9]'(by decide)).toNat = 68 := rfl
    go_enter Tryd.func31, Tryd.ntmps31
    go_wp2_with fail
    clear hcv
    go_loop [11] (fun i => ∃ k : Nat, k ≤ 10 ∧ i = .int .i64 k ∧ Hid (∀ j (hj : j < s.size), j < k → Cv.okAt j s[j] = true)) (fun i => 10 - (intOf i).toNat)
    case atStart => exact ⟨0, by omega, rfl, fun j hj h => absurd h (by omega)⟩
    case round =>
      obtain ⟨k, hk, rfl, HK⟩ := hrel
      by_cases hlt : k < 10
      · have hc := HC.out k (by omega)
        by_cases hd : k = 4 ∨ k = 7
        · by_cases h45 : s[k].toNat = 45
          · have HO : Hid (Cv.okAt k s[k] = true) := by show _ = _; rw [okAt_dash hd]; simpa using h45
            have HK' : Hid (∀ j (hj : j < s.size), j < k + 1 → Cv.okAt j s[j] = true) := by
              intro j hj h
              by_cases e : j = k
              · subst e; exact HO.out
              · exact HK.out j hj (by omega)
            clear HK HO HN HA
            generalize s[k].toNat = c at *
            subst h45
            rcases hd with rfl | rfl
            all_goals
              go_wp2_with fail
              go_round
              case rel => exact ⟨_, by decide, rfl, HK'⟩
              case measure => simp [intOf]
          · have HF : Hid (Cv.form s.data.toList = false) := HN.out k (by omega) (by rw [okAt_dash hd]; simpa using h45)
            clear HK HN HA
            generalize s[k].toNat = c at *
            rcases hd with rfl | rfl
            all_goals
              go_wp2_with fail
              go_ret
              exact ⟨by rw [HF.out]; rfl, hb1⟩
        · by_cases hg : 48 ≤ s[k].toNat ∧ s[k].toNat ≤ 57
          · have HO : Hid (Cv.okAt k s[k] = true) := by show _ = _; rw [okAt_dig hd]; simpa using hg
            have HK' : Hid (∀ j (hj : j < s.size), j < k + 1 → Cv.okAt j s[j] = true) := by
              intro j hj h
              by_cases e : j = k
              · subst e; exact HO.out
              · exact HK.out j hj (by omega)
            clear HK HO HN HA
            generalize s[k].toNat = c at *
            have : k = 0 ∨ k = 1 ∨ k = 2 ∨ k = 3 ∨ k = 5 ∨ k = 6 ∨ k = 8 ∨ k = 9 := by omega
            clear hd
            rcases this with rfl | rfl | rfl | rfl | rfl | rfl | rfl | rfl
            all_goals
              go_wp2_with fail
              go_round
              case rel => exact ⟨_, by decide, rfl, HK'⟩
              case measure => simp [intOf]
          · have HF : Hid (Cv.form s.data.toList = false) := HN.out k (by omega) (by rw [okAt_dig hd]; simpa using hg)
            clear HK HN HA
            generalize s[k].toNat = c at *
            have : k = 0 ∨ k = 1 ∨ k = 2 ∨ k = 3 ∨ k = 5 ∨ k = 6 ∨ k = 8 ∨ k = 9 := by omega
            clear hd
            by_cases hg1 : c < 48
            · clear hg
              rcases this with rfl | rfl | rfl | rfl | rfl | rfl | rfl | rfl
              all_goals
                go_wp2_with fail
                go_ret
                exact ⟨by rw [HF.out]; rfl, hb1⟩
            · have hg2 : 57 < c := by omega
              clear hg
              rcases this with rfl | rfl | rfl | rfl | rfl | rfl | rfl | rfl
              all_goals
                go_wp2_with fail
                go_ret
                exact ⟨by rw [HF.out]; rfl, hb1⟩
      · obtain rfl : k = 10 := by omega
        have HF : Hid (Cv.form s.data.toList = true) := HA.out fun i hi => HK.out i (by omega) (by omega)
        clear HK HN HA
        go_wp2_with fail
        go_ret
        exact ⟨by rw [HF.out]; rfl, hb1⟩
  · have HF : Hid (Cv.form s.data.toList = false) := Cv.form_len (by omega)
    go_enter Tryd.func31, Tryd.ntmps31
    go_wp2_with fail
    go_ret
    exact ⟨by rw [HF.out]; rfl, Below.refl _ _⟩

end Go.Proofs.YtlglkfnihjfnoaaDoor
