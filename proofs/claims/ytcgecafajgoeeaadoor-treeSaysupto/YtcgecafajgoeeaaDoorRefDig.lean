/-
  What digits of the document's answer (package lumref) answers.
-/
import Derived.Test.YtcgecafajgoeeaaDoorBase
import Derived.Deep.RegionWith
import Derived.Deep.QuietTactic
import Derived.BigQuiet
namespace Go.Proofs.YtcgecafajgoeeaaDoor
open Go.RowKit
set_option maxRecDepth 4000

/-- 'string([]byte{b})' -/
theorem run_str1 (W : World) (a : Addr) (b : Int) (h : W.cell? a = some (.int .u8 b)) (h0 : 0 ≤ b) (h1 : b ≤ 255) (ha : a.spot = none) :
    (convert 41 9 (.slice (some a) 1 1)).run Tryd.prog W = .ok (.string ⟨#[UInt8.ofNat b.toNat]⟩) W := by
  refine run_convert_bytes_back W 41 9 5 a 1 [UInt8.ofNat b.toNat] (by kernel_rfl) (by kernel_rfl) (by kernel_rfl) ?_
  intro j hj
  have hj0 : j = 0 := by simpa using hj
  subst hj0
  obtain ⟨x, y, z⟩ := a
  simp only at ha
  subst ha
  simp [Addr.add, h]
  omega

theorem str_new (b : Int) (h0 : 0 ≤ b) (h1 : b ≤ 255) (W : World) :
    (convert 41 9 (.slice (some ⟨W.heap.size, 0, none⟩) 1 1)).run Tryd.prog (W.alloc (.cells #[.int .u8 b] 5)) = .ok (.string ⟨#[UInt8.ofNat b.toNat]⟩) (W.alloc (.cells #[.int .u8 b] 5)) :=
  run_str1 _ _ b (by simp) h0 h1 rfl
theorem str_new_drew (b : Int) (h0 : 0 ≤ b) (h1 : b ≤ 255) (W : World) :
    (convert 41 9 (.slice (some ⟨W.heap.size, 0, none⟩) 1 1)).run Tryd.prog (W.alloc (.cells #[.int .u8 b] 5)).drew = .ok (.string ⟨#[UInt8.ofNat b.toNat]⟩) (W.alloc (.cells #[.int .u8 b] 5)).drew :=
  run_str1 _ _ b (by simp) h0 h1 rfl
theorem str_kept (w : World) (b : Int) (h0 : 0 ≤ b) (h1 : b ≤ 255) {w' : World} (hb : Below (w.alloc (.cells #[.int .u8 b] 5)).drew.heap.size (w.alloc (.cells #[.int .u8 b] 5)).drew w') :
    (convert 41 9 (.slice (some ⟨w.heap.size, 0, none⟩) 1 1)).run Tryd.prog w' = .ok (.string ⟨#[UInt8.ofNat b.toNat]⟩) w' :=
  run_str1 _ _ b (by rw [hb.cell (by simp)]; simp) h0 h1 rfl

set_option maxHeartbeats 400000 in
theorem digits_any (k : Nat) : ∀ (n : Int) (w : World), 0 ≤ n → n.toNat < 256 ^ k → k ≤ 8 →
    Calls Tryd.prog 34 #[.int .u64 n] w fun e w' => e = .returned (.string ⟨(Nm.digF k n.toNat).toArray⟩) ∧ Below w.heap.size w w' := by
  induction k with
  | zero =>
    intro n w h0 h1 _
    have hn : n = 0 := by simp at h1; omega
    subst hn
    go_enter Tryd.func34, Tryd.ntmps34
    go_wp2_with fail
    go_ret
    exact ⟨rfl, Below.refl _ _⟩
  | succ k ih =>
    intro n w h0 h1 h8
    by_cases hn : n = 0
    · subst hn
      go_enter Tryd.func34, Tryd.ntmps34
      go_wp2_with fail
      go_ret
      exact ⟨rfl, Below.refl _ _⟩
    · have h64 : n ≤ 18446744073709551615 := by
        have : 256 ^ (k + 1) ≤ 256 ^ 8 := Nat.pow_le_pow_right (by omega) h8
        omega
      have hd : Hid (Nm.digF (k + 1) n.toNat = Nm.digF k (n / 256).toNat ++ [UInt8.ofNat (n % 256).toNat]) := by
        show _ = _
        rw [Nm.digF, if_neg (by omega), show (n / 256).toNat = n.toNat / 256 from by omega, show (n % 256).toNat = n.toNat % 256 from by omega]
      have hlt : (n / 256).toNat < 256 ^ k := by rw [Nat.pow_succ] at h1; omega
      have hq : (n == 0) = false := by simpa using hn
      have H1 : Hid ((n / 256).toNat < 256 ^ k) := hlt
      clear h1 hlt hn
      have hw1 : IntKind.u64.wrap (n.tdiv 256) = n / 256 := by rw [Int.tdiv_eq_ediv_of_nonneg h0]; exact wrap_u64 _ (by omega) (by omega)
      have hw2 : n.tmod 256 = n % 256 := Int.tmod_eq_emod_of_nonneg h0
      have hw3 : IntKind.u8.wrap (n % 256) = n % 256 := by simp only [IntKind.wrap, IntKind.bits, IntKind.signed]; simp
      have m0 : 0 ≤ n % 256 := by omega
      have m1 : n % 256 ≤ 255 := by omega
      have hr1 := str_new (n % 256) m0 m1
      have hr2 := str_new_drew (n % 256) m0 m1
      have hcat : ∀ W : World, (Op.stringOp .add ⟨(Nm.digF k (n / 256).toNat).toArray⟩ ⟨#[UInt8.ofNat (n % 256).toNat]⟩).run Tryd.prog W = .ok (.string ⟨(Nm.digF k (n / 256).toNat ++ [UInt8.ofNat (n % 256).toNat]).toArray⟩) W := fun W =>
        run_string_add_lists W _ [UInt8.ofNat (n % 256).toNat] (by have := Nm.digF_length_le k (n / 256).toNat; omega) (by simp)
      go_enter Tryd.func34, Tryd.ntmps34
      go_wp2_with fail
      go_region_with (go_at_call 34; refine (ih (n / 256) _ (by omega) H1.out (by omega)).mono ?_; rintro e w' ⟨rfl, hb⟩; try (have hr3 := str_kept w (n % 256) m0 m1 hb))
      all_goals
        clear hr1 hr2 hcat
        go_wp2_with fail
        go_ret
        refine ⟨by rw [hd.out]; rfl, ?_⟩
        first
          | (have h := hb.size; exact ((Below.refl _ _).drew.trans hb).alloc (by simpa using h) _)
          | exact (((Below.refl _ _).alloc (Nat.le_refl _) _).drew).trans (hb.mono (by simp))
end Go.Proofs.YtcgecafajgoeeaaDoor
