/-
  What sameBytes of package lz answers: the longest copy from one distance.
-/
import Derived.Test.YtgdkfaphbbdnbaaLzEq
namespace Go.Proofs.Ytgdkfaphbbdnbaa
open Go.RowKit
set_option maxRecDepth 4000

theorem byte_get (s : ByteArray) (k : Nat) (h : k < s.size) : s.data.toList[k]? = some s[k] := by
  rw [List.getElem?_eq_getElem (by simpa using h)]; rfl
theorem byte_ne (a b : UInt8) (h : ¬ a = b) : ((a.toNat : Int) != (b.toNat : Int)) = true := by
  rw [bne_iff_ne]
  intro e
  exact h (UInt8.toNat_inj.1 (by omega))

set_option maxHeartbeats 1000000 in
theorem same_any (s : ByteArray) (p d : Nat) (w : World) (hs : s.size ≤ 4096) (hp : p ≤ s.size) (hd1 : 1 ≤ d) (hd : d ≤ p) :
    Calls Try.prog 80 #[.string s, .int .i64 p, .int .i64 d] w fun e w' => e = .returned (.int .i64 (Lz.ml s.data.toList p d 255)) ∧ Below w.heap.size w w' := by
  have HL : Hid (s.data.toList.length = s.size) := (Lib.size_eq s).symm
  obtain ⟨q, hq⟩ : ∃ q : Nat, q = min (s.size - p) 255 := ⟨_, rfl⟩
  have HQ : Hid (q = min (s.size - p) 255) := hq
  have hq2 : q ≤ 255 := by omega
  have hq3 : p + q ≤ s.size := by omega
  clear hq
  go_enter Try.func80, Try.ntmps80
  go_upto_region 1 with fail
  go_cut [7] from 9 (fun x wx => x = .int .i64 q ∧ wx = w)
  case first =>
    go_wp2_with fail
    all_goals go_meet
    all_goals exact ⟨int_eq (by have := HQ.out; omega), rfl⟩
  case rest =>
    obtain ⟨rfl, rfl⟩ := hcut
    go_wp2_with fail
    go_loopw [15] (fun i wr => ∃ k : Nat, k ≤ q ∧ i = .int .i64 k ∧ Hid (Lz.M s.data.toList p d k) ∧ Below wc.heap.size wc wr) (fun i _ => q - (intOf i).toNat)
    case atStart => exact ⟨0, by omega, rfl, Lz.M.none (by rw [HL.out]; exact hp), Below.refl _ _⟩
    case round =>
      obtain ⟨k, hk, rfl, hM, hbel⟩ := hrel
      by_cases hlt : k < q
      · have hb1 : p + k < s.size := by omega
        obtain ⟨m, hm⟩ : ∃ m, m = p + k - d := ⟨_, rfl⟩
        have hb2 : m < s.size := by omega
        have G1 := byte_get s (p + k) hb1
        have G2 := byte_get s m hb2
        have i1 : (0 : Int) ≤ (p : Int) + (k : Int) := by omega
        have i2 : (p : Int) + (k : Int) < (s.size : Int) := by omega
        have i3 : (p : Int) + (k : Int) - (d : Int) = (m : Int) := by omega
        have hne : Nonempty (Since wr.heap.size wr) := ⟨⟨wr, Below.refl _ _⟩⟩
        by_cases he : s[p + k] = s[m]
        · have HM : Hid (Lz.M s.data.toList p d (k + 1)) := hM.out.succ (by rw [HL.out]; exact hb1) (by rw [G1, ← hm, G2, he])
          have e1 : ((s[p + k].toNat : Int) != (s[m].toNat : Int)) = false := by rw [he]; simp
          clear G1 G2 hm he
          go_upto_region 5 with fail
          refine wp_region_since (B := wr.heap.size) (W0 := wr) (by kernel_rfl) (by kernel_rfl) (Below.refl _ _) ?_
          repeat (go_big_quiet_step (fail))
          refine wpQuiet_nil ?_
          rintro w7 ⟨U, rfl⟩
          have hU := U.property
          have HB3 : Hid (Below wc.heap.size wc U.val) := hbel.trans (hU.mono hbel.size)
          generalize U.val = w7 at *
          clear hU hbel hne
          go_wp2_with fail
          go_roundw
          case rel => exact ⟨k + 1, by omega, by go_num, HM, HB3.out⟩
          case measure => simp only [intOf]; omega
        · have HK : Hid (k = Lz.ml s.data.toList p d 255) := by
            refine Lz.ml_stop (by rw [HL.out]; exact hp) (by omega) hM.out ?_
            rintro ⟨_, _, h3⟩
            rw [G1, ← hm, G2] at h3
            exact he (by simpa using h3)
          have e1 : ((s[p + k].toNat : Int) != (s[m].toNat : Int)) = true := byte_ne _ _ he
          clear G1 G2 hm he
          go_upto_region 5 with fail
          refine wp_region_since (B := wr.heap.size) (W0 := wr) (by kernel_rfl) (by kernel_rfl) (Below.refl _ _) ?_
          repeat (go_big_quiet_step (fail))
          refine wpQuiet_nil ?_
          rintro w7 ⟨U, rfl⟩
          have hU := U.property
          have HB3 : Hid (Below wc.heap.size wc U.val) := hbel.trans (hU.mono hbel.size)
          generalize U.val = w7 at *
          clear hU hbel hne
          go_wp2_with fail
          go_ret
          exact ⟨by rw [← HK.out]; rfl, HB3.out⟩
      · have HK : Hid (q = Lz.ml s.data.toList p d 255) := by
          refine Lz.ml_stop (by rw [HL.out]; exact hp) hq2 (by rw [show q = k from by omega]; exact hM.out) ?_
          rintro ⟨h1, h2, _⟩
          rw [HL.out] at h2
          have := HQ.out
          omega
        go_wp2_with fail
        go_ret
        exact ⟨by rw [← HK.out]; rfl, hbel⟩
end Go.Proofs.Ytgdkfaphbbdnbaa
