/-
  What GuardErr and ShardOf of the document's answer (package lumref) answer.
-/
import Derived.Test.YtoeohnknpbdgdaaShGuard
namespace Go.Proofs.Ytoeohnknpbdgdaa
open Go.RowKit
set_option maxRecDepth 4000

set_option maxHeartbeats 2000000 in
theorem rguardErr_any (v : Value) (P : List ByteArray) (p : Int) (w : World) (h : Tx w v P) (hl : P.length ≤ 140737488351232) :
    Calls Try.prog 8 #[v, .int .i64 p] w fun e w' => e = .returned (.int .i64 (gErr P p : Nat)) ∧ w' = w := by
  obtain ⟨a, c, rfl⟩ := h.slice
  by_cases hw : 1 ≤ P.length ∧ P.length ≤ 16 ∧ 1 ≤ p ∧ p ≤ 8
  · obtain ⟨g1, g2, g3, g4⟩ := hw
    have HE : Hid (gErr P p = sizes P) := by
      show _ = _
      unfold gErr
      rw [show wi P.length 16 = true from decide_eq_true (by omega), show wi p 8 = true from decide_eq_true (by omega)]
      rfl
    have HS : Hid (szs (P.getD 0 ByteArray.empty).size (P.drop 0) = sizes P) := rfl
    have HX : Hid (Tx w (.slice a P.length c) P) := h
    clear h
    obtain ⟨N, hN⟩ : ∃ N, N = P.length := ⟨_, rfl⟩
    have HN : Hid (N = P.length) := hN
    rw [← hN] at HX g1 g2 ⊢
    clear hN hl
    rw [HE.out]
    generalize sizes P = Z at *
    have q1 : ((N : Int) == 0) = false := by rw [beq_eq_false_iff_ne]; omega
    go_enter Try.func8, Try.ntmps8
    go_wp2_with fail
    go_loop [25] (fun i => ∃ k : Nat, k ≤ N ∧ i = .int .i64 k ∧ Hid (szs (P.getD 0 ByteArray.empty).size (P.drop k) = Z)) (fun i => N - (intOf i).toNat)
    case atStart => exact ⟨0, by omega, rfl, HS⟩
    case round =>
      clear HS
      obtain ⟨k, hk, rfl, HS⟩ := hrel
      by_cases hlt : k < N
      · obtain ⟨bk, o, rfl, hbk, c0⟩ := HX.out.get k (by rw [← HN.out]; omega)
        obtain ⟨bk2, o2, e2, _, c1⟩ := HX.out.zero (by rw [← HN.out]; omega)
        simp at e2
        obtain ⟨rfl, rfl⟩ := e2
        have HD : Hid (Z = if 4096 < (P.getD k ByteArray.empty).size then 2 else if (P.getD k ByteArray.empty).size ≠ (P.getD 0 ByteArray.empty).size then 4 else szs (P.getD 0 ByteArray.empty).size (P.drop (k + 1))) := by
          show _ = _
          rw [← szs_drop _ _ _ (by rw [← HN.out]; omega)]; exact HS.out.symm
        generalize P.getD k ByteArray.empty = s at *
        generalize P.getD 0 ByteArray.empty = t at *
        clear HS
        by_cases h1 : 4096 < s.size
        · have HZ : Hid (Z = 2) := by have := HD.out; rwa [if_pos h1] at this
          go_wp2_with fail
          go_ret
          exact ⟨by rw [HZ.out]; rfl, rfl⟩
        · by_cases h2 : s.size = t.size
          · have hq : ((s.size : Int) != (t.size : Int)) = false := by rw [bne_eq_false_iff_eq]; omega
            have HZ : Hid (szs t.size (P.drop (k + 1)) = Z) := by have := HD.out; rw [if_neg h1, if_neg (by omega)] at this; exact this.symm
            clear h2 HD
            go_wp2_with fail
            go_round
            case rel => exact ⟨k + 1, by omega, by go_num, HZ⟩
            case measure => simp only [intOf]; omega
          · have hq : ((s.size : Int) != (t.size : Int)) = true := by rw [bne_iff_ne]; omega
            have HZ : Hid (Z = 4) := by have := HD.out; rwa [if_neg h1, if_pos h2] at this
            clear h2 HD
            go_wp2_with fail
            go_ret
            exact ⟨by rw [HZ.out]; rfl, rfl⟩
      · have HZ : Hid (Z = 0) := by
          have := HS.out
          rw [List.drop_eq_nil_of_le (by rw [← HN.out]; omega)] at this
          exact this.symm
        obtain rfl : k = N := by omega
        go_wp2_with fail
        go_ret
        exact ⟨by rw [HZ.out]; rfl, rfl⟩
  · have HE : Hid (gErr P p = 1) := by
      show _ = _
      unfold gErr wi
      rw [if_neg]
      simp
      omega
    clear h
    generalize P.length = N at *
    rw [HE.out]
    clear HE
    by_cases g1 : N = 0
    · subst g1
      go_enter Try.func8, Try.ntmps8
      go_wp2_with fail
      go_ret
      exact ⟨rfl, rfl⟩
    · have q1 : ((N : Int) == 0) = false := by rw [beq_eq_false_iff_ne]; omega
      by_cases g2 : 16 < N
      · have q2 : decide ((16 : Int) < (N : Int)) = true := decide_eq_true (by omega)
        clear hw
        go_enter Try.func8, Try.ntmps8
        go_wp2_with fail
        go_ret
        exact ⟨rfl, rfl⟩
      · have q2 : decide ((16 : Int) < (N : Int)) = false := decide_eq_false (by omega)
        by_cases g3 : p < 1
        · clear hw
          go_enter Try.func8, Try.ntmps8
          go_wp2_with fail
          go_ret
          exact ⟨rfl, rfl⟩
        · have g4 : 8 < p := by omega
          clear hw
          go_enter Try.func8, Try.ntmps8
          go_wp2_with fail
          go_ret
          exact ⟨rfl, rfl⟩

/-- P25: shard k of the parts -/
def shard (P : List ByteArray) (k : Nat) : ByteArray := if k < P.length then P.getD k ByteArray.empty else Fd.guard P (k - P.length)

theorem rshard_part (v : Value) (P : List ByteArray) (k : Nat) (w : World) (h : Tx w v P) (hk : k < P.length) :
    Calls Try.prog 9 #[v, .int .i64 k] w fun e w' => e = .returned (.string (shard P k)) ∧ w' = w := by
  obtain ⟨a, c, rfl⟩ := h.slice
  have HE : Hid (shard P k = P.getD k ByteArray.empty) := if_pos hk
  rw [HE.out]
  obtain ⟨bk, o, rfl, hbk, c0⟩ := h.get k hk
  generalize P.getD k ByteArray.empty = s at *
  clear h HE
  generalize P.length = N at *
  go_enter Try.func9, Try.ntmps9
  go_wp2_with fail
  go_ret
  exact ⟨rfl, rfl⟩

set_option maxHeartbeats 4000000 in
theorem rshard_guard (v : Value) (P : List ByteArray) (j m : Nat) (w : World) (h : Tx w v P) (hP : 1 ≤ P.length) (hP2 : P.length ≤ 16) (hj : j < 8) (hm : ∀ s ∈ P, s.size = m) (hm2 : m ≤ 4096) :
    Calls Try.prog 9 #[v, .int .i64 ((P.length + j : Nat) : Int)] w fun e w' => e = .returned (.string (Fd.guard P j)) ∧ Below w.heap.size w w' := by
  obtain ⟨i0, hi, hz0, hz1, hz2⟩ := info_parts info_u8
  obtain ⟨a, c, rfl⟩ := h.slice
  have HG : Hid (Fd.guard P j = bn (Fd.gd P m j P.length)) := by
    show _ = _
    rw [Fd.guard, hm _ (mem_getD (i := 0) (by omega))]
  have HBs : Hid (Fd.Bs (Fd.gd P m j P.length)) := Fd.gd_bs P m j _
  have HM : Hid (∀ s ∈ P, s.size = m) := hm
  have HX : Hid (Tx w (.slice a P.length c) P) := h
  obtain ⟨bk, o, rfl, hbk, c0⟩ := h.zero (by omega)
  have hs0 := hm _ (mem_getD (P := P) (i := 0) (by omega))
  generalize P.getD 0 ByteArray.empty = s0 at *
  obtain ⟨N, hN⟩ : ∃ N, N = P.length := ⟨_, rfl⟩
  have HN : Hid (N = P.length) := hN
  rw [← hN] at HX HG HBs hP hP2 ⊢
  clear hN hm h
  subst hs0
  obtain ⟨K, hK⟩ : ∃ K, K = N + j := ⟨_, rfl⟩
  rw [← hK]
  have hKN : ¬ K < N := by omega
  have hKN' : decide ((K : Int) < (N : Int)) = false := decide_eq_false (by omega)
  have hK8 : (128 : Int) + (K : Int) - (N : Int) = 128 + (j : Int) := by omega
  have hK16 : K < 24 := by omega
  clear hK
  go_enter Try.func9, Try.ntmps9
  go_wp2_with (at_make; refine wpList_make_full _ rfl (.tmp 23) (.tmp 23) 52 rfl w.heap.size 5 i0 (.int .u8 0) 1 Try.underlying52 hi hz0 hz1 .i64 .i64 _ _ s0.size rfl rfl rfl rfl (by rw [hz2]; omega) (by unfold maxLen; omega) (Nat.le_refl _) ?_; intro w2 hown hgrow)
  have HB1 : Hid (Below w.heap.size w w2) := (Below.refl _ _).grown hgrow (Nat.le_refl _) (fun k hk => by cases hk)
  have HO : Hid (Ob w2 w.heap.size (.slice (some ⟨w.heap.size, 0, none⟩) s0.size s0.size) (Fd.gd P s0.size j 0)) := made_ob hown
  clear hown hgrow hi hz0 hz1 hz2 c0
  go_wp2_with fail
  go_loopw [27] (fun i wr => ∃ k : Nat, k ≤ N ∧ i = .int .i64 k ∧ Hid (Ob wr w.heap.size (.slice (some ⟨w.heap.size, 0, none⟩) s0.size s0.size) (Fd.gd P s0.size j k)) ∧ Hid (Below w.heap.size w wr)) (fun i _ => N - (intOf i).toNat)
  case atStart => exact ⟨0, by omega, rfl, HO, HB1⟩
  case round =>
    clear HO HB1
    obtain ⟨k, hk, rfl, HO, HB⟩ := hrel
    by_cases hlt : k < N
    · obtain ⟨bk2, o2, e2, hbk2, c0⟩ := (HX.out.below HB.out).get k (by rw [← HN.out]; omega)
      simp at e2
      obtain ⟨rfl, rfl⟩ := e2
      have hsz := HM.out _ (mem_getD (P := P) (i := k) (by rw [← HN.out]; omega))
      have hlen := Fd.gd_length HM.out j k (by rw [← HN.out]; omega)
      have hx : bits .xor .u8 (128 + (j : Int)) (k : Int) = (((128 + j) ^^^ k : Nat) : Int) := u8_xor_nat (128 + j) k (by omega) (by omega)
      have hxl : (128 + j) ^^^ k < 256 := Fd.xor_lt8 (by omega) (by omega)
      have hwt : ∀ W, Calls Try.prog 27 #[.int .u8 ((128 + j) ^^^ k : Nat)] W fun e w' => e = .returned (.int .u8 (Fd.wt j k : Nat)) ∧ w' = W := fun W => rinv_any _ W hxl
      have HW : Hid (Fd.wt j k < 256) := Fd.wt_lt (by omega) (by omega)
      have HA : Hid (Fd.addTo (Fd.gd P s0.size j k) (nb (P.getD k ByteArray.empty)) (Fd.wt j k) s0.size = Fd.gd P s0.size j (k + 1)) := by
        show _ = _
        have := Fd.addTo_all (s := Fd.gd P s0.size j k) (l := nb (P.getD k ByteArray.empty)) (by rw [hlen, nb_length, hsz]) (Fd.wt j k)
        rw [hlen] at this
        rw [this]; rfl
      have HO0 : Hid (Ob wr w.heap.size (.slice (some ⟨w.heap.size, 0, none⟩) s0.size s0.size) (Fd.addTo (Fd.gd P s0.size j k) (nb (P.getD k ByteArray.empty)) (Fd.wt j k) 0)) := by rw [Fd.addTo_zero]; exact HO.out
      have HLen : Hid ((Fd.gd P s0.size j k).length = s0.size ∧ Fd.Bs (Fd.gd P s0.size j k)) := ⟨hlen, Fd.gd_bs P _ j k⟩
      have hqk : (k : Int) < 256 := by omega
      generalize (128 + j) ^^^ k = X at *
      generalize Fd.wt j k = wv at *
      generalize P.getD k ByteArray.empty = sk at *
      generalize Fd.gd P s0.size j k = G at *
      clear HO hlen
      go_wp2_with fail
      refine (hwt _).mono ?_
      rintro e u ⟨rfl, hu⟩
      obtain rfl := hu.symm
      clear hu hwt hx hxl c0
      go_wp2_with fail
      go_loopw [43] (fun i wq => ∃ t : Nat, t ≤ s0.size ∧ i = .int .i64 t ∧ Hid (Ob wq w.heap.size (.slice (some ⟨w.heap.size, 0, none⟩) s0.size s0.size) (Fd.addTo G (nb sk) wv t)) ∧ Hid (Below w.heap.size w wq)) (fun i _ => s0.size - (intOf i).toNat)
      case atStart => exact ⟨0, by omega, rfl, HO0, HB⟩
      case round =>
        clear HO0 HB
        obtain ⟨t, ht, rfl, HO, HB⟩ := hrel
        by_cases hlt2 : t < s0.size
        · have htk : t < sk.size := by omega
          have c1 := HO.out.at_ t (by rw [Fd.addTo_length, HLen.out.1]; omega)
          rw [Fd.addTo_get (by rw [HLen.out.1]; omega)] at c1
          have f1 := HO.out.frozen t (by rw [Fd.addTo_length, HLen.out.1]; omega)
          have b1 := Fd.bs_get HLen.out.2 t
          have b2 : sk[t].toNat < 256 := sk[t].toNat_lt
          have hx := u8_xor_nat _ _ b1 (Fd.M_lt HW.out sk[t].toNat)
          have hM : ∀ W, Calls Try.prog 28 #[.int .u8 wv, .int .u8 (sk[t].toNat : Nat)] W fun e w' => e = .returned (.int .u8 (Fd.M wv sk[t].toNat : Nat)) ∧ w' = W := fun W => rmul_any _ _ W HW.out b2
          have HO2 : Hid (∀ W, W = (wr.setCell ⟨w.heap.size, t, none⟩ (.int .u8 ((G.getD t 0 ^^^ Fd.M wv sk[t].toNat : Nat) : Int))).drew → Ob W w.heap.size (.slice (some ⟨w.heap.size, 0, none⟩) s0.size s0.size) (Fd.addTo G (nb sk) wv (t + 1)) ∧ Below w.heap.size w W) := by
            rintro W rfl
            refine ⟨?_, (HB.out.setCell (Nat.le_refl _) _).drew⟩
            rw [Fd.addTo_set, nb_get sk t htk, Fd.M_comm b2 HW.out]
            exact (HO.out.set t _ (by rw [Fd.addTo_length, HLen.out.1]; omega)).below (Below.refl _ _).drew
          generalize G.getD t 0 = x at *
          generalize Fd.M wv sk[t].toNat = z at *
          clear HO HB b1
          go_wp2_with fail
          go_region_with (refine (hM _).mono ?_; rintro e u ⟨rfl, rfl⟩)
          all_goals
            go_wp2_with fail
            go_roundw
            case rel => exact ⟨t + 1, by omega, by go_num, (HO2.out _ rfl).1, (HO2.out _ rfl).2⟩
            case measure => simp only [intOf]; omega
        · obtain rfl : t = s0.size := by omega
          rw [HA.out] at HO
          clear HA HLen HW
          go_wp2_with fail
          go_roundw
          case rel => exact ⟨k + 1, by omega, by go_num, HO, HB⟩
          case measure => simp only [intOf]; omega
    · obtain rfl : k = N := by omega
      have hstr := HO.out.str HBs.out
      go_wp2_with fail
      go_ret
      exact ⟨by rw [HG.out]; rfl, HB.out⟩
end Go.Proofs.Ytoeohnknpbdgdaa
