/-
  The walk of lumkeep.MixApart over what the calls answer: it returns true.
-/
import Derived.Test.YtkeckdfjgnacnaaMixApartMath2
import Derived.Test.YtkeckdfjgnacnaaRest
import Derived.Test.YtkeckdfjgnacnaaBytes
import Derived.Test.YtkeckdfjgnacnaaArrEq
import Derived.Test.YtkeckdfjgnacnaaQuietSince
namespace Go.Proofs.Ytkeckdfjgnacnaa
open Go.RowKit

theorem xor_cell (bb : UInt8) (v k : Nat) : bits .xor .u8 (bb.toNat : Int) ((v : Int) / 2 ^ (8 * k) % 256) = ((bb ^^^ UInt8.ofNat (v / 256 ^ k)).toNat : Int) := by
  have hb := bb.toNat_lt
  rw [show (v : Int) / 2 ^ (8 * k) % 256 = ((v / 256 ^ k % 256 : Nat) : Int) from by
    rw [show (2 : Int) ^ (8 * k) = ((256 ^ k : Nat) : Int) from by rw [Int.pow_mul]; simp]; simp, u8_xor_nat _ _ (by omega) (by omega), UInt8.toNat_xor, UInt8.toNat_ofNat']

set_option maxHeartbeats 1000000 in
theorem mixApart_of (n1 n2 n3 : Nat) (N : ByteArray → Nat) (X : ByteArray → List UInt8) (x1 x2 x3 : List UInt8) (s : ByteArray) (at' : Int) (v : Nat) (w : World) (hs : s.size ≤ 140737488351232) (h0 : 0 < s.size)
    (hn : n1 ≠ n2) (hxx : x1 ≠ x2) (l1 : x1.length = 8) (l2 : x2.length = 8) (l3 : x3.length = 8) (lX : ∀ t, (X t).length = 8)
    (hN : N s = n3) (hX : X s = x3) (hap : ∀ r m, m ≤ 8 → N ⟨(Mx.mixed s.data.toList (8 * r) m v).toArray⟩ = n3 → Mx.mixed s.data.toList (8 * r) m v = s.data.toList)
    (haX : ∀ r m, m ≤ 8 → X ⟨(Mx.mixed s.data.toList (8 * r) m v).toArray⟩ = x3 → Mx.mixed s.data.toList (8 * r) m v = s.data.toList)
    (eN : ∀ t : ByteArray, t.size = s.size → ∀ V, Calls Try.prog 12 #[.string t] V fun e w' => e = .returned (.int .u64 (N t : Nat)) ∧ Below V.heap.size V w')
    (eX : ∀ t : ByteArray, t.size = s.size → ∀ V, Calls Try.prog 13 #[.string t] V fun e w' => e = .returned (.agg ((X t).map B).toArray) ∧ Below V.heap.size V w')
    (e1 : ∀ V, Calls Try.prog 12 #[.string ⟨#[97]⟩] V fun e w' => e = .returned (.int .u64 n1) ∧ Below V.heap.size V w')
    (e2 : ∀ V, Calls Try.prog 12 #[.string ⟨#[98]⟩] V fun e w' => e = .returned (.int .u64 n2) ∧ Below V.heap.size V w')
    (e3 : ∀ V, Calls Try.prog 13 #[.string ⟨#[97]⟩] V fun e w' => e = .returned (.agg (x1.map B).toArray) ∧ Below V.heap.size V w')
    (e4 : ∀ V, Calls Try.prog 13 #[.string ⟨#[98]⟩] V fun e w' => e = .returned (.agg (x2.map B).toArray) ∧ Below V.heap.size V w')
    (e5 : ∀ V, Calls Try.prog 12 #[.string s] V fun e w' => e = .returned (.int .u64 n3) ∧ Below V.heap.size V w')
    (e6 : ∀ V, Calls Try.prog 13 #[.string s] V fun e w' => e = .returned (.agg (x3.map B).toArray) ∧ Below V.heap.size V w') :
    Calls Try.prog 5 #[.string s, .int .i64 at', .int .u64 v] w fun e w' => e = .returned (.bool true) ∧ Below w.heap.size w w' := by
  have q1 : ((n1 : Int) == (n2 : Int)) = false := by rw [beq_eq_false_iff_ne]; omega
  have q2 : ∀ V, (Op.equalIn 10000 30 (.agg (x1.map B).toArray) (.agg (x2.map B).toArray)).run Try.prog V = .ok false V := fun V => by
    rw [id_eq V x1 x2 l1 l2, beq_eq_false_iff_ne.2 hxx]
  have q3 : s.toList.isEmpty = false := by
    rw [Lib.toList_data, List.isEmpty_eq_false_iff]; intro e
    have : s.data.toList.length = 0 := by rw [e]; rfl
    rw [← Lib.size_eq] at this; omega
  generalize (x1.map B).toArray = D1 at *
  generalize (x2.map B).toArray = D2 at *
  go_enter Try.func5, Try.ntmps5
  go_wp2_with fail
  refine (e1 _).mono ?_
  rintro e w1 ⟨rfl, hB1⟩
  go_wp2_with fail
  refine (e2 _).mono ?_
  rintro e w2 ⟨rfl, hb2⟩
  have hB2 := hB1.trans (hb2.mono hB1.size)
  clear hb2 hB1
  go_wp2_with fail
  refine (e3 _).mono ?_
  rintro e w3 ⟨rfl, hb3⟩
  have hB3 := hB2.trans (hb3.mono hB2.size)
  clear hb3 hB2
  go_wp2_with fail
  refine (e4 _).mono ?_
  rintro e w4 ⟨rfl, hb4⟩
  have hB4 := hB3.trans (hb4.mono hB3.size)
  clear hb4 hB3
  clear e1 e2 e3 e4
  have hr := rest_any at' ((s.size + 7) / 8) w4 (by omega) (by omega)
  rw [show (((s.size + 7) / 8 : Nat) : Int) = ((s.size : Int) + 7) / 8 from by omega] at hr
  go_wp2_with fail
  refine hr.mono ?_
  rintro e w5 ⟨⟨r, hr1, rfl⟩, rfl⟩
  clear hr
  have hcv := run_bytes_of_string (P := Try.prog) w5 9 35 5 s (by kernel_rfl) (by kernel_rfl) (by kernel_rfl)
  have H1 : Hid (∀ j, j < s.size → (w5.alloc (.cells (bytesRow s (grownCap w5 s.size 0 5)) 5 ((bytesRow s (grownCap w5 s.size 0 5)).size, (bytesRow s (grownCap w5 s.size 0 5)).size + 1))).drew.cell? ⟨w5.heap.size, j, none⟩ = some (.int .u8 (mixAt s.data.toList (8 * r) 0 v j))) := by
    intro j hj
    rw [mixAt_get _ _ _ _ _ (by rw [← Lib.size_eq]; exact hj), if_neg (by omega)]
    exact bytes_cell w5 s _ _ j hj
  have H2 : Hid (∀ j, j < s.size → (w5.alloc (.cells (bytesRow s (grownCap w5 s.size 0 5)) 5 ((bytesRow s (grownCap w5 s.size 0 5)).size, (bytesRow s (grownCap w5 s.size 0 5)).size + 1))).drew.frozen? ⟨w5.heap.size, j, none⟩ = false) := by
    intro j hj
    exact bytes_free w5 s _ j hj
  generalize bytesRow s (grownCap w5 s.size 0 5) = C at *
  generalize grownCap w5 s.size 0 5 = cap at *
  have HB5 : Hid (Below w.heap.size w (w5.alloc (.cells C 5 (C.size, C.size + 1))).drew) := (hB4.alloc hB4.size _).drew
  have hg5 := hB4.size
  clear hB4
  have hr8 : 8 * r < s.size := by omega
  clear hr1 q1 q2 q3 hn hxx l1 l2
  by_cases hm8 : s.size - 8 * r < 8
  · obtain ⟨m, hm⟩ : ∃ m, m = s.size - 8 * r := ⟨_, rfl⟩
    have hmI : (s.size : Int) - 8 * (r : Int) = (m : Int) := by omega
    have hmr : 8 * r + m ≤ s.size := by omega
    have hml : (m : Int) < 8 := by omega
    clear hm hm8
    go_wp2_with fail
    go_loopw [34] (fun i wr => ∃ k : Nat, k ≤ m ∧ i = .int .i64 k ∧ Hid (∀ j, j < s.size → wr.cell? ⟨w5.heap.size, j, none⟩ = some (.int .u8 (mixAt s.data.toList (8 * r) k v j))) ∧
        Hid (∀ j, j < s.size → wr.frozen? ⟨w5.heap.size, j, none⟩ = false) ∧ w5.heap.size < wr.heap.size ∧ Hid (Below w.heap.size w wr)) (fun i _ => m - (intOf i).toNat)
    case atStart => exact ⟨0, Nat.zero_le _, rfl, H1, H2, by simp, HB5⟩
    case round =>
      obtain ⟨k, hk, rfl, hc, hf, hgw, hb⟩ := hrel
      clear H1 H2 HB5 hcv
      by_cases hlt : k < m
      · have hck := hc.out (8 * r + k) (by omega)
        have hl : 8 * r + k < s.data.toList.length := by rw [← Lib.size_eq]; omega
        rw [mixAt_get _ _ _ _ _ hl, if_neg (by omega)] at hck
        generalize hbb : s.data.toList[8 * r + k] = bb at *
        have hfk := hf.out (8 * r + k) (by omega)
        have HS : Hid (∀ j, j < s.size → (wr.setCell ⟨w5.heap.size, 8 * r + k, none⟩ (.int .u8 (bits .xor .u8 (bb.toNat : Int) ((v : Int) / 2 ^ (8 * k) % 256)))).cell? ⟨w5.heap.size, j, none⟩ = some (.int .u8 (mixAt s.data.toList (8 * r) (k + 1) v j))) := by
          intro j hj
          refine mix_step hl (by rw [xor_cell, hbb]) (fun j hj => hc.out j (by rw [Lib.size_eq]; exact hj)) j (by rw [← Lib.size_eq]; exact hj)
        clear hbb
        go_wp2_with fail
        go_region
        go_wp2_with fail
        go_roundw
        case rel => exact ⟨k + 1, by omega, by go_num, HS, fun j hj => by simpa using hf.out j hj, by simpa using hgw, (hb.out.setCell hg5 _).drew⟩
        case measure => simp only [intOf]; omega
      · obtain ⟨T, hT⟩ : ∃ T : ByteArray, T = ⟨(Mx.mixed s.data.toList (8 * r) k v).toArray⟩ := ⟨_, rfl⟩
        have hst : ∀ V : Since wr.heap.size wr, (convert 35 9 (.slice (some ⟨w5.heap.size, 0, none⟩) s.size cap)).run Try.prog V.val = .ok (.string T) V.val := by
          rintro ⟨V, hV⟩
          have := mix_back s.data.toList (8 * r) k v w5.heap.size cap V (fun j hj => (hV.cell (p := ⟨w5.heap.size, j, none⟩) hgw).trans (hc.out j (by rw [Lib.size_eq]; exact hj)))
          rw [← Lib.size_eq, ← hT] at this
          exact this
        have hTs : T.size = s.size := by rw [hT, Lib.size_eq, Lib.size_eq]; exact Mx.mixed_length _ _ _ _
        have hne : Nonempty (Since wr.heap.size wr) := ⟨⟨wr, Below.refl _ _⟩⟩
        have hb' := hb.out
        go_wp2_with fail
        by_cases hsT : s = T
        · have q1 : ((n3 : Int) == (N T : Int)) = true := by rw [← hsT, hN]; exact beq_self_eq_true _
          have q2 : (s.toList == T.toList) = true := by rw [← hsT]; exact beq_self_eq_true _
          have q3 : ∀ V, (Op.equalIn 10000 30 (.agg (x3.map B).toArray) (.agg ((X T).map B).toArray)).run Try.prog V = .ok true V := fun V => by
            rw [id_eq V x3 (X T) l3 (lX T), ← hsT, hX, beq_self_eq_true]
          clear hsT hT
          refine wp_region_since (B := wr.heap.size) (W0 := wr) (by kernel_rfl) (by kernel_rfl) (Below.refl _ _) ?_
          repeat (go_big_quiet_step (fail))
          go_big_quiet_step (exact quiet_since _ (e5 _))
          repeat (go_big_quiet_step (fail))
          go_big_quiet_step (exact quiet_since _ (eN T hTs _))
          repeat (go_big_quiet_step (fail))
          go_big_quiet_step (exact quiet_since _ (e6 _))
          repeat (go_big_quiet_step (fail))
          go_big_quiet_step (exact quiet_since _ (eX T hTs _))
          repeat (go_big_quiet_step (fail))
          refine wpQuiet_nil ?_
          rintro w2 ⟨Y, rfl⟩
          have hY := Y.property
          go_wp2_with fail
          go_ret
          exact ⟨rfl, hb'.trans (hY.mono hb'.size)⟩
        · have hsl : Mx.mixed s.data.toList (8 * r) k v ≠ s.data.toList := fun h => hsT (by rw [hT, h])
          have q1 : ((n3 : Int) == (N T : Int)) = false := by
            rw [beq_eq_false_iff_ne]
            intro h
            exact hsl (hap r k (by omega) (by rw [← hT]; omega))
          have q2 : (s.toList == T.toList) = false := by
            rw [beq_eq_false_iff_ne]
            intro h
            rw [Lib.toList_data, Lib.toList_data] at h
            exact hsT (ByteArray.ext (Array.toList_inj.1 h))
          have q3 : ∀ V, (Op.equalIn 10000 30 (.agg (x3.map B).toArray) (.agg ((X T).map B).toArray)).run Try.prog V = .ok false V := fun V => by
            rw [id_eq V x3 (X T) l3 (lX T), beq_eq_false_iff_ne.2]
            intro h
            exact hsl (haX r k (by omega) (by rw [← hT]; exact h.symm))
          clear hsT hT hsl
          refine wp_region_since (B := wr.heap.size) (W0 := wr) (by kernel_rfl) (by kernel_rfl) (Below.refl _ _) ?_
          repeat (go_big_quiet_step (fail))
          go_big_quiet_step (exact quiet_since _ (e5 _))
          repeat (go_big_quiet_step (fail))
          go_big_quiet_step (exact quiet_since _ (eN T hTs _))
          repeat (go_big_quiet_step (fail))
          go_big_quiet_step (exact quiet_since _ (e6 _))
          repeat (go_big_quiet_step (fail))
          go_big_quiet_step (exact quiet_since _ (eX T hTs _))
          repeat (go_big_quiet_step (fail))
          refine wpQuiet_nil ?_
          rintro w2 ⟨Y, rfl⟩
          have hY := Y.property
          go_wp2_with fail
          go_ret
          exact ⟨rfl, hb'.trans (hY.mono hb'.size)⟩
  · have hmr : 8 * r + 8 ≤ s.size := by omega
    have hml : (8 : Int) ≤ (s.size : Int) - 8 * (r : Int) := by omega
    clear hm8
    go_wp2_with fail
    go_loopw [34] (fun i wr => ∃ k : Nat, k ≤ 8 ∧ i = .int .i64 k ∧ Hid (∀ j, j < s.size → wr.cell? ⟨w5.heap.size, j, none⟩ = some (.int .u8 (mixAt s.data.toList (8 * r) k v j))) ∧
        Hid (∀ j, j < s.size → wr.frozen? ⟨w5.heap.size, j, none⟩ = false) ∧ w5.heap.size < wr.heap.size ∧ Hid (Below w.heap.size w wr)) (fun i _ => 8 - (intOf i).toNat)
    case atStart => exact ⟨0, Nat.zero_le _, rfl, H1, H2, by simp, HB5⟩
    case round =>
      obtain ⟨k, hk, rfl, hc, hf, hgw, hb⟩ := hrel
      clear H1 H2 HB5 hcv
      by_cases hlt : k < 8
      · have hck := hc.out (8 * r + k) (by omega)
        have hl : 8 * r + k < s.data.toList.length := by rw [← Lib.size_eq]; omega
        rw [mixAt_get _ _ _ _ _ hl, if_neg (by omega)] at hck
        generalize hbb : s.data.toList[8 * r + k] = bb at *
        have hfk := hf.out (8 * r + k) (by omega)
        have HS : Hid (∀ j, j < s.size → (wr.setCell ⟨w5.heap.size, 8 * r + k, none⟩ (.int .u8 (bits .xor .u8 (bb.toNat : Int) ((v : Int) / 2 ^ (8 * k) % 256)))).cell? ⟨w5.heap.size, j, none⟩ = some (.int .u8 (mixAt s.data.toList (8 * r) (k + 1) v j))) := by
          intro j hj
          refine mix_step hl (by rw [xor_cell, hbb]) (fun j hj => hc.out j (by rw [Lib.size_eq]; exact hj)) j (by rw [← Lib.size_eq]; exact hj)
        clear hbb
        go_wp2_with fail
        go_region
        go_wp2_with fail
        go_roundw
        case rel => exact ⟨k + 1, by omega, by go_num, HS, fun j hj => by simpa using hf.out j hj, by simpa using hgw, (hb.out.setCell hg5 _).drew⟩
        case measure => simp only [intOf]; omega
      · obtain ⟨T, hT⟩ : ∃ T : ByteArray, T = ⟨(Mx.mixed s.data.toList (8 * r) k v).toArray⟩ := ⟨_, rfl⟩
        have hst : ∀ V : Since wr.heap.size wr, (convert 35 9 (.slice (some ⟨w5.heap.size, 0, none⟩) s.size cap)).run Try.prog V.val = .ok (.string T) V.val := by
          rintro ⟨V, hV⟩
          have := mix_back s.data.toList (8 * r) k v w5.heap.size cap V (fun j hj => (hV.cell (p := ⟨w5.heap.size, j, none⟩) hgw).trans (hc.out j (by rw [Lib.size_eq]; exact hj)))
          rw [← Lib.size_eq, ← hT] at this
          exact this
        have hTs : T.size = s.size := by rw [hT, Lib.size_eq, Lib.size_eq]; exact Mx.mixed_length _ _ _ _
        have hne : Nonempty (Since wr.heap.size wr) := ⟨⟨wr, Below.refl _ _⟩⟩
        have hb' := hb.out
        go_wp2_with fail
        by_cases hsT : s = T
        · have q1 : ((n3 : Int) == (N T : Int)) = true := by rw [← hsT, hN]; exact beq_self_eq_true _
          have q2 : (s.toList == T.toList) = true := by rw [← hsT]; exact beq_self_eq_true _
          have q3 : ∀ V, (Op.equalIn 10000 30 (.agg (x3.map B).toArray) (.agg ((X T).map B).toArray)).run Try.prog V = .ok true V := fun V => by
            rw [id_eq V x3 (X T) l3 (lX T), ← hsT, hX, beq_self_eq_true]
          clear hsT hT
          refine wp_region_since (B := wr.heap.size) (W0 := wr) (by kernel_rfl) (by kernel_rfl) (Below.refl _ _) ?_
          repeat (go_big_quiet_step (fail))
          go_big_quiet_step (exact quiet_since _ (e5 _))
          repeat (go_big_quiet_step (fail))
          go_big_quiet_step (exact quiet_since _ (eN T hTs _))
          repeat (go_big_quiet_step (fail))
          go_big_quiet_step (exact quiet_since _ (e6 _))
          repeat (go_big_quiet_step (fail))
          go_big_quiet_step (exact quiet_since _ (eX T hTs _))
          repeat (go_big_quiet_step (fail))
          refine wpQuiet_nil ?_
          rintro w2 ⟨Y, rfl⟩
          have hY := Y.property
          go_wp2_with fail
          go_ret
          exact ⟨rfl, hb'.trans (hY.mono hb'.size)⟩
        · have hsl : Mx.mixed s.data.toList (8 * r) k v ≠ s.data.toList := fun h => hsT (by rw [hT, h])
          have q1 : ((n3 : Int) == (N T : Int)) = false := by
            rw [beq_eq_false_iff_ne]
            intro h
            exact hsl (hap r k (by omega) (by rw [← hT]; omega))
          have q2 : (s.toList == T.toList) = false := by
            rw [beq_eq_false_iff_ne]
            intro h
            rw [Lib.toList_data, Lib.toList_data] at h
            exact hsT (ByteArray.ext (Array.toList_inj.1 h))
          have q3 : ∀ V, (Op.equalIn 10000 30 (.agg (x3.map B).toArray) (.agg ((X T).map B).toArray)).run Try.prog V = .ok false V := fun V => by
            rw [id_eq V x3 (X T) l3 (lX T), beq_eq_false_iff_ne.2]
            intro h
            exact hsl (haX r k (by omega) (by rw [← hT]; exact h.symm))
          clear hsT hT hsl
          refine wp_region_since (B := wr.heap.size) (W0 := wr) (by kernel_rfl) (by kernel_rfl) (Below.refl _ _) ?_
          repeat (go_big_quiet_step (fail))
          go_big_quiet_step (exact quiet_since _ (e5 _))
          repeat (go_big_quiet_step (fail))
          go_big_quiet_step (exact quiet_since _ (eN T hTs _))
          repeat (go_big_quiet_step (fail))
          go_big_quiet_step (exact quiet_since _ (e6 _))
          repeat (go_big_quiet_step (fail))
          go_big_quiet_step (exact quiet_since _ (eX T hTs _))
          repeat (go_big_quiet_step (fail))
          refine wpQuiet_nil ?_
          rintro w2 ⟨Y, rfl⟩
          have hY := Y.property
          go_wp2_with fail
          go_ret
          exact ⟨rfl, hb'.trans (hY.mono hb'.size)⟩
end Go.Proofs.Ytkeckdfjgnacnaa
