/-
  What steps (package lumkeep) answers: the steps of a text.
-/
import Derived.Test.YtkeckdfjgnacnaaRefNarrow
import Derived.Test.YtkeckdfjgnacnaaMix
import Derived.Test.YtkeckdfjgnacnaaMixMd
namespace Go.Proofs.Ytkeckdfjgnacnaa
open Go.RowKit

theorem own_below {base : Nat} {e : TypeId} {k : Nat} {v : Value} {n : Nat} {xs : List Value} {w w' : World} (h : w.ownsRow base e k v n xs) (hb : Below w.heap.size w w') : w'.ownsRow base e k v n xs := by
  obtain ⟨h1, h2⟩ := h
  refine ⟨h1, ?_⟩
  rcases h2 with h2 | ⟨g, cap, cur, hv, hg, hh, r⟩
  · exact .inl h2
  · refine .inr ⟨g, cap, cur, hv, hg, ?_, r⟩
    rw [hb.block g ?_, hh]
    exact (Array.getElem?_eq_some_iff.1 hh).1
theorem shift_cut (W y : Nat) (hW : W ≤ 64) : IntKind.u64.wrap ((y : Int) * 2 ^ (64 - W)) / 2 ^ (64 - W) = (Mx.cut W y : Nat) := by
  rw [← Mx.cut_shift y hW, show (2 : Int) ^ (64 - W) = ((2 ^ (64 - W) : Nat) : Int) from by simp, ← Int.natCast_mul, wrap_u64_mod, Int.natCast_ediv]
theorem or_step (l : List UInt8) (m d : Nat) (hd : d < 8) :
    bits .or .u64 (Mx.lo l m d : Int) (IntKind.u64.wrap (IntKind.u64.wrap (Mx.byteAt l (8 * m + d) : Int) * 2 ^ (8 * d))) = (Mx.lo l m (d + 1) : Nat) := by
  have h1 := Mx.lo_lt l m (d + 1)
  have h2 : 256 ^ (d + 1) ≤ 256 ^ 8 := Nat.pow_le_pow_right (by omega) (by omega)
  have h3 : (256 : Nat) ^ 8 = 18446744073709551616 := by decide
  have h4 := Mx.byteAt_lt l (8 * m + d)
  have h5 : Mx.lo l m (d + 1) = Mx.lo l m d + Mx.byteAt l (8 * m + d) * 256 ^ d := rfl
  have h6 : (2 : Int) ^ (8 * d) = ((256 ^ d : Nat) : Int) := by rw [Int.pow_mul]; simp
  rw [wrap_u64 (Mx.byteAt l (8 * m + d) : Int) (by omega) (by omega), h6, ← Int.natCast_mul, wrap_u64_mod, Nat.mod_eq_of_lt (by omega), u64_or_nat _ _ (by omega) (by omega), Mx.lo_or]
theorem info_taken : (Try.prog.info? 40).map (fun i => (i.zero, i.size, i.bytes)) = some (some (.agg #[.int .u64 0, .int .u64 0, .int .u64 0]), 3, 24) := by kernel_rfl

set_option maxHeartbeats 1000000 in
theorem steps_any (W : Nat) (s : ByteArray) (w : World) (h1 : 1 ≤ W) (hW : W ≤ 64) (hs : s.size ≤ 1048576) :
    Calls Try.prog 16 #[.int .i64 W, .string s] w fun e w' => ∃ v, e = .returned v ∧
      w'.ownsRow w.heap.size 40 3 v ((s.size + 7) / 8 + 1) (Mx.tris W s.data.toList ((s.size + 7) / 8 + 1)) ∧ Below w.heap.size w w' := by
  obtain ⟨c, hc⟩ : ∃ c, c = (8 - s.size % 8) % 8 := ⟨_, rfl⟩
  have hc1 : -((s.size : Int) % 8) % 8 = (c : Int) := by omega
  have hc2 : (8 - (s.size : Int) % 8) % 8 = (c : Int) := by omega
  obtain ⟨z, hz⟩ : ∃ z : List UInt8, z = List.replicate c 0 := ⟨_, rfl⟩
  obtain ⟨f, hf⟩ : ∃ f : ByteArray, f = ⟨(s.data.toList ++ z).toArray⟩ := ⟨_, rfl⟩
  have hzl : z.length = c := by rw [hz]; simp
  have hcat : ∀ V : World, (Op.stringOp .add s ⟨z.toArray⟩).run Try.prog V = .ok (.string f) V := fun V => by
    rw [hf]
    have := run_string_add_sum (P := Try.prog) (w := V) s ⟨z.toArray⟩ (by show s.size + z.toArray.size ≤ _; rw [List.size_toArray]; omega)
    rw [this, show s ++ (⟨z.toArray⟩ : ByteArray) = ⟨(s.data.toList ++ z).toArray⟩ from ByteArray.ext (by rw [ByteArray.data_append]; simp)]
  have hfl : f.data.toList = s.data.toList ++ z := by rw [hf]
  have hfs : f.size = s.size + c := by rw [Lib.size_eq, hfl, List.length_append, ← Lib.size_eq, hzl]
  have HZ : Hid (Lib.repeatL ({ data := #[0] } : ByteArray).data.toList c = z) := by show _ = z; rw [hz]; exact repeat_nought c
  have HB : Hid (∀ k (h : k < f.size), f[k].toNat = Mx.byteAt s.data.toList k) := fun k h => by
    have e : Mx.byteAt f.data.toList k = Mx.byteAt s.data.toList k := by rw [hfl, hz, Mx.byteAt_pad]
    rw [← e, Mx.byteAt, List.getD_eq_getElem?_getD, List.getElem?_eq_getElem (by simpa using h)]
    rfl
  obtain ⟨n, hn⟩ : ∃ n, n = (s.size + 7) / 8 := ⟨_, rfl⟩
  have hfn : f.size = 8 * n := by omega
  have HN : Hid (n = (s.size + 7) / 8) := hn
  rw [← hn]
  have hc8 : c ≤ 7 := by omega
  have hnb : n ≤ 131072 := by omega
  clear hz hf hfl hn hzl hc hfs
  go_enter Try.func16, Try.ntmps16
  go_wp2_with fail
  refine (Try.strings_Repeat _ c _ (by omega) (by simp [ByteArray.size]; omega)).mono ?_
  rintro e w2 ⟨rfl, hb2⟩
  rw [HZ.out]
  clear HZ
  have HB2 : Hid (Below w.heap.size w w2) := hb2
  clear hb2
  obtain ⟨i0, hi, hz0, hz1, hz2⟩ := info_parts info_taken
  go_wp2_with fail
  go_loopw [5, 6, 8] (fun v x i wr => ∃ m : Nat, m ≤ n + 1 ∧ i = .int .i64 (8 * (m : Int)) ∧ x = .int .u64 (Mx.along W s.data.toList m) ∧ wr.ownsRow w.heap.size 40 3 v m (Mx.tris W s.data.toList m) ∧ Below w.heap.size w wr) (fun _ _ i _ => 8 * n + 8 - (intOf i).toNat)
  case atStart => exact ⟨0, by omega, rfl, rfl, World.ownsRow_nil _ _ _ _, HB2.out⟩
  case round =>
    obtain ⟨m, hm, rfl, rfl, hown, hbel⟩ := hrel
    have hX := Mx.along_lt W s.data.toList m
    by_cases hlt : m < n
    · have hle : m ≤ n := by omega
      have hbk : Mx.blkAt s.data.toList m = Mx.lo s.data.toList m 8 := by rw [Mx.blkAt, ← Lib.size_eq, if_pos (by rw [← HN.out]; omega), Mx.lo_blk]
      have hbl : Mx.lo s.data.toList m 8 < 18446744073709551616 := Mx.lo_lt s.data.toList m 8
      have hy := shift_cut W (Mx.step (Mx.along W s.data.toList m) (Mx.lo s.data.toList m 8)) hW
      rw [← hbk, ← Mx.along, hbk] at hy
      have HK : Hid (Mx.blkAt s.data.toList m = Mx.lo s.data.toList m 8) := hbk
      clear hbk
      go_wp2_with fail
      go_loop [9, 33] (fun b k => ∃ d : Nat, d ≤ 8 ∧ k = .int .i64 d ∧ b = .int .u64 (Mx.lo s.data.toList m d)) (fun _ k => 8 - (intOf k).toNat)
      case atStart => exact ⟨0, by omega, rfl, rfl⟩
      case round =>
        obtain ⟨d, hd, rfl, rfl⟩ := hrel
        by_cases hd8 : d < 8
        · have hA := HB.out (8 * m + d) (by omega)
          go_wp2_with fail
          go_round
          case rel => exact ⟨d + 1, by omega, int_eq (by omega), int_eq (or_step s.data.toList m d hd8)⟩
          case measure => simp only [intOf]; omega
        · obtain rfl : d = 8 := by omega
          clear hd hd8
          go_wp2_with fail
          refine (step_any (Mx.along W s.data.toList m) (Mx.lo s.data.toList m 8) wr hX hbl).mono ?_
          rintro e w3 ⟨rfl, hb3⟩
          have hown3 := own_below hown hb3
          have hB3 := hbel.trans (hb3.mono hbel.size)
          have hs3 := hB3.size
          clear hb3 hown hbel
          go_wp2_with (at_builtin; refine wpList_append_own _ rfl (.tmp 57) (.tmp 62) 37 rfl w.heap.size 40 i0 (.agg #[.int .u64 0, .int .u64 0, .int .u64 0]) 3 24 Try.underlying37 hi hz0 hz1 hz2 rfl (by decide) _ _ _ rfl (hown3.alloc _) ⟨w3.heap.size, 0, none⟩ 1 1 (Mx.tri W s.data.toList m) rfl rfl ?c1 ?c2 ?c3 ?c4 ?c5 ?_)
          case c1 =>
            intro j u hj
            rw [Mx.tri, HK.out] at hj
            match j, hj with
            | 0, hj => simp at hj; subst hj; simp [Addr.add]
            | 1, hj => simp at hj; subst hj; simp [Addr.add]
            | 2, hj => simp at hj; subst hj; simp [Addr.add]
          case c2 => intro u hu; simp [Mx.tri] at hu; rcases hu with rfl | rfl | rfl <;> rfl
          case c3 => unfold maxLen; omega
          case c4 => omega
          case c5 => simp; omega
          intro v' w4 hown4 hgrow _
          have R : w4.ownsRow w.heap.size 40 3 v' (m + 1) (Mx.tris W s.data.toList (m + 1)) ∧ Below w.heap.size w w4 := by
            refine ⟨hown4, (hB3.alloc (by omega) _).grown hgrow (by simp; omega) ?_⟩
            intro k hk
            exact (hown3.lt k hk).1
          have HR : Hid (w4.ownsRow w.heap.size 40 3 v' (m + 1) (Mx.tris W s.data.toList (m + 1)) ∧ Below w.heap.size w w4) := R
          clear R hown4 hgrow hown3 hB3
          go_wp2_with fail
          go_round
          case rel => exact ⟨m + 1, by omega, int_eq (by omega), rfl, HR.out.1, HR.out.2⟩
          case measure => simp only [intOf]; omega
    · by_cases hmn : m = n
      · subst hmn
        have hsl : s.size < 18446744073709551616 := by omega
        have hy := shift_cut W (Mx.step (Mx.along W s.data.toList m) s.size) hW
        rw [← show Mx.blkAt s.data.toList m = s.size from by rw [Mx.blkAt, ← Lib.size_eq, if_neg (by rw [← HN.out]; omega)]] at hy
        have hbk : Mx.blkAt s.data.toList m = s.size := by rw [Mx.blkAt, ← Lib.size_eq, if_neg (by rw [← HN.out]; omega)]
        rw [← Mx.along, hbk] at hy
        have HK : Hid (Mx.blkAt s.data.toList m = s.size) := hbk
        clear hbk
        go_wp2_with fail
        refine (step_any (Mx.along W s.data.toList m) s.size wr hX hsl).mono ?_
        rintro e w3 ⟨rfl, hb3⟩
        have hown3 := own_below hown hb3
        have hB3 := hbel.trans (hb3.mono hbel.size)
        have hs3 := hB3.size
        clear hb3 hown hbel
        go_wp2_with (at_builtin; refine wpList_append_own _ rfl (.tmp 57) (.tmp 62) 37 rfl w.heap.size 40 i0 (.agg #[.int .u64 0, .int .u64 0, .int .u64 0]) 3 24 Try.underlying37 hi hz0 hz1 hz2 rfl (by decide) _ _ _ rfl (hown3.alloc _) ⟨w3.heap.size, 0, none⟩ 1 1 (Mx.tri W s.data.toList m) rfl rfl ?c1 ?c2 ?c3 ?c4 ?c5 ?_)
        case c1 =>
          intro j u hj
          rw [Mx.tri, HK.out] at hj
          match j, hj with
          | 0, hj => simp at hj; subst hj; simp [Addr.add]
          | 1, hj => simp at hj; subst hj; simp [Addr.add]
          | 2, hj => simp at hj; subst hj; simp [Addr.add]
        case c2 => intro u hu; simp [Mx.tri] at hu; rcases hu with rfl | rfl | rfl <;> rfl
        case c3 => unfold maxLen; omega
        case c4 => omega
        case c5 => simp; omega
        intro v' w4 hown4 hgrow _
        have R : w4.ownsRow w.heap.size 40 3 v' (m + 1) (Mx.tris W s.data.toList (m + 1)) ∧ Below w.heap.size w w4 := by
          refine ⟨hown4, (hB3.alloc (by omega) _).grown hgrow (by simp; omega) ?_⟩
          intro k hk
          exact (hown3.lt k hk).1
        have HR : Hid (w4.ownsRow w.heap.size 40 3 v' (m + 1) (Mx.tris W s.data.toList (m + 1)) ∧ Below w.heap.size w w4) := R
        clear R hown4 hgrow hown3 hB3
        go_wp2_with fail
        go_round
        case rel => exact ⟨m + 1, by omega, int_eq (by omega), rfl, HR.out.1, HR.out.2⟩
        case measure => simp only [intOf]; omega
      · go_wp2_with fail
        go_ret
        exact ⟨_, rfl, by rw [show n + 1 = m from by omega]; exact hown, hbel⟩
end Go.Proofs.Ytkeckdfjgnacnaa
