/-
  The walk of lumkeep.GlobPlain: it returns true.
-/
import Derived.Test.YtfcnlfblfennaaaDoorGlAll
import Derived.Test.YtfcnlfblfennaaaDoorGbPlain
import Derived.Test.YtfcnlfblfennaaaDoorBase
import Derived.Test.YtfcnlfblfennaaaDoorRnChar
namespace Go.Proofs.YtfcnlfblfennaaaDoor
open Go.RowKit
set_option maxRecDepth 4000

theorem info_bt : (Tryd.prog.info? 5).map (fun i => (i.zero, i.size, i.bytes)) = some (some (.int .u8 0), 1, 1) := by kernel_rfl
theorem spc_ix (b : UInt8) : decide (0 ≤ Lib.indexByte [42, 63, 91, 92] b) = Gb.spc b := by
  unfold Gb.spc
  by_cases h1 : b = 42
  · subst h1; rfl
  by_cases h2 : b = 63
  · subst h2; rfl
  by_cases h3 : b = 91
  · subst h3; rfl
  by_cases h4 : b = 92
  · subst h4; rfl
  have e : Lib.indexByte [42, 63, 91, 92] b = -1 := by
    simp [Lib.indexByte, Ne.symm h1, Ne.symm h2, Ne.symm h3, Ne.symm h4]
  rw [e]
  simp [h1, h2, h3, h4]
theorem esc_drop (l : List UInt8) (k : Nat) (hk : k < l.length) : Gb.esc (l.take (k + 1)) = Gb.esc (l.take k) ++ Gb.esc1 l[k] := by
  rw [List.take_succ_eq_append_getElem hk, Gb.esc_app]
  simp [Gb.esc]
theorem esc_len : ∀ (l : List UInt8), (Gb.esc l).length ≤ 2 * l.length
  | [] => by simp [Gb.esc]
  | b :: l => by
    have h := esc_len l
    rw [show b :: l = [b] ++ l from rfl, Gb.esc_app, List.length_append, List.length_append]
    have : (Gb.esc [b]).length ≤ 2 := by
      simp only [Gb.esc, List.flatMap_cons, List.flatMap_nil, List.append_nil, Gb.esc1]
      split <;> simp
    simp only [List.length_singleton]
    omega

set_option maxHeartbeats 2000000 in
theorem escaped_any (s : ByteArray) (w : World) (hs : s.size ≤ 1048576) :
    Calls Tryd.prog 16 #[.string s] w fun e w' => e = .returned (.string ⟨(Gb.esc s.data.toList).toArray⟩) ∧ Below w.heap.size w w' := by
  obtain ⟨W1, cap, hcv, hcell, hB1⟩ := conv_by w s
  obtain ⟨i0, hi, hz0, hz1, hz2⟩ := info_is info_bt
  have HC : Hid (∀ W, Below W1.heap.size W1 W → ∀ k (hk : k < s.size), W.cell? ⟨w.heap.size, k, none⟩ = some (.int .u8 (s[k].toNat : Nat))) := fun W hW k hk => (hW.cell (p := ⟨w.heap.size, k, none⟩) (World.block_lt_of_cell? W1 _ (hcell k hk))).trans (hcell k hk)
  have HB1 : Hid (Below w.heap.size w W1) := hB1
  clear hcell hB1
  obtain ⟨g, hg⟩ : ∃ g, g = w.heap.size := ⟨_, rfl⟩
  rw [← hg] at hcv HC
  clear hg
  go_enter Tryd.func16, Tryd.ntmps16
  go_wp2_with fail
  go_loopw [3, 9] (fun v3 x wr => ∃ k : Nat, k ≤ s.size ∧ x = .int .i64 k ∧ Hid (wr.ownsRow W1.heap.size 5 1 v3 (Gb.esc (s.data.toList.take k)).length ((Gb.esc (s.data.toList.take k)).map B)) ∧ Hid (Below W1.heap.size W1 wr)) (fun _ x _ => s.size - (intOf x).toNat)
  case atStart => exact ⟨0, by omega, rfl, World.ownsRow_nil _ _ _ _, Below.refl _ _⟩
  case round =>
    obtain ⟨k, hk, rfl, HO, HB⟩ := hrel
    have HBw : Hid (Below w.heap.size w wr) := HB1.out.trans (HB.out.mono HB1.out.size)
    by_cases hlt : k < s.size
    · have hkl : k < s.data.toList.length := by rw [← Lib.size_eq]; exact hlt
      have ce := HC.out wr HB.out k hlt
      have he := esc_drop s.data.toList k hkl
      have hln := esc_len (s.data.toList.take k)
      rw [List.length_take] at hln
      rw [show s.data.toList[k] = s[k] from rfl] at he
      generalize s[k] = b at *
      have hI := Tryd.strings_IndexByte ⟨#[42, 63, 91, 92]⟩ (b.toNat : Int) wr
      rw [show (⟨#[42, 63, 91, 92]⟩ : ByteArray).data.toList = [42, 63, 91, 92] from rfl, show ((b.toNat : Int)).toNat.toUInt8 = b from by simp] at hI
      have hsp := spc_ix b
      have HE : Hid (Gb.esc (s.data.toList.take (k + 1)) = Gb.esc (s.data.toList.take k) ++ Gb.esc1 b) := he
      have hO := HO.out
      have hsw := HB.out.size
      generalize Gb.esc (s.data.toList.take k) = ys at *
      generalize Lib.indexByte [42, 63, 91, 92] b = ix at *
      clear he HO
      cases hb : Gb.spc b with
      | true =>
        rw [hb, decide_eq_true_iff] at hsp
        have HE2 : Hid (Gb.esc (s.data.toList.take (k + 1)) = ys ++ [92] ++ [b]) := by
          show _ = _
          rw [HE.out, Gb.esc1, hb]; simp
        clear HE
        go_wp2_with fail
        refine hI.mono ?_
        rintro e u ⟨rfl, hu⟩
        obtain rfl := hu.symm
        clear hI hu
        go_wp2_with (at_builtin; refine wpList_append_own _ rfl (.tmp 16) (.tmp 17) 62 rfl W1.heap.size 5 i0 (.int .u8 0) 1 1 Tryd.underlying62 hi hz0 hz1 hz2 rfl (by decide) _ _ _ rfl (hO.alloc _) ⟨wr.heap.size, 0, none⟩ 1 1 [.int .u8 92] rfl rfl ?c1 ?c2 ?c3 ?c4 ?c5 ?_)
        case c1 =>
          intro j u hj
          match j, hj with
          | 0, hj => simp at hj; subst hj; simp [Addr.add]
        case c2 => intro u hu; simp at hu; subst hu; rfl
        case c3 => unfold maxLen; omega
        case c4 => omega
        case c5 => simp; omega
        intro v5 w5 o5 g5 _
        obtain ⟨o6, b6⟩ := own_more (b := 92) hO o5 rfl g5 HB.out (Nat.le_refl _)
        have HB6 : Hid (Below W1.heap.size W1 w5) := b6
        have hs6 := b6.size
        obtain ⟨zs, hzs⟩ : ∃ zs, zs = ys ++ [92] := ⟨_, rfl⟩
        have hzl : zs.length ≤ ys.length + 1 := by rw [hzs]; simp
        have HE3 : Hid (Gb.esc (s.data.toList.take (k + 1)) = zs ++ [b]) := by rw [hzs]; exact HE2.out
        rw [← hzs] at o6
        clear o5 g5 hO b6 hzs HE2
        go_wp2_with (at_builtin; refine wpList_append_own _ rfl (.tmp 19) (.tmp 21) 62 rfl W1.heap.size 5 i0 (.int .u8 0) 1 1 Tryd.underlying62 hi hz0 hz1 hz2 rfl (by decide) _ _ _ rfl (o6.alloc _) ⟨w5.heap.size, 0, none⟩ 1 1 [.int .u8 (b.toNat : Int)] rfl rfl ?d1 ?d2 ?d3 ?d4 ?d5 ?_)
        case d1 =>
          intro j u hj
          match j, hj with
          | 0, hj => simp at hj; subst hj; simp [Addr.add]
        case d2 => intro u hu; simp at hu; subst hu; rfl
        case d3 => unfold maxLen; omega
        case d4 => omega
        case d5 => simp; omega
        intro v7 w7 o7 g7 _
        obtain ⟨o8, b8⟩ := own_more (b := b) o6 o7 rfl g7 HB6.out (Nat.le_refl _)
        have HO8 : Hid (w7.ownsRow W1.heap.size 5 1 v7 (Gb.esc (s.data.toList.take (k + 1))).length ((Gb.esc (s.data.toList.take (k + 1))).map B)) := by rw [HE3.out]; exact o8
        have HB8 : Hid (Below W1.heap.size W1 w7) := b8
        clear o7 g7 o6 o8 b8
        go_wp2_with fail
        go_roundw
        case measure => simp only [intOf]; omega
        case rel => exact ⟨k + 1, by omega, by go_num, HO8, HB8⟩
      | false =>
        rw [hb, decide_eq_false_iff_not] at hsp
        have HE2 : Hid (Gb.esc (s.data.toList.take (k + 1)) = ys ++ [b]) := by
          show _ = _
          rw [HE.out, Gb.esc1, hb]; simp
        clear HE
        go_wp2_with fail
        refine hI.mono ?_
        rintro e u ⟨rfl, hu⟩
        obtain rfl := hu.symm
        clear hI hu
        go_wp2_with (at_builtin; refine wpList_append_own _ rfl (.tmp 19) (.tmp 21) 62 rfl W1.heap.size 5 i0 (.int .u8 0) 1 1 Tryd.underlying62 hi hz0 hz1 hz2 rfl (by decide) _ _ _ rfl (hO.alloc _) ⟨wr.heap.size, 0, none⟩ 1 1 [.int .u8 (b.toNat : Int)] rfl rfl ?e1 ?e2 ?e3 ?e4 ?e5 ?_)
        case e1 =>
          intro j u hj
          match j, hj with
          | 0, hj => simp at hj; subst hj; simp [Addr.add]
        case e2 => intro u hu; simp at hu; subst hu; rfl
        case e3 => unfold maxLen; omega
        case e4 => omega
        case e5 => simp; omega
        intro v7 w7 o7 g7 _
        obtain ⟨o8, b8⟩ := own_more (b := b) hO o7 rfl g7 HB.out (Nat.le_refl _)
        have HO8 : Hid (w7.ownsRow W1.heap.size 5 1 v7 (Gb.esc (s.data.toList.take (k + 1))).length ((Gb.esc (s.data.toList.take (k + 1))).map B)) := by rw [HE2.out]; exact o8
        have HB8 : Hid (Below W1.heap.size W1 w7) := b8
        clear o7 g7 hO o8 b8
        go_wp2_with fail
        go_roundw
        case measure => simp only [intOf]; omega
        case rel => exact ⟨k + 1, by omega, by go_num, HO8, HB8⟩
    · obtain rfl : k = s.size := by omega
      have hst := run_str HO.out
      rw [List.take_of_length_le (by rw [← Lib.size_eq]; exact Nat.le_refl _)] at hst
      clear HO
      obtain ⟨ys, hys⟩ : ∃ ys, ys = Gb.esc s.data.toList := ⟨_, rfl⟩
      have HY : Hid (ys = Gb.esc s.data.toList) := hys
      rw [← hys] at hst
      clear hys
      go_wp2_with fail
      go_ret
      exact ⟨by rw [← HY.out]; rfl, HBw.out⟩

set_option maxRecDepth 8000 in
set_option maxHeartbeats 2000000 in
theorem globPlain_walk (a0 a1 : ByteArray) (z0 : a0.size ≤ 1048576) (z1 : a1.size ≤ 1048576) (w : World) (hT : Tabs w) :
    Calls Tryd.prog 5 #[.string a0, .string a1] w fun e w' => e = .returned (.bool true) ∧ Below w.heap.size w w' := by
  have HT : Hid (Tabs w) := hT
  have hff : ∀ (p q : ByteArray) (W : World), q.size ≤ 140737488355328 → Below w.heap.size w W → ∀ A, (Gb.mtch p.data.toList q.data.toList).1 = A → Calls Tryd.prog 15 #[.string p, .string q] W fun e w' => e = .returned (.bool A) ∧ Below W.heap.size W w' := fun p q W hq hW A hA => by
    have := kfits_any p q W hq (HT.out.below hW)
    rw [hA] at this
    exact this
  have HF : Hid (∀ (p q : ByteArray) (W : World), q.size ≤ 140737488355328 → Below w.heap.size w W → ∀ A, (Gb.mtch p.data.toList q.data.toList).1 = A → Calls Tryd.prog 15 #[.string p, .string q] W fun e w' => e = .returned (.bool A) ∧ Below W.heap.size W w') := hff
  clear hff hT
  have h1 := HF.out ⟨#[47, 97]⟩ ⟨#[47, 97]⟩ w (by simp [ByteArray.size]) (Below.refl _ _) true (by decide +kernel)
  go_enter Tryd.func5, Tryd.ntmps5
  go_wp2_with fail
  refine h1.mono ?_
  rintro e w1 ⟨rfl, b1⟩
  have HB1 : Hid (Below w.heap.size w w1) := b1
  clear b1 h1
  have h2 := HF.out ⟨#[47, 97]⟩ ⟨#[47, 98]⟩ w1 (by simp [ByteArray.size]) HB1.out false (by decide +kernel)
  go_wp2_with fail
  refine h2.mono ?_
  rintro e w2 ⟨rfl, b2⟩
  have HB2 : Hid (Below w.heap.size w w2) := HB1.out.trans (b2.mono HB1.out.size)
  clear b2 h2
  have h3 := escaped_any a0 w2 z0
  go_wp2_with fail
  refine h3.mono ?_
  rintro e w3 ⟨rfl, b3⟩
  have HB3 : Hid (Below w.heap.size w w3) := HB2.out.trans (b3.mono HB2.out.size)
  clear b3 h3
  obtain ⟨p, hp⟩ : ∃ p : ByteArray, p = ⟨(Gb.esc a0.data.toList).toArray⟩ := ⟨_, rfl⟩
  have HPd : Hid (p.data.toList = Gb.esc a0.data.toList) := by rw [hp]; rfl
  rw [← hp]
  clear hp
  have h4 := split_any a0 w3 (by omega) (HT.out.below HB3.out)
  go_wp2_with fail
  refine h4.mono ?_
  rintro e w4 ⟨v, l, rfl, hd, hx, hcp, b4⟩
  have HB4 : Hid (Below w.heap.size w w4) := HB3.out.trans (b4.mono HB3.out.size)
  obtain ⟨a, c, rfl⟩ := hx.slice
  clear b4 h4 hcp hx
  by_cases hE : (Nn.split a0.data.toList).2 = 0
  · rw [hE]
    by_cases hl0 : l = []
    · have hn : l.length = 0 := by rw [hl0]; rfl
      rw [hn]
      clear hd hE
      go_wp2_with fail
      go_ret
      exact ⟨rfl, HB4.out⟩
    · have hn : ¬ (l.length : Int) = 0 := by
        have := List.length_pos_iff.2 hl0
        omega
      have hnb : ((l.length : Int) == 0) = false := by rw [beq_eq_false_iff_ne]; exact hn
      have HL : Hid ((Nn.split a0.data.toList).1 ≠ []) := by
        show _ ≠ _
        rw [← hd]
        intro e
        exact hl0 (List.map_eq_nil_iff.1 e)
      have HE : Hid ((Nn.split a0.data.toList).2 = 0) := hE
      generalize l.length = N at *
      clear hd hE hl0
      by_cases h60 : 60 < p.size
      · have q0 : (60 : Int) < (p.size : Int) := by omega
        clear h60
        go_wp2_with fail
        go_ret
        exact ⟨rfl, HB4.out⟩
      · have q0 : ¬ ((60 : Int) < (p.size : Int)) := by omega
        have H60 : Hid ((Gb.esc a0.data.toList).length ≤ 60) := by
          show _ ≤ _
          rw [← HPd.out, ← Lib.size_eq]; omega
        clear h60
        have h5 := split_any a1 w4 (by omega) (HT.out.below HB4.out)
        go_wp2_with fail
        refine h5.mono ?_
        rintro e w5 ⟨v5, l5, rfl, hd5, hx5, hcp5, b5⟩
        have HB5 : Hid (Below w.heap.size w w5) := HB4.out.trans (b5.mono HB4.out.size)
        clear b5 h5 hcp5 hx5 hd5
        have HM1 : Hid ((Gb.mtch p.data.toList a0.data.toList).1 = true) := by
          show _ = _
          rw [HPd.out, Gb.mtch_esc HE.out HL.out H60.out HE.out]
          simp
        by_cases hF : (Nn.split a1.data.toList).2 = 0
        · have HM2 : Hid ((Gb.mtch p.data.toList a1.data.toList).1 = decide (a1.data.toList = a0.data.toList)) := by
            show _ = _
            rw [HPd.out, Gb.mtch_esc HE.out HL.out H60.out hF]
          rw [hF]
          clear hF
          have h6 := HF.out p a0 w5 (by omega) HB5.out true HM1.out
          go_wp2_with fail
          refine h6.mono ?_
          rintro e w6 ⟨rfl, b6⟩
          have HB6 : Hid (Below w.heap.size w w6) := HB5.out.trans (b6.mono HB5.out.size)
          clear b6 h6
          have h7 := HF.out p a1 w6 (by omega) HB6.out _ HM2.out
          by_cases heq : a1 = a0
          · subst heq
            rw [decide_eq_true rfl] at h7
            go_wp2_with fail
            refine h7.mono ?_
            rintro e w7 ⟨rfl, b7⟩
            have HB7 : Hid (Below w.heap.size w w7) := HB6.out.trans (b7.mono HB6.out.size)
            clear b7 h7
            go_wp2_with fail
            go_ret
            exact ⟨rfl, HB7.out⟩
          · rw [decide_eq_false (fun e => heq (ByteArray.ext (Array.toList_inj.1 e)))] at h7
            have hne : (a0.toList == a1.toList) = false := text_ne fun e => heq e.symm
            go_wp2_with fail
            refine h7.mono ?_
            rintro e w7 ⟨rfl, b7⟩
            have HB7 : Hid (Below w.heap.size w w7) := HB6.out.trans (b7.mono HB6.out.size)
            clear b7 h7
            go_wp2_with fail
            go_ret
            exact ⟨rfl, HB7.out⟩
        · generalize (Nn.split a1.data.toList).2 = F at *
          have hqn : (F != 0) = true := by rw [bne_iff_ne]; exact hF
          clear hF
          have h6 := HF.out p a0 w5 (by omega) HB5.out true HM1.out
          go_wp2_with fail
          refine h6.mono ?_
          rintro e w6 ⟨rfl, b6⟩
          have HB6 : Hid (Below w.heap.size w w6) := HB5.out.trans (b6.mono HB5.out.size)
          clear b6 h6
          go_wp2_with fail
          go_ret
          exact ⟨rfl, HB6.out⟩
  · generalize (Nn.split a0.data.toList).2 = F at *
    have hqn : (F != 0) = true := by rw [bne_iff_ne]; exact hE
    clear hE hd
    generalize l.length = N at *
    go_wp2_with fail
    go_ret
    exact ⟨rfl, HB4.out⟩
end Go.Proofs.YtfcnlfblfennaaaDoor
