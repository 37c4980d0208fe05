/-
  What PackList of the document's answer (package lumref) answers.
-/
import Derived.Test.YtkhejelmjkpgfaaG9
import Derived.Test.YtkhejelmjkpgfaaG11
import Derived.Test.YtkhejelmjkpgfaaG8

namespace Go.Proofs.Ytkhejelmjkpgfaa
open Go.RowKit
set_option maxRecDepth 4000
set_option linter.unusedVariables false

theorem rl_short (s : ByteArray) (w : World) (hs : s.size < 10) :
    Calls Try.prog 14 #[.string s] w fun e w' => e = .returned (.tuple #[.slice none 0 0, .int .i64 3]) ∧ Below w.heap.size w w' := by
  go_enter Try.func14, Try.ntmps14
  go_wp2_with fail
  go_ret2
  exact ⟨rfl, Below.refl _ _⟩

set_option maxHeartbeats 4000000 in
theorem rl_sum (y0 y1 y2 y3 y4 y5 y6 y7 : UInt8) (s : ByteArray) (n2 : Nat) (w : World) (H10 : 10 ≤ s.size) (hs : s.size ≤ 140737488351232) (hn2 : n2 + 8 ≤ s.size)
    (i1 : (s.size : Int) - 8 = (n2 : Int))
    (hd : ∀ W, Calls Try.prog 26 #[.string (s.extract 0 n2)] W fun e w' => e = .returned (.agg #[.int .u8 (y0.toNat : Int), .int .u8 (y1.toNat : Int), .int .u8 (y2.toNat : Int), .int .u8 (y3.toNat : Int), .int .u8 (y4.toNat : Int), .int .u8 (y5.toNat : Int), .int .u8 (y6.toNat : Int), .int .u8 (y7.toNat : Int)]) ∧ Below W.heap.size W w')
    (heq : ([y0, y1, y2, y3, y4, y5, y6, y7] == (s.extract n2 s.size).toList) = false) :
    Calls Try.prog 14 #[.string s] w fun e w' => e = .returned (.tuple #[.slice none 0 0, .int .i64 6]) ∧ Below w.heap.size w w' := by
  go_enter Try.func14, Try.ntmps14
  go_wp2_with fail
  refine (hd _).mono ?_
  rintro e w1 ⟨rfl, hb1⟩
  obtain ⟨W2, hW2⟩ : ∃ W2, W2 = w1.alloc (.cells #[.int .u8 (y0.toNat : Int), .int .u8 (y1.toNat : Int), .int .u8 (y2.toNat : Int), .int .u8 (y3.toNat : Int), .int .u8 (y4.toNat : Int), .int .u8 (y5.toNat : Int), .int .u8 (y6.toNat : Int), .int .u8 (y7.toNat : Int)] 26) := ⟨_, rfl⟩
  have hX : Cz W2 w1.heap.size (#[.int .u8 (y0.toNat : Int), .int .u8 (y1.toNat : Int), .int .u8 (y2.toNat : Int), .int .u8 (y3.toNat : Int), .int .u8 (y4.toNat : Int), .int .u8 (y5.toNat : Int), .int .u8 (y6.toNat : Int), .int .u8 (y7.toNat : Int)] : Array Value).toList := by rw [hW2]; exact Cz.new w1 #[.int .u8 (y0.toNat : Int), .int .u8 (y1.toNat : Int), .int .u8 (y2.toNat : Int), .int .u8 (y3.toNat : Int), .int .u8 (y4.toNat : Int), .int .u8 (y5.toNat : Int), .int .u8 (y6.toNat : Int), .int .u8 (y7.toNat : Int)] 26
  have HB2 : Hid (Below w.heap.size w W2) := by rw [hW2]; exact hb1.alloc hb1.size _
  have h8 : ∀ X : Since W2.heap.size W2, (convert 51 9 (.slice (some ⟨w1.heap.size, 0, none⟩) 8 8)).run Try.prog X.val = .ok (.string ⟨#[y0, y1, y2, y3, y4, y5, y6, y7]⟩) X.val := fun X =>
    run_str8 _ _ _ _ _ _ _ _ _ _ _ fun j hj => (X.property.cell (p := ⟨w1.heap.size, j, none⟩) hX.lt).trans (by
      rw [hW2]; exact cells8 w1 _ y0 y1 y2 y3 y4 y5 y6 y7 j hj)
  have hne : Nonempty (Since W2.heap.size W2) := ⟨⟨W2, Below.refl _ _⟩⟩
  clear hb1 hd hX
  go_upto_region 5 with fail
  rw [← hW2]
  clear hW2
  refine wp_region_since (B := W2.heap.size) (W0 := W2) (by kernel_rfl) (by kernel_rfl) (Below.refl _ _) ?_
  repeat (go_big_quiet_step (fail))
  refine wpQuiet_nil ?_
  rintro w3 ⟨U, rfl⟩
  have HB3 : Hid (Below w.heap.size w U.val) := HB2.out.trans (U.property.mono HB2.out.size)
  generalize U.val = w3 at *
  clear h8 hne
  go_wp2_with fail
  go_ret2
  exact ⟨rfl, HB3.out⟩

theorem Cz.drew {W : World} {G : Nat} {cs : List Value} (h : Cz W G cs) : Cz W.drew G cs := ⟨fun j v hj => h.at_ j v hj, fun j => h.fz j, h.lt⟩
theorem Cz.set {W : World} {G : Nat} {cs : List Value} (h : Cz W G cs) (k : Nat) (hk : k < cs.length) (v : Value) : Cz (W.setCell ⟨G, k, none⟩ v) G (cs.set k v) := by
  refine ⟨fun j u hj => ?_, fun j => by simpa using h.fz j, by simpa using h.lt⟩
  by_cases e : j = k
  · subst e
    rw [List.getElem?_set_self hk] at hj
    obtain rfl := Option.some.inj hj
    exact World.cell?_setCell_same _ _ _ (h.at_ j _ (List.getElem?_eq_getElem hk))
  · rw [List.getElem?_set_ne (by omega)] at hj
    rw [World.cell?_setCell_other _ _ _ _ (by intro q; exact e (congrArg Addr.off q).symm)]
    exact h.at_ j u hj
theorem cz_set8 {W : World} {G : Nat} {x y z : Value} (h : Cz W G [.int .u8 0, .int .u8 0, .int .u8 0, .int .u8 0, .int .u8 0, .int .u8 0, .int .u8 0, .int .u8 0, x, y, z]) (b0 b1 b2 b3 b4 b5 b6 b7 : UInt8) :
    Cz (set8 W G b0 b1 b2 b3 b4 b5 b6 b7) G [B b0, B b1, B b2, B b3, B b4, B b5, B b6, B b7, x, y, z] :=
  (((((((h.set 0 (by simp) (B b0)).set 1 (by simp) (B b1)).set 2 (by simp) (B b2)).set 3 (by simp) (B b3)).set 4 (by simp) (B b4)).set 5 (by simp) (B b5)).set 6 (by simp) (B b6)).set 7 (by simp) (B b7)
/-- what is behind the sum: the walk from the list on -/
theorem drewN_below (w : World) (n : Nat) : Below w.heap.size w (w.drewN n) := ⟨rfl, rfl, rfl, Nat.le_refl _, fun _ _ => rfl⟩
theorem big_w {m : Nat} (h : m ≤ 140737488351232) : True := trivial

set_option maxHeartbeats 16000000 in
theorem rl_main (y0 y1 y2 y3 y4 y5 y6 y7 : UInt8) (s : ByteArray) (m m1 n2 SZ : Nat) (w : World) (H10 : 10 ≤ s.size) (hs : s.size ≤ 140737488351232) (hm : m + 10 ≤ s.size) (hm1 : m1 + 9 ≤ s.size) (hn2 : n2 + 8 ≤ s.size)
    (i1 : (s.size : Int) - 8 = (n2 : Int)) (i2 : (n2 : Int) - 2 = (m : Int)) (i3 : (n2 : Int) - 1 = (m1 : Int))
    (hd : ∀ W, Calls Try.prog 26 #[.string (s.extract 0 n2)] W fun e w' => e = .returned (.agg #[.int .u8 (y0.toNat : Int), .int .u8 (y1.toNat : Int), .int .u8 (y2.toNat : Int), .int .u8 (y3.toNat : Int), .int .u8 (y4.toNat : Int), .int .u8 (y5.toNat : Int), .int .u8 (y6.toNat : Int), .int .u8 (y7.toNat : Int)]) ∧ Below W.heap.size W w')
    (heq : ([y0, y1, y2, y3, y4, y5, y6, y7] == (s.extract n2 s.size).toList) = true)
    (hsum : ((s[m]'(by omega)).toNat : Int) + 256 * ((s[m1]'(by omega)).toNat : Int) = (SZ : Int)) (RR : List Pk.En × Int)
    (HR1 : Hid (m < SZ → RR = ([], 4))) (HR2 : Hid (SZ ≤ m → RR = Pk.lst (m - SZ) (s.extract (m - SZ) m).data.toList)) :
    Calls Try.prog 14 #[.string s] w fun e w' => ∃ v, e = .returned (.tuple #[v, .int .i64 RR.2]) ∧ LsOut w w' v RR.1 := by
  obtain ⟨i0, hi, hz0, hz1, hz2⟩ := info_parts info_en
  have j1 : m < s.size := by omega
  have j2 : m1 < s.size := by omega
  have g0 := s[m].toNat_lt
  have g1 := s[m1].toNat_lt
  have hSZ : SZ ≤ 65535 := by omega
  go_enter Try.func14, Try.ntmps14
  go_wp2_with fail
  refine (hd _).mono ?_
  rintro e w1 ⟨rfl, hb1⟩
  obtain ⟨W2, hW2⟩ : ∃ W2, W2 = w1.alloc (.cells #[.int .u8 (y0.toNat : Int), .int .u8 (y1.toNat : Int), .int .u8 (y2.toNat : Int), .int .u8 (y3.toNat : Int), .int .u8 (y4.toNat : Int), .int .u8 (y5.toNat : Int), .int .u8 (y6.toNat : Int), .int .u8 (y7.toNat : Int)] 26) := ⟨_, rfl⟩
  have hX : Cz W2 w1.heap.size (#[.int .u8 (y0.toNat : Int), .int .u8 (y1.toNat : Int), .int .u8 (y2.toNat : Int), .int .u8 (y3.toNat : Int), .int .u8 (y4.toNat : Int), .int .u8 (y5.toNat : Int), .int .u8 (y6.toNat : Int), .int .u8 (y7.toNat : Int)] : Array Value).toList := by rw [hW2]; exact Cz.new w1 #[.int .u8 (y0.toNat : Int), .int .u8 (y1.toNat : Int), .int .u8 (y2.toNat : Int), .int .u8 (y3.toNat : Int), .int .u8 (y4.toNat : Int), .int .u8 (y5.toNat : Int), .int .u8 (y6.toNat : Int), .int .u8 (y7.toNat : Int)] 26
  have HB2 : Hid (Below w.heap.size w W2) := by rw [hW2]; exact hb1.alloc hb1.size _
  have h8 : ∀ X : Since W2.heap.size W2, (convert 51 9 (.slice (some ⟨w1.heap.size, 0, none⟩) 8 8)).run Try.prog X.val = .ok (.string ⟨#[y0, y1, y2, y3, y4, y5, y6, y7]⟩) X.val := fun X =>
    run_str8 _ _ _ _ _ _ _ _ _ _ _ fun j hj => (X.property.cell (p := ⟨w1.heap.size, j, none⟩) hX.lt).trans (by
      rw [hW2]; exact cells8 w1 _ y0 y1 y2 y3 y4 y5 y6 y7 j hj)
  have hne : Nonempty (Since W2.heap.size W2) := ⟨⟨W2, Below.refl _ _⟩⟩
  clear hb1 hd hX
  go_upto_region 5 with fail
  rw [← hW2]
  clear hW2
  refine wp_region_since (B := W2.heap.size) (W0 := W2) (by kernel_rfl) (by kernel_rfl) (Below.refl _ _) ?_
  repeat (go_big_quiet_step (fail))
  refine wpQuiet_nil ?_
  rintro w3 ⟨U, rfl⟩
  have HB3 : Hid (Below w.heap.size w U.val) := HB2.out.trans (U.property.mono HB2.out.size)
  generalize U.val = w3 at *
  clear h8 hne
  go_upto_region 7 with fail
  have hne : Nonempty (Since w3.heap.size w3) := ⟨⟨w3, Below.refl _ _⟩⟩
  refine wp_region_since (B := w3.heap.size) (W0 := w3) (by kernel_rfl) (by kernel_rfl) (Below.refl _ _) ?_
  repeat (go_big_quiet_step (fail))
  refine wpQuiet_nil ?_
  rintro w4 ⟨V, rfl⟩
  have HB4 : Hid (Below w.heap.size w V.val) := HB3.out.trans (V.property.mono HB3.out.size)
  generalize V.val = w4 at *
  clear hne
  by_cases hlt : m < SZ
  · have HRT : Hid (RR = ([], 4)) := HR1.out hlt
    have hlt' : (m : Int) < (SZ : Int) := by omega
    clear HR1 HR2
    go_wp2_with fail
    go_ret2
    exact ⟨_, by rw [HRT.out]; rfl, by rw [HRT.out]; exact LsOut.none _ _ HB4.out⟩
  have HRT := HR2.out (by omega)
  obtain ⟨r, hr⟩ : ∃ r, m - SZ = r := ⟨_, rfl⟩
  rw [hr] at HRT
  have i5 : (m : Int) - (SZ : Int) = (r : Int) := by omega
  have hrm : r ≤ m := by omega
  have hle' : (SZ : Int) ≤ (m : Int) := by omega
  clear hlt hr HR1 HR2
  go_upto_region 10 with fail
  have hne : Nonempty (Since w4.heap.size w4) := ⟨⟨w4, Below.refl _ _⟩⟩
  refine wp_region_since (B := w4.heap.size) (W0 := w4) (by kernel_rfl) (by kernel_rfl) (Below.refl _ _) ?_
  repeat (go_big_quiet_step (fail))
  refine wpQuiet_nil ?_
  rintro w5 ⟨V, rfl⟩
  have HB5 : Hid (Below w.heap.size w V.val) := HB4.out.trans (V.property.mono HB4.out.size)
  generalize V.val = w5 at *
  clear hne
  have z2 : (s.extract 0 r).size = r := by rw [ByteArray.size_extract]; omega
  have z3 : (s.extract r m).size ≤ 140737488351232 := by rw [ByteArray.size_extract]; omega
  have hget := rget_any (s.extract r m) w5 (by omega)
  obtain ⟨LB, hLB⟩ : ∃ LB, s.extract r m = LB := ⟨_, rfl⟩
  obtain ⟨BB, hBB⟩ : ∃ BB, s.extract 0 r = BB := ⟨_, rfl⟩
  rw [hLB] at HRT z3 hget
  rw [hBB] at z2
  unfold Pk.lst at HRT
  dsimp only at HRT
  rw [← z2] at HRT
  obtain ⟨gn, gk, ge, hG⟩ : ∃ gn gk ge, Nm.getN LB.data.toList = (gn, gk, ge) := ⟨_, _, _, rfl⟩
  rw [hG] at HRT hget
  dsimp only at HRT hget
  have hs5 := HB5.out.size
  by_cases hE : ge ≠ 0
  · rw [if_pos hE] at HRT
    have HRT' : Hid (RR = ([], ge)) := HRT
    have hE2 : (ge == 0) = false := beq_eq_false_iff_ne.2 hE
    clear HRT hE hG
    go_wp2_with fail
    rw [hLB]
    refine hget.mono ?_
    rintro e w6 ⟨rfl, q, rfl⟩
    have HB6 : Hid (Below w.heap.size w (w5.drewN q)) := HB5.out.trans ((drewN_below w5 q).mono hs5)
    generalize w5.drewN q = w6 at *
    clear hget
    go_wp2_with fail
    go_ret2
    exact ⟨_, by rw [HRT'.out]; rfl, by rw [HRT'.out]; exact LsOut.none _ _ HB6.out⟩
  rw [if_neg hE] at HRT
  obtain rfl : ge = 0 := Classical.not_not.1 hE
  obtain ⟨hgk, hgn, _⟩ := Nm.get_one hG
  have hgk2 : gk ≤ LB.size := by rw [Lib.size_eq]; exact hgk
  by_cases h40 : 40 < gn
  · rw [if_pos h40] at HRT
    have HRT' : Hid (RR = ([], 2)) := HRT
    clear HRT hE hG hgk
    go_wp2_with fail
    rw [hLB]
    refine hget.mono ?_
    rintro e w6 ⟨rfl, q, rfl⟩
    have HB6 : Hid (Below w.heap.size w (w5.drewN q)) := HB5.out.trans ((drewN_below w5 q).mono hs5)
    generalize w5.drewN q = w6 at *
    clear hget
    go_wp2_with fail
    go_ret2
    exact ⟨_, by rw [HRT'.out]; rfl, by rw [HRT'.out]; exact LsOut.none _ _ HB6.out⟩
  rw [if_neg h40] at HRT
  have hg40 : gn ≤ 40 := by omega
  have hx0 := ext_toList LB gk
  obtain ⟨L0, hL0⟩ : ∃ L0, LB.extract gk LB.size = L0 := ⟨_, rfl⟩
  rw [hL0] at hx0
  have HRT0 : Hid (RR = Pk.ents BB.size gn L0.data.toList 0 []) := by rw [hx0]; exact HRT
  have hL0z : L0.size ≤ 140737488351232 := by rw [← hL0, ByteArray.size_extract]; omega
  have hBz : BB.size ≤ 140737488351232 := by omega
  clear HRT hE hG hgk h40 hx0 hgn
  go_wp2_with fail
  rw [hLB]
  refine hget.mono ?_
  rintro e w6 ⟨rfl, q, rfl⟩
  have HB6 : Hid (Below w.heap.size w (w5.drewN q)) := HB5.out.trans ((drewN_below w5 q).mono hs5)
  generalize w5.drewN q = w6 at *
  clear hget
  go_wp2_with fail
  clear hBB hL0 z2 hLB
  go_loopw [8, 12, 13, 81] (fun vl ve va i wr => ∃ (k : Nat) (L : ByteArray) (at_ : Nat) (out : List Ent), k ≤ gn ∧ i = .int .u64 k ∧ vl = .string L ∧ va = .int .i64 at_ ∧ L.size ≤ 140737488351232 ∧ at_ ≤ BB.size ∧ Hid (out.length = k) ∧ Hid (RR = Pk.ents BB.size (gn - k) L.data.toList at_ (out.map Ent.p)) ∧
      Hid (wr.ownsRow w.heap.size 38 11 ve out.length (rowR enC out)) ∧ Hid (Below w.heap.size w wr)) (fun _ _ _ i _ => gn - (intOf i).toNat)
  case atStart => exact ⟨0, L0, 0, [], by omega, rfl, rfl, rfl, hL0z, by omega, rfl, HRT0, World.ownsRow_nil _ _ _ _, HB6.out⟩
  case round =>
    obtain ⟨k, L, at_, out, hk, rfl, rfl, rfl, hLz, hat, hol, hR, hown, hbel⟩ := hrel
    clear HRT0
    have hws := hbel.out.size
    by_cases hlt : k < gn
    · have HT : RR = _ := hR.out
      rw [show gn - k = gn - k - 1 + 1 from by omega, Pk.ents] at HT
      by_cases h9 : L.data.toList.length < 9
      · rw [if_pos h9] at HT
        have HRT : Hid (RR = ([], 3)) := HT
        have h9' : L.size < 9 := by rw [Lib.size_eq]; exact h9
        clear HT hR h9 hown
        go_wp2_with fail
        go_ret2
        exact ⟨_, by rw [HRT.out]; rfl, by rw [HRT.out]; exact LsOut.none _ _ hbel.out⟩
      rw [if_neg h9] at HT
      have h9' : 9 ≤ L.size := by rw [Lib.size_eq]; omega
      have h0 : 0 < L.size := by omega
      dsimp only at HT
      rw [head_byte L h0] at HT
      have hb0 := L[0].toNat_lt
      obtain ⟨kd, hkd⟩ : ∃ kd, L[0].toNat = kd := ⟨_, rfl⟩
      rw [hkd] at HT hb0
      have hx19 : (L.extract 1 9).data.toList = (L.data.toList.drop 1).take 8 := Lib.extract_data L 1 9
      have hx9 := ext_toList L 9
      obtain ⟨b0, b1, b2, b3, b4, b5, b6, b7, hX8⟩ := eight ((L.data.toList.drop 1).take 8) (by rw [List.length_take, List.length_drop]; omega)
      rw [hX8] at HT hx19
      obtain ⟨T19, hT19⟩ : ∃ T19, L.extract 1 9 = T19 := ⟨_, rfl⟩
      rw [hT19] at hx19
      have hT19z : T19.size = 8 := by rw [Lib.size_eq, hx19]; rfl
      obtain ⟨W3, hW3⟩ : ∃ W3, W3 = wr.alloc (.cells #[.int .u8 0, .int .u8 0, .int .u8 0, .int .u8 0, .int .u8 0, .int .u8 0, .int .u8 0, .int .u8 0, .int .i64 (kd : Int), .int .i64 (at_ : Int), .int .i64 0] 38) := ⟨_, rfl⟩
      have hX3 : Cz W3 wr.heap.size (#[.int .u8 0, .int .u8 0, .int .u8 0, .int .u8 0, .int .u8 0, .int .u8 0, .int .u8 0, .int .u8 0, .int .i64 (kd : Int), .int .i64 (at_ : Int), .int .i64 0] : Array Value).toList := by rw [hW3]; exact Cz.new wr #[.int .u8 0, .int .u8 0, .int .u8 0, .int .u8 0, .int .u8 0, .int .u8 0, .int .u8 0, .int .u8 0, .int .i64 (kd : Int), .int .i64 (at_ : Int), .int .i64 0] 38
      have hB3 : Below wr.heap.size wr W3 := by rw [hW3]; exact (Below.refl _ wr).alloc (Nat.le_refl _) _
      have hcp := run_copy_cut (P := Try.prog) W3.drew 51 9 3 5 wr.heap.size 0 8 8 T19 (by kernel_rfl) u8_size (by omega) (fun j hj => by
        rw [Nat.zero_add]
        have : ∃ v, (#[.int .u8 0, .int .u8 0, .int .u8 0, .int .u8 0, .int .u8 0, .int .u8 0, .int .u8 0, .int .u8 0, .int .i64 (kd : Int), .int .i64 (at_ : Int), .int .i64 0] : Array Value).toList[j]? = some v := ⟨_, List.getElem?_eq_getElem (by show j < 11; omega)⟩
        obtain ⟨v, hv⟩ := this
        have h := hX3.at_ j v hv
        rw [show W3.drew.cell? ⟨wr.heap.size, j, none⟩ = W3.cell? ⟨wr.heap.size, j, none⟩ from rfl, h]; rfl) (fun j hj => by rw [Nat.zero_add]; exact hX3.fz j)
      rw [List.take_of_length_le (by rw [← Lib.size_eq]; omega), hx19] at hcp
      have hcp' : (Builtin.copy_ #[51, 9] 3 #[.slice (some ⟨wr.heap.size, 0, none⟩) 8 8, .string T19]).run Try.prog W3.drew = .ok (.int .i64 8) (set8 W3.drew wr.heap.size b0 b1 b2 b3 b4 b5 b6 b7) := hcp
      obtain ⟨W4, hW4⟩ : ∃ W4, W4 = set8 W3.drew wr.heap.size b0 b1 b2 b3 b4 b5 b6 b7 := ⟨_, rfl⟩
      rw [← hW4] at hcp'
      have hX4 : Cz W4 wr.heap.size (#[.int .u8 (b0.toNat : Int), .int .u8 (b1.toNat : Int), .int .u8 (b2.toNat : Int), .int .u8 (b3.toNat : Int), .int .u8 (b4.toNat : Int), .int .u8 (b5.toNat : Int), .int .u8 (b6.toNat : Int), .int .u8 (b7.toNat : Int), .int .i64 (kd : Int), .int .i64 (at_ : Int), .int .i64 0] : Array Value).toList := by rw [hW4]; exact cz_set8 hX3.drew b0 b1 b2 b3 b4 b5 b6 b7
      have HB4' : Hid (Below wr.heap.size wr W4) := by rw [hW4]; exact below_set8 hB3.drew (Nat.le_refl _) _ _ _ _ _ _ _ _
      have HO4 : Hid (W4.ownsRow w.heap.size 38 11 u12 out.length (rowR enC out)) := own_below hown.out HB4'.out
      have HB4w : Hid (Below w.heap.size w W4) := hbel.out.trans (HB4'.out.mono hws)
      have HNB : Hid (some wr.heap.size ≠ u12.ownBlock) := fun e => by have := (hown.out.lt _ e.symm).2; omega
      clear hcp hX3 hB3 hW4 hX8 hx19 hT19z hown hbel hR h9
      go_upto_region 24 with fail
      rw [← hW3]
      clear hW3
      go_region
      clear hcp'
      have e8 := hX4.at_ 8 _ rfl
      by_cases hk : kB (kd : Int) = true
      · have hk' : kd = 1 ∨ kd = 2 ∨ kd = 3 := by
          have : (kd : Int) = 1 ∨ (kd : Int) = 2 ∨ (kd : Int) = 3 := kB_of.1 hk
          omega
        rw [if_neg (fun h => h hk')] at HT
        have hrk := fun W => rkind_any (kd : Int) W
        rw [hk] at hrk
        obtain ⟨T9, hT9⟩ : ∃ T9, L.extract 9 L.size = T9 := ⟨_, rfl⟩
        rw [hT9] at hx9
        have hT9z : T9.size ≤ 140737488351232 := by rw [← hT9, ByteArray.size_extract]; omega
        have hT9l : T9.size + 9 ≤ L.size := by rw [← hT9, ByteArray.size_extract]; omega
        have hgt := fun W => rget_any T9 W (by omega)
        rw [hx9] at hgt
        obtain ⟨gn2, gk2, ge2, hG2⟩ : ∃ gn2 gk2 ge2, Nm.getN (L.data.toList.drop 9) = (gn2, gk2, ge2) := ⟨_, _, _, rfl⟩
        rw [hG2] at hgt HT
        dsimp only at hgt HT
        have hw4s := HB4w.out.size
        clear hk hk'
        by_cases hE2 : ge2 ≠ 0
        · rw [if_pos hE2] at HT
          have HRT : Hid (RR = ([], ge2)) := HT
          have hE3 : (ge2 == 0) = false := beq_eq_false_iff_ne.2 hE2
          clear HT hE2 hG2 HO4
          go_wp2_with fail
          refine (hrk _).mono ?_
          rintro e u ⟨rfl, hu⟩
          obtain rfl := hu.symm
          clear hu hrk
          go_wp2_with fail
          refine (hgt _).mono ?_
          rintro e w7 ⟨rfl, q, rfl⟩
          have HB7 : Hid (Below w.heap.size w (W4.drewN q)) := HB4w.out.trans ((drewN_below W4 q).mono hw4s)
          generalize W4.drewN q = w7 at *
          clear hgt e8
          go_wp2_with fail
          go_ret2
          exact ⟨_, by rw [HRT.out]; rfl, by rw [HRT.out]; exact LsOut.none _ _ HB7.out⟩
        rw [if_neg hE2] at HT
        obtain rfl : ge2 = 0 := Classical.not_not.1 hE2
        obtain ⟨hgk3, hgn3, _⟩ := Nm.get_one hG2
        have hgk4 : gk2 ≤ T9.size := by rw [Lib.size_eq, hx9]; exact hgk3
        by_cases h97 : 4097 < gn2
        · rw [if_pos h97] at HT
          have HRT : Hid (RR = ([], 2)) := HT
          clear HT hE2 hG2 HO4 hgk3
          go_wp2_with fail
          refine (hrk _).mono ?_
          rintro e u ⟨rfl, hu⟩
          obtain rfl := hu.symm
          clear hu hrk
          go_wp2_with fail
          refine (hgt _).mono ?_
          rintro e w7 ⟨rfl, q, rfl⟩
          have HB7 : Hid (Below w.heap.size w (W4.drewN q)) := HB4w.out.trans ((drewN_below W4 q).mono hw4s)
          generalize W4.drewN q = w7 at *
          clear hgt e8
          go_wp2_with fail
          go_ret2
          exact ⟨_, by rw [HRT.out]; rfl, by rw [HRT.out]; exact LsOut.none _ _ HB7.out⟩
        rw [if_neg h97] at HT
        have h97' : gn2 ≤ 4097 := by omega
        have HTT : Hid (RR = if [b0, b1, b2, b3, b4, b5, b6, b7] ∈ (out.map Ent.p).map Pk.En.id then ([], 4) else if BB.size < at_ + gn2 then ([], 4) else Pk.ents BB.size (gn - k - 1) (L.data.toList.drop (9 + gk2)) (at_ + gn2) (out.map Ent.p ++ [⟨[b0, b1, b2, b3, b4, b5, b6, b7], (kd : Nat), at_, gn2⟩])) := HT
        clear HT hE2 hG2 hgk3 hgn3 h97
        obtain ⟨Q0, hQ0⟩ : ∃ Q0, Q0 = wr.heap.size := ⟨_, rfl⟩
        rw [← hQ0] at hX4 e8 HNB
        have hQw : w.heap.size ≤ Q0 := by rw [hQ0]; exact hws
        rw [← hQ0]
        clear hQ0 HB4' hws
        go_wp2_with fail
        refine (hrk _).mono ?_
        rintro e u ⟨rfl, hu⟩
        obtain rfl := hu.symm
        clear hu hrk
        go_wp2_with fail
        refine (hgt _).mono ?_
        rintro e w7 ⟨rfl, q, rfl⟩
        have hB7 := drewN_below W4 q
        have hX7 := hX4.below hB7 hX4.lt
        have HO7 : Hid ((W4.drewN q).ownsRow w.heap.size 38 11 u12 out.length (rowR enC out)) := own_below HO4.out hB7
        have HB7 : Hid (Below w.heap.size w (W4.drewN q)) := HB4w.out.trans (hB7.mono hw4s)
        generalize W4.drewN q = w7 at *
        have t10 := hX7.at_ 10 _ rfl
        have f10 := hX7.fz 10
        have hX8 := hX7.set 10 (by simp) (.int .i64 (gn2 : Int))
        have hX8' : Cz (w7.setCell ⟨Q0, 10, none⟩ (.int .i64 (gn2 : Int))) Q0 (#[.int .u8 (b0.toNat : Int), .int .u8 (b1.toNat : Int), .int .u8 (b2.toNat : Int), .int .u8 (b3.toNat : Int), .int .u8 (b4.toNat : Int), .int .u8 (b5.toNat : Int), .int .u8 (b6.toNat : Int), .int .u8 (b7.toNat : Int), .int .i64 (kd : Int), .int .i64 (at_ : Int), .int .i64 (gn2 : Int)] : Array Value).toList := hX8
        have HB8 : Hid (Below w.heap.size w (w7.setCell ⟨Q0, 10, none⟩ (.int .i64 (gn2 : Int)))) := HB7.out.setCell hQw _
        have HO8 : Hid ((w7.setCell ⟨Q0, 10, none⟩ (.int .i64 (gn2 : Int))).ownsRow w.heap.size 38 11 u12 out.length (rowR enC out)) :=
          own_kept HO7.out (Kept.setCell (p := fun q => q ≠ Q0) (Kept.refl _ w7) (by simp) _) (fun g hg e => HNB.out (by rw [← e]; exact hg.symm))
        obtain ⟨W8, hW8⟩ : ∃ W8, W8 = w7.setCell ⟨Q0, 10, none⟩ (.int .i64 (gn2 : Int)) := ⟨_, rfl⟩
        rw [← hW8] at hX8' HB8 HO8
        have HX8 : Hid (Cz W8 Q0 (#[.int .u8 (b0.toNat : Int), .int .u8 (b1.toNat : Int), .int .u8 (b2.toNat : Int), .int .u8 (b3.toNat : Int), .int .u8 (b4.toNat : Int), .int .u8 (b5.toNat : Int), .int .u8 (b6.toNat : Int), .int .u8 (b7.toNat : Int), .int .i64 (kd : Int), .int .i64 (at_ : Int), .int .i64 (gn2 : Int)] : Array Value).toList) := hX8'
        obtain ⟨ao, co, hu12⟩ := own_form HO8.out
        subst hu12
        clear hgt e8 hB7 hX7 HO7 HB7 hX8 hX8' hX4 HO4 HB4w
        go_wp2_with fail
        rw [← hW8]
        clear hW8 t10 f10
        have hol40 : out.length ≤ 40 := by rw [hol.out]; omega
        have hQz : Q0 < W8.heap.size := HX8.out.lt
        have hs8 := HB8.out.size
        go_loopw [117] (fun i wx => ∃ j : Nat, j ≤ out.length ∧ i = .int .i64 j ∧ Hid ([b0, b1, b2, b3, b4, b5, b6, b7] ∉ ((out.take j).map Ent.p).map Pk.En.id) ∧ Hid (Below W8.heap.size W8 wx)) (fun i _ => out.length - (intOf i).toNat)
        case atStart => exact ⟨0, by omega, rfl, by simp [Hid], Below.refl _ _⟩
        case round =>
          obtain ⟨j, hj, rfl, hnx, hbx⟩ := hrel
          have hXr := HX8.out.below hbx.out hQz
          have hbxs := hbx.out.size
          by_cases hjk : j < out.length
          · obtain ⟨y, hy⟩ : ∃ y, out[j]? = some y := ⟨_, List.getElem?_eq_getElem hjk⟩
            have HY : Hid (out[j]? = some y) := hy
            obtain ⟨gi, oi, hai, hgi, hcc⟩ := ((Rx.of_own enC_length HO8.out).below hbx.out).get j y hy
            obtain ⟨g', c', hv'⟩ := own_some HO8.out (by omega)
            rw [Value.slice.injEq] at hv'
            obtain ⟨hv1, hv2, hv3⟩ := hv'
            clear hv2 hv3
            subst hv1
            have hai' : g' = gi ∧ 0 = oi := by simpa using hai
            obtain ⟨rfl, rfl⟩ : gi = g' ∧ oi = 0 := ⟨hai'.1.symm, hai'.2.symm⟩
            obtain ⟨yid, hyid, ykd, ypp, yqq⟩ := y
            obtain ⟨q0, q1, q2, q3, q4, q5, q6, q7, rfl⟩ := eight yid hyid
            simp only [Nat.zero_add] at hcc
            have c0 : wr.cell? ⟨gi, j * 11, none⟩ = some (.int .u8 (q0.toNat : Int)) := hcc 0 _ rfl
            have c1 : wr.cell? ⟨gi, j * 11 + 1, none⟩ = some (.int .u8 (q1.toNat : Int)) := hcc 1 _ rfl
            have c2 : wr.cell? ⟨gi, j * 11 + 2, none⟩ = some (.int .u8 (q2.toNat : Int)) := hcc 2 _ rfl
            have c3 : wr.cell? ⟨gi, j * 11 + 3, none⟩ = some (.int .u8 (q3.toNat : Int)) := hcc 3 _ rfl
            have c4 : wr.cell? ⟨gi, j * 11 + 4, none⟩ = some (.int .u8 (q4.toNat : Int)) := hcc 4 _ rfl
            have c5 : wr.cell? ⟨gi, j * 11 + 5, none⟩ = some (.int .u8 (q5.toNat : Int)) := hcc 5 _ rfl
            have c6 : wr.cell? ⟨gi, j * 11 + 6, none⟩ = some (.int .u8 (q6.toNat : Int)) := hcc 6 _ rfl
            have c7 : wr.cell? ⟨gi, j * 11 + 7, none⟩ = some (.int .u8 (q7.toNat : Int)) := hcc 7 _ rfl
            have c8 : wr.cell? ⟨gi, j * 11 + 8, none⟩ = some (.int .i64 ykd) := hcc 8 _ rfl
            have c9 : wr.cell? ⟨gi, j * 11 + 9, none⟩ = some (.int .i64 ypp) := hcc 9 _ rfl
            have c10 : wr.cell? ⟨gi, j * 11 + 10, none⟩ = some (.int .i64 yqq) := hcc 10 _ rfl
            have x0 := hXr.at_ 0 _ rfl
            have x1 := hXr.at_ 1 _ rfl
            have x2 := hXr.at_ 2 _ rfl
            have x3 := hXr.at_ 3 _ rfl
            have x4 := hXr.at_ 4 _ rfl
            have x5 := hXr.at_ 5 _ rfl
            have x6 := hXr.at_ 6 _ rfl
            have x7 := hXr.at_ 7 _ rfl
            have hqb : ∀ W, (Op.equalIn 10000 26 (.agg #[.int .u8 (q0.toNat : Int), .int .u8 (q1.toNat : Int), .int .u8 (q2.toNat : Int), .int .u8 (q3.toNat : Int), .int .u8 (q4.toNat : Int), .int .u8 (q5.toNat : Int), .int .u8 (q6.toNat : Int), .int .u8 (q7.toNat : Int)]) (.agg #[.int .u8 (b0.toNat : Int), .int .u8 (b1.toNat : Int), .int .u8 (b2.toNat : Int), .int .u8 (b3.toNat : Int), .int .u8 (b4.toNat : Int), .int .u8 (b5.toNat : Int), .int .u8 (b6.toNat : Int), .int .u8 (b7.toNat : Int)])).run Try.prog W = .ok ([q0, q1, q2, q3, q4, q5, q6, q7] == [b0, b1, b2, b3, b4, b5, b6, b7]) W := fun W => id_eq W [q0, q1, q2, q3, q4, q5, q6, q7] [b0, b1, b2, b3, b4, b5, b6, b7] rfl rfl
            have HBX : Hid (Below w.heap.size w wr) := HB8.out.trans (hbx.out.mono hs8)
            have hQr : Q0 < wr.heap.size := hXr.lt
            have hsx := HBX.out.size
            clear hy hai hai' hcc hXr
            cases hb : ([q0, q1, q2, q3, q4, q5, q6, q7] == [b0, b1, b2, b3, b4, b5, b6, b7]) with
            | false =>
              rw [hb] at hqb
              have HNX : Hid ([b0, b1, b2, b3, b4, b5, b6, b7] ∉ ((out.take (j + 1)).map Ent.p).map Pk.En.id) := by
                show _ ∉ _
                rw [take_more HY.out, List.map_append, List.map_append, List.mem_append, not_or]
                refine ⟨hnx.out, fun e => ?_⟩
                have e : [b0, b1, b2, b3, b4, b5, b6, b7] = [q0, q1, q2, q3, q4, q5, q6, q7] := by simpa [Ent.p] using e
                rw [e, beq_self_eq_true] at hb
                cases hb
              clear hb
              go_wp2_with fail
              go_roundw
              case rel => exact ⟨j + 1, by omega, by go_num, HNX, hbx.out.alloc hbxs _⟩
              case measure => simp only [intOf]; omega
            | true =>
              rw [hb] at hqb
              have hmem : [b0, b1, b2, b3, b4, b5, b6, b7] ∈ (out.map Ent.p).map Pk.En.id := by
                rw [← eq_of_beq hb]
                exact List.mem_map_of_mem (List.mem_map_of_mem (List.mem_of_getElem? HY.out))
              have HRT : Hid (RR = ([], 4)) := by show _ = _; rw [HTT.out, if_pos hmem]
              clear hb hmem
              go_wp2_with fail
              go_ret2
              exact ⟨_, by rw [HRT.out]; rfl, by rw [HRT.out]; exact LsOut.none _ _ (HBX.out.alloc hsx _)⟩
          · obtain rfl : j = out.length := by omega
            rw [List.take_of_length_le (Nat.le_refl _)] at hnx
            have HTT2 : RR = _ := HTT.out
            rw [if_neg hnx.out] at HTT2
            have HBX : Hid (Below w.heap.size w wr) := HB8.out.trans (hbx.out.mono hs8)
            have hsx := HBX.out.size
            have hOr := own_below HO8.out hbx.out
            have hQr : Q0 < wr.heap.size := hXr.lt
            have x0 := hXr.at_ 0 _ rfl
            have x1 := hXr.at_ 1 _ rfl
            have x2 := hXr.at_ 2 _ rfl
            have x3 := hXr.at_ 3 _ rfl
            have x4 := hXr.at_ 4 _ rfl
            have x5 := hXr.at_ 5 _ rfl
            have x6 := hXr.at_ 6 _ rfl
            have x7 := hXr.at_ 7 _ rfl
            have x8 := hXr.at_ 8 _ rfl
            have x9 := hXr.at_ 9 _ rfl
            have x10 := hXr.at_ 10 _ rfl
            clear hXr HO8 hnx HTT
            by_cases hbig : BB.size < at_ + gn2
            · rw [if_pos hbig] at HTT2
              have HRT : Hid (RR = ([], 4)) := HTT2
              have hcmp : (BB.size : Int) < (at_ : Int) + (gn2 : Int) := by omega
              clear HTT2 hbig hOr
              go_wp2_with fail
              go_ret2
              exact ⟨_, by rw [HRT.out]; rfl, by rw [HRT.out]; exact LsOut.none _ _ HBX.out⟩
            · rw [if_neg hbig] at HTT2
              have HRT : Hid (RR = Pk.ents BB.size (gn - k - 1) (L.data.toList.drop (9 + gk2)) (at_ + gn2) (out.map Ent.p ++ [⟨[b0, b1, b2, b3, b4, b5, b6, b7], (kd : Nat), at_, gn2⟩])) := HTT2
              obtain ⟨ent, hent⟩ : ∃ ent : Ent, ent = ⟨[b0, b1, b2, b3, b4, b5, b6, b7], rfl, (kd : Int), (at_ : Int), (gn2 : Int)⟩ := ⟨_, rfl⟩
              have HEC : Hid (enC ent = [.int .u8 (b0.toNat : Int), .int .u8 (b1.toNat : Int), .int .u8 (b2.toNat : Int), .int .u8 (b3.toNat : Int), .int .u8 (b4.toNat : Int), .int .u8 (b5.toNat : Int), .int .u8 (b6.toNat : Int), .int .u8 (b7.toNat : Int), .int .i64 (kd : Int), .int .i64 (at_ : Int), .int .i64 (gn2 : Int)]) := by rw [hent]; exact rfl
              have HEP : Hid (ent.p = ⟨[b0, b1, b2, b3, b4, b5, b6, b7], (kd : Nat), at_, gn2⟩) := by show _ = _; rw [hent]; rfl
              obtain ⟨a2, ha2⟩ : ∃ a2, at_ + gn2 = a2 := ⟨_, rfl⟩
              have i9 : (at_ : Int) + (gn2 : Int) = (a2 : Int) := by omega
              have hcmp : (a2 : Int) ≤ (BB.size : Int) := by omega
              rw [ha2] at HRT
              obtain ⟨k9, hk9⟩ : ∃ k9, 9 + gk2 = k9 := ⟨_, rfl⟩
              have i10 : 9 + (gk2 : Int) = (k9 : Int) := by omega
              have hk9l : k9 ≤ L.size := by omega
              rw [hk9] at HRT
              have HLX : Hid ((L.extract k9 L.size).data.toList = L.data.toList.drop k9) := ext_toList L k9
              have hLX : (L.extract k9 L.size).size ≤ 140737488351232 := by rw [ByteArray.size_extract]; omega
              have hnQ : some Q0 ≠ (Value.slice ao out.length co).ownBlock := HNB.out
              clear HTT2 hbig hent ha2 hk9
              go_wp2_with (at_builtin; refine wpList_append_own _ rfl (.tmp 135) (.tmp 137) 33 rfl w.heap.size 38 i0 (.agg #[.int .u8 0, .int .u8 0, .int .u8 0, .int .u8 0, .int .u8 0, .int .u8 0, .int .u8 0, .int .u8 0, .int .i64 0, .int .i64 0, .int .i64 0]) 11 32 Try.underlying33 hi hz0 hz1 hz2 rfl (by decide) _ _ _ rfl (hOr.alloc _) ⟨wr.heap.size, 0, none⟩ 1 1 [.int .u8 (b0.toNat : Int), .int .u8 (b1.toNat : Int), .int .u8 (b2.toNat : Int), .int .u8 (b3.toNat : Int), .int .u8 (b4.toNat : Int), .int .u8 (b5.toNat : Int), .int .u8 (b6.toNat : Int), .int .u8 (b7.toNat : Int), .int .i64 (kd : Int), .int .i64 (at_ : Int), .int .i64 (gn2 : Int)] rfl rfl ?c1 ?c2 ?c3 ?c4 ?c5 ?_)
              case c1 => intro j u hj; rw [show ((⟨wr.heap.size, 0, none⟩ : Addr).add j) = ⟨wr.heap.size, j, none⟩ from by unfold Addr.add; split <;> simp_all]; exact (Cz.new wr #[.int .u8 (b0.toNat : Int), .int .u8 (b1.toNat : Int), .int .u8 (b2.toNat : Int), .int .u8 (b3.toNat : Int), .int .u8 (b4.toNat : Int), .int .u8 (b5.toNat : Int), .int .u8 (b6.toNat : Int), .int .u8 (b7.toNat : Int), .int .i64 (kd : Int), .int .i64 (at_ : Int), .int .i64 (gn2 : Int)] 38).at_ j u hj
              case c2 => intro u hu; rw [← HEC.out] at hu; exact enC_one ent u hu
              case c3 => unfold maxLen; omega
              case c4 => omega
              case c5 => simp; omega
              intro v' w9 hown9 hgrow _
              have HO9 : Hid (w9.ownsRow w.heap.size 38 11 v' (out ++ [ent]).length (rowR enC (out ++ [ent]))) := by
                refine own_one_more ?_
                rw [HEC.out]
                exact hown9
              have HB9 : Hid (Below w.heap.size w w9) := (HBX.out.alloc hsx _).grown hgrow (by simp; omega) (fun q hq => (hOr.lt q hq).1)
              clear hown9 hgrow hOr HBX x0 x1 x2 x3 x4 x5 x6 x7 x8 x9 x10
              go_wp2_with fail
              go_roundw
              case rel =>
                refine ⟨k + 1, L.extract k9 L.size, a2, out ++ [ent], by omega, by go_num, rfl, rfl, hLX, by omega, ?_, ?_, HO9, HB9⟩
                · show _ = _
                  rw [List.length_append, hol.out]; rfl
                · show _ = _
                  rw [HRT.out, HLX.out, List.map_append, List.map_singleton, HEP.out, show gn - k - 1 = gn - (k + 1) from by omega]
              case measure => simp only [intOf]; omega
      · have hk' : ¬ (kd = 1 ∨ kd = 2 ∨ kd = 3) := fun h => hk (kB_of.2 (by show (kd : Int) = 1 ∨ (kd : Int) = 2 ∨ (kd : Int) = 3; omega))
        rw [if_pos hk'] at HT
        have HRT : Hid (RR = ([], 5)) := HT
        have hrk := fun W => rkind_any (kd : Int) W
        rw [show kB (kd : Int) = false from by simpa using hk] at hrk
        clear HT hk hk' HO4
        go_wp2_with fail
        refine (hrk _).mono ?_
        rintro e u ⟨rfl, hu⟩
        obtain rfl := hu.symm
        clear hu hrk e8
        go_wp2_with fail
        go_ret2
        exact ⟨_, by rw [HRT.out]; rfl, by rw [HRT.out]; exact LsOut.none _ _ HB4w.out⟩
    · obtain rfl : k = gn := by omega
      rw [Nat.sub_self] at hR
      by_cases hL : L.size = 0
      · have hLn : L.data.toList = [] := List.length_eq_zero_iff.1 (by rw [← Lib.size_eq]; exact hL)
        by_cases hA : at_ < BB.size
        · have HRT : Hid (RR = ([], 4)) := by show _ = _; rw [hR.out, Pk.ents, if_pos (.inr hA)]
          have hcmp : (at_ : Int) < (BB.size : Int) := by omega
          have hlz : ¬ (0 : Int) < (L.size : Int) := by omega
          clear hR hLn hA hown
          go_wp2_with fail
          go_ret2
          exact ⟨_, by rw [HRT.out]; rfl, by rw [HRT.out]; exact LsOut.none _ _ hbel.out⟩
        · have HRT : Hid (RR = (out.map Ent.p, 0)) := by show _ = _; rw [hR.out, Pk.ents, if_neg (fun h => h.elim (fun h => h hLn) hA)]
          have hcmp : (BB.size : Int) ≤ (at_ : Int) := by omega
          have hlz : ¬ (0 : Int) < (L.size : Int) := by omega
          clear hR hLn hA
          go_wp2_with fail
          go_ret2
          exact ⟨_, by rw [HRT.out]; rfl, by rw [HRT.out]; exact ⟨out, rfl, hown.out, hbel.out⟩⟩
      · have HRT : Hid (RR = ([], 4)) := by show _ = _; rw [hR.out, Pk.ents, if_pos (.inl (fun e => hL (by rw [Lib.size_eq, e]; rfl)))]
        have hlz : 0 < L.size := by omega
        clear hR hL hown
        go_wp2_with fail
        all_goals go_ret2
        all_goals exact ⟨_, by rw [HRT.out]; rfl, by rw [HRT.out]; exact LsOut.none _ _ hbel.out⟩
theorem rlist_any (s : ByteArray) (w : World) (hs : s.size ≤ 140737488351232) :
    Calls Try.prog 14 #[.string s] w fun e w' => ∃ v, e = .returned (.tuple #[v, .int .i64 (Pk.ls s.data.toList).2]) ∧ LsOut w w' v (Pk.ls s.data.toList).1 := by
  have hsz : s.data.toList.length = s.size := (Lib.size_eq s).symm
  obtain ⟨RR, hRR⟩ : ∃ RR, Pk.ls s.data.toList = RR := ⟨_, rfl⟩
  rw [hRR]
  unfold Pk.ls at hRR
  rw [hsz] at hRR
  by_cases h10 : s.size < 10
  · rw [if_pos h10] at hRR
    subst hRR
    exact (rl_short s w h10).mono fun e w' ⟨he, hb⟩ => ⟨_, he, LsOut.none _ _ hb⟩
  rw [if_neg h10] at hRR
  have hd := fun W => rid_any (s.extract 0 (s.size - 8)) W (by rw [ByteArray.size_extract]; omega)
  rw [show Nm.low 8 (Mx.narrow 64 (s.extract 0 (s.size - 8)).data.toList) = Pk.dg (s.data.toList.take (s.size - 8)) from by rw [ext_upto]; rfl] at hd
  obtain ⟨y0, y1, y2, y3, y4, y5, y6, y7, hY⟩ := eight (Pk.dg (s.data.toList.take (s.size - 8))) (Pk.dg_length _)
  rw [hY] at hd hRR
  have hx : (s.extract (s.size - 8) s.size).toList = s.data.toList.drop (s.size - 8) := by rw [Lib.toList_data, ext_toList]
  by_cases hq : [y0, y1, y2, y3, y4, y5, y6, y7] ≠ s.data.toList.drop (s.size - 8)
  · rw [if_pos hq] at hRR
    subst hRR
    exact (rl_sum y0 y1 y2 y3 y4 y5 y6 y7 s (s.size - 8) w (by omega) hs (by omega) (by omega) hd (by rw [hx]; exact beq_eq_false_iff_ne.2 hq)).mono fun e w' ⟨he, hb⟩ => ⟨_, he, LsOut.none _ _ hb⟩
  rw [if_neg hq] at hRR
  have hlen : Pk.lenL s.data.toList = (s[s.size - 10]'(by omega)).toNat + 256 * (s[s.size - 9]'(by omega)).toNat := by
    unfold Pk.lenL
    rw [hsz, get_at s _ (by omega), get_at s _ (by omega)]
  refine rl_main y0 y1 y2 y3 y4 y5 y6 y7 s (s.size - 10) (s.size - 9) (s.size - 8) (Pk.lenL s.data.toList) w (by omega) hs (by omega) (by omega) (by omega) (by omega) (by omega) (by omega) hd (by rw [hx]; exact beq_iff_eq.2 (Classical.not_not.1 hq)) (by rw [hlen]; omega) RR ?_ ?_
  · intro h
    rw [if_pos h] at hRR
    exact hRR.symm
  · intro h
    rw [if_neg (by omega)] at hRR
    rw [← hRR, Lib.extract_data]
    congr 1
    rw [List.drop_take]
end Go.Proofs.Ytkhejelmjkpgfaa
