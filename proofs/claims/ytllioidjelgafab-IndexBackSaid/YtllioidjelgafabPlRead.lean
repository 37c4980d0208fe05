/-
  What Read of package index answers.
-/
import Derived.Test.YtllioidjelgafabPlRPs
import Derived.Test.YtllioidjelgafabPlTell
namespace Go.Proofs.Ytllioidjelgafab
open Go.RowKit
set_option maxRecDepth 4000

theorem rdAll_turn (m : Nat) (s : List UInt8) (out : List Ix.Pl) : Ix.rdAll (m + 1) s out = if (Ix.rdOne s).2.2 ≠ 0 then ([], (Ix.rdOne s).2.2) else Ix.rdAll m (Ix.rdOne s).2.1 (out ++ [(Ix.rdOne s).1]) := rfl
theorem rdAll_end (s : List UInt8) (out : List Ix.Pl) : Ix.rdAll 0 s out = if s ≠ [] then ([], 4) else if Ix.check out ≠ 0 then ([], Ix.check out) else (out, 0) := rfl
theorem read_rnum (s : List UInt8) : Ix.read s = if (rnum 400 s).2.2 ≠ 0 then ([], (rnum 400 s).2.2) else Ix.rdAll (rnum 400 s).1 (rnum 400 s).2.1 [] := by
  unfold Ix.read rnum
  dsimp only
  by_cases h : (Nm.getN s).2.2 ≠ 0
  · rw [if_pos h, if_pos h]; rw [if_pos h]
  · rw [if_neg h, if_neg h]
    by_cases h2 : 400 < (Nm.getN s).1
    · rw [if_pos h2, if_pos h2]; rfl
    · rw [if_neg h2, if_neg h2]; rfl
theorem rnum_le (s : List UInt8) : (rnum 400 s).1 ≤ 400 := by
  unfold rnum
  split
  · exact Nat.zero_le _
  · split
    · exact Nat.zero_le _
    · rename_i h; exact Nat.le_of_not_lt h
theorem ps_more (l : List Plc) (t : Plc) : ps (l ++ [t]) = ps l ++ [t.p] := by simp [ps]

set_option maxHeartbeats 8000000 in
theorem ixread_any (s : ByteArray) (w : World) (hs : s.size ≤ 140737488351232) :
    Calls Try.prog 7 #[.string s] w fun e w' => ∃ x, e = .returned (.tuple #[x, .int .i64 (Ix.read s.data.toList).2]) ∧ PlOut w w' x (Ix.read s.data.toList).1 := by
  obtain ⟨i0, hi, hz0, hz1, hz2⟩ := info_three info_plz
  obtain ⟨R, hR⟩ : ∃ R, Ix.read s.data.toList = R := ⟨_, rfl⟩
  have hrr := read_rnum s.data.toList
  rw [hR] at hrr ⊢
  have hn4 := rnum_le s.data.toList
  have hrn := ixrnum_any s 400 w hs (by omega)
  obtain ⟨n, r0, e0, h3⟩ : ∃ n r e, rnum 400 s.data.toList = (n, r, e) := ⟨_, _, _, rfl⟩
  rw [h3] at hrr hn4 hrn
  dsimp only at hrr hn4 hrn
  have hrp := fun q W h => rplc_any q W h
  clear h3 hR
  by_cases q0 : e0 = 0
  · subst q0
    rw [if_neg (fun h => h rfl)] at hrr
    go_enter Try.func7, Try.ntmps7
    go_upto_region 4 with (go_at_call 20; refine hrn.mono ?_; rintro e w1 ⟨s1, rfl, hs1, hz1', bw1⟩)
    have HB1 : Hid (Below w.heap.size w w1) := bw1
    have HR0 : Hid (R = Ix.rdAll (n - 0) s1.data.toList (ps [])) := by show _ = _; rw [hs1]; exact hrr
    have HS1 : Hid (s1.size ≤ 140737488351232) := Nat.le_trans hz1' hs
    clear hrn bw1 hs1 hz1' hrr
    go_wp2_with fail
    go_loopw [5, 7, 22] (fun vl vp i wr => ∃ (k : Nat) (q : ByteArray) (O : List Plc), k ≤ n ∧ i = .int .i64 k ∧ vl = .string q ∧ Hid (q.size ≤ 140737488351232) ∧ Hid (O.length = k) ∧ Hid (R = Ix.rdAll (n - k) q.data.toList (ps O)) ∧ Hid (wr.ownsRow w.heap.size 29 12 vp k (rowR plC O)) ∧ Hid (Below w.heap.size w wr)) (fun _ _ i _ => n - (intOf i).toNat)
    case atStart => exact ⟨0, s1, [], by omega, rfl, rfl, HS1, rfl, HR0, World.ownsRow_nil _ _ _ _, HB1⟩
    case round =>
      obtain ⟨k, q, O, hk, rfl, rfl, hq, hO, hr, hown, hbel⟩ := hrel
      clear HR0 HB1 HS1
      by_cases hlt : k < n
      · have hrp1 := hrp q wr hq.out
        clear hrp
        go_upto_region 7 with fail
        refine wp_region_lit ?_
        refine wpList_plain rfl fun C hC => ?_
        go_simp
        refine hC _ _ ?_
        clear hC C
        refine wpList_plain rfl fun C hC => ?_
        go_simp
        refine hrp1.mono ?_
        rintro e w2 ⟨t, q2, er, rfl, ho, hz, b2'⟩
        refine hC _ _ ?_
        clear hC C hrp1
        obtain ⟨b0, b1, b2, b3, b4, b5, b6, b7, k1, p1, a1, l1, ht12⟩ := t.as12
        have HT12 : Hid (t = ⟨[b0, b1, b2, b3, b4, b5, b6, b7], rfl, k1, p1, a1, l1⟩) := ht12
        rw [ht12, plV_12]
        have HB2 : Hid (Below w.heap.size w w2) := hbel.out.trans (b2'.mono hbel.out.size)
        have hown2 := ownp_below hown.out b2'
        have hown3 := hown2.alloc (.cells (pl12 b0 b1 b2 b3 b4 b5 b6 b7 k1 p1 a1 l1) 29)
        have HB3 : Hid (Below w.heap.size w (w2.alloc (.cells (pl12 b0 b1 b2 b3 b4 b5 b6 b7 k1 p1 a1 l1) 29))) := HB2.out.alloc HB2.out.size _
        have hat := At12.new w2 29 b0 b1 b2 b3 b4 b5 b6 b7 k1 p1 a1 l1
        by_cases qe : er = 0
        · subst qe
          obtain ⟨hr1, hr2⟩ := ho
          obtain ⟨hr3, hr4⟩ := hr2 rfl
          have HR2 : Hid (R = Ix.rdAll (n - (k + 1)) q2.data.toList (ps (O ++ [t]))) := by
            show _ = _
            rw [hr.out, show n - k = (n - (k + 1)) + 1 from by omega, rdAll_turn, if_neg (fun h => h hr1), hr4, ps_more, hr3]
          have HQ2 : Hid (q2.size ≤ 140737488351232) := Nat.le_trans hz hq.out
          clear ht12 hr1 hr2 hr3 hr4 hown hown2 hr b2' hz
          go_upto_region 10 with fail
          have e3 : w2.alloc (.cells #[.int .u8 (b0.toNat : Int), .int .u8 (b1.toNat : Int), .int .u8 (b2.toNat : Int), .int .u8 (b3.toNat : Int), .int .u8 (b4.toNat : Int), .int .u8 (b5.toNat : Int), .int .u8 (b6.toNat : Int), .int .u8 (b7.toNat : Int), .int .i64 k1, .int .i64 p1, .int .i64 a1, .int .i64 l1] 29) = w2.alloc (.cells (pl12 b0 b1 b2 b3 b4 b5 b6 b7 k1 p1 a1 l1) 29) := rfl
          rw [e3]
          clear e3
          generalize w2.alloc (.cells (pl12 b0 b1 b2 b3 b4 b5 b6 b7 k1 p1 a1 l1) 29) = w3 at *
          have y0 : w3.cell? ⟨w2.heap.size, 0, none⟩ = some (.int .u8 (b0.toNat : Int)) := hat.c0
          have y1 : w3.cell? ⟨w2.heap.size, 1, none⟩ = some (.int .u8 (b1.toNat : Int)) := hat.c1
          have y2 : w3.cell? ⟨w2.heap.size, 2, none⟩ = some (.int .u8 (b2.toNat : Int)) := hat.c2
          have y3 : w3.cell? ⟨w2.heap.size, 3, none⟩ = some (.int .u8 (b3.toNat : Int)) := hat.c3
          have y4 : w3.cell? ⟨w2.heap.size, 4, none⟩ = some (.int .u8 (b4.toNat : Int)) := hat.c4
          have y5 : w3.cell? ⟨w2.heap.size, 5, none⟩ = some (.int .u8 (b5.toNat : Int)) := hat.c5
          have y6 : w3.cell? ⟨w2.heap.size, 6, none⟩ = some (.int .u8 (b6.toNat : Int)) := hat.c6
          have y7 : w3.cell? ⟨w2.heap.size, 7, none⟩ = some (.int .u8 (b7.toNat : Int)) := hat.c7
          have y8 : w3.cell? ⟨w2.heap.size, 8, none⟩ = some (.int .i64 k1) := hat.c8
          have y9 : w3.cell? ⟨w2.heap.size, 9, none⟩ = some (.int .i64 p1) := hat.c9
          have y10 : w3.cell? ⟨w2.heap.size, 10, none⟩ = some (.int .i64 a1) := hat.c10
          have y11 : w3.cell? ⟨w2.heap.size, 11, none⟩ = some (.int .i64 l1) := hat.c11
          clear hat
          have hone := one_cells w3 (pl12 b0 b1 b2 b3 b4 b5 b6 b7 k1 p1 a1 l1).toList 29
          have hown4 := hown3.alloc (.cells (pl12 b0 b1 b2 b3 b4 b5 b6 b7 k1 p1 a1 l1) 29)
          have HB4 : Hid (Below w.heap.size w (w3.alloc (.cells (pl12 b0 b1 b2 b3 b4 b5 b6 b7 k1 p1 a1 l1) 29))) := HB3.out.alloc HB3.out.size _
          have hsa : w.heap.size ≤ (w3.alloc (.cells (pl12 b0 b1 b2 b3 b4 b5 b6 b7 k1 p1 a1 l1) 29)).heap.size := HB4.out.size
          have hsb : w.heap.size ≤ w3.heap.size + 1 := by have := HB3.out.size; omega
          have hk4 : k ≤ 400 := by omega
          go_wp2_with (at_builtin; refine wpList_append_own _ rfl (.tmp 33) (.tmp 35) 22 rfl w.heap.size 29 i0 (plV pl0) 12 40 Try.underlying22 hi hz0 hz1 hz2 (by kernel_rfl) (by decide) _ _ _ rfl hown4 ⟨w3.heap.size, 0, none⟩ 1 1 (pl12 b0 b1 b2 b3 b4 b5 b6 b7 k1 p1 a1 l1).toList rfl rfl hone ?c2 ?c3 ?c4 ?c5 ?_)
          case c2 => exact ⟨rfl, rfl, rfl, rfl, rfl, rfl, rfl, rfl, rfl, rfl, rfl, rfl⟩
          case c3 => unfold maxLen; omega
          case c4 => omega
          intro v5 w5 o5 g5 _
          have HO5 : Hid (w5.ownsRow w.heap.size 29 12 v5 (k + 1) (rowR plC (O ++ [t]))) := by
            rw [rowR_more, HT12.out]
            exact o5
          have HB5 : Hid (Below w.heap.size w w5) := HB4.out.grown g5 hsa fun j hj => (hown4.lt j hj).1
          have HL5 : Hid ((O ++ [t]).length = k + 1) := by show (O ++ [t]).length = _; rw [List.length_append, hO.out]; rfl
          clear o5 g5 hown4 hown3 hone HB4 HB3 hsa hsb y0 y1 y2 y3 y4 y5 y6 y7 y8 y9 y10 y11
          go_wp2_with fail
          go_roundw
          case rel => exact ⟨k + 1, q2, O ++ [t], by omega, by go_num, rfl, HQ2, HL5, HR2, HO5, HB5⟩
          case measure => simp only [intOf]; omega
        · have HR2 : Hid (R = ([], er)) := by
            show _ = _
            rw [hr.out, show n - k = (n - (k + 1)) + 1 from by omega, rdAll_turn, ho.1, if_pos qe]
          have hqe : (er == 0) = false := by simpa using qe
          have hqe' : (er != 0) = true := by simpa using qe
          clear ht12 ho hown hown2 hown3 hr b2' qe hat
          go_wp2_with fail
          go_ret2
          exact ⟨.slice none 0 0, by rw [HR2.out]; rfl, by rw [HR2.out]; exact PlOut.nil HB3.out⟩
      · obtain rfl : k = n := by omega
        rw [Nat.sub_self, rdAll_end] at hr
        have hown1 := hown.out
        rw [← hO.out] at hown1
        have hown' := hown1
        clear hown1
        have hP := Rx.of_own (l := O) plC_length hown'
        obtain ⟨so, co, hvo, _, _⟩ := hP.slice
        subst hvo
        have HNB : Hid (∀ a n c, (Value.slice so O.length co) = .slice (some a) n c → w.heap.size ≤ a.block) := fun a n c e => by
          rcases hown'.2 with ⟨e1, _⟩ | ⟨g, cap, cur, e1, hb, _⟩
          · rw [e1] at e; simp at e
          · rw [e1, Value.slice.injEq] at e
            obtain ⟨rfl, _⟩ := Option.some.inj e.1
            exact hb
        have HP : Hid (Px wr (.slice so O.length co) O) := hP
        have HBW : Hid (Below w.heap.size w wr) := hbel.out
        have hlq : q.data.toList.length = q.size := (Lib.size_eq q).symm
        have lO : O.length ≤ 140737488351232 := by rw [hO.out]; omega
        clear hP hown hown' hrp hbel
        by_cases qs : q.size = 0
        · have hqn : q.data.toList = [] := List.length_eq_zero_iff.1 (by omega)
          rw [hqn, if_neg (fun h => h rfl)] at hr
          have hck := check_any _ O wr HP.out lO
          obtain ⟨ec, hec⟩ : ∃ ec, Ix.check (ps O) = ec := ⟨_, rfl⟩
          rw [hec] at hck hr
          have hd : decide ((0 : Int) < (q.size : Int)) = false := decide_eq_false (by omega)
          have hd' : decide (0 < q.size) = false := decide_eq_false (by omega)
          have hd2 : (0 < q.size) = False := eq_false (by omega)
          by_cases qc : ec = 0
          · subst qc
            rw [if_neg (fun h => h rfl)] at hr
            clear hqn hec hlq qs
            go_wp2_with (go_at_call 18; refine hck.mono ?_; rintro e w6 ⟨rfl, b6⟩)
            go_ret2
            refine ⟨.slice so O.length co, by rw [hr.out]; rfl, ?_⟩
            rw [hr.out]
            exact ⟨O, rfl, HP.out.below b6, HNB.out, HBW.out.trans (b6.mono HBW.out.size)⟩
          · rw [if_pos qc] at hr
            have hqe : (ec == 0) = false := by simpa using qc
            have hqe' : (ec != 0) = true := by simpa using qc
            clear hqn hec hlq qs qc
            go_wp2_with (go_at_call 18; refine hck.mono ?_; rintro e w6 ⟨rfl, b6⟩)
            go_ret2
            exact ⟨.slice none 0 0, by rw [hr.out]; rfl, by rw [hr.out]; exact PlOut.nil (HBW.out.trans (b6.mono HBW.out.size))⟩
        · have hqn : q.data.toList ≠ [] := fun e => by rw [e] at hlq; simp at hlq; omega
          rw [if_pos hqn] at hr
          have hd : decide ((0 : Int) < (q.size : Int)) = true := decide_eq_true (by omega)
          have hd' : decide (0 < q.size) = true := decide_eq_true (by omega)
          clear hqn hlq qs
          go_wp2_with fail
          go_ret2
          exact ⟨.slice none 0 0, by rw [hr.out]; rfl, by rw [hr.out]; exact PlOut.nil HBW.out⟩
  · rw [if_pos q0] at hrr
    have HR2 : Hid (R = ([], e0)) := hrr
    have hqe : (e0 == 0) = false := by simpa using q0
    have hqe' : (e0 != 0) = true := by simpa using q0
    clear q0 hrr hrp
    go_enter Try.func7, Try.ntmps7
    go_wp2_with (go_at_call 20; refine hrn.mono ?_; rintro e w1 ⟨s1, rfl, hs1, hz1', bw1⟩)
    go_ret2
    exact ⟨.slice none 0 0, by rw [HR2.out]; rfl, by rw [HR2.out]; exact PlOut.nil bw1⟩

theorem read_tell {s : ByteArray} {w : World} {out : List Ix.Pl} {er : Int} (he : Ix.read s.data.toList = (out, er)) (hs : s.size ≤ 140737488351232) :
    Calls Try.prog 7 #[.string s] w fun e w' => ∃ s c l, e = .returned (.tuple #[.slice s l.length c, .int .i64 er]) ∧ MgOut w w' s c l out := by
  refine (ixread_any s w hs).mono fun e w' ⟨x, hx, ho⟩ => ?_
  rw [he] at hx ho
  obtain ⟨s, c, l, rfl, h2⟩ := MgOut.of ho
  exact ⟨s, c, l, hx, h2⟩
end Go.Proofs.Ytllioidjelgafab
