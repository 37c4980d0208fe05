/-
  The walk of lumkeep.ShieldFar: it returns true.
-/
import Derived.Test.YtoeohnknpbdgdaaDoorShFields
namespace Go.Proofs.YtoeohnknpbdgdaaDoor
open Go.RowKit
set_option maxRecDepth 4000

/-- shards, whatever comes in -/
theorem shards_ans (v : Value) (P : List ByteArray) (p : Int) (b : Nat) (w : World) (h : Tx w v P) (hl : P.length ≤ 140737488351232) (hb : b < 18446744073709551616) :
    Calls Tryd.prog 5 #[v, .int .i64 p, .int .u64 b] w fun e w' => ∃ a n c t, e = .returned (.tuple #[.slice a n c, .bool t]) ∧ Below w.heap.size w w' := by
  by_cases he : gErr P p = 0
  · obtain ⟨p, rfl⟩ := Int.eq_ofNat_of_zero_le (a := p) (by have := gErr_zero he; omega)
    exact (shards_ok v P p b w h he hb).mono fun e w' ⟨u, a1, a2, a3⟩ => by
      obtain ⟨a, c, rfl⟩ := own_len a2
      exact ⟨a, _, c, true, a1, a3⟩
  · exact (shards_bad v P p b w h hl he).mono fun e w' ⟨a1, a2⟩ => ⟨_, _, _, false, a1, by rw [a2]; exact Below.refl _ _⟩
theorem bit_forty : ∀ k, k < 24 → bitF 1099511627775 k = true := by decide

set_option maxHeartbeats 2000000 in
theorem far_one (v u : Value) (P Q : List ByteArray) (p : Int) (w : World) (h : Tx w v P) (k : Tx w u Q) (hl : P.length ≤ 140737488351232) (hk : Q.length ≤ 140737488351232) (he : gErr P p ≠ 0) :
    Calls Tryd.prog 3 #[v, u, .int .i64 p] w fun e w' => e = .returned (.bool true) ∧ Below w.heap.size w w' := by
  have h1 : Calls Tryd.prog 5 #[v, .int .i64 p, .int .u64 1099511627775] w fun e w' => e = .returned (.tuple #[.slice none 0 0, .bool false]) ∧ w' = w := shards_bad v P p 1099511627775 w h hl he
  have h2 : Calls Tryd.prog 5 #[u, .int .i64 p, .int .u64 1099511627775] w fun e w' => ∃ a n c t, e = .returned (.tuple #[.slice a n c, .bool t]) ∧ Below w.heap.size w w' := shards_ans u Q p 1099511627775 w k hk (by omega)
  have h3 := shields_any
  obtain ⟨a, c, rfl⟩ := h.slice
  obtain ⟨a', c', rfl⟩ := k.slice
  clear h k he
  generalize P.length = n1 at *
  generalize Q.length = n2 at *
  go_enter Tryd.func3, Tryd.ntmps3
  go_wp2_with fail
  refine h1.mono ?_
  rintro e w0 ⟨rfl, hu⟩
  obtain rfl := hu.symm
  clear hu h1
  go_wp2_with fail
  refine h2.mono ?_
  rintro e w1 ⟨x1, x2, x3, x4, rfl, hb⟩
  have HB1 : Hid (Below w.heap.size w w1) := hb
  clear hb h2
  go_wp2_with fail
  refine (h3 _).mono ?_
  rintro e w2 ⟨rfl, hb⟩
  have HB2 : Hid (Below w.heap.size w w2) := HB1.out.trans (hb.mono HB1.out.size)
  clear hb h3 HB1
  have hne : Nonempty (Since w2.heap.size w2) := ⟨⟨w2, Below.refl _ _⟩⟩
  go_wp2_with fail
  refine wp_region_since (B := w2.heap.size) (W0 := w2) (by kernel_rfl) (by kernel_rfl) (Below.refl _ _) ?_
  repeat (go_big_quiet_step (fail))
  refine wpQuiet_nil ?_
  rintro w7 ⟨U, rfl⟩
  have HB3 : Hid (Below w.heap.size w U.val) := HB2.out.trans (U.property.mono HB2.out.size)
  generalize U.val = w7 at *
  go_wp2_with fail
  go_ret
  exact ⟨rfl, HB3.out⟩

set_option maxHeartbeats 2000000 in
theorem far_two (v u : Value) (P Q : List ByteArray) (p : Nat) (w : World) (h : Tx w v P) (k : Tx w u Q) (hk : Q.length ≤ 140737488351232) (he : gErr P p = 0) (he2 : gErr Q p ≠ 0) :
    Calls Tryd.prog 3 #[v, u, .int .i64 p] w fun e w' => e = .returned (.bool true) ∧ Below w.heap.size w w' := by
  have h1 : Calls Tryd.prog 5 #[v, .int .i64 p, .int .u64 1099511627775] w fun e w' => ∃ x, e = .returned (.tuple #[x, .bool true]) ∧ w'.ownsRow w.heap.size 31 2 x (P.length + p) (rowS (shs P 1099511627775 (P.length + p))) ∧ Below w.heap.size w w' := shards_ok v P p 1099511627775 w h he (by omega)
  have h2 : ∀ W, Below w.heap.size w W → Calls Tryd.prog 5 #[u, .int .i64 p, .int .u64 1099511627775] W fun e w' => e = .returned (.tuple #[.slice none 0 0, .bool false]) ∧ w' = W := fun W hW => shards_bad u Q p 1099511627775 W (k.below hW) hk he2
  have h3 := shields_any
  obtain ⟨a, c, rfl⟩ := h.slice
  obtain ⟨a', c', rfl⟩ := k.slice
  clear h k he he2
  go_enter Tryd.func3, Tryd.ntmps3
  go_wp2_with fail
  refine h1.mono ?_
  rintro e w1 ⟨x, rfl, hown, hb⟩
  obtain ⟨xa, xc, rfl⟩ := own_len hown
  have h2' := h2 w1 hb
  have HB1 : Hid (Below w.heap.size w w1) := hb
  clear hb h1 hown h2
  generalize P.length = n1 at *
  generalize Q.length = n2 at *
  go_wp2_with fail
  refine h2'.mono ?_
  rintro e w0 ⟨rfl, hu⟩
  obtain rfl := hu.symm
  clear hu h2'
  go_wp2_with fail
  refine (h3 _).mono ?_
  rintro e w2 ⟨rfl, hb⟩
  have HB2 : Hid (Below w.heap.size w w2) := HB1.out.trans (hb.mono HB1.out.size)
  clear hb h3 HB1
  have hne : Nonempty (Since w2.heap.size w2) := ⟨⟨w2, Below.refl _ _⟩⟩
  go_wp2_with fail
  refine wp_region_since (B := w2.heap.size) (W0 := w2) (by kernel_rfl) (by kernel_rfl) (Below.refl _ _) ?_
  repeat (go_big_quiet_step (fail))
  refine wpQuiet_nil ?_
  rintro w7 ⟨U, rfl⟩
  have HB3 : Hid (Below w.heap.size w U.val) := HB2.out.trans (U.property.mono HB2.out.size)
  generalize U.val = w7 at *
  go_wp2_with fail
  go_ret
  exact ⟨rfl, HB3.out⟩

set_option maxHeartbeats 4000000 in
theorem far_ok (v u : Value) (P Q : List ByteArray) (p : Nat) (w : World) (h : Tx w v P) (k : Tx w u Q) (he : gErr P p = 0) (he2 : gErr Q p = 0) :
    Calls Tryd.prog 3 #[v, u, .int .i64 p] w fun e w' => e = .returned (.bool true) ∧ Below w.heap.size w w' := by
  obtain ⟨p1, p2, p3, p4, p5⟩ := gErr_zero he
  obtain ⟨q1, q2, q3, q4, q5⟩ := gErr_zero he2
  have h1 : Calls Tryd.prog 5 #[v, .int .i64 p, .int .u64 1099511627775] w fun e w' => ∃ x, e = .returned (.tuple #[x, .bool true]) ∧ w'.ownsRow w.heap.size 31 2 x (P.length + p) (rowS (shs P 1099511627775 (P.length + p))) ∧ Below w.heap.size w w' := shards_ok v P p 1099511627775 w h he (by omega)
  have H2 : Hid (∀ W, Below w.heap.size w W → Calls Tryd.prog 5 #[u, .int .i64 p, .int .u64 1099511627775] W fun e w' => ∃ x, e = .returned (.tuple #[x, .bool true]) ∧ w'.ownsRow W.heap.size 31 2 x (Q.length + p) (rowS (shs Q 1099511627775 (Q.length + p))) ∧ Below W.heap.size W w') := fun W hW => shards_ok u Q p 1099511627775 W (k.below hW) he2 (by omega)
  have h3 := shields_any
  have HSL : Hid ((shs P 1099511627775 (P.length + p)).length = P.length + p ∧ (shs Q 1099511627775 (Q.length + p)).length = Q.length + p) := ⟨shs_length _ _ _, shs_length _ _ _⟩
  have HG : Hid ((∀ j, j < P.length + p → (shs P 1099511627775 (P.length + p)).getD j Shd.none = ⟨true, shd P j⟩) ∧ ∀ j, j < Q.length + p → (shs Q 1099511627775 (Q.length + p)).getD j Shd.none = ⟨true, shd Q j⟩) := by
    refine ⟨fun j hj => ?_, fun j hj => ?_⟩
    · rw [shs_get hj, mk1, if_pos (bit_forty j (by omega))]
    · rw [shs_get hj, mk1, if_pos (bit_forty j (by omega))]
  have HFar : Hid (Q.length = P.length → (P.getD 0 ByteArray.empty).size = (Q.getD 0 ByteArray.empty).size → P ≠ Q → p < dif P Q (P.length + p)) := fun hl hs hne => by
    have h1 := same_lt (m := (P.getD 0 ByteArray.empty).size) p1 p2 hl (sizes_zero p5) (fun s hs' => by rw [hs]; exact sizes_zero q5 s hs') hne (P.length + p) (by omega)
    have h2 := dif_same P Q (P.length + p)
    omega
  have HX : Hid (Tx w v P) := h
  have HY : Hid (Tx w u Q) := k
  have HEt : Hid (P = Q → ∀ W, Below w.heap.size w W → Calls Tryd.prog 7 #[v, u] W fun e w' => e = .returned (.bool true) ∧ Below W.heap.size W w') := fun e W hW => equal_txs v u P W (h.below hW) (by rw [e]; exact k.below hW) (by omega)
  have HEf : Hid (P ≠ Q → ∀ W, Below w.heap.size w W → Calls Tryd.prog 7 #[v, u] W fun e w' => e = .returned (.bool false) ∧ Below W.heap.size W w') := fun e W hW => equal_not v u P Q W (h.below hW) (k.below hW) (by omega) e
  have HDl : Hid (∀ q, dif P Q q ≤ q) := fun q => by have := dif_same P Q q; omega
  obtain ⟨a, c, rfl⟩ := h.slice
  obtain ⟨a', c', rfl⟩ := k.slice
  obtain ⟨bk, o, rfl, hbk, e0⟩ := h.zero (by omega)
  obtain ⟨bk', o', rfl, hbk', e0'⟩ := k.zero (by omega)
  have HE0 : Hid (w.cell? ⟨bk, o, none⟩ = some (.string (P.getD 0 ByteArray.empty)) ∧ w.cell? ⟨bk', o', none⟩ = some (.string (Q.getD 0 ByteArray.empty))) := ⟨e0, e0'⟩
  generalize shs P 1099511627775 (P.length + p) = L at *
  generalize shs Q 1099511627775 (Q.length + p) = M at *
  clear h k he he2 p5 q5 e0 e0'
  generalize P.getD 0 ByteArray.empty = sp at *
  generalize Q.getD 0 ByteArray.empty = sq at *
  generalize P.length = n at *
  generalize Q.length = n2 at *
  go_enter Tryd.func3, Tryd.ntmps3
  go_wp2_with fail
  refine h1.mono ?_
  rintro e w1 ⟨x, rfl, hown, hb⟩
  obtain ⟨xa, xc, rfl⟩ := own_len hown
  have h2 := H2.out w1 hb
  have HB1 : Hid (Below w.heap.size w w1) := hb
  have HS1 : Hid (Sx w1 (.slice xa (n + p) xc) L) := Sx.of_own (by rw [HSL.out.1]; exact hown)
  clear hb h1 hown H2
  go_wp2_with fail
  refine h2.mono ?_
  rintro e w2 ⟨x, rfl, hown, hb⟩
  obtain ⟨ya, yc, rfl⟩ := own_len hown
  have HB2 : Hid (Below w.heap.size w w2) := HB1.out.trans (hb.mono HB1.out.size)
  have HS2 : Hid (Sx w2 (.slice xa (n + p) xc) L) := HS1.out.below hb
  have HT2 : Hid (Sx w2 (.slice ya (n2 + p) yc) M) := Sx.of_own (by rw [HSL.out.2]; exact hown)
  clear hb h2 hown HB1 HS1
  go_wp2_with fail
  refine (h3 _).mono ?_
  rintro e w3 ⟨rfl, hb⟩
  have HB3 : Hid (Below w.heap.size w w3) := HB2.out.trans (hb.mono HB2.out.size)
  have HS3 : Hid (Sx w3 (.slice xa (n + p) xc) L) := HS2.out.below hb
  have HT3 : Hid (Sx w3 (.slice ya (n2 + p) yc) M) := HT2.out.below hb
  clear hb h3 HB2 HS2 HT2
  have hne : Nonempty (Since w3.heap.size w3) := ⟨⟨w3, Below.refl _ _⟩⟩
  have x0 : ∀ X : Since w3.heap.size w3, X.val.cell? ⟨bk, o, none⟩ = some (.string sp) := fun X => ((HB3.out.trans (X.property.mono HB3.out.size)).cell (p := ⟨bk, o, none⟩) hbk).trans HE0.out.1
  have y0 : ∀ X : Since w3.heap.size w3, X.val.cell? ⟨bk', o', none⟩ = some (.string sq) := fun X => ((HB3.out.trans (X.property.mono HB3.out.size)).cell (p := ⟨bk', o', none⟩) hbk').trans HE0.out.2
  by_cases g1 : n2 = n
  · subst g1
    have w1' : ((n2 + p : Nat) != (n2 + p : Nat)) = false := bne_self_eq_false ..
    by_cases g2 : sp.size = sq.size
    · have w2' : ((sp.size : Int) != (sq.size : Int)) = false := by rw [bne_eq_false_iff_eq]; omega
      by_cases g3 : P = Q
      · have hS : ∀ X : Since w3.heap.size w3, Calls Tryd.prog 7 #[.slice (some ⟨bk, o, none⟩) n2 c, .slice (some ⟨bk', o', none⟩) n2 c'] X.val fun e w'' => e = .returned (.bool true) ∧ ∃ Y : Since w3.heap.size w3, w'' = Y.val := fun X => quiet_since X (HEt.out g3 X.val (HB3.out.trans (X.property.mono HB3.out.size)))
        clear HFar HEt HEf g2 g3 HG HDl
        go_wp2_with fail
        refine wp_region_since (B := w3.heap.size) (W0 := w3) (by kernel_rfl) (by kernel_rfl) (Below.refl _ _) ?_
        repeat (go_big_quiet_step (fail))
        go_big_quiet_step (exact hS _)
        repeat (go_big_quiet_step (fail))
        refine wpQuiet_nil ?_
        rintro w7 ⟨U, rfl⟩
        have HB7 : Hid (Below w.heap.size w U.val) := HB3.out.trans (U.property.mono HB3.out.size)
        generalize U.val = w7 at *
        clear x0 y0 hne hS
        go_wp2_with fail
        go_ret
        exact ⟨rfl, HB7.out⟩
      · have hS : ∀ X : Since w3.heap.size w3, Calls Tryd.prog 7 #[.slice (some ⟨bk, o, none⟩) n2 c, .slice (some ⟨bk', o', none⟩) n2 c'] X.val fun e w'' => e = .returned (.bool false) ∧ ∃ Y : Since w3.heap.size w3, w'' = Y.val := fun X => quiet_since X (HEf.out g3 X.val (HB3.out.trans (X.property.mono HB3.out.size)))
        have hfar := HFar.out rfl g2 g3
        have HTB : Hid (∀ X : Since w3.heap.size w3, Sx X.val (.slice xa (n2 + p) xc) L ∧ Sx X.val (.slice ya (n2 + p) yc) M ∧ Below w.heap.size w X.val) := fun X => ⟨HS3.out.below X.property, HT3.out.below X.property, HB3.out.trans (X.property.mono HB3.out.size)⟩
        have HFr : Hid (p < dif P Q (n2 + p)) := hfar
        clear HFar HEt HEf g2 g3 hfar HB3 HS3 HT3
        go_wp2_with fail
        refine wp_region_since (B := w3.heap.size) (W0 := w3) (by kernel_rfl) (by kernel_rfl) (Below.refl _ _) ?_
        repeat (go_big_quiet_step (fail))
        go_big_quiet_step (exact hS _)
        repeat (go_big_quiet_step (fail))
        refine wpQuiet_nil ?_
        rintro w7 ⟨U, rfl⟩
        obtain ⟨r1, r2, r3⟩ := HTB.out U
        have HR1 : Hid (Sx U.val (.slice xa (n2 + p) xc) L) := r1
        have HR2 : Hid (Sx U.val (.slice ya (n2 + p) yc) M) := r2
        have HR3 : Hid (Below w.heap.size w U.val) := r3
        generalize U.val = w7 at *
        clear x0 y0 hne hS HTB r1 r2 r3
        go_wp2_with fail
        go_loopw [13, 64] (fun nv i wr => ∃ k : Nat, k ≤ n2 + p ∧ i = .int .i64 k ∧ nv = .int .i64 (dif P Q k : Nat) ∧ Hid (Sx wr (.slice xa (n2 + p) xc) L) ∧ Hid (Sx wr (.slice ya (n2 + p) yc) M) ∧ Hid (Below w.heap.size w wr)) (fun _ i _ => n2 + p - (intOf i).toNat)
        case atStart => exact ⟨0, by omega, rfl, rfl, HR1, HR2, HR3⟩
        case round =>
          clear HR1 HR2 HR3
          obtain ⟨k, hk, rfl, rfl, HS, HT, HB⟩ := hrel
          have hd := HDl.out k
          by_cases hlt : k < n2 + p
          · obtain ⟨bk3, o3, rfl, hbk3, c0, c1⟩ := HS.out.get k (by rw [HSL.out.1]; exact hlt)
            obtain ⟨bk4, o4, rfl, hbk4, d0, d1⟩ := HT.out.get k (by rw [HSL.out.2]; exact hlt)
            rw [HG.out.1 k hlt] at c0 c1
            rw [HG.out.2 k hlt] at d0 d1
            dsimp only at c0 c1 d0 d1
            have HDk : Hid (dif P Q (k + 1) = dif P Q k + if shd P k = shd Q k then 0 else 1) := rfl
            have x0 : ∀ X : Since wr.heap.size wr, X.val.cell? ⟨bk3, o3 + k * 2, none⟩ = some (.bool true) := fun X => (X.property.cell (p := ⟨bk3, o3 + k * 2, none⟩) hbk3).trans c0
            have x1 : ∀ X : Since wr.heap.size wr, X.val.cell? ⟨bk3, o3 + k * 2 + 1, none⟩ = some (.string (shd P k)) := fun X => (X.property.cell (p := ⟨bk3, o3 + k * 2 + 1, none⟩) hbk3).trans c1
            have y0 : ∀ X : Since wr.heap.size wr, X.val.cell? ⟨bk4, o4 + k * 2, none⟩ = some (.bool true) := fun X => (X.property.cell (p := ⟨bk4, o4 + k * 2, none⟩) hbk4).trans d0
            have y1 : ∀ X : Since wr.heap.size wr, X.val.cell? ⟨bk4, o4 + k * 2 + 1, none⟩ = some (.string (shd Q k)) := fun X => (X.property.cell (p := ⟨bk4, o4 + k * 2 + 1, none⟩) hbk4).trans d1
            have hne : Nonempty (Since wr.heap.size wr) := ⟨⟨wr, Below.refl _ _⟩⟩
            have HTB : Hid (∀ X : Since wr.heap.size wr, Sx X.val (.slice (some ⟨bk3, o3, none⟩) (n2 + p) xc) L ∧ Sx X.val (.slice (some ⟨bk4, o4, none⟩) (n2 + p) yc) M ∧ Below w.heap.size w X.val) := fun X => ⟨HS.out.below X.property, HT.out.below X.property, HB.out.trans (X.property.mono HB.out.size)⟩
            have hte := fun W => shd_cmp W true (shd P k) (shd Q k)
            clear c0 c1 d0 d1 HS HT HB HFr
            by_cases hsame : shd P k = shd Q k
            · have HDn : Hid (dif P Q (k + 1) = dif P Q k) := by have := HDk.out; rwa [if_pos hsame] at this
              rw [← hsame, text_same] at hte
              rw [← hsame] at y1
              generalize shd P k = s1 at *
              generalize dif P Q k = dn at *
              clear hsame HDk
              go_wp2_with fail
              refine wp_region_since (B := wr.heap.size) (W0 := wr) (by kernel_rfl) (by kernel_rfl) (Below.refl _ _) ?_
              repeat (go_big_quiet_step (fail))
              refine wpQuiet_nil ?_
              rintro w8 ⟨U, rfl⟩
              obtain ⟨r1, r2, r3⟩ := HTB.out U
              have HY2 : Hid (Sx U.val (.slice (some ⟨bk3, o3, none⟩) (n2 + p) xc) L ∧ Sx U.val (.slice (some ⟨bk4, o4, none⟩) (n2 + p) yc) M ∧ Below w.heap.size w U.val) := ⟨r1, r2, r3⟩
              generalize U.val = w8 at *
              clear r1 r2 r3 x0 x1 y0 y1 hne HTB hte
              go_wp2_with fail
              go_roundw
              case rel => exact ⟨k + 1, by omega, by go_num, by rw [HDn.out], HY2.out.1, HY2.out.2.1, HY2.out.2.2⟩
              case measure => simp only [intOf]; omega
            · have HDn : Hid (dif P Q (k + 1) = dif P Q k + 1) := by have := HDk.out; rwa [if_neg hsame] at this
              rw [text_ne hsame] at hte
              generalize shd P k = s1 at *
              generalize shd Q k = s2 at *
              generalize dif P Q k = dn at *
              clear HDk
              go_wp2_with fail
              refine wp_region_since (B := wr.heap.size) (W0 := wr) (by kernel_rfl) (by kernel_rfl) (Below.refl _ _) ?_
              repeat (go_big_quiet_step (fail))
              refine wpQuiet_nil ?_
              rintro w8 ⟨U, rfl⟩
              obtain ⟨r1, r2, r3⟩ := HTB.out U
              have HY2 : Hid (Sx U.val (.slice (some ⟨bk3, o3, none⟩) (n2 + p) xc) L ∧ Sx U.val (.slice (some ⟨bk4, o4, none⟩) (n2 + p) yc) M ∧ Below w.heap.size w U.val) := ⟨r1, r2, r3⟩
              generalize U.val = w8 at *
              clear r1 r2 r3 x0 x1 y0 y1 hne HTB hte
              go_wp2_with fail
              go_roundw
              case rel => exact ⟨k + 1, by omega, by go_num, by rw [HDn.out]; go_num, HY2.out.1, HY2.out.2.1, HY2.out.2.2⟩
              case measure => simp only [intOf]; omega
          · obtain rfl : k = n2 + p := by omega
            have hfr := HFr.out
            clear HFr
            generalize dif P Q (n2 + p) = dn at *
            have hgt : (p : Int) < (dn : Int) := by omega
            go_wp2_with fail
            go_ret
            exact ⟨rfl, HB.out⟩
    · have w2' : ((sp.size : Int) != (sq.size : Int)) = true := by rw [bne_iff_ne]; omega
      clear HFar HEt HEf g2 HG HDl
      go_wp2_with fail
      refine wp_region_since (B := w3.heap.size) (W0 := w3) (by kernel_rfl) (by kernel_rfl) (Below.refl _ _) ?_
      repeat (go_big_quiet_step (fail))
      refine wpQuiet_nil ?_
      rintro w7 ⟨U, rfl⟩
      have HB7 : Hid (Below w.heap.size w U.val) := HB3.out.trans (U.property.mono HB3.out.size)
      generalize U.val = w7 at *
      clear x0 y0 hne
      go_wp2_with fail
      go_ret
      exact ⟨rfl, HB7.out⟩
  · have w1' : (((n + p : Nat) : Int) != ((n2 + p : Nat) : Int)) = true := by rw [bne_iff_ne]; omega
    have w1'' : ((n : Int) + (p : Int) != (n2 : Int) + (p : Int)) = true := by rw [bne_iff_ne]; omega
    clear HFar HEt HEf HG HDl
    go_wp2_with fail
    refine wp_region_since (B := w3.heap.size) (W0 := w3) (by kernel_rfl) (by kernel_rfl) (Below.refl _ _) ?_
    repeat (go_big_quiet_step (fail))
    refine wpQuiet_nil ?_
    rintro w7 ⟨U, rfl⟩
    have HB7 : Hid (Below w.heap.size w U.val) := HB3.out.trans (U.property.mono HB3.out.size)
    generalize U.val = w7 at *
    clear x0 y0 hne
    go_wp2_with fail
    go_ret
    exact ⟨rfl, HB7.out⟩

theorem shieldFar_walk (v0 : Value) (l0 : List ByteArray) (v1 : Value) (l1 : List ByteArray) (a2 : Int) (z0 : l0.length ≤ 140737488351232) (z1 : l1.length ≤ 140737488351232) (_w2 : (Lit.int .i64 a2).wf = true) (w : World) (t0 : Tx w v0 l0) (t1 : Tx w v1 l1) :
    Calls Tryd.prog 3 #[v0, v1, .int .i64 a2] w fun e w' => e = .returned (.bool true) ∧ Below w.heap.size w w' := by
  by_cases he : gErr l0 a2 = 0
  · obtain ⟨p, rfl⟩ := Int.eq_ofNat_of_zero_le (a := a2) (by have := gErr_zero he; omega)
    by_cases he2 : gErr l1 p = 0
    · exact far_ok v0 v1 l0 l1 p w t0 t1 he he2
    · exact far_two v0 v1 l0 l1 p w t0 t1 z1 he he2
  · exact far_one v0 v1 l0 l1 a2 w t0 t1 z0 z1 he
end Go.Proofs.YtoeohnknpbdgdaaDoor
