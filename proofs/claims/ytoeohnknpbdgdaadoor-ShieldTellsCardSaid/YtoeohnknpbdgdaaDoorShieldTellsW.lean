/-
  The walk of lumkeep.ShieldTells: it returns true.
-/
import Derived.Test.YtoeohnknpbdgdaaDoorShFields
import Derived.Test.YtoeohnknpbdgdaaDoorShTellM
import Derived.Test.YtoeohnknpbdgdaaDoorRest
namespace Go.Proofs.YtoeohnknpbdgdaaDoor
open Go.RowKit
set_option maxRecDepth 4000

theorem rowS_set (l : List Shd) (i : Nat) (t : Shd) (hi : i < l.length) : rowS (l.set i ⟨(l.getD i Shd.none).has, t.bytes⟩) = (rowS l).set (i * 2 + 1) (.string t.bytes) := by
  induction l generalizing i with
  | nil => simp at hi
  | cons a l ih =>
    cases i with
    | zero => rfl
    | succ i =>
      show shdC a ++ rowS (l.set i _) = (shdC a ++ rowS l).set ((i + 1) * 2 + 1) _
      have hl : (shdC a).length = 2 := rfl
      rw [List.getD_cons_succ, ih i (by simpa using hi), List.set_append_right _ _ (by omega), hl, show (i + 1) * 2 + 1 - 2 = i * 2 + 1 by omega]

set_option maxHeartbeats 1000000 in
theorem tells_bad (v : Value) (P : List ByteArray) (p : Int) (b : Nat) (k at_ by_ : Int) (w : World) (h : Tx w v P) (hl : P.length ≤ 140737488351232) (he : gErr P p ≠ 0) :
    Calls Tryd.prog 4 #[v, .int .i64 p, .int .u64 b, .int .i64 k, .int .i64 at_, .int .u8 by_] w fun e w' => e = .returned (.bool true) ∧ Below w.heap.size w w' := by
  have h1 := shards_bad v P p b w h hl he
  have h3 := shields_any w
  obtain ⟨a, c, rfl⟩ := h.slice
  clear h he
  go_enter Tryd.func4, Tryd.ntmps4
  go_wp2_with fail
  refine h1.mono ?_
  rintro e w0 ⟨rfl, hu⟩
  obtain rfl := hu.symm
  clear hu h1
  go_wp2_with fail
  refine h3.mono ?_
  rintro e w2 ⟨rfl, hb⟩
  have HB2 : Hid (Below w.heap.size w w2) := hb
  clear hb h3
  go_wp2_with fail
  go_ret
  exact ⟨rfl, HB2.out⟩

set_option maxHeartbeats 4000000 in
theorem tells_ok (v : Value) (P : List ByteArray) (p b : Nat) (kk at_ : Int) (y : Nat) (w : World) (h : Tx w v P) (he : gErr P p = 0) (hb64 : b < 18446744073709551616) (hy : y < 256) :
    Calls Tryd.prog 4 #[v, .int .i64 p, .int .u64 b, .int .i64 kk, .int .i64 at_, .int .u8 y] w fun e w' => e = .returned (.bool true) ∧ Below w.heap.size w w' := by
  obtain ⟨hP, hP2, hp, hp2, hs⟩ := gErr_zero he
  have h1 := shards_ok v P p b w h he hb64
  have h3 := shields_any
  have hsl := shs_length P b (P.length + p)
  have HCn : Hid (∀ k, Fd.cnt (hasF (shs P b (P.length + p))) k ≤ k) := fun k => by have := Fd.cnt_lost (hasF (shs P b (P.length + p))) k; omega
  -- what is told
  have HTell : Hid (P.length < Fd.cnt (hasF (shs P b (P.length + p))) (P.length + p) → ∀ i r, i < P.length + p → ((shs P b (P.length + p)).getD i Shd.none).has = true → r < ((shs P b (P.length + p)).getD i Shd.none).bytes.size → y ≠ 0 →
      ∀ s, s = bn ((nb ((shs P b (P.length + p)).getD i Shd.none).bytes).set r ((nb ((shs P b (P.length + p)).getD i Shd.none).bytes).getD r 0 ^^^ y)) → ∀ (u : Value) W, Sx W u ((shs P b (P.length + p)).set i ⟨true, s⟩) → Calls Tryd.prog 9 #[u, .int .i64 P.length] W fun e w' => e = .returned (.int .i64 6) ∧ Below W.heap.size W w') := fun hc i r hi ht hr hy0 s hs' u W hS => by
    have hb := byt_shs hi ht
    obtain ⟨c1, c2, c3⟩ := chg hr hy hy0
    rw [← hs'] at c2 c3
    have hsz : s.size = (P.getD 0 ByteArray.empty).size := by rw [c2]; exact shs_sizes he i hi ht
    have hne : s ≠ shd P i := by rw [← hb]; exact c3
    exact (check_ok u _ P.length W hS (mErr_told he hi ht hsz hc)).mono fun e w' ⟨z, h1, h2, h3⟩ => ⟨by rw [h2, told he hi ht hsz hc hne h1]; rfl, h3⟩
  have HSz : Hid (∀ i, i < P.length + p → ((shs P b (P.length + p)).getD i Shd.none).bytes.size ≤ 4096) := fun i hi => by
    by_cases ht : hasF (shs P b (P.length + p)) i = true
    · have := shs_sizes he i hi ht
      have := sizes_le hs
      omega
    · rw [hasF_shs hi] at ht
      rw [shs_get hi, mk1, if_neg ht]
      decide
  obtain ⟨a, c, rfl⟩ := h.slice
  clear h he hs
  generalize hLe : shs P b (P.length + p) = L at *
  clear hLe
  generalize P.length = n at *
  go_enter Tryd.func4, Tryd.ntmps4
  go_wp2_with fail
  refine h1.mono ?_
  rintro e w1 ⟨u, rfl, hown, hb⟩
  obtain ⟨va, vc, rfl⟩ := own_len hown
  have HB1 : Hid (Below w.heap.size w w1) := hb
  have HO1 : Hid (w1.ownsRow w.heap.size 31 2 (.slice va (n + p) vc) (n + p) (rowS L)) := hown
  have HSL : Hid (L.length = n + p) := hsl
  clear hb h1 hown hsl
  go_wp2_with fail
  refine (h3 _).mono ?_
  rintro e w2 ⟨rfl, hb⟩
  have HB2 : Hid (Below w.heap.size w w2) := HB1.out.trans (hb.mono HB1.out.size)
  have HO2 : Hid (w2.ownsRow w.heap.size 31 2 (.slice va (n + p) vc) (n + p) (rowS L)) := own_below HO1.out hb
  clear hb h3 HB1 HO1
  go_wp2_with fail
  go_loopw [17, 43] (fun mv i wr => ∃ k : Nat, k ≤ n + p ∧ i = .int .i64 k ∧ mv = .int .i64 (Fd.cnt (hasF L) k : Nat) ∧ Hid (wr.ownsRow w.heap.size 31 2 (.slice va (n + p) vc) (n + p) (rowS L)) ∧ Hid (Below w.heap.size w wr)) (fun _ i _ => n + p - (intOf i).toNat)
  case atStart => exact ⟨0, by omega, rfl, rfl, HO2, HB2⟩
  case round =>
    clear HO2 HB2
    obtain ⟨k, hk, rfl, rfl, HO, HB⟩ := hrel
    have hcn := HCn.out k
    have hSx : Sx wr (.slice va (n + p) vc) L := Sx.of_own (by rw [HSL.out]; exact HO.out)
    by_cases hlt : k < n + p
    · obtain ⟨bk, o, rfl, hbk, c0, c1⟩ := hSx.get k (by rw [HSL.out]; exact hlt)
      have HCk : Hid (Fd.cnt (hasF L) (k + 1) = Fd.cnt (hasF L) k + if (L.getD k Shd.none).has then 1 else 0) := rfl
      have HSn : Hid (∀ ob, (wr.alloc ob).ownsRow w.heap.size 31 2 (.slice (some ⟨bk, o, none⟩) (n + p) vc) (n + p) (rowS L) ∧ Below w.heap.size w (wr.alloc ob)) := fun ob => ⟨HO.out.alloc ob, HB.out.alloc HB.out.size _⟩
      clear HO HB hSx
      generalize L.getD k Shd.none = sd at *
      obtain ⟨hs1, sk⟩ := sd
      dsimp only at c0 c1 HCk
      clear HTell
      generalize hcc : Fd.cnt (hasF L) k = cn at *
      clear hcc
      cases hs1 with
      | true =>
        have HC1 : Hid (Fd.cnt (hasF L) (k + 1) = cn + 1) := HCk.out
        clear HCk
        go_wp2_with fail
        go_roundw
        case rel => exact ⟨k + 1, by omega, by go_num, by rw [HC1.out]; go_num, (HSn.out _).1, (HSn.out _).2⟩
        case measure => simp only [intOf]; omega
      | false =>
        have HC1 : Hid (Fd.cnt (hasF L) (k + 1) = cn) := HCk.out
        clear HCk
        go_wp2_with fail
        go_roundw
        case rel => exact ⟨k + 1, by omega, by go_num, by rw [HC1.out], (HSn.out _).1, (HSn.out _).2⟩
        case measure => simp only [intOf]; omega
    · obtain rfl : k = n + p := by omega
      have hrest := rest_any kk (n + p) wr (by omega) (by omega)
      have hTell := HTell.out
      clear HTell
      generalize Fd.cnt (hasF L) (n + p) = cn at *
      have HTell : Hid (n < cn → ∀ i r, i < n + p → (L.getD i Shd.none).has = true → r < (L.getD i Shd.none).bytes.size → y ≠ 0 → ∀ s, s = bn ((nb (L.getD i Shd.none).bytes).set r ((nb (L.getD i Shd.none).bytes).getD r 0 ^^^ y)) → ∀ (u : Value) W, Sx W u (L.set i ⟨true, s⟩) → Calls Tryd.prog 9 #[u, .int .i64 n] W fun e w' => e = .returned (.int .i64 6) ∧ Below W.heap.size W w') := hTell
      clear hTell
      go_wp2_with fail
      refine hrest.mono ?_
      rintro e w3 ⟨⟨i, hi, rfl⟩, hu⟩
      obtain rfl := hu.symm
      clear hu hrest
      obtain ⟨bk, o, rfl, hbk, c0, c1⟩ := hSx.get i (by rw [HSL.out]; exact hi)
      have hsz := HSz.out i hi
      have HT2 := fun hc => HTell.out hc i
      have HT : Hid (n < cn → ∀ r, (L.getD i Shd.none).has = true → r < (L.getD i Shd.none).bytes.size → y ≠ 0 → ∀ s, s = bn ((nb (L.getD i Shd.none).bytes).set r ((nb (L.getD i Shd.none).bytes).getD r 0 ^^^ y)) → ∀ (u : Value) W, Sx W u (L.set i ⟨true, s⟩) → Calls Tryd.prog 9 #[u, .int .i64 n] W fun e w' => e = .returned (.int .i64 6) ∧ Below W.heap.size W w') := fun hc r ht => HT2 hc r hi ht
      have HRow : Hid (∀ s, rowS (L.set i ⟨(L.getD i Shd.none).has, s⟩) = (rowS L).set (i * 2 + 1) (.string s)) := fun s => rowS_set L i ⟨true, s⟩ (by rw [HSL.out]; exact hi)
      obtain ⟨W1, cap, hcv, hob, hbel, hlt1⟩ := conv_ob wr (L.getD i Shd.none).bytes
      have d0 : W1.cell? ⟨bk, o + i * 2, none⟩ = some (.bool (L.getD i Shd.none).has) := (hbel.cell (p := ⟨bk, o + i * 2, none⟩) hbk).trans c0
      have d1 : W1.cell? ⟨bk, o + i * 2 + 1, none⟩ = some (.string (L.getD i Shd.none).bytes) := (hbel.cell (p := ⟨bk, o + i * 2 + 1, none⟩) hbk).trans c1
      have hwr : w.heap.size ≤ wr.heap.size := HB.out.size
      have HO1 : Hid (W1.ownsRow w.heap.size 31 2 (.slice (some ⟨bk, o, none⟩) (n + p) vc) (n + p) (rowS L)) := own_below HO.out hbel
      have HB1 : Hid (Below w.heap.size w W1) := HB.out.trans (hbel.mono HB.out.size)
      have HOb : Hid (Ob W1 wr.heap.size (.slice (some ⟨wr.heap.size, 0, none⟩) (L.getD i Shd.none).bytes.size cap) (nb (L.getD i Shd.none).bytes)) := hob
      clear HTell HT2 hSx HO HB hob hbel HSz
      generalize L.getD i Shd.none = sd at *
      obtain ⟨hs1, sk⟩ := sd
      dsimp only at c0 c1 d0 d1 HT HRow hcv HOb hsz
      by_cases g1 : cn ≤ n
      · clear HT HOb HRow
        go_wp2_with fail
        go_ret
        exact ⟨rfl, HB1.out⟩
      · cases hs1 with
        | false =>
          clear HT HOb HRow
          go_wp2_with fail
          go_ret
          exact ⟨rfl, HB1.out⟩
        | true =>
          by_cases g2 : sk.size = 0
          · have g2' : ((sk.size : Int) == 0) = true := by rw [g2]; rfl
            clear HT HOb HRow g2
            go_wp2_with fail
            go_ret
            exact ⟨rfl, HB1.out⟩
          · have g2' : ((sk.size : Int) == 0) = false := by rw [beq_eq_false_iff_ne]; omega
            by_cases g3 : y = 0
            · subst g3
              clear HT HOb HRow
              go_wp2_with fail
              go_ret
              exact ⟨rfl, HB1.out⟩
            · have g3' : ((y : Int) == 0) = false := by rw [beq_eq_false_iff_ne]; omega
              have hr2 := rest_any at_ sk.size W1 (by omega) (by omega)
              have HTn := HT.out (by omega)
              have HT3 : Hid (∀ r, r < sk.size → ∀ s, s = bn ((nb sk).set r ((nb sk).getD r 0 ^^^ y)) → ∀ (u : Value) W, Sx W u (L.set i ⟨true, s⟩) → Calls Tryd.prog 9 #[u, .int .i64 n] W fun e w' => e = .returned (.int .i64 6) ∧ Below W.heap.size W w') := fun r hr s hs => HTn r rfl hr g3 s hs
              have HNz : Hid (y ≠ 0) := g3
              clear HT HTn g3
              go_wp2_with fail
              refine hr2.mono ?_
              rintro e w4 ⟨⟨r, hr, rfl⟩, hu⟩
              obtain rfl := hu.symm
              clear hu hr2
              have t0 := HOb.out.at_ r (by rw [nb_length]; exact hr)
              have f0 := HOb.out.frozen r (by rw [nb_length]; exact hr)
              have hlt2 := Fd.get_lt (nb_bs sk) r
              have hx := u8_xor_nat _ _ hlt2 hy
              obtain ⟨q1, q2, q3⟩ := chg hr hy HNz.out
              obtain ⟨W2, hW2⟩ : ∃ W2, W2 = W1.setCell ⟨wr.heap.size, r, none⟩ (.int .u8 (((nb sk).getD r 0 ^^^ y : Nat) : Int)) := ⟨_, rfl⟩
              have hO2 : Ob W2 wr.heap.size (.slice (some ⟨wr.heap.size, 0, none⟩) sk.size cap) ((nb sk).set r ((nb sk).getD r 0 ^^^ y)) := by rw [hW2]; exact HOb.out.set r _ (by rw [nb_length]; exact hr)
              have hstr := hO2.str q1
              have hkp : Kept (fun q => q ≠ wr.heap.size) W1 W2 := by rw [hW2]; exact (Kept.refl _ _).setCell (by simp) _
              have hbkne : bk ≠ wr.heap.size := by omega
              have hOw : W2.ownsRow w.heap.size 31 2 (.slice (some ⟨bk, o, none⟩) (n + p) vc) (n + p) (rowS L) := own_kept HO1.out hkp fun q hq => by
                simp [Value.ownBlock] at hq
                omega
              have ho0 : o = 0 := by
                obtain ⟨g', c', e', _⟩ := own_some hOw (by omega)
                rw [Value.slice.injEq, Option.some.injEq, Addr.mk.injEq] at e'
                exact e'.1.2.1
              subst ho0
              have z1 : W2.cell? ⟨bk, i * 2 + 1, none⟩ = some (.string sk) := by
                rw [Nat.zero_add] at d1
                rw [show W2.cell? ⟨bk, i * 2 + 1, none⟩ = W1.cell? ⟨bk, i * 2 + 1, none⟩ from by simp only [World.cell?, hkp.block bk (Nat.lt_trans hbk hlt1) hbkne]]
                exact d1
              have zf : W2.frozen? ⟨bk, i * 2 + 1, none⟩ = false := hOw.frozenAt _
              obtain ⟨s', hs'⟩ : ∃ s', s' = bn ((nb sk).set r ((nb sk).getD r 0 ^^^ y)) := ⟨_, rfl⟩
              rw [← hs'] at hstr
              have hck := HT3.out r hr s' hs'
              have hst := (hOw.stored (i * 2 + 1) (.string s')).1
              have hrw := HRow.out s'
              rw [← hrw] at hst
              have hck' := hck (.slice (some ⟨bk, 0, none⟩) (n + p) vc) _ (Sx.of_own (by rw [List.length_set, HSL.out]; exact hst))
              have HB2 : Hid (Below w.heap.size w (W2.setCell ⟨bk, i * 2 + 1, none⟩ (.string s'))) := by
                obtain ⟨_, _, hbk2, _⟩ := own_block hOw (g := bk) rfl
                have : Below w.heap.size w W2 := by rw [hW2]; exact HB1.out.setCell hwr _
                exact this.setCell hbk2 _
              generalize (nb sk).getD r 0 = tb at *
              clear HT3 HRow HOb hO2 hkp hOw q1 q2 q3 hck hst hrw hs'
              go_upto_region 19 with fail
              rw [← hW2]
              clear hW2 t0 f0 hx
              go_wp2_with fail
              refine hck'.mono ?_
              rintro e w5 ⟨rfl, hb⟩
              have HB5 : Hid (Below w.heap.size w w5) := HB2.out.trans (hb.mono HB2.out.size)
              clear hb hck' HB2
              go_wp2_with fail
              go_ret
              exact ⟨rfl, HB5.out⟩

theorem shieldTells_walk (v0 : Value) (l0 : List ByteArray) (a1 : Int) (a2 : Int) (a3 : Int) (a4 : Int) (a5 : Int) (z0 : l0.length ≤ 140737488351232) (_w1 : (Lit.int .i64 a1).wf = true) (w2 : (Lit.int .u64 a2).wf = true) (_w3 : (Lit.int .i64 a3).wf = true) (_w4 : (Lit.int .i64 a4).wf = true) (w5 : (Lit.int .u8 a5).wf = true) (w : World) (t0 : Tx w v0 l0) :
    Calls Tryd.prog 4 #[v0, .int .i64 a1, .int .u64 a2, .int .i64 a3, .int .i64 a4, .int .u8 a5] w fun e w' => e = .returned (.bool true) ∧ Below w.heap.size w w' := by
  have k2 : 0 ≤ a2 ∧ a2 < 18446744073709551616 := by
    have : 0 ≤ a2 ∧ a2 ≤ 18446744073709551615 := by simpa [Lit.wf, IntKind.min, IntKind.max, IntKind.signed, IntKind.bits] using w2
    omega
  obtain ⟨b, rfl⟩ := Int.eq_ofNat_of_zero_le (a := a2) k2.1
  obtain ⟨y, rfl, hy⟩ := wf_byte w5
  by_cases he : gErr l0 a1 = 0
  · obtain ⟨p, rfl⟩ := Int.eq_ofNat_of_zero_le (a := a1) (by have := gErr_zero he; omega)
    exact tells_ok v0 l0 p b a3 a4 y w t0 he (by omega) hy
  · exact tells_bad v0 l0 a1 b a3 a4 y w t0 z0 he
end Go.Proofs.YtoeohnknpbdgdaaDoor
