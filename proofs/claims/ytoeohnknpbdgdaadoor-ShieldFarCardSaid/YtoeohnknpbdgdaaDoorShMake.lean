/-
  What equationsOf of package shield answers.
-/
import Derived.Test.YtoeohnknpbdgdaaDoorShRun
import Derived.Test.YtoeohnknpbdgdaaDoorShEqn
namespace Go.Proofs.YtoeohnknpbdgdaaDoor
open Go.RowKit
set_option maxRecDepth 4000

namespace Fd
theorem eqW_congr {T U : Nat → Bool} (j : Nat) : ∀ {n : Nat}, (∀ i, i < n → T i = U i) → eqW T j n = eqW U j n
  | 0, _ => rfl
  | n + 1, h => by rw [eqW, eqW, eqW_congr j (n := n) fun i hi => h i (by omega), h n (by omega)]
theorem eqB_congr {T U : Nat → Bool} {X Y : Nat → List Nat} (j : Nat) (g : List Nat) : ∀ {n : Nat}, (∀ i, i < n → T i = U i) → (∀ i, i < n → X i = Y i) → eqB T X j g n = eqB U Y j g n
  | 0, _, _ => rfl
  | n + 1, h, k => by rw [eqB, eqB, eqB_congr j g (n := n) (fun i hi => h i (by omega)) (fun i hi => k i (by omega)), h n (by omega), k n (by omega)]
end Fd
theorem getD_take {l : List Shd} {n i : Nat} (h : i < n) : (l.take n).getD i Shd.none = l.getD i Shd.none := by
  rw [List.getD_eq_getElem?_getD, List.getD_eq_getElem?_getD, List.getElem?_take, if_pos h]
theorem getD_drop {l : List Shd} {n i : Nat} : (l.drop n).getD i Shd.none = l.getD (n + i) Shd.none := by
  rw [List.getD_eq_getElem?_getD, List.getD_eq_getElem?_getD, List.getElem?_drop]
theorem th_cnt (l : List Shd) : ∀ k, (th l k).length = Fd.cnt (hasF l) k
  | 0 => rfl
  | k + 1 => by
    rw [th, Fd.cnt]
    show (if hasF l k = true then _ else _ : List ByteArray).length = _
    split
    · next h => rw [List.length_append, List.length_singleton, th_cnt l k]
    · next h => rw [th_cnt l k]; rfl
theorem info_eqn : (Tryd.prog.info? 52).map (fun i => (i.zero, i.size, i.bytes)) = some (some (.agg #[.slice none 0 0, .slice none 0 0]), 2, 48) := by kernel_rfl
namespace Fd
theorem took_full {T : Nat → Bool} {n L q : Nat} (h : (took T n L q).length = L) : ∀ d, took T n L (q + d) = took T n L q
  | 0 => rfl
  | d + 1 => by
    have ih := took_full h d
    rw [← Nat.add_assoc, took, ih, if_pos h]
theorem took_full' {T : Nat → Bool} {n L q p : Nat} (h : (took T n L q).length = L) (hq : q ≤ p) : took T n L p = took T n L q := by
  obtain ⟨d, rfl⟩ := Nat.exists_eq_add_of_le hq
  exact took_full h d
theorem getD_snoc (t : List Nat) (j r : Nat) : (t ++ [j]).getD r 0 = if r = t.length then j else t.getD r 0 := by
  rcases Nat.lt_trichotomy r t.length with h | h | h
  · rw [getD_left h, if_neg (by omega)]
  · rw [getD_right (by omega), h, Nat.sub_self, if_pos rfl]; rfl
  · rw [getD_right (by omega), if_neg (by omega), List.getD_eq_getElem?_getD, List.getD_eq_getElem?_getD, List.getElem?_eq_none (by simp; omega), List.getElem?_eq_none (by omega)]
end Fd
/-- equations, and the memory they lie in -/
def EqOut (w : World) (L : Nat) (S : Nat → Fd.Eqn) (e : Ending) (w' : World) : Prop := ∃ u cs, e = .returned u ∧ Eqs w' w.heap.size u L cs S ∧ Below w.heap.size w w'
/-- one equation more -/
theorem Eqs.push {W0 W1 w2 : World} {base c g cap : Nat} {u wv bv : Value} {cs : Nat → Value} {S : Nat → Fd.Eqn} {e : Fd.Eqn} {o : Obj} (h : Eqs W0 base u c cs S) (hb : Below W0.heap.size W0 W1) (hbase : base ≤ W0.heap.size)
    (hw : Ob W1 W0.heap.size wv e.1) (hv : Ob W1 W0.heap.size bv e.2) (ha : ∀ g, bv.ownBlock = some g → wv.ownBlock ≠ some g)
    (hown : w2.ownsRow base 52 2 (.slice (some ⟨g, 0, none⟩) (c + 1) cap) (c + 1) ((List.range (c * 2)).map cs ++ [wv, bv])) (hg : (W1.alloc o).grownBy w2 u.ownBlock) :
    Eqs w2 base (.slice (some ⟨g, 0, none⟩) (c + 1) cap) (c + 1) (fun i => if i < c * 2 then cs i else if i = c * 2 then wv else bv) (fun r => if r = c then e else S r) := by
  have h1 := h.keep hb
  have hk : Kept (fun k => u.ownBlock ≠ some k) W1 w2 := ((Kept.refl _ W1).alloc o).grown hg fun k hk hp => hp hk
  have hrow : ∀ {b : Nat} {x : Value} {l : List Nat}, Ob W1 b x l → Ob w2 b x l := fun hx => hx.kept hk fun q hq => hx.unlike h1.row (by decide) q hq
  have hold : ∀ i, i < c * 2 → ∀ q, (cs i).ownBlock = some q → q < W0.heap.size := fun i hi q hq => by
    obtain ⟨_, _, _, _, h5⟩ := (h.obs i hi).block hq
    exact h5
  have hnew : ∀ {x : Value} {l : List Nat}, Ob W1 W0.heap.size x l → ∀ q, x.ownBlock = some q → W0.heap.size ≤ q := fun hx q hq => by
    obtain ⟨_, _, _, h4, _⟩ := hx.block hq
    exact h4
  refine ⟨?_, fun i hi => ?_, fun i j hi hj hij q hq => ?_⟩
  · have e' : (List.range ((c + 1) * 2)).map (fun i => if i < c * 2 then cs i else if i = c * 2 then wv else bv) = (List.range (c * 2)).map cs ++ [wv, bv] := by
      rw [show (c + 1) * 2 = c * 2 + 1 + 1 from by omega, List.range_succ, List.range_succ, List.map_append, List.map_append]
      rw [List.append_assoc]
      congr 1
      · exact List.map_congr_left fun i hi => by rw [if_pos (List.mem_range.1 hi)]
      · show [_] ++ [_] = _
        dsimp only
        rw [if_neg (by omega), if_pos rfl, if_neg (by omega), if_neg (by omega)]
        rfl
    rw [e']
    exact hown
  · by_cases e1 : i < c * 2
    · rw [if_pos e1]
      have : itm (fun r => if r = c then e else S r) i = itm S i := by
        unfold itm
        dsimp only
        rw [if_neg (show ¬ i / 2 = c by omega)]
      rw [this]
      exact hrow (h1.obs i e1)
    · by_cases e2 : i = c * 2
      · subst e2
        rw [if_neg (by omega), if_pos rfl, itm_w, if_pos rfl]
        exact hrow (hw.lower hbase)
      · obtain rfl : i = c * 2 + 1 := by omega
        rw [if_neg (by omega), if_neg (by omega), itm_b, if_pos rfl]
        exact hrow (hv.lower hbase)
  · by_cases i1 : i < c * 2
    · rw [if_pos i1] at hq
      by_cases j1 : j < c * 2
      · rw [if_pos j1]; exact h.apart i j i1 j1 hij q hq
      · rw [if_neg j1]
        have := hold i i1 q hq
        split
        · intro e; have := hnew hw q e; omega
        · intro e; have := hnew hv q e; omega
    · rw [if_neg i1] at hq
      by_cases j1 : j < c * 2
      · rw [if_pos j1]
        intro e
        have := hold j j1 q e
        split at hq
        · have := hnew hw q hq; omega
        · have := hnew hv q hq; omega
      · rw [if_neg j1]
        split at hq
        · rw [if_neg (by omega)]
          intro e
          exact ha q e hq
        · rw [if_pos (by omega)]
          exact ha q hq

set_option maxHeartbeats 4000000 in
theorem equationsOf_any (v : Value) (l : List Shd) (n m : Nat) (w : World) (h : Sx w v l) (hn : 1 ≤ n) (hn2 : n ≤ 16) (hl : n < l.length) (hl2 : l.length ≤ n + 8) (hm : m ≤ 4096) (hT : ∀ i, i < l.length → hasF l i = true → (bytF l i).length = m) :
    Calls Tryd.prog 19 #[v, .int .i64 n] w fun e w' => EqOut w (Fd.took (hasF l) n (Fd.lostN (hasF l) n) (l.length - n)).length (Fd.eqs (hasF l) (bytF l) n (l.length - n)) e w' := by
  obtain ⟨i0, hi, hz0, hz1, hz2⟩ := info_parts info_eqn
  obtain ⟨a, c, rfl, hc1, hc2⟩ := h.slice
  obtain ⟨bk, o, rfl, hbk, _⟩ := h.get 0 (by omega)
  have HX : Hid (Sx w (.slice (some ⟨bk, o, none⟩) l.length c) l) := h
  have ht := bytesThere_any (.slice (some ⟨bk, o, none⟩) n c) (l.take n) w (h.take n (by omega)) (by rw [List.length_take]; omega)
  rw [List.length_take, Nat.min_eq_left (by omega), th_take l n n (Nat.le_refl _), th_cnt] at ht
  have hcl := Fd.cnt_lost (hasF l) n
  have HT : Hid (∀ i, i < l.length → hasF l i = true → (bytF l i).length = m) := hT
  obtain ⟨N, hN⟩ : ∃ N, N = l.length := ⟨_, rfl⟩
  have HN : Hid (N = l.length) := hN
  rw [← hN] at HX hl hl2 hc1 ⊢
  clear hN h hT
  have hncap : n ≤ c := by omega
  obtain ⟨p, hNp⟩ : ∃ p, N - n = p := ⟨_, rfl⟩
  have HP : Hid (N = n + p) := by show _ = _; omega
  have hp8 : p ≤ 8 := by omega
  obtain ⟨LL, hLL⟩ : ∃ LL, LL = Fd.lostN (hasF l) n := ⟨_, rfl⟩
  generalize Fd.cnt (hasF l) n = CC at *
  have hLi : (n : Int) - (CC : Int) = (LL : Int) := by omega
  have hL16 : LL ≤ 16 := by omega
  have HR : Hid (∀ W u cs, Eqs W w.heap.size u (Fd.took (hasF l) n LL p).length cs (fun r => Fd.eqn (hasF l) (bytF l) n ((Fd.took (hasF l) n LL p).getD r 0)) → Eqs W w.heap.size u (Fd.took (hasF l) n (Fd.lostN (hasF l) n) p).length cs (Fd.eqs (hasF l) (bytF l) n p)) := by
    intro W u cs h
    unfold Fd.eqs
    rw [← hLL]; exact h
  clear hcl hLL
  rw [hNp]
  go_enter Tryd.func19, Tryd.ntmps19
  go_wp2_with fail
  refine ht.mono ?_
  rintro e w1 ⟨u, rfl, hown, hb⟩
  obtain ⟨ua, uc, rfl⟩ := own_len hown
  have HB1 : Hid (Below w.heap.size w w1) := hb
  clear hown hb ht
  go_wp2_with fail
  clear hLi
  go_loopw [6, 20] (fun u i wr => ∃ (q : Nat) (cs : Nat → Value), q ≤ p ∧ i = .int .i64 q ∧ Hid (Eqs wr w.heap.size u (Fd.took (hasF l) n LL q).length cs (fun r => Fd.eqn (hasF l) (bytF l) n ((Fd.took (hasF l) n LL q).getD r 0))) ∧ Hid (Below w.heap.size w wr)) (fun _ i _ => p - (intOf i).toNat)
  case atStart => exact ⟨0, fun _ => .slice none 0 0, by omega, rfl, ⟨World.ownsRow_nil _ _ _ _, fun i hi => by simp [Fd.took] at hi, fun i j hi => by simp [Fd.took] at hi⟩, HB1⟩
  case round =>
    clear HB1
    obtain ⟨q, cs, hq, rfl, HE, HB⟩ := hrel
    have hle := Fd.took_le (hasF l) n LL q
    obtain ⟨va, vc, hv⟩ := own_len HE.out.row
    subst hv
    by_cases hlt : q < p
    · have hXr := HX.out.below HB.out
      obtain ⟨bk2, o2, e2, hbk2, c0, c1⟩ := (hXr.drop n (by rw [← HN.out]; omega)).get q (by rw [List.length_drop, ← HN.out]; omega)
      rw [Option.some.injEq, Addr.mk.injEq] at e2
      obtain ⟨rfl, rfl, _⟩ := e2
      rw [getD_drop] at c0 c1
      have HF : Hid (hasF l (n + q) = (l.getD (n + q) Shd.none).has ∧ bytF l (n + q) = nb (l.getD (n + q) Shd.none).bytes) := ⟨rfl, rfl⟩
      have HTq := HT.out (n + q) (by rw [← HN.out]; omega)
      have HTk : Hid (Fd.took (hasF l) n LL (q + 1) = if (Fd.took (hasF l) n LL q).length = LL then Fd.took (hasF l) n LL q else if hasF l (n + q) then Fd.took (hasF l) n LL q ++ [q] else Fd.took (hasF l) n LL q) := rfl
      have HFl : Hid ((Fd.took (hasF l) n LL q).length = LL → Fd.took (hasF l) n LL p = Fd.took (hasF l) n LL q) := fun h => Fd.took_full' h hq
      obtain ⟨t1, ht1⟩ : ∃ t1, Fd.took (hasF l) n LL (q + 1) = t1 := ⟨_, rfl⟩
      rw [ht1] at HTk
      have HT1 : Hid (Fd.took (hasF l) n LL (q + 1) = t1) := ht1
      clear ht1
      generalize Fd.took (hasF l) n LL q = t at *
      rw [HF.out.1] at HTk HTq
      rw [HF.out.2] at HTq
      generalize l.getD (n + q) Shd.none = sd at *
      obtain ⟨hs1, sk⟩ := sd
      dsimp only at c0 c1 HTk HTq HF
      have hB0 : ∀ ob, Below wr.heap.size wr (wr.alloc ob) := fun ob => (Below.refl _ _).alloc (Nat.le_refl _) _
      by_cases hfull : t.length = LL
      · have hfq : ((t.length : Int) == (LL : Int)) = true := by rw [beq_iff_eq]; omega
        have HE1 : Hid (∀ ob, Eqs (wr.alloc ob) w.heap.size (.slice va t.length vc) (Fd.took (hasF l) n LL p).length cs (fun r => Fd.eqn (hasF l) (bytF l) n ((Fd.took (hasF l) n LL p).getD r 0)) ∧ Below w.heap.size w (wr.alloc ob)) := fun ob => by
          rw [HFl.out hfull]
          exact ⟨HE.out.keep (hB0 ob), HB.out.trans ((hB0 ob).mono HB.out.size)⟩
        clear hfull HE HB HTk HFl hXr HTq hB0
        generalize t.length = tn at *
        go_wp2_with fail
        go_ret
        exact ⟨_, _, rfl, HR.out _ _ _ (HE1.out _).1, (HE1.out _).2⟩
      · have hfq : ((t.length : Int) == (LL : Int)) = false := by rw [beq_eq_false_iff_ne]; omega
        cases hs1 with
        | false =>
          have HE1 : Hid (∀ ob, Eqs (wr.alloc ob) w.heap.size (.slice va t.length vc) t1.length cs (fun r => Fd.eqn (hasF l) (bytF l) n (t1.getD r 0)) ∧ Below w.heap.size w (wr.alloc ob)) := fun ob => by
            have := HTk.out
            rw [if_neg hfull, if_neg (by decide)] at this
            rw [this]
            exact ⟨HE.out.keep (hB0 ob), HB.out.trans ((hB0 ob).mono HB.out.size)⟩
          clear hfull HE HB HTk HFl hXr HTq hB0
          generalize t.length = tn at *
          go_wp2_with fail
          go_roundw
          case rel => exact ⟨q + 1, cs, by omega, by go_num, by rw [HT1.out]; exact (HE1.out _).1, (HE1.out _).2⟩
          case measure => simp only [intOf]; omega
        | true =>
          have HTt : Hid (t1 = t ++ [q]) := by
            have := HTk.out
            rwa [if_neg hfull, if_pos rfl] at this
          obtain ⟨W0, hW0⟩ : ∃ W0, W0 = wr.alloc (.cells #[.bool true, .string sk] 31) := ⟨_, rfl⟩
          have hBW : Below wr.heap.size wr W0 := by rw [hW0]; exact hB0 _
          have x1 : W0.cell? ⟨wr.heap.size, 1, none⟩ = some (.string sk) := by rw [hW0]; simp
          have hBD : Below W0.heap.size W0 W0.drew := (Below.refl _ _).drew
          have hE0 := (HE.out.keep hBW).keep hBD
          have hws : w.heap.size ≤ W0.heap.size := by have := HB.out.size; have := hBW.size; omega
          have heq := equationOf_any (.slice (some ⟨bk, o, none⟩) n c) (l.take n) sk q m W0.drew (((hXr.below hBW).below hBD).take n (by rw [← HN.out]; omega)) (by rw [List.length_take]; omega) (by omega) (by rw [← nb_length]; exact HTq rfl) hm (fun i hi hb => by
            rw [List.length_take] at hi
            have e1 : hasF (l.take n) i = hasF l i := by unfold hasF; rw [getD_take (by omega)]
            have e2 : bytF (l.take n) i = bytF l i := by unfold bytF; rw [getD_take (by omega)]
            rw [e2]; rw [e1] at hb
            exact HT.out i (by omega) hb)
          rw [List.length_take, Nat.min_eq_left (show n ≤ l.length by rw [← HN.out]; omega), Fd.eqW_congr (U := hasF l) q (fun i hi => by unfold hasF; rw [getD_take hi]), Fd.eqB_congr (U := hasF l) (Y := bytF l) q (nb sk) (fun i hi => by unfold hasF; rw [getD_take hi]) (fun i hi => by unfold bytF; rw [getD_take hi])] at heq
          have heq' : Calls Tryd.prog 28 #[.slice (some ⟨bk, o, none⟩) n c, .string sk, .int .i64 q] W0.drew fun e W1 => ∃ xa xn xc ya yn yc, e = .returned (.agg #[.slice xa xn xc, .slice ya yn yc]) ∧
              (∀ ob, (W1.alloc ob).ownsRow w.heap.size 52 2 (.slice va t.length vc) t.length ((List.range (t.length * 2)).map cs)) ∧ w.heap.size ≤ W1.heap.size ∧
              Hid (∀ ob g cap w2, w2.ownsRow w.heap.size 52 2 (.slice (some ⟨g, 0, none⟩) (t.length + 1) cap) (t.length + 1) ((List.range (t.length * 2)).map cs ++ [.slice xa xn xc, .slice ya yn yc]) → (W1.alloc ob).grownBy w2 (Value.slice va t.length vc).ownBlock →
                (∃ cs', Eqs w2 w.heap.size (.slice (some ⟨g, 0, none⟩) (t.length + 1) cap) t1.length cs' (fun r => Fd.eqn (hasF l) (bytF l) n (t1.getD r 0))) ∧ Below w.heap.size w w2) := heq.mono fun e W1 ⟨wv, bv, h1, h2, h3, h4, h5⟩ => by
            obtain ⟨xa, xc, rfl⟩ := h2.len
            obtain ⟨ya, yc, rfl⟩ := h3.len
            refine ⟨_, _, _, _, _, _, h1, fun ob => (hE0.keep h5).row.alloc ob, Nat.le_trans hws h5.size, ?_⟩
            show ∀ ob g cap w2, _ → _ → _ ∧ _
            intro ob g cap w2 hown hg
            refine ⟨⟨fun i => if i < t.length * 2 then cs i else if i = t.length * 2 then .slice xa (Fd.eqW (hasF l) q n).length xc else .slice ya (Fd.eqB (hasF l) (bytF l) q (nb sk) n).length yc, ?_⟩, ?_⟩
            · have := hE0.push (e := Fd.eqn (hasF l) (bytF l) n q) h5 hws h2 (by rw [Fd.eqn, HF.out.2]; exact h3) h4 hown hg
              rw [HTt.out, List.length_append, List.length_singleton]
              have e' : (fun r => Fd.eqn (hasF l) (bytF l) n ((t ++ [q]).getD r 0)) = fun r => if r = t.length then Fd.eqn (hasF l) (bytF l) n q else Fd.eqn (hasF l) (bytF l) n (t.getD r 0) := by
                funext r
                rw [Fd.getD_snoc]
                split <;> rfl
              rw [e']
              exact this
            · have hb1 : Below w.heap.size w W1 := ((HB.out.trans (hBW.mono HB.out.size)).drew).trans (h5.mono hws)
              refine (hb1.alloc hb1.size ob).grown hg (by have := hb1.size; simp; omega) fun k hk => ?_
              obtain ⟨_, _, h6, _⟩ := own_block hE0.row hk
              exact h6
          clear heq hE0 HE HB HTk HFl hXr HTq hB0 hfull hBW hBD HF HTt
          generalize (List.range (t.length * 2)).map cs = row at *
          generalize t.length = tn at *
          go_upto_region 8 with fail
          rw [← hW0]
          clear hW0 c0 c1
          go_region_law (first | (refine step_append_lies _ (by rfl) (.tmp 31) (.tmp 39) 47 (by rfl) w.heap.size 52 i0 (.agg #[.slice none 0 0, .slice none 0 0]) 2 48 Tryd.underlying47 hi hz0 hz1 hz2 rfl (by decide) (.slice va tn vc) tn row (by rfl) (hrow1 _) ⟨W1.heap.size, 0, none⟩ 1 1 [.slice xa xn xc, .slice ya yn yc] (by rfl) (by rfl) (by intro j u hj; match j, hj with | 0, hj => simp at hj; subst hj; simp [Addr.add] | 1, hj => simp at hj; subst hj; simp [Addr.add]) (by simp [Value.oneCell']) (by decide) (by unfold maxLen; omega) (by omega) (by simp; omega) (W1.heap.size + 1) (by simp) ?_; intro g cap w2 hown1 hgrow hat hlt') | (go_simp; refine heq'.mono ?_; rintro e W1 ⟨xa, xn, xc, ya, yn, yc, rfl, hrow1, hsz1, HH⟩))
          all_goals
            obtain ⟨⟨cs', y1⟩, y2⟩ := HH.out _ _ _ _ hown1 hgrow
            have HY : Hid (Eqs w2 w.heap.size (.slice (some ⟨g, 0, none⟩) (tn + 1) cap) t1.length cs' (fun r => Fd.eqn (hasF l) (bytF l) n (t1.getD r 0)) ∧ Below w.heap.size w w2) := ⟨y1, y2⟩
            clear y1 y2 HH hown1 hgrow hrow1
            go_wp2_with fail
            go_roundw
            case rel => exact ⟨q + 1, cs', by omega, by go_num, by rw [HT1.out]; exact HY.out.1, HY.out.2⟩
            case measure => simp only [intOf]; omega
    · obtain rfl : q = p := by omega
      generalize (Fd.took (hasF l) n LL q).length = tn at *
      go_wp2_with fail
      go_ret
      exact ⟨_, _, rfl, HR.out _ _ _ HE.out, HB.out⟩
end Go.Proofs.YtoeohnknpbdgdaaDoor
