/-
  What Pick of package lumref answers.
-/
import Derived.Test.YtemcakegbeaeaaaDoorKpRef
import Derived.Test.YtemcakegbeaeaaaDoorKpFl
import Derived.Test.YtemcakegbeaeaaaDoorKept
import Derived.Test.YtemcakegbeaeaaaDoorOwnLow
import Derived.Deep.Cut
namespace Go.Proofs.YtemcakegbeaeaaaDoor
open Go.RowKit
set_option maxRecDepth 4000

/-- Pick at work: what is kept so far, the four numbers, what lay there -/
structure PK (w W : World) (m : Nat → Int) (b4 n : Nat) (f : Nat → Bool) : Prop where
  bel : Below w.heap.size w W
  out : W.ownsRow w.heap.size 4 1 (.slice (some ⟨w.heap.size, 0, none⟩) n n) n ((fl n f).map Tb)
  ru : ∀ r, r < 4 → W.cell? ⟨b4, r, none⟩ = some (.int .i64 (m r))
  lt : b4 < W.heap.size
  ne : w.heap.size < b4

theorem PK.under {w W W' : World} {m : Nat → Int} {b4 n B : Nat} {f : Nat → Bool} (h : PK w W m b4 n f) (hb : Below B W W') (hB : b4 < B) : PK w W' m b4 n f := by
  have hn := h.ne
  exact ⟨h.bel.trans (hb.mono (by omega)), own_under h.out hb (by omega), fun r hr => (hb.cell (p := ⟨b4, r, none⟩) hB).trans (h.ru r hr), by have := hb.size; have := h.lt; omega, hn⟩

theorem PK.set {w W : World} {m : Nat → Int} {b4 n : Nat} {f g : Nat → Bool} (h : PK w W m b4 n f) (k : Nat) (b : Bool) (hg : ∀ i, i < n → (if i = k then b else f i) = g i) : PK w (W.setCell ⟨w.heap.size, k, none⟩ (.bool b)) m b4 n g := by
  have hn := h.ne
  have hl := h.lt
  refine ⟨h.bel.setCell (Nat.le_refl _) _, ?_, fun r hr => ?_, by simpa using hl, hn⟩
  · have := bool_store h.out k b
    rwa [fl_set, fl_ext hg] at this
  · rw [World.cell?_setCell_other _ _ _ _ (by intro e; have := congrArg Addr.block e; simp at this; omega)]
    exact h.ru r hr

theorem PK.ext {w W : World} {m : Nat → Int} {b4 n : Nat} {f g : Nat → Bool} (h : PK w W m b4 n f) (hg : ∀ i, i < n → f i = g i) : PK w W m b4 n g := ⟨h.bel, by rw [← fl_ext hg]; exact h.out, h.ru, h.lt, h.ne⟩

set_option maxHeartbeats 8000000 in
theorem rpick_any (p : Kp.Pol) (v : Value) (l : List Int) (w : World) (h : Ints w v l) (hl : l.length ≤ 140737488351232) :
    Calls Tryd.prog 9 #[polV p, v] w fun e w' => ∃ u, e = .returned (.tuple #[u, .int .i64 (Kp.pickErr p l)]) ∧ w'.ownsRow w.heap.size 4 1 u (Kp.pickL p l).length ((Kp.pickL p l).map Tb) ∧ Below w.heap.size w w' := by
  have hpo := fun V => rpol_any p V
  obtain ⟨W1, hW1⟩ : ∃ W1, W1 = w.alloc (.cells (polC p) 23) := ⟨_, rfl⟩
  have HB1 : Hid (Below w.heap.size w W1) := by rw [hW1]; exact (Below.refl _ w).alloc (Nat.le_refl _) _
  have hz1 : w.heap.size < W1.heap.size := by rw [hW1]; simp
  have c0 : W1.cell? ⟨w.heap.size, 0, none⟩ = some (.int .i64 p.last) := by rw [hW1]; simp [polC]
  have c1 : W1.cell? ⟨w.heap.size, 1, none⟩ = some (.int .i64 p.days) := by rw [hW1]; simp [polC]
  have c2 : W1.cell? ⟨w.heap.size, 2, none⟩ = some (.int .i64 p.weeks) := by rw [hW1]; simp [polC]
  have c3 : W1.cell? ⟨w.heap.size, 3, none⟩ = some (.int .i64 p.months) := by rw [hW1]; simp [polC]
  have c4 : W1.cell? ⟨w.heap.size, 4, none⟩ = some (.int .i64 p.years) := by rw [hW1]; simp [polC]
  obtain ⟨i0, hi, hz0, hz1', hz2⟩ := info_parts info_int
  obtain ⟨j0, hj, hy0, hy1, hy2⟩ := info_parts info_bool
  obtain ⟨a, c, rfl⟩ := h.slice
  have ht := fun V (hb : Below w.heap.size w V) => rtms_any _ l V (h.below (Nat.le_refl _) hb) hl
  unfold polV at hpo ⊢
  unfold polC at hW1
  rcases Kp.pErr_two p with hp | hp
  · have hE : Kp.pickErr p l = Kp.tErr l := by unfold Kp.pickErr; rw [hp, if_neg (by simp)]
    rw [hp] at hpo
    by_cases htz : Kp.tErr l = 0
    · have hE0 : Kp.pickErr p l = 0 := hE.trans htz
      obtain ⟨hpok, hl200, hchk⟩ := Kp.pick_ok hE0
      rw [htz] at ht
      rw [hE0, Kp.pickL_ok hE0, Kp.kept_length]
      have HK : Hid (Kp.kept p l = fl l.length (fun i => decide (Kp.keepTo p l 4 i))) := rfl
      have HZ : Hid (∀ k, k < l.length → 0 ≤ l.getD k 0 ∧ l.getD k 0 ≤ 4223371679) := fun k hk => by
        have := Kp.err_ok (Kp.chkTo_zero _ hchk k hk)
        exact ⟨this.1, this.2.1⟩
      have HI : Hid (Ints w (.slice a l.length c) l) := h
      have HM : Hid (∀ r, ((Kp.spn r (p.most r) (l.take 0)).length : Int) ≤ 0) := fun r => by simp [Kp.spn_nil]
      have HL : Hid (∀ r k, k ≤ l.length → (Kp.spn r (p.most r) (l.take k)).length ≤ 100) := fun r k hk => by
        have h1 := Kp.spn_le r (p.most r) (l := l) k hk
        have h2 : p.most r ≤ 100 := by
          obtain ⟨_, q1, q2, q3, q4⟩ := hpok
          unfold Kp.Pol.most
          split
          · omega
          · split
            · omega
            · split <;> omega
        omega
      have hm : p.most 0 = p.days ∧ p.most 1 = p.weeks ∧ p.most 2 = p.months ∧ p.most 3 = p.years := ⟨rfl, rfl, rfl, rfl⟩
      clear hE hE0 hp htz hpok hchk h
      go_enter Tryd.func9, Tryd.ntmps9
      go_upto_region 1 with fail
      rw [← hW1]
      clear hW1
      go_wp2_with fail
      refine (hpo _).mono ?_
      rintro e w2 ⟨rfl, b2⟩
      have d0 := (b2.cell (p := ⟨w.heap.size, 0, none⟩) hz1).trans c0
      have d1 := (b2.cell (p := ⟨w.heap.size, 1, none⟩) hz1).trans c1
      have d2 := (b2.cell (p := ⟨w.heap.size, 2, none⟩) hz1).trans c2
      have d3 := (b2.cell (p := ⟨w.heap.size, 3, none⟩) hz1).trans c3
      have d4 := (b2.cell (p := ⟨w.heap.size, 4, none⟩) hz1).trans c4
      have HB2 : Hid (Below w.heap.size w w2) := HB1.out.trans (b2.mono HB1.out.size)
      have hz2' : w.heap.size < w2.heap.size := by have := b2.size; omega
      clear c0 c1 c2 c3 c4 b2 hz1 HB1 hpo
      go_wp2_with fail
      refine (ht _ HB2.out).mono ?_
      rintro e w3 ⟨rfl, rfl⟩
      clear ht
      go_wp2_with (at_make; refine wpList_make_full _ rfl (.tmp 27) (.tmp 27) 25 rfl w3.heap.size 4 j0 (.bool false) 1 Tryd.underlying25 hj hy0 hy1 .i64 .i64 _ _ l.length rfl rfl rfl rfl (by rw [hy2]; omega) (by unfold maxLen; omega) (Nat.le_refl _) ?_; intro w4 hown hgrow)
      have hown1 := made_falses hown
      rw [fl_false] at hown1
      have HB4 : Hid (Below w3.heap.size w3 w4) := (Below.refl _ w3).grown hgrow (Nat.le_refl _) (fun k hk => by cases hk)
      clear hown hgrow
      have HO4 : Hid (w4.ownsRow w3.heap.size 4 1 (.slice (some ⟨w3.heap.size, 0, none⟩) l.length l.length) l.length ((fl l.length (fun i => decide (i < 0) && decide ((i : Int) < p.last))).map Tb)) := by
        rw [← fl_ext (f := fun _ => false)]
        · exact hown1
        · intro i _; simp
      clear hown1
      go_wp2_with fail
      go_loopw [31] (fun i wr => ∃ k : Nat, k ≤ l.length ∧ i = .int .i64 k ∧ Hid (wr.ownsRow w3.heap.size 4 1 (.slice (some ⟨w3.heap.size, 0, none⟩) l.length l.length) l.length ((fl l.length (fun i => decide (i < k) && decide ((i : Int) < p.last))).map Tb)) ∧ Hid (Below w3.heap.size w3 wr)) (fun i _ => l.length - (intOf i).toNat)
      case atStart => exact ⟨0, by omega, rfl, HO4, HB4⟩
      case round =>
        obtain ⟨k, hk, rfl, HO, HB⟩ := hrel
        by_cases hlt : k < l.length
        · have e0 := (HB.out.cell (p := ⟨w.heap.size, 0, none⟩) hz2').trans d0
          have x1 := bool_at HO.out k (by rw [fl_length]; exact hlt)
          have x2 := HO.out.frozenAt k
          have HO2 : Hid (∀ b, b = decide ((k : Int) < p.last) → (wr.setCell ⟨w3.heap.size, k, none⟩ (.bool b)).ownsRow w3.heap.size 4 1 (.slice (some ⟨w3.heap.size, 0, none⟩) l.length l.length) l.length ((fl l.length (fun i => decide (i < k + 1) && decide ((i : Int) < p.last))).map Tb)) := by
            rintro b rfl
            have := bool_store HO.out k (decide ((k : Int) < p.last))
            rw [fl_set] at this
            rw [← fl_ext (f := fun i => if i = k then decide ((k : Int) < p.last) else (decide (i < k) && decide ((i : Int) < p.last)))]
            · exact this
            · intro i _
              by_cases e : i = k
              · subst e; simp
              · have : (i < k + 1) ↔ (i < k) := by omega
                rw [if_neg e]
                simp [this]
          have HB3 : Hid (∀ b, Below w3.heap.size w3 (wr.setCell ⟨w3.heap.size, k, none⟩ (.bool b))) := fun b => HB.out.setCell (Nat.le_refl _) _
          generalize (fl l.length (fun i => decide (i < k) && decide ((i : Int) < p.last)))[k]'(by rw [fl_length]; exact hlt) = x at *
          clear HO HB
          go_wp2_with fail
          go_roundw
          case rel => exact ⟨k + 1, by omega, by go_num, HO2.out _ rfl, HB3.out _⟩
          case measure => simp only [intOf]; omega
        · obtain rfl : k = l.length := by omega
          have f1 := (HB.out.cell (p := ⟨w.heap.size, 1, none⟩) hz2').trans d1
          have f2 := (HB.out.cell (p := ⟨w.heap.size, 2, none⟩) hz2').trans d2
          have f3 := (HB.out.cell (p := ⟨w.heap.size, 3, none⟩) hz2').trans d3
          have f4 := (HB.out.cell (p := ⟨w.heap.size, 4, none⟩) hz2').trans d4
          have hzr := own_there HO.out
          obtain ⟨W5, hW5⟩ : ∃ W5, W5 = wr.alloc (.cells #[.int .i64 p.days, .int .i64 p.weeks, .int .i64 p.months, .int .i64 p.years] 3) := ⟨_, rfl⟩
          have HP5 : Hid (PK w3 W5 p.most wr.heap.size l.length (fun i => decide (Kp.keepTo p l 0 i))) := by
            have hb5 : Below wr.heap.size wr W5 := by rw [hW5]; exact (Below.refl _ wr).alloc (Nat.le_refl _) _
            refine ⟨HB.out.trans (hb5.mono (by omega)), ?_, fun r hr => ?_, by rw [hW5]; simp, hzr⟩
            · rw [← fl_ext (f := fun i => decide (i < l.length) && decide ((i : Int) < p.last))]
              · exact own_under HO.out hb5 hzr
              · intro i hi
                rw [decide_eq_true hi, Bool.true_and]
                rw [Bool.eq_iff_iff, decide_eq_true_eq, decide_eq_true_eq]
                unfold Kp.keepTo
                constructor
                · exact fun x => .inl x
                · rintro (x | ⟨r, hr, _⟩)
                  · exact x
                  · omega
            · rw [hW5, cell_of_row _ wr.heap.size r _ _ _ (heap_alloc_new wr _)]
              have : r = 0 ∨ r = 1 ∨ r = 2 ∨ r = 3 := by omega
              rcases this with rfl | rfl | rfl | rfl <;> rfl
          obtain ⟨b4, hb4⟩ : ∃ b4, b4 = wr.heap.size := ⟨_, rfl⟩
          rw [← hb4] at HP5
          clear HO HB hm d0 d1 d2 d3 d4
          go_wp2_with fail
          rw [← hW5, ← hb4]
          clear hW5 f1 f2 f3 f4 hzr hb4
          go_loopw [52] (fun i wr => ∃ r : Nat, r ≤ 4 ∧ i = .int .i64 r ∧ Hid (PK w3 wr p.most b4 l.length (fun i => decide (Kp.keepTo p l r i)))) (fun i _ => 4 - (intOf i).toNat)
          case atStart => exact ⟨0, by omega, rfl, HP5⟩
          case round =>
            obtain ⟨r, hr, rfl, HP⟩ := hrel
            by_cases hlr : r < 4
            · have hr4 : (r : Int) < 4 := by omega
              have x0 := HP.out.ru r hlr
              obtain ⟨Bs, hBs⟩ : ∃ Bs, Bs = wr.heap.size := ⟨_, rfl⟩
              have hlb : b4 < Bs := by rw [hBs]; exact HP.out.lt
              have hBle : Bs ≤ wr.heap.size := by omega
              have HPi : Hid (PK w3 wr p.most b4 l.length (fun i => decide (Kp.keepTo p l r i ∨ (i < 0 ∧ Kp.kb r (p.most r) l i)))) := HP.out.ext fun i _ => by simp
              have HSi : Hid (wr.ownsRow Bs 3 1 (.slice none 0 0) (Kp.spn r (p.most r) (l.take 0)).length ((Kp.spn r (p.most r) (l.take 0)).map Iv)) := World.ownsRow_nil _ _ _ _
              clear HP hBs
              go_wp2_with fail
              go_loopw [12, 59] (fun sv i wr => ∃ k : Nat, k ≤ l.length ∧ i = .int .i64 k ∧ Hid (PK w3 wr p.most b4 l.length (fun i => decide (Kp.keepTo p l r i ∨ (i < k ∧ Kp.kb r (p.most r) l i)))) ∧ Hid (wr.ownsRow Bs 3 1 sv (Kp.spn r (p.most r) (l.take k)).length ((Kp.spn r (p.most r) (l.take k)).map Iv)) ∧ Bs ≤ wr.heap.size) (fun _ i _ => l.length - (intOf i).toNat)
              case atStart => exact ⟨0, by omega, rfl, HPi, HSi, hBle⟩
              case round =>
                obtain ⟨k, hk, rfl, HPk, HSk, hBk⟩ := hrel
                obtain ⟨sa, sc, hsv⟩ := own_form HSk.out
                subst hsv
                by_cases hlk : k < l.length
                · have hki : (k : Int) < (l.length : Int) := by omega
                  have HBw : Hid (Below w.heap.size w wr) := HB2.out.trans (HPk.out.bel.mono (by omega))
                  obtain ⟨bk, o, rfl, _, hbk, y0⟩ := HI.out.get k hlk
                  have y1 := (HBw.out.cell (p := ⟨bk, o + k, none⟩) hbk).trans y0
                  obtain ⟨t0, t1⟩ := HZ.out k hlk
                  have hgd : l.getD k 0 = l[k] := by rw [List.getD_eq_getElem?_getD, List.getElem?_eq_getElem hlk]; rfl
                  have hsp := fun V => rspan_any r l[k] V hlr (by omega) (by omega)
                  have hSl := HL.out r k (by omega)
                  have hhas := fun (x : Int) => rhas_int _ _ x wr (Ints.of_own HSk.out) (by omega)
                  have HN : Hid (Kp.spn r (p.most r) (l.take (k + 1)) = if Kp.kb r (p.most r) l k then Kp.spn r (p.most r) (l.take k) ++ [Kp.sp r l[k]] else Kp.spn r (p.most r) (l.take k)) := by
                    have := Kp.spn_next r (p.most r) hlk
                    rw [hgd] at this
                    exact this
                  have hkb : Kp.kb r (p.most r) l k ↔ (Kp.sp r l[k] ∉ Kp.spn r (p.most r) (l.take k) ∧ ((Kp.spn r (p.most r) (l.take k)).length : Int) < p.most r) := by
                    unfold Kp.kb
                    rw [hgd]
                  have hh := hhas (Kp.sp r l[k])
                  clear hhas hgd t0 t1 y0
                  by_cases hK : Kp.kb r (p.most r) l k
                  · have HF : Hid (∀ i, i < l.length → (if i = k then true else decide (Kp.keepTo p l r i ∨ (i < k ∧ Kp.kb r (p.most r) l i))) = decide (Kp.keepTo p l r i ∨ (i < k + 1 ∧ Kp.kb r (p.most r) l i))) := by
                      intro i _
                      by_cases e : i = k
                      · subst e
                        rw [if_pos rfl]
                        exact (decide_eq_true (.inr ⟨by omega, hK⟩)).symm
                      · have : (i < k + 1) ↔ (i < k) := by omega
                        rw [if_neg e, Bool.eq_iff_iff, decide_eq_true_eq, decide_eq_true_eq, this]
                    obtain ⟨g1, g2⟩ := hkb.1 hK
                    have HN' : Hid (Kp.spn r (p.most r) (l.take (k + 1)) = Kp.spn r (p.most r) (l.take k) ++ [Kp.sp r l[k]]) := HN.out.trans (if_pos hK)
                    rw [decide_eq_false g1] at hh
                    clear hkb HN g1 hK
                    generalize Kp.spn r (p.most r) (l.take k) = S at *
                    obtain ⟨S', hS'⟩ : ∃ S', S' = Kp.spn r (p.most r) (l.take (k + 1)) := ⟨_, rfl⟩
                    have HSe : Hid (Kp.spn r (p.most r) (l.take (k + 1)) = S') := hS'.symm
                    rw [← hS'] at HN'
                    clear hS'
                    generalize Kp.sp r l[k] = s at *
                    generalize l[k] = t at *
                    have hown := HSk.out
                    clear HSk
                    go_wp2_with fail
                    refine (hsp _).mono ?_
                    rintro e w6 ⟨rfl, rfl⟩
                    go_wp2_with fail
                    refine hh.mono ?_
                    rintro e w7 ⟨rfl, rfl⟩
                    clear hsp hh
                    go_wp2_with (at_builtin; refine wpList_append_own _ rfl _ _ 24 rfl Bs 3 i0 (.int .i64 0) 1 8 Tryd.underlying24 hi hz0 hz1' hz2 rfl (by decide) _ _ _ rfl (hown.alloc _) ⟨w7.heap.size, 0, none⟩ 1 1 [.int .i64 s] rfl rfl ?c1 ?c2 ?c3 ?c4 ?c5 ?_)
                    case c1 =>
                      intro j u hj
                      match j, hj with
                      | 0, hj => simp at hj; subst hj; simp [Addr.add]
                    case c2 => intro u hu; simp at hu; subst hu; rfl
                    case c3 => unfold maxLen; omega
                    case c4 => omega
                    case c5 => simp; omega
                    intro v' w8 hown1 hgrow _
                    have R := own_int (w := w7) hown hown1 hgrow (Below.refl _ _) hBk
                    have HR1 : Hid (w8.ownsRow Bs 3 1 v' S'.length (S'.map Iv)) := by rw [HN'.out]; exact R.1
                    have HP8 : Hid (PK w3 w8 p.most b4 l.length (fun i => decide (Kp.keepTo p l r i ∨ (i < k ∧ Kp.kb r (p.most r) l i)))) := HPk.out.under R.2 hlb
                    have hB8 : Bs ≤ w8.heap.size := by have := R.2.size; omega
                    have hne := HPk.out.ne
                    clear R hown1 hgrow hown HPk y1
                    have x1 := bool_at HP8.out.out k (by rw [fl_length]; exact hlk)
                    have x2 := HP8.out.out.frozenAt k
                    generalize (fl l.length (fun i => decide (Kp.keepTo p l r i ∨ (i < k ∧ Kp.kb r (p.most r) l i))))[k]'(by rw [fl_length]; exact hlk) = x at *
                    have HP9 : Hid (PK w3 (w8.setCell ⟨w3.heap.size, k, none⟩ (.bool true)) p.most b4 l.length (fun i => decide (Kp.keepTo p l r i ∨ (i < k + 1 ∧ Kp.kb r (p.most r) l i)))) := HP8.out.set k true HF.out
                    have HR9 : Hid ((w8.setCell ⟨w3.heap.size, k, none⟩ (.bool true)).ownsRow Bs 3 1 v' S'.length (S'.map Iv)) := own_aside HR1.out (by show w3.heap.size < Bs; omega) _
                    clear HP8 HR1 HF
                    go_wp2_with fail
                    go_roundw
                    case rel => exact ⟨k + 1, by omega, by go_num, HP9, by rw [HSe.out]; exact HR9, by simpa using hB8⟩
                    case measure => simp only [intOf]; omega
                  · have HP9 : Hid (PK w3 wr p.most b4 l.length (fun i => decide (Kp.keepTo p l r i ∨ (i < k + 1 ∧ Kp.kb r (p.most r) l i)))) := HPk.out.ext fun i _ => by
                      rw [Bool.eq_iff_iff, decide_eq_true_eq, decide_eq_true_eq]
                      constructor
                      · rintro (q | ⟨q1, q2⟩)
                        · exact .inl q
                        · exact .inr ⟨by omega, q2⟩
                      · rintro (q | ⟨q1, q2⟩)
                        · exact .inl q
                        · refine .inr ⟨?_, q2⟩
                          by_cases e : i = k
                          · subst e; exact absurd q2 hK
                          · omega
                    have HS9 : Hid (wr.ownsRow Bs 3 1 (.slice sa (Kp.spn r (p.most r) (l.take k)).length sc) (Kp.spn r (p.most r) (l.take (k + 1))).length ((Kp.spn r (p.most r) (l.take (k + 1))).map Iv)) := by
                      rw [HN.out, if_neg hK]; exact HSk.out
                    by_cases hS : Kp.sp r l[k] ∈ Kp.spn r (p.most r) (l.take k)
                    · rw [decide_eq_true hS] at hh
                      clear hkb HN hK hS HPk HSk
                      generalize Kp.spn r (p.most r) (l.take k) = S at *
                      obtain ⟨S', hS'⟩ : ∃ S', S' = Kp.spn r (p.most r) (l.take (k + 1)) := ⟨_, rfl⟩
                      have HSe : Hid (Kp.spn r (p.most r) (l.take (k + 1)) = S') := hS'.symm
                      rw [← hS'] at HS9
                      clear hS'
                      generalize Kp.sp r l[k] = s at *
                      generalize l[k] = t at *
                      go_wp2_with fail
                      refine (hsp _).mono ?_
                      rintro e w6 ⟨rfl, rfl⟩
                      go_wp2_with fail
                      refine hh.mono ?_
                      rintro e w7 ⟨rfl, rfl⟩
                      clear hsp hh
                      go_wp2_with fail
                      go_roundw
                      case rel => exact ⟨k + 1, by omega, by go_num, HP9, by rw [HSe.out]; exact HS9, hBk⟩
                      case measure => simp only [intOf]; omega
                    · have hfull : p.most r ≤ ((Kp.spn r (p.most r) (l.take k)).length : Int) := by
                        have : ¬ ((Kp.spn r (p.most r) (l.take k)).length : Int) < p.most r := fun q => hK (hkb.2 ⟨hS, q⟩)
                        omega
                      rw [decide_eq_false hS] at hh
                      clear hkb HN hK hS HPk HSk
                      generalize Kp.spn r (p.most r) (l.take k) = S at *
                      obtain ⟨S', hS'⟩ : ∃ S', S' = Kp.spn r (p.most r) (l.take (k + 1)) := ⟨_, rfl⟩
                      have HSe : Hid (Kp.spn r (p.most r) (l.take (k + 1)) = S') := hS'.symm
                      rw [← hS'] at HS9
                      clear hS'
                      generalize Kp.sp r l[k] = s at *
                      generalize l[k] = t at *
                      go_wp2_with fail
                      refine (hsp _).mono ?_
                      rintro e w6 ⟨rfl, rfl⟩
                      go_wp2_with fail
                      refine hh.mono ?_
                      rintro e w7 ⟨rfl, rfl⟩
                      clear hsp hh
                      go_wp2_with fail
                      go_roundw
                      case rel => exact ⟨k + 1, by omega, by go_num, HP9, by rw [HSe.out]; exact HS9, hBk⟩
                      case measure => simp only [intOf]; omega
                · obtain rfl : k = l.length := by omega
                  have HP9 : Hid (PK w3 wr p.most b4 l.length (fun i => decide (Kp.keepTo p l (r + 1) i))) := HPk.out.ext fun i hi => by
                    rw [Bool.eq_iff_iff, decide_eq_true_eq, decide_eq_true_eq, Kp.keepTo_next]
                    constructor
                    · rintro (q | ⟨_, q⟩)
                      · exact .inl q
                      · exact .inr q
                    · rintro (q | q)
                      · exact .inl q
                      · exact .inr ⟨hi, q⟩
                  clear HPk HSk
                  go_wp2_with fail
                  go_roundw
                  case rel => exact ⟨r + 1, by omega, by go_num, HP9⟩
                  case measure => simp only [intOf]; omega
            · obtain rfl : r = 4 := by omega
              have HO := HP.out.out
              have HBf : Hid (Below w.heap.size w wr) := HB2.out.trans (HP.out.bel.mono (by omega))
              have HO' : Hid (wr.ownsRow w.heap.size 4 1 (.slice (some ⟨w3.heap.size, 0, none⟩) l.length l.length) l.length ((Kp.kept p l).map Tb)) := by
                rw [HK.out]
                exact row_lower HO (by omega)
              clear HP HO
              go_wp2_with fail
              go_ret2
              exact ⟨_, rfl, HO'.out, HBf.out⟩
    · have hE1 : Kp.pickErr p l ≠ 0 := by rw [hE]; exact htz
      rw [Kp.pickL_no hE1, hE]
      have hbq : (Kp.tErr l != 0) = true := by simpa using htz
      clear hE hE1
      generalize Kp.tErr l = z at *
      clear h
      go_enter Tryd.func9, Tryd.ntmps9
      go_upto_region 1 with fail
      rw [← hW1]
      clear hW1
      go_wp2_with fail
      refine (hpo _).mono ?_
      rintro e w2 ⟨rfl, b2⟩
      have HB2 : Hid (Below w.heap.size w w2) := HB1.out.trans (b2.mono HB1.out.size)
      clear b2 c0 c1 c2 c3 c4
      go_wp2_with fail
      refine (ht _ HB2.out).mono ?_
      rintro e w3 ⟨rfl, rfl⟩
      clear ht
      go_wp2_with fail
      go_ret2
      exact ⟨_, rfl, World.ownsRow_nil _ _ _ _, HB2.out⟩
  · have hE1 : Kp.pickErr p l = 1 := by unfold Kp.pickErr; rw [hp, if_pos (by decide)]
    rw [Kp.pickL_no (by rw [hE1]; decide), hE1]
    rw [hp] at hpo
    clear hE1 hp h ht
    go_enter Tryd.func9, Tryd.ntmps9
    go_upto_region 1 with fail
    rw [← hW1]
    clear hW1
    go_wp2_with fail
    refine (hpo _).mono ?_
    rintro e w2 ⟨rfl, b2⟩
    have HB2 : Hid (Below w.heap.size w w2) := HB1.out.trans (b2.mono HB1.out.size)
    clear b2 c0 c1 c2 c3 c4
    go_wp2_with fail
    go_ret2
    exact ⟨_, rfl, World.ownsRow_nil _ _ _ _, HB2.out⟩

end Go.Proofs.YtemcakegbeaeaaaDoor
