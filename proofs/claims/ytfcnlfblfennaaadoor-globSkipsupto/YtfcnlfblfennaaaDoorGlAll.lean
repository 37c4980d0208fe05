/-
  P40: what readPattern of package glob answers.
  P40: what readPattern of package glob answers: the walk.
  P41: what takeAll of package glob answers, for parts and names.
  P40, P41: what Check and Match of package glob answer.
  P42: what Skips of package glob answers.
  What fits of the statements answers.
-/
import Derived.Test.YtfcnlfblfennaaaDoorGlRead
import Derived.Test.YtfcnlfblfennaaaDoorGlTakeS
import Derived.Test.YtfcnlfblfennaaaDoorNnGenAll
import Derived.Test.YtfcnlfblfennaaaDoorNnValid
import Derived.Test.YtfcnlfblfennaaaDoorShelfCut
import Derived.Test.YtfcnlfblfennaaaDoorGbLaws
import Derived.Test.YtfcnlfblfennaaaDoorNnSplit
import Derived.Test.YtfcnlfblfennaaaDoorRnName
import Derived.Test.YtfcnlfblfennaaaDoorNnJoin
namespace Go.Proofs.YtfcnlfblfennaaaDoor
open Go.RowKit
set_option maxRecDepth 4000

namespace Gb
theorem items_len : ∀ {k : Nat} {l r : List Nat} {x : List (Nat × Nat)}, items k l = some (x, r) → x.length ≤ l.length
  | 0, _, _, _, h => by cases h
  | k + 1, l, r, x, h => by
    rw [items] at h
    cases hi : item l with
    | none => rw [hi] at h; cases h
    | some y =>
      obtain ⟨i, s⟩ := y
      rw [hi] at h
      have h1 := item_less hi
      cases s with
      | nil => cases h
      | cons c s =>
        dsimp only at h
        split at h
        · cases h
          simp only [List.length_cons] at h1 ⊢
          simp
          omega
        · obtain ⟨z, hz, e⟩ := Option.map_eq_some_iff.1 h
          obtain ⟨z1, z2⟩ := z
          cases e
          have := items_len hz
          rw [List.length_cons]
          dsimp only
          omega
theorem cls_len {l r : List Nat} {t : Tst} (h : cls l = some (t, r)) : t.2.length ≤ l.length := by
  unfold cls at h
  obtain ⟨⟨x, s⟩, hx, e⟩ := Option.map_eq_some_iff.1 h
  cases e
  have := items_len hx
  split at this
  · rw [List.length_tail] at this; dsimp only; omega
  · exact this
theorem sgn_len {l r : List Nat} {t : Tst} (h : sgn l = some (some t, r)) : t.2.length ≤ l.length := by
  cases l with
  | nil => cases h
  | cons c l =>
    rw [sgn] at h
    split at h
    · cases h
    split at h
    · cases h; simp [anyc]
    split at h
    · obtain ⟨⟨x, s⟩, hx, e⟩ := Option.map_eq_some_iff.1 h
      cases e
      have := cls_len hx
      rw [List.length_cons]; dsimp only; omega
    · obtain ⟨⟨x, s⟩, hx, e⟩ := Option.map_eq_some_iff.1 h
      cases e
      simp [just]
theorem sgs_len : ∀ (n : Nat) (l : List Nat) (m : List (Option Tst)), l.length ≤ n → sgs l = some m → m.length ≤ l.length ∧ ∀ t, some t ∈ m → t.2.length ≤ l.length := by
  intro n
  induction n with
  | zero =>
    intro l m hn h
    have : l = [] := List.length_eq_zero_iff.1 (Nat.le_zero.1 hn)
    subst this
    rw [sgs_nil] at h
    cases h
    exact ⟨Nat.le_refl _, fun t ht => by cases ht⟩
  | succ n ih =>
    intro l m hn h
    by_cases hl : l = []
    · subst hl
      rw [sgs_nil] at h
      cases h
      exact ⟨Nat.le_refl _, fun t ht => by cases ht⟩
    · rw [sgs_step hl] at h
      cases hs : sgn l with
      | none => rw [hs] at h; cases h
      | some x =>
        obtain ⟨t, r⟩ := x
        rw [hs, Option.bind_some] at h
        obtain ⟨m', hm', rfl⟩ := Option.map_eq_some_iff.1 h
        have hr := sgn_less hs
        dsimp only at hm'
        obtain ⟨i1, i2⟩ := ih r m' (by omega) hm'
        refine ⟨by rw [List.length_cons]; omega, fun q hq => ?_⟩
        rcases List.mem_cons.1 hq with e | e
        · subst e
          exact sgn_len hs
        · have := i2 q e; omega
end Gb
theorem few_part {s : Nn.Name} {cs : List Nat} {m : List (Option Gb.Tst)} (hc : Nn.chars s = some cs) (hl : cs.length ≤ 4194304) (h : Gb.part s = some (some m)) : m.length ≤ 4194304 ∧ FewS m := by
  rw [Gb.part_sgs hc] at h
  split at h
  · cases h
  · cases hs : Gb.sgs cs with
    | none => rw [hs] at h; cases h
    | some m' =>
      rw [hs, Option.bind_some] at h
      split at h
      · cases h
      · cases h
        obtain ⟨h1, h2⟩ := Gb.sgs_len _ cs m (Nat.le_refl _) hs
        exact ⟨by omega, fun t ht => by have := h2 t ht; omega⟩
/-- the parts of a text of characters are such texts -/
theorem Nn.chars_parts : ∀ (n : Nat) (l : List UInt8) (cs : List Nat), l.length ≤ n → Nn.chars l = some cs → ∀ s ∈ Nn.cut l, ∃ x, Nn.chars s = some x ∧ x.length ≤ cs.length := by
  intro n
  induction n with
  | zero =>
    intro l cs hn h s hs
    have : l = [] := List.length_eq_zero_iff.1 (Nat.le_zero.1 hn)
    subst this
    have : s = [] := List.mem_singleton.1 hs
    subst this
    exact ⟨cs, h, Nat.le_refl _⟩
  | succ n ih =>
    intro l cs hn h s hs
    rcases Nn.ix_cases 47 l with ⟨hix, _⟩ | ⟨i, hix, hi, hl, _⟩
    · rw [Nn.cut_none hix] at hs
      rw [List.mem_singleton.1 hs]
      exact ⟨cs, h, Nat.le_refl _⟩
    · rw [Nn.cut_at hix] at hs
      rw [hl] at h
      obtain ⟨x, y, hx, hy, rfl⟩ := Nn.chars_cut _ _ _ cs (Nat.le_refl _) h
      rcases List.mem_cons.1 hs with rfl | hs
      · exact ⟨x, hx, by simp⟩
      · obtain ⟨z, hz, hzl⟩ := ih _ y (by rw [List.length_drop]; omega) hy s hs
        exact ⟨z, hz, by simp; omega⟩
theorem Gb.parts_cons (s : Nn.Name) (l : List Nn.Name) : Gb.parts (s :: l) = match Gb.part s with | none => none | some x => (Gb.parts l).map (x :: ·) := rfl
end Go.Proofs.YtfcnlfblfennaaaDoor

namespace Go.Proofs.YtfcnlfblfennaaaDoor
open Go.RowKit

/-- what readPattern answers -/
def PgOut (p : ByteArray) (w : World) (e : Ending) (w' : World) : Prop :=
  ∃ v, e = .returned (.tuple #[v, .int .i64 (Gb.pat p.data.toList).2]) ∧ Pts w' v (Gb.pat p.data.toList).1 ∧ Below w.heap.size w w' ∧ FewP (Gb.pat p.data.toList).1 ∧ (Gb.pat p.data.toList).1.length ≤ 4194304
theorem FewP.nil : FewP [] := fun m h => by cases h
theorem info_part : (Tryd.prog.info? 54).map (fun i => (i.zero, i.size, i.bytes)) = some (some (.agg #[.bool false, .slice none 0 0]), 2, 32) := by kernel_rfl
theorem pat_large (p : ByteArray) (w : World) (h : 60 < p.size) : Calls Tryd.prog 23 #[.string p] w fun e w' => e = .returned (.tuple #[.slice none 0 0, .int .i64 2]) ∧ w' = w := by
  have h1 : (60 : Int) < (p.size : Int) := by omega
  go_enter Tryd.func23, Tryd.ntmps23
  go_wp2_with fail
  go_ret2
  exact ⟨rfl, rfl⟩
theorem cut_slash (p : ByteArray) (w : World) (B : Bool) (hB : B = decide (p.data.toList.head? = some 47)) (q : ByteArray) (hq : q = if p.data.toList.head? = some 47 then ⟨p.data.toList.tail.toArray⟩ else p) :
    Calls Tryd.prog 41 #[.string p, .string ⟨#[47]⟩] w fun e w' => e = .returned (.tuple #[.string q, .bool B]) ∧ w' = w := by
  refine (Tryd.strings_CutPrefix p ⟨#[47]⟩ w).mono ?_
  rintro e w' ⟨rfl, rfl⟩
  refine ⟨?_, rfl⟩
  rw [show (⟨#[47]⟩ : ByteArray).data.toList = [47] from rfl, Lib.trimPrefix, hasPre_slash, hB, hq]
  by_cases h : p.data.toList.head? = some 47
  · rw [decide_eq_true h, if_pos rfl, if_pos h, List.length_singleton, List.drop_one]
  · rw [decide_eq_false h, if_neg (by simp), if_neg h, show (⟨p.data.toList.toArray⟩ : ByteArray) = p from (of_data rfl).symm]
theorem pat_noslash (p : ByteArray) (w : World) (h : p.size ≤ 60) (hh : p.data.toList.head? ≠ some 47) : Calls Tryd.prog 23 #[.string p] w fun e w' => e = .returned (.tuple #[.slice none 0 0, .int .i64 13]) ∧ w' = w := by
  have hc := cut_slash p w false (by rw [decide_eq_false hh]) p (by rw [if_neg hh])
  clear hh
  go_enter Tryd.func23, Tryd.ntmps23
  go_wp2_with fail
  refine hc.mono ?_
  rintro e u ⟨rfl, hu⟩
  obtain rfl := hu.symm
  clear hc hu
  go_wp2_with fail
  go_ret2
  exact ⟨rfl, rfl⟩
theorem pat_invalid (p q : ByteArray) (w : World) (hT : Tabs w) (h : p.size ≤ 60) (hh : p.data.toList.head? = some 47) (hq : q = ⟨p.data.toList.tail.toArray⟩) (hv : Lib.validD q.data.toList = false) :
    Calls Tryd.prog 23 #[.string p] w fun e w' => e = .returned (.tuple #[.slice none 0 0, .int .i64 13]) ∧ Below w.heap.size w w' := by
  have hc := cut_slash p w true (by rw [decide_eq_true hh]) q (by rw [if_pos hh]; exact hq)
  have hqs : q.size ≤ 60 := by
    rw [hq, Lib.size_eq]
    have : p.data.toList.length ≤ 60 := by rw [← Lib.size_eq]; exact h
    simp
    omega
  have hvl := valid_any q w (by omega) hT
  rw [hv] at hvl
  clear hh hq hv hT
  go_enter Tryd.func23, Tryd.ntmps23
  go_wp2_with fail
  refine hc.mono ?_
  rintro e u ⟨rfl, hu⟩
  obtain rfl := hu.symm
  clear hc hu
  go_wp2_with fail
  refine hvl.mono ?_
  rintro e w1 ⟨rfl, b1⟩
  have HB : Hid (Below w.heap.size w w1) := b1
  clear hvl b1
  go_wp2_with fail
  go_ret2
  exact ⟨rfl, HB.out⟩

set_option maxHeartbeats 4000000 in
set_option maxRecDepth 10000 in
theorem pat_parts (p q : ByteArray) (cs : List Nat) (w : World) (hT : Tabs w) (h : p.size ≤ 60) (hh : p.data.toList.head? = some 47) (hq : q = ⟨p.data.toList.tail.toArray⟩) (hv : Nn.chars q.data.toList = some cs) :
    Calls Tryd.prog 23 #[.string p] w fun e w' => Below w.heap.size w w' ∧ ((Gb.parts (Nn.cut q.data.toList) = none ∧ e = .returned (.tuple #[.slice none 0 0, .int .i64 13])) ∨
      ∃ v P, Gb.parts (Nn.cut q.data.toList) = some P ∧ e = .returned (.tuple #[v, .int .i64 0]) ∧ Pts w' v P ∧ FewP P ∧ P.length ≤ 4194304) := by
  have hc := cut_slash p w true (by rw [decide_eq_true hh]) q (by rw [if_pos hh]; exact hq)
  have hqs : q.size ≤ 60 := by
    rw [hq, Lib.size_eq]
    have : p.data.toList.length ≤ 60 := by rw [← Lib.size_eq]; exact h
    simp
    omega
  have hvl := valid_any q w (by omega) hT
  rw [Nn.chars_valid, hv] at hvl
  have hsp := fun W => splitA_any q W (by omega)
  have hcl := Nn.chars_count _ _ hv
  rw [← Lib.size_eq] at hcl
  have HPs : Hid (∀ s ∈ Nn.cut q.data.toList, ∃ x, Nn.chars s = some x ∧ x.length ≤ 60) := fun s hs => by
    obtain ⟨x, h1, h2⟩ := Nn.chars_parts _ _ cs (Nat.le_refl _) hv s hs
    exact ⟨x, h1, by omega⟩
  obtain ⟨i0, hi, hz0, hz1, hz2⟩ := info_is info_part
  clear hh hq hv hT
  go_enter Tryd.func23, Tryd.ntmps23
  go_wp2_with fail
  refine hc.mono ?_
  rintro e u ⟨rfl, hu⟩
  obtain rfl := hu.symm
  clear hc hu
  go_wp2_with fail
  refine hvl.mono ?_
  rintro e w1 ⟨rfl, b1⟩
  have HB1 : Hid (Below w.heap.size w w1) := b1
  clear hvl b1
  go_wp2_with fail
  refine (hsp w1).mono ?_
  rintro e w2 ⟨v, l, rfl, hd, hx, hln, hsz, b2⟩
  have HB2 : Hid (Below w.heap.size w w2) := HB1.out.trans (b2.mono HB1.out.size)
  have HX : Hid (Tx w2 v l) := hx
  have HD : Hid (dl l = Nn.cut q.data.toList) := hd
  have HSz : Hid (∀ t ∈ l, t.size ≤ q.size) := hsz
  obtain ⟨a, c, rfl⟩ := hx.slice
  obtain ⟨N, hN⟩ : ∃ N, N = l.length := ⟨_, rfl⟩
  have HN : Hid (N = l.length) := hN
  rw [← hN] at HX hln ⊢
  obtain ⟨Z, hZ⟩ : ∃ Z, Gb.parts (dl l) = Z := ⟨_, rfl⟩
  have HZ : Hid (Gb.parts (Nn.cut q.data.toList) = Z) := by rw [← hZ, HD.out]; rfl
  have HR : Hid ((Gb.parts (dl (l.drop 0))).map (fun x => ([] : List (Option (List (Option Gb.Tst)))) ++ x) = Z) := by
    show _ = _
    rw [List.drop_zero, hZ]; cases Z <;> rfl
  clear hsp b2 hx hd hsz hN hZ HB1
  go_wp2_with fail
  go_loopw [6, 29] (fun v6 x wr => ∃ (k : Nat) (done : List (Option (List (Option Gb.Tst)))), k ≤ N ∧ x = .int .i64 k ∧ Hid (done.length = k) ∧ Hid (Oy 2 54 PtR w2.heap.size wr v6 done) ∧ Hid (FewP done) ∧ Hid ((Gb.parts (dl (l.drop k))).map (fun x => done ++ x) = Z) ∧ Hid (Below w2.heap.size w2 wr)) (fun _ x _ => N - (intOf x).toNat)
  case atStart => exact ⟨0, [], by omega, rfl, rfl, Oy.nil, FewP.nil, HR, Below.refl _ _⟩
  case round =>
    clear HR
    obtain ⟨k, done, hk, rfl, HDn, HO, HF, HR, HB⟩ := hrel
    have HBw : Hid (Below w.heap.size w wr) := HB2.out.trans (HB.out.mono HB2.out.size)
    by_cases hlt : k < N
    · have hkl : k < l.length := by rw [← HN.out]; exact hlt
      obtain ⟨bk, o, rfl, hbk, ce⟩ := (HX.out.below HB.out).get k hkl
      have hmem : l.getD k ByteArray.empty ∈ l := by
        rw [List.getD_eq_getElem?_getD, List.getElem?_eq_getElem hkl]
        exact List.getElem_mem hkl
      have hdr : dl (l.drop k) = (l.getD k ByteArray.empty).data.toList :: dl (l.drop (k + 1)) := by
        rw [List.getD_eq_getElem?_getD, List.getElem?_eq_getElem hkl, List.drop_eq_getElem_cons hkl]
        rfl
      generalize l.getD k ByteArray.empty = t at *
      obtain ⟨x, hx1, hx2⟩ := HPs.out t.data.toList (by rw [← HD.out]; exact List.mem_map_of_mem hmem)
      have hts := HSz.out t hmem
      have hpa := gpart_any t x wr hx1 (by omega)
      have HSt : Hid (Z = match Gb.part t.data.toList with | none => none | some y => ((Gb.parts (dl (l.drop (k + 1)))).map (y :: ·)).map fun z => done ++ z) := by
        show _ = _
        rw [← HR.out, hdr, Gb.parts_cons]
        cases Gb.part t.data.toList <;> rfl
      have HFt : Hid (∀ m, Gb.part t.data.toList = some (some m) → m.length ≤ 4194304 ∧ FewS m) := fun m hm => few_part hx1 (by omega) hm
      clear hmem hdr HR hx1 hx2
      go_wp2_with fail
      refine hpa.mono ?_
      rintro e w3 ⟨b3, ⟨hn, b, a2, n2, c2, rfl⟩ | ⟨pp, b, a2, n2, c2, hpp, rfl, hPt⟩⟩
      · have HB3 : Hid (Below w.heap.size w (w3.alloc (.cells #[.bool b, .slice a2 n2 c2] 54))) := (HBw.out.trans (b3.mono HBw.out.size)).alloc (Nat.le_trans HBw.out.size b3.size) _
        have HE : Hid (Gb.parts (Nn.cut q.data.toList) = none) := by
          show _ = _
          rw [HZ.out, HSt.out, hn]
        clear b3 hn hpa HSt HZ
        go_wp2_with fail
        go_ret2
        exact ⟨HB3.out, .inl ⟨HE.out, rfl⟩⟩
      · have HPt : Hid (PtR w3 pp [.bool b, .slice a2 n2 c2]) := hPt
        have hO3 := HO.out.below b3 fun _ _ q => q.below b3
        have HB3 : Hid (Below w2.heap.size w2 w3) := HB.out.trans (b3.mono HB.out.size)
        have HE : Hid (((Gb.parts (dl (l.drop (k + 1)))).map (pp :: ·)).map (fun z => done ++ z) = Z) := by
          show _ = _
          rw [HSt.out, hpp]
        have HFn : Hid (FewP (done ++ [pp])) := fun m hm => by
          rcases List.mem_append.1 hm with e | e
          · exact HF.out m e
          · rw [List.mem_singleton] at e
            exact HFt.out m (by rw [hpp, e])
        obtain ⟨cc, o1, o2, o3, o4⟩ := hO3
        have hsw := HB3.out.size
        have hdl : done.length ≤ 4194304 := by have := HDn.out; omega
        have HO2 : Hid ((∀ c ∈ cc, c.length = 2) ∧ cc.length = done.length ∧ ∀ (j : Nat) t c, done[j]? = some t → cc[j]? = some c → PtR w3 t c) := ⟨o2, o3, o4⟩
        clear b3 hpa HSt hpp o2 o3 o4 hPt HO HF HFt
        go_wp2_with (at_builtin; refine wpList_append_own _ rfl (.tmp 40) (.tmp 42) 48 rfl w2.heap.size 54 i0 (.agg #[.bool false, .slice none 0 0]) 2 32 Tryd.underlying48 hi hz0 hz1 hz2 rfl (by decide) _ _ _ rfl ((o1.alloc _).alloc _) ⟨w3.heap.size + 1, 0, none⟩ 1 1 [.bool b, .slice a2 n2 c2] rfl rfl ?c1 ?c2 ?c3 ?c4 ?c5 ?_)
        case c1 =>
          intro j u hj
          match j, hj with
          | 0, hj => simp at hj; subst hj; simp [Addr.add]
          | 1, hj => simp at hj; subst hj; simp [Addr.add]
        case c2 =>
          intro u hu
          simp only [List.mem_cons, List.not_mem_nil, or_false] at hu
          rcases hu with rfl | rfl <;> rfl
        case c3 => unfold maxLen; omega
        case c4 => omega
        case c5 => simp; omega
        intro v6 w4 hown4 hgrow _
        have hk4 : Kt 54 w3 w4 := (((Kt.refl _ w3).alloc _).alloc _).trans (Kt.of_grown hgrow fun g hg => by
          obtain ⟨cur, q, _⟩ := own_block ((o1.alloc _).alloc _) hg
          exact ⟨cur, _, q⟩)
        have HB4 : Hid (Below w2.heap.size w2 w4) := ((HB3.out.alloc hsw _).alloc (by simp; omega) _).grown hgrow (by simp; omega) fun g hg => by
          obtain ⟨_, _, q, _⟩ := own_block o1 hg
          exact q
        have HOn : Hid (Oy 2 54 PtR w2.heap.size w4 v6 (done ++ [pp])) := Oy.more HO2.out.1 HO2.out.2.1 (fun j t c a b => PtR.kt hk4 (by decide) (by decide) (HO2.out.2.2 j t c a b)) hown4 rfl (PtR.kt hk4 (by decide) (by decide) HPt.out)
        clear hown4 hgrow hk4 o1 HO2 HPt HB3
        go_wp2_with fail
        go_roundw
        case measure => simp only [intOf]; omega
        case rel =>
          refine ⟨k + 1, done ++ [pp], by omega, by go_num, ?_, HOn, HFn, ?_, HB4⟩
          · show _ = _
            rw [List.length_append, List.length_singleton, HDn.out]
          · show _ = _
            rw [← HE.out]
            cases Gb.parts (dl (l.drop (k + 1))) <;> simp
    · obtain rfl : k = N := by omega
      have HE : Hid (Gb.parts (Nn.cut q.data.toList) = some done) := by
        show _ = _
        rw [HZ.out, ← HR.out, List.drop_eq_nil_of_le (by rw [HN.out]; exact Nat.le_refl _)]
        show some (done ++ []) = _
        rw [List.append_nil]
      have HP : Hid (Pts wr u6 done) := HO.out.ry
      have HLe : Hid (done.length ≤ 4194304) := by show _ ≤ _; have := HDn.out; omega
      clear HR HO
      go_wp2_with fail
      go_ret2
      exact ⟨HBw.out, .inr ⟨_, done, HE.out, rfl, HP.out, HF.out, HLe.out⟩⟩
end Go.Proofs.YtfcnlfblfennaaaDoor

namespace Go.Proofs.YtfcnlfblfennaaaDoor
open Go.RowKit

/-- a part's signs and a name -/
def fitB (m : List (Option Gb.Tst)) (s : ByteArray) : Bool := Gb.nameFit m s.data.toList

set_option maxHeartbeats 4000000 in
set_option maxRecDepth 10000 in
theorem takeP_any (vl vt : Value) (m : List (Option (List (Option Gb.Tst)))) (cs : List ByteArray) (w : World) (hm : Pts w vl m) (hf : FewP m) (hml : m.length ≤ 4194304) (ht : Tx w vt cs) (htx : Txt cs) (hcl : cs.length ≤ 4194304) :
    Calls Tryd.prog 24 #[vl, vt] w fun e w' => e = .returned (.bool (Gb.fit fitB m cs)) ∧ Below w.heap.size w w' := by
  have HT : Hid (Gb.tab (Gb.anyOf m) (Gb.oneOf fitB m cs) m.length cs.length = Gb.fit fitB m cs) := Gb.tab_of _ _ _
  generalize Gb.fit fitB m cs = ANS at *
  obtain ⟨al, cl, rfl⟩ := hm.slice
  obtain ⟨at_, ct, rfl⟩ := ht.slice
  have HM : Hid (Pts w (.slice al m.length cl) m) := hm
  have HR : Hid (Tx w (.slice at_ cs.length ct) cs) := ht
  have HF : Hid (FewP m) := hf
  have HTx : Hid (Txt cs) := htx
  obtain ⟨n, hn⟩ : ∃ n, n = cs.length := ⟨_, rfl⟩
  have HN : Hid (n = cs.length) := hn
  rw [← hn] at HR hcl HT ⊢
  obtain ⟨N, hN⟩ : ∃ N, N = m.length := ⟨_, rfl⟩
  have HNm : Hid (N = m.length) := hN
  rw [← hN] at HM hml HT ⊢
  obtain ⟨any, hany⟩ : ∃ any, any = Gb.anyOf m := ⟨_, rfl⟩
  obtain ⟨one, hone⟩ : ∃ one, one = Gb.oneOf fitB m cs := ⟨_, rfl⟩
  have HAny : Hid (any = Gb.anyOf m) := hany
  have HOne : Hid (one = Gb.oneOf fitB m cs) := hone
  rw [← hany, ← hone] at HT
  clear hm ht hf htx hn hN hany hone
  obtain ⟨i0, hi, hz0, hz1, hz2⟩ := info_is info_bool
  go_enter Tryd.func24, Tryd.ntmps24
  go_wp2_with (at_make; refine wpList_make_full _ rfl (.tmp 11) (.tmp 11) 80 rfl w.heap.size 4 i0 (.bool false) 1 Tryd.underlying80 hi hz0 hz1 .i64 .i64 _ _ (n + 1) rfl rfl (by omega) (by omega) (by rw [hz2]; omega) (by unfold maxLen; omega) (Nat.le_refl _) ?_; intro w1 hown hgrow; have hn0 : (0 : Int) < (n : Int) + 1 := (by omega); have hb0 := Br.made hown; have c0 : w1.cell? ⟨w.heap.size, 0, none⟩ = some (.bool false) := (hb0.cell (Nat.zero_le n)); have f0 := hb0.frozen 0)
  have HB1 : Hid (Below w.heap.size w w1) := (Below.refl _ _).grown hgrow (Nat.le_refl _) (fun k hk => by cases hk)
  clear hown hgrow
  have HBr : Hid (Br (w1.setCell ⟨w.heap.size, 0, none⟩ (.bool true)) w.heap.size n (Gb.tab any one 0)) := (hb0.set 0 true).congr fun k _ => by
    show (if k = 0 then true else false) = (k == 0)
    cases k <;> rfl
  have HBs : Hid (Below w.heap.size w (w1.setCell ⟨w.heap.size, 0, none⟩ (.bool true))) := below_set HB1.out (Nat.le_refl _) _ _
  clear hb0 c0 f0
  generalize w1.setCell _ _ = w2 at HBr HBs ⊢
  generalize hbe : w.heap.size = b at *
  have HBe : Hid (w.heap.size = b) := hbe
  clear hbe HB1
  go_loopw [17] (fun x wr => ∃ i : Nat, i ≤ N ∧ x = .int .i64 i ∧ Hid (Br wr b n (Gb.tab any one i)) ∧ Hid (Below b w wr)) (fun x _ => N - (intOf x).toNat)
  case atStart => exact ⟨0, by omega, rfl, HBr, HBs⟩
  case round =>
    clear HBr HBs
    obtain ⟨i, his, rfl, HBr, HBs⟩ := hrel
    by_cases hlt : i < N
    · have him : i < m.length := by rw [← HNm.out]; exact hlt
      have hBw : Below w.heap.size w wr := by rw [HBe.out]; exact HBs.out
      obtain ⟨bk, o, c3, rfl, hbk, hl3, hR, hcell⟩ := (Pts.below HM.out hBw).get i m[i] (List.getElem?_eq_getElem him)
      have hp : m.getD i none = m[i] := by rw [List.getD_eq_getElem?_getD, List.getElem?_eq_getElem him]; rfl
      cases hmi : m[i] with
      | none =>
        rw [hmi] at hR hp
        obtain ⟨as_, ks, qs, rfl⟩ := hR
        have d0 : wr.cell? ⟨bk, o + i * 2, none⟩ = some (.bool true) := hcell 0 _ rfl
        have d1 : wr.cell? ⟨bk, o + i * 2 + 1, none⟩ = some (.slice as_ ks qs) := hcell 1 _ rfl
        clear hcell hl3 hmi
        go_wp2_with fail
        refine upon_eq (r' := .ok (.enter 105 #[.agg #[.bool true, .slice as_ ks qs]]) (wr.alloc (.cells #[.bool true, .slice as_ ks qs] 54))) (by kernel_rfl) ?_
        refine (pmany_any true (.slice as_ ks qs) _).mono ?_
        rintro e w3 ⟨rfl, b3⟩
        have hB3 : Below wr.heap.size wr w3 := ((Below.refl _ wr).alloc (Nat.le_refl _) _).trans (b3.mono (by simp))
        have hBr3 := HBr.out.below hB3
        have HBs3 : Hid (Below b w w3) := HBs.out.trans (hB3.mono (by have := HBs.out.size; have := HBe.out; omega))
        have hsp := spread_any b n _ w3 hBr3 hcl
        have HBb : Hid (b < w3.heap.size) := hBr3.lt
        have HAn : Hid (any i = true) := by
          show _ = _
          rw [HAny.out, Gb.anyOf, hp]; rfl
        clear b3 hB3 d0 d1
        go_wp2_with fail
        refine hsp.mono ?_
        rintro e w4 ⟨rfl, hBr4, hk4⟩
        have HBr4 : Hid (Br w4 b n (Gb.tab any one (i + 1))) := hBr4.congr fun k _ => by
          show _ = Gb.row (any i) (Gb.tab any one i) (one i) k
          rw [HAn.out]
          exact Gb.row_true _ _ _ k
        have HBs4 : Hid (Below b w w4) := HBs3.out.trans (hk4.below (Nat.le_of_lt HBb.out) fun k hk => by omega)
        clear hsp hBr4 hk4 hBr3 HBr HBs HBs3
        go_wp2_with fail
        go_roundw
        case measure => simp only [intOf]; omega
        case rel => exact ⟨i + 1, by omega, by go_num, HBr4, HBs4⟩
      | some t =>
        rw [hmi] at hR hp
        obtain ⟨s, rfl, hIt⟩ := hR
        obtain ⟨as_, qs, rfl⟩ := hIt.slice
        obtain ⟨ks, hks⟩ : ∃ ks, ks = t.length := ⟨_, rfl⟩
        rw [← hks] at hIt hcell
        have HLt : Hid (t.length ≤ 4194304 ∧ FewS t) := HF.out t (by rw [← hmi]; exact List.getElem_mem him)
        have d0 : wr.cell? ⟨bk, o + i * 2, none⟩ = some (.bool false) := hcell 0 _ rfl
        have d1 : wr.cell? ⟨bk, o + i * 2 + 1, none⟩ = some (.slice as_ ks qs) := hcell 1 _ rfl
        clear hcell hl3 hmi hks
        go_wp2_with fail
        refine upon_eq (r' := .ok (.enter 105 #[.agg #[.bool false, .slice as_ ks qs]]) (wr.alloc (.cells #[.bool false, .slice as_ ks qs] 54))) (by kernel_rfl) ?_
        refine (pmany_any false (.slice as_ ks qs) _).mono ?_
        rintro e w3 ⟨rfl, b3⟩
        have hB3 : Below wr.heap.size wr w3 := ((Below.refl _ wr).alloc (Nat.le_refl _) _).trans (b3.mono (by simp))
        have HBx : Hid (w3.heap[wr.heap.size]? = some (.cells #[.bool false, .slice as_ ks qs] 54 (0, 0))) := (b3.block _ (by simp)).trans (heap_alloc_new wr _)
        have HBr3 : Hid (Br w3 b n (fun j => if n < j then Gb.row false (Gb.tab any one i) (one i) j else Gb.tab any one i j)) := (HBr.out.below hB3).congr fun k hk => by rw [if_neg (by omega)]
        have HBs3 : Hid (Below b w w3) := HBs.out.trans (hB3.mono (by have := HBs.out.size; have := HBe.out; omega))
        have HI3 : Hid (Sgs w3 (.slice as_ ks qs) t) := hIt.below hB3
        have HAn : Hid (any i = false) := by
          show _ = _
          rw [HAny.out, Gb.anyOf, hp]; rfl
        have HOn : Hid (∀ k x, cs[k]? = some x → one i k = fitB t x) := fun k x hx => by
          rw [HOne.out, Gb.oneOf, hp, hx]
        have HBl : Hid (b < wr.heap.size) := HBr.out.lt
        generalize hbx : wr.heap.size = bx at *
        clear b3 hB3 d0 d1 HBr HBs hBw hIt hbx
        go_wp2_with fail
        go_loopw [8] (fun x wq => ∃ k : Nat, k ≤ n ∧ x = .int .i64 k ∧ Hid (Br wq b n (fun j => if k < j then Gb.row false (Gb.tab any one i) (one i) j else Gb.tab any one i j)) ∧ Hid (Kt 4 w3 wq) ∧ Hid (Below b w wq)) (fun x _ => (intOf x).toNat)
        case atStart => exact ⟨n, Nat.le_refl _, rfl, HBr3, Kt.refl _ _, HBs3⟩
        case round =>
          clear HBr3 HBs3
          obtain ⟨k, hk, rfl, HBr, HKt, HBs⟩ := hrel
          cases k with
          | zero =>
            have c0 := HBr.out.cell (Nat.zero_le n)
            have f0 := HBr.out.frozen 0
            have hn0 : (0 : Int) < (n : Int) + 1 := by omega
            have HBr4 : Hid (Br (wr.setCell ⟨b, 0, none⟩ (.bool false)) b n (Gb.tab any one (i + 1))) := (HBr.out.set 0 false).congr fun j hj => by
              show _ = Gb.row (any i) (Gb.tab any one i) (one i) j
              rw [HAn.out]
              cases j with
              | zero => rfl
              | succ j => rw [if_neg (by omega), if_pos (by omega)]
            have HBs4 : Hid (Below b w (wr.setCell ⟨b, 0, none⟩ (.bool false))) := HBs.out.setCell (p := ⟨b, 0, none⟩) (Nat.le_refl b) _
            clear HBr HBs HKt
            go_wp2_with fail
            go_roundw
            case measure => simp only [intOf]; omega
            case rel => exact ⟨i + 1, by omega, by go_num, HBr4, HBs4⟩
          | succ j =>
            have hjn : j < n := by omega
            have hjc : j < cs.length := by rw [← HN.out]; exact hjn
            have cj := HBr.out.cell (show j ≤ n by omega)
            rw [if_neg (by omega)] at cj
            have ck := HBr.out.cell (show j + 1 ≤ n by omega)
            have fk := HBr.out.frozen (j + 1)
            obtain ⟨bt, ot, rfl, hbt, ctj⟩ := (HR.out.below (by rw [HBe.out]; exact HBs.out)).get j hjc
            obtain ⟨x, hx⟩ : ∃ x, cs[j]? = some x := ⟨cs[j], List.getElem?_eq_getElem hjc⟩
            rw [List.getD_eq_getElem?_getD, hx, Option.getD_some] at ctj
            obtain ⟨hxs, xcs, hxc⟩ := HTx.out x (List.mem_of_getElem? hx)
            have HXc : Hid (x.size ≤ 4194304 ∧ Nn.chars x.data.toList = some xcs) := ⟨hxs, hxc⟩
            clear hxs hxc
            have HOx : Hid (one i j = fitB t x) := HOn.out j x hx
            have q1 : (j : Int) < (n : Int) + 1 := by omega
            have q2 : (j : Int) + 1 < (n : Int) + 1 := by omega
            have q3 : (j : Int) < (n : Int) := by omega
            have hblt := HBr.out.lt
            have HNx : Hid (∀ W y, Below wr.heap.size wr W → y = (Gb.tab any one i j && one i j) → Br (W.setCell ⟨b, j + 1, none⟩ (.bool y)) b n (fun k => if j < k then Gb.row false (Gb.tab any one i) (one i) k else Gb.tab any one i k) ∧ Kt 4 w3 (W.setCell ⟨b, j + 1, none⟩ (.bool y)) ∧ Below b w (W.setCell ⟨b, j + 1, none⟩ (.bool y))) := fun W y hW hy => by
              have hBW := HBr.out.below hW
              have hBW2 := hBW
              obtain ⟨cur, hcur, _⟩ := hBW2
              refine ⟨(hBW.set (j + 1) y).congr fun k hk => ?_, (HKt.out.trans (Kt.of_below hW)).trans (Kt.set hcur _ _), (HBs.out.trans (hW.mono (Nat.le_of_lt hblt))).setCell (p := ⟨b, j + 1, none⟩) (Nat.le_refl b) _⟩
              by_cases e : k = j + 1
              · subst e
                rw [if_pos rfl, if_pos (Nat.lt_succ_self j), hy]
                simp [Gb.row]
              · rw [if_neg e]
                by_cases e2 : j + 1 < k
                · rw [if_pos e2, if_pos (by omega)]
                · rw [if_neg e2, if_neg (by omega)]
            cases hT1 : Gb.tab any one i j with
            | false =>
              rw [hT1] at cj
              have HN2 : Hid _ := HNx.out wr.drew false (Below.refl _ _).drew (by rw [hT1]; rfl)
              clear HNx HBr HBs ctj
              go_wp2_with fail
              go_region
              go_wp2_with fail
              go_roundw
              case measure => simp only [intOf]; omega
              case rel => exact ⟨j, by omega, by go_num, HN2.out.1, HN2.out.2.1, HN2.out.2.2⟩
            | true =>
              rw [hT1] at cj
              have HCell : Hid (∀ W, Gw wr W → W.cell? ⟨b, j, none⟩ = some (.bool true)) := fun W hW => (Below.cell hW (p := ⟨b, j, none⟩) hblt).trans cj
              have hbxw := HKt.out.cell HBx.out (by decide)
              have HBox : Hid (∀ W, Gw wr W → W.cell? ⟨bx, 0, none⟩ = some (.bool false) ∧ W.cell? ⟨bx, 1, none⟩ = some (.slice as_ ks qs)) := fun W hW => by
                obtain ⟨x0, x1, _⟩ := two_at ((Below.block hW bx (Array.getElem?_eq_some_iff.1 hbxw).1).trans hbxw)
                exact ⟨x0, x1⟩
              have HTh : Hid (∀ W, Gw wr W → W.cell? ⟨bt, ot + j, none⟩ = some (.string x)) := fun W hW => (Below.cell hW (p := ⟨bt, ot + j, none⟩) hbt).trans ctj
              have HSgs : Hid (∀ W, Gw wr W → Sgs W (.slice as_ ks qs) t) := fun W hW => (Sgs.kt HKt.out (by decide) (by decide) HI3.out).below hW
              have HSt : Hid (∀ W, Gw wr W → (∃ q, W.cell? ⟨b, j + 1, none⟩ = some (.bool q)) ∧ W.frozen? ⟨b, j + 1, none⟩ = false) := fun W hW => ⟨⟨_, (HBr.out.below hW).cell (show j + 1 ≤ n by omega)⟩, (HBr.out.below hW).frozen _⟩
              have HN2 : Hid (∀ W, Below wr.heap.size wr W → _) := fun W hW => HNx.out W (fitB t x) hW (by rw [hT1, HOx.out]; rfl)
              have hwr : IntKind.i64.wrap (j : Int) = (j : Int) := by
                simp only [IntKind.wrap, IntKind.bits, IntKind.signed]
                simp
                omega
              have q4 : ¬ ((j : Int) + 1 < 0) := by omega
              clear HNx HBr HBs ctj cj ck fk HKt hbxw
              go_wp2_with fail
              refine wp_region_rel_tail (G := Gw) (W0 := wr) 18 6 Gw.refl Gw.trans (by kernel_rfl) (by decide) (by kernel_rfl) (by kernel_rfl) (.inr (by kernel_rfl)) (Below.refl _ wr).drew ?_
              refine .inl ⟨.slice (some ⟨b, 0, none⟩) (n + 1) (n + 1), fun v W hW hd => step_run rfl _ W (by clear hd; go_simp) rfl (Gw.refl _), ?_⟩
              simp only [Act.put, List.setIfInBounds_toArray, List.set_cons_zero, List.set_cons_succ]
              refine .inl ⟨.int .i64 ((j : Int) + 1), fun v W hW hd => step_run rfl _ W (by clear hd; go_simp) rfl (Gw.refl _), ?_⟩
              simp only [Act.put, List.setIfInBounds_toArray, List.set_cons_zero, List.set_cons_succ]
              refine .inl ⟨.slice (some ⟨b, 0, none⟩) (n + 1) (n + 1), fun v W hW hd => step_run rfl _ W (by clear hd; go_simp) rfl (Gw.refl _), ?_⟩
              simp only [Act.put, List.setIfInBounds_toArray, List.set_cons_zero, List.set_cons_succ]
              refine .inl ⟨.int .i64 ((j : Int) + 1), fun v W hW hd => step_run rfl _ W (by clear hd; go_simp) rfl (Gw.refl _), ?_⟩
              simp only [Act.put, List.setIfInBounds_toArray, List.set_cons_zero, List.set_cons_succ]
              refine .inl ⟨.int .i64 j, fun v W hW hd => step_run rfl _ W (by clear hd; go_simp) rfl (Gw.refl _), ?_⟩
              simp only [Act.put, List.setIfInBounds_toArray, List.set_cons_zero, List.set_cons_succ]
              refine .inl ⟨.pointer (some ⟨b, j, none⟩), fun v W hW hd => step_run rfl _ W (by clear hd; go_simp) rfl (Gw.refl _), ?_⟩
              simp only [Act.put, List.setIfInBounds_toArray, List.set_cons_zero, List.set_cons_succ]
              refine .inl ⟨.bool true, fun v W hW hd => step_run rfl _ W (by clear hd; have ce := HCell.out W hW; go_simp) rfl (Gw.refl _), ?_⟩
              simp only [Act.put, List.setIfInBounds_toArray, List.set_cons_zero, List.set_cons_succ]
              refine .inl ⟨.bool true, fun v W hW hd => step_run rfl _ W (by clear hd; go_simp) rfl (Gw.refl _), ?_⟩
              simp only [Act.put, List.setIfInBounds_toArray, List.set_cons_zero, List.set_cons_succ]
              refine .inl ⟨.agg #[.bool false, .slice as_ ks qs], fun v W hW hd => step_run rfl _ W (by clear hd; obtain ⟨ce0, ce1⟩ := HBox.out W hW; go_simp) rfl (Gw.refl _), ?_⟩
              simp only [Act.put, List.setIfInBounds_toArray, List.set_cons_zero, List.set_cons_succ]
              refine .inl ⟨.iface 54 (.agg #[.bool false, .slice as_ ks qs]), fun v W hW hd => step_run rfl _ W (by clear hd; go_simp) rfl (Gw.refl _), ?_⟩
              simp only [Act.put, List.setIfInBounds_toArray, List.set_cons_zero, List.set_cons_succ]
              refine .inl ⟨.slice (some ⟨bt, ot, none⟩) n ct, fun v W hW hd => step_run rfl _ W (by clear hd; go_simp) rfl (Gw.refl _), ?_⟩
              simp only [Act.put, List.setIfInBounds_toArray, List.set_cons_zero, List.set_cons_succ]
              refine .inl ⟨.int .i64 ((j : Int) + 1), fun v W hW hd => step_run rfl _ W (by clear hd; go_simp) rfl (Gw.refl _), ?_⟩
              simp only [Act.put, List.setIfInBounds_toArray, List.set_cons_zero, List.set_cons_succ]
              refine .inl ⟨.int .i64 j, fun v W hW hd => step_run rfl _ W (by clear hd; go_simp) rfl (Gw.refl _), ?_⟩
              simp only [Act.put, List.setIfInBounds_toArray, List.set_cons_zero, List.set_cons_succ]
              refine .inl ⟨.pointer (some ⟨bt, ot + j, none⟩), fun v W hW hd => step_run rfl _ W (by clear hd; go_simp) rfl (Gw.refl _), ?_⟩
              simp only [Act.put, List.setIfInBounds_toArray, List.set_cons_zero, List.set_cons_succ]
              refine .inl ⟨.string x, fun v W hW hd => step_run rfl _ W (by clear hd; have ce := HTh.out W hW; go_simp) rfl (Gw.refl _), ?_⟩
              simp only [Act.put, List.setIfInBounds_toArray, List.set_cons_zero, List.set_cons_succ]
              refine .inl ⟨.bool (fitB t x), fun v W hW _ => step_call rfl 104 #[.agg #[.bool false, .slice as_ ks qs], .string x] (by kernel_rfl) ((ptakes_any t false _ x xcs W (HSgs.out W hW) HLt.out.1 HLt.out.2 HXc.out.1 HXc.out.2).mono fun e w' h => ⟨_, h.1, rfl, h.2⟩), ?_⟩
              simp only [Act.put, List.setIfInBounds_toArray, List.set_cons_zero, List.set_cons_succ]
              refine .inl ⟨.bool (fitB t x), fun v W hW hd => step_run rfl _ W (by clear hd; go_simp) rfl (Gw.refl _), ?_⟩
              simp only [Act.put, List.setIfInBounds_toArray, List.set_cons_zero, List.set_cons_succ]
              refine .inl ⟨.pointer (some ⟨b, j + 1, none⟩), fun v W hW hd => step_run rfl _ W (by clear hd; go_simp) rfl (Gw.refl _), ?_⟩
              simp only [Act.put, List.setIfInBounds_toArray, List.set_cons_zero, List.set_cons_succ]
              intro v W hW hV
              clear hV
              obtain ⟨⟨q, sc⟩, sf⟩ := HSt.out W hW
              have HN3 : Hid _ := HN2.out W hW
              generalize fitB t x = ans at *
              refine wpAny_ready (rs := [18]) (by kernel_rfl) (by simp) ?_
              refine AllReady.cons rfl (fun K hK => ?_) AllReady.nil
              rw [if_pos (by rfl)]
              go_simp
              refine hK _ _ ?_
              clear hK K
              refine wpAny_done (by kernel_rfl) ?_ _
              go_wp2_with fail
              go_roundw
              case measure => simp only [intOf]; omega
              case rel => exact ⟨j, by omega, by go_num, HN3.out.1, HN3.out.2.1, HN3.out.2.2⟩
    · obtain rfl : i = N := by omega
      have cn := HBr.out.cell (Nat.le_refl n)
      have hk0 : (n : Int) < (n : Int) + 1 := by omega
      have HBe2 : Hid (Below w.heap.size w wr) := by rw [HBe.out]; exact HBs.out
      clear HBr HBs
      rw [HT.out] at cn
      go_wp2_with fail
      go_ret
      exact ⟨rfl, HBe2.out⟩
end Go.Proofs.YtfcnlfblfennaaaDoor

namespace Go.Proofs.YtfcnlfblfennaaaDoor
open Go.RowKit

theorem pat_any (p : ByteArray) (w : World) (hT : Tabs w) : Calls Tryd.prog 23 #[.string p] w (PgOut p w) := by
  by_cases h60 : 60 < p.size
  · have hp : Gb.pat p.data.toList = ([], 2) := by
      unfold Gb.pat
      rw [if_pos (by rw [← Lib.size_eq]; exact h60)]
    refine (pat_large p w h60).mono ?_
    rintro e w' ⟨rfl, rfl⟩
    exact ⟨_, by rw [hp], by rw [hp]; exact Ry.nil _ _, Below.refl _ _, by rw [hp]; exact FewP.nil, by rw [hp]; simp⟩
  have h60' : p.size ≤ 60 := by omega
  have hl60 : ¬ 60 < p.data.toList.length := by rw [← Lib.size_eq]; exact h60
  by_cases hh : p.data.toList.head? = some 47
  · obtain ⟨q, hq⟩ : ∃ q : ByteArray, q = ⟨p.data.toList.tail.toArray⟩ := ⟨_, rfl⟩
    have hqd : q.data.toList = p.data.toList.tail := by rw [hq]
    have hcp : p.data.toList = 47 :: q.data.toList := by rw [hqd]; exact Gb.head_cons hh
    have hch : Nn.chars p.data.toList = (Nn.chars q.data.toList).map (47 :: ·) := by
      rw [hcp, Nn.chars_step _ (by simp), Nn.chr_ascii 47 _ (by decide)]
      rfl
    cases hv : Nn.chars q.data.toList with
    | none =>
      have hp : Gb.pat p.data.toList = ([], 13) := by
        unfold Gb.pat
        rw [if_neg hl60, if_pos (.inl (by rw [hch, hv]; rfl))]
      refine (pat_invalid p q w hT h60' hh hq (by rw [Nn.chars_valid, hv]; rfl)).mono ?_
      rintro e w' ⟨rfl, b⟩
      exact ⟨_, by rw [hp], by rw [hp]; exact Ry.nil _ _, b, by rw [hp]; exact FewP.nil, by rw [hp]; simp⟩
    | some cs =>
      have hp : Gb.pat p.data.toList = match Gb.parts (Nn.cut q.data.toList) with | none => ([], 13) | some P => (P, 0) := by
        unfold Gb.pat
        rw [if_neg hl60, if_neg (by rw [hch, hv]; simp [hh]), hqd]
        cases Gb.parts (Nn.cut p.data.toList.tail) <;> rfl
      refine (pat_parts p q cs w hT h60' hh hq hv).mono ?_
      rintro e w' ⟨b, ⟨hn, rfl⟩ | ⟨v, P, hP, rfl, hPt, hF, hL⟩⟩
      · rw [hn] at hp
        exact ⟨_, by rw [hp], by rw [hp]; exact Ry.nil _ _, b, by rw [hp]; exact FewP.nil, by rw [hp]; simp⟩
      · rw [hP] at hp
        exact ⟨_, by rw [hp], by rw [hp]; exact hPt, b, by rw [hp]; exact hF, by rw [hp]; exact hL⟩
  · have hp : Gb.pat p.data.toList = ([], 13) := by
      unfold Gb.pat
      rw [if_neg hl60, if_pos (.inr hh)]
    refine (pat_noslash p w h60' hh).mono ?_
    rintro e w' ⟨rfl, rfl⟩
    exact ⟨_, by rw [hp], by rw [hp]; exact Ry.nil _ _, Below.refl _ _, by rw [hp]; exact FewP.nil, by rw [hp]; simp⟩
theorem gcheck_any (p : ByteArray) (w : World) (hT : Tabs w) : Calls Tryd.prog 12 #[.string p] w fun e w' => e = .returned (.int .i64 (Gb.pat p.data.toList).2) ∧ Below w.heap.size w w' := by
  have hp := pat_any p w hT
  unfold PgOut at hp
  generalize (Gb.pat p.data.toList).2 = E at *
  generalize (Gb.pat p.data.toList).1 = P at *
  go_enter Tryd.func12, Tryd.ntmps12
  go_wp2_with fail
  refine hp.mono ?_
  rintro e w1 ⟨v, rfl, _, b1, _⟩
  have HB : Hid (Below w.heap.size w w1) := b1
  clear b1 hp
  go_wp2_with fail
  go_ret
  exact ⟨rfl, HB.out⟩
theorem Gb.fit_map {α β γ : Type} (f : β → γ → Bool) (g : α → γ) : ∀ (p : List (Option β)) (l : List α), Gb.fit (fun b a => f b (g a)) p l = Gb.fit f p (l.map g)
  | [], l => by rw [Gb.fit_nil, Gb.fit_nil, List.isEmpty_map]
  | some b :: p, [] => by rw [List.map_nil, Gb.fit_one_nil, Gb.fit_one_nil]
  | some b :: p, a :: t => by rw [List.map_cons, Gb.fit_one_cons, Gb.fit_one_cons, Gb.fit_map f g p t]
  | none :: p, l => by
    rw [Bool.eq_iff_iff, Gb.fit_any_iff, Gb.fit_any_iff, List.length_map]
    refine exists_congr fun k => and_congr_right fun _ => ?_
    rw [Gb.fit_map f g p (l.drop k), List.map_drop]
theorem fits_dl (P : List (Option (List (Option Gb.Tst)))) (l : List ByteArray) : Gb.fit fitB P l = Gb.fits P (dl l) := Gb.fit_map Gb.nameFit (fun s : ByteArray => s.data.toList) P l
theorem txt_of {l : List ByteArray} (h : Nn.errs (dl l) = 0) : Txt l := fun s hs => by
  have hn := Nn.errs_ok h s.data.toList (List.mem_map_of_mem hs)
  have hl := Nn.nm_long hn
  rw [← Lib.size_eq] at hl
  refine ⟨by omega, ?_⟩
  cases hc : Nn.chars s.data.toList with
  | none => unfold Nn.nm at hn; rw [hc] at hn; simp at hn
  | some cs => exact ⟨cs, rfl⟩

set_option maxHeartbeats 1000000 in
theorem gmatch_any (p q : ByteArray) (w : World) (hq : q.size ≤ 140737488355328) (hT : Tabs w) :
    Calls Tryd.prog 10 #[.string p, .string q] w fun e w' => e = .returned (.tuple #[.bool (Gb.mtch p.data.toList q.data.toList).1, .int .i64 (Gb.mtch p.data.toList q.data.toList).2]) ∧ Below w.heap.size w w' := by
  have hp := pat_any p w hT
  unfold PgOut at hp
  have HM : Hid (Gb.mtch p.data.toList q.data.toList = if (Gb.pat p.data.toList).2 ≠ 0 then (false, (Gb.pat p.data.toList).2) else if (Nn.split q.data.toList).2 ≠ 0 then (false, (Nn.split q.data.toList).2) else (Gb.fits (Gb.pat p.data.toList).1 (Nn.split q.data.toList).1, 0)) := rfl
  generalize Gb.mtch p.data.toList q.data.toList = A at *
  generalize (Gb.pat p.data.toList).2 = E at *
  generalize (Gb.pat p.data.toList).1 = P at *
  have HT : Hid (Tabs w) := hT
  clear hT
  go_enter Tryd.func10, Tryd.ntmps10
  go_wp2_with fail
  refine hp.mono ?_
  rintro e w1 ⟨v, rfl, hPt, b1, hF, hL⟩
  have HB1 : Hid (Below w.heap.size w w1) := b1
  have HP : Hid (Pts w1 v P ∧ FewP P ∧ P.length ≤ 4194304) := ⟨hPt, hF, hL⟩
  clear b1 hp hPt hF hL
  by_cases hE : E = 0
  · subst hE
    have hs := split_any q w1 hq (HT.out.below HB1.out)
    have HM2 : Hid (A = if (Nn.split q.data.toList).2 ≠ 0 then (false, (Nn.split q.data.toList).2) else (Gb.fits P (Nn.split q.data.toList).1, 0)) := by
      have := HM.out
      rwa [if_neg (by simp)] at this
    clear HM
    go_wp2_with fail
    refine hs.mono ?_
    rintro e w2 ⟨v2, l, rfl, hd, hx, hcp, b2⟩
    have HB2 : Hid (Below w.heap.size w w2) := HB1.out.trans (b2.mono HB1.out.size)
    by_cases hF : (Nn.split q.data.toList).2 = 0
    · have hsp : Nn.split q.data.toList = (dl l, 0) := Prod.ext hd.symm hF
      have he := (Nn.join_ok (Nn.split_join hsp)).1
      have hl8 := Nn.errs_len he
      rw [dl_length] at hl8
      have ht := takeP_any v v2 P l w2 (HP.out.1.below b2) HP.out.2.1 HP.out.2.2 hx (txt_of he) (by omega)
      rw [fits_dl] at ht
      have HA : Hid (A = (Gb.fits P (dl l), 0)) := by
        have := HM2.out
        rwa [hsp, if_neg (by simp)] at this
      generalize Gb.fits P (dl l) = ANS at *
      rw [hsp]
      obtain ⟨a2, c2, rfl⟩ := hx.slice
      obtain ⟨a1, c1, rfl⟩ := HP.out.1.slice
      generalize l.length = n2 at *
      generalize P.length = n1 at *
      clear hs hd hx hcp b2 hF hsp he HM2 HP
      go_wp2_with fail
      refine ht.mono ?_
      rintro e w3 ⟨rfl, b3⟩
      have HB3 : Hid (Below w.heap.size w w3) := HB2.out.trans (b3.mono HB2.out.size)
      clear ht b3
      go_wp2_with fail
      go_ret2
      exact ⟨by rw [HA.out]; rfl, HB3.out⟩
    · have HA : Hid (A = (false, (Nn.split q.data.toList).2)) := by
        have := HM2.out
        rwa [if_pos hF] at this
      generalize (Nn.split q.data.toList).2 = F at *
      have hqn : (F != 0) = true := by rw [bne_iff_ne]; exact hF
      clear hs hd hx hcp b2 hF HM2 HP
      go_wp2_with fail
      go_ret2
      exact ⟨by rw [HA.out]; rfl, HB2.out⟩
  · have hqn : (E != 0) = true := by rw [bne_iff_ne]; exact hE
    have HA : Hid (A = (false, E)) := by
      have := HM.out
      rwa [if_pos hE] at this
    clear HM HP hE
    go_wp2_with fail
    go_ret2
    exact ⟨by rw [HA.out]; rfl, HB1.out⟩
end Go.Proofs.YtfcnlfblfennaaaDoor

namespace Go.Proofs.YtfcnlfblfennaaaDoor
open Go.RowKit

/-- the rules as they are read -/
def rls (R : List (List UInt8)) : List (Bool × List (Option (List (Option Gb.Tst)))) := R.map fun s => ((Gb.rule s).1, (Gb.pat (Gb.rule s).2).1)
def FewR (l : List (Bool × List (Option (List (Option Gb.Tst))))) : Prop := ∀ r ∈ l, FewP r.2 ∧ r.2.length ≤ 4194304
/-- what the rules say of a path alone, rule by rule -/
def fold (l : List (Bool × List (Option (List (Option Gb.Tst))))) (path : List Nn.Name) (acc : Bool) : Bool := l.foldl (fun acc r => if Gb.fits r.2 path then !r.1 else acc) acc
theorem fold_find (l : List (Bool × List (Option (List (Option Gb.Tst))))) (path : List Nn.Name) (acc : Bool) : fold l path acc = match l.reverse.find? (fun r => Gb.fits r.2 path) with | none => acc | some r => !r.1 := by
  unfold fold
  induction l generalizing acc with
  | nil => rfl
  | cons r l ih =>
    rw [List.foldl_cons, ih, List.reverse_cons, List.find?_append]
    cases hf : l.reverse.find? (fun r => Gb.fits r.2 path) with
    | some q => rfl
    | none =>
      rw [Option.none_or, List.find?_cons]
      cases hg : Gb.fits r.2 path <;> rfl
theorem fold_hit (R : List (List UInt8)) (path : List Nn.Name) : fold (rls R) path false = Gb.hit R path := by
  rw [fold_find]
  unfold rls Gb.hit
  rw [← List.map_reverse, List.find?_map]
  cases hf : R.reverse.find? ((fun r => Gb.fits r.2 path) ∘ fun s => ((Gb.rule s).1, (Gb.pat (Gb.rule s).2).1)) with
  | none =>
    have : R.reverse.find? (fun s => Gb.fits (Gb.pat (Gb.rule s).2).1 path) = none := hf
    rw [this]; rfl
  | some s =>
    have : R.reverse.find? (fun s => Gb.fits (Gb.pat (Gb.rule s).2).1 path) = some s := hf
    rw [this]; rfl

set_option maxHeartbeats 1000000 in
theorem leave_any (vr vp : Value) (L : List (Bool × List (Option (List (Option Gb.Tst))))) (l : List ByteArray) (w : World) (hr : Rls w vr L) (hf : FewR L) (hL : L.length ≤ 4194304) (hx : Tx w vp l) (ht : Txt l) (hl : l.length ≤ 4194304) :
    Calls Tryd.prog 28 #[vr, vp] w fun e w' => e = .returned (.bool (fold L (dl l) false)) ∧ Below w.heap.size w w' := by
  obtain ⟨a, c, rfl⟩ := hr.slice
  have HR : Hid (Rls w (.slice a L.length c) L) := hr
  have HF : Hid (FewR L) := hf
  have HX : Hid (Tx w vp l ∧ Txt l ∧ l.length ≤ 4194304) := ⟨hx, ht, hl⟩
  have HS : Hid (fold (L.drop 0) (dl l) false = fold L (dl l) false) := rfl
  generalize fold L (dl l) false = ANS at *
  obtain ⟨N, hN⟩ : ∃ N, N = L.length := ⟨_, rfl⟩
  have HN : Hid (N = L.length) := hN
  rw [← hN] at HR hL ⊢
  clear hr hf hx ht hl hN
  go_enter Tryd.func28, Tryd.ntmps28
  go_wp2_with fail
  go_loopw [5, 10] (fun v5 x wr => ∃ (k : Nat) (acc : Bool), k ≤ N ∧ x = .int .i64 k ∧ v5 = .bool acc ∧ Hid (fold (L.drop k) (dl l) acc = ANS) ∧ Hid (Below w.heap.size w wr)) (fun _ x _ => N - (intOf x).toNat)
  case atStart => exact ⟨0, false, by omega, rfl, rfl, HS, Below.refl _ _⟩
  case round =>
    clear HS
    obtain ⟨k, acc, hk, rfl, rfl, HS, HB⟩ := hrel
    by_cases hlt : k < N
    · have hkl : k < L.length := by rw [← HN.out]; exact hlt
      obtain ⟨bk, o, cs, rfl, hbk, hcl, ⟨s, rfl, hPt⟩, hcell⟩ := (Rls.below HR.out HB.out).get k L[k] (List.getElem?_eq_getElem hkl)
      have HFk : Hid (FewP L[k].2 ∧ L[k].2.length ≤ 4194304) := HF.out _ (List.getElem_mem hkl)
      have HSt : Hid (fold (L.drop (k + 1)) (dl l) (if Gb.fits L[k].2 (dl l) then !L[k].1 else acc) = ANS) := by
        show _ = _
        rw [← HS.out, List.drop_eq_getElem_cons hkl]; rfl
      obtain ⟨as_, qs, rfl⟩ := hPt.slice
      have d0 : wr.cell? ⟨bk, o + k * 2, none⟩ = some (.bool L[k].1) := hcell 0 _ rfl
      have d1 : wr.cell? ⟨bk, o + k * 2 + 1, none⟩ = some (.slice as_ L[k].2.length qs) := hcell 1 _ rfl
      generalize L[k].1 = kp at *
      generalize L[k].2 = P at *
      obtain ⟨W1, hW1⟩ : ∃ W1, W1 = wr.alloc (.cells #[.bool kp, .slice as_ P.length qs] 87) := ⟨_, rfl⟩
      have hB1 : Below wr.heap.size wr W1 := by rw [hW1]; exact (Below.refl _ wr).alloc (Nat.le_refl _) _
      have HB1 : Hid (Below w.heap.size w W1) := HB.out.trans (hB1.mono HB.out.size)
      have HM1 : Hid (W1.heap[wr.heap.size]? = some (.cells #[.bool kp, .slice as_ P.length qs] 87 (0, 0))) := by rw [hW1]; exact heap_alloc_new wr _
      have htk := takeP_any _ vp P l W1 (hPt.below hB1) HFk.out.1 HFk.out.2 (HX.out.1.below HB1.out) HX.out.2.1 HX.out.2.2
      rw [fits_dl] at htk
      generalize P.length = M at *
      obtain ⟨m0, m1, _⟩ := two_at HM1.out
      clear hcell hcl hPt HS
      go_upto_region 5 with fail
      rw [← hW1]
      obtain ⟨b7, hb7⟩ : ∃ b7, b7 = wr.heap.size := ⟨_, rfl⟩
      rw [← hb7] at HM1 m0 m1 ⊢
      clear hW1 d0 d1 hB1 hb7
      go_wp2_with fail
      refine htk.mono ?_
      rintro e w3 ⟨rfl, b3⟩
      have HB3 : Hid (Below w.heap.size w w3) := HB1.out.trans (b3.mono HB1.out.size)
      obtain ⟨m0, m1, _⟩ := two_at ((b3.block _ (Array.getElem?_eq_some_iff.1 HM1.out).1).trans HM1.out)
      clear htk b3
      cases hft : Gb.fits P (dl l) with
      | true =>
        have HS2 : Hid (fold (L.drop (k + 1)) (dl l) (!kp) = ANS) := by
          have := HSt.out
          rwa [hft, if_pos rfl] at this
        clear HSt
        go_wp2_with fail
        go_roundw
        case measure => simp only [intOf]; omega
        case rel => exact ⟨k + 1, _, by omega, by go_num, rfl, HS2, HB3⟩
      | false =>
        have HS2 : Hid (fold (L.drop (k + 1)) (dl l) acc = ANS) := by
          have := HSt.out
          rwa [hft, if_neg (by simp)] at this
        clear HSt
        go_wp2_with fail
        go_roundw
        case measure => simp only [intOf]; omega
        case rel => exact ⟨k + 1, _, by omega, by go_num, rfl, HS2, HB3⟩
    · obtain rfl : k = N := by omega
      have HE : Hid (acc = ANS) := by
        have := HS.out
        rwa [List.drop_eq_nil_of_le (by rw [HN.out]; exact Nat.le_refl _)] at this
      clear HS
      go_wp2_with fail
      go_ret
      exact ⟨by rw [HE.out]; rfl, HB.out⟩
theorem info_rule : (Tryd.prog.info? 87).map (fun i => (i.zero, i.size, i.bytes)) = some (some (.agg #[.bool false, .slice none 0 0]), 2, 32) := by kernel_rfl
theorem cut_bang (p : ByteArray) (w : World) : Calls Tryd.prog 41 #[.string p, .string ⟨#[33]⟩] w fun e w' => e = .returned (.tuple #[.string ⟨(Gb.rule p.data.toList).2.toArray⟩, .bool (Gb.rule p.data.toList).1]) ∧ w' = w := by
  refine (Tryd.strings_CutPrefix p ⟨#[33]⟩ w).mono ?_
  rintro e w' ⟨rfl, rfl⟩
  refine ⟨?_, rfl⟩
  rw [show (⟨#[33]⟩ : ByteArray).data.toList = [33] from rfl, Lib.trimPrefix, Gb.rule]
  cases p.data.toList with
  | nil => rfl
  | cons b l =>
    have hp : Lib.hasPrefix (b :: l) [33] = decide (b = 33) := by
      show (([33] : List UInt8).isPrefixOf (b :: l)) = _
      simp only [List.isPrefixOf, Bool.and_true]
      by_cases h : b = 33
      · subst h; rfl
      · rw [decide_eq_false h, beq_eq_false_iff_ne]; exact fun e => h e.symm
    rw [hp]
    by_cases h : b = 33
    · subst h; rfl
    · rw [decide_eq_false h, if_neg (by simp), if_neg (by simpa using h)]
theorem Gb.rerr_cons (s : List UInt8) (l : List (List UInt8)) : Gb.rerr (s :: l) = if (Gb.pat (Gb.rule s).2).2 ≠ 0 then (Gb.pat (Gb.rule s).2).2 else Gb.rerr l := rfl

set_option maxHeartbeats 2000000 in
set_option maxRecDepth 10000 in
theorem rules_any (v : Value) (R : List ByteArray) (w : World) (hx : Tx w v R) (hl : R.length ≤ 4194304) (hT : Tabs w) :
    Calls Tryd.prog 27 #[v] w fun e w' => Below w.heap.size w w' ∧ ((Gb.rerr (dl R) ≠ 0 ∧ e = .returned (.tuple #[.slice none 0 0, .int .i64 (Gb.rerr (dl R))])) ∨
      ∃ u, Gb.rerr (dl R) = 0 ∧ e = .returned (.tuple #[u, .int .i64 0]) ∧ Rls w' u (rls (dl R)) ∧ FewR (rls (dl R))) := by
  obtain ⟨a, c, rfl⟩ := hx.slice
  have HX : Hid (Tx w (.slice a R.length c) R) := hx
  have HT : Hid (Tabs w) := hT
  have HS : Hid (Gb.rerr (dl (R.drop 0)) = Gb.rerr (dl R)) := rfl
  generalize Gb.rerr (dl R) = E at *
  obtain ⟨N, hN⟩ : ∃ N, N = R.length := ⟨_, rfl⟩
  have HN : Hid (N = R.length) := hN
  rw [← hN] at HX hl ⊢
  obtain ⟨i0, hi, hz0, hz1, hz2⟩ := info_is info_rule
  clear hx hT hN
  go_enter Tryd.func27, Tryd.ntmps27
  go_wp2_with fail
  go_loopw [4, 13] (fun v4 x wr => ∃ k : Nat, k ≤ N ∧ x = .int .i64 k ∧ Hid (Oy 2 87 RlR w.heap.size wr v4 (rls (dl (R.take k)))) ∧ Hid (FewR (rls (dl (R.take k)))) ∧ Hid (Gb.rerr (dl (R.drop k)) = E) ∧ Hid (Below w.heap.size w wr)) (fun _ x _ => N - (intOf x).toNat)
  case atStart => exact ⟨0, by omega, rfl, Oy.nil, (by intro r hr; simp [rls, dl] at hr), HS, Below.refl _ _⟩
  case round =>
    clear HS
    obtain ⟨k, hk, rfl, HO, HF, HS, HB⟩ := hrel
    by_cases hlt : k < N
    · have hkl : k < R.length := by rw [← HN.out]; exact hlt
      obtain ⟨bk, o, rfl, hbk, ce⟩ := (HX.out.below HB.out).get k hkl
      have hdr : dl (R.drop k) = (R.getD k ByteArray.empty).data.toList :: dl (R.drop (k + 1)) := by
        rw [List.getD_eq_getElem?_getD, List.getElem?_eq_getElem hkl, List.drop_eq_getElem_cons hkl]
        rfl
      have HTk : Hid (rls (dl (R.take (k + 1))) = rls (dl (R.take k)) ++ [((Gb.rule (R.getD k ByteArray.empty).data.toList).1, (Gb.pat (Gb.rule (R.getD k ByteArray.empty).data.toList).2).1)]) := by
        show _ = _
        rw [List.take_succ_eq_append_getElem hkl, List.getD_eq_getElem?_getD, List.getElem?_eq_getElem hkl]
        simp only [dl, rls, List.map_append, List.map_cons, List.map_nil, Option.getD_some]
      generalize R.getD k ByteArray.empty = t at *
      have hcb := cut_bang t wr
      obtain ⟨q, hq⟩ : ∃ q : ByteArray, q = ⟨(Gb.rule t.data.toList).2.toArray⟩ := ⟨_, rfl⟩
      have hqd : q.data.toList = (Gb.rule t.data.toList).2 := by rw [hq]
      rw [← hq] at hcb
      rw [← hqd] at HTk
      have hpa := pat_any q wr (HT.out.below HB.out)
      unfold PgOut at hpa
      have HSt : Hid (E = if (Gb.pat q.data.toList).2 ≠ 0 then (Gb.pat q.data.toList).2 else Gb.rerr (dl (R.drop (k + 1)))) := by
        show _ = _
        rw [← HS.out, hdr, Gb.rerr_cons, hqd]
      generalize (Gb.rule t.data.toList).1 = kp at *
      generalize (Gb.pat q.data.toList).2 = E2 at *
      generalize (Gb.pat q.data.toList).1 = P at *
      clear hdr hq hqd HS
      go_wp2_with fail
      refine hcb.mono ?_
      rintro e u ⟨rfl, hu⟩
      obtain rfl := hu.symm
      clear hcb hu
      go_wp2_with fail
      refine hpa.mono ?_
      rintro e w3 ⟨v9, rfl, hPt, b3, hFp, hLp⟩
      have HB3 : Hid (Below w.heap.size w w3) := HB.out.trans (b3.mono HB.out.size)
      by_cases hE : E2 = 0
      · subst hE
        have HS2 : Hid (Gb.rerr (dl (R.drop (k + 1))) = E) := by
          have := HSt.out
          rw [if_neg (by simp)] at this
          exact this.symm
        have hO3 := HO.out.below b3 fun _ _ q => q.below b3
        obtain ⟨cc, o1, o2, o3, o4⟩ := hO3
        have hsw := HB3.out.size
        have hdl : (rls (dl (R.take k))).length ≤ 4194304 := by
          simp only [rls, dl, List.length_map, List.length_take]
          omega
        have HPt : Hid (Pts w3 v9 P) := hPt
        have HFn : Hid (FewR (rls (dl (R.take (k + 1))))) := by
          show FewR _
          rw [HTk.out]
          intro r hr
          rcases List.mem_append.1 hr with e | e
          · exact HF.out r e
          · rw [List.mem_singleton] at e
            subst e
            exact ⟨hFp, hLp⟩
        have HO2 : Hid ((∀ c ∈ cc, c.length = 2) ∧ cc.length = (rls (dl (R.take k))).length ∧ ∀ (j : Nat) t c, (rls (dl (R.take k)))[j]? = some t → cc[j]? = some c → RlR w3 t c) := ⟨o2, o3, o4⟩
        obtain ⟨a9, c9, rfl⟩ := hPt.slice
        clear b3 hpa HSt o2 o3 o4 hPt hFp hLp HO HF
        generalize rls (dl (R.take k)) = done at *
        generalize hnp : P.length = np at *
        clear hnp
        go_wp2_with (at_builtin; refine wpList_append_own _ rfl (.tmp 30) (.tmp 34) 56 rfl w.heap.size 87 i0 (.agg #[.bool false, .slice none 0 0]) 2 32 Tryd.underlying56 hi hz0 hz1 hz2 rfl (by decide) _ _ _ rfl (o1.alloc _) ⟨w3.heap.size, 0, none⟩ 1 1 [.bool kp, .slice a9 np c9] rfl rfl ?c1 ?c2 ?c3 ?c4 ?c5 ?_)
        case c1 =>
          intro j u hj
          match j, hj with
          | 0, hj => simp at hj; subst hj; simp [Addr.add]
          | 1, hj => simp at hj; subst hj; simp [Addr.add]
        case c2 =>
          intro u hu
          simp only [List.mem_cons, List.not_mem_nil, or_false] at hu
          rcases hu with rfl | rfl <;> rfl
        case c3 => unfold maxLen; omega
        case c4 => omega
        case c5 => simp; omega
        intro v6 w4 hown4 hgrow _
        have hk4 : Kt 87 w3 w4 := ((Kt.refl _ w3).alloc _).trans (Kt.of_grown hgrow fun g hg => by
          obtain ⟨cur, q, _⟩ := own_block (o1.alloc _) hg
          exact ⟨cur, _, q⟩)
        have HB4 : Hid (Below w.heap.size w w4) := (HB3.out.alloc hsw _).grown hgrow (by simp; omega) fun g hg => by
          obtain ⟨_, _, q, _⟩ := own_block o1 hg
          exact q
        have HOn : Hid (Oy 2 87 RlR w.heap.size w4 v6 (rls (dl (R.take (k + 1))))) := by
          show Oy _ _ _ _ _ _ _
          rw [HTk.out]
          exact Oy.more HO2.out.1 HO2.out.2.1 (fun j t c a b => RlR.kt hk4 (by decide) (by decide) (by decide) (HO2.out.2.2 j t c a b)) hown4 rfl ⟨_, rfl, Pts.kt hk4 (by decide) (by decide) (by decide) HPt.out⟩
        clear hown4 hgrow hk4 o1 HO2 HPt HB3 HTk
        go_wp2_with fail
        go_roundw
        case measure => simp only [intOf]; omega
        case rel => exact ⟨k + 1, by omega, by go_num, HOn, HFn, HS2, HB4⟩
      · have hqn : (E2 != 0) = true := by rw [bne_iff_ne]; exact hE
        have HE : Hid (E = E2 ∧ E ≠ 0) := by
          have := HSt.out
          rw [if_pos hE] at this
          exact ⟨this, by rw [this]; exact hE⟩
        clear hpa HSt hE hPt hFp hLp b3
        go_wp2_with fail
        go_ret2
        exact ⟨HB3.out, .inl ⟨HE.out.2, by rw [HE.out.1]; rfl⟩⟩
    · obtain rfl : k = N := by omega
      have hnl : R.length ≤ k := by rw [HN.out]; exact Nat.le_refl _
      have HE : Hid (E = 0) := by
        have := HS.out
        rw [List.drop_eq_nil_of_le hnl] at this
        exact this.symm
      have HP : Hid (Rls wr u4 (rls (dl R)) ∧ FewR (rls (dl R))) := by
        have h1 := HO.out.ry
        have h2 := HF.out
        rw [List.take_of_length_le hnl] at h1 h2
        exact ⟨h1, h2⟩
      clear HO HF HS hnl
      go_wp2_with fail
      go_ret2
      exact ⟨HB.out, .inr ⟨_, HE.out, rfl, HP.out.1, HP.out.2⟩⟩
theorem Tx.take {w : World} {a : Option Addr} {n c : Nat} {l : List ByteArray} (h : Tx w (.slice a n c) l) (k : Nat) (hk : k ≤ l.length) : Tx w (.slice a k c) (l.take k) := by
  rcases h.at_ with ⟨_, rfl⟩ | ⟨bk, o, cap, h1, h3, h4⟩
  · obtain rfl : k = 0 := by simpa using hk
    exact ⟨.inl ⟨⟨_, _, rfl⟩, rfl⟩⟩
  · simp at h1
    obtain ⟨rfl, rfl, rfl⟩ := h1
    have hlt : (l.take k).length = k := by rw [List.length_take]; omega
    refine ⟨.inr ⟨bk, o, c, by rw [hlt], h3, fun j hj => ?_⟩⟩
    rw [hlt] at hj
    rw [h4 j (by omega), List.getD_eq_getElem?_getD, List.getD_eq_getElem?_getD, List.getElem?_take, if_pos hj]
theorem Gb.out_from {R : List (List UInt8)} {l : List Nn.Name} : Gb.out R l = ((List.range l.length).drop 0).any fun k => Gb.hit R (l.take (k + 1)) := rfl

set_option maxHeartbeats 2000000 in
set_option maxRecDepth 10000 in
theorem gskips_any (v : Value) (R : List ByteArray) (q : ByteArray) (w : World) (hx : Tx w v R) (hl : R.length ≤ 9223372036854775807) (hq : q.size ≤ 140737488355328) (hT : Tabs w) :
    Calls Tryd.prog 13 #[v, .string q] w fun e w' => e = .returned (.tuple #[.bool (Gb.skips (dl R) q.data.toList).1, .int .i64 (Gb.skips (dl R) q.data.toList).2]) ∧ Below w.heap.size w w' := by
  have HA : Hid (Gb.skips (dl R) q.data.toList = if 20 < (dl R).length then (false, 2) else if Gb.rerr (dl R) ≠ 0 then (false, Gb.rerr (dl R)) else if (Nn.split q.data.toList).2 ≠ 0 then (false, (Nn.split q.data.toList).2) else (Gb.out (dl R) (Nn.split q.data.toList).1, 0)) := rfl
  rw [dl_length] at HA
  generalize Gb.skips (dl R) q.data.toList = A at *
  by_cases h20 : 20 < R.length
  · have HA2 : Hid (A = (false, 2)) := by
      have := HA.out
      rwa [if_pos h20] at this
    obtain ⟨a, c, rfl⟩ := hx.slice
    have h1 : (20 : Int) < (R.length : Int) := by omega
    clear HA hx
    generalize R.length = N at *
    go_enter Tryd.func13, Tryd.ntmps13
    go_wp2_with fail
    go_ret2
    exact ⟨by rw [HA2.out]; rfl, Below.refl _ _⟩
  have HA1 : Hid (A = if Gb.rerr (dl R) ≠ 0 then (false, Gb.rerr (dl R)) else if (Nn.split q.data.toList).2 ≠ 0 then (false, (Nn.split q.data.toList).2) else (Gb.out (dl R) (Nn.split q.data.toList).1, 0)) := by
    have := HA.out
    rwa [if_neg h20] at this
  have hru := rules_any v R w hx (by omega) hT
  have HLr : Hid ((rls (dl R)).length ≤ 4194304) := by
    show _ ≤ _
    simp only [rls, List.length_map, dl_length]
    omega
  have HT : Hid (Tabs w) := hT
  obtain ⟨a, c, rfl⟩ := hx.slice
  have h1 : ¬ ((20 : Int) < (R.length : Int)) := by omega
  clear HA hx hT h20
  generalize R.length = N at *
  go_enter Tryd.func13, Tryd.ntmps13
  go_wp2_with fail
  refine hru.mono ?_
  rintro e w1 ⟨b1, ⟨hE, rfl⟩ | ⟨u, hE, rfl, hRl, hFr⟩⟩
  · have HB1 : Hid (Below w.heap.size w w1) := b1
    have HA2 : Hid (A = (false, Gb.rerr (dl R))) := by
      have := HA1.out
      rwa [if_pos hE] at this
    generalize Gb.rerr (dl R) = E at *
    have hqn : (E != 0) = true := by rw [bne_iff_ne]; exact hE
    clear hru b1 HA1 hE
    go_wp2_with fail
    go_ret2
    exact ⟨by rw [HA2.out]; rfl, HB1.out⟩
  · have HB1 : Hid (Below w.heap.size w w1) := b1
    have HRl : Hid (Rls w1 u (rls (dl R)) ∧ FewR (rls (dl R))) := ⟨hRl, hFr⟩
    have HA2 : Hid (A = if (Nn.split q.data.toList).2 ≠ 0 then (false, (Nn.split q.data.toList).2) else (Gb.out (dl R) (Nn.split q.data.toList).1, 0)) := by
      have := HA1.out
      rwa [if_neg (by simpa using hE)] at this
    have hs := split_any q w1 hq (HT.out.below HB1.out)
    clear hru b1 HA1 hE hRl hFr
    go_wp2_with fail
    refine hs.mono ?_
    rintro e w2 ⟨v2, l, rfl, hd, hx2, hcp, b2⟩
    have HB2 : Hid (Below w.heap.size w w2) := HB1.out.trans (b2.mono HB1.out.size)
    by_cases hF : (Nn.split q.data.toList).2 = 0
    · have hsp : Nn.split q.data.toList = (dl l, 0) := Prod.ext hd.symm hF
      have he := (Nn.join_ok (Nn.split_join hsp)).1
      have hl8 := Nn.errs_len he
      rw [dl_length] at hl8
      have HTx : Hid (Txt l) := txt_of he
      have HA3 : Hid (A = (Gb.out (dl R) (dl l), 0)) := by
        have := HA2.out
        rwa [hsp, if_neg (by simp)] at this
      have HX2 : Hid (Tx w2 v2 l) := hx2
      have HR2 : Hid (Rls w2 u (rls (dl R))) := HRl.out.1.below b2
      have HO : Hid ((((List.range l.length).drop 0).any fun k => Gb.hit (dl R) (dl (l.take (k + 1)))) = Gb.out (dl R) (dl l)) := by
        show _ = _
        rw [Gb.out_from, dl_length]
        congr 1
        funext k
        rw [show dl (l.take (k + 1)) = (dl l).take (k + 1) from List.map_take]
      generalize Gb.out (dl R) (dl l) = ANS at *
      rw [hsp]
      obtain ⟨a2, c2, rfl⟩ := hx2.slice
      have hcap := hcp _ _ _ rfl
      obtain ⟨M, hM⟩ : ∃ M, M = l.length := ⟨_, rfl⟩
      have HM : Hid (M = l.length) := hM
      rw [← hM] at HX2 HO hcap hl8 ⊢
      clear hs hd hx2 hcp b2 hF hsp he HA2 hM
      go_wp2_with fail
      go_loopw [31] (fun x wr => ∃ k : Nat, k ≤ M ∧ x = .int .i64 k ∧ Hid ((((List.range M).drop k).any fun k => Gb.hit (dl R) (dl (l.take (k + 1)))) = ANS) ∧ Hid (Below w2.heap.size w2 wr)) (fun x _ => M - (intOf x).toNat)
      case atStart => exact ⟨0, by omega, rfl, HO, Below.refl _ _⟩
      case round =>
        clear HO
        obtain ⟨k, hk, rfl, HO, HB⟩ := hrel
        have HBw : Hid (Below w.heap.size w wr) := HB2.out.trans (HB.out.mono HB2.out.size)
        by_cases hlt : k < M
        · have hkl : k < l.length := by rw [← HM.out]; exact hlt
          have hle := leave_any u (.slice a2 (k + 1) c2) (rls (dl R)) (l.take (k + 1)) wr (HR2.out.below HB.out) HRl.out.2 HLr.out ((HX2.out.below HB.out).take (k + 1) hkl) (fun s hs => HTx.out s (List.mem_of_mem_take hs)) (by rw [List.length_take]; omega)
          rw [fold_hit] at hle
          have HSt : Hid ((Gb.hit (dl R) (dl (l.take (k + 1))) || (((List.range M).drop (k + 1)).any fun k => Gb.hit (dl R) (dl (l.take (k + 1))))) = ANS) := by
            show _ = _
            rw [← HO.out, List.drop_eq_getElem_cons (show k < (List.range M).length by simpa using hlt), List.any_cons, List.getElem_range]
          have q1 : (k : Int) + 1 ≤ (c2 : Int) := by omega
          have q2 : (0 : Int) ≤ (k : Int) + 1 := by omega
          clear HO
          go_wp2_with fail
          refine hle.mono ?_
          rintro e w3 ⟨rfl, b3⟩
          have HB3 : Hid (Below w2.heap.size w2 w3) := HB.out.trans (b3.mono HB.out.size)
          have HBw3 : Hid (Below w.heap.size w w3) := HB2.out.trans (HB3.out.mono HB2.out.size)
          clear hle b3
          cases hh : Gb.hit (dl R) (dl (l.take (k + 1))) with
          | true =>
            have HE : Hid (true = ANS) := by
              have := HSt.out
              rwa [hh, Bool.true_or] at this
            clear HSt
            go_wp2_with fail
            go_ret2
            exact ⟨by rw [HA3.out, ← HE.out]; rfl, HBw3.out⟩
          | false =>
            have HS2 : Hid ((((List.range M).drop (k + 1)).any fun k => Gb.hit (dl R) (dl (l.take (k + 1)))) = ANS) := by
              have := HSt.out
              rwa [hh, Bool.false_or] at this
            clear HSt
            go_wp2_with fail
            go_roundw
            case measure => simp only [intOf]; omega
            case rel => exact ⟨k + 1, by omega, by go_num, HS2, HB3⟩
        · obtain rfl : k = M := by omega
          have HE : Hid (false = ANS) := by
            have := HO.out
            rwa [List.drop_eq_nil_of_le (by simp)] at this
          clear HO
          go_wp2_with fail
          go_ret2
          exact ⟨by rw [HA3.out, ← HE.out]; rfl, HBw.out⟩
    · have HA3 : Hid (A = (false, (Nn.split q.data.toList).2)) := by
        have := HA2.out
        rwa [if_pos hF] at this
      generalize (Nn.split q.data.toList).2 = F at *
      have hqn : (F != 0) = true := by rw [bne_iff_ne]; exact hF
      clear hs hd hx2 hcp b2 hF HA2
      go_wp2_with fail
      go_ret2
      exact ⟨by rw [HA3.out]; rfl, HB2.out⟩
end Go.Proofs.YtfcnlfblfennaaaDoor

namespace Go.Proofs.YtfcnlfblfennaaaDoor
open Go.RowKit

theorem Gb.mtch_bad {p q : List UInt8} (h : (Gb.mtch p q).2 ≠ 0) : (Gb.mtch p q).1 = false := by
  unfold Gb.mtch at h ⊢
  split
  · rfl
  · rename_i h1
    rw [if_neg h1] at h
    split
    · rfl
    · rename_i h2
      rw [if_neg h2] at h
      exact absurd rfl h
theorem kfits_any (p q : ByteArray) (w : World) (hq : q.size ≤ 140737488355328) (hT : Tabs w) :
    Calls Tryd.prog 15 #[.string p, .string q] w fun e w' => e = .returned (.bool (Gb.mtch p.data.toList q.data.toList).1) ∧ Below w.heap.size w w' := by
  have hm := gmatch_any p q w hq hT
  have HB : Hid ((Gb.mtch p.data.toList q.data.toList).1 = true → (Gb.mtch p.data.toList q.data.toList).2 = 0) := fun h => by
    rcases Decidable.em ((Gb.mtch p.data.toList q.data.toList).2 = 0) with e | e
    · exact e
    · rw [Gb.mtch_bad e] at h; cases h
  generalize (Gb.mtch p.data.toList q.data.toList).1 = A at *
  generalize (Gb.mtch p.data.toList q.data.toList).2 = E at *
  clear hT
  cases A with
  | false =>
    go_enter Tryd.func15, Tryd.ntmps15
    go_wp2_with fail
    refine hm.mono ?_
    rintro e w1 ⟨rfl, b1⟩
    have HB1 : Hid (Below w.heap.size w w1) := b1
    clear hm b1
    go_wp2_with fail
    go_ret
    exact ⟨rfl, HB1.out⟩
  | true =>
    have hE : E = 0 := HB.out rfl
    subst hE
    go_enter Tryd.func15, Tryd.ntmps15
    go_wp2_with fail
    refine hm.mono ?_
    rintro e w1 ⟨rfl, b1⟩
    have HB1 : Hid (Below w.heap.size w w1) := b1
    clear hm b1
    go_wp2_with fail
    go_ret
    exact ⟨rfl, HB1.out⟩
theorem tx_lit1 (w : World) (s : ByteArray) : Tx (w.alloc (.cells #[.string s] 9)) (.slice (some ⟨w.heap.size, 0, none⟩) 1 1) [s] := by
  refine ⟨.inr ⟨w.heap.size, 0, 1, rfl, by simp, fun j hj => ?_⟩⟩
  have : j = 0 := by simpa using hj
  subst this
  rw [World.cell?_alloc_new]; rfl
/-- a path of names is short -/
theorem Nn.split_short {p : List UInt8} (h : (Nn.split p).2 = 0) : p.length ≤ 777 := by
  have hs : Nn.split p = ((Nn.split p).1, 0) := Prod.ext rfl h
  obtain ⟨h0, e⟩ := Nn.join_ok (Nn.split_join hs)
  rw [e]
  unfold Nn.joinB
  split
  · simp
  · have := Nn.tails_few h0; omega
/-- Skips of rules and a path, both known -/
theorem skips_of (v : Value) (R : List ByteArray) (q : ByteArray) (w : World) (hx : Tx w v R) (hl : R.length ≤ 9223372036854775807) (hq : q.size ≤ 140737488355328) (hT : Tabs w) (A : Bool) (E : Int) (h : Gb.skips (dl R) q.data.toList = (A, E)) :
    Calls Tryd.prog 13 #[v, .string q] w fun e w' => e = .returned (.tuple #[.bool A, .int .i64 E]) ∧ Below w.heap.size w w' := by
  have := gskips_any v R q w hx hl hq hT
  rw [h] at this
  exact this

theorem tx_lit2 (w : World) (s t : ByteArray) : Tx (w.alloc (.cells #[.string s, .string t] 9)) (.slice (some ⟨w.heap.size, 0, none⟩) 2 2) [s, t] := by
  refine ⟨.inr ⟨w.heap.size, 0, 2, rfl, by simp, fun j hj => ?_⟩⟩
  have hj : j < 2 := by simpa using hj
  rw [World.cell?_alloc_new]
  match j, hj with
  | 0, _ => rfl
  | 1, _ => rfl
end Go.Proofs.YtfcnlfblfennaaaDoor
