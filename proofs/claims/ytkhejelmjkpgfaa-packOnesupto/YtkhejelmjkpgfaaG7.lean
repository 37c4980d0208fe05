/-
  What Make of package pack answers.
  What bitsOf of the document's answer (package lumref) answers: bits as a text of the signs 0 and 1.
  The library's contracts at this program: Builder_String_any (laid by the guide's own tools, written out in plain words).
  strings.Builder at this program: what WriteString and String do (a builder's copy check is walked here: its last branch is not in the cut).
  What Greedy of the document's answer (package lumref) answers.
  What tokenText and TokensText of package lumref answer.
  Bunches of signs as they lie in memory; what has and least of package lumref answer.
  What Lengths of package lumref answers.
-/
import Derived.Test.YtkhejelmjkpgfaaG4
import Derived.Test.YtkhejelmjkpgfaaG6
import Derived.Test.YtkhejelmjkpgfaaG0
import Derived.Test.YtkhejelmjkpgfaaG3
import Derived.Shelf.Strings.Builder1
import Derived.Test.YtkhejelmjkpgfaaProg
import Derived.Test.YtkhejelmjkpgfaaG1
import Derived.Lib.Builder
import Derived.Lib.AppendStr
import Derived.Laws.Externs
import Derived.Test.YtkhejelmjkpgfaaG5
import Derived.BigQuiet

namespace Go.Proofs.Ytkhejelmjkpgfaa
open Go.RowKit
set_option maxRecDepth 4000

/-- what bytes are pressed to -/
def Pz (b p : List UInt8) : Prop := ∃ wide, p = (Pr.pr b wide).1 ∧ Hf.HL (Pr.tally (Pr.T b)) wide
theorem Pz.once {b p q : List UInt8} (h : Pz b p) (k : Pz b q) : p = q := by
  obtain ⟨x, rfl, hx⟩ := h
  obtain ⟨y, rfl, hy⟩ := k
  rw [hx.once hy]
theorem Pz.le {b p : List UInt8} (h : Pz b p) (hb : b.length ≤ 4096) : p.length ≤ 4097 := by
  obtain ⟨x, rfl, hx⟩ := h
  unfold Pr.pr
  rw [if_neg (by omega)]
  split
  · show (Pr.cod b x).length ≤ 4097; omega
  · show (0 :: b).length ≤ 4097; simp only [List.length_cons]; omega
/-- what each blob is pressed to -/
def PzL : List Blb → List (List UInt8) → Prop
  | [], [] => True
  | b :: l, p :: ps => Pz b.bytes.data.toList p ∧ PzL l ps
  | _, _ => False
theorem PzL.length : ∀ {l : List Blb} {ps : List (List UInt8)}, PzL l ps → l.length = ps.length
  | [], [], _ => rfl
  | [], _ :: _, h => h.elim
  | _ :: _, [], h => h.elim
  | _ :: l, _ :: ps, h => by rw [List.length_cons, List.length_cons, PzL.length h.2]
theorem PzL.more : ∀ {l : List Blb} {ps : List (List UInt8)} {b : Blb} {p : List UInt8}, PzL l ps → Pz b.bytes.data.toList p → PzL (l ++ [b]) (ps ++ [p])
  | [], [], _, _, _, hp => ⟨hp, trivial⟩
  | [], _ :: _, _, _, h, _ => h.elim
  | _ :: _, [], _, _, h, _ => h.elim
  | _ :: _, _ :: _, _, _, h, hp => ⟨h.1, PzL.more h.2 hp⟩
theorem PzL.once : ∀ {l : List Blb} {ps qs : List (List UInt8)}, PzL l ps → PzL l qs → ps = qs
  | [], [], [], _, _ => rfl
  | [], _ :: _, _, h, _ => h.elim
  | [], [], _ :: _, _, h => h.elim
  | _ :: _, [], _, h, _ => h.elim
  | _ :: _, _ :: _, [], _, h => h.elim
  | _ :: l, p :: ps, q :: qs, h, k => by rw [Pz.once h.1 k.1, PzL.once h.2 k.2]
theorem rowsB_more : ∀ (l : List Pk.Bl) (ps : List (List UInt8)) (b : Pk.Bl) (p : List UInt8), l.length = ps.length → Pk.rowsB (l ++ [b]) (ps ++ [p]) = Pk.rowsB l ps ++ Pk.rowB b p
  | [], [], b, p, _ => by simp [Pk.rowsB]
  | [], _ :: _, _, _, h => by simp at h
  | _ :: _, [], _, _, h => by simp at h
  | a :: l, q :: ps, b, p, h => by
    rw [List.cons_append, List.cons_append, Pk.rowsB, rowsB_more l ps b p (by simpa using h), Pk.rowsB, List.append_assoc]
/-- what Make hands back -/
def MkOut (s : ByteArray) (l : List Blb) : Prop :=
  (Pk.makeErr (l.map Blb.p) ≠ 0 → s.data.toList = []) ∧ (Pk.makeErr (l.map Blb.p) = 0 → ∃ ps, PzL l ps ∧ s.data.toList = Pk.packB (l.map Blb.p) ps)
theorem put_le (n : Nat) : (Nm.put n).length ≤ 9 ∧ 0 < (Nm.put n).length := by
  have := Nm.dig_length_le n
  unfold Nm.put; simp only [List.length_cons]; omega
theorem seal_pack (l : List Blb) (ps : List (List UInt8)) : ps.flatten ++ (Nm.put l.length ++ Pk.rowsB (l.map Blb.p) ps) ++ Pk.two (Nm.put l.length ++ Pk.rowsB (l.map Blb.p) ps).length ++ Pk.dg (ps.flatten ++ (Nm.put l.length ++ Pk.rowsB (l.map Blb.p) ps) ++ Pk.two (Nm.put l.length ++ Pk.rowsB (l.map Blb.p) ps).length) = Pk.packB (l.map Blb.p) ps := by
  have h : ps.flatten ++ (Nm.put l.length ++ Pk.rowsB (l.map Blb.p) ps) ++ Pk.two (Nm.put l.length ++ Pk.rowsB (l.map Blb.p) ps).length = Pk.allB (l.map Blb.p) ps := by
    rw [Pk.allB, Pk.listB, List.length_map, List.append_assoc]
  rw [h, Pk.packB]
theorem byte_cell (w : World) (t : TypeId) (x : Value) : ∀ j u, ([x] : List Value)[j]? = some u → (w.alloc (.cells #[x] t)).cell? ((⟨w.heap.size, 0, none⟩ : Addr).add j) = some u := cell_one_new w x t
theorem kind_of {t : Blb} (h : Pk.bErr t.p = 0) : ∃ kd : Nat, t.kind = (kd : Int) ∧ kd ≤ 3 ∧ t.bytes.size ≤ 4096 := by
  obtain ⟨h1, h2⟩ := Pk.bErr_ok h
  have h1 : t.kind = 1 ∨ t.kind = 2 ∨ t.kind = 3 := h1
  have h2 : t.bytes.data.toList.length ≤ 4096 := h2
  rw [← Lib.size_eq] at h2
  rcases h1 with h | h | h
  · exact ⟨1, h, by omega, h2⟩
  · exact ⟨2, h, by omega, h2⟩
  · exact ⟨3, h, by omega, h2⟩

set_option maxHeartbeats 4000000 in
theorem pkmake_any (v : Value) (l : List Blb) (w : World) (h : Bx w v l) (hok : BOk l) (hl : l.length ≤ 140737488351232) :
    Calls Try.prog 11 #[v] w fun e w' => ∃ s' : ByteArray, e = .returned (.tuple #[.string s', .int .i64 (Pk.makeErr (l.map Blb.p))]) ∧ MkOut s' l ∧ Below w.heap.size w w' := by
  obtain ⟨i0, hi, hz0, hz1, hz2⟩ := info_parts info_u8
  obtain ⟨a, c, rfl, hc1, hc2⟩ := h.slice
  have hids := ids_any _ l w h hok hl
  have HH : Hid (Bx w (.slice a l.length c) l) := h
  clear h
  by_cases hE : Pk.makeErr (l.map Blb.p) = 0
  · have H40 : l.length ≤ 40 := by
      unfold Pk.makeErr at hE
      split at hE
      · omega
      · rename_i h; rw [List.length_map] at h; omega
    have HE : Hid (∀ b ∈ l, Pk.bErr b.p = 0) := fun b hb => Pk.makeErr_each hE b.p (List.mem_map_of_mem hb)
    have HME : Hid (Pk.makeErr (l.map Blb.p) = 0) := hE
    rw [hE] at hids ⊢
    clear hok
    go_enter Try.func11, Try.ntmps11
    go_wp2_with fail
    refine hids.mono ?_
    rintro e w1 ⟨vi, rfl, hi1, _, hb1⟩
    have HI : Hid (Rx 8 bidC w1 vi l) := Rx.of_own bidC_length (hi1 hE)
    have HB1 : Hid (Below w.heap.size w w1) := hb1
    obtain ⟨ai, ci, rfl, hcc1, hcc2⟩ := HI.out.slice
    have hnum0 := pnum_any w1.heap.size (.slice none 0 0) [] l.length w1 (World.ownsRow_nil _ _ _ _) (Nat.le_refl _) (by simp) (by omega)
    rw [List.nil_append] at hnum0
    clear hi1 hE hb1 hids
    go_wp2_with fail
    refine hnum0.mono ?_
    rintro e w2 ⟨vl, rfl, ho2, hb2, _, _⟩
    have HO2 : Hid (w2.ownsRow w1.heap.size 5 1 vl (Nm.put l.length).length ((Nm.put l.length).map B)) := ho2
    have HB2 : Hid (Below w1.heap.size w1 w2) := hb2
    clear ho2 hb2 hnum0
    go_wp2_with fail
    go_loopw [6, 7, 25] (fun vb vm i wr => ∃ (k : Nat) (ps : List (List UInt8)) (Lb Ll : List UInt8), k ≤ l.length ∧ i = .int .i64 k ∧ Hid (Lb = ps.flatten) ∧ Hid (Ll = Nm.put l.length ++ Pk.rowsB ((l.take k).map Blb.p) ps) ∧ Hid (PzL (l.take k) ps) ∧ Hid (Lb.length ≤ 4097 * k ∧ 0 < Ll.length ∧ Ll.length ≤ 9 + 18 * k) ∧
        Hid (wr.ownsRow w1.heap.size 5 1 vb Lb.length (Lb.map B)) ∧ Hid (wr.ownsRow w1.heap.size 5 1 vm Ll.length (Ll.map B)) ∧ Hid (Apart vb vm) ∧ Hid (Below w1.heap.size w1 wr)) (fun _ _ i _ => l.length - (intOf i).toNat)
    case atStart =>
      have := put_le l.length
      exact ⟨0, [], [], Nm.put l.length, by omega, rfl, rfl, by show _ = _; simp [Pk.rowsB], trivial, ⟨by simp, by omega, by omega⟩, World.ownsRow_nil _ _ _ _, HO2.out, fun g hg => by simp [Value.ownBlock] at hg, HB2.out⟩
    case round =>
      obtain ⟨k, ps, Lb, Ll, hk, rfl, hLb, hLl, hPz, hsz, hob, hol, hap, hbel⟩ := hrel
      clear HO2 HB2
      by_cases hlt : k < l.length
      · obtain ⟨t, ht⟩ : ∃ t, l[k]? = some t := ⟨_, List.getElem?_eq_getElem hlt⟩
        have HT : Hid (l[k]? = some t) := ht
        have hBw := HB1.out.trans (hbel.out.mono HB1.out.size)
        obtain ⟨bk, o, rfl, hbk, c0, c1⟩ := (HH.out.below hBw).blob k t ht
        obtain ⟨bi, oi, rfl, hbi, hci⟩ := HI.out.get k t ht
        obtain ⟨kd, hkd, hkd3, hts⟩ := kind_of (HE.out t (List.mem_of_getElem? ht))
        have hpr := fun W => press_any t.bytes W hts
        have HKD : Hid (t.kind = (kd : Int)) := hkd
        rw [hkd] at c0
        have HC8 : Hid (∀ W, Below w1.heap.size w1 W → ∀ r u, (bidC t)[r]? = some u → W.cell? ((⟨bi, oi + k * 8, none⟩ : Addr).add r) = some u) := fun W hW r u hu => by
          rw [show ((⟨bi, oi + k * 8, none⟩ : Addr).add r) = ⟨bi, oi + k * 8 + r, none⟩ from by unfold Addr.add; split <;> simp_all]
          exact (hW.cell (p := ⟨bi, _, none⟩) hbi).trans (hci r u hu)
        obtain ⟨z1, z2, z3⟩ := hsz.out
        have hs0 := hbel.out.size
        clear ht hkd hci hBw
        go_wp2_with fail
        refine (hpr _).mono ?_
        rintro e w3 ⟨wide, S, rfl, hS, hHL, hb3⟩
        have HPz : Hid (Pz t.bytes.data.toList S.data.toList) := ⟨wide, hS, hHL⟩
        have hSz : S.size ≤ 4097 := by rw [Lib.size_eq]; exact HPz.out.le (by rw [← Lib.size_eq]; exact hts)
        have hb3' := below_past hb3
        have hob3 := own_below hob.out hb3'
        have hol3 := own_below hol.out hb3'
        have d0 := (hb3.cell (p := ⟨wr.heap.size, 0, none⟩) (by simp)).trans (show _ = some (.int .i64 (kd : Int)) from by simp)
        have hw3 : wr.heap.size < w3.heap.size := by have := hb3.size; simp at this; omega
        have HB3 : Hid (Below w1.heap.size w1 w3) := hbel.out.trans (hb3'.mono hs0)
        have hvb : ∀ g, u6.ownBlock = some g → g < wr.heap.size := fun g hg => (hob.out.lt g hg).2
        have hvl : ∀ g, u7.ownBlock = some g → g < wr.heap.size := fun g hg => (hol.out.lt g hg).2
        clear hpr hb3 hb3' c0 c1 hS hHL hob hol hbel hbk
        go_wp2_with (at_builtin; refine wpList_append_str_at _ rfl (.tmp 36) (.tmp 37) 51 9 rfl w1.heap.size 5 i0 Try.underlying51 Try.underlying9 hi hz0 hz1 hz2 _ _ _ rfl hob3 S rfl ?c3 ?c4 ?c5 ?_)
        case c3 => unfold maxLen; omega
        case c4 => omega
        case c5 => omega
        intro v1 w4 ho4 hg4 hloc4
        have hrow4 : w4.ownsRow w1.heap.size 5 1 v1 (Lb ++ S.data.toList).length ((Lb ++ S.data.toList).map B) := by
          rw [List.length_append, List.map_append, ← Lib.size_eq]; exact ho4
        have hol4 := own_kept hol3 (Kept.grown (p := fun q => u6.ownBlock ≠ some q) (Kept.refl _ w3) hg4 (fun q hq hp => hp hq)) (fun g hg e => hap.out g e hg)
        have d0' : w4.cell? ⟨wr.heap.size, 0, none⟩ = some (.int .i64 (kd : Int)) := hg4.cell d0 (fun e => by have := hvb wr.heap.size e.symm; omega)
        have HB4 : Hid (Below w1.heap.size w1 w4) := HB3.out.grown hg4 HB3.out.size (fun q hq => (hob3.lt q hq).1)
        have hap4 : Apart v1 u7 := hap.out.left hloc4 (fun g hg => by have := hvl g hg; omega)
        have hs4 : w3.heap.size ≤ w4.heap.size := hg4.size
        have hbk4 : ∀ g, v1.ownBlock = some g → g < w4.heap.size := fun g hg => (hrow4.lt g hg).2
        clear ho4 hg4 hloc4 hob3 hol3 d0 hap HB3
        go_wp2_with (at_builtin; refine wpList_append_own_at _ rfl (.tmp 39) (.tmp 43) 51 rfl w1.heap.size 5 i0 (.int .u8 0) 1 1 Try.underlying51 hi hz0 hz1 hz2 rfl (by decide) _ _ _ rfl (hol4.alloc _) ⟨w4.heap.size, 0, none⟩ 1 1 [.int .u8 (kd : Int)] rfl rfl ?d1 ?d2 ?d3 ?d4 ?d5 ?_)
        case d1 => exact cell_one_new _ _ _
        case d2 => intro u hu; simp at hu; subst hu; rfl
        case d3 => unfold maxLen; omega
        case d4 => omega
        case d5 => simp; omega
        intro v2 w5 ho5 hg5 _ hat5
        have hrow5 : w5.ownsRow w1.heap.size 5 1 v2 (Ll ++ [UInt8.ofNat kd]).length ((Ll ++ [UInt8.ofNat kd]).map B) := by
          rw [List.length_append, List.map_append, show ([UInt8.ofNat kd] : List UInt8).map B = [.int .u8 (kd : Int)] from by
            have : (UInt8.ofNat kd).toNat = kd := by rw [UInt8.toNat_ofNat']; omega
            simp [B, this]]
          exact ho5
        have hloc5 : Loc u7 v2 w4.heap.size := by
          rcases hat5 with h | h
          · exact .inl h
          · exact .inr ⟨_, h, by simp⟩
        have hob5 := own_kept hrow4 (Kept.grown (p := fun q => u7.ownBlock ≠ some q) ((Kept.refl _ w4).alloc _) hg5 (fun q hq hp => hp hq)) (fun g hg e => hap4 g hg e)
        have HB5 : Hid (Below w1.heap.size w1 w5) := (HB4.out.alloc HB4.out.size _).grown hg5 (by have := HB4.out.size; simp; omega) (fun q hq => (hol4.lt q hq).1)
        have hap5 : Apart v1 v2 := hap4.right hloc5 hbk4
        have hs5 : w4.heap.size < w5.heap.size := by have := hg5.size; simp at this; omega
        have hls5 : (Ll ++ [UInt8.ofNat kd]).length ≤ 10 + 18 * k := by rw [List.length_append, List.length_singleton]; omega
        have HL5 : Hid (Ll ++ [UInt8.ofNat kd] ++ (Pk.bid t.p ++ Nm.put S.size) = Ll ++ Pk.rowB t.p S.data.toList) := by
          show _ = _
          rw [List.append_assoc, Pk.rowB, show t.p.1 = (kd : Int) from HKD.out, Int.toNat_natCast, ← Lib.size_eq]; rfl
        have HW5 : Hid (∀ r u, (bidC t)[r]? = some u → w5.cell? ((⟨bi, oi + k * 8, none⟩ : Addr).add r) = some u) := HC8.out w5 HB5.out
        generalize Ll ++ [UInt8.ofNat kd] = L5 at *
        obtain ⟨g5, q5, hv5⟩ := own_form hrow5
        subst hv5
        clear ho5 hg5 hat5 hol4 d0' hap4 HB4 hloc5 hrow4 hbk4
        go_wp2_with (at_builtin; refine wpList_append_own_at _ rfl (.tmp 45) (.tmp 49) 51 rfl w1.heap.size 5 i0 (.int .u8 0) 1 1 Try.underlying51 hi hz0 hz1 hz2 rfl (by decide) _ _ _ rfl hrow5 ⟨bi, oi + k * 8, none⟩ 8 8 (bidC t) rfl ?e0 ?e1 ?e2 ?e3 ?e4 ?e5 ?_)
        case e0 => rw [bidC_length]
        case e1 => exact HW5.out
        case e2 => exact bidC_one t
        case e3 => unfold maxLen; omega
        case e4 => omega
        case e5 => omega
        intro v3 w6 ho6 hg6 _ hat6
        have hrow6 : w6.ownsRow w1.heap.size 5 1 v3 (L5 ++ Pk.bid t.p).length ((L5 ++ Pk.bid t.p).map B) := by
          rw [List.length_append, List.map_append, Pk.bid_length]; exact ho6
        have hloc6 : Loc (.slice g5 L5.length q5) v3 w5.heap.size := by
          rcases hat6 with h | h
          · exact .inl h
          · exact .inr ⟨_, h, Nat.le_refl _⟩
        have hob6 := own_kept hob5 (Kept.grown (p := fun q => (Value.slice g5 L5.length q5).ownBlock ≠ some q) (Kept.refl _ w5) hg6 (fun q hq hp => hp hq)) (fun g hg e => hap5 g hg e)
        have HB6 : Hid (Below w1.heap.size w1 w6) := HB5.out.grown hg6 HB5.out.size (fun q hq => (hrow5.lt q hq).1)
        have hap6 : Apart v1 v3 := hap5.right hloc6 (fun g hg => (hob5.lt g hg).2)
        have hls6 : (L5 ++ Pk.bid t.p).length ≤ 18 + 18 * k := by rw [List.length_append, Pk.bid_length]; omega
        have hnum := pnum_any w1.heap.size v3 (L5 ++ Pk.bid t.p) S.size w6 hrow6 HB6.out.size (by omega) (by omega)
        rw [List.append_assoc, HL5.out] at hnum
        have HB6' : Hid (w6.ownsRow w1.heap.size 5 1 v1 (Lb ++ S.data.toList).length ((Lb ++ S.data.toList).map B)) := hob6
        have HA6 : Hid (Apart v1 v3) := hap6
        generalize L5 ++ Pk.bid t.p = L6 at *
        obtain ⟨a3, q3, hv3⟩ := own_form hrow6
        subst hv3
        clear ho6 hg6 hat6 hloc6 hob5 hrow5 hap5 HB5 hob6 hap6 hls5 HW5
        go_wp2_with fail
        refine hnum.mono ?_
        rintro e w7 ⟨v4, rfl, ho7, hb7, hk7, hloc7⟩
        have HO7 : Hid (w7.ownsRow w1.heap.size 5 1 v4 (Ll ++ Pk.rowB t.p S.data.toList).length ((Ll ++ Pk.rowB t.p S.data.toList).map B)) := ho7
        have HOb7 : Hid (w7.ownsRow w1.heap.size 5 1 v1 (Lb ++ S.data.toList).length ((Lb ++ S.data.toList).map B)) := own_kept HB6'.out hk7 (fun g hg e => HA6.out g hg e)
        have HB7 : Hid (Below w1.heap.size w1 w7) := HB6.out.trans hb7
        have HA7 : Hid (Apart v1 v4) := HA6.out.right hloc7 (fun g hg => (HB6'.out.lt g hg).2)
        have HN1 : Hid (Lb ++ S.data.toList = (ps ++ [S.data.toList]).flatten) := by
          show _ = _
          rw [List.flatten_append, ← hLb.out]; simp
        have HN2 : Hid (Ll ++ Pk.rowB t.p S.data.toList = Nm.put l.length ++ Pk.rowsB ((l.take (k + 1)).map Blb.p) (ps ++ [S.data.toList])) := by
          show _ = _
          rw [take_more HT.out, List.map_append, List.map_singleton, rowsB_more _ _ _ _ (by rw [List.length_map]; exact hPz.out.length), hLl.out, List.append_assoc]
        have HN3 : Hid (PzL (l.take (k + 1)) (ps ++ [S.data.toList])) := by
          show PzL _ _
          rw [take_more HT.out]; exact hPz.out.more HPz.out
        have HN4 : Hid ((Lb ++ S.data.toList).length ≤ 4097 * (k + 1) ∧ 0 < (Ll ++ Pk.rowB t.p S.data.toList).length ∧ (Ll ++ Pk.rowB t.p S.data.toList).length ≤ 9 + 18 * (k + 1)) := by
          have h1 := Pk.rowB_length t.p S.data.toList
          show _ ∧ _ ∧ _
          rw [List.length_append, List.length_append, ← Lib.size_eq]
          omega
        clear ho7 hb7 hk7 hloc7 hnum HL5 hLb hLl hPz hsz
        go_wp2_with fail
        go_roundw
        case rel => exact ⟨k + 1, _, _, _, by omega, by go_num, HN1, HN2, HN3, HN4, HOb7, HO7, HA7, HB7⟩
        case measure => simp only [intOf]; omega
      · obtain rfl : k = l.length := by omega
        rw [List.take_of_length_le (Nat.le_refl _)] at hPz hLl
        have hsl := seal_any Lb Ll u6 u7 w1.heap.size wr hbel.out.size (by have := hsz.out; omega) (by have := hsz.out; omega) hsz.out.2.1 hob.out hol.out
        have HF : Hid (Lb ++ Ll ++ Pk.two Ll.length ++ Pk.dg (Lb ++ Ll ++ Pk.two Ll.length) = Pk.packB (l.map Blb.p) ps) := by
          show _ = _
          rw [hLb.out, hLl.out]
          exact seal_pack l ps
        rw [HF.out] at hsl
        have HFin : Hid (MkOut ⟨(Pk.packB (l.map Blb.p) ps).toArray⟩ l) := ⟨fun e => absurd HME.out e, fun _ => ⟨ps, hPz.out, rfl⟩⟩
        obtain ⟨a6, q6, hv6⟩ := own_form hob.out
        obtain ⟨a7, q7, hv7⟩ := own_form hol.out
        subst hv6 hv7
        generalize Pk.packB (l.map Blb.p) ps = R at *
        clear HF hLb hLl hPz hsz hob hol hap
        go_wp2_with fail
        refine hsl.mono ?_
        rintro e w8 ⟨rfl, hb8⟩
        have HB8 : Hid (Below w.heap.size w w8) := HB1.out.trans ((hbel.out.trans hb8).mono HB1.out.size)
        clear hb8 hsl hbel
        go_wp2_with fail
        go_ret2
        exact ⟨_, rfl, HFin.out, HB8.out⟩
  · have HX : Hid (Pk.makeErr (l.map Blb.p) ≠ 0) := hE
    generalize hME : Pk.makeErr (l.map Blb.p) = ME at *
    have HME : Hid (Pk.makeErr (l.map Blb.p) = ME) := hME
    have hE2 : (ME == 0) = false := beq_eq_false_iff_ne.2 hE
    clear hE hok
    go_enter Try.func11, Try.ntmps11
    go_wp2_with fail
    refine hids.mono ?_
    rintro e w1 ⟨vi, rfl, _, hi2, hb1⟩
    obtain rfl := hi2 (by rw [hME]; exact HX.out)
    have HB1 : Hid (Below w.heap.size w w1) := hb1
    clear hids hb1 hME hi2
    go_wp2_with fail
    go_ret2
    exact ⟨⟨#[]⟩, rfl, ⟨fun _ => rfl, fun e => absurd (HME.out.symm.trans e) HX.out⟩, HB1.out⟩
end Go.Proofs.Ytkhejelmjkpgfaa

namespace Go.Proofs.Ytkhejelmjkpgfaa
open Go.RowKit
set_option maxRecDepth 4000

namespace Pr
/-- bits as signs -/
def sb (b : List Bool) : Bs := b.map fun x => if x then 49 else 48
theorem sb_length (b : List Bool) : (sb b).length = b.length := by simp [sb]
theorem sb_append (a b : List Bool) : sb (a ++ b) = sb a ++ sb b := by simp [sb]
theorem sb_inj {a b : List Bool} (h : sb a = sb b) : a = b := by
  induction a generalizing b with
  | nil =>
    have := congrArg List.length h
    rw [sb_length, sb_length] at this
    exact (List.length_eq_zero_iff.1 this.symm).symm
  | cons x a ih =>
    cases b with
    | nil => have := congrArg List.length h; rw [sb_length, sb_length] at this; simp at this
    | cons y b =>
      simp only [sb, List.map_cons, List.cons.injEq] at h
      rw [ih h.2]
      cases x <;> cases y <;> simp_all
theorem sb_wd (c n : Nat) : sb (wd c (n + 1)) = sb (wd (c / 2) n) ++ [UInt8.ofNat (48 + c % 2)] := by
  rw [wd, sb_append]
  congr 1
  by_cases h : c % 2 = 1
  · rw [h]; rfl
  · rw [show c % 2 = 0 by omega]; rfl
end Pr

set_option maxHeartbeats 1000000 in
theorem bits_any (n : Nat) : ∀ (c : Nat) (w : World), c ≤ 281474976710656 → n ≤ 48 →
    Calls Try.prog 56 #[.int .i64 c, .int .i64 n] w fun e w' => e = .returned (.string ⟨(Pr.sb (Pr.wd c n)).toArray⟩) ∧ Below w.heap.size w w' := by
  induction n with
  | zero =>
    intro c w h0 _
    go_enter Try.func56, Try.ntmps56
    go_wp2_with fail
    go_ret
    exact ⟨rfl, Below.refl _ _⟩
  | succ n ih =>
    intro c w hc hn
    have hd : Hid (Pr.sb (Pr.wd c (n + 1)) = Pr.sb (Pr.wd (c / 2) n) ++ [UInt8.ofNat (48 + c % 2)]) := Pr.sb_wd c n
    have hq : (((n + 1 : Nat) : Int) == 0) = false := by rw [beq_eq_false_iff_ne]; omega
    have ihc := fun W => ih (c / 2) W (by omega) (by omega)
    have IH : Hid (∀ W, Calls Try.prog 56 #[.int .i64 (c / 2 : Nat), .int .i64 n] W fun e w' => e = .returned (.string ⟨(Pr.sb (Pr.wd (c / 2) n)).toArray⟩) ∧ Below W.heap.size W w') := ihc
    have hl : (Pr.sb (Pr.wd (c / 2) n)).length = n := by rw [Pr.sb_length, Pr.wd_length]
    obtain ⟨L, hL⟩ : ∃ L, Pr.sb (Pr.wd (c / 2) n) = L := ⟨_, rfl⟩
    rw [hL] at hd IH hl
    have m0 : (0 : Int) ≤ 48 + (c : Int) % 2 := by omega
    have m1 : 48 + (c : Int) % 2 ≤ 255 := by omega
    have hr1 := str_new (48 + (c : Int) % 2) m0 m1
    have hr2 := str_new_drew (48 + (c : Int) % 2) m0 m1
    have hcat : ∀ W : World, (Op.stringOp .add ⟨L.toArray⟩ ⟨#[UInt8.ofNat (48 + (c : Int) % 2).toNat]⟩).run Try.prog W = .ok (.string ⟨(L ++ [UInt8.ofNat (48 + (c : Int) % 2).toNat]).toArray⟩) W := fun W =>
      run_string_add_lists W _ [UInt8.ofNat (48 + (c : Int) % 2).toNat] (by omega) (by simp)
    have HE : Hid ((48 + (c : Int) % 2).toNat = 48 + c % 2) := by show _ = _; omega
    have ec : ((c / 2 : Nat) : Int) = (c : Int) / 2 := by omega
    rw [ec] at IH
    have HL : Hid (L.length = n) := hl
    have hw1 : IntKind.i64.wrap ((c : Int) / 2) = (c : Int) / 2 := by simp only [IntKind.wrap, IntKind.bits, IntKind.signed]; simp; omega
    have hw2 : IntKind.i64.wrap (n : Int) = (n : Int) := by simp only [IntKind.wrap, IntKind.bits, IntKind.signed]; simp; omega
    have hw3 : (c : Int).tmod 2 = (c : Int) % 2 := Int.tmod_eq_emod_of_nonneg (by omega)
    have hw4 : IntKind.u8.wrap ((c : Int) % 2) = (c : Int) % 2 := by simp only [IntKind.wrap, IntKind.bits, IntKind.signed]; simp; omega
    have hw5 : IntKind.u8.wrap (48 + (c : Int) % 2) = 48 + (c : Int) % 2 := by simp only [IntKind.wrap, IntKind.bits, IntKind.signed]; simp; omega
    clear ih ihc hL ec hl
    go_enter Try.func56, Try.ntmps56
    go_wp2_with fail
    go_region_with (refine (IH.out _).mono ?_; rintro e w' ⟨rfl, hb⟩; try (have hr3 := str_kept w (48 + (c : Int) % 2) m0 m1 hb))
    all_goals
      clear hr1 hr2 hcat
      go_wp2_with fail
      go_ret
      refine ⟨by rw [hd.out, ← HE.out]; rfl, ?_⟩
      first
        | (have h := hb.size; exact ((Below.refl _ _).drew.trans hb).alloc (by simpa using h) _)
        | exact (((Below.refl _ _).alloc (Nat.le_refl _) _).drew).trans (hb.mono (by simp))
end Go.Proofs.Ytkhejelmjkpgfaa

namespace Go.Proofs
open Go.Shelf
def Try.lays169_ren : Go.Shelf.Ren := ⟨fun | 169 => 58 | n => n, fun | 70 => 87 | 9 => 9 | 0 => 0 | 72 => 89 | 37 => 51 | 127 => 128 | 3 => 3 | 5 => 5 | n => n, fun | n => n⟩
theorem Try.lays169 : Go.Proofs.Lays.n169 Try.prog Try.lays169_ren := {
  mixed := by kernel_rfl
  f169 := Try.func58.trans (congrArg some (by kernel_rfl))
  t0 := Try.underlying0
  a0 := Try.isAgg0
  z0 := Try.sizeOf0
  v0 := Try.zeroValue0
  t3 := Try.underlying3
  a3 := Try.isAgg3
  z3 := Try.sizeOf3
  v3 := Try.zeroValue3
  t9 := Try.underlying9
  a9 := Try.isAgg9
  z9 := Try.sizeOf9
  v9 := Try.zeroValue9
  t37 := Try.underlying51
  a37 := Try.isAgg51
  z37 := Try.sizeOf51
  v37 := Try.zeroValue51
  t70 := Try.underlying87
  a70 := Try.isAgg87
  z70 := Try.sizeOf87
  v70 := Try.zeroValue87
  t72 := Try.underlying89
  a72 := Try.isAgg89
  z72 := Try.sizeOf89
  v72 := Try.zeroValue89
  t127 := Try.underlying128
  a127 := Try.isAgg128
  z127 := Try.sizeOf128
  v127 := Try.zeroValue128 }
theorem Try.Builder_Extra_169 : Builder.Extra Try.prog Try.lays169_ren := {
  sizeBuilder := by kernel_rfl
  liesBuilder := by kernel_rfl
  t5 := Try.underlying5
  a5 := Try.isAgg5
  z5 := Try.sizeOf5
  v5 := Try.zeroValue5
  infoByte := by kernel_rfl
  cellsByte := by kernel_rfl
  sizeByte := by kernel_rfl
  neB5 := by decide }
open Go.RowKit in
theorem Try.Builder_String_any (B b : Nat) (l : List UInt8) (w : World) (h : Lib.IsBuilder 89 5 B b (Lib.byteCells l) w) (hBw : B ≤ w.heap.size) :
    Calls Try.prog 58 #[.pointer (some ⟨b, 0, none⟩)] w fun e w' => e = .returned (.string ⟨l.toArray⟩) ∧ Below B w w' := Any.Builder_String_any Try.lays169 Try.Builder_Extra_169 B b l w h hBw
end Go.Proofs

namespace Go.Proofs.Ytkhejelmjkpgfaa
open Go.RowKit
set_option maxRecDepth 4000

theorem size_bld : (Try.prog.info? 89).map (·.size) = some 2 := by kernel_rfl
theorem lies_bld : liesAt Try.prog Try.prog.depth 89 (2 / Try.prog.cellsOf 89) 0 89 1 = true := by kernel_rfl

set_option maxHeartbeats 1000000 in
theorem copied_used (b : Nat) (w : World) (h0 : w.cell? ⟨b, 0, none⟩ = some (.pointer (some ⟨b, 0, none⟩))) :
    Calls Try.prog 89 #[.pointer (some ⟨b, 0, none⟩)] w fun e w' => e = .returned (.tuple #[]) ∧ w' = w := by
  obtain ⟨j, hj, _⟩ := Option.map_eq_some_iff.1 size_bld
  have hn := Lib.run_neq_ptr_same w (a := ⟨b, 0, none⟩) Try.underlying87 hj
  go_enter Try.func89, Try.ntmps89
  go_wp2_with fail
  go_end0
  exact ⟨rfl, rfl⟩
/-- a pointer to a builder as a bare address, and back -/
theorem up_to (b : Nat) (w : World) (hsh : w.shape? b = some (89, 2)) : (convert 87 172 (.pointer (some ⟨b, 0, none⟩))).run Try.prog w = .ok (.pointer (some ⟨b, 0, none⟩)) w := by
  obtain ⟨j, hj, hjs⟩ := Option.map_eq_some_iff.1 size_bld
  simp [convert, Conv.unsafePointer, run_underlying Try.underlying87, run_underlying Try.underlying172, Conv.seenAt, viewAt, cellsIn, hsh, sizeOf, typeInfo, hj, hjs]
theorem up_back (b : Nat) (w : World) (hsh : w.shape? b = some (89, 2)) : (convert 172 87 (.pointer (some ⟨b, 0, none⟩))).run Try.prog w = .ok (.pointer (some ⟨b, 0, none⟩)) w := by
  obtain ⟨j, hj, _⟩ := Option.map_eq_some_iff.1 size_bld
  simp [convert, Conv.unsafePointer, run_underlying Try.underlying87, run_underlying Try.underlying172, Conv.seenAt, viewAt, hsh, variablesAt, lies_bld, sizeOf, typeInfo, hj]

set_option maxHeartbeats 1000000 in
theorem copied_fresh (b : Nat) (w : World) (h0 : w.cell? ⟨b, 0, none⟩ = some (.pointer none)) (hsh : w.shape? b = some (89, 2)) (hfz : w.frozen? ⟨b, 0, none⟩ = false) :
    Calls Try.prog 89 #[.pointer (some ⟨b, 0, none⟩)] w fun e w' => e = .returned (.tuple #[]) ∧ w' = w.setCell ⟨b, 0, none⟩ (.pointer (some ⟨b, 0, none⟩)) := by
  have hto := up_to b w hsh
  have hfrom := up_back b w hsh
  go_enter Try.func89, Try.ntmps89
  go_wp2_with fail
  rw [run_callFunc_extern Try.func121 (by kernel_rfl) (by kernel_rfl) (by kernel_rfl) (e := Extern.AbiNoEscape.same) (by kernel_rfl), Lib.run_noEscape]
  simp only [Result.andThen]
  rw [Oper.upon_value]
  go_wp2_with fail
  go_end0
  exact ⟨rfl, rfl⟩

/-- a builder that holds l, its bytes in a row of blocks from base on -/
structure Bld (W : World) (base b : Nat) (l : List UInt8) : Prop where
  at_ : ∃ p v, W.heap[b]? = some (.cells #[p, v] 89 (0, 0)) ∧ (p = .pointer none ∨ p = .pointer (some ⟨b, 0, none⟩)) ∧ W.ownsRow base 5 1 v l.length (l.map B)
  lt : b < base
theorem Bld.new (w W : World) (hb : Below (w.alloc (.cells #[.pointer none, .slice none 0 0] 89)).heap.size (w.alloc (.cells #[.pointer none, .slice none 0 0] 89)) W) : Bld W W.heap.size w.heap.size [] :=
  ⟨⟨_, _, (hb.block _ (by simp)).trans (heap_alloc_new w _), .inl rfl, World.ownsRow_nil _ _ _ _⟩, by have := hb.size; simp at this; omega⟩
theorem Bld.kept {p : Nat → Prop} {W W' : World} {base b : Nat} {l : List UInt8} (h : Bld W base b l) (hk : Kept p W W') (hp : ∀ k, (k = b ∨ base ≤ k) → p k) : Bld W' base b l := by
  obtain ⟨⟨q, v, h1, h2, h3⟩, h4⟩ := h
  refine ⟨⟨q, v, hk.obj (hp b (.inl rfl)) h1, h2, ?_⟩, h4⟩
  obtain ⟨r1, r2⟩ := h3
  refine ⟨r1, ?_⟩
  rcases r2 with r2 | ⟨g, cap, cur, hv, hg, hh, r⟩
  · exact .inl r2
  · exact .inr ⟨g, cap, cur, hv, hg, by rw [hk.block g (Array.getElem?_eq_some_iff.1 hh).1 (hp g (.inr hg)), hh], r⟩

theorem copied_any (b : Nat) (p v : Value) (w : World) (hbx : w.heap[b]? = some (.cells #[p, v] 89 (0, 0))) (hp : p = .pointer none ∨ p = .pointer (some ⟨b, 0, none⟩)) :
    Calls Try.prog 89 #[.pointer (some ⟨b, 0, none⟩)] w fun e w' => e = .returned (.tuple #[]) ∧ w'.heap[b]? = some (.cells #[.pointer (some ⟨b, 0, none⟩), v] 89 (0, 0)) ∧ Kept (fun k => k ≠ b) w w' := by
  have c0 : w.cell? ⟨b, 0, none⟩ = some p := by rw [cell_of_row _ b 0 _ _ _ hbx]; rfl
  rcases hp with rfl | rfl
  · refine (copied_fresh b w c0 (by simp [World.shape?, hbx]) (by simp [World.frozen?, hbx])).mono ?_
    rintro e w' ⟨rfl, rfl⟩
    refine ⟨rfl, ?_, (Kept.refl _ _).setCell (by simp) _⟩
    rw [heap_setCell_same _ _ _ _ _ _ hbx]
    rfl
  · refine (copied_used b w c0).mono ?_
    rintro e w' ⟨rfl, rfl⟩
    exact ⟨rfl, hbx, Kept.refl _ _⟩

set_option maxHeartbeats 1000000 in
theorem wstr_any (base b : Nat) (l : List UInt8) (s : ByteArray) (w : World) (h : Bld w base b l) (hl : l.length + s.size ≤ 140737488355328) (hb : base ≤ w.heap.size) :
    Calls Try.prog 57 #[.pointer (some ⟨b, 0, none⟩), .string s] w fun e w' => e = .returned (.tuple #[.int .i64 s.size, .nilIface]) ∧ Bld w' base b (l ++ s.data.toList) ∧ Kept (fun k => k ≠ b ∧ k < base) w w' := by
  obtain ⟨i0, hi, hz0, hz1, hz2⟩ := info_parts info_u8
  obtain ⟨⟨p, v, hbx, hp, hown⟩, hlt⟩ := h
  have hc := copied_any b p v w hbx hp
  have HO : Hid (w.ownsRow base 5 1 v l.length (l.map B)) := hown
  clear hbx hp hown
  go_enter Try.func57, Try.ntmps57
  go_wp2_with fail
  refine hc.mono ?_
  rintro e w1 ⟨rfl, hbk, hk1⟩
  clear hc
  have hs1 := hk1.size
  have hown : w1.ownsRow base 5 1 v l.length (l.map B) := by
    obtain ⟨r1, r2⟩ := HO.out
    refine ⟨r1, ?_⟩
    rcases r2 with r2 | ⟨g, cap, cur, hv, hg, hh, r⟩
    · exact .inl r2
    · exact .inr ⟨g, cap, cur, hv, hg, by rw [hk1.block g (Array.getElem?_eq_some_iff.1 hh).1 (by omega), hh], r⟩
  have HK1 : Hid (Kept (fun k => k ≠ b ∧ k < base) w w1) := hk1.mono fun _ h => h.1
  have hne : ∀ g, v.ownBlock = some g → base ≤ g := fun g hg => (hown.lt g hg).1
  have HNE : Hid (∀ g, v.ownBlock = some g → base ≤ g) := hne
  have c1 : w1.cell? ⟨b, 1, none⟩ = some v := by rw [cell_of_row _ b 1 _ _ _ hbk]; rfl
  have HBK : Hid (w1.heap[b]? = some (.cells #[.pointer (some ⟨b, 0, none⟩), v] 89 (0, 0))) := hbk
  obtain ⟨a, c, rfl⟩ := own_form hown
  clear hk1 hne hbk HO
  go_wp2_with (at_builtin; refine Lib.wpList_append_own_string _ rfl (.tmp 12) (.tmp 13) 51 9 rfl base 5 i0 Try.underlying51 Try.underlying9 hi hz0 hz1 hz2 _ _ _ rfl hown s rfl ?c3 ?c4 ?c5 ?_)
  case c3 => unfold maxLen; omega
  case c4 => omega
  case c5 => omega
  intro v' w2 hown' hgrow _
  have hltb : b < w1.heap.size := (Array.getElem?_eq_some_iff.1 HBK.out).1
  have hb2 : w2.heap[b]? = some (.cells #[.pointer (some ⟨b, 0, none⟩), .slice a l.length c] 89 (0, 0)) := by
    rw [hgrow.block b hltb (fun e => by have := HNE.out b e.symm; omega)]
    exact HBK.out
  have d1 : w2.cell? ⟨b, 1, none⟩ = some (.slice a l.length c) := by rw [cell_of_row _ b 1 _ _ _ hb2]; rfl
  have f1 : w2.frozen? ⟨b, 1, none⟩ = false := by simp [World.frozen?, hb2]
  have hk2 : Kept (fun k => k ≠ b) w2 (w2.setCell ⟨b, 1, none⟩ v') := (Kept.refl _ _).setCell (by simp) _
  have HR : Hid (Bld (w2.setCell ⟨b, 1, none⟩ v') base b (l ++ s.data.toList)) := by
    refine ⟨⟨.pointer (some ⟨b, 0, none⟩), v', ?_, .inr rfl, ?_⟩, hlt⟩
    · rw [heap_setCell_same _ _ _ _ _ _ hb2]
      rfl
    · rw [List.length_append, List.map_append, ← Lib.size_eq]
      have hr := hown'
      obtain ⟨r1, r2⟩ := hr
      refine ⟨r1, ?_⟩
      rcases r2 with r2 | ⟨g, cap, cur, hv, hg, hh, r⟩
      · exact .inl r2
      · exact .inr ⟨g, cap, cur, hv, hg, by rw [hk2.block g (Array.getElem?_eq_some_iff.1 hh).1 (by omega), hh], r⟩
  have HK2 : Hid (Kept (fun k => k ≠ b ∧ k < base) w (w2.setCell ⟨b, 1, none⟩ v')) := (HK1.out.grown hgrow (fun k hk hp => by have := HNE.out k hk; omega)).setCell (fun h => h.1 rfl) _
  obtain ⟨a', c', rfl⟩ := own_form hown'
  clear hown' hgrow hown c1 hk2 hb2
  go_wp2_with fail
  go_ret2
  exact ⟨rfl, HR.out, HK2.out⟩
theorem bstr_any (base b : Nat) (l : List UInt8) (w : World) (h : Bld w base b l) (hb : base ≤ w.heap.size) :
    Calls Try.prog 58 #[.pointer (some ⟨b, 0, none⟩)] w fun e w' => e = .returned (.string ⟨l.toArray⟩) ∧ Below b w w' := by
  obtain ⟨⟨p, v, h1, h2, h3⟩, h4⟩ := h
  refine Try.Builder_String_any b b l w ?_ (by omega)
  have hat : Lib.BuilderAt 89 5 b b p (Lib.byteCells l) w := by
    refine ⟨Nat.le_refl _, v, h1, ?_, fun e => ?_⟩
    · rw [show (Lib.byteCells l).length = l.length by simp [Lib.byteCells]]
      exact own_lower h3 (Nat.le_of_lt h4)
    · have := (h3.lt b e).1
      omega
  rcases h2 with rfl | rfl
  · exact .inl hat
  · exact .inr hat
end Go.Proofs.Ytkhejelmjkpgfaa

namespace Go.Proofs.Ytkhejelmjkpgfaa
open Go.RowKit
set_option maxRecDepth 4000

namespace Lz
/-- the best token so far -/
def bTok (c : UInt8) (b : Nat × Nat) : Tr := ⟨if b.1 = 0 then c else 0, b.1, b.2⟩
theorem bTok_tokAt (s : Bs) (p : Nat) : bTok (s.getD p 0) (bst s p (min 1024 p)) = (tokAt s p).raw := by
  have h := bst_is s p (min 1024 p)
  unfold bTok tokAt Tk.raw
  unfold bestAt
  by_cases e : (bst s p (min 1024 p)).1 = 0
  · rcases h with h | h
    · rw [h]; rfl
    · omega
  · rw [if_neg e, if_neg e]
theorem bTok_size (s : Bs) (p : Nat) : (tokAt s p).size = if (bst s p (min 1024 p)).1 = 0 then 1 else (bst s p (min 1024 p)).1 := by
  unfold tokAt Tk.size bestAt
  by_cases e : (bst s p (min 1024 p)).1 = 0
  · rw [if_pos e, if_pos e]; rfl
  · rw [if_neg e, if_neg e]
/-- the count goes on -/
def goes (s : Bs) (p d k : Nat) : Bool := decide (k < 255 ∧ p + k < s.length ∧ s[p + k]? = s[p + k - d]?)
end Lz
theorem byte_eq (a b : UInt8) : ((a.toNat : Int) == (b.toNat : Int)) = decide (a = b) := by
  by_cases h : a = b
  · subst h; simp
  · rw [decide_eq_false h, beq_eq_false_iff_ne]
    intro e
    exact h (UInt8.toNat_inj.1 (by omega))

set_option maxRecDepth 100000 in
set_option maxHeartbeats 2000000 in
theorem rgreedy_of (s : ByteArray) (w : World) (hs : s.size ≤ 4096) (L : List UInt8) (hL : L.length = s.size) (hby : ∀ k (h : k < s.size), L[k]? = some s[k]) :
    Calls Try.prog 78 #[.string s] w fun e w' => ∃ v, e = .returned v ∧ w'.ownsRow w.heap.size 131 3 v (Lz.restR L 0).length (rowC (Lz.restR L 0)) ∧ Below w.heap.size w w' := by
  have HL : Hid (L.length = s.size) := hL
  have HY : Hid (∀ k (h : k < s.size), L[k]? = some s[k]) := hby
  clear hL hby
  obtain ⟨i0, hi, hz0, hz1, hz2⟩ := info_parts info_tok
  go_enter Try.func78, Try.ntmps78
  go_wp2_with fail
  go_loopw [3, 4] (fun v i wr => ∃ (p : Nat) (out : List Lz.Tr), p ≤ s.size ∧ out.length ≤ p ∧ i = .int .i64 p ∧ Hid (out ++ Lz.restR L p = Lz.restR L 0) ∧ wr.ownsRow w.heap.size 131 3 v out.length (rowC out) ∧ Below w.heap.size w wr) (fun _ i _ => s.size - (intOf i).toNat)
  case atStart => exact ⟨0, [], by omega, by simp, rfl, rfl, World.ownsRow_nil _ _ _ _, Below.refl _ _⟩
  case round =>
    obtain ⟨p, out, hp, ho, rfl, hout, hown, hbel⟩ := hrel
    rename World => wo
    by_cases hlt : p < s.size
    · obtain ⟨q, hq⟩ : ∃ q : Nat, q = min 1024 p := ⟨_, rfl⟩
      have HQ : Hid (q = min 1024 p) := hq
      have hq1 : q ≤ p := by omega
      clear hq
      have hsr := hbel.size
      generalize hc : s[p] = c
      have HC : Hid (L.getD p 0 = c) := by show _ = _; rw [List.getD_eq_getElem?_getD, HY.out p hlt, hc]; rfl
      obtain ⟨W4, hW4⟩ : ∃ W4, W4 = wo.alloc (.cells #[.int .u8 c.toNat, .int .i64 0, .int .i64 0] 131) := ⟨_, rfl⟩
      have X2 : Hid (Box W4 wo.heap.size (Lz.bTok c (Lz.bst L p 0))) := by rw [hW4]; exact Box.new wo ⟨c, 0, 0⟩
      have XB : Hid (Below wo.heap.size wo W4) := by rw [hW4]; exact (Below.refl _ wo).alloc (Nat.le_refl _) _
      go_wp2_with fail
      rw [← hW4]
      clear hW4
      go_loopw [6] (fun i wr2 => ∃ D : Nat, D ≤ q ∧ i = .int .i64 ((D : Int) + 1) ∧ Hid (Box wr2 wo.heap.size (Lz.bTok c (Lz.bst L p D))) ∧ Below wo.heap.size wo wr2) (fun i _ => q + 1 - (intOf i).toNat)
      case atStart => exact ⟨0, by omega, rfl, X2, XB.out⟩
      case round =>
        obtain ⟨D, hD, rfl, hx2, hbel2⟩ := hrel
        rename World => wp
        obtain ⟨b0, hb0⟩ : ∃ b, b = decide (D < q) := ⟨_, rfl⟩
        have HB0 : Hid (b0 = decide (D < q)) := hb0
        clear hb0
        go_upto_region 6 with fail
        go_cut [22] from 16 to 58 (fun x wx => x = .bool b0 ∧ wx = wp)
        case first =>
          go_wp2_with fail
          all_goals go_meet
          all_goals exact ⟨by rw [HB0.out]; first | exact congrArg Value.bool (decide_eq_decide.2 (by have := HQ.out; omega)) | exact congrArg Value.bool (decide_eq_false (by have := HQ.out; omega)).symm | exact congrArg Value.bool (decide_eq_true (by have := HQ.out; omega)).symm, rfl⟩
        case rest =>
        obtain ⟨rfl, rfl⟩ := hcut
        rename World => wd
        cases b0 with
        | true =>
          have hDq := of_decide_eq_true HB0.out.symm
          clear HB0
          go_wp2_with fail
          go_loopw [7] (fun n wr3 => ∃ k : Nat, k ≤ 255 ∧ p + k ≤ s.size ∧ n = .int .i64 k ∧ Hid (Lz.M L p (D + 1) k) ∧ Below wd.heap.size wd wr3) (fun n _ => 255 - (intOf n).toNat)
          case atStart => exact ⟨0, by omega, by omega, rfl, Lz.M.none (by rw [HL.out]; exact hp), Below.refl _ _⟩
          case round =>
            obtain ⟨k, hk, hpk, rfl, hM, hbel3⟩ := hrel
            rename World => wq
            obtain ⟨b, hb⟩ : ∃ b, b = Lz.goes L p (D + 1) k := ⟨_, rfl⟩
            have HB : Hid (b = Lz.goes L p (D + 1) k) := hb
            clear hb
            go_upto_region 9 with fail
            go_cut [49] from 25 to 51 (fun x wx => x = .bool b ∧ Below wd.heap.size wd wx)
            case first =>
              have hne : Nonempty (Since wq.heap.size wq) := ⟨⟨wq, Below.refl _ _⟩⟩
              by_cases h1 : k < 255
              · have e1 : decide ((k : Int) < 255) = true := by rw [decide_eq_true_eq]; omega
                by_cases h2 : p + k < s.size
                · have e2 : decide ((p : Int) + (k : Int) < (s.size : Int)) = true := by rw [decide_eq_true_eq]; omega
                  obtain ⟨m, hm⟩ : ∃ m, m = p + k - (D + 1) := ⟨_, rfl⟩
                  have hb2 : m < s.size := by omega
                  have G1 := HY.out (p + k) h2
                  have G2 := HY.out m hb2
                  have HG : Hid (b = decide (s[p + k] = s[m])) := by
                    show _ = _
                    rw [HB.out]
                    unfold Lz.goes
                    rw [← hm, G1, G2]
                    exact decide_eq_decide.2 ⟨fun h => by simpa using h.2.2, fun h => ⟨h1, by rw [HL.out]; exact h2, by rw [h]⟩⟩
                  have i1 : (0 : Int) ≤ (p : Int) + (k : Int) := by omega
                  have i2 : (p : Int) + (k : Int) < (s.size : Int) := by omega
                  have i3 : (p : Int) + (k : Int) - ((D : Int) + 1) = (m : Int) := by omega
                  have e3 := byte_eq s[p + k] s[m]
                  rw [← HG.out] at e3
                  clear G1 G2 hm
                  refine wp_region_since (B := wq.heap.size) (W0 := wq) (by kernel_rfl) (by kernel_rfl) (Below.refl _ _) ?_
                  repeat (go_big_quiet_step (fail))
                  refine wpQuiet_nil ?_
                  rintro w7 ⟨U, rfl⟩
                  have hU := hbel3.trans (U.property.mono hbel3.size)
                  go_wp2_with fail
                  go_meet
                  exact ⟨rfl, hU⟩
                · have e2 : decide ((p : Int) + (k : Int) < (s.size : Int)) = false := by rw [decide_eq_false_iff_not]; omega
                  obtain rfl : b = false := by rw [HB.out]; exact decide_eq_false fun h => h2 (by rw [← HL.out]; exact h.2.1)
                  refine wp_region_since (B := wq.heap.size) (W0 := wq) (by kernel_rfl) (by kernel_rfl) (Below.refl _ _) ?_
                  repeat (go_big_quiet_step (fail))
                  refine wpQuiet_nil ?_
                  rintro w7 ⟨U, rfl⟩
                  have hU := hbel3.trans (U.property.mono hbel3.size)
                  go_wp2_with fail
                  go_meet
                  exact ⟨rfl, hU⟩
              · have e1 : decide ((k : Int) < 255) = false := by rw [decide_eq_false_iff_not]; omega
                obtain rfl : b = false := by rw [HB.out]; exact decide_eq_false fun h => h1 h.1
                refine wp_region_since (B := wq.heap.size) (W0 := wq) (by kernel_rfl) (by kernel_rfl) (Below.refl _ _) ?_
                repeat (go_big_quiet_step (fail))
                refine wpQuiet_nil ?_
                rintro w7 ⟨U, rfl⟩
                have hU := hbel3.trans (U.property.mono hbel3.size)
                go_wp2_with fail
                go_meet
                exact ⟨rfl, hU⟩
            case rest =>
            obtain ⟨rfl, hbel4⟩ := hcut
            clear hbel3
            cases b with
            | true =>
              have hg := of_decide_eq_true HB.out.symm
              have HM : Hid (Lz.M L p (D + 1) (k + 1)) := hM.out.succ hg.2.1 hg.2.2
              have hg1 := hg.1
              have hg2 : p + k < s.size := by rw [← HL.out]; exact hg.2.1
              clear hg
              go_wp2_with fail
              go_roundw
              case rel => exact ⟨k + 1, by omega, by omega, by go_num, HM, hbel4⟩
              case measure => simp only [intOf]; omega
            | false =>
              have HK : Hid (k = Lz.ml L p (D + 1) 255) := Lz.ml_stop (by rw [HL.out]; exact hp) hk hM.out (of_decide_eq_false HB.out.symm)
              have HBS : Hid (Lz.bst L p (D + 1) = if (Lz.bst L p D).1 < k then (k, D + 1) else Lz.bst L p D) := by rw [HK.out]; rfl
              generalize hbd : Lz.bst L p D = bd at *
              have hlw := hx2.out.lt
              have HY2 : Hid (Box wc wo.heap.size (Lz.bTok c bd)) := hx2.out.below hbel4 hlw
              have HB2 : Hid (Below wo.heap.size wo wc) := hbel2.trans (hbel4.mono hbel2.size)
              have c0 := HY2.out.c0
              have c1 : wc.cell? ⟨wo.heap.size, 1, none⟩ = some (.int .i64 bd.1) := HY2.out.c1
              have c2 := HY2.out.c2
              have f0 := HY2.out.f0
              have f1 := HY2.out.f1
              have f2 := HY2.out.f2
              clear hx2 hbel4 hbel2 hM HB HK
              by_cases hgt : bd.1 < k
              · rw [if_pos hgt] at HBS
                have HN : Hid (Box (((wc.setCell ⟨wo.heap.size, 0, none⟩ (.int .u8 0)).setCell ⟨wo.heap.size, 1, none⟩ (.int .i64 k)).setCell ⟨wo.heap.size, 2, none⟩ (.int .i64 ((D : Int) + 1))) wo.heap.size ⟨0, (k : Int), (D : Int) + 1⟩) := HY2.out.store (u := ⟨0, (k : Int), (D : Int) + 1⟩)
                have HT : Hid (Lz.bTok c (k, D + 1) = ⟨0, (k : Int), (D : Int) + 1⟩) := by
                  show Lz.Tr.mk (if k = 0 then c else 0) _ _ = _
                  rw [if_neg (by omega)]; rfl
                go_wp2_with fail
                refine ⟨⟨D + 1, by omega, int_eq (by omega), ?_, ?_⟩, by simp only [intOf]; omega⟩
                · rw [HBS.out, HT.out]; exact HN.out
                · exact ((HB2.out.setCell (by simp) _).setCell (by simp) _).setCell (by simp) _
              · rw [if_neg hgt] at HBS
                go_wp2_with fail
                go_roundw
                case rel => exact ⟨D + 1, by omega, by go_num, by rw [HBS.out]; exact HY2, HB2.out⟩
                case measure => simp only [intOf]; omega
        | false =>
          have hDq := of_decide_eq_false HB0.out.symm
          obtain rfl : D = q := by omega
          clear HB0
          have HT : Hid (Lz.bTok c (Lz.bst L p D) = (Lz.tokAt L p).raw) := by
            show _ = _
            rw [← HC.out, HQ.out]; exact Lz.bTok_tokAt L p
          have hlp : p < L.length := by rw [HL.out]; exact hlt
          have HZ : Hid ((Lz.tokAt L p).size = if (Lz.bst L p D).1 = 0 then 1 else (Lz.bst L p D).1) := by rw [HQ.out]; exact Lz.bTok_size L p
          have hfs : p + (Lz.tokAt L p).size ≤ s.size := by rw [← HL.out]; exact (Lz.fits_tokAt hlp).size
          have HRp : Hid (Lz.restR L p = (Lz.tokAt L p).raw :: Lz.restR L (p + (Lz.tokAt L p).size)) := by
            show (Lz.rest _ _).map _ = _
            rw [Lz.rest_step _ _ hlp]; rfl
          have HX2 : Hid (Box wd wo.heap.size ⟨(Lz.bTok c (Lz.bst L p D)).lit, (Lz.bst L p D).1, (Lz.bst L p D).2⟩) := hx2
          have HTT : Hid (Lz.Tr.mk (Lz.bTok c (Lz.bst L p D)).lit (Lz.bst L p D).1 (Lz.bst L p D).2 = (Lz.tokAt L p).raw) := HT.out
          generalize (Lz.bTok c (Lz.bst L p D)).lit = l0 at *
          generalize Lz.bst L p D = bd at *
          generalize (Lz.tokAt L p).raw = t at *
          generalize hzz : (Lz.tokAt L p).size = z at *
          have HLO : Hid (∀ k, u3.ownBlock = some k → k < wo.heap.size) := fun k hk => (hown.lt k hk).2
          have hown2 : wd.ownsRow w.heap.size 131 3 u3 out.length (rowC out) := own_below hown hbel2
          have hB2 := hbel.trans (hbel2.mono hbel.size)
          have hs2 := hB2.size
          have hlw := HX2.out.lt
          have c0 := HX2.out.c0
          have c1 := HX2.out.c1
          have c2 := HX2.out.c2
          clear hx2 hown hbel hbel2 hlp hzz
          go_wp2_with (at_builtin; refine wpList_append_own _ rfl (.tmp 59) (.tmp 61) 97 rfl w.heap.size 131 i0 (.agg #[.int .u8 0, .int .i64 0, .int .i64 0]) 3 24 Try.underlying97 hi hz0 hz1 hz2 rfl (by decide) _ _ _ rfl (hown2.alloc _) ⟨wd.heap.size, 0, none⟩ 1 1 (tokC ⟨l0, bd.1, bd.2⟩) rfl rfl ?c1 ?c2 ?c3 ?c4 ?c5 ?_)
          case c1 =>
            intro j u hj
            match j, hj with
            | 0, hj => simp [tokC] at hj; subst hj; simp
            | 1, hj => simp [tokC] at hj; subst hj; simp
            | 2, hj => simp [tokC] at hj; subst hj; simp
          case c2 => intro u hu; simp [tokC] at hu; rcases hu with rfl | rfl | rfl <;> rfl
          case c3 => unfold maxLen; omega
          case c4 => omega
          case c5 => omega
          intro v' w4 hown4 hgrow _
          have hne : some wo.heap.size ≠ u3.ownBlock := fun e => by have := HLO.out _ e.symm; omega
          have x1 : w4.cell? ⟨wo.heap.size, 1, none⟩ = some (.int .i64 bd.1) := hgrow.cell ((((Below.refl _ wd).alloc (Nat.le_refl _) _).cell (p := ⟨wo.heap.size, 1, none⟩) hlw).trans c1) hne
          have HB4 : Hid (Below w.heap.size w w4) := (hB2.alloc hs2 _).grown hgrow (by simp; omega) fun k hk => (hown2.lt k hk).1
          have HO4 : Hid (w4.ownsRow w.heap.size 131 3 v' (out ++ [t]).length (rowC (out ++ [t]))) := by
            rw [HTT.out] at hown4
            exact own_tok hown4
          have HOU : Hid ((out ++ [t]) ++ Lz.restR L (p + z) = Lz.restR L 0) := by
            show _ = _
            rw [← hout.out, HRp.out]
            simp
          clear hown4 hgrow hown2 hB2 hne c0 c1 c2 HX2 HTT
          by_cases hzero : bd.1 = 0
          · have hq0 : ((bd.1 : Int) == 0) = true := by rw [hzero]; rfl
            have hz1 : z = 1 := by have := HZ.out; rw [if_pos hzero] at this; exact this
            rw [hz1] at HOU hfs
            clear hzero
            go_wp2_with fail
            go_roundw
            case rel => exact ⟨p + 1, out ++ [t], hfs, by simp; omega, by go_num, HOU, HO4.out, HB4.out⟩
            case measure => simp only [intOf]; omega
          · have hq0 : ((bd.1 : Int) == 0) = false := by rw [beq_eq_false_iff_ne]; omega
            have hz1 : z = bd.1 := by have := HZ.out; rw [if_neg hzero] at this; exact this
            rw [hz1] at HOU hfs
            go_wp2_with fail
            go_roundw
            case rel => exact ⟨p + bd.1, out ++ [t], hfs, by simp; omega, by go_num, HOU, HO4.out, HB4.out⟩
            case measure => simp only [intOf]; omega
    · have HE : Hid (out = Lz.restR L 0) := by
        show _ = _
        have h0 : Lz.restR L p = [] := by
          show (Lz.rest _ _).map _ = _
          rw [Lz.rest_end _ _ (by rw [HL.out]; omega)]; rfl
        rw [← hout.out, h0, List.append_nil]
      rw [HE.out] at hown
      clear HE hout
      go_wp2_with fail
      go_ret
      exact ⟨_, rfl, hown, hbel⟩
theorem rgreedy_any (s : ByteArray) (w : World) (hs : s.size ≤ 4096) :
    Calls Try.prog 78 #[.string s] w fun e w' => ∃ v, e = .returned v ∧ w'.ownsRow w.heap.size 131 3 v (Lz.greedyR s.data.toList).length (rowC (Lz.greedyR s.data.toList)) ∧ Below w.heap.size w w' :=
  rgreedy_of s w hs s.data.toList (Lib.size_eq s).symm (byte_get s)
end Go.Proofs.Ytkhejelmjkpgfaa

namespace Go.Proofs.Ytkhejelmjkpgfaa
open Go.RowKit
set_option maxRecDepth 4000

theorem own_cells (w : World) (l : List UInt8) (hl : l.length ≤ 1000) : (w.alloc (.cells (l.map B).toArray 5)).ownsRow w.heap.size 5 1 (.slice (some ⟨w.heap.size, 0, none⟩) l.length l.length) l.length (l.map B) :=
  ⟨by simp, .inr ⟨w.heap.size, l.length, (l.map B).toArray, rfl, Nat.le_refl _, heap_alloc_new w _, Nat.le_refl _, by unfold maxLen; omega, by simp, by simp [List.take_of_length_le]⟩⟩
theorem str_one (w : World) (b : UInt8) : (convert 51 9 (.slice (some ⟨w.heap.size, 0, none⟩) 1 1)).run Try.prog (w.alloc (.cells #[.int .u8 b.toNat] 5)) = .ok (.string ⟨#[b]⟩) (w.alloc (.cells #[.int .u8 b.toNat] 5)) :=
  run_str (own_cells w [b] (by simp))
theorem str_two (w : World) (a b : UInt8) : (convert 51 9 (.slice (some ⟨w.heap.size, 0, none⟩) 2 2)).run Try.prog (w.alloc (.cells #[.int .u8 a.toNat, .int .u8 b.toNat] 5)) = .ok (.string ⟨#[a, b]⟩) (w.alloc (.cells #[.int .u8 a.toNat, .int .u8 b.toNat] 5)) :=
  run_str (own_cells w [a, b] (by simp))
theorem str_three (w : World) (a b c : UInt8) : (convert 51 9 (.slice (some ⟨w.heap.size, 0, none⟩) 3 3)).run Try.prog (w.alloc (.cells #[.int .u8 a.toNat, .int .u8 b.toNat, .int .u8 c.toNat] 5)) = .ok (.string ⟨#[a, b, c]⟩) (w.alloc (.cells #[.int .u8 a.toNat, .int .u8 b.toNat, .int .u8 c.toNat] 5)) :=
  run_str (own_cells w [a, b, c] (by simp))

set_option maxHeartbeats 1000000 in
theorem text_any (t : Lz.Tk) (w : World) (hg : Lz.Good t) :
    Calls Try.prog 110 #[tokV t.raw] w fun e w' => e = .returned (.string ⟨t.text.toArray⟩) ∧ Below w.heap.size w w' := by
  obtain ⟨b, n, d⟩ := t
  unfold tokV
  dsimp only [Lz.Tk.raw]
  by_cases hn : n = 0
  · subst hn
    have hs := str_two (w.alloc (.cells #[.int .u8 b.toNat, .int .i64 0, .int .i64 d] 131)) 0 b
    rw [show ((0 : UInt8).toNat : Int) = 0 from rfl, World.size_alloc] at hs
    go_enter Try.func110, Try.ntmps110
    go_wp2_with fail
    go_ret
    exact ⟨rfl, ((Below.refl _ w).alloc (Nat.le_refl _) _).alloc (by simp) _⟩
  · have hg : n ≤ 255 ∧ 1 ≤ d ∧ d ≤ 1024 := by rcases hg with ⟨h1, _⟩ | ⟨_, _, h1, h2, h3⟩ <;> dsimp only at * <;> omega
    obtain ⟨g1, g2, g3⟩ := hg
    have hs := str_three (w.alloc (.cells #[.int .u8 b.toNat, .int .i64 n, .int .i64 d] 131)) (UInt8.ofNat n) (UInt8.ofNat (d % 256)) (UInt8.ofNat (d / 256))
    rw [show ((UInt8.ofNat n).toNat : Int) = n from by simp; omega, show ((UInt8.ofNat (d % 256)).toNat : Int) = (d : Int) % 256 from by simp, show ((UInt8.ofNat (d / 256)).toNat : Int) = (d : Int) / 256 from by simp; omega, World.size_alloc] at hs
    have hq : ((n : Int) == 0) = false := by rw [beq_eq_false_iff_ne]; omega
    have HT : Hid ((Lz.Tk.mk b n d).text = [UInt8.ofNat n, UInt8.ofNat (d % 256), UInt8.ofNat (d / 256)]) := if_neg hn
    have r1 : Int.tmod (d : Int) 256 = (d : Int) % 256 := Int.tmod_eq_emod_of_nonneg (by omega)
    have r2 : Int.tdiv (d : Int) 256 = (d : Int) / 256 := Int.tdiv_eq_ediv_of_nonneg (by omega)
    generalize (Lz.Tk.mk b n d).text = T at *
    clear hn
    go_enter Try.func110, Try.ntmps110
    go_wp2_with fail
    go_ret
    exact ⟨by rw [HT.out]; rfl, ((Below.refl _ w).alloc (Nat.le_refl _) _).alloc (by simp) _⟩
set_option maxHeartbeats 1000000 in
theorem texts_in (v : Value) (l : List Lz.Tr) (F : Nat → List UInt8) (w : World) (h : Toks w v l) (hc : Lz.chk l = 0) (hF0 : F 0 = [])
    (hF : ∀ k (h : k < l.length), F (k + 1) = F k ++ l[k].tok.text) (hFl : ∀ k, k ≤ l.length → (F k).length ≤ 3 * k) :
    Calls Try.prog 77 #[v] w fun e w' => e = .returned (.string ⟨(F l.length).toArray⟩) ∧ Below w.heap.size w w' := by
  obtain ⟨hl, hf⟩ := Lz.chk_zero hc
  have HF : Hid (∀ t ∈ l, t.form) := hf
  have HF0 : Hid (F 0 = []) := hF0
  have HFS : Hid (∀ k (h : k < l.length), F (k + 1) = F k ++ l[k].tok.text) := hF
  have HFL : Hid (∀ k, k ≤ l.length → (F k).length ≤ 3 * k) := hFl
  have HT : Hid (Toks w v l) := h
  obtain ⟨a, c, rfl⟩ := h.slice
  clear hf hc h hF0 hF hFl
  go_enter Try.func77, Try.ntmps77
  go_wp2_with fail
  go_loopw [3, 8] (fun v i wr => ∃ (k : Nat), k ≤ l.length ∧ i = .int .i64 k ∧ v = .string ⟨(F k).toArray⟩ ∧ Below w.heap.size w wr) (fun _ i _ => l.length - (intOf i).toNat)
  case atStart => exact ⟨0, by omega, rfl, by rw [HF0.out], Below.refl _ _⟩
  case round =>
    obtain ⟨k, hkl, rfl, rfl, hbel⟩ := hrel
    have hFk := HFL.out k hkl
    by_cases hlt : k < l.length
    · obtain ⟨bk, o, rfl, _, hbk, c0, c1, c2⟩ := (HT.out.below (Nat.le_refl _) hbel).get k hlt
      obtain ⟨hraw, hgood⟩ := Lz.Tr.tok_raw (HF.out l[k] (List.getElem_mem hlt))
      have HE : Hid (F (k + 1) = F k ++ l[k].tok.text) := HFS.out k hlt
      generalize l[k] = t at *
      generalize t.tok = u at *
      subst hraw
      have hte := fun V => text_any u V hgood
      have htl := Lz.text_length u
      generalize u.text = tx at *
      obtain ⟨b, n, d⟩ := u
      unfold tokV at hte
      dsimp only [Lz.Tk.raw] at c0 c1 c2 hte
      generalize hFe : F k = out at *
      have hbs := hbel.size
      have hcat : ∀ W : World, (Op.stringOp .add ⟨out.toArray⟩ ⟨tx.toArray⟩).run Try.prog W = .ok (.string ⟨(out ++ tx).toArray⟩) W := fun W => run_string_add_lists W _ _ (by omega) (by omega)
      clear hFe
      go_wp2_with fail
      refine (hte _).mono ?_
      rintro e w2 ⟨rfl, hb2⟩
      have HB2 : Hid (Below w.heap.size w w2) := (hbel.alloc hbs _).trans (hb2.mono (by simp; omega))
      clear hte hb2 hbel c0 c1 c2
      go_wp2_with fail
      go_roundw
      case rel => exact ⟨k + 1, by omega, by go_num, by rw [HE.out], HB2.out⟩
      case measure => simp only [intOf]; omega
    · obtain rfl : k = l.length := by omega
      go_wp2_with fail
      go_ret
      exact ⟨rfl, hbel⟩
theorem texts_any (v : Value) (l : List Lz.Tr) (w : World) (h : Toks w v l) (hc : Lz.chk l = 0) :
    Calls Try.prog 77 #[v] w fun e w' => e = .returned (.string ⟨(Lz.packd l).toArray⟩) ∧ Below w.heap.size w w' := by
  unfold Lz.packd
  rw [if_pos hc]
  have := texts_in v l (fun k => Lz.pack ((l.take k).map Lz.Tr.tok)) w h hc rfl (fun k hk => ?_) (fun k hk => ?_)
  · rw [List.take_length] at this
    exact this
  · show Lz.pack _ = Lz.pack _ ++ _
    rw [List.take_succ_eq_append_getElem hk, List.map_append, ← Lz.pack_snoc]
    rfl
  · refine Nat.le_trans (Lz.pack_length _) ?_
    rw [List.length_map, List.length_take]
    omega
end Go.Proofs.Ytkhejelmjkpgfaa

namespace Go.Proofs.Ytkhejelmjkpgfaa
open Go.RowKit
set_option maxRecDepth 4000

set_option maxHeartbeats 1000000 in
theorem has_any (v : Value) (s : List Nat) (n : Nat) (w : World) (h : Ints w v (Hf.up s)) (hs : s.length ≤ 256) :
    Calls Try.prog 112 #[v, .int .i64 n] w fun e w' => e = .returned (.bool (decide (n ∈ s))) ∧ w' = w := by
  obtain ⟨a, c, rfl⟩ := h.slice
  rw [Hf.up_length] at h ⊢
  go_enter Try.func112, Try.ntmps112
  go_wp2_with fail
  go_loop [9] (fun i => ∃ k : Nat, k ≤ s.length ∧ i = .int .i64 k ∧ Hid (n ∉ s.take k)) (fun i => s.length - (intOf i).toNat)
  case atStart => exact ⟨0, by omega, rfl, (show n ∉ s.take 0 from by simp)⟩
  case round =>
    obtain ⟨k, hk, rfl, hno⟩ := hrel
    by_cases hlt : k < s.length
    · obtain ⟨bk, o, rfl, hbk, c0⟩ := h.getN k hlt
      have hg : s.getD k 0 = s[k] := by rw [List.getD_eq_getElem?_getD, List.getElem?_eq_getElem hlt]; rfl
      by_cases he : s.getD k 0 = n
      · have HD : Hid (decide (n ∈ s) = true) := decide_eq_true (by rw [← he, hg]; exact List.getElem_mem hlt)
        have hb : ((s.getD k 0 : Int) == (n : Int)) = true := by rw [he]; simp
        clear he hg h
        generalize s.getD k 0 = x at *
        go_wp2_with fail
        go_ret
        exact ⟨by rw [HD.out]; rfl, rfl⟩
      · have hb : ((s.getD k 0 : Int) == (n : Int)) = false := by simp; simp at he; omega
        have HN : Hid (n ∉ s.take (k + 1)) := by
          rw [List.take_succ_eq_append_getElem hlt]
          intro hm
          rcases List.mem_append.1 hm with hm | hm
          · exact hno.out hm
          · rw [hg] at he
            exact he (List.mem_singleton.1 hm).symm
        clear he hg
        generalize s.getD k 0 = x at *
        go_wp2_with fail
        go_round
        case rel => exact ⟨k + 1, by omega, by go_num, HN⟩
        case measure => simp only [intOf]; omega
    · have HD : Hid (decide (n ∈ s) = false) := decide_eq_false (by have := hno.out; rwa [List.take_of_length_le (by omega)] at this)
      go_wp2_with fail
      go_ret
      exact ⟨by rw [HD.out]; rfl, rfl⟩

theorem own_kept' {p : Nat → Prop} {base : Nat} {e : TypeId} {k : Nat} {v : Value} {n : Nat} {xs : List Value} {w w' : World} (h : w.ownsRow base e k v n xs) (hk : Kept p w w') (hp : ∀ g, base ≤ g → p g) : w'.ownsRow base e k v n xs := by
  obtain ⟨h1, h2⟩ := h
  refine ⟨h1, ?_⟩
  rcases h2 with h2 | ⟨g, cap, cur, hv, hg, hh, r⟩
  · exact .inl h2
  · refine .inr ⟨g, cap, cur, hv, hg, ?_, r⟩
    rw [hk.block g (Array.getElem?_eq_some_iff.1 hh).1 (hp g hg), hh]
def bC (g : Hf.G) : List Value := [.int .i64 g.wt, g.sv]
def rowB (l : List Hf.G) : List Value := l.flatMap bC
theorem rowB_length (l : List Hf.G) : (rowB l).length = 2 * l.length := by
  induction l with
  | nil => rfl
  | cons t l ih => show (bC t ++ rowB l).length = _; rw [List.length_append, ih, List.length_cons]; simp [bC]; omega
theorem rowB_more (l : List Hf.G) (t : Hf.G) : rowB (l ++ [t]) = rowB l ++ bC t := by simp [rowB]
theorem rowB_get (l : List Hf.G) (i r : Nat) (hi : i < l.length) (hr : r < 2) : (rowB l)[2 * i + r]? = (bC (Hf.nth l i))[r]? := by
  rw [Hf.nth_get hi]
  induction l generalizing i with
  | nil => simp at hi
  | cons t l ih =>
    show (bC t ++ rowB l)[2 * i + r]? = _
    cases i with
    | zero => rw [List.getElem?_append_left (by simp [bC]; omega)]; simp
    | succ i =>
      rw [List.getElem?_append_right (by simp [bC]; omega), show 2 * (i + 1) + r - (bC t).length = 2 * i + r from by simp [bC]; omega, ih i (by simpa using hi)]
      rfl
/-- a list of bunches v, each with its signs in a row of their own, the least one first -/
structure Bun (W : World) (base : Nat) (v : Value) (l : List Hf.G) : Prop where
  row : W.ownsRow base 153 2 v l.length (rowB l)
  signs : ∀ g ∈ l, W.ownsRow base 3 1 g.sv g.sg.length ((Hf.up g.sg).map Iv)
  low : ∀ g ∈ l, 1 ≤ g.sg.length ∧ g.sg.getD 0 0 = g.low
theorem Bun.keep {W W' : World} {base : Nat} {v : Value} {l : List Hf.G} (h : Bun W base v l) (hb : Below W.heap.size W W') : Bun W' base v l :=
  ⟨row_below h.row hb, fun g hg => row_below (h.signs g hg) hb, h.low⟩
theorem Bun.slice {W : World} {base : Nat} {v : Value} {l : List Hf.G} (h : Bun W base v l) (hl : 0 < l.length) : ∃ g c, v = .slice (some ⟨g, 0, none⟩) l.length c := by
  rcases h.row.2 with ⟨_, h0⟩ | ⟨g, cap, cur, rfl, _⟩
  · omega
  · exact ⟨_, _, rfl⟩
/-- the signs of one of them: their slice, and the first one -/
theorem Bun.sign {W : World} {base : Nat} {v : Value} {l : List Hf.G} (h : Bun W base v l) {x : Hf.G} (hx : x ∈ l) : ∃ b c, x.sv = .slice (some ⟨b, 0, none⟩) x.sg.length c ∧ b < W.heap.size ∧ W.cell? ⟨b, 0, none⟩ = some (.int .i64 x.low) := by
  have hs := h.signs x hx
  obtain ⟨h1, h2⟩ := h.low x hx
  rcases hs.2 with ⟨_, h0⟩ | ⟨b, cap, cur, e, _, hh, _⟩
  · omega
  · refine ⟨b, cap, e, (Array.getElem?_eq_some_iff.1 hh).1, ?_⟩
    rw [e] at hs
    have := own_at hs 0 (by rw [Hf.up_length]; exact h1)
    rw [Hf.up_get, h2] at this
    exact this
theorem Bun.at_ {W : World} {base g n c : Nat} {l : List Hf.G} (h : Bun W base (.slice (some ⟨g, 0, none⟩) n c) l) (hn : n = l.length) (i : Nat) (hi : i < l.length) :
    W.cell? ⟨g, i * 2, none⟩ = some (.int .i64 (Hf.nth l i).wt) ∧ W.cell? ⟨g, i * 2 + 1, none⟩ = some (Hf.nth l i).sv ∧ g < W.heap.size := by
  subst hn
  have e := fun r (hr : r < 2) => (h.row.cellAt (2 * i + r) (by omega)).trans (rowB_get l i r hi hr)
  have e0 := e 0 (by omega)
  have e1 := e 1 (by omega)
  rw [show 2 * i = i * 2 from by omega] at e0 e1
  refine ⟨e0, e1, ?_⟩
  rcases h.row.2 with ⟨h1, _⟩ | ⟨g', cap, cur, h1, _, hh, _⟩
  · simp at h1
  · simp at h1
    rw [h1.1]
    exact (Array.getElem?_eq_some_iff.1 hh).1
namespace Hf
/-- which one of the first i comes first -/
def amin (l : List G) : Nat → Nat
  | 0 => 0
  | i + 1 => if ltG (nth l i) (nth l (amin l i)) = true then i else amin l i
theorem amin_le (l : List G) (i : Nat) : amin l i ≤ i := by
  induction i with
  | zero => exact Nat.le_refl _
  | succ i ih => unfold amin; split <;> omega
theorem amin_lt (l : List G) (i : Nat) (h : 0 < i) : amin l i < i := by
  cases i with
  | zero => omega
  | succ i => unfold amin; have := amin_le l i; split <;> omega
theorem amin_first (l : List G) (i : Nat) : ∀ j, j < i → ltG (nth l j) (nth l (amin l i)) = false := by
  induction i with
  | zero => intro j h; omega
  | succ i ih =>
    intro j hj
    unfold amin
    by_cases h : ltG (nth l i) (nth l (amin l i)) = true
    · rw [if_pos h]
      by_cases e : j = i
      · subst e; exact ge_refl _
      · exact ge_trans (lt_ge h) (ih j (by omega))
    · rw [if_neg h]
      by_cases e : j = i
      · subst e; exact Bool.eq_false_iff.2 h
      · exact ih j (by omega)
theorem amin_mem (l : List G) : ∀ c ∈ l, ltG c (nth l (amin l l.length)) = false := by
  intro c hc
  obtain ⟨i, hi, rfl⟩ := List.getElem_of_mem hc
  rw [← nth_get hi]
  exact amin_first l l.length i hi
/-- the first i of them, without the k-th -/
def rest (l : List G) (k i : Nat) : List G := (l.take i).eraseIdx k
theorem rest_skip (l : List G) (k : Nat) (hk : k < l.length) : rest l k (k + 1) = rest l k k := by
  unfold rest
  rw [List.take_succ_eq_append_getElem hk, List.eraseIdx_append_of_length_le (by rw [List.length_take]; omega), List.eraseIdx_of_length_le (l := l.take k) (by rw [List.length_take]; omega), List.length_take,
    show k - min k l.length = 0 by omega]
  simp
theorem rest_more (l : List G) (k i : Nat) (hi : i < l.length) (hne : i ≠ k) : rest l k (i + 1) = rest l k i ++ [nth l i] := by
  unfold rest
  rw [nth_get hi, List.take_succ_eq_append_getElem hi]
  by_cases h : k < i
  · rw [List.eraseIdx_append_of_lt_length (by rw [List.length_take]; omega)]
  · rw [List.eraseIdx_append_of_length_le (by rw [List.length_take]; omega)]
    rw [List.eraseIdx_of_length_le (l := l.take i) (by rw [List.length_take]; omega), List.eraseIdx_of_length_le (by rw [List.length_take]; simp; omega)]
theorem rest_length (l : List G) (k i : Nat) : (rest l k i).length ≤ i := by
  unfold rest
  have h1 := List.length_eraseIdx_le (l.take i) k
  rw [List.length_take] at h1
  omega
theorem rest_perm (l : List G) (k : Nat) (hk : k < l.length) : l.Perm (nth l k :: rest l k l.length) := by
  unfold rest
  rw [List.take_length, nth_get hk, List.eraseIdx_eq_take_drop_succ]
  conv => lhs; rw [← List.take_append_drop k l, List.drop_eq_getElem_cons hk]
  exact List.perm_middle
end Hf
/-- a bunch in a block of its own -/
structure BBox (W : World) (G : Nat) (x : Hf.G) : Prop where
  c0 : W.cell? ⟨G, 0, none⟩ = some (.int .i64 x.wt)
  c1 : W.cell? ⟨G, 1, none⟩ = some x.sv
  f0 : W.frozen? ⟨G, 0, none⟩ = false
  f1 : W.frozen? ⟨G, 1, none⟩ = false
  lt : G < W.heap.size
theorem BBox.new (w : World) (x : Hf.G) : BBox (w.alloc (.cells #[.int .i64 x.wt, x.sv] 153)) w.heap.size x := ⟨by simp, by simp, by simp, by simp, by simp⟩
theorem BBox.kept {p : Nat → Prop} {W W' : World} {G : Nat} {x : Hf.G} (h : BBox W G x) (hk : Kept p W W') (hp : p G) : BBox W' G x := by
  have e := hk.block G h.lt hp
  refine ⟨?_, ?_, ?_, ?_, Nat.lt_of_lt_of_le h.lt hk.size⟩
  · rw [World.cell?_of_block (a := ⟨G, 0, none⟩) e]; exact h.c0
  · rw [World.cell?_of_block (a := ⟨G, 1, none⟩) e]; exact h.c1
  · rw [World.frozen?_of_block (a := ⟨G, 0, none⟩) e]; exact h.f0
  · rw [World.frozen?_of_block (a := ⟨G, 1, none⟩) e]; exact h.f1
theorem BBox.below {W W' : World} {G B : Nat} {x : Hf.G} (h : BBox W G x) (hb : Below B W W') (hg : G < B) : BBox W' G x :=
  h.kept (p := fun k => k < B) ⟨hb.os, hb.tape, hb.output, hb.size, fun k _ hk => hb.block k hk⟩ hg
theorem info_bunch : (Try.prog.info? 153).map (fun i => (i.zero, i.size, i.bytes)) = some (some (.agg #[.int .i64 0, .slice none 0 0]), 2, 32) := by kernel_rfl
theorem Hf.amin_next (l : List Hf.G) (i : Nat) : Hf.amin l (i + 1) = if Hf.ltG (Hf.nth l i) (Hf.nth l (Hf.amin l i)) = true then i else Hf.amin l i := rfl
theorem two_at {W : World} {B : Nat} {x : Hf.G} (h0 : W.cell? ⟨B, 0, none⟩ = some (.int .i64 x.wt)) (h1 : W.cell? ⟨B, 1, none⟩ = some x.sv) : ∀ j u, (bC x)[j]? = some u → W.cell? ((⟨B, 0, none⟩ : Addr).add j) = some u := by
  intro j u hj
  rw [show ((⟨B, 0, none⟩ : Addr).add j) = ⟨B, j, none⟩ from by unfold Addr.add; split <;> simp_all]
  match j, hj with
  | 0, hj => rw [h0]; exact hj
  | 1, hj => rw [h1]; exact hj

set_option maxHeartbeats 4000000 in
theorem least_any (base : Nat) (v : Value) (l : List Hf.G) (w : World) (h : Bun w base v l) (hbase : base ≤ w.heap.size) (h0 : 0 < l.length) (hl : l.length ≤ 256) :
    Calls Try.prog 111 #[v] w fun e w' => ∃ v', e = .returned (.tuple #[.agg #[.int .i64 (Hf.nth l (Hf.amin l l.length)).wt, (Hf.nth l (Hf.amin l l.length)).sv], v']) ∧ Bun w' base v' (Hf.rest l (Hf.amin l l.length) l.length) ∧ (∀ b, v'.ownBlock = some b → w.heap.size ≤ b) ∧ Below w.heap.size w w' := by
  obtain ⟨i0, hi, hz0, hz1, hz2⟩ := info_parts info_bunch
  obtain ⟨g, c, rfl⟩ := h.slice h0
  obtain ⟨W1, hW1⟩ : ∃ W1, W1 = w.alloc (.cells #[.int .i64 0, .slice none 0 0] 153) := ⟨_, rfl⟩
  have HB1 : Hid (Below w.heap.size w W1) := by rw [hW1]; exact (Below.refl _ w).alloc (Nat.le_refl _) _
  have HX1 : Hid (BBox W1 w.heap.size Hf.G.z) := by rw [hW1]; exact BBox.new w Hf.G.z
  go_enter Try.func111, Try.ntmps111
  go_wp2_with fail
  rw [← hW1]
  clear hW1
  go_loopw [4, 12] (fun x y wr => ∃ i : Nat, i ≤ l.length ∧ y = .int .i64 i ∧ x = .int .i64 (Hf.amin l i : Nat) ∧ Hid (Below W1.heap.size W1 wr)) (fun _ y _ => l.length - (intOf y).toNat)
  case atStart => exact ⟨0, by omega, rfl, rfl, Below.refl _ _⟩
  case round =>
    obtain ⟨i, hil, rfl, rfl, hbel⟩ := hrel
    have hB : Below w.heap.size w wr := HB1.out.trans (hbel.out.mono HB1.out.size)
    by_cases hlt : i < l.length
    · have hk := Hf.amin_le l i
      have HN : Hid (_) := Hf.amin_next l i
      have hh := h.keep hB
      obtain ⟨a0, a1, hg⟩ := hh.at_ rfl i hlt
      obtain ⟨b0, b1, _⟩ := hh.at_ rfl (Hf.amin l i) (by omega)
      obtain ⟨sb, sc, es, hsb, s0⟩ := hh.sign (Hf.nth_mem hlt)
      obtain ⟨tb, tc, et, htb, t0⟩ := hh.sign (Hf.nth_mem (show Hf.amin l i < l.length by omega))
      have hsl := (hh.low _ (Hf.nth_mem hlt)).1
      have htl := (hh.low _ (Hf.nth_mem (show Hf.amin l i < l.length by omega))).1
      generalize Hf.amin l i = k at *
      generalize Hf.nth l i = x at *
      generalize Hf.nth l k = y at *
      rw [es] at a1
      rw [et] at b1
      generalize x.sg.length = xn at *
      generalize y.sg.length = yn at *
      obtain ⟨W2, hW2⟩ : ∃ W2, W2 = wr.alloc (.cells #[.int .i64 x.wt, .slice (some ⟨sb, 0, none⟩) xn sc] 153) := ⟨_, rfl⟩
      have hb2 : Below wr.heap.size wr W2 := by rw [hW2]; exact (Below.refl _ _).alloc (Nat.le_refl _) _
      have x0 : ∀ X : Since W2.heap.size W2, X.val.cell? ⟨wr.heap.size, 0, none⟩ = some (.int .i64 (x.wt : Int)) := fun X => (X.property.cell (p := ⟨wr.heap.size, 0, none⟩) (by rw [hW2]; simp)).trans (by rw [hW2]; simp)
      have x1 : ∀ X : Since W2.heap.size W2, X.val.cell? ⟨wr.heap.size, 1, none⟩ = some (.slice (some ⟨sb, 0, none⟩) xn sc) := fun X => (X.property.cell (p := ⟨wr.heap.size, 1, none⟩) (by rw [hW2]; simp)).trans (by rw [hW2]; simp)
      have hz2' := hb2.size
      have y0 : ∀ X : Since W2.heap.size W2, X.val.cell? ⟨g, k * 2, none⟩ = some (.int .i64 (y.wt : Int)) := fun X => (X.property.cell (p := ⟨g, k * 2, none⟩) (by show g < _; omega)).trans ((hb2.cell (p := ⟨g, k * 2, none⟩) hg).trans b0)
      have y1 : ∀ X : Since W2.heap.size W2, X.val.cell? ⟨g, k * 2 + 1, none⟩ = some (.slice (some ⟨tb, 0, none⟩) yn tc) := fun X => (X.property.cell (p := ⟨g, k * 2 + 1, none⟩) (by show g < _; omega)).trans ((hb2.cell (p := ⟨g, k * 2 + 1, none⟩) hg).trans b1)
      have s1 : ∀ X : Since W2.heap.size W2, X.val.cell? ⟨sb, 0, none⟩ = some (.int .i64 (x.low : Int)) := fun X => (X.property.cell (p := ⟨sb, 0, none⟩) (by show sb < _; omega)).trans ((hb2.cell (p := ⟨sb, 0, none⟩) hsb).trans s0)
      have t1 : ∀ X : Since W2.heap.size W2, X.val.cell? ⟨tb, 0, none⟩ = some (.int .i64 (y.low : Int)) := fun X => (X.property.cell (p := ⟨tb, 0, none⟩) (by show tb < _; omega)).trans ((hb2.cell (p := ⟨tb, 0, none⟩) htb).trans t0)
      have hne : Nonempty (Since W2.heap.size W2) := ⟨⟨W2, Below.refl _ _⟩⟩
      have HB2 : Hid (Below W1.heap.size W1 W2) := hbel.out.trans (hb2.mono hbel.out.size)
      have hsl' : (0 : Int) < (xn : Int) := by omega
      have htl' : (0 : Int) < (yn : Int) := by omega
      clear hh es et hbel hB b0 b1 s0 t0 hb2 hz2'
      go_upto_region 5 with fail
      rw [← hW2]
      clear hW2 a0 a1
      refine wp_region_since (B := W2.heap.size) (W0 := W2) (by kernel_rfl) (by kernel_rfl) (Below.refl _ _) ?_
      by_cases hw : x.wt < y.wt
      · have HL : Hid (Hf.amin l (i + 1) = i) := HN.out.trans (if_pos (Hf.ltG_iff.2 (.inl hw)))
        clear HN
        repeat (go_big_quiet_step (fail))
        refine wpQuiet_nil ?_
        rintro w7 ⟨U, rfl⟩
        have HB3 : Hid (Below W1.heap.size W1 U.val) := HB2.out.trans (U.property.mono HB2.out.size)
        generalize U.val = w7 at *
        clear x0 x1 y0 y1 s1 t1 hne HB2
        go_wp2_with fail
        go_roundw
        case rel => exact ⟨i + 1, by omega, by go_num, by rw [HL.out], HB3⟩
        case measure => simp only [intOf]; omega
      · have q1 : decide ((x.wt : Int) < (y.wt : Int)) = false := decide_eq_false (by omega)
        have q2 : decide (x.wt < y.wt) = false := decide_eq_false hw
        by_cases he : x.wt = y.wt
        · have q3 : ((x.wt : Int) == (y.wt : Int)) = true := by rw [he]; simp
          have HE : Hid (x.wt = y.wt) := he
          clear he
          by_cases hlw : x.low < y.low
          · have HL : Hid (Hf.amin l (i + 1) = i) := HN.out.trans (if_pos (Hf.ltG_iff.2 (.inr ⟨HE.out, hlw⟩)))
            clear HN
            repeat (go_big_quiet_step (fail))
            refine wpQuiet_nil ?_
            rintro w7 ⟨U, rfl⟩
            have HB3 : Hid (Below W1.heap.size W1 U.val) := HB2.out.trans (U.property.mono HB2.out.size)
            generalize U.val = w7 at *
            clear x0 x1 y0 y1 s1 t1 hne HB2
            go_wp2_with fail
            go_roundw
            case rel => exact ⟨i + 1, by omega, by go_num, by rw [HL.out], HB3⟩
            case measure => simp only [intOf]; omega
          · have q4 : decide ((x.low : Int) < (y.low : Int)) = false := decide_eq_false (by omega)
            have q5 : decide (x.low < y.low) = false := decide_eq_false hlw
            have HL : Hid (Hf.amin l (i + 1) = k) := HN.out.trans (if_neg (fun e => by have := Hf.ltG_iff.1 e; omega))
            clear HN
            repeat (go_big_quiet_step (fail))
            refine wpQuiet_nil ?_
            rintro w7 ⟨U, rfl⟩
            have HB3 : Hid (Below W1.heap.size W1 U.val) := HB2.out.trans (U.property.mono HB2.out.size)
            generalize U.val = w7 at *
            clear x0 x1 y0 y1 s1 t1 hne HB2
            go_wp2_with fail
            go_roundw
            case rel => exact ⟨i + 1, by omega, by go_num, by rw [HL.out], HB3⟩
            case measure => simp only [intOf]; omega
        · have q3 : ((x.wt : Int) == (y.wt : Int)) = false := by simp; omega
          have HL : Hid (Hf.amin l (i + 1) = k) := HN.out.trans (if_neg (fun e => by have := Hf.ltG_iff.1 e; omega))
          clear HN
          repeat (go_big_quiet_step (fail))
          refine wpQuiet_nil ?_
          rintro w7 ⟨U, rfl⟩
          have HB3 : Hid (Below W1.heap.size W1 U.val) := HB2.out.trans (U.property.mono HB2.out.size)
          generalize U.val = w7 at *
          clear x0 x1 y0 y1 s1 t1 hne HB2
          go_wp2_with fail
          go_roundw
          case rel => exact ⟨i + 1, by omega, by go_num, by rw [HL.out], HB3⟩
          case measure => simp only [intOf]; omega
    · obtain rfl : i = l.length := by omega
      have hkl := Hf.amin_lt l l.length h0
      obtain ⟨k, hkk⟩ : ∃ k, Hf.amin l l.length = k := ⟨_, rfl⟩
      rw [hkk] at hkl ⊢
      have HKK : Hid (Hf.amin l l.length = k) := hkk
      clear hkk
      have HBw : Hid (Below w.heap.size w wr) := hB
      clear hB
      go_wp2_with fail
      go_loopw [7, 53] (fun x y wr' => ∃ i : Nat, i ≤ l.length ∧ y = .int .i64 i ∧ wr'.ownsRow W1.heap.size 153 2 x (Hf.rest l k i).length (rowB (Hf.rest l k i)) ∧ Hid (Below W1.heap.size W1 wr')) (fun _ y _ => l.length - (intOf y).toNat)
      case atStart => exact ⟨0, by omega, rfl, World.ownsRow_nil _ _ _ _, hbel⟩
      case round =>
        obtain ⟨i, hil, rfl, hown, hbel⟩ := hrel
        have hB : Below w.heap.size w wr := HB1.out.trans (hbel.out.mono HB1.out.size)
        by_cases hlt : i < l.length
        · have hh := h.keep hB
          obtain ⟨a0, a1, hg⟩ := hh.at_ rfl i hlt
          obtain ⟨sb, sc, es, _, _⟩ := hh.sign (Hf.nth_mem hlt)
          have hrl := Hf.rest_length l k i
          have hsz := hB.size
          have hszb := hbel.out.size
          by_cases hik : i = k
          · have hb : ((i : Int) != (k : Int)) = false := by simp [hik]
            have HR : Hid (Hf.rest l k (i + 1) = Hf.rest l k i) := by show _ = _; rw [hik]; exact Hf.rest_skip l k hkl
            have HB2 : Hid (∀ o, Below W1.heap.size W1 (wr.alloc o)) := fun o => hbel.out.alloc hbel.out.size o
            have HO2 : Hid (∀ o, (wr.alloc o).ownsRow W1.heap.size 153 2 u7 (Hf.rest l k (i + 1)).length (rowB (Hf.rest l k (i + 1)))) := fun o => by rw [HR.out]; exact hown.alloc o
            generalize Hf.nth l i = x at *
            rw [es] at a1
            clear hik hh es hbel hB hown
            go_wp2_with fail
            go_roundw
            case rel => exact ⟨i + 1, by omega, by go_num, HO2.out _, HB2.out _⟩
            case measure => simp only [intOf]; omega
          · have hb : ((i : Int) != (k : Int)) = true := by simp; omega
            have HR : Hid (Hf.rest l k (i + 1) = Hf.rest l k i ++ [Hf.nth l i]) := Hf.rest_more l k i hlt hik
            have ex : ∃ xw xl xs, Hf.nth l i = (⟨xw, xl, xs, .slice (some ⟨sb, 0, none⟩) (Hf.nth l i).sg.length sc⟩ : Hf.G) := ⟨_, _, _, by rw [← es]⟩
            obtain ⟨xw, xl, xs, ex⟩ := ex
            generalize (Hf.nth l i).sg.length = xn at *
            rw [ex] at a0 a1 HR
            dsimp only at a0 a1
            clear hik hh es ex
            go_wp2_with (at_builtin; refine wpList_append_own _ rfl (.tmp 61) (.tmp 63) 151 rfl W1.heap.size 153 i0 (.agg #[.int .i64 0, .slice none 0 0]) 2 32 Try.underlying151 hi hz0 hz1 hz2 rfl (by decide) _ _ _ rfl ((hown.alloc _).alloc _) ⟨wr.heap.size + 1, 0, none⟩ 1 1 (bC ⟨xw, xl, xs, .slice (some ⟨sb, 0, none⟩) xn sc⟩) rfl rfl (two_at (by simp) (by simp)) (by simp [bC, Value.oneCell']) (by unfold maxLen; omega) (by omega) (by simp; omega) ?_; intro v1 w3 hown3 hgrow _)
            have HO3 : Hid (w3.ownsRow W1.heap.size 153 2 v1 (Hf.rest l k (i + 1)).length (rowB (Hf.rest l k (i + 1)))) := by rw [HR.out, rowB_more, List.length_append]; exact hown3
            have HB3 : Hid (Below W1.heap.size W1 w3) := ((hbel.out.alloc hszb _).alloc (by simp; omega) _).grown hgrow (by simp; omega) fun j hj => (hown.lt j hj).1
            clear hown3 hgrow hown hbel hB a0 a1
            go_wp2_with fail
            go_roundw
            case rel => exact ⟨i + 1, by omega, by go_num, HO3.out, HB3⟩
            case measure => simp only [intOf]; omega
        · obtain rfl : i = l.length := by omega
          have hh := h.keep hB
          obtain ⟨a0, a1, hg⟩ := hh.at_ rfl k hkl
          obtain ⟨sb, sc, es, _, _⟩ := hh.sign (Hf.nth_mem hkl)
          obtain ⟨d0, d1, f0, f1, hwl⟩ := HX1.out.below hbel.out HX1.out.lt
          have HF : Hid (∀ W v', Below w.heap.size w W → W.ownsRow W1.heap.size 153 2 v' (Hf.rest l k l.length).length (rowB (Hf.rest l k l.length)) → Bun W base v' (Hf.rest l k l.length)) := fun W v' hW hr => by
            have hm : ∀ g ∈ Hf.rest l k l.length, g ∈ l := fun g hg => (Hf.rest_perm l k hkl).mem_iff.2 (List.mem_cons_of_mem _ hg)
            exact ⟨row_lower hr (by have := HB1.out.size; omega), fun g hg => row_below (h.signs g (hm g hg)) hW, fun g hg => h.low g (hm g hg)⟩
          have HE : Hid ((Hf.nth l k).sv = .slice (some ⟨sb, 0, none⟩) (Hf.nth l k).sg.length sc) := es
          have HW1 : Hid (w.heap.size < W1.heap.size) := HX1.out.lt
          rw [es] at a1
          clear hh es h
          generalize (Hf.nth l k).sg.length = xn at *
          generalize hnk : Hf.nth l k = x at *
          have HNK : Hid (Hf.nth l k = x) := hnk
          clear hnk
          have HOW : Hid (wr.ownsRow W1.heap.size 153 2 u7 (Hf.rest l k l.length).length (rowB (Hf.rest l k l.length))) := hown
          have HBF : Hid (Below w.heap.size w wr) := hB
          clear hown hB hbel
          have ex : ∃ oa om oc, u7 = .slice oa om oc := by
            rcases HOW.out.2 with ⟨rfl, _⟩ | ⟨_, _, _, rfl, _⟩
            · exact ⟨_, _, _, rfl⟩
            · exact ⟨_, _, _, rfl⟩
          obtain ⟨oa, om, oc, rfl⟩ := ex
          go_wp2_with fail
          have hk2 : Kept (fun q => q ≠ w.heap.size) wr ((wr.setCell ⟨w.heap.size, 0, none⟩ (.int .i64 x.wt)).setCell ⟨w.heap.size, 1, none⟩ (.slice (some ⟨sb, 0, none⟩) xn sc)) := ((Kept.refl _ wr).setCell (by simp) _).setCell (by simp) _
          refine bodyPost_ret (v := .tuple #[.agg #[.int .i64 x.wt, .slice (some ⟨sb, 0, none⟩) xn sc], .slice oa om oc]) ?_ rfl ⟨.slice oa om oc, by rw [HKK.out, HNK.out, HE.out], by rw [HKK.out]; exact HF.out _ _ ((HBF.out.setCell (Nat.le_refl _) _).setCell (Nat.le_refl _) _) (own_kept' HOW.out hk2 fun q hq => by have := HW1.out; omega), fun b hb => by have := (HOW.out.lt b hb).1; have := HW1.out; omega, ?_⟩
          · simp [results, asAddr, go_sem, d0, d1]
          · exact (HBF.out.setCell (Nat.le_refl _) _).setCell (Nat.le_refl _) _
end Go.Proofs.Ytkhejelmjkpgfaa

namespace Go.Proofs.Ytkhejelmjkpgfaa
open Go.RowKit

namespace Hf
/-- the right numbers at a list's beginning, and what stands behind them -/
theorem front2 (l : List Int) (most : Nat) : ∃ L : List Nat, L.length ≤ l.length ∧ (∀ j (_ : j < L.length) (hj' : j < l.length), l[j] = ((L.getD j 0 : Nat) : Int)) ∧ (∀ n ∈ L, n ≤ most) ∧ ∀ hj : L.length < l.length, l[L.length] < 0 ∨ (most : Int) < l[L.length] := by
  induction l with
  | nil => exact ⟨[], Nat.le_refl _, fun j hj => by simp at hj, fun n hn => by simp at hn, fun hj => by simp at hj⟩
  | cons x l ih =>
    obtain ⟨L, h1, h2, h3, h4⟩ := ih
    by_cases hx : x < 0 ∨ (most : Int) < x
    · exact ⟨[], Nat.zero_le _, fun j hj => by simp at hj, fun n hn => by simp at hn, fun _ => hx⟩
    · refine ⟨x.toNat :: L, by simpa using h1, fun j hj hj' => ?_, fun n hn => ?_, fun hj => ?_⟩
      · cases j with
        | zero => simp; omega
        | succ j => simpa using h2 j (by simpa using hj) (by simpa using hj')
      · rcases List.mem_cons.1 hn with rfl | hn
        · omega
        · exact h3 n hn
      · simpa using h4 (by simpa using hj)
/-- the signs below k that are in one of two lists -/
def both (xs ys : List Nat) (k : Nat) : List Nat := (List.range k).filter fun i => decide (i ∈ xs) || decide (i ∈ ys)
theorem both_next (xs ys : List Nat) (k : Nat) : both xs ys (k + 1) = both xs ys k ++ if k ∈ xs ∨ k ∈ ys then [k] else [] := by
  unfold both
  rw [List.range_succ, List.filter_append]
  congr 1
  by_cases h : k ∈ xs ∨ k ∈ ys
  · rw [if_pos h, List.filter_cons, if_pos (by simpa using h)]; rfl
  · rw [if_neg h, List.filter_cons, if_neg (by simpa using h)]; rfl
theorem both_length (xs ys : List Nat) (k : Nat) : (both xs ys k).length ≤ k := by
  have := List.length_filter_le (fun i => decide (i ∈ xs) || decide (i ∈ ys)) (List.range k)
  rw [List.length_range] at this
  exact this
theorem both_lt {xs ys : List Nat} {k i : Nat} (h : i ∈ both xs ys k) : i < k := List.mem_range.1 (List.mem_filter.1 h).1
theorem both_nodup (xs ys : List Nat) (k : Nat) : (both xs ys k).Nodup := List.nodup_range.filter _
theorem both_perm {xs ys : List Nat} {n : Nat} (hn : (xs ++ ys).Nodup) (hl : ∀ i ∈ xs ++ ys, i < n) : (both xs ys n).Perm (xs ++ ys) := by
  refine (List.perm_ext_iff_of_nodup (both_nodup _ _ _) hn).2 fun i => ?_
  unfold both
  rw [List.mem_filter, List.mem_range, List.mem_append]
  constructor
  · rintro ⟨_, h⟩
    simpa using h
  · intro h
    exact ⟨hl i (List.mem_append.2 h), by simpa using h⟩
theorem both_low {xs ys : List Nat} {n a b : Nat} (hp : (both xs ys n).Perm (xs ++ ys)) (ha : a ∈ xs) (hb : b ∈ ys) (ha2 : ∀ i ∈ xs, a ≤ i) (hb2 : ∀ i ∈ ys, b ≤ i) : (both xs ys n).getD 0 0 = min a b ∧ (∀ i ∈ both xs ys n, min a b ≤ i) ∧ 1 ≤ (both xs ys n).length := by
  have h1 : ∀ i ∈ both xs ys n, min a b ≤ i := fun i hi => by
    rcases List.mem_append.1 (hp.mem_iff.1 hi) with h | h
    · have := ha2 i h; omega
    · have := hb2 i h; omega
  have h2 : min a b ∈ both xs ys n := by
    rw [hp.mem_iff, List.mem_append]
    rcases Nat.le_total a b with e | e
    · rw [Nat.min_eq_left e]; exact .inl ha
    · rw [Nat.min_eq_right e]; exact .inr hb
  have hs : (both xs ys n).Pairwise (· < ·) := List.pairwise_lt_range.filter _
  refine ⟨?_, h1, List.length_pos_of_mem h2⟩
  cases e : both xs ys n with
  | nil => rw [e] at h2; simp at h2
  | cons x r =>
    rw [e] at h1 h2 hs
    have h3 := h1 x List.mem_cons_self
    have h4 : x ≤ min a b := by
      rcases List.mem_cons.1 h2 with h | h
      · omega
      · have := (List.pairwise_cons.1 hs).1 _ h; omega
    show x = _
    omega
theorem bump_bound {out s : List Nat} (hn : s.Nodup) (hs : ∀ i ∈ s, i < out.length) (h : ∀ i, out.getD i 0 ≤ 256) (i : Nat) : (bump out s).getD i 0 ≤ 257 := by
  rw [bump_get hn hs]
  have := h i
  split <;> omega
end Hf
theorem Bun.kept {p : Nat → Prop} {W W' : World} {base : Nat} {v : Value} {l : List Hf.G} (h : Bun W base v l) (hk : Kept p W W') (hv : ∀ b, v.ownBlock = some b → p b) (hs : ∀ g ∈ l, ∀ b, g.sv.ownBlock = some b → p b) : Bun W' base v l := by
  have key : ∀ {e : TypeId} {k : Nat} {u : Value} {n : Nat} {xs : List Value}, W.ownsRow base e k u n xs → (∀ b, u.ownBlock = some b → p b) → W'.ownsRow base e k u n xs := by
    intro e k u n xs hr hp
    obtain ⟨h1, h2⟩ := hr
    refine ⟨h1, ?_⟩
    rcases h2 with h2 | ⟨g, cap, cur, hv, hg, hh, r⟩
    · exact .inl h2
    · refine .inr ⟨g, cap, cur, hv, hg, ?_, r⟩
      rw [hk.block g (Array.getElem?_eq_some_iff.1 hh).1 (hp g (by rw [hv]; rfl)), hh]
  exact ⟨key h.row hv, fun g hg => key (h.signs g hg) (hs g hg), h.low⟩
theorem own_lt {base : Nat} {e : TypeId} {k : Nat} {v : Value} {n : Nat} {xs : List Value} {w : World} (h : w.ownsRow base e k v n xs) {g : Nat} (hg : v.ownBlock = some g) : base ≤ g ∧ g < w.heap.size := h.lt g hg
theorem own_kept2 {p : Nat → Prop} {base : Nat} {e : TypeId} {k : Nat} {v : Value} {n : Nat} {xs : List Value} {w w' : World} (h : w.ownsRow base e k v n xs) (hk : Kept p w w') (hp : ∀ g, v.ownBlock = some g → p g) : w'.ownsRow base e k v n xs := by
  obtain ⟨h1, h2⟩ := h
  refine ⟨h1, ?_⟩
  rcases h2 with h2 | ⟨g, cap, cur, hv, hg, hh, r⟩
  · exact .inl h2
  · refine .inr ⟨g, cap, cur, hv, hg, ?_, r⟩
    rw [hk.block g (Array.getElem?_eq_some_iff.1 hh).1 (hp g (by rw [hv]; rfl)), hh]
theorem BBox.store {W : World} {G : Nat} {x : Hf.G} (h : BBox W G x) (y : Hf.G) : BBox ((W.setCell ⟨G, 0, none⟩ (.int .i64 y.wt)).setCell ⟨G, 1, none⟩ y.sv) G y := by
  refine ⟨?_, ?_, by simpa using h.f0, by simpa using h.f1, by simpa using h.lt⟩
  · rw [World.cell?_setCell_other _ _ _ _ (by simp)]
    exact World.cell?_setCell_same _ _ _ h.c0
  · refine World.cell?_setCell_same _ _ _ (u := x.sv) ?_
    rw [World.cell?_setCell_other _ _ _ _ (by simp)]
    exact h.c1
theorem BBox.store1 {W : World} {G : Nat} {x : Hf.G} (h : BBox W G x) (u : Value) (s : List Nat) (lo : Nat) : BBox (W.setCell ⟨G, 1, none⟩ u) G ⟨x.wt, lo, s, u⟩ :=
  ⟨by rw [World.cell?_setCell_other _ _ _ _ (by simp)]; exact h.c0, World.cell?_setCell_same _ _ _ h.c1, by simpa using h.f0, by simpa using h.f1, by simpa using h.lt⟩
theorem Kept.setNew' {p : Nat → Prop} {A B : World} (h : Kept p A B) {a : Addr} (ha : A.heap.size ≤ a.block) (v : Value) : Kept p A (B.setCell a v) :=
  ⟨h.os, h.tape, h.output, by simpa using h.size, fun k hk hp => (Below.heap_setCell _ _ _ _ (by omega)).trans (h.block k hk hp)⟩
theorem Kept.grownNew {p : Nat → Prop} {A B C : World} {row : Option Nat} (h : Kept p A B) (hg : B.grownBy C row) (hr : ∀ k, row = some k → A.heap.size ≤ k) : Kept p A C :=
  ⟨hg.os.trans h.os, hg.tape.trans h.tape, hg.output.trans h.output, Nat.le_trans h.size hg.size, fun k hk hp => (hg.block k (Nat.lt_of_lt_of_le hk h.size) (fun e => by have := hr k e.symm; omega)).trans (h.block k hk hp)⟩
def sliceLen : Value → Nat
  | .slice _ n _ => n
  | _ => 0
theorem Bun.len {W : World} {base : Nat} {v : Value} {l : List Hf.G} (h : Bun W base v l) : sliceLen v = l.length := by
  rcases h.row.2 with ⟨rfl, h0⟩ | ⟨g, cap, cur, rfl, _⟩
  · rw [h0]; rfl
  · rfl
theorem Bun.form {W : World} {base : Nat} {v : Value} {l : List Hf.G} (h : Bun W base v l) : ∃ a c, v = .slice a l.length c := by
  rcases h.row.2 with ⟨rfl, h0⟩ | ⟨g, cap, cur, rfl, _⟩
  · rw [h0]; exact ⟨_, _, rfl⟩
  · exact ⟨_, _, rfl⟩
/-- bunches, the numbers that they have made so far, and the row that these lie in -/
structure Rst (F : List Nat) (w wr : World) (Ob : Nat) (v : Value) (l : List Hf.G) (out : List Nat) : Prop where
  bun : Bun wr w.heap.size v l
  inv : Hf.Inv F (l.map Hf.ab) out
  row : wr.ownsRow w.heap.size 3 1 (.slice (some ⟨Ob, 0, none⟩) F.length F.length) F.length ((Hf.up out).map Iv)
  apart : ∀ g ∈ l, g.sv.ownBlock ≠ some Ob
  least : ∀ g ∈ l, ∀ i ∈ g.sg, g.low ≤ i
  bel : Below w.heap.size w wr
/-- one more bunch of one sign -/
theorem Bun.more {wr w1 : World} {v v1 : Value} {bl : List Hf.G} {g : Hf.G} {o1 o2 : Obj} {base : Nat} (h : Bun wr base v bl) (hown : w1.ownsRow base 153 2 v1 (bl.length + 1) (rowB bl ++ bC g)) (hs : w1.ownsRow base 3 1 g.sv g.sg.length ((Hf.up g.sg).map Iv)) (hl : 1 ≤ g.sg.length ∧ g.sg.getD 0 0 = g.low)
    (hg : ((wr.alloc o1).alloc o2).grownBy w1 v.ownBlock) : Bun w1 base v1 (bl ++ [g]) := by
  refine ⟨by rw [rowB_more, List.length_append]; exact hown, fun y hy => ?_, fun y hy => ?_⟩
  · rcases List.mem_append.1 hy with hy | hy
    · have hr := h.signs y hy
      have hr2 := (hr.alloc o1).alloc o2
      refine own_kept2 hr2 (p := fun k => v.ownBlock ≠ some k) ⟨hg.os, hg.tape, hg.output, hg.size, fun k hk hp => hg.block k hk fun e => hp e.symm⟩ fun b hb e => ?_
      have t1 := hr.2
      have t2 := h.row.2
      rcases t1 with ⟨e1, _⟩ | ⟨b1, c1, u1, e1, _, q1, _⟩
      · rw [e1] at hb; simp [Value.ownBlock] at hb
      · rcases t2 with ⟨e2, _⟩ | ⟨b2, c2, u2, e2, _, q2, _⟩
        · rw [e2] at e; simp [Value.ownBlock] at e
        · rw [e1] at hb; rw [e2] at e
          simp [Value.ownBlock] at hb e
          subst hb
          subst e
          rw [q1] at q2
          simp at q2
    · rw [List.mem_singleton.1 hy]; exact hs
  · rcases List.mem_append.1 hy with hy | hy
    · exact h.low y hy
    · rw [List.mem_singleton.1 hy]; exact hl
end Go.Proofs.Ytkhejelmjkpgfaa
