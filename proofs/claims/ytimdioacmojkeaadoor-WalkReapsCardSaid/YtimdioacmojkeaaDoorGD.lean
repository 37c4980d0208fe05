/-
  What the reader of package tree answers: all nodes; what Read answers.
  P47: the planter's items, directory by directory; what one item makes.
  The library's contracts at this program: strings_Count_one (laid by the guide's own tools, written out in plain words).
  P48: what node of walk's reaper answers.
  P48: what directory of walk's reaper answers.
  P48: what Reap of package walk answers.
  An ID by its eight bytes.
  slices.Index and slices.Contains over IDs: whether an ID is there.
  P49: what Needs of package walk answers.
  What alike of package pack answers, and BlobID of the document's answer (package lumref).
  P49: what lumref's Needs answers.
  slices.Equal over IDs.
  The walk of lumlaw.WalkNeeds: it returns true.
  Nodes handed in, read as data: opened.
  Blobs, ways and items handed in and read as data: opened, shut, and how great they may be.
  What the rows list of unicode/utf8's tables is what ValidString's contract asks.
-/
import Derived.Test.YtimdioacmojkeaaDoorGC
import Derived.BigQuiet
import Derived.Shelf.Strings.Count
import Derived.Test.YtimdioacmojkeaaDoorProg
import Derived.Laws.AppendOwn
import Derived.Deep.AppendLies
import Derived.Deep.RegionLaw
import Derived.Deep.RegionWith
import Derived.Deep.Cut
import Derived.Test.YtimdioacmojkeaaDoorGA
import Derived.Test.YtimdioacmojkeaaDoorGB
import Derived.Deep.CutBlock
import Derived.Deep.DeepCutAuto
import Derived.Test.YtimdioacmojkeaaDoorRows
import Derived.Lib.SmallJoins
import Derived.Lib.LaidU8T
import Derived.SliceStrings

namespace Go.Proofs.YtimdioacmojkeaaDoor
open Go.RowKit
set_option maxRecDepth 4000

theorem Kt.of_rs {A B : World} {br : Nat} {x : Td.St} (hk : Kept (fun j => j ≠ br) A B) (hr : Rs A br x) : Kt 71 A B :=
  ⟨hk.os, hk.tape, hk.output, hk.size, fun k o ho hn => by
    by_cases e : k = br
    · subst e
      unfold Rs at hr
      rw [hr, Option.some.injEq] at ho
      exact absurd ⟨_, _, ho.symm⟩ hn
    · exact (hk.block k (Array.getElem?_eq_some_iff.1 ho).1 e).trans ho⟩

theorem NdG.kr {w W : World} {n : Nod} {c : List Value} (hk : Kt 71 w W) (h : NdG w n c) : NdG W n c := by
  obtain ⟨v, e, hr, ht, ho⟩ := h
  refine ⟨v, e, ⟨?_, hr.room⟩, fun a m c hv => ?_, ho⟩
  · rcases hr.at_ with h1 | ⟨bk, o, cap, h1, h2, h3⟩
    · exact .inl h1
    · obtain ⟨cur, fr, hb⟩ := ht _ _ _ h1
      have hb' := hk.cell hb (by decide)
      refine .inr ⟨bk, o, cap, h1, Nat.lt_of_lt_of_le h2 hk.size, fun j t hj r u hu => ?_⟩
      rw [← h3 j t hj r u hu]
      simp only [World.cell?] at hb hb' ⊢
      rw [hb, hb']
  · obtain ⟨cur, fr, hb⟩ := ht a m c hv
    exact ⟨cur, fr, hk.cell hb (by decide)⟩

theorem NdG.keep {w W : World} {n : Nod} {c : List Value} (hs : w.heap.size ≤ W.heap.size) (hk : ∀ (k : Nat) cur fr, w.heap[k]? = some (.cells cur 24 fr) → W.heap[k]? = some (.cells cur 24 fr)) (h : NdG w n c) : NdG W n c := by
  obtain ⟨v, e, hr, ht, ho⟩ := h
  refine ⟨v, e, ⟨?_, hr.room⟩, fun a m c hv => ?_, ho⟩
  · rcases hr.at_ with h1 | ⟨bk, o, cap, h1, h2, h3⟩
    · exact .inl h1
    · obtain ⟨cur, fr, hb⟩ := ht _ _ _ h1
      have hb' := hk _ _ _ hb
      refine .inr ⟨bk, o, cap, h1, Nat.lt_of_lt_of_le h2 hs, fun j t hj r u hu => ?_⟩
      rw [← h3 j t hj r u hu]
      simp only [World.cell?] at hb hb' ⊢
      rw [hb, hb']
  · obtain ⟨cur, fr, hb⟩ := ht a m c hv
    exact ⟨cur, fr, hk _ _ _ hb⟩

/-- a row of nodes stays where the rows of nodes and of IDs stay -/
theorem Oy.keep {base : Nat} {w W : World} {v : Value} {l : List Nod} (h : Oy 7 54 NdG base w v l) (hs : w.heap.size ≤ W.heap.size) (hk : ∀ (k : Nat) cur t fr, (t = 24 ∨ t = 54) → w.heap[k]? = some (.cells cur t fr) → W.heap[k]? = some (.cells cur t fr)) : Oy 7 54 NdG base W v l :=
  h.obj (fun _ _ q => q.keep hs fun k cur fr ho => hk k cur _ fr (.inl rfl) ho) fun g cur fr ho => hk g cur _ fr (.inr rfl) ho

theorem Oy.belowN {base : Nat} {w W : World} {v : Value} {l : List Nod} (h : Oy 7 54 NdG base w v l) (hb : Below w.heap.size w W) : Oy 7 54 NdG base W v l :=
  h.keep hb.size fun k _ _ _ _ ho => (hb.block k (Array.getElem?_eq_some_iff.1 ho).1).trans ho

/-- what nodes answers -/
def NsOut (br : Nat) (w : World) (x : Td.St) (e : Ending) (w' : World) : Prop :=
  ∃ v l, e = .returned v ∧ nds l = (Td.sAll (Td.sNum 64 x).1 (Td.sNum 64 x).2).1 ∧ l.length ≤ 64 ∧ Oy 7 54 NdG w.heap.size w' v l ∧ Rs w' br (Td.sAll (Td.sNum 64 x).1 (Td.sNum 64 x).2).2 ∧ Kept (fun j => j ≠ br) w w'

set_option maxHeartbeats 4000000 in
set_option maxRecDepth 10000 in
theorem rdnodes_any (br : Nat) (x : Td.St) (w : World) (h : Rs w br x) (hx : x.1.length ≤ 1048576) :
    Calls Tryd.prog 30 #[.pointer (some ⟨br, 0, none⟩)] w (NsOut br w x) := by
  unfold NsOut
  obtain ⟨i0, hi, hz0, hz1, hz2⟩ := info_of' info_nd
  have hg := rdnumber_any br 64 x w h (by omega) hx
  have hnp := Td.sNum_most 64 x
  have hl1 := Td.sNum_len 64 x
  rcases hN : Td.sNum 64 x with ⟨np, x1⟩
  rw [hN] at hg hnp hl1
  dsimp only at *
  unfold RsOut at hg
  have HB : Hid (br < w.heap.size) := h.lt
  have HL : Hid (∀ k, (Td.sAll k x1).2.1.length ≤ 1048576) := fun k => by have := (Td.sAll_len x1 k).1; omega
  have HSt : Hid (∀ k, Td.sAll (k + 1) x1 = ((Td.sAll k x1).1 ++ [(Td.sNode (Td.sAll k x1).2).1], (Td.sNode (Td.sAll k x1).2).2)) := fun k => rfl
  clear h hN hx hl1
  go_enter Tryd.func30, Tryd.ntmps30
  go_wp2_with fail
  refine hg.mono ?_
  rintro e w1 ⟨rfl, r1, k1⟩
  have HR1 : Hid (Rs w1 br x1) := r1
  have HK1 : Hid (Kept (fun j => j ≠ br) w w1) := k1
  clear hg r1 k1
  go_wp2_with fail
  go_loopw [3, 6] (fun v i wr => ∃ (k : Nat) (l : List Nod), k ≤ np ∧ i = .int .i64 k ∧ l.length = k ∧ Hid (nds l = (Td.sAll k x1).1) ∧ Hid (Oy 7 54 NdG w.heap.size wr v l) ∧ Hid (Rs wr br (Td.sAll k x1).2) ∧ Hid (Kept (fun j => j ≠ br) w wr)) (fun _ i _ => np - (intOf i).toNat)
  case atStart => exact ⟨0, [], by omega, rfl, rfl, rfl, Oy.nil, HR1, HK1⟩
  case round =>
    clear HR1 HK1
    obtain ⟨k, l, hk, rfl, hlk, HD, HO, HR, HK⟩ := hrel
    by_cases hlt : k < np
    · have hst := HSt.out k
      have hnr := rdnode_any br (Td.sAll k x1).2 wr HR.out (HL.out k)
      unfold NoOut at hnr
      have HST : Hid (Td.sAll (k + 1) x1 = ((Td.sAll k x1).1 ++ [(Td.sNode (Td.sAll k x1).2).1], (Td.sNode (Td.sAll k x1).2).2)) := hst
      generalize Td.sNode (Td.sAll k x1).2 = NN at *
      clear hst
      go_wp2_with fail
      refine hnr.mono ?_
      rintro e w3 ⟨n, v, rfl, hnd, o3, hok, r3, k3⟩
      obtain ⟨av, cv, rfl⟩ := own_len o3
      have HG3 : Hid (NdG w3 n (ndC n (.slice av n.parts.length cv))) := ⟨_, rfl, rx_own o3 rfl hok.ids, own_type o3, hok⟩
      have hKr : Kt 71 wr w3 := Kt.of_rs k3 HR.out
      obtain ⟨cc, o1, o2, o2l, o4⟩ := HO.out
      have o1' : w3.ownsRow w.heap.size 54 7 u3 l.length cc.flatten := own_kept o1 k3 fun g hg => by have := own_ge o1 hg; have := HB.out; omega
      have HO2 : Hid ((∀ c ∈ cc, c.length = 7) ∧ cc.length = l.length ∧ ∀ (j : Nat) t c, l[j]? = some t → cc[j]? = some c → NdG w3 t c) := ⟨o2, o2l, fun j t c a b => NdG.kr hKr (o4 j t c a b)⟩
      have HD2 : Hid (nds (l ++ [n]) = (Td.sAll (k + 1) x1).1) := by show _ = _; rw [HST.out, ← HD.out, ← hnd]; simp [nds]
      have HR3 : Hid (Rs w3 br (Td.sAll (k + 1) x1).2) := by rw [HST.out]; exact r3
      have HK3 : Hid (Kept (fun j => j ≠ br) w w3) := HK.out.trans k3
      have HLe : Hid (l.length = k ∧ (l ++ [n]).length = k + 1) := ⟨hlk, by rw [List.length_append, hlk]; rfl⟩
      have hl4 : l.length ≤ 64 := by omega
      have hsw := HK3.out.size
      obtain ⟨np', hnp'⟩ : ∃ np', np' = n.parts.length := ⟨_, rfl⟩
      rw [← hnp'] at HG3 ⊢
      clear hnr o3 hok r3 k3 hKr o1 o2 o2l o4 hnd hnp' HST HO HR HK HD
      obtain ⟨name, kind, mode, time, size, parts, link⟩ := n
      dsimp only at *
      go_wp2_with (at_builtin; refine wpList_append_own _ rfl (.tmp 8) (.tmp 11) 50 rfl w.heap.size 54 i0 (.agg #[.string ⟨#[]⟩, .int .i64 0, .int .i64 0, .int .i64 0, .int .i64 0, .slice none 0 0, .string ⟨#[]⟩]) 7 88 Tryd.underlying50 hi hz0 hz1 hz2 rfl (by decide) _ _ _ rfl (o1'.alloc _) ⟨w3.heap.size, 0, none⟩ 1 1 [.string name, .int .i64 kind, .int .i64 mode, .int .i64 time, .int .i64 size, .slice av np' cv, .string link] rfl rfl (seven_new w3 _ _ _ _ _ _ _) ?c2 ?c3 ?c4 ?c5 ?_)
      case c2 => simp [Value.oneCell']
      case c3 => unfold maxLen; omega
      case c4 => omega
      case c5 => first | omega | (simp; omega)
      intro v6 w5 hown5 hgrow _
      rw [← HLe.out.1] at hown5
      have hk5 : Kt 54 w3 w5 := ((Kt.refl _ w3).alloc _).trans (Kt.of_grown hgrow fun g hg => by
        obtain ⟨cur, q, _⟩ := own_block (o1'.alloc _) hg
        exact ⟨cur, _, q⟩)
      have hge : ∀ g, u3.ownBlock = some g → w.heap.size ≤ g := fun g hg => own_ge o1' hg
      have HR5 : Hid (Rs w5 br (Td.sAll (k + 1) x1).2) := hk5.cell HR3.out (by decide)
      have HK5 : Hid (Kept (fun j => j ≠ br) w w5) := by
        have hz := HK3.out.alloc (.cells #[.string name, .int .i64 kind, .int .i64 mode, .int .i64 time, .int .i64 size, .slice av np' cv, .string link] 54)
        exact ⟨hgrow.os.trans hz.os, hgrow.tape.trans hz.tape, hgrow.output.trans hz.output, Nat.le_trans hz.size hgrow.size, fun j hj hp => (hgrow.block j (Nat.lt_of_lt_of_le hj hz.size) fun e => by have := hge j e.symm; omega).trans (hz.block j hj hp)⟩
      have HOn : Hid (Oy 7 54 NdG w.heap.size w5 v6 (l ++ [⟨name, kind, mode, time, size, parts, link⟩])) := Oy.more HO2.out.1 HO2.out.2.1 (fun j t c a b => NdG.kt hk5 (HO2.out.2.2 j t c a b)) hown5 rfl (NdG.kt hk5 HG3.out)
      clear hown5 hgrow hk5 o1' HO2 HG3 HK3 HR3 hge
      go_wp2_with fail
      go_roundw
      case measure => simp only [intOf]; omega
      case rel => exact ⟨k + 1, _, by omega, by go_num, HLe.out.2, HD2, HOn, HR5, HK5⟩
    · obtain rfl : k = np := by omega
      have hl64 : l.length ≤ 64 := by omega
      go_wp2_with fail
      go_ret
      exact ⟨_, l, rfl, HD.out, hl64, HO.out, HR.out, HK.out⟩

/-- what Read answers -/
def TgOut (s : ByteArray) (w : World) (e : Ending) (w' : World) : Prop :=
  ∃ v l, e = .returned (.tuple #[v, .int .i64 (Td.read s.data.toList).2]) ∧ nds l = (Td.read s.data.toList).1 ∧ Nds w' v l ∧ l.length ≤ 64 ∧ Below w.heap.size w w'

/-- the same, the rows by their blocks' types -/
def TgOy (s : ByteArray) (w : World) (e : Ending) (w' : World) : Prop :=
  ∃ v l B, e = .returned (.tuple #[v, .int .i64 (Td.read s.data.toList).2]) ∧ nds l = (Td.read s.data.toList).1 ∧ Oy 7 54 NdG B w' v l ∧ l.length ≤ 64 ∧ Below w.heap.size w w'

theorem write_size (l : List Nod) : (⟨(Td.write (nds l)).1.toArray⟩ : ByteArray).size ≤ 9223372036854775807 := by
  rw [tg_size]
  unfold Td.write
  split
  · simp
  · split
    · simp
    · show (Td.textB (nds l)).length ≤ _; omega

set_option maxHeartbeats 4000000 in
set_option maxRecDepth 10000 in
theorem tread_oy (s : ByteArray) (w : World) (hs : s.size ≤ 9223372036854775807) (hT : Tabs w) : Calls Tryd.prog 16 #[.string s] w (TgOy s w) := by
  unfold TgOy
  by_cases h4 : 4096 < s.size
  · have HR : Hid (Td.read s.data.toList = ([], 2)) := by show _ = _; unfold Td.read; rw [if_pos (by rw [← Lib.size_eq]; exact h4)]
    generalize Td.read s.data.toList = RES at *
    have g4 : (4096 : Int) < (s.size : Int) := by omega
    clear hT
    go_enter Tryd.func16, Tryd.ntmps16
    go_wp2_with fail
    go_ret2
    exact ⟨_, [], 0, by rw [HR.out]; rfl, by rw [HR.out]; rfl, Oy.nil, by simp, Below.refl _ _⟩
  have g4 : ¬ (4096 : Int) < (s.size : Int) := by omega
  rcases hA : Td.sAll (Td.sNum 64 (s.data.toList, 0)).1 (Td.sNum 64 (s.data.toList, 0)).2 with ⟨L, r, er⟩
  have HRd : Hid (Td.read s.data.toList = if er ≠ 0 then ([], er) else if r ≠ [] then ([], 4) else if Td.check L ≠ 0 then ([], Td.check L) else (L, 0)) := Td.read_st (by rw [← Lib.size_eq]; exact h4) hA
  generalize Td.read s.data.toList = RES at *
  obtain ⟨W1, hW1⟩ : ∃ W1, W1 = w.alloc (.cells #[.string s, .int .i64 0] 71) := ⟨_, rfl⟩
  have HB1 : Hid (Below w.heap.size w W1) := by rw [hW1]; exact (Below.refl _ w).alloc (Nat.le_refl _) _
  have HR1 : Hid (Rs W1 w.heap.size (s.data.toList, 0)) := by rw [hW1]; exact heap_alloc_new w _
  have hns := rdnodes_any w.heap.size (s.data.toList, 0) W1 HR1.out (by show List.length _ ≤ _; rw [← Lib.size_eq]; omega)
  unfold NsOut at hns
  rw [hA] at hns
  dsimp only at hns
  have HT : Hid (Tabs w) := hT
  have hrl : r.length ≤ 4096 := by
    have q1 := (Td.sAll_len (Td.sNum 64 (s.data.toList, 0)).2 (Td.sNum 64 (s.data.toList, 0)).1).1
    have q2 := Td.sNum_len 64 (s.data.toList, 0)
    rw [hA] at q1
    have q3 : s.data.toList.length = s.size := (Lib.size_eq s).symm
    simp only at q1 q2
    omega
  obtain ⟨br, hbr⟩ : ∃ br, br = w.heap.size := ⟨_, rfl⟩
  have HBr : Hid (br = w.heap.size) := hbr
  rw [← hbr] at hns
  clear hT hA HR1
  go_enter Tryd.func16, Tryd.ntmps16
  go_upto_region 4 with fail
  rw [← hW1, ← hbr]
  clear hW1 hbr
  go_wp2_with fail
  refine hns.mono ?_
  rintro e w2 ⟨v, l, rfl, hd, hl, hn, r2, k2⟩
  have hb2 : Below w.heap.size w w2 := HB1.out.trans (k2.below HB1.out.size fun j hj => by have := HBr.out; omega)
  have HB2 : Hid (Below w.heap.size w w2) := hb2
  have HN2 : Hid (Oy 7 54 NdG W1.heap.size w2 v l) := hn
  have hck := tcheck_any v l w2 (Nds.of_oy hn) (by omega) (HT.out.below hb2)
  rw [hd] at hck
  have HD : Hid (nds l = L) := hd
  obtain ⟨c0, c1, f0, f1⟩ := r2.cells
  dsimp only at c0 c1
  obtain ⟨t, ht⟩ : ∃ t : ByteArray, t = ⟨r.toArray⟩ := ⟨_, rfl⟩
  have hts : t.size = r.length := by rw [ht]; exact tg_size r
  rw [← ht] at c0
  clear hns hb2 hn hd r2 k2 HB1 ht f0 f1
  by_cases he : er ≠ 0
  · have hqn : (er != 0) = true := by rw [bne_iff_ne]; exact he
    have HRE : Hid (RES = ([], er)) := by
      have := HRd.out
      rwa [if_pos he] at this
    clear HRd hck
    go_wp2_with fail
    go_quiet (fail)
    go_wp2_with fail
    go_ret2
    exact ⟨_, [], 0, by rw [HRE.out]; rfl, by rw [HRE.out]; rfl, Oy.nil, by simp, Go.below_drewN HB2.out _⟩
  obtain rfl := Decidable.not_not.mp he
  have HRd1 : Hid (RES = if r ≠ [] then ([], 4) else if Td.check L ≠ 0 then ([], Td.check L) else (L, 0)) := by
    have := HRd.out
    rwa [if_neg (by simp)] at this
  clear HRd he
  by_cases hr : r ≠ []
  · have HRE : Hid (RES = ([], 4)) := by
      have := HRd1.out
      rwa [if_pos hr] at this
    have hp : (0 : Int) < (t.size : Int) := by have := List.length_pos_iff.2 hr; omega
    clear HRd1 hck
    go_wp2_with fail
    go_ret2
    exact ⟨_, [], 0, by rw [HRE.out]; rfl, by rw [HRE.out]; rfl, Oy.nil, by simp, HB2.out⟩
  obtain rfl := Decidable.not_not.mp hr
  have HRd2 : Hid (RES = if Td.check L ≠ 0 then ([], Td.check L) else (L, 0)) := by
    have := HRd1.out
    rwa [if_neg (by simp)] at this
  have hp : ¬ (0 : Int) < (t.size : Int) := by rw [hts]; simp
  generalize Td.check L = E at *
  clear HRd1 hr hrl hts
  go_wp2_with fail
  refine hck.mono ?_
  rintro e w3 ⟨rfl, b3⟩
  have HB3 : Hid (Below w.heap.size w w3) := HB2.out.trans (b3.mono HB2.out.size)
  have HN3 : Hid (Oy 7 54 NdG W1.heap.size w3 v l) := HN2.out.belowN b3
  clear hck b3
  by_cases hE : E ≠ 0
  · have hqn : (E != 0) = true := by rw [bne_iff_ne]; exact hE
    have HRE : Hid (RES = ([], E)) := by
      have := HRd2.out
      rwa [if_pos hE] at this
    clear HRd2
    go_wp2_with fail
    go_ret2
    exact ⟨_, [], 0, by rw [HRE.out]; rfl, by rw [HRE.out]; rfl, Oy.nil, by simp, HB3.out⟩
  obtain rfl := Decidable.not_not.mp hE
  have HRE : Hid (RES = (L, 0)) := by
    have := HRd2.out
    rwa [if_neg (by simp)] at this
  clear HRd2 hE
  go_wp2_with fail
  go_ret2
  exact ⟨_, l, _, by rw [HRE.out]; rfl, by rw [HRE.out]; exact HD.out, HN3.out, hl, HB3.out⟩

theorem tread_any (s : ByteArray) (w : World) (hs : s.size ≤ 9223372036854775807) (hT : Tabs w) : Calls Tryd.prog 16 #[.string s] w (TgOut s w) :=
  (tread_oy s w hs hT).mono fun _ _ ⟨v, l, _, h1, h2, h3, h4, h5⟩ => ⟨v, l, h1, h2, Nds.of_oy h3, h4, h5⟩

end Go.Proofs.YtimdioacmojkeaaDoor

namespace Go.Proofs.YtimdioacmojkeaaDoor
open Go.RowKit
open Nn (Name)

def kI (W0 : List Im) (p : List Name) : List Im := Wk.kids (fun x => x.it.nms) W0 p

def dI (W0 : List Im) (k : Nat) (p : List Name) : List Im := Wk.dfs (fun x => x.it.nms) (fun x => x.it.dir) W0 k p

def blk (W0 : List Im) (k : Nat) (x : Im) : List Im := x :: (if x.it.dir then dI W0 k x.it.nms else [])

theorem dI_succ (W0 : List Im) (k : Nat) (p : List Name) : dI W0 (k + 1) p = (kI W0 p).flatMap (blk W0 k) := rfl

theorem kI_its (W0 : List Im) (p : List Name) : its (kI W0 p) = Wk.kids Wk.It.nms (its W0) p := by
  unfold its kI Wk.kids
  rw [List.filter_map]
  rfl

theorem mem_kI {W0 : List Im} {p : List Name} {x : Im} : x ∈ kI W0 p ↔ x ∈ W0 ∧ ∃ s, x.it.nms = p ++ [s] := Wk.mem_kids

theorem mem_dI {W0 : List Im} : ∀ (k : Nat) (p : List Name) (x : Im), x ∈ dI W0 k p → x ∈ W0
  | 0, _, _, h => absurd h List.not_mem_nil
  | k + 1, p, x, h => by
    rw [dI_succ, List.mem_flatMap] at h
    obtain ⟨y, hy, hx⟩ := h
    rcases List.mem_cons.1 hx with e | hx
    · rw [e]; exact (mem_kI.1 hy).1
    · split at hx
      · exact mem_dI k _ x hx
      · exact absurd hx List.not_mem_nil

theorem mem_blk {W0 : List Im} {k : Nat} {x y : Im} (hx : x ∈ W0) (hy : y ∈ blk W0 k x) : y ∈ W0 := by
  rcases List.mem_cons.1 hy with e | hy
  · rw [e]; exact hx
  · split at hy
    · exact mem_dI k _ y hy
    · exact absurd hy List.not_mem_nil

/-- what comes first lies not beneath p -/
def Nb0 (p : List Name) (rest : List Im) : Prop := ∀ y, rest.head? = some y → ¬ ∃ r, r ≠ [] ∧ y.it.nms = p ++ r

theorem nb_sub {W0 : List Im} {k : Nat} {p : List Name} {s : Name} {K rest : List Im} (hK : ∀ y ∈ K, ∃ t, y.it.nms = p ++ [t]) (h : Nb0 p rest) : Nb0 (p ++ [s]) (K.flatMap (blk W0 k) ++ rest) := by
  intro y hy ⟨r, hr, e⟩
  cases K with
  | nil =>
    refine h y hy ⟨s :: r, by simp, ?_⟩
    rw [e]; simp
  | cons z K =>
    have hz : (z :: K).flatMap (blk W0 k) ++ rest = z :: ((if z.it.dir then dI W0 k z.it.nms else []) ++ (K.flatMap (blk W0 k) ++ rest)) := by
      rw [List.flatMap_cons]; simp [blk]
    rw [hz, List.head?_cons, Option.some.injEq] at hy
    subst hy
    obtain ⟨t, ht⟩ := hK z List.mem_cons_self
    rw [ht] at e
    have h1 := congrArg List.length e
    have h2 : 0 < r.length := List.length_pos_iff.2 hr
    rw [List.length_append, List.length_append, List.length_append] at h1
    simp only [List.length_cons, List.length_nil] at h1
    omega

theorem tails_inj {l m : List Name} (hl : ∀ s ∈ l, (47 : UInt8) ∉ s) (hm : ∀ s ∈ m, (47 : UInt8) ∉ s) (h : Nn.tails l = Nn.tails m) : l = m := by
  have h1 := Nn.cut_tails hl
  have h2 := Nn.cut_tails hm
  rw [h, h2] at h1
  exact (List.cons.inj h1).2.symm

/-- how an item's path parts -/
theorem path_parts {x : Im} (h : Wk.Ok1 x.it) : x.path.data.toList = Wk.par x.it ++ 47 :: Wk.nam x.it := Wk.path_snoc h

theorem nms_noslash {x : Im} (h : Wk.Ok1 x.it) : ∀ s ∈ x.it.nms, (47 : UInt8) ∉ s := Nn.noslash (Wk.errs_nms h)

theorem path_size {x : Im} (_ : Wk.Ok1 x.it) (hp : x.path.size ≤ 140737488351232) : x.path.size < 4611686018427387904 := by omega

theorem nms_last {x : Im} {p : List Name} {s : Name} (e : x.it.nms = p ++ [s]) : Wk.par x.it = Nn.tails p ∧ Wk.nam x.it = s := by
  unfold Wk.par Wk.nam
  rw [e]
  simp

/-- a row without its first thing -/
theorem Rx.rest {α : Type} {k : Nat} {C : α → List Value} {w : World} {bk o c : Nat} {x : α} {l : List α} (h : Rx k C w (.slice (some ⟨bk, o, none⟩) (l.length + 1) c) (x :: l)) :
    Rx k C w (.slice (if c = 1 then some ⟨bk, o, none⟩ else some ⟨bk, o + k, none⟩) l.length (c - 1)) l := by
  obtain ⟨a', n', c', e, h1, h2⟩ := h.room
  cases e
  refine ⟨?_, ⟨_, _, _, rfl, by omega, by omega⟩⟩
  by_cases hc : c = 1
  · have hl : l.length = 0 := by omega
    rw [List.length_eq_zero_iff.1 hl]
    exact .inl ⟨⟨_, _, rfl⟩, rfl⟩
  · rw [if_neg hc]
    rcases h.at_ with ⟨⟨_, _, e⟩, _⟩ | ⟨bk', o', cap, e, h3, h4⟩
    · cases e
    · cases e
      refine .inr ⟨bk, o + k, c - 1, rfl, h3, fun j t hj r u hu => ?_⟩
      have := h4 (j + 1) t (by simpa using hj) r u hu
      rw [Nat.add_mul, Nat.one_mul] at this
      rw [← this]
      congr 2
      omega

/-- what is sure of the items that are planted -/
structure Gd (fx mn mx bt : Int) (W0 : List Im) : Prop where
  right : Wk.Right (its W0)
  ok : ∀ x ∈ W0, x.Ok
  way : wayN fx mn mx bt = 0

theorem Gd.ok1 {fx mn mx bt : Int} {W0 : List Im} (h : Gd fx mn mx bt W0) {x : Im} (hx : x ∈ W0) : Wk.Ok1 x.it := Wk.iErr_ok (h.right.each _ (List.mem_map_of_mem hx))

theorem lit_small {n : Int} (h0 : -9223372036854775808 ≤ n) (h1 : n ≤ 9223372036854775807) : (Lit.int .i64 n).wf = true := by
  simp [Lit.wf, IntKind.min, IntKind.max, IntKind.signed, IntKind.bits]
  exact ⟨h0, h1⟩
end Go.Proofs.YtimdioacmojkeaaDoor

namespace Go.Proofs
open Go.Shelf
def Tryd.lays138_ren : Go.Shelf.Ren := ⟨fun | 138 => 36 | 195 => 51 | 218 => 52 | 143 => 53 | 219 => 75 | 217 => 91 | 225 => 92 | 224 => 93 | 267 => 94 | 266 => 101 | 314 => 102 | n => n, fun | 9 => 9 | 3 => 3 | 4 => 4 | 5 => 5 | 0 => 0 | 46 => 95 | 146 => 136 | 51 => 135 | n => n, fun | 1 => 0 | n => n⟩
theorem Tryd.lays138 : Go.Proofs.Lays.n138 Tryd.prog Tryd.lays138_ren := {
  mixed := by kernel_rfl
  f138 := Tryd.func36.trans (congrArg some (by kernel_rfl))
  f143 := Tryd.func53.trans (congrArg some (by kernel_rfl))
  f195 := Tryd.func51.trans (congrArg some (by kernel_rfl))
  f217 := Tryd.func91.trans (congrArg some (by kernel_rfl))
  f218 := Tryd.func52.trans (congrArg some (by kernel_rfl))
  f219 := Tryd.func75.trans (congrArg some (by kernel_rfl))
  f224 := Tryd.func93.trans (congrArg some (by kernel_rfl))
  f225 := Tryd.func92.trans (congrArg some (by kernel_rfl))
  f266 := Tryd.func101.trans (congrArg some (by kernel_rfl))
  f267 := Tryd.func94.trans (congrArg some (by kernel_rfl))
  f314 := Tryd.func102.trans (congrArg some (by kernel_rfl))
  t0 := Tryd.underlying0
  a0 := Tryd.isAgg0
  z0 := Tryd.sizeOf0
  v0 := Tryd.zeroValue0
  t3 := Tryd.underlying3
  a3 := Tryd.isAgg3
  z3 := Tryd.sizeOf3
  v3 := Tryd.zeroValue3
  t4 := Tryd.underlying4
  a4 := Tryd.isAgg4
  z4 := Tryd.sizeOf4
  v4 := Tryd.zeroValue4
  t5 := Tryd.underlying5
  a5 := Tryd.isAgg5
  z5 := Tryd.sizeOf5
  v5 := Tryd.zeroValue5
  t9 := Tryd.underlying9
  a9 := Tryd.isAgg9
  z9 := Tryd.sizeOf9
  v9 := Tryd.zeroValue9
  t46 := Tryd.underlying95
  a46 := Tryd.isAgg95
  z46 := Tryd.sizeOf95
  v46 := Tryd.zeroValue95
  t51 := Tryd.underlying135
  a51 := Tryd.isAgg135
  z51 := Tryd.sizeOf135
  v51 := Tryd.zeroValue135
  t146 := Tryd.underlying136
  a146 := Tryd.isAgg136
  z146 := Tryd.sizeOf136
  v146 := Tryd.zeroValue136
  g1 := by kernel_rfl }
open Go.RowKit Go.Lib in
theorem Tryd.strings_Count_one (s : ByteArray) (c : UInt8) (w : World) :
    Calls Tryd.prog 36 #[.string s, .string ⟨#[c]⟩] w fun e w' => e = .returned (.int .i64 (Lib.countByte s.data.toList c)) ∧ w' = w := Any.strings_Count_one Tryd.lays138 s c w
end Go.Proofs

namespace Go.Proofs.YtimdioacmojkeaaDoor
open Go.RowKit
set_option maxRecDepth 4000
open Nn (Name)

namespace Wk
/-- what one node of a directory leaves -/
def rstep (l : List Pk.Bl) (sub : Bs → List Name → List It → List It × Int) (path : List Name) (n : Td.Nd) (w : List It) : List It × Int :=
  if 8 ≤ path.length then ([], 14) else if 100 ≤ w.length then ([], 2) else
  if (if n.kind = 1 then reapFile l n.size n.parts [] else (n.link, 0)).2 ≠ 0 then ([], (if n.kind = 1 then reapFile l n.size n.parts [] else (n.link, 0)).2) else
  if n.kind = 2 then sub (n.parts.headD []) (path ++ [n.name]) (w ++ [item path n (if n.kind = 1 then reapFile l n.size n.parts [] else (n.link, 0)).1]) else (w ++ [item path n (if n.kind = 1 then reapFile l n.size n.parts [] else (n.link, 0)).1], 0)

theorem rnodes_step (l : List Pk.Bl) (sub : Bs → List Name → List It → List It × Int) (path : List Name) (n : Td.Nd) (r : List Td.Nd) (w : List It) :
    reapNodes l sub path (n :: r) w = if (rstep l sub path n w).2 ≠ 0 then ([], (rstep l sub path n w).2) else reapNodes l sub path r (rstep l sub path n w).1 := by
  rw [reapNodes]
  unfold rstep
  by_cases h1 : 8 ≤ path.length
  · rw [if_pos h1, if_pos h1, if_pos (by decide)]
  rw [if_neg h1, if_neg h1]
  by_cases h2 : 100 ≤ w.length
  · rw [if_pos h2, if_pos h2, if_pos (by decide)]
  rw [if_neg h2, if_neg h2]
  dsimp only
  by_cases h3 : (if n.kind = 1 then reapFile l n.size n.parts [] else (n.link, 0)).2 ≠ 0
  · rw [if_pos h3, if_pos h3, if_pos h3]
  rw [if_neg h3, if_neg h3]

end Wk

/-- the reaper in block b: its heap m, what was told -/
structure Rpt (base b m nq : Nat) (bs : List Blb) (w : World) (items : List Im) : Prop where
  ex : ∃ iv, w.heap[b]? = some (.cells #[.map (some m), iv] 45 (0, 0)) ∧ w.ownsRow base 31 5 iv items.length (rowR imC items)
  map : Mp w m nq (mpB bs)
  at_ : base ≤ b
  atm : base ≤ m
  few : items.length ≤ 100

structure Rf (base : Nat) (A B : World) : Prop where
  low : Below base A B
  ko : Ko pR A B

theorem Rf.refl {base : Nat} (A : World) : Rf base A A := ⟨Below.refl _ _, Ko.refl _ _⟩

theorem Rf.trans {base : Nat} {A B C : World} (h : Rf base A B) (k : Rf base B C) : Rf base A C := ⟨h.low.trans k.low, h.ko.trans k.ko⟩

theorem Rf.of_below {base : Nat} {A B : World} (h : Below A.heap.size A B) (hb : base ≤ A.heap.size) : Rf base A B := ⟨h.mono hb, Ko.of_below h⟩

theorem Rf.size {base : Nat} {A B : World} (h : Rf base A B) : A.heap.size ≤ B.heap.size := h.ko.size

theorem Rf.cells {base : Nat} {A B : World} (h : Rf base A B) {k : Nat} {cur : Array Value} {t : TypeId} {fr : Nat × Nat} (ho : A.heap[k]? = some (.cells cur t fr)) (h1 : t ≠ 31) (h2 : t ≠ 45) : B.heap[k]? = some (.cells cur t fr) :=
  h.ko.obj k _ ho ⟨h1, h2⟩

theorem Rpt.below {base b m nq : Nat} {bs : List Blb} {w w' : World} {items : List Im} (h : Rpt base b m nq bs w items) (hb : Below w.heap.size w w') : Rpt base b m nq bs w' items := by
  obtain ⟨⟨iv, p1, p2⟩, hm, ha, hc, hf⟩ := h
  exact ⟨⟨iv, (hb.block b (Array.getElem?_eq_some_iff.1 p1).1).trans p1, own_below p2 hb⟩, hm.below hb, ha, hc, hf⟩

theorem info_itm : (Tryd.prog.info? 31).map (fun i => (i.zero, i.size, i.bytes)) = some (some (.agg #[.string ⟨#[]⟩, .int .i64 0, .int .i64 0, .int .i64 0, .string ⟨#[]⟩]), 5, 56) := by kernel_rfl

theorem itm_at {W : World} {B : Nat} {v0 v1 v2 v3 v4 : Value} (h0 : W.cell? ⟨B, 0, none⟩ = some v0) (h1 : W.cell? ⟨B, 1, none⟩ = some v1) (h2 : W.cell? ⟨B, 2, none⟩ = some v2) (h3 : W.cell? ⟨B, 3, none⟩ = some v3) (h4 : W.cell? ⟨B, 4, none⟩ = some v4) :
    ∀ j u, [v0, v1, v2, v3, v4][j]? = some u → W.cell? ((⟨B, 0, none⟩ : Addr).add j) = some u := by
  intro j u hj
  rw [Addr.add_mid, Nat.zero_add]
  match j, hj with
  | 0, hj => rw [h0]; exact hj
  | 1, hj => rw [h1]; exact hj
  | 2, hj => rw [h2]; exact hj
  | 3, hj => rw [h3]; exact hj
  | 4, hj => rw [h4]; exact hj

theorem set_one {W : World} {M : Nat} {x y : Value} {T : TypeId} {fr : Nat × Nat} (h : W.heap[M]? = some (.cells #[x, y] T fr)) (a : Value) : (W.setCell ⟨M, 1, none⟩ a).heap[M]? = some (.cells #[x, a] T fr) := by
  simp [World.setCell, Array.getElem?_modify, h]

theorem pair_at {w : World} {b : Nat} {T : TypeId} {fr : Nat × Nat} {x0 x1 : Value} (h : w.heap[b]? = some (.cells #[x0, x1] T fr)) : w.cell? ⟨b, 0, none⟩ = some x0 ∧ w.cell? ⟨b, 1, none⟩ = some x1 := by
  constructor <;> simp [World.cell?, h]

/-- what directory of the reaper answers -/
def RDirOk (base b m nq : Nat) (bs : List Blb) (k : Nat) : Prop := ∀ (path : List Name) (id : Wk.Bs) (items : List Im) (w : World), path.length + k = 9 → (∀ s ∈ path, (47 : UInt8) ∉ s ∧ s.length ≤ 1024) → id.length = 8 → Rpt base b m nq bs w items → (∀ W, Below base w W → Tabs W) →
  ∀ R, R = Wk.reapDir (pl bs) k id path (its items) →
  Calls Tryd.prog 12 #[.pointer (some ⟨b, 0, none⟩), idV id, .string (mkB (Nn.tails path))] w fun e w' => e = .returned (.int .i64 R.2) ∧ Rf base w w' ∧ (R.2 = 0 → ∃ items', its items' = R.1 ∧ Rpt base b m nq bs w' items')

/-- what is sure of a node that was read -/
structure Nk (n : Nod) : Prop where
  kind : n.kind = 1 ∨ n.kind = 2 ∨ n.kind = 3
  name : (47 : UInt8) ∉ n.name.data.toList ∧ n.name.data.toList.length ≤ 1024
  size : 0 ≤ n.size ∧ n.size ≤ 4096
  many : n.parts.length ≤ 300
  dir : n.kind = 2 → n.parts.length = 1 ∧ n.link.data.toList = []

set_option maxHeartbeats 4000000 in
set_option maxRecDepth 10000 in
theorem rnode_file (base b m nq : Nat) (bs : List Blb) (hsm : Sm bs) (k : Nat) (_ : 1 ≤ k → RDirOk base b m nq bs k) (path : List Name) (hpk : path.length + (k + 1) = 9) (hps : ∀ s ∈ path, (47 : UInt8) ∉ s ∧ s.length ≤ 1024) (n : Nod) (pv : Value) (hnk : Nk n) (hkd : n.kind = 1) (items : List Im) (w : World)
    (h : Rpt base b m nq bs w items) (hng : NdG w n (ndC n pv)) (hT : ∀ W, Below base w W → Tabs W) (R : List Wk.It × Int) (hR : R = Wk.rstep (pl bs) (Wk.reapDir (pl bs) k) path n.nd (its items)) :
    Calls Tryd.prog 21 #[.pointer (some ⟨b, 0, none⟩), .agg (ndC n pv).toArray, .string (mkB (Nn.tails (path ++ [n.name.data.toList])))] w fun e w' => e = .returned (.int .i64 R.2) ∧ Rf base w w' ∧ (R.2 = 0 → ∃ items', its items' = R.1 ∧ Rpt base b m nq bs w' items') := by
  obtain ⟨i0, hi, hz0, hz1, hz2⟩ := info_parts info_itm
  obtain ⟨PS, hPS⟩ : ∃ PS, PS = mkB (Nn.tails (path ++ [n.name.data.toList])) := ⟨_, rfl⟩
  have hns : ∀ s ∈ path ++ [n.name.data.toList], (47 : UInt8) ∉ s ∧ s.length ≤ 1024 := fun s hs => by
    rcases List.mem_append.1 hs with q | q
    · exact hps s q
    · rw [List.mem_singleton.1 q]; exact hnk.name
  have hcnt : ∀ W, Calls Tryd.prog 36 #[.string PS, .string ⟨#[47]⟩] W fun e w' => e = .returned (.int .i64 ((path.length + 1 : Nat) : Int)) ∧ w' = W := fun W => by
    have := Tryd.strings_Count_one PS 47 W
    have e : Lib.countByte PS.data.toList 47 = path.length + 1 := by
      rw [hPS]
      show (Nn.tails (path ++ [n.name.data.toList])).count 47 = _
      rw [Wk.count_tails _ fun s hs => (hns s hs).1]
      simp
    rw [e] at this
    exact this
  have HItm : Hid (∀ (by_ : ByteArray), (⟨PS, n.kind, n.mode, n.time, by_⟩ : Im).it = Wk.item path n.nd by_.data.toList) := fun by_ => by
    show Wk.It.mk _ _ _ _ _ = Wk.It.mk _ _ _ _ _
    have e : PS.data.toList = Nn.joinB (path ++ [n.nd.name]) := by
      rw [Wk.joinB_tails (by simp), hPS]; rfl
    rw [e]; rfl
  have HPS : Hid (PS = mkB (Nn.tails (path ++ [n.name.data.toList]))) := hPS
  rw [← hPS]
  obtain ⟨⟨iv, p1, p2⟩, hmp, ha, hm, hfew⟩ := h
  have hblt : b < w.heap.size := (Array.getElem?_eq_some_iff.1 p1).1
  have hbase : base ≤ w.heap.size := by omega
  have hcells := pair_at p1
  obtain ⟨ia, ic, rfl⟩ := own_form p2
  have HIl : Hid ((its items).length = items.length) := its_length items
  have HR : Hid (R = Wk.rstep (pl bs) (Wk.reapDir (pl bs) k) path n.nd (its items)) := hR
  have HP1 : Hid (w.heap[b]? = some (.cells #[.map (some m), .slice ia items.length ic] 45 (0, 0))) := p1
  have HP2 : Hid (w.ownsRow base 31 5 (.slice ia items.length ic) items.length (rowR imC items)) := p2
  have HMp : Hid (Mp w m nq (mpB bs)) := hmp
  have HNg : Hid (NdG w n (ndC n pv)) := hng
  have HT : Hid (∀ W, Below base w W → Tabs W) := hT
  have HAt : Hid (base ≤ b ∧ base ≤ m) := ⟨ha, hm⟩
  obtain ⟨pv0, epv, hrx, hty, hno⟩ := hng
  obtain ⟨W1, hW1⟩ : ∃ W1, W1 = w.alloc (.cells (ndC n pv).toArray 54) := ⟨_, rfl⟩
  have hB1 : Below w.heap.size w W1 := by rw [hW1]; exact (Below.refl _ w).alloc (Nat.le_refl _) _
  have HB1 : Hid (Below w.heap.size w W1) := hB1
  have HM : Hid (W1.heap[w.heap.size]? = some (.cells (ndC n pv).toArray 54 (0, 0))) := by rw [hW1]; exact heap_alloc_new w _
  have HS1 : Hid (W1.heap.size = w.heap.size + 1) := by show _ = _; rw [hW1, World.size_alloc]
  have hb1 : W1.heap[b]? = some (.cells #[.map (some m), .slice ia items.length ic] 45 (0, 0)) := (hB1.block b hblt).trans p1
  obtain ⟨c0, c1⟩ := pair_at hb1
  skip
  obtain ⟨name, kind, mode, time, size, parts, link⟩ := n
  dsimp only [ndC] at *
  subst hkd
  obtain ⟨pa, pc, epc, hpc1, hpc2⟩ := hrx.slice
  cases epv
  subst epc
  obtain ⟨n0, n1, n2, n3, n4, n5, n6, nlt⟩ := sev_at HM.out
  have HK : Hid (Nk ⟨name, 1, mode, time, size, parts, link⟩) := hnk
  obtain ⟨PN, hPN⟩ : ∃ PN, PN = parts.length := ⟨_, rfl⟩
  have HPN : Hid (PN = parts.length) := hPN
  obtain ⟨IN, hIN⟩ : ∃ IN, IN = items.length := ⟨_, rfl⟩
  have HIN : Hid (IN = items.length) := hIN
  rw [← hIN] at HP1 c1 hfew hb1
  rw [← hPN] at n5 hW1 HM ⊢
  clear hPS hR hcells p1 hmp hT ha hm hrx hty hno hnk hB1 hPN hIN hpc1 hpc2 hb1
  go_enter Tryd.func21, Tryd.ntmps21
  go_upto_region 1 with fail
  rw [← hW1]
  clear hW1
  go_wp2_with fail
  refine (hcnt _).mono ?_
  rintro e u ⟨rfl, hu⟩
  obtain rfl := hu.symm
  clear hcnt hu
  by_cases hdp : 8 ≤ path.length
  · have HRe : Hid (R = ([], 14)) := by show _ = _; rw [HR.out]; unfold Wk.rstep; rw [if_pos hdp]
    have hgt : ((path.length + 1 : Nat) : Int) > 8 := by omega
    generalize path.length = PL at *
    clear HR
    go_wp2_with fail
    go_ret
    exact ⟨by rw [HRe.out]; rfl, Rf.of_below HB1.out hbase, fun e => by rw [HRe.out] at e; cases e⟩
  have hgt : ¬ ((path.length + 1 : Nat) : Int) > 8 := by omega
  by_cases hfl : IN = 100
  · have HRe : Hid (R = ([], 2)) := by show _ = _; rw [HR.out]; unfold Wk.rstep; rw [if_neg hdp, if_pos (by rw [HIl.out, ← HIN.out, hfl]; exact Nat.le_refl _)]
    generalize path.length = PL at *
    subst hfl
    clear HR
    go_wp2_with fail
    go_ret
    exact ⟨by rw [HRe.out]; rfl, Rf.of_below HB1.out hbase, fun e => by rw [HRe.out] at e; cases e⟩
  have hne1 : (((IN : Nat) : Int) == 100) = false := by rw [beq_eq_false_iff_ne]; omega
  obtain ⟨XI, hXI⟩ : ∃ XI, XI = W1.heap.size := ⟨_, rfl⟩
  have HXI : Hid (XI = w.heap.size + 1) := by show _ = _; rw [hXI]; exact HS1.out
  obtain ⟨W2, hW2⟩ : ∃ W2, W2 = W1.alloc (.cells #[.string PS, .int .i64 1, .int .i64 mode, .int .i64 time, .string ⟨#[]⟩] 31) := ⟨_, rfl⟩
  have hB2 : Below W1.heap.size W1 W2 := by rw [hW2]; exact (Below.refl _ W1).alloc (Nat.le_refl _) _
  have HB2 : Hid (Below w.heap.size w W2) := HB1.out.trans (hB2.mono HB1.out.size)
  have HN2 : Hid (W2.heap[w.heap.size]? = some (.cells #[.string name, .int .i64 1, .int .i64 mode, .int .i64 time, .int .i64 size, .slice pa PN pc, .string link] 54 (0, 0))) := (hB2.block _ (Array.getElem?_eq_some_iff.1 HM.out).1).trans HM.out
  have HIT2 : Hid (W2.heap[W1.heap.size]? = some (.cells #[.string PS, .int .i64 1, .int .i64 mode, .int .i64 time, .string ⟨#[]⟩] 31 (0, 0))) := by rw [hW2]; exact heap_alloc_new W1 _
  obtain ⟨F, hF⟩ : ∃ F, F = Wk.reapFile (pl bs) size parts [] := ⟨_, rfl⟩
  have hng2 : NdG W2 ⟨name, 1, mode, time, size, parts, link⟩ [.string name, .int .i64 1, .int .i64 mode, .int .i64 time, .int .i64 size, .slice pa parts.length pc, .string link] :=
    HNg.out.keep HB2.out.size fun q cur fr ho => (HB2.out.block q (Array.getElem?_eq_some_iff.1 ho).1).trans ho
  obtain ⟨pv9, e9, hr9, _, ho9⟩ := hng2
  cases e9
  have hfile := rfile_any b m nq bs ⟨name, 1, mode, time, size, parts, link⟩ (.slice pa parts.length pc) (.slice ia IN ic) W2 ((HB2.out.block b hblt).trans HP1.out) (HMp.out.below HB2.out) hsm hr9 ho9.ids HK.out.size.1 HK.out.size.2 HK.out.many F hF
  dsimp only [ndC] at hfile
  rw [← HPN.out] at hfile
  have HF : Hid (F = Wk.reapFile (pl bs) size parts []) := hF
  obtain ⟨j0, j1, j2, j3, j4, j5, j6, jlt⟩ := sev_at HN2.out
  obtain ⟨PL, hPL⟩ : ∃ PL, PL = path.length := ⟨_, rfl⟩
  have HPL : Hid (PL = path.length) := hPL
  rw [← hPL] at hgt ⊢
  clear hPL hr9 ho9 hF
  go_wp2_with fail
  go_upto_region 9 with fail
  rw [← hW2]
  clear hW2 n0 n1 n2 n3 n4 n5 n6 nlt c0 c1
  rw [← hXI] at HIT2 ⊢
  clear hXI
  have hfile' : Calls Tryd.prog 37 #[.pointer (some ⟨b, 0, none⟩), .agg #[.string name, .int .i64 1, .int .i64 mode, .int .i64 time, .int .i64 size, .slice pa PN pc, .string link]] W2 fun e w' => e = .returned (.tuple #[.string ⟨F.1.toArray⟩, .int .i64 F.2]) ∧ Below W2.heap.size W2 w' ∧ F.1.length ≤ 4096 := hfile
  obtain ⟨BY, hBY⟩ : ∃ BY : ByteArray, BY = ⟨F.1.toArray⟩ := ⟨_, rfl⟩
  have HBY : Hid (BY = ⟨F.1.toArray⟩) := hBY
  rw [← hBY] at hfile'
  clear hBY hfile
  go_wp2_with fail
  refine hfile'.mono ?_
  rintro e w3 ⟨rfl, b3, _⟩
  have hit3 : w3.heap[XI]? = some (.cells #[.string PS, .int .i64 1, .int .i64 mode, .int .i64 time, .string ⟨#[]⟩] 31 (0, 0)) := (b3.block _ (Array.getElem?_eq_some_iff.1 HIT2.out).1).trans HIT2.out
  have hn3 : w3.heap[w.heap.size]? = some (.cells #[.string name, .int .i64 1, .int .i64 mode, .int .i64 time, .int .i64 size, .slice pa PN pc, .string link] 54 (0, 0)) := (b3.block _ (Array.getElem?_eq_some_iff.1 HN2.out).1).trans HN2.out
  have HB3 : Hid (Below w.heap.size w w3) := HB2.out.trans (b3.mono HB2.out.size)
  obtain ⟨k0, k1, k2, k3, k4, klt⟩ := five_at hit3
  have kf := free_at hit3 4
  obtain ⟨WX, hWX⟩ : ∃ WX, WX = w3.setCell ⟨XI, 4, none⟩ (.string BY) := ⟨_, rfl⟩
  have HBX : Hid (Below w.heap.size w WX) := by
    have hx := HXI.out
    rw [hWX]; exact HB3.out.setCell (by show w.heap.size ≤ XI; omega) _
  have HNX : Hid (WX.heap[w.heap.size]? = some (.cells #[.string name, .int .i64 1, .int .i64 mode, .int .i64 time, .int .i64 size, .slice pa PN pc, .string link] 54 (0, 0))) := by
    have hx := HXI.out
    show _ = _
    rw [hWX, Below.heap_setCell _ _ _ _ (by show w.heap.size ≠ XI; omega)]; exact hn3
  have HITX : Hid (WX.heap[XI]? = some (.cells #[.string PS, .int .i64 1, .int .i64 mode, .int .i64 time, .string BY] 31 (0, 0))) := by
    show _ = _
    rw [hWX]
    simpa using set_at hit3 4 (.string BY)
  obtain ⟨j0, j1, j2, j3, j4, j5, j6, jlt⟩ := sev_at HNX.out
  clear hfile' b3 hit3 hn3
  by_cases hE : F.2 = 0
  case neg =>
    have HRe : Hid (R = ([], F.2)) := by
      show _ = _
      rw [HR.out]
      unfold Wk.rstep
      rw [if_neg hdp, if_neg (by rw [HIl.out, ← HIN.out]; omega)]
      have e : (if (Nod.nd ⟨name, 1, mode, time, size, parts, link⟩).kind = 1 then Wk.reapFile (pl bs) (Nod.nd ⟨name, 1, mode, time, size, parts, link⟩).size (Nod.nd ⟨name, 1, mode, time, size, parts, link⟩).parts [] else ((Nod.nd ⟨name, 1, mode, time, size, parts, link⟩).link, 0)) = F := by rw [HF.out]; rfl
      rw [e, if_pos hE]
    obtain ⟨ER, hER⟩ : ∃ ER, F.2 = ER := ⟨_, rfl⟩
    have hne : (ER != 0) = true := by rw [← hER, bne_iff_ne]; exact hE
    have HE : Hid (ER ≠ 0) := by show _ ≠ _; rw [← hER]; exact hE
    rw [hER] at HRe ⊢
    clear hER hE HR
    go_wp2_with fail
    rw [← hWX]
    go_ret
    exact ⟨by rw [HRe.out]; rfl, Rf.of_below HBX.out hbase, fun e => by rw [HRe.out] at e; exact absurd e HE.out⟩
  rw [hE]
  go_upto_region 14 with fail
  rw [← hWX]
  clear hWX k0 k1 k2 k3 k4 kf klt
  have hp2X : WX.ownsRow base 31 5 (.slice ia IN ic) IN (rowR imC items) := by rw [HIN.out]; exact own_below HP2.out HBX.out
  have HP2X : Hid (WX.ownsRow base 31 5 (.slice ia IN ic) IN (rowR imC items)) := hp2X
  have HP1X : Hid (WX.heap[b]? = some (.cells #[.map (some m), .slice ia IN ic] 45 (0, 0))) := (HBX.out.block b hblt).trans HP1.out
  obtain ⟨u0, u1, u2, u3, u4, ult⟩ := five_at HITX.out
  obtain ⟨c0, c1⟩ := pair_at HP1X.out
  have HObl : Hid (∀ g, (Value.slice ia IN ic).ownBlock = some g → g ≠ b ∧ g < WX.heap.size ∧ base ≤ g ∧ g ≠ m ∧ ∃ cur, WX.heap[g]? = some (.cells cur 31 (0, 0))) := fun g hg => by
    obtain ⟨cur, hc, h2, h3⟩ := own_block HP2X.out hg
    refine ⟨fun e => ?_, h3, h2, fun e => ?_, cur, hc⟩
    · subst e; rw [HP1X.out] at hc; cases hc
    · subst e
      obtain ⟨es, ck, hk⟩ := (HMp.out.below HBX.out).isMap
      rw [hk] at hc
      cases hc
  have hrow : ∀ o2, ((WX.alloc o2).drew).ownsRow base 31 5 (.slice ia IN ic) IN (rowR imC items) := fun o2 => (hp2X.alloc o2).drew
  have HQ : Hid (∀ o2 w1, ((WX.alloc o2).drew).grownBy w1 (Value.slice ia IN ic).ownBlock → w1.heap[b]? = some (.cells #[.map (some m), .slice ia IN ic] 45 (0, 0)) ∧ Kept (fun k => (Value.slice ia IN ic).ownBlock ≠ some k) WX w1) := by
    intro o2 w1 hg
    have hk : Kept (fun k => (Value.slice ia IN ic).ownBlock ≠ some k) WX w1 := Kept.grown ((Kept.refl _ WX).alloc o2).drew hg fun k hk hp => hp hk
    exact ⟨hk.obj (fun e => (HObl.out _ e).1 rfl) HP1X.out, hk⟩
  have hbX : b < WX.heap.size := (Array.getElem?_eq_some_iff.1 HP1X.out).1
  have hbw : base ≤ WX.heap.size := Nat.le_trans hbase HBX.out.size
  go_cut [] from 45 (fun wx => Hid (∃ g cap, wx.ownsRow base 31 5 (.slice (some ⟨g, 0, none⟩) (IN + 1) cap) (IN + 1) (rowR imC items ++ [.string PS, .int .i64 1, .int .i64 mode, .int .i64 time, .string BY]) ∧
    wx.heap[b]? = some (.cells #[.map (some m), .slice (some ⟨g, 0, none⟩) (IN + 1) cap] 45 (0, 0)) ∧ Kept (fun k => k ≠ b ∧ (Value.slice ia IN ic).ownBlock ≠ some k) WX wx))
  case first =>
    go_region_law ((refine step_append_lies _ (by rfl) (.tmp 49) (.tmp 51) 25 (by rfl) base 31 i0 (.agg #[.string ⟨#[]⟩, .int .i64 0, .int .i64 0, .int .i64 0, .string ⟨#[]⟩]) 5 56 Tryd.underlying25 hi hz0 hz1 hz2 rfl (by decide) (.slice ia IN ic) IN (rowR imC items) (by rfl) (hrow _) ⟨WX.heap.size, 0, none⟩ 1 1 [.string PS, .int .i64 1, .int .i64 mode, .int .i64 time, .string BY] (by rfl) (by rfl) (itm_at (by simp) (by simp) (by simp) (by simp) (by simp)) (by simp [Value.oneCell']) (by decide) (by unfold maxLen; omega) (by omega) (by simp; omega) (WX.heap.size + 1) (by simp) ?_; intro g cap w1 hown1 hgrow hat hlt; obtain ⟨q1, q2⟩ := HQ.out _ _ hgrow; obtain ⟨z0, z1⟩ := pair_at q1; have zf := free_at q1 1))
    all_goals
      go_wp2_with fail
      go_meet
      have hgb : g ≠ b := fun e => by
        rcases hat with h | h
        · exact (HObl.out g h).1 e
        · omega
      exact ⟨g, cap, own_kept hown1 ((Kept.refl _ w1).setCell (p := fun k => k ≠ b) (by simp) _) (fun g' hg' e => hgb (by cases hg'; exact e)), set_one q1 _, (q2.mono fun _ h => h.2).setCell (fun h => h.1 rfl) _⟩
  case rest =>
  obtain ⟨g, cap, hown, hbc, hk⟩ := hcut.out
  have HK9 : Hid (Kept (fun k => k ≠ b ∧ (Value.slice ia IN ic).ownBlock ≠ some k) WX wc) := hk
  have HRf : Hid (Rf base w wc) := by
    refine ⟨(HBX.out.mono hbase).trans (hk.below hbw fun j hj => ⟨by have := HAt.out.1; omega, fun e => by have := (HObl.out j e).2.2.1; omega⟩), (Ko.of_below HBX.out).trans (Ko.of_kept hk fun j o ho hp => ⟨fun e => ?_, fun e => ?_⟩)⟩
    · subst e
      rw [HP1X.out] at ho
      cases ho
      exact hp.2 rfl
    · obtain ⟨cur, hc⟩ := (HObl.out j e).2.2.2.2
      rw [hc] at ho
      cases ho
      exact hp.1 rfl
  have HRp : Hid (Rpt base b m nq bs wc (items ++ [⟨PS, 1, mode, time, BY⟩])) := by
    refine ⟨⟨_, hbc, ?_⟩, (HMp.out.below HBX.out).obj fun es ck ho => (hk.block m ((HMp.out.below HBX.out).lt) ⟨fun e => ?_, fun e => (HObl.out m e).2.2.2.1 rfl⟩).trans ho, HAt.out.1, HAt.out.2, by rw [List.length_append, ← HIN.out]; simp; omega⟩
    · rw [List.length_append, ← HIN.out, rowR_more]
      exact hown
    · subst e
      rw [HP1X.out] at ho
      cases ho
  have HItx : Hid (its (items ++ [⟨PS, 1, mode, time, BY⟩]) = its items ++ [Wk.item path (Nod.nd ⟨name, 1, mode, time, size, parts, link⟩) BY.data.toList]) := by
    show _ = _
    rw [← HItm.out BY]
    simp [its]
  have hn9 : wc.heap[w.heap.size]? = some (.cells #[.string name, .int .i64 1, .int .i64 mode, .int .i64 time, .int .i64 size, .slice pa PN pc, .string link] 54 (0, 0)) := by
    have h1 := HNX.out
    have h2 := hk.block w.heap.size (Array.getElem?_eq_some_iff.1 h1).1 ⟨fun e => by omega, fun e => by
      obtain ⟨cur, hc⟩ := (HObl.out _ e).2.2.2.2
      rw [h1] at hc
      cases hc⟩
    exact h2.trans h1
  obtain ⟨n0, n1, n2, n3, n4, n5, n6, nlt⟩ := sev_at hn9
  clear hown hbc hk hcut HQ hrow u0 u1 u2 u3 u4 c0 c1 hp2X hn9
  have HRe : Hid (R = (its items ++ [Wk.item path (Nod.nd ⟨name, 1, mode, time, size, parts, link⟩) BY.data.toList], 0)) := by
    show _ = _
    rw [HR.out, HBY.out]
    unfold Wk.rstep
    rw [if_neg hdp, if_neg (by rw [HIl.out, ← HIN.out]; omega)]
    have e : (if (Nod.nd ⟨name, 1, mode, time, size, parts, link⟩).kind = 1 then Wk.reapFile (pl bs) (Nod.nd ⟨name, 1, mode, time, size, parts, link⟩).size (Nod.nd ⟨name, 1, mode, time, size, parts, link⟩).parts [] else ((Nod.nd ⟨name, 1, mode, time, size, parts, link⟩).link, 0)) = F := by rw [HF.out]; rfl
    rw [e, if_neg (fun q => q hE), if_neg (by show ¬ (1 : Int) = 2; decide)]
  clear HR
  go_wp2_with fail
  go_ret
  exact ⟨by rw [HRe.out]; rfl, HRf.out, fun _ => ⟨_, by rw [HItx.out, HRe.out], HRp.out⟩⟩

set_option maxHeartbeats 4000000 in
set_option maxRecDepth 10000 in
theorem rnode_dir (base b m nq : Nat) (bs : List Blb) (_ : Sm bs) (k : Nat) (hd : 1 ≤ k → RDirOk base b m nq bs k) (path : List Name) (hpk : path.length + (k + 1) = 9) (hps : ∀ s ∈ path, (47 : UInt8) ∉ s ∧ s.length ≤ 1024) (n : Nod) (pv : Value) (hnk : Nk n) (hkd : n.kind = 2) (items : List Im) (w : World)
    (h : Rpt base b m nq bs w items) (hng : NdG w n (ndC n pv)) (hT : ∀ W, Below base w W → Tabs W) (R : List Wk.It × Int) (hR : R = Wk.rstep (pl bs) (Wk.reapDir (pl bs) k) path n.nd (its items)) :
    Calls Tryd.prog 21 #[.pointer (some ⟨b, 0, none⟩), .agg (ndC n pv).toArray, .string (mkB (Nn.tails (path ++ [n.name.data.toList])))] w fun e w' => e = .returned (.int .i64 R.2) ∧ Rf base w w' ∧ (R.2 = 0 → ∃ items', its items' = R.1 ∧ Rpt base b m nq bs w' items') := by
  obtain ⟨i0, hi, hz0, hz1, hz2⟩ := info_parts info_itm
  obtain ⟨PS, hPS⟩ : ∃ PS, PS = mkB (Nn.tails (path ++ [n.name.data.toList])) := ⟨_, rfl⟩
  have hns : ∀ s ∈ path ++ [n.name.data.toList], (47 : UInt8) ∉ s ∧ s.length ≤ 1024 := fun s hs => by
    rcases List.mem_append.1 hs with q | q
    · exact hps s q
    · rw [List.mem_singleton.1 q]; exact hnk.name
  have hcnt : ∀ W, Calls Tryd.prog 36 #[.string PS, .string ⟨#[47]⟩] W fun e w' => e = .returned (.int .i64 ((path.length + 1 : Nat) : Int)) ∧ w' = W := fun W => by
    have := Tryd.strings_Count_one PS 47 W
    have e : Lib.countByte PS.data.toList 47 = path.length + 1 := by
      rw [hPS]
      show (Nn.tails (path ++ [n.name.data.toList])).count 47 = _
      rw [Wk.count_tails _ fun s hs => (hns s hs).1]
      simp
    rw [e] at this
    exact this
  have HItm : Hid (∀ (by_ : ByteArray), (⟨PS, n.kind, n.mode, n.time, by_⟩ : Im).it = Wk.item path n.nd by_.data.toList) := fun by_ => by
    show Wk.It.mk _ _ _ _ _ = Wk.It.mk _ _ _ _ _
    have e : PS.data.toList = Nn.joinB (path ++ [n.nd.name]) := by
      rw [Wk.joinB_tails (by simp), hPS]; rfl
    rw [e]; rfl
  have HPS : Hid (PS = mkB (Nn.tails (path ++ [n.name.data.toList]))) := hPS
  rw [← hPS]
  obtain ⟨⟨iv, p1, p2⟩, hmp, ha, hm, hfew⟩ := h
  have hblt : b < w.heap.size := (Array.getElem?_eq_some_iff.1 p1).1
  have hbase : base ≤ w.heap.size := by omega
  have hcells := pair_at p1
  obtain ⟨ia, ic, rfl⟩ := own_form p2
  have HIl : Hid ((its items).length = items.length) := its_length items
  have HR : Hid (R = Wk.rstep (pl bs) (Wk.reapDir (pl bs) k) path n.nd (its items)) := hR
  have HP1 : Hid (w.heap[b]? = some (.cells #[.map (some m), .slice ia items.length ic] 45 (0, 0))) := p1
  have HP2 : Hid (w.ownsRow base 31 5 (.slice ia items.length ic) items.length (rowR imC items)) := p2
  have HMp : Hid (Mp w m nq (mpB bs)) := hmp
  have HNg : Hid (NdG w n (ndC n pv)) := hng
  have HT : Hid (∀ W, Below base w W → Tabs W) := hT
  have HAt : Hid (base ≤ b ∧ base ≤ m) := ⟨ha, hm⟩
  obtain ⟨pv0, epv, hrx, hty, hno⟩ := hng
  obtain ⟨W1, hW1⟩ : ∃ W1, W1 = w.alloc (.cells (ndC n pv).toArray 54) := ⟨_, rfl⟩
  have hB1 : Below w.heap.size w W1 := by rw [hW1]; exact (Below.refl _ w).alloc (Nat.le_refl _) _
  have HB1 : Hid (Below w.heap.size w W1) := hB1
  have HM : Hid (W1.heap[w.heap.size]? = some (.cells (ndC n pv).toArray 54 (0, 0))) := by rw [hW1]; exact heap_alloc_new w _
  have HS1 : Hid (W1.heap.size = w.heap.size + 1) := by show _ = _; rw [hW1, World.size_alloc]
  have hb1 : W1.heap[b]? = some (.cells #[.map (some m), .slice ia items.length ic] 45 (0, 0)) := (hB1.block b hblt).trans p1
  obtain ⟨c0, c1⟩ := pair_at hb1
  skip
  obtain ⟨name, kind, mode, time, size, parts, link⟩ := n
  dsimp only [ndC] at *
  subst hkd
  obtain ⟨pa, pc, epc, hpc1, hpc2⟩ := hrx.slice
  cases epv
  subst epc
  obtain ⟨n0, n1, n2, n3, n4, n5, n6, nlt⟩ := sev_at HM.out
  have HK : Hid (Nk ⟨name, 2, mode, time, size, parts, link⟩) := hnk
  obtain ⟨PN, hPN⟩ : ∃ PN, PN = parts.length := ⟨_, rfl⟩
  have HPN : Hid (PN = parts.length) := hPN
  obtain ⟨IN, hIN⟩ : ∃ IN, IN = items.length := ⟨_, rfl⟩
  have HIN : Hid (IN = items.length) := hIN
  rw [← hIN] at HP1 c1 hfew hb1
  rw [← hPN] at n5 hW1 HM ⊢
  clear hPS hR hcells p1 hmp hT ha hm hrx hty hno hnk hB1 hPN hIN hpc1 hpc2 hb1
  go_enter Tryd.func21, Tryd.ntmps21
  go_upto_region 1 with fail
  rw [← hW1]
  clear hW1
  go_wp2_with fail
  refine (hcnt _).mono ?_
  rintro e u ⟨rfl, hu⟩
  obtain rfl := hu.symm
  clear hcnt hu
  by_cases hdp : 8 ≤ path.length
  · have HRe : Hid (R = ([], 14)) := by show _ = _; rw [HR.out]; unfold Wk.rstep; rw [if_pos hdp]
    have hgt : ((path.length + 1 : Nat) : Int) > 8 := by omega
    generalize path.length = PL at *
    clear HR
    go_wp2_with fail
    go_ret
    exact ⟨by rw [HRe.out]; rfl, Rf.of_below HB1.out hbase, fun e => by rw [HRe.out] at e; cases e⟩
  have hgt : ¬ ((path.length + 1 : Nat) : Int) > 8 := by omega
  by_cases hfl : IN = 100
  · have HRe : Hid (R = ([], 2)) := by show _ = _; rw [HR.out]; unfold Wk.rstep; rw [if_neg hdp, if_pos (by rw [HIl.out, ← HIN.out, hfl]; exact Nat.le_refl _)]
    generalize path.length = PL at *
    subst hfl
    clear HR
    go_wp2_with fail
    go_ret
    exact ⟨by rw [HRe.out]; rfl, Rf.of_below HB1.out hbase, fun e => by rw [HRe.out] at e; cases e⟩
  have hne1 : (((IN : Nat) : Int) == 100) = false := by rw [beq_eq_false_iff_ne]; omega
  obtain ⟨XI, hXI⟩ : ∃ XI, XI = W1.heap.size := ⟨_, rfl⟩
  have HXI : Hid (XI = w.heap.size + 1) := by show _ = _; rw [hXI]; exact HS1.out
  obtain ⟨WX, hWX⟩ : ∃ WX, WX = W1.alloc (.cells #[.string PS, .int .i64 2, .int .i64 mode, .int .i64 time, .string ⟨#[]⟩] 31) := ⟨_, rfl⟩
  have hBX : Below W1.heap.size W1 WX := by rw [hWX]; exact (Below.refl _ W1).alloc (Nat.le_refl _) _
  have HBX : Hid (Below w.heap.size w WX) := HB1.out.trans (hBX.mono HB1.out.size)
  have HNX : Hid (WX.heap[w.heap.size]? = some (.cells #[.string name, .int .i64 2, .int .i64 mode, .int .i64 time, .int .i64 size, .slice pa PN pc, .string link] 54 (0, 0))) := (hBX.block _ (Array.getElem?_eq_some_iff.1 HM.out).1).trans HM.out
  have hitX : WX.heap[W1.heap.size]? = some (.cells #[.string PS, .int .i64 2, .int .i64 mode, .int .i64 time, .string ⟨#[]⟩] 31 (0, 0)) := by rw [hWX]; exact heap_alloc_new W1 _
  obtain ⟨PL, hPL⟩ : ∃ PL, PL = path.length := ⟨_, rfl⟩
  have HPL : Hid (PL = path.length) := hPL
  rw [← hPL] at hgt ⊢
  clear hPL
  go_wp2_with fail
  go_upto_region 14 with fail
  rw [← hWX]
  clear hWX hBX n0 n1 n2 n3 n4 n5 n6 nlt c0 c1
  rw [← hXI] at hitX ⊢
  clear hXI
  obtain ⟨BY, hBY⟩ : ∃ BY : ByteArray, BY = ⟨#[]⟩ := ⟨_, rfl⟩
  have HBY : Hid (BY = ⟨#[]⟩) := hBY
  rw [← hBY] at hitX
  clear hBY
  have HITX : Hid (WX.heap[XI]? = some (.cells #[.string PS, .int .i64 2, .int .i64 mode, .int .i64 time, .string BY] 31 (0, 0))) := hitX
  clear hitX
  have hp2X : WX.ownsRow base 31 5 (.slice ia IN ic) IN (rowR imC items) := by rw [HIN.out]; exact own_below HP2.out HBX.out
  have HP2X : Hid (WX.ownsRow base 31 5 (.slice ia IN ic) IN (rowR imC items)) := hp2X
  have HP1X : Hid (WX.heap[b]? = some (.cells #[.map (some m), .slice ia IN ic] 45 (0, 0))) := (HBX.out.block b hblt).trans HP1.out
  obtain ⟨u0, u1, u2, u3, u4, ult⟩ := five_at HITX.out
  obtain ⟨c0, c1⟩ := pair_at HP1X.out
  have HObl : Hid (∀ g, (Value.slice ia IN ic).ownBlock = some g → g ≠ b ∧ g < WX.heap.size ∧ base ≤ g ∧ g ≠ m ∧ ∃ cur, WX.heap[g]? = some (.cells cur 31 (0, 0))) := fun g hg => by
    obtain ⟨cur, hc, h2, h3⟩ := own_block HP2X.out hg
    refine ⟨fun e => ?_, h3, h2, fun e => ?_, cur, hc⟩
    · subst e; rw [HP1X.out] at hc; cases hc
    · subst e
      obtain ⟨es, ck, hk⟩ := (HMp.out.below HBX.out).isMap
      rw [hk] at hc
      cases hc
  have hrow : ∀ o2, ((WX.alloc o2).drew).ownsRow base 31 5 (.slice ia IN ic) IN (rowR imC items) := fun o2 => (hp2X.alloc o2).drew
  have HQ : Hid (∀ o2 w1, ((WX.alloc o2).drew).grownBy w1 (Value.slice ia IN ic).ownBlock → w1.heap[b]? = some (.cells #[.map (some m), .slice ia IN ic] 45 (0, 0)) ∧ Kept (fun k => (Value.slice ia IN ic).ownBlock ≠ some k) WX w1) := by
    intro o2 w1 hg
    have hk : Kept (fun k => (Value.slice ia IN ic).ownBlock ≠ some k) WX w1 := Kept.grown ((Kept.refl _ WX).alloc o2).drew hg fun k hk hp => hp hk
    exact ⟨hk.obj (fun e => (HObl.out _ e).1 rfl) HP1X.out, hk⟩
  have hbX : b < WX.heap.size := (Array.getElem?_eq_some_iff.1 HP1X.out).1
  have hbw : base ≤ WX.heap.size := Nat.le_trans hbase HBX.out.size
  go_cut [] from 45 (fun wx => Hid (∃ g cap, wx.ownsRow base 31 5 (.slice (some ⟨g, 0, none⟩) (IN + 1) cap) (IN + 1) (rowR imC items ++ [.string PS, .int .i64 2, .int .i64 mode, .int .i64 time, .string BY]) ∧
    wx.heap[b]? = some (.cells #[.map (some m), .slice (some ⟨g, 0, none⟩) (IN + 1) cap] 45 (0, 0)) ∧ Kept (fun k => k ≠ b ∧ (Value.slice ia IN ic).ownBlock ≠ some k) WX wx))
  case first =>
    go_region_law ((refine step_append_lies _ (by rfl) (.tmp 49) (.tmp 51) 25 (by rfl) base 31 i0 (.agg #[.string ⟨#[]⟩, .int .i64 0, .int .i64 0, .int .i64 0, .string ⟨#[]⟩]) 5 56 Tryd.underlying25 hi hz0 hz1 hz2 rfl (by decide) (.slice ia IN ic) IN (rowR imC items) (by rfl) (hrow _) ⟨WX.heap.size, 0, none⟩ 1 1 [.string PS, .int .i64 2, .int .i64 mode, .int .i64 time, .string BY] (by rfl) (by rfl) (itm_at (by simp) (by simp) (by simp) (by simp) (by simp)) (by simp [Value.oneCell']) (by decide) (by unfold maxLen; omega) (by omega) (by simp; omega) (WX.heap.size + 1) (by simp) ?_; intro g cap w1 hown1 hgrow hat hlt; obtain ⟨q1, q2⟩ := HQ.out _ _ hgrow; obtain ⟨z0, z1⟩ := pair_at q1; have zf := free_at q1 1))
    all_goals
      go_wp2_with fail
      go_meet
      have hgb : g ≠ b := fun e => by
        rcases hat with h | h
        · exact (HObl.out g h).1 e
        · omega
      exact ⟨g, cap, own_kept hown1 ((Kept.refl _ w1).setCell (p := fun k => k ≠ b) (by simp) _) (fun g' hg' e => hgb (by cases hg'; exact e)), set_one q1 _, (q2.mono fun _ h => h.2).setCell (fun h => h.1 rfl) _⟩
  case rest =>
  obtain ⟨g, cap, hown, hbc, hk⟩ := hcut.out
  have HK9 : Hid (Kept (fun k => k ≠ b ∧ (Value.slice ia IN ic).ownBlock ≠ some k) WX wc) := hk
  have HRf : Hid (Rf base w wc) := by
    refine ⟨(HBX.out.mono hbase).trans (hk.below hbw fun j hj => ⟨by have := HAt.out.1; omega, fun e => by have := (HObl.out j e).2.2.1; omega⟩), (Ko.of_below HBX.out).trans (Ko.of_kept hk fun j o ho hp => ⟨fun e => ?_, fun e => ?_⟩)⟩
    · subst e
      rw [HP1X.out] at ho
      cases ho
      exact hp.2 rfl
    · obtain ⟨cur, hc⟩ := (HObl.out j e).2.2.2.2
      rw [hc] at ho
      cases ho
      exact hp.1 rfl
  have HRp : Hid (Rpt base b m nq bs wc (items ++ [⟨PS, 2, mode, time, BY⟩])) := by
    refine ⟨⟨_, hbc, ?_⟩, (HMp.out.below HBX.out).obj fun es ck ho => (hk.block m ((HMp.out.below HBX.out).lt) ⟨fun e => ?_, fun e => (HObl.out m e).2.2.2.1 rfl⟩).trans ho, HAt.out.1, HAt.out.2, by rw [List.length_append, ← HIN.out]; simp; omega⟩
    · rw [List.length_append, ← HIN.out, rowR_more]
      exact hown
    · subst e
      rw [HP1X.out] at ho
      cases ho
  have HItx : Hid (its (items ++ [⟨PS, 2, mode, time, BY⟩]) = its items ++ [Wk.item path (Nod.nd ⟨name, 2, mode, time, size, parts, link⟩) BY.data.toList]) := by
    show _ = _
    rw [← HItm.out BY]
    simp [its]
  have hn9 : wc.heap[w.heap.size]? = some (.cells #[.string name, .int .i64 2, .int .i64 mode, .int .i64 time, .int .i64 size, .slice pa PN pc, .string link] 54 (0, 0)) := by
    have h1 := HNX.out
    have h2 := hk.block w.heap.size (Array.getElem?_eq_some_iff.1 h1).1 ⟨fun e => by omega, fun e => by
      obtain ⟨cur, hc⟩ := (HObl.out _ e).2.2.2.2
      rw [h1] at hc
      cases hc⟩
    exact h2.trans h1
  obtain ⟨n0, n1, n2, n3, n4, n5, n6, nlt⟩ := sev_at hn9
  clear hown hbc hk hcut HQ hrow u0 u1 u2 u3 u4 c0 c1 hp2X hn9
  have hp1 : parts.length = 1 := (HK.out.dir rfl).1
  have hlk : link.data.toList = [] := (HK.out.dir rfl).2
  obtain ⟨idp, rfl⟩ : ∃ idp, parts = [idp] := by
    match parts, hp1 with
    | [x], _ => exact ⟨x, rfl⟩
  have HRe : Hid (R = Wk.reapDir (pl bs) k idp (path ++ [name.data.toList]) (its items ++ [Wk.item path (Nod.nd ⟨name, 2, mode, time, size, [idp], link⟩) BY.data.toList])) := by
    show _ = _
    rw [HR.out, HBY.out]
    unfold Wk.rstep
    rw [if_neg hdp, if_neg (by rw [HIl.out, ← HIN.out]; omega)]
    have e : (if (Nod.nd ⟨name, 2, mode, time, size, [idp], link⟩).kind = 1 then Wk.reapFile (pl bs) (Nod.nd ⟨name, 2, mode, time, size, [idp], link⟩).size (Nod.nd ⟨name, 2, mode, time, size, [idp], link⟩).parts [] else ((Nod.nd ⟨name, 2, mode, time, size, [idp], link⟩).link, 0)) = ([], 0) := by
      rw [if_neg (by show ¬ (2 : Int) = 1; decide)]
      exact Prod.ext hlk rfl
    rw [e, if_neg (fun q => q rfl), if_pos (show (Nod.nd ⟨name, 2, mode, time, size, [idp], link⟩).kind = 2 from rfl)]
    rfl
  have hng9 : NdG wc ⟨name, 2, mode, time, size, [idp], link⟩ [.string name, .int .i64 2, .int .i64 mode, .int .i64 time, .int .i64 size, .slice pa [idp].length pc, .string link] :=
    HNg.out.keep (Nat.le_trans HBX.out.size HK9.out.size) fun q cur fr ho => by
      have h1 := (HBX.out.block q (Array.getElem?_eq_some_iff.1 ho).1).trans ho
      exact (HK9.out.block q (Array.getElem?_eq_some_iff.1 h1).1 ⟨fun e => (by subst e; rw [HP1X.out] at h1; cases h1), fun e => by
        obtain ⟨cur', hc⟩ := (HObl.out _ e).2.2.2.2
        rw [h1] at hc
        cases hc⟩).trans h1
  obtain ⟨pv9, e9, hr9, _, ho9⟩ := hng9
  cases e9
  have hid8 := ho9.ids idp List.mem_cons_self
  obtain ⟨kb, ko, rfl, hkb, hcell⟩ := hr9.get 0 idp rfl
  have hpnn : PN = 1 := HPN.out
  subst hpnn
  have hdir := hd (by omega) (path ++ [name.data.toList]) idp _ wc (by rw [List.length_append]; simp; omega) (fun s hs => by
    rcases List.mem_append.1 hs with q | q
    · exact hps s q
    · rw [List.mem_singleton.1 q]; exact HK.out.name) hid8 HRp.out (fun W hW => HT.out W (HRf.out.low.trans hW)) R (by rw [HRe.out, HItx.out])
  rw [← HPS.out] at hdir
  obtain ⟨b0, b1, b2, b3, b4, b5, b6, b7, rfl⟩ := eight idp hid8
  obtain ⟨x0, x1, x2, x3, x4, x5, x6, x7⟩ : wc.cell? ⟨kb, ko, none⟩ = some (.int .u8 (b0.toNat : Int)) ∧ wc.cell? ⟨kb, ko + 1, none⟩ = some (.int .u8 (b1.toNat : Int)) ∧ wc.cell? ⟨kb, ko + 2, none⟩ = some (.int .u8 (b2.toNat : Int)) ∧ wc.cell? ⟨kb, ko + 3, none⟩ = some (.int .u8 (b3.toNat : Int)) ∧
      wc.cell? ⟨kb, ko + 4, none⟩ = some (.int .u8 (b4.toNat : Int)) ∧ wc.cell? ⟨kb, ko + 5, none⟩ = some (.int .u8 (b5.toNat : Int)) ∧ wc.cell? ⟨kb, ko + 6, none⟩ = some (.int .u8 (b6.toNat : Int)) ∧ wc.cell? ⟨kb, ko + 7, none⟩ = some (.int .u8 (b7.toNat : Int)) := by
    have q := fun r u hu => hcell r u hu
    simp only [Nat.zero_mul, Nat.add_zero] at q
    exact ⟨q 0 _ rfl, q 1 _ rfl, q 2 _ rfl, q 3 _ rfl, q 4 _ rfl, q 5 _ rfl, q 6 _ rfl, q 7 _ rfl⟩
  have hdir' : Calls Tryd.prog 12 #[.pointer (some ⟨b, 0, none⟩), .agg #[.int .u8 (b0.toNat : Int), .int .u8 (b1.toNat : Int), .int .u8 (b2.toNat : Int), .int .u8 (b3.toNat : Int), .int .u8 (b4.toNat : Int), .int .u8 (b5.toNat : Int), .int .u8 (b6.toNat : Int), .int .u8 (b7.toNat : Int)], .string PS] wc fun e w' => e = .returned (.int .i64 R.2) ∧ Rf base wc w' ∧ (R.2 = 0 → ∃ items', its items' = R.1 ∧ Rpt base b m nq bs w' items') := hdir
  clear hdir hr9 ho9 hcell hid8 hp1 hd HR
  go_wp2_with fail
  refine hdir'.mono ?_
  rintro e w9 ⟨rfl, f9, hz⟩
  have HZ : Hid (Rf base w w9 ∧ (R.2 = 0 → ∃ items', its items' = R.1 ∧ Rpt base b m nq bs w9 items')) := ⟨HRf.out.trans f9, hz⟩
  clear hdir' f9 hz x0 x1 x2 x3 x4 x5 x6 x7
  go_wp2_with fail
  go_ret
  exact ⟨rfl, HZ.out.1, HZ.out.2⟩

set_option maxHeartbeats 4000000 in
set_option maxRecDepth 10000 in
theorem rnode_link (base b m nq : Nat) (bs : List Blb) (_ : Sm bs) (k : Nat) (_ : 1 ≤ k → RDirOk base b m nq bs k) (path : List Name) (hpk : path.length + (k + 1) = 9) (hps : ∀ s ∈ path, (47 : UInt8) ∉ s ∧ s.length ≤ 1024) (n : Nod) (pv : Value) (hnk : Nk n) (hkd : n.kind = 3) (items : List Im) (w : World)
    (h : Rpt base b m nq bs w items) (hng : NdG w n (ndC n pv)) (hT : ∀ W, Below base w W → Tabs W) (R : List Wk.It × Int) (hR : R = Wk.rstep (pl bs) (Wk.reapDir (pl bs) k) path n.nd (its items)) :
    Calls Tryd.prog 21 #[.pointer (some ⟨b, 0, none⟩), .agg (ndC n pv).toArray, .string (mkB (Nn.tails (path ++ [n.name.data.toList])))] w fun e w' => e = .returned (.int .i64 R.2) ∧ Rf base w w' ∧ (R.2 = 0 → ∃ items', its items' = R.1 ∧ Rpt base b m nq bs w' items') := by
  obtain ⟨i0, hi, hz0, hz1, hz2⟩ := info_parts info_itm
  obtain ⟨PS, hPS⟩ : ∃ PS, PS = mkB (Nn.tails (path ++ [n.name.data.toList])) := ⟨_, rfl⟩
  have hns : ∀ s ∈ path ++ [n.name.data.toList], (47 : UInt8) ∉ s ∧ s.length ≤ 1024 := fun s hs => by
    rcases List.mem_append.1 hs with q | q
    · exact hps s q
    · rw [List.mem_singleton.1 q]; exact hnk.name
  have hcnt : ∀ W, Calls Tryd.prog 36 #[.string PS, .string ⟨#[47]⟩] W fun e w' => e = .returned (.int .i64 ((path.length + 1 : Nat) : Int)) ∧ w' = W := fun W => by
    have := Tryd.strings_Count_one PS 47 W
    have e : Lib.countByte PS.data.toList 47 = path.length + 1 := by
      rw [hPS]
      show (Nn.tails (path ++ [n.name.data.toList])).count 47 = _
      rw [Wk.count_tails _ fun s hs => (hns s hs).1]
      simp
    rw [e] at this
    exact this
  have HItm : Hid (∀ (by_ : ByteArray), (⟨PS, n.kind, n.mode, n.time, by_⟩ : Im).it = Wk.item path n.nd by_.data.toList) := fun by_ => by
    show Wk.It.mk _ _ _ _ _ = Wk.It.mk _ _ _ _ _
    have e : PS.data.toList = Nn.joinB (path ++ [n.nd.name]) := by
      rw [Wk.joinB_tails (by simp), hPS]; rfl
    rw [e]; rfl
  have HPS : Hid (PS = mkB (Nn.tails (path ++ [n.name.data.toList]))) := hPS
  rw [← hPS]
  obtain ⟨⟨iv, p1, p2⟩, hmp, ha, hm, hfew⟩ := h
  have hblt : b < w.heap.size := (Array.getElem?_eq_some_iff.1 p1).1
  have hbase : base ≤ w.heap.size := by omega
  have hcells := pair_at p1
  obtain ⟨ia, ic, rfl⟩ := own_form p2
  have HIl : Hid ((its items).length = items.length) := its_length items
  have HR : Hid (R = Wk.rstep (pl bs) (Wk.reapDir (pl bs) k) path n.nd (its items)) := hR
  have HP1 : Hid (w.heap[b]? = some (.cells #[.map (some m), .slice ia items.length ic] 45 (0, 0))) := p1
  have HP2 : Hid (w.ownsRow base 31 5 (.slice ia items.length ic) items.length (rowR imC items)) := p2
  have HMp : Hid (Mp w m nq (mpB bs)) := hmp
  have HNg : Hid (NdG w n (ndC n pv)) := hng
  have HT : Hid (∀ W, Below base w W → Tabs W) := hT
  have HAt : Hid (base ≤ b ∧ base ≤ m) := ⟨ha, hm⟩
  obtain ⟨pv0, epv, hrx, hty, hno⟩ := hng
  obtain ⟨W1, hW1⟩ : ∃ W1, W1 = w.alloc (.cells (ndC n pv).toArray 54) := ⟨_, rfl⟩
  have hB1 : Below w.heap.size w W1 := by rw [hW1]; exact (Below.refl _ w).alloc (Nat.le_refl _) _
  have HB1 : Hid (Below w.heap.size w W1) := hB1
  have HM : Hid (W1.heap[w.heap.size]? = some (.cells (ndC n pv).toArray 54 (0, 0))) := by rw [hW1]; exact heap_alloc_new w _
  have HS1 : Hid (W1.heap.size = w.heap.size + 1) := by show _ = _; rw [hW1, World.size_alloc]
  have hb1 : W1.heap[b]? = some (.cells #[.map (some m), .slice ia items.length ic] 45 (0, 0)) := (hB1.block b hblt).trans p1
  obtain ⟨c0, c1⟩ := pair_at hb1
  skip
  obtain ⟨name, kind, mode, time, size, parts, link⟩ := n
  dsimp only [ndC] at *
  subst hkd
  obtain ⟨pa, pc, epc, hpc1, hpc2⟩ := hrx.slice
  cases epv
  subst epc
  obtain ⟨n0, n1, n2, n3, n4, n5, n6, nlt⟩ := sev_at HM.out
  have HK : Hid (Nk ⟨name, 3, mode, time, size, parts, link⟩) := hnk
  obtain ⟨PN, hPN⟩ : ∃ PN, PN = parts.length := ⟨_, rfl⟩
  have HPN : Hid (PN = parts.length) := hPN
  obtain ⟨IN, hIN⟩ : ∃ IN, IN = items.length := ⟨_, rfl⟩
  have HIN : Hid (IN = items.length) := hIN
  rw [← hIN] at HP1 c1 hfew hb1
  rw [← hPN] at n5 hW1 HM ⊢
  clear hPS hR hcells p1 hmp hT ha hm hrx hty hno hnk hB1 hPN hIN hpc1 hpc2 hb1
  go_enter Tryd.func21, Tryd.ntmps21
  go_upto_region 1 with fail
  rw [← hW1]
  clear hW1
  go_wp2_with fail
  refine (hcnt _).mono ?_
  rintro e u ⟨rfl, hu⟩
  obtain rfl := hu.symm
  clear hcnt hu
  by_cases hdp : 8 ≤ path.length
  · have HRe : Hid (R = ([], 14)) := by show _ = _; rw [HR.out]; unfold Wk.rstep; rw [if_pos hdp]
    have hgt : ((path.length + 1 : Nat) : Int) > 8 := by omega
    generalize path.length = PL at *
    clear HR
    go_wp2_with fail
    go_ret
    exact ⟨by rw [HRe.out]; rfl, Rf.of_below HB1.out hbase, fun e => by rw [HRe.out] at e; cases e⟩
  have hgt : ¬ ((path.length + 1 : Nat) : Int) > 8 := by omega
  by_cases hfl : IN = 100
  · have HRe : Hid (R = ([], 2)) := by show _ = _; rw [HR.out]; unfold Wk.rstep; rw [if_neg hdp, if_pos (by rw [HIl.out, ← HIN.out, hfl]; exact Nat.le_refl _)]
    generalize path.length = PL at *
    subst hfl
    clear HR
    go_wp2_with fail
    go_ret
    exact ⟨by rw [HRe.out]; rfl, Rf.of_below HB1.out hbase, fun e => by rw [HRe.out] at e; cases e⟩
  have hne1 : (((IN : Nat) : Int) == 100) = false := by rw [beq_eq_false_iff_ne]; omega
  obtain ⟨XI, hXI⟩ : ∃ XI, XI = W1.heap.size := ⟨_, rfl⟩
  have HXI : Hid (XI = w.heap.size + 1) := by show _ = _; rw [hXI]; exact HS1.out
  obtain ⟨WX, hWX⟩ : ∃ WX, WX = W1.alloc (.cells #[.string PS, .int .i64 3, .int .i64 mode, .int .i64 time, .string link] 31) := ⟨_, rfl⟩
  have hBX : Below W1.heap.size W1 WX := by rw [hWX]; exact (Below.refl _ W1).alloc (Nat.le_refl _) _
  have HBX : Hid (Below w.heap.size w WX) := HB1.out.trans (hBX.mono HB1.out.size)
  have HNX : Hid (WX.heap[w.heap.size]? = some (.cells #[.string name, .int .i64 3, .int .i64 mode, .int .i64 time, .int .i64 size, .slice pa PN pc, .string link] 54 (0, 0))) := (hBX.block _ (Array.getElem?_eq_some_iff.1 HM.out).1).trans HM.out
  have hitX : WX.heap[W1.heap.size]? = some (.cells #[.string PS, .int .i64 3, .int .i64 mode, .int .i64 time, .string link] 31 (0, 0)) := by rw [hWX]; exact heap_alloc_new W1 _
  obtain ⟨PL, hPL⟩ : ∃ PL, PL = path.length := ⟨_, rfl⟩
  have HPL : Hid (PL = path.length) := hPL
  rw [← hPL] at hgt ⊢
  clear hPL
  go_wp2_with fail
  go_upto_region 14 with fail
  rw [← hWX]
  clear hWX hBX n0 n1 n2 n3 n4 n5 n6 nlt c0 c1
  rw [← hXI] at hitX ⊢
  clear hXI
  obtain ⟨BY, hBY⟩ : ∃ BY : ByteArray, BY = link := ⟨_, rfl⟩
  have HBY : Hid (BY = link) := hBY
  rw [← hBY] at hitX
  clear hBY
  have HITX : Hid (WX.heap[XI]? = some (.cells #[.string PS, .int .i64 3, .int .i64 mode, .int .i64 time, .string BY] 31 (0, 0))) := hitX
  clear hitX
  have hp2X : WX.ownsRow base 31 5 (.slice ia IN ic) IN (rowR imC items) := by rw [HIN.out]; exact own_below HP2.out HBX.out
  have HP2X : Hid (WX.ownsRow base 31 5 (.slice ia IN ic) IN (rowR imC items)) := hp2X
  have HP1X : Hid (WX.heap[b]? = some (.cells #[.map (some m), .slice ia IN ic] 45 (0, 0))) := (HBX.out.block b hblt).trans HP1.out
  obtain ⟨u0, u1, u2, u3, u4, ult⟩ := five_at HITX.out
  obtain ⟨c0, c1⟩ := pair_at HP1X.out
  have HObl : Hid (∀ g, (Value.slice ia IN ic).ownBlock = some g → g ≠ b ∧ g < WX.heap.size ∧ base ≤ g ∧ g ≠ m ∧ ∃ cur, WX.heap[g]? = some (.cells cur 31 (0, 0))) := fun g hg => by
    obtain ⟨cur, hc, h2, h3⟩ := own_block HP2X.out hg
    refine ⟨fun e => ?_, h3, h2, fun e => ?_, cur, hc⟩
    · subst e; rw [HP1X.out] at hc; cases hc
    · subst e
      obtain ⟨es, ck, hk⟩ := (HMp.out.below HBX.out).isMap
      rw [hk] at hc
      cases hc
  have hrow : ∀ o2, ((WX.alloc o2).drew).ownsRow base 31 5 (.slice ia IN ic) IN (rowR imC items) := fun o2 => (hp2X.alloc o2).drew
  have HQ : Hid (∀ o2 w1, ((WX.alloc o2).drew).grownBy w1 (Value.slice ia IN ic).ownBlock → w1.heap[b]? = some (.cells #[.map (some m), .slice ia IN ic] 45 (0, 0)) ∧ Kept (fun k => (Value.slice ia IN ic).ownBlock ≠ some k) WX w1) := by
    intro o2 w1 hg
    have hk : Kept (fun k => (Value.slice ia IN ic).ownBlock ≠ some k) WX w1 := Kept.grown ((Kept.refl _ WX).alloc o2).drew hg fun k hk hp => hp hk
    exact ⟨hk.obj (fun e => (HObl.out _ e).1 rfl) HP1X.out, hk⟩
  have hbX : b < WX.heap.size := (Array.getElem?_eq_some_iff.1 HP1X.out).1
  have hbw : base ≤ WX.heap.size := Nat.le_trans hbase HBX.out.size
  go_cut [] from 45 (fun wx => Hid (∃ g cap, wx.ownsRow base 31 5 (.slice (some ⟨g, 0, none⟩) (IN + 1) cap) (IN + 1) (rowR imC items ++ [.string PS, .int .i64 3, .int .i64 mode, .int .i64 time, .string BY]) ∧
    wx.heap[b]? = some (.cells #[.map (some m), .slice (some ⟨g, 0, none⟩) (IN + 1) cap] 45 (0, 0)) ∧ Kept (fun k => k ≠ b ∧ (Value.slice ia IN ic).ownBlock ≠ some k) WX wx))
  case first =>
    go_region_law ((refine step_append_lies _ (by rfl) (.tmp 49) (.tmp 51) 25 (by rfl) base 31 i0 (.agg #[.string ⟨#[]⟩, .int .i64 0, .int .i64 0, .int .i64 0, .string ⟨#[]⟩]) 5 56 Tryd.underlying25 hi hz0 hz1 hz2 rfl (by decide) (.slice ia IN ic) IN (rowR imC items) (by rfl) (hrow _) ⟨WX.heap.size, 0, none⟩ 1 1 [.string PS, .int .i64 3, .int .i64 mode, .int .i64 time, .string BY] (by rfl) (by rfl) (itm_at (by simp) (by simp) (by simp) (by simp) (by simp)) (by simp [Value.oneCell']) (by decide) (by unfold maxLen; omega) (by omega) (by simp; omega) (WX.heap.size + 1) (by simp) ?_; intro g cap w1 hown1 hgrow hat hlt; obtain ⟨q1, q2⟩ := HQ.out _ _ hgrow; obtain ⟨z0, z1⟩ := pair_at q1; have zf := free_at q1 1))
    all_goals
      go_wp2_with fail
      go_meet
      have hgb : g ≠ b := fun e => by
        rcases hat with h | h
        · exact (HObl.out g h).1 e
        · omega
      exact ⟨g, cap, own_kept hown1 ((Kept.refl _ w1).setCell (p := fun k => k ≠ b) (by simp) _) (fun g' hg' e => hgb (by cases hg'; exact e)), set_one q1 _, (q2.mono fun _ h => h.2).setCell (fun h => h.1 rfl) _⟩
  case rest =>
  obtain ⟨g, cap, hown, hbc, hk⟩ := hcut.out
  have HK9 : Hid (Kept (fun k => k ≠ b ∧ (Value.slice ia IN ic).ownBlock ≠ some k) WX wc) := hk
  have HRf : Hid (Rf base w wc) := by
    refine ⟨(HBX.out.mono hbase).trans (hk.below hbw fun j hj => ⟨by have := HAt.out.1; omega, fun e => by have := (HObl.out j e).2.2.1; omega⟩), (Ko.of_below HBX.out).trans (Ko.of_kept hk fun j o ho hp => ⟨fun e => ?_, fun e => ?_⟩)⟩
    · subst e
      rw [HP1X.out] at ho
      cases ho
      exact hp.2 rfl
    · obtain ⟨cur, hc⟩ := (HObl.out j e).2.2.2.2
      rw [hc] at ho
      cases ho
      exact hp.1 rfl
  have HRp : Hid (Rpt base b m nq bs wc (items ++ [⟨PS, 3, mode, time, BY⟩])) := by
    refine ⟨⟨_, hbc, ?_⟩, (HMp.out.below HBX.out).obj fun es ck ho => (hk.block m ((HMp.out.below HBX.out).lt) ⟨fun e => ?_, fun e => (HObl.out m e).2.2.2.1 rfl⟩).trans ho, HAt.out.1, HAt.out.2, by rw [List.length_append, ← HIN.out]; simp; omega⟩
    · rw [List.length_append, ← HIN.out, rowR_more]
      exact hown
    · subst e
      rw [HP1X.out] at ho
      cases ho
  have HItx : Hid (its (items ++ [⟨PS, 3, mode, time, BY⟩]) = its items ++ [Wk.item path (Nod.nd ⟨name, 3, mode, time, size, parts, link⟩) BY.data.toList]) := by
    show _ = _
    rw [← HItm.out BY]
    simp [its]
  have hn9 : wc.heap[w.heap.size]? = some (.cells #[.string name, .int .i64 3, .int .i64 mode, .int .i64 time, .int .i64 size, .slice pa PN pc, .string link] 54 (0, 0)) := by
    have h1 := HNX.out
    have h2 := hk.block w.heap.size (Array.getElem?_eq_some_iff.1 h1).1 ⟨fun e => by omega, fun e => by
      obtain ⟨cur, hc⟩ := (HObl.out _ e).2.2.2.2
      rw [h1] at hc
      cases hc⟩
    exact h2.trans h1
  obtain ⟨n0, n1, n2, n3, n4, n5, n6, nlt⟩ := sev_at hn9
  clear hown hbc hk hcut HQ hrow u0 u1 u2 u3 u4 c0 c1 hp2X hn9
  have HRe : Hid (R = (its items ++ [Wk.item path (Nod.nd ⟨name, 3, mode, time, size, parts, link⟩) BY.data.toList], 0)) := by
    show _ = _
    rw [HR.out, HBY.out]
    unfold Wk.rstep
    rw [if_neg hdp, if_neg (by rw [HIl.out, ← HIN.out]; omega)]
    rfl
  clear HR
  go_wp2_with fail
  go_ret
  exact ⟨by rw [HRe.out]; rfl, HRf.out, fun _ => ⟨_, by rw [HItx.out, HRe.out], HRp.out⟩⟩

end Go.Proofs.YtimdioacmojkeaaDoor

namespace Go.Proofs.YtimdioacmojkeaaDoor
open Go.RowKit
set_option maxRecDepth 4000
open Nn (Name)

theorem rnode_any (base b m nq : Nat) (bs : List Blb) (hsm : Sm bs) (k : Nat) (hd : 1 ≤ k → RDirOk base b m nq bs k) (path : List Name) (hpk : path.length + (k + 1) = 9) (hps : ∀ s ∈ path, (47 : UInt8) ∉ s ∧ s.length ≤ 1024) (n : Nod) (pv : Value) (hnk : Nk n) (items : List Im) (w : World)
    (h : Rpt base b m nq bs w items) (hng : NdG w n (ndC n pv)) (hT : ∀ W, Below base w W → Tabs W) (R : List Wk.It × Int) (hR : R = Wk.rstep (pl bs) (Wk.reapDir (pl bs) k) path n.nd (its items)) :
    Calls Tryd.prog 21 #[.pointer (some ⟨b, 0, none⟩), .agg (ndC n pv).toArray, .string (mkB (Nn.tails (path ++ [n.name.data.toList])))] w fun e w' => e = .returned (.int .i64 R.2) ∧ Rf base w w' ∧ (R.2 = 0 → ∃ items', its items' = R.1 ∧ Rpt base b m nq bs w' items') := by
  rcases hnk.kind with e | e | e
  · exact rnode_file base b m nq bs hsm k hd path hpk hps n pv hnk e items w h hng hT R hR
  · exact rnode_dir base b m nq bs hsm k hd path hpk hps n pv hnk e items w h hng hT R hR
  · exact rnode_link base b m nq bs hsm k hd path hpk hps n pv hnk e items w h hng hT R hR

theorem nk_of {l : List Nod} (h : Td.check (nds l) = 0) {n : Nod} (hn : n ∈ l) : Nk n := by
  have hc := (Td.check_ok h).2 n.nd (List.mem_map_of_mem hn)
  obtain ⟨q1, _, _, q4, q5, q6, q7, q8, _⟩ := Td.nErr_ok hc
  have q7 : 1 ≤ n.kind := q7
  have q8 : n.kind ≤ 3 := q8
  refine ⟨by omega, ⟨(Nn.nm_ok q1).2.2.2, Nat.le_trans (Nn.nm_long q1) (by omega)⟩, ⟨q4, q5⟩, q6, fun e => ?_⟩
  have e' : n.nd.kind = 2 := e
  unfold Td.nErr at hc
  split at hc
  · rename_i z; exact absurd hc z
  split at hc
  · cases hc
  split at hc
  · cases hc
  split at hc
  · cases hc
  rename_i z
  by_cases h1 : n.parts.length = 1
  · by_cases h2 : n.link.data.toList = []
    · exact ⟨h1, h2⟩
    · exact absurd (.inr (.inr (.inl ⟨e', .inr h2⟩))) z
  · exact absurd (.inr (.inr (.inl ⟨e', .inl h1⟩))) z

set_option maxHeartbeats 4000000 in
set_option maxRecDepth 10000 in
theorem rdir_step (base b m nq : Nat) (bs : List Blb) (hsm : Sm bs) (k : Nat) (ih : 1 ≤ k → RDirOk base b m nq bs k) : RDirOk base b m nq bs (k + 1) := by
  intro path id items w hpk hps hid h hT R hR
  obtain ⟨b0, b1, b2, b3, b4, b5, b6, b7, rfl⟩ := eight id hid
  have eV : idV [b0, b1, b2, b3, b4, b5, b6, b7] = .agg #[.int .u8 (b0.toNat : Int), .int .u8 (b1.toNat : Int), .int .u8 (b2.toNat : Int), .int .u8 (b3.toNat : Int), .int .u8 (b4.toNat : Int), .int .u8 (b5.toNat : Int), .int .u8 (b6.toNat : Int), .int .u8 (b7.toNat : Int)] := rfl
  rw [eV]
  obtain ⟨⟨iv, p1, p2⟩, hmp, ha, hm, hfew⟩ := h
  have hblt : b < w.heap.size := (Array.getElem?_eq_some_iff.1 p1).1
  have hbase : base ≤ w.heap.size := by omega
  have HRp : Hid (Rpt base b m nq bs w items) := ⟨⟨iv, p1, p2⟩, hmp, ha, hm, hfew⟩
  have HT : Hid (∀ W, Below base w W → Tabs W) := hT
  obtain ⟨WA, hWA⟩ : ∃ WA, WA = w.alloc (.cells #[.int .u8 (b0.toNat : Int), .int .u8 (b1.toNat : Int), .int .u8 (b2.toNat : Int), .int .u8 (b3.toNat : Int), .int .u8 (b4.toNat : Int), .int .u8 (b5.toNat : Int), .int .u8 (b6.toNat : Int), .int .u8 (b7.toNat : Int)] 24) := ⟨_, rfl⟩
  have hbA : Below w.heap.size w WA := by rw [hWA]; exact (Below.refl _ w).alloc (Nat.le_refl _) _
  have HBA : Hid (Below w.heap.size w WA) := hbA
  have hIA : WA.heap[w.heap.size]? = some (.cells #[.int .u8 (b0.toNat : Int), .int .u8 (b1.toNat : Int), .int .u8 (b2.toNat : Int), .int .u8 (b3.toNat : Int), .int .u8 (b4.toNat : Int), .int .u8 (b5.toNat : Int), .int .u8 (b6.toNat : Int), .int .u8 (b7.toNat : Int)] 24 (0, 0)) := by rw [hWA]; exact heap_alloc_new w _
  have HcI : Hid (∀ W, Gw WA W → W.cell? ⟨w.heap.size, 0, none⟩ = some (.int .u8 (b0.toNat : Int)) ∧ W.cell? ⟨w.heap.size, 1, none⟩ = some (.int .u8 (b1.toNat : Int)) ∧ W.cell? ⟨w.heap.size, 2, none⟩ = some (.int .u8 (b2.toNat : Int)) ∧ W.cell? ⟨w.heap.size, 3, none⟩ = some (.int .u8 (b3.toNat : Int)) ∧ W.cell? ⟨w.heap.size, 4, none⟩ = some (.int .u8 (b4.toNat : Int)) ∧ W.cell? ⟨w.heap.size, 5, none⟩ = some (.int .u8 (b5.toNat : Int)) ∧ W.cell? ⟨w.heap.size, 6, none⟩ = some (.int .u8 (b6.toNat : Int)) ∧ W.cell? ⟨w.heap.size, 7, none⟩ = some (.int .u8 (b7.toNat : Int))) := fun W hW =>
    (I8.laid ((Below.block hW _ (Array.getElem?_eq_some_iff.1 hIA).1).trans hIA)).cells
  have HcB : Hid (∀ W, Gw WA W → W.cell? ⟨b, 0, none⟩ = some (.map (some m))) := fun W hW => by
    have h1 := (HBA.out.block _ hblt).trans p1
    have h2 := (Below.block hW _ (Array.getElem?_eq_some_iff.1 h1).1).trans h1
    exact (pair_at h2).1
  have hget : ∀ W, Gw WA W → Calls Tryd.prog 20 #[.map (some m), .agg #[.int .u8 (b0.toNat : Int), .int .u8 (b1.toNat : Int), .int .u8 (b2.toNat : Int), .int .u8 (b3.toNat : Int), .int .u8 (b4.toNat : Int), .int .u8 (b5.toNat : Int), .int .u8 (b6.toNat : Int), .int .u8 (b7.toNat : Int)], .int .i64 2] W fun e w' => e = .returned (.tuple #[.string ⟨(Wk.blobOf (pl bs) [b0, b1, b2, b3, b4, b5, b6, b7] 2).1.toArray⟩, .int .i64 (Wk.blobOf (pl bs) [b0, b1, b2, b3, b4, b5, b6, b7] 2).2]) ∧ Below W.heap.size W w' :=
    fun W hW => hget_any m nq bs [b0, b1, b2, b3, b4, b5, b6, b7] rfl 2 W ((hmp.below HBA.out).below hW)
  have hgl := blobOf_small hsm [b0, b1, b2, b3, b4, b5, b6, b7] 2
  have HRd : Hid (R = if (Wk.blobOf (pl bs) [b0, b1, b2, b3, b4, b5, b6, b7] 2).2 ≠ 0 then ([], (Wk.blobOf (pl bs) [b0, b1, b2, b3, b4, b5, b6, b7] 2).2) else if (Td.read (Wk.blobOf (pl bs) [b0, b1, b2, b3, b4, b5, b6, b7] 2).1).2 ≠ 0 then ([], (Td.read (Wk.blobOf (pl bs) [b0, b1, b2, b3, b4, b5, b6, b7] 2).1).2) else Wk.reapNodes (pl bs) (Wk.reapDir (pl bs) k) path (Td.read (Wk.blobOf (pl bs) [b0, b1, b2, b3, b4, b5, b6, b7] 2).1).1 (its items)) := hR
  rcases hG : Wk.blobOf (pl bs) [b0, b1, b2, b3, b4, b5, b6, b7] 2 with ⟨gs, GE⟩
  rw [hG] at hget HRd hgl
  dsimp only at hget HRd hgl
  obtain ⟨GS, hGS⟩ : ∃ GS : ByteArray, GS = ⟨gs.toArray⟩ := ⟨_, rfl⟩
  have hGd : gs = GS.data.toList := by rw [hGS]
  rw [← hGS] at hget
  rw [hGd] at HRd
  have hgsz : GS.size ≤ 4096 := by rw [Lib.size_eq, ← hGd]; exact hgl
  obtain ⟨PT, hPT⟩ : ∃ PT, PT = mkB (Nn.tails path) := ⟨_, rfl⟩
  have HPT : Hid (PT = mkB (Nn.tails path)) := hPT
  rw [← hPT]
  have Hmisc : Hid (path.length + (k + 1) = 9 ∧ (∀ s ∈ path, (47 : UInt8) ∉ s ∧ s.length ≤ 1024)) := ⟨hpk, hps⟩
  have HPl : Hid (PT.size ≤ 100000) := by
    show _ ≤ _
    rw [hPT, mkB, Lib.size_eq]
    have ht : ∀ l : List Name, (∀ s ∈ l, s.length ≤ 1024) → (Nn.tails l).length ≤ l.length * 1025 := fun l => by
      induction l with
      | nil => simp [Nn.tails]
      | cons s l ih =>
        intro hl
        have h1 := hl s List.mem_cons_self
        have h2 := ih fun t ht => hl t (List.mem_cons_of_mem _ ht)
        have e : Nn.tails (s :: l) = 47 :: (s ++ Nn.tails l) := rfl
        rw [e, List.length_cons, List.length_append, List.length_cons]
        omega
    have := ht path fun s hs => (hps s hs).2
    simp
    omega
  clear hR eV hmp p2 hT hG hGS hGd hgl hbA hIA hid hPT hps hpk hm ha hfew p1
  go_enter Tryd.func12, Tryd.ntmps12
  go_upto_region 1 with fail
  rw [← hWA]
  clear hWA
  by_cases hE : GE = 0
  case neg =>
    have HRe : Hid (R = ([], GE)) := by show _ = _; rw [HRd.out, if_pos hE]
    have hne : (GE != 0) = true := by rw [bne_iff_ne]; exact hE
    have HE : Hid (GE ≠ 0) := hE
    clear HRd hE
    refine wp_region_rel (G := Gw) (W0 := WA) Gw.refl Gw.trans (by kernel_rfl) (by kernel_rfl) (by kernel_rfl) (Below.refl _ WA).drew ?_
    refine .inl ⟨.pointer (some ⟨b, 0, none⟩), fun v W hW hd => step_run rfl _ W (by clear hd; go_simp) rfl (Gw.refl _), ?_⟩
    simp only [Act.put, List.setIfInBounds_toArray, List.set_cons_zero, List.set_cons_succ]
    refine .inl ⟨.pointer (some ⟨b, 0, none⟩), fun v W hW hd => step_run rfl _ W (by clear hd; go_simp) rfl (Gw.refl _), ?_⟩
    simp only [Act.put, List.setIfInBounds_toArray, List.set_cons_zero, List.set_cons_succ]
    refine .inl ⟨.pointer (some ⟨b, 0, none⟩), fun v W hW hd => step_run rfl _ W (by clear hd; go_simp) rfl (Gw.refl _), ?_⟩
    simp only [Act.put, List.setIfInBounds_toArray, List.set_cons_zero, List.set_cons_succ]
    refine .inl ⟨.map (some m), fun v W hW hd => step_run rfl _ W (by clear hd; have ce := HcB.out W hW; go_simp) rfl (Gw.refl _), ?_⟩
    simp only [Act.put, List.setIfInBounds_toArray, List.set_cons_zero, List.set_cons_succ]
    refine .inl ⟨.agg #[.int .u8 (b0.toNat : Int), .int .u8 (b1.toNat : Int), .int .u8 (b2.toNat : Int), .int .u8 (b3.toNat : Int), .int .u8 (b4.toNat : Int), .int .u8 (b5.toNat : Int), .int .u8 (b6.toNat : Int), .int .u8 (b7.toNat : Int)], fun v W hW hd => step_run rfl _ W (by clear hd; obtain ⟨c0, c1, c2, c3, c4, c5, c6, c7⟩ := HcI.out W hW; go_simp) rfl (Gw.refl _), ?_⟩
    simp only [Act.put, List.setIfInBounds_toArray, List.set_cons_zero, List.set_cons_succ]
    refine .inl ⟨.tuple #[.string GS, .int .i64 GE], fun v W hW hd => step_call rfl 20 #[.map (some m), .agg #[.int .u8 (b0.toNat : Int), .int .u8 (b1.toNat : Int), .int .u8 (b2.toNat : Int), .int .u8 (b3.toNat : Int), .int .u8 (b4.toNat : Int), .int .u8 (b5.toNat : Int), .int .u8 (b6.toNat : Int), .int .u8 (b7.toNat : Int)], .int .i64 2] (by clear hd; go_simp) ((hget W hW).mono fun e w' h => ⟨_, h.1, rfl, h.2⟩), ?_⟩
    simp only [Act.put, List.setIfInBounds_toArray, List.set_cons_zero, List.set_cons_succ]
    refine .inl ⟨.tuple #[.string GS, .int .i64 GE], fun v W hW hd => step_run rfl _ W (by clear hd; go_simp) rfl (Gw.refl _), ?_⟩
    simp only [Act.put, List.setIfInBounds_toArray, List.set_cons_zero, List.set_cons_succ]
    refine .inl ⟨.string GS, fun v W hW hd => step_run rfl _ W (by clear hd; go_simp) rfl (Gw.refl _), ?_⟩
    simp only [Act.put, List.setIfInBounds_toArray, List.set_cons_zero, List.set_cons_succ]
    refine .inl ⟨.int .i64 GE, fun v W hW hd => step_run rfl _ W (by clear hd; go_simp) rfl (Gw.refl _), ?_⟩
    simp only [Act.put, List.setIfInBounds_toArray, List.set_cons_zero, List.set_cons_succ]
    refine .inl ⟨.string GS, fun v W hW hd => step_run rfl _ W (by clear hd; go_simp) rfl (Gw.refl _), ?_⟩
    simp only [Act.put, List.setIfInBounds_toArray, List.set_cons_zero, List.set_cons_succ]
    refine .inl ⟨.int .i64 GE, fun v W hW hd => step_run rfl _ W (by clear hd; go_simp) rfl (Gw.refl _), ?_⟩
    simp only [Act.put, List.setIfInBounds_toArray, List.set_cons_zero, List.set_cons_succ]
    intro v w3 hW3 hV
    clear hV
    have HB3 : Hid (Below w.heap.size w w3) := HBA.out.trans (Below.mono hW3 HBA.out.size)
    clear hget HcI HcB hW3
    go_wp2_with fail
    go_ret
    exact ⟨by rw [HRe.out]; rfl, Rf.of_below HB3.out hbase, fun e => by rw [HRe.out] at e; exact absurd e HE.out⟩
  have HRd2 : Hid (R = if (Td.read GS.data.toList).2 ≠ 0 then ([], (Td.read GS.data.toList).2) else Wk.reapNodes (pl bs) (Wk.reapDir (pl bs) k) path (Td.read GS.data.toList).1 (its items)) := by show _ = _; rw [HRd.out, if_neg (fun q => q hE)]
  subst hE
  clear HRd
  refine wp_region_rel (G := Gw) (W0 := WA) Gw.refl Gw.trans (by kernel_rfl) (by kernel_rfl) (by kernel_rfl) (Below.refl _ WA).drew ?_
  refine .inl ⟨.pointer (some ⟨b, 0, none⟩), fun v W hW hd => step_run rfl _ W (by clear hd; go_simp) rfl (Gw.refl _), ?_⟩
  simp only [Act.put, List.setIfInBounds_toArray, List.set_cons_zero, List.set_cons_succ]
  refine .inl ⟨.pointer (some ⟨b, 0, none⟩), fun v W hW hd => step_run rfl _ W (by clear hd; go_simp) rfl (Gw.refl _), ?_⟩
  simp only [Act.put, List.setIfInBounds_toArray, List.set_cons_zero, List.set_cons_succ]
  refine .inl ⟨.pointer (some ⟨b, 0, none⟩), fun v W hW hd => step_run rfl _ W (by clear hd; go_simp) rfl (Gw.refl _), ?_⟩
  simp only [Act.put, List.setIfInBounds_toArray, List.set_cons_zero, List.set_cons_succ]
  refine .inl ⟨.map (some m), fun v W hW hd => step_run rfl _ W (by clear hd; have ce := HcB.out W hW; go_simp) rfl (Gw.refl _), ?_⟩
  simp only [Act.put, List.setIfInBounds_toArray, List.set_cons_zero, List.set_cons_succ]
  refine .inl ⟨.agg #[.int .u8 (b0.toNat : Int), .int .u8 (b1.toNat : Int), .int .u8 (b2.toNat : Int), .int .u8 (b3.toNat : Int), .int .u8 (b4.toNat : Int), .int .u8 (b5.toNat : Int), .int .u8 (b6.toNat : Int), .int .u8 (b7.toNat : Int)], fun v W hW hd => step_run rfl _ W (by clear hd; obtain ⟨c0, c1, c2, c3, c4, c5, c6, c7⟩ := HcI.out W hW; go_simp) rfl (Gw.refl _), ?_⟩
  simp only [Act.put, List.setIfInBounds_toArray, List.set_cons_zero, List.set_cons_succ]
  refine .inl ⟨.tuple #[.string GS, .int .i64 0], fun v W hW hd => step_call rfl 20 #[.map (some m), .agg #[.int .u8 (b0.toNat : Int), .int .u8 (b1.toNat : Int), .int .u8 (b2.toNat : Int), .int .u8 (b3.toNat : Int), .int .u8 (b4.toNat : Int), .int .u8 (b5.toNat : Int), .int .u8 (b6.toNat : Int), .int .u8 (b7.toNat : Int)], .int .i64 2] (by clear hd; go_simp) ((hget W hW).mono fun e w' h => ⟨_, h.1, rfl, h.2⟩), ?_⟩
  simp only [Act.put, List.setIfInBounds_toArray, List.set_cons_zero, List.set_cons_succ]
  refine .inl ⟨.tuple #[.string GS, .int .i64 0], fun v W hW hd => step_run rfl _ W (by clear hd; go_simp) rfl (Gw.refl _), ?_⟩
  simp only [Act.put, List.setIfInBounds_toArray, List.set_cons_zero, List.set_cons_succ]
  refine .inl ⟨.string GS, fun v W hW hd => step_run rfl _ W (by clear hd; go_simp) rfl (Gw.refl _), ?_⟩
  simp only [Act.put, List.setIfInBounds_toArray, List.set_cons_zero, List.set_cons_succ]
  refine .inl ⟨.int .i64 0, fun v W hW hd => step_run rfl _ W (by clear hd; go_simp) rfl (Gw.refl _), ?_⟩
  simp only [Act.put, List.setIfInBounds_toArray, List.set_cons_zero, List.set_cons_succ]
  refine .inl ⟨.string GS, fun v W hW hd => step_run rfl _ W (by clear hd; go_simp) rfl (Gw.refl _), ?_⟩
  simp only [Act.put, List.setIfInBounds_toArray, List.set_cons_zero, List.set_cons_succ]
  refine .inl ⟨.int .i64 0, fun v W hW hd => step_run rfl _ W (by clear hd; go_simp) rfl (Gw.refl _), ?_⟩
  simp only [Act.put, List.setIfInBounds_toArray, List.set_cons_zero, List.set_cons_succ]
  intro v w3 hW3 hV
  clear hV
  have HB3 : Hid (Below w.heap.size w w3) := HBA.out.trans (Below.mono hW3 HBA.out.size)
  clear hget HcI HcB hW3
  have hrd := tread_oy GS w3 (by omega) (HT.out w3 (HB3.out.mono hbase))
  unfold TgOy at hrd
  go_wp2_with fail
  refine hrd.mono ?_
  rintro e w4 ⟨v4, l4, B4, rfl, hd4, ho4, hl4, hb4⟩
  have HB4 : Hid (Below w.heap.size w w4) := HB3.out.trans (hb4.mono HB3.out.size)
  have HO4 : Hid (Oy 7 54 NdG B4 w4 v4 l4) := ho4
  obtain ⟨na, nc, rfl⟩ := ho4.ry.slice
  have HRp4 : Hid (Rpt base b m nq bs w4 items) := HRp.out.below HB4.out
  have HD4 : Hid (nds l4 = (Td.read GS.data.toList).1) := hd4
  clear hrd hb4 ho4 hd4
  by_cases hE : (Td.read GS.data.toList).2 = 0
  case neg =>
    have HRe : Hid (R = ([], (Td.read GS.data.toList).2)) := by show _ = _; rw [HRd2.out, if_pos hE]
    have hne : ((Td.read GS.data.toList).2 != 0) = true := by rw [bne_iff_ne]; exact hE
    have HE : Hid ((Td.read GS.data.toList).2 ≠ 0) := hE
    generalize (Td.read GS.data.toList).2 = ER at *
    clear HRd2 hE
    go_wp2_with fail
    go_ret
    exact ⟨by rw [HRe.out]; rfl, Rf.of_below HB4.out hbase, fun e => by rw [HRe.out] at e; exact absurd e HE.out⟩
  have hchk : Td.check (nds l4) = 0 := by
    rw [HD4.out]
    exact (Td.write_read (Prod.ext rfl hE)).2.1
  have HNk : Hid (∀ n ∈ l4, Nk n) := fun n hn => nk_of hchk hn
  have HRn : Hid (R = Wk.reapNodes (pl bs) (Wk.reapDir (pl bs) k) path (nds (l4.drop 0)) (its items)) := by
    show _ = _
    rw [HRd2.out, if_neg (fun q => q hE), ← HD4.out]; rfl
  have HRf4 : Hid (Rf base w w4) := Rf.of_below HB4.out hbase
  obtain ⟨N, hN⟩ : ∃ N, N = l4.length := ⟨_, rfl⟩
  have HN : Hid (N = l4.length) := hN
  rw [← hN] at HO4 hl4 ⊢
  rw [hE]
  have HPl2 : Hid ((Nn.tails path).length ≤ 100000) := by
    have h1 := HPl.out
    rw [HPT.out, mkB, Lib.size_eq] at h1
    exact h1
  clear HRd2 hE hchk hN HD4
  go_wp2_with fail
  go_loopw [35] (fun i wr => ∃ (j : Nat) (ij : List Im), j ≤ N ∧ i = .int .i64 j ∧ Hid (R = Wk.reapNodes (pl bs) (Wk.reapDir (pl bs) k) path (nds (l4.drop j)) (its ij)) ∧ Hid (Rpt base b m nq bs wr ij) ∧ Hid (Rf base w wr) ∧ Hid (Oy 7 54 NdG B4 wr (.slice na N nc) l4)) (fun i _ => N - (intOf i).toNat)
  case atStart => exact ⟨0, items, by omega, rfl, HRn, HRp4, HRf4, HO4⟩
  case round =>
    clear HRn HRp4 HRf4 HO4
    obtain ⟨j, ij, hj, rfl, HRn, HRp, HRf, HO⟩ := hrel
    by_cases hlt : j < N
    · have hjl : j < l4.length := by rw [← HN.out]; exact hlt
      obtain ⟨n, hx⟩ : ∃ n, l4[j]? = some n := ⟨_, List.getElem?_eq_getElem hjl⟩
      have hnk := HNk.out n (List.mem_of_getElem? hx)
      obtain ⟨kb, ko, cs, rfl, hkb, hcl, hng, hcell⟩ := HO.out.ry.get j n hx
      obtain ⟨pv, ecs, hrx, hty, hno⟩ := hng
      subst ecs
      have hdrop : nds (l4.drop j) = n.nd :: nds (l4.drop (j + 1)) := by
        rw [List.drop_eq_getElem_cons hjl, (List.getElem?_eq_some_iff.1 hx).2]; rfl
      obtain ⟨S, hS⟩ : ∃ S, S = Wk.rstep (pl bs) (Wk.reapDir (pl bs) k) path n.nd (its ij) := ⟨_, rfl⟩
      have HRs : Hid (R = if S.2 ≠ 0 then ([], S.2) else Wk.reapNodes (pl bs) (Wk.reapDir (pl bs) k) path (nds (l4.drop (j + 1))) S.1) := by
        show _ = _
        rw [HRn.out, hdrop, Wk.rnodes_step, ← hS]
      obtain ⟨WB, hWB⟩ : ∃ WB, WB = wr.alloc (.cells (ndC n pv).toArray 54) := ⟨_, rfl⟩
      have hbB : Below wr.heap.size wr WB := by rw [hWB]; exact (Below.refl _ wr).alloc (Nat.le_refl _) _
      have hbw : base ≤ wr.heap.size := Nat.le_trans hbase HRf.out.size
      have HfB : Hid (Rf base w WB) := HRf.out.trans (Rf.of_below hbB hbw)
      have hngB : NdG WB n (ndC n pv) := NdG.keep hbB.size (fun q cur fr ho => (hbB.block q (Array.getElem?_eq_some_iff.1 ho).1).trans ho) ⟨pv, rfl, hrx, hty, hno⟩
      have hnode := rnode_any base b m nq bs hsm k ih path Hmisc.out.1 Hmisc.out.2 n pv hnk ij WB (HRp.out.below hbB) hngB (fun W hW => HT.out W (HfB.out.low.trans hW)) S hS
      have HOB : Hid (Oy 7 54 NdG B4 WB (.slice (some ⟨kb, ko, none⟩) N nc) l4) := HO.out.belowN hbB
      have hc1 : ∀ W : World, (Op.stringOp .add PT ⟨#[47]⟩).run Tryd.prog W = .ok (.string ⟨(Nn.tails path ++ [47]).toArray⟩) W := fun W => by
        have := run_string_add_lists (P := Tryd.prog) W (Nn.tails path) [47] (by have := HPl2.out; omega) (by simp)
        rw [HPT.out]
        exact this
      obtain ⟨PT2, hPT2⟩ : ∃ PT2 : ByteArray, PT2 = ⟨(Nn.tails path ++ [47]).toArray⟩ := ⟨_, rfl⟩
      rw [← hPT2] at hc1
      have hc2 : ∀ W : World, (Op.stringOp .add PT2 n.name).run Tryd.prog W = .ok (.string (mkB (Nn.tails (path ++ [n.name.data.toList])))) W := fun W => by
        have := run_string_add_lists (P := Tryd.prog) W (Nn.tails path ++ [47]) n.name.data.toList (by have := HPl2.out; simp; omega) (by have := hnk.name.2; omega)
        rw [hPT2, Wk.tails_snoc]
        rw [List.append_assoc] at this
        exact this
      obtain ⟨PN, hPN⟩ : ∃ PN, PN = mkB (Nn.tails (path ++ [n.name.data.toList])) := ⟨_, rfl⟩
      rw [← hPN] at hnode hc2
      obtain ⟨name, kind, mode, time, size, parts, link⟩ := n
      dsimp only [ndC] at *
      obtain ⟨pa, pc, epc, _, _⟩ := hrx.slice
      subst epc
      have x0 := hcell 0 _ rfl
      have x1 := hcell 1 _ rfl
      have x2 := hcell 2 _ rfl
      have x3 := hcell 3 _ rfl
      have x4 := hcell 4 _ rfl
      have x5 := hcell 5 _ rfl
      have x6 := hcell 6 _ rfl
      rw [Nat.add_zero] at x0
      generalize parts.length = PL at *
      clear hcell hdrop hngB hrx hty hno hPT2 hPN hx hS hjl hbB HRp HO HRn hcl hnk
      go_wp2_with fail
      rw [← hWB]
      refine hnode.mono ?_
      rintro e w5 ⟨rfl, f5, hz⟩
      have HF5 : Hid (Rf base w w5) := HfB.trans f5
      have HO5 : Hid (Oy 7 54 NdG B4 w5 (.slice (some ⟨kb, ko, none⟩) N nc) l4) := HOB.out.keep f5.size fun q cur t fr ht ho => f5.cells ho (by rcases ht with e | e <;> (rw [e]; decide)) (by rcases ht with e | e <;> (rw [e]; decide))
      have HZ : Hid (S.2 = 0 → ∃ items', its items' = S.1 ∧ Rpt base b m nq bs w5 items') := hz
      clear hWB hnode f5 hz x0 x1 x2 x3 x4 x5 x6 hc1 hc2 hkb HfB HOB
      by_cases hE : S.2 = 0
      · obtain ⟨ij', hi1, hi2⟩ := HZ.out hE
        have HRn : Hid (R = Wk.reapNodes (pl bs) (Wk.reapDir (pl bs) k) path (nds (l4.drop (j + 1))) (its ij')) := by show _ = _; rw [HRs.out, if_neg (fun q => q hE), hi1]
        have HRp : Hid (Rpt base b m nq bs w5 ij') := hi2
        rw [hE]
        clear HRs HZ hi1 hi2 hE
        go_wp2_with fail
        go_roundw
        case measure => simp only [intOf]; omega
        case rel => exact ⟨j + 1, ij', by omega, by go_num, HRn, HRp, HF5, HO5⟩
      · have HRe : Hid (R = ([], S.2)) := by show _ = _; rw [HRs.out, if_pos hE]
        have hne : (S.2 != 0) = true := by rw [bne_iff_ne]; exact hE
        have HE : Hid (S.2 ≠ 0) := hE
        generalize S.2 = ER at *
        clear HRs HZ hE
        go_wp2_with fail
        go_ret
        exact ⟨by rw [HRe.out]; rfl, HF5.out, fun e => by rw [HRe.out] at e; exact absurd e HE.out⟩
    · obtain rfl : j = N := by omega
      have HRe : Hid (R = (its ij, 0)) := by
        have e : l4.drop j = [] := by rw [HN.out]; exact List.drop_of_length_le (Nat.le_refl _)
        show _ = _
        rw [HRn.out, e]; rfl
      clear HRn HO
      go_wp2_with fail
      go_ret
      exact ⟨by rw [HRe.out]; rfl, HRf.out, fun _ => ⟨ij, by rw [HRe.out], HRp.out⟩⟩

theorem rdir_all {base b m nq : Nat} {bs : List Blb} (hsm : Sm bs) : ∀ k, 1 ≤ k → RDirOk base b m nq bs k
  | 0, h => by omega
  | k + 1, _ => rdir_step base b m nq bs hsm k fun h => rdir_all hsm k h

end Go.Proofs.YtimdioacmojkeaaDoor

namespace Go.Proofs.YtimdioacmojkeaaDoor
open Go.RowKit
set_option maxRecDepth 4000
open Nn (Name)
namespace Wk
/-- what Reap tells, in plain words -/
def reapP (l : List Pk.Bl) (root : Bs) : List It × Int := if (heapP l).2 ≠ 0 then ([], (heapP l).2) else reapDir (heapP l).1 9 root [] []

theorem gath_ok : ∀ (r acc L : List Pk.Bl), gath r acc = (L, 0) → (∀ b ∈ acc, b ∈ L) ∧ (∀ b ∈ r, b ∈ L) ∧ (∀ b ∈ L, b ∈ acc ∨ b ∈ r) ∧ (∀ b ∈ r, Pk.bErr b = 0) ∧ (Fine acc → Fine L)
  | [], acc, L, h => by
    rw [gath] at h
    cases h
    exact ⟨fun _ q => q, fun _ q => absurd q List.not_mem_nil, fun _ q => .inl q, fun _ q => absurd q List.not_mem_nil, fun q => q⟩
  | b :: r, acc, L, h => by
    rw [gath] at h
    split at h
    · rename_i q; exact absurd (congrArg Prod.snd h) q
    rename_i q
    rcases hi : into acc b with ⟨l1, id, e⟩
    rw [hi] at h q
    dsimp only at h q
    obtain rfl := Decidable.not_not.mp q
    obtain ⟨i1, i2, i3, i4, i5, i6⟩ := into_ok hi
    obtain ⟨g1, g2, g3, g4, g5⟩ := gath_ok r l1 L h
    refine ⟨fun x hx => g1 x (i4 x hx), fun x hx => ?_, fun x hx => ?_, fun x hx => ?_, fun q => g5 (i5 q)⟩
    · rcases List.mem_cons.1 hx with e | hx
      · rw [e]; exact g1 b i3
      · exact g2 x hx
    · rcases g3 x hx with q | q
      · rcases i6 with e | e
        · rw [e] at q; exact .inl q
        · rw [e] at q
          rcases List.mem_append.1 q with q | q
          · exact .inl q
          · rw [List.mem_singleton.1 q]; exact .inr List.mem_cons_self
      · exact .inr (List.mem_cons_of_mem _ q)
    · rcases List.mem_cons.1 hx with e | hx
      · rw [e]; exact i1
      · exact g4 x hx

end Wk

theorem bErr_small {b : Pk.Bl} (h : Pk.bErr b = 0) : b.2.length ≤ 4096 := by
  unfold Pk.bErr at h
  split at h
  · split at h
    · cases h
    · omega
  · cases h

theorem heap_small {l : List Pk.Bl} {bs : List Blb} (h : Wk.heapP l = (pl bs, 0)) : Sm bs := by
  unfold Wk.heapP at h
  split at h
  · exact absurd (congrArg Prod.snd h) (by simp)
  intro x hx
  obtain ⟨_, _, g3, g4, _⟩ := Wk.gath_ok l [] (pl bs) h
  have hm : x.p ∈ pl bs := List.mem_map_of_mem hx
  rcases g3 x.p hm with q | q
  · exact absurd q List.not_mem_nil
  · have := bErr_small (g4 x.p q)
    rw [Lib.size_eq]
    exact this

/-- what Reap answers -/
def RpOut (l : List Blb) (root : Wk.Bs) (w : World) (e : Ending) (w' : World) : Prop :=
  ∃ v, e = .returned (.tuple #[v, .int .i64 (Wk.reapP (pl l) root).2]) ∧ Below w.heap.size w w' ∧ ((Wk.reapP (pl l) root).2 ≠ 0 → v = .slice none 0 0) ∧
    ((Wk.reapP (pl l) root).2 = 0 → ∃ items, its items = (Wk.reapP (pl l) root).1 ∧ w'.ownsRow w.heap.size 31 5 v items.length (rowR imC items) ∧ items.length ≤ 100)

set_option maxHeartbeats 4000000 in
set_option maxRecDepth 10000 in
theorem reap_any (v : Value) (l : List Blb) (root : Wk.Bs) (w : World) (h : Bx w v l) (hok : BOk l) (hl : l.length ≤ 140737488351232) (hr : root.length = 8) (hT : Tabs w) :
    Calls Tryd.prog 5 #[v, idV root] w (RpOut l root w) := by
  unfold RpOut
  obtain ⟨R, hR⟩ : ∃ R, R = Wk.reapP (pl l) root := ⟨_, rfl⟩
  rw [← hR]
  obtain ⟨b0, b1, b2, b3, b4, b5, b6, b7, rfl⟩ := eight root hr
  have eV : idV [b0, b1, b2, b3, b4, b5, b6, b7] = .agg #[.int .u8 (b0.toNat : Int), .int .u8 (b1.toNat : Int), .int .u8 (b2.toNat : Int), .int .u8 (b3.toNat : Int), .int .u8 (b4.toNat : Int), .int .u8 (b5.toNat : Int), .int .u8 (b6.toNat : Int), .int .u8 (b7.toNat : Int)] := rfl
  rw [eV]
  obtain ⟨W1, hW1⟩ : ∃ W1, W1 = w.alloc (.cells #[.int .u8 (b0.toNat : Int), .int .u8 (b1.toNat : Int), .int .u8 (b2.toNat : Int), .int .u8 (b3.toNat : Int), .int .u8 (b4.toNat : Int), .int .u8 (b5.toNat : Int), .int .u8 (b6.toNat : Int), .int .u8 (b7.toNat : Int)] 24) := ⟨_, rfl⟩
  have hB1 : Below w.heap.size w W1 := by rw [hW1]; exact (Below.refl _ w).alloc (Nat.le_refl _) _
  have HB1 : Hid (Below w.heap.size w W1) := hB1
  have HI1 : Hid (W1.heap[w.heap.size]? = some (.cells #[.int .u8 (b0.toNat : Int), .int .u8 (b1.toNat : Int), .int .u8 (b2.toNat : Int), .int .u8 (b3.toNat : Int), .int .u8 (b4.toNat : Int), .int .u8 (b5.toNat : Int), .int .u8 (b6.toNat : Int), .int .u8 (b7.toNat : Int)] 24 (0, 0))) := by rw [hW1]; exact heap_alloc_new w _
  have HT : Hid (Tabs w) := hT
  obtain ⟨H, hH⟩ : ∃ H, H = Wk.heapP (pl l) := ⟨_, rfl⟩
  have HH : Hid (H = Wk.heapP (pl l)) := hH
  have HR : Hid (R = if H.2 ≠ 0 then ([], H.2) else Wk.reapDir H.1 9 [b0, b1, b2, b3, b4, b5, b6, b7] [] []) := by show _ = _; rw [hR, hH]; rfl
  have hheap := heapOf_any v l W1 (h.below hB1) hok hl H hH
  obtain ⟨va, vc, rfl, _, _⟩ := h.slice
  generalize l.length = LN at *
  clear hR h hok hT hH hB1 eV hr
  go_enter Tryd.func5, Tryd.ntmps5
  go_upto_region 1 with fail
  rw [← hW1]
  clear hW1
  go_wp2_with fail
  refine hheap.mono ?_
  rintro e w2 ⟨hv, rfl, b2', hv1, hv2⟩
  have HB2 : Hid (Below w.heap.size w w2) := HB1.out.trans (b2'.mono HB1.out.size)
  by_cases hE : H.2 = 0
  case neg =>
    have HRe : Hid (R = ([], H.2)) := by show _ = _; rw [HR.out, if_pos hE]
    have hne : (H.2 != 0) = true := by rw [bne_iff_ne]; exact hE
    have HE : Hid (H.2 ≠ 0) := hE
    obtain rfl := hv1 hE
    generalize H.2 = ER at *
    clear HR hE hheap hv1 hv2 HH
    go_wp2_with fail
    go_ret2
    exact ⟨_, by rw [HRe.out]; rfl, HB2.out, fun _ => rfl, fun e => by rw [HRe.out] at e; exact absurd e HE.out⟩
  obtain ⟨m, n, bs, rfl, hn, hbl, hpl, hmw, hmp⟩ := hv2 hE
  have hHe : H = (pl bs, 0) := Prod.ext hpl.symm hE
  have hsm : Sm bs := heap_small (by rw [← HH.out]; exact hHe)
  have HR2 : Hid (R = Wk.reapDir (pl bs) 9 [b0, b1, b2, b3, b4, b5, b6, b7] [] (its [])) := by show _ = _; rw [HR.out, hHe]; rfl
  obtain ⟨W3, hW3⟩ : ∃ W3, W3 = w2.alloc (.cells #[.map (some m), .slice none 0 0] 45) := ⟨_, rfl⟩
  have hB3 : Below w2.heap.size w2 W3 := by rw [hW3]; exact (Below.refl _ w2).alloc (Nat.le_refl _) _
  have hb3 : W3.heap[w2.heap.size]? = some (.cells #[.map (some m), .slice none 0 0] 45 (0, 0)) := by rw [hW3]; exact heap_alloc_new w2 _
  have hb12 := b2'.size
  have hRp : Rpt W1.heap.size w2.heap.size m n bs W3 [] := ⟨⟨_, hb3, World.ownsRow_nil _ _ _ _⟩, hmp.below hB3, hb12, hmw, by simp⟩
  have HB3 : Hid (Below w.heap.size w W3) := HB2.out.trans (hB3.mono HB2.out.size)
  have hdir := rdir_all (base := W1.heap.size) (b := w2.heap.size) (m := m) (nq := n) hsm 9 (by omega) [] [b0, b1, b2, b3, b4, b5, b6, b7] [] W3 (by simp) (fun _ q => absurd q List.not_mem_nil) rfl hRp (fun W hW => HT.out.below (HB3.out.trans ((hW.mono HB1.out.size)))) R HR2.out
  have hdir' : Calls Tryd.prog 12 #[.pointer (some ⟨w2.heap.size, 0, none⟩), .agg #[.int .u8 (b0.toNat : Int), .int .u8 (b1.toNat : Int), .int .u8 (b2.toNat : Int), .int .u8 (b3.toNat : Int), .int .u8 (b4.toNat : Int), .int .u8 (b5.toNat : Int), .int .u8 (b6.toNat : Int), .int .u8 (b7.toNat : Int)], .string ⟨#[]⟩] W3 fun e w' => e = .returned (.int .i64 R.2) ∧ Rf W1.heap.size W3 w' ∧ (R.2 = 0 → ∃ items', its items' = R.1 ∧ Rpt W1.heap.size w2.heap.size m n bs w' items') := hdir
  have hI3 : W3.heap[w.heap.size]? = some (.cells #[.int .u8 (b0.toNat : Int), .int .u8 (b1.toNat : Int), .int .u8 (b2.toNat : Int), .int .u8 (b3.toNat : Int), .int .u8 (b4.toNat : Int), .int .u8 (b5.toNat : Int), .int .u8 (b6.toNat : Int), .int .u8 (b7.toNat : Int)] 24 (0, 0)) := by
    have h2 := (b2'.block _ (Array.getElem?_eq_some_iff.1 HI1.out).1).trans HI1.out
    exact (hB3.block _ (Array.getElem?_eq_some_iff.1 h2).1).trans h2
  obtain ⟨c0, c1, c2, c3, c4, c5, c6, c7⟩ := (I8.laid hI3).cells
  rw [hE]
  clear hdir hheap hv1 hv2 b2' HR hE hHe hpl hI3 hb3 hB3 hRp hmp
  go_upto_region 5 with fail
  rw [← hW3]
  clear hW3
  go_wp2_with fail
  refine hdir'.mono ?_
  rintro e w7 ⟨rfl, f7, hz⟩
  have HB7 : Hid (Below w.heap.size w w7) := HB3.out.trans (f7.low.mono HB1.out.size)
  clear hdir' c0 c1 c2 c3 c4 c5 c6 c7
  by_cases hE : R.2 = 0
  · obtain ⟨items, hi1, ⟨⟨iv, q1, q2⟩, _, _, _, q6⟩⟩ := hz hE
    obtain ⟨d0, d1⟩ := pair_at q1
    have HF : Hid (R.2 = 0 ∧ its items = R.1 ∧ w7.ownsRow w.heap.size 31 5 iv items.length (rowR imC items) ∧ items.length ≤ 100) := ⟨hE, hi1, own_lower q2 HB1.out.size, q6⟩
    obtain ⟨ia, ic, rfl⟩ := own_form q2
    obtain ⟨IN, hIN⟩ : ∃ IN, IN = items.length := ⟨_, rfl⟩
    rw [← hIN] at d1
    rw [hE]
    have HIN : Hid (IN = items.length) := hIN
    clear hz q1 q2 hi1 hE hIN
    go_wp2_with fail
    go_ret2
    exact ⟨_, by rw [HF.out.1]; rfl, HB7.out, fun e => absurd HF.out.1 e, fun _ => ⟨items, HF.out.2.1, by rw [HIN.out]; exact HF.out.2.2.1, HF.out.2.2.2⟩⟩
  · have hne : (R.2 != 0) = true := by rw [bne_iff_ne]; exact hE
    have HE : Hid (R.2 ≠ 0) := hE
    clear hz hE
    go_wp2_with fail
    go_ret2
    exact ⟨_, rfl, HB7.out, fun _ => rfl, fun e => absurd e HE.out⟩

end Go.Proofs.YtimdioacmojkeaaDoor

namespace Go.Proofs.YtimdioacmojkeaaDoor
open Go.RowKit

theorem oct8 {t : List UInt8} (h : t.length = 8) : ∃ b0 b1 b2 b3 b4 b5 b6 b7, t = [b0, b1, b2, b3, b4, b5, b6, b7] := by
  match t, h with
  | [b0, b1, b2, b3, b4, b5, b6, b7], _ => exact ⟨b0, b1, b2, b3, b4, b5, b6, b7, rfl⟩

end Go.Proofs.YtimdioacmojkeaaDoor

namespace Go.Proofs.YtimdioacmojkeaaDoor
open Go.RowKit
set_option maxRecDepth 4000

theorem id_cells {W : World} {G : Nat} {t : List UInt8} (h : W.heap[G]? = some (.cells (t.map B).toArray 24 (0, 0))) : ∀ r u, (idC t)[r]? = some u → W.cell? ⟨G, r, none⟩ = some u := by
  intro r u hu
  rw [cell_of_row _ G r _ _ _ h]
  simpa [idC] using hu

set_option maxHeartbeats 4000000 in
set_option maxRecDepth 10000 in
theorem ixId_at (v : Value) (l : List (List UInt8)) (t : List UInt8) (w : World) (h : Rx 8 idC w v l) (h8 : ∀ q ∈ l, q.length = 8) (ht : t.length = 8) :
    Calls Tryd.prog 32 #[v, idV t] w fun e w' => ∃ r : Int, e = .returned (.int .i64 r) ∧ ((∃ k : Nat, r = (k : Int) ∧ l[k]? = some t ∧ t ∉ l.take k) ∨ (r = -1 ∧ t ∉ l)) ∧ Below w.heap.size w w' := by
  obtain ⟨a1, c1, rfl, j1, j2⟩ := h.slice
  have HX : Hid (Rx 8 idC w (.slice a1 l.length c1) l ∧ ∀ t ∈ l, t.length = 8) := ⟨h, h8⟩
  obtain ⟨N, hN⟩ : ∃ N, N = l.length := ⟨_, rfl⟩
  have HN : Hid (N = l.length) := hN
  rw [← hN] at HX j1 ⊢
  clear h h8 hN
  obtain ⟨d0, d1, d2, d3, d4, d5, d6, d7, rfl⟩ := oct8 ht
  clear ht
  obtain ⟨i0, hi, hz0, hz1, hz2⟩ := info_of' info_id
  have HW1 : Hid (Below w.heap.size w (w.alloc (.cells ([d0, d1, d2, d3, d4, d5, d6, d7].map B).toArray 24))) := (Below.refl _ w).alloc (Nat.le_refl _) _
  have HM1 : Hid ((w.alloc (.cells ([d0, d1, d2, d3, d4, d5, d6, d7].map B).toArray 24)).heap[w.heap.size]? = some (.cells ([d0, d1, d2, d3, d4, d5, d6, d7].map B).toArray 24 (0, 0))) := heap_alloc_new w _
  show Calls Tryd.prog 32 #[.slice a1 N c1, .agg #[.int .u8 (d0.toNat : Int), .int .u8 (d1.toNat : Int), .int .u8 (d2.toNat : Int), .int .u8 (d3.toNat : Int), .int .u8 (d4.toNat : Int), .int .u8 (d5.toNat : Int), .int .u8 (d6.toNat : Int), .int .u8 (d7.toNat : Int)]] w _
  go_enter Tryd.func32, Tryd.ntmps32
  go_wp2_with fail
  go_loopw [5, 8] (fun q i wr => ∃ k : Nat, k ≤ N ∧ i = .int .i64 k ∧ Hid (Below w.heap.size w wr ∧ wr.heap[w.heap.size]? = some (.cells ([d0, d1, d2, d3, d4, d5, d6, d7].map B).toArray 24 (0, 0)) ∧ [d0, d1, d2, d3, d4, d5, d6, d7] ∉ l.take k)) (fun _ i _ => N - (intOf i).toNat)
  case atStart => exact ⟨0, by omega, rfl, HW1.out, HM1.out, by simp⟩
  case round =>
    clear HW1 HM1
    obtain ⟨k, hk, rfl, HB⟩ := hrel
    by_cases hlt : k < N
    · have hkl : k < l.length := by rw [← HN.out]; exact hlt
      obtain ⟨bk, o, rfl, hbk, hc⟩ := (HX.out.1.below HB.out.1).get k l[k] (List.getElem?_eq_getElem hkl)
      have hd := id_cells HB.out.2.1
      obtain ⟨b0, b1, b2, b3, b4, b5, b6, b7, ht8⟩ := oct8 (HX.out.2 l[k] (List.getElem_mem hkl))
      have HT8 : Hid (l[k] = [b0, b1, b2, b3, b4, b5, b6, b7]) := ht8
      rw [ht8] at hc
      have x0 : wr.cell? ⟨bk, o + k * 8, none⟩ = some (.int .u8 (b0.toNat : Int)) := hc 0 _ rfl
      have x1 : wr.cell? ⟨bk, o + k * 8 + 1, none⟩ = some (.int .u8 (b1.toNat : Int)) := hc 1 _ rfl
      have x2 : wr.cell? ⟨bk, o + k * 8 + 2, none⟩ = some (.int .u8 (b2.toNat : Int)) := hc 2 _ rfl
      have x3 : wr.cell? ⟨bk, o + k * 8 + 3, none⟩ = some (.int .u8 (b3.toNat : Int)) := hc 3 _ rfl
      have x4 : wr.cell? ⟨bk, o + k * 8 + 4, none⟩ = some (.int .u8 (b4.toNat : Int)) := hc 4 _ rfl
      have x5 : wr.cell? ⟨bk, o + k * 8 + 5, none⟩ = some (.int .u8 (b5.toNat : Int)) := hc 5 _ rfl
      have x6 : wr.cell? ⟨bk, o + k * 8 + 6, none⟩ = some (.int .u8 (b6.toNat : Int)) := hc 6 _ rfl
      have x7 : wr.cell? ⟨bk, o + k * 8 + 7, none⟩ = some (.int .u8 (b7.toNat : Int)) := hc 7 _ rfl
      have y0 : wr.cell? ⟨w.heap.size, 0, none⟩ = some (.int .u8 (d0.toNat : Int)) := hd 0 _ rfl
      have y1 : wr.cell? ⟨w.heap.size, 1, none⟩ = some (.int .u8 (d1.toNat : Int)) := hd 1 _ rfl
      have y2 : wr.cell? ⟨w.heap.size, 2, none⟩ = some (.int .u8 (d2.toNat : Int)) := hd 2 _ rfl
      have y3 : wr.cell? ⟨w.heap.size, 3, none⟩ = some (.int .u8 (d3.toNat : Int)) := hd 3 _ rfl
      have y4 : wr.cell? ⟨w.heap.size, 4, none⟩ = some (.int .u8 (d4.toNat : Int)) := hd 4 _ rfl
      have y5 : wr.cell? ⟨w.heap.size, 5, none⟩ = some (.int .u8 (d5.toNat : Int)) := hd 5 _ rfl
      have y6 : wr.cell? ⟨w.heap.size, 6, none⟩ = some (.int .u8 (d6.toNat : Int)) := hd 6 _ rfl
      have y7 : wr.cell? ⟨w.heap.size, 7, none⟩ = some (.int .u8 (d7.toNat : Int)) := hd 7 _ rfl
      obtain ⟨bl, hbl⟩ : ∃ bl, bl = ([d0, d1, d2, d3, d4, d5, d6, d7] == [b0, b1, b2, b3, b4, b5, b6, b7]) := ⟨_, rfl⟩
      have HBL : Hid (bl = ([d0, d1, d2, d3, d4, d5, d6, d7] == [b0, b1, b2, b3, b4, b5, b6, b7])) := hbl
      have heq : ∀ W, (Op.equalIn 10000 24 (.agg #[.int .u8 (d0.toNat : Int), .int .u8 (d1.toNat : Int), .int .u8 (d2.toNat : Int), .int .u8 (d3.toNat : Int), .int .u8 (d4.toNat : Int), .int .u8 (d5.toNat : Int), .int .u8 (d6.toNat : Int), .int .u8 (d7.toNat : Int)]) (.agg #[.int .u8 (b0.toNat : Int), .int .u8 (b1.toNat : Int), .int .u8 (b2.toNat : Int), .int .u8 (b3.toNat : Int), .int .u8 (b4.toNat : Int), .int .u8 (b5.toNat : Int), .int .u8 (b6.toNat : Int), .int .u8 (b7.toNat : Int)])).run Tryd.prog W = .ok bl W := fun W => by
        have := id_eq W [d0, d1, d2, d3, d4, d5, d6, d7] [b0, b1, b2, b3, b4, b5, b6, b7] rfl rfl
        rw [← hbl] at this
        exact this
      clear hc hd ht8 hbk hbl
      cases bl with
      | true =>
        have HIN : Hid (l[k]? = some [d0, d1, d2, d3, d4, d5, d6, d7]) := by
          have e : [d0, d1, d2, d3, d4, d5, d6, d7] = [b0, b1, b2, b3, b4, b5, b6, b7] := eq_of_beq HBL.out.symm
          show _ = _
          rw [e, ← HT8.out]
          exact List.getElem?_eq_getElem hkl
        go_wp2_with fail
        go_quiet (fail)
        clear x0 x1 x2 x3 x4 x5 x6 x7 y0 y1 y2 y3 y4 y5 y6 y7 heq
        go_wp2_with fail
        go_ret
        exact ⟨k, rfl, .inl ⟨k, rfl, HIN.out, HB.out.2.2⟩, Go.below_drewN HB.out.1 _⟩
      | false =>
        have HNO : Hid ([d0, d1, d2, d3, d4, d5, d6, d7] ∉ l.take (k + 1)) := by
          have e : [d0, d1, d2, d3, d4, d5, d6, d7] ≠ [b0, b1, b2, b3, b4, b5, b6, b7] := fun e => by
            have := HBL.out
            rw [e, beq_self_eq_true] at this
            cases this
          show _ ∉ _
          rw [List.take_add_one, List.getElem?_eq_getElem hkl, Option.toList_some, HT8.out, List.mem_append, List.mem_singleton]
          rintro (q | q)
          · exact HB.out.2.2 q
          · exact e q
        go_wp2_with fail
        go_quiet (fail)
        clear x0 x1 x2 x3 x4 x5 x6 x7 y0 y1 y2 y3 y4 y5 y6 y7 heq
        go_wp2_with fail
        go_roundw
        case rel => exact ⟨k + 1, by omega, by go_num, Go.below_drewN HB.out.1 _, HB.out.2.1, HNO.out⟩
        case measure => simp only [intOf]; omega
    · have HNI : Hid ([d0, d1, d2, d3, d4, d5, d6, d7] ∉ l) := by
        have := HB.out.2.2
        rw [List.take_of_length_le (by rw [← HN.out]; omega)] at this
        exact this
      go_wp2_with fail
      go_ret
      exact ⟨-1, rfl, .inr ⟨rfl, HNI.out⟩, HB.out.1⟩

theorem ixId_any (v : Value) (l : List (List UInt8)) (t : List UInt8) (w : World) (h : Rx 8 idC w v l) (h8 : ∀ q ∈ l, q.length = 8) (ht : t.length = 8) :
    Calls Tryd.prog 32 #[v, idV t] w fun e w' => ∃ r : Int, e = .returned (.int .i64 r) ∧ (0 ≤ r ↔ t ∈ l) ∧ Below w.heap.size w w' := by
  refine (ixId_at v l t w h h8 ht).mono fun e w' ⟨r, he, hr, hb⟩ => ⟨r, he, ?_, hb⟩
  rcases hr with ⟨k, rfl, hk, _⟩ | ⟨rfl, hn⟩
  · exact ⟨fun _ => List.mem_of_getElem? hk, fun _ => by omega⟩
  · exact ⟨fun q => by omega, fun q => absurd q hn⟩

set_option maxHeartbeats 4000000 in
set_option maxRecDepth 10000 in
theorem hasId_any (v : Value) (l : List (List UInt8)) (t : List UInt8) (w : World) (h : Rx 8 idC w v l) (h8 : ∀ q ∈ l, q.length = 8) (ht : t.length = 8) :
    Calls Tryd.prog 17 #[v, idV t] w fun e w' => e = .returned (.bool (decide (t ∈ l))) ∧ Below w.heap.size w w' := by
  obtain ⟨a1, c1, rfl, j1, j2⟩ := h.slice
  obtain ⟨d0, d1, d2, d3, d4, d5, d6, d7, rfl⟩ := oct8 ht
  obtain ⟨i0, hi, hz0, hz1, hz2⟩ := info_of' info_id
  obtain ⟨W1, hW1⟩ : ∃ W1, W1 = w.alloc (.cells ([d0, d1, d2, d3, d4, d5, d6, d7].map B).toArray 24) := ⟨_, rfl⟩
  have HB1 : Hid (Below w.heap.size w W1) := by rw [hW1]; exact (Below.refl _ w).alloc (Nat.le_refl _) _
  have hM1 : W1.heap[w.heap.size]? = some (.cells ([d0, d1, d2, d3, d4, d5, d6, d7].map B).toArray 24 (0, 0)) := by rw [hW1]; exact heap_alloc_new w _
  have hix := ixId_any (.slice a1 l.length c1) l _ W1 (h.below HB1.out) h8 ht
  have hd := id_cells hM1

  have y0 : W1.cell? ⟨w.heap.size, 0, none⟩ = some (.int .u8 (d0.toNat : Int)) := hd 0 _ rfl
  have y1 : W1.cell? ⟨w.heap.size, 1, none⟩ = some (.int .u8 (d1.toNat : Int)) := hd 1 _ rfl
  have y2 : W1.cell? ⟨w.heap.size, 2, none⟩ = some (.int .u8 (d2.toNat : Int)) := hd 2 _ rfl
  have y3 : W1.cell? ⟨w.heap.size, 3, none⟩ = some (.int .u8 (d3.toNat : Int)) := hd 3 _ rfl
  have y4 : W1.cell? ⟨w.heap.size, 4, none⟩ = some (.int .u8 (d4.toNat : Int)) := hd 4 _ rfl
  have y5 : W1.cell? ⟨w.heap.size, 5, none⟩ = some (.int .u8 (d5.toNat : Int)) := hd 5 _ rfl
  have y6 : W1.cell? ⟨w.heap.size, 6, none⟩ = some (.int .u8 (d6.toNat : Int)) := hd 6 _ rfl
  have y7 : W1.cell? ⟨w.heap.size, 7, none⟩ = some (.int .u8 (d7.toNat : Int)) := hd 7 _ rfl
  have hix' : Calls Tryd.prog 32 #[.slice a1 l.length c1, .agg #[.int .u8 (d0.toNat : Int), .int .u8 (d1.toNat : Int), .int .u8 (d2.toNat : Int), .int .u8 (d3.toNat : Int), .int .u8 (d4.toNat : Int), .int .u8 (d5.toNat : Int), .int .u8 (d6.toNat : Int), .int .u8 (d7.toNat : Int)]] W1 fun e w' => ∃ r : Int, e = .returned (.int .i64 r) ∧ (0 ≤ r ↔ [d0, d1, d2, d3, d4, d5, d6, d7] ∈ l) ∧ Below W1.heap.size W1 w' := hix
  have hW1' : W1 = w.alloc (.cells #[.int .u8 (d0.toNat : Int), .int .u8 (d1.toNat : Int), .int .u8 (d2.toNat : Int), .int .u8 (d3.toNat : Int), .int .u8 (d4.toNat : Int), .int .u8 (d5.toNat : Int), .int .u8 (d6.toNat : Int), .int .u8 (d7.toNat : Int)] 24) := hW1
  clear hix h h8 hd hM1 hW1
  show Calls Tryd.prog 17 #[.slice a1 l.length c1, .agg #[.int .u8 (d0.toNat : Int), .int .u8 (d1.toNat : Int), .int .u8 (d2.toNat : Int), .int .u8 (d3.toNat : Int), .int .u8 (d4.toNat : Int), .int .u8 (d5.toNat : Int), .int .u8 (d6.toNat : Int), .int .u8 (d7.toNat : Int)]] w _
  go_enter Tryd.func17, Tryd.ntmps17
  go_upto_region 1 with fail
  rw [← hW1']
  obtain ⟨bk, hbk⟩ : ∃ bk, bk = w.heap.size := ⟨_, rfl⟩
  have HBK : Hid (bk = w.heap.size) := hbk
  rw [← hbk] at y0 y1 y2 y3 y4 y5 y6 y7 ⊢
  clear hW1' hbk
  go_wp2_with fail
  refine hix'.mono ?_
  rintro e w2 ⟨r, rfl, hr, b2⟩
  have HB2 : Hid (Below w.heap.size w w2) := HB1.out.trans (b2.mono HB1.out.size)
  have HR : Hid (0 ≤ r ↔ [d0, d1, d2, d3, d4, d5, d6, d7] ∈ l) := hr
  clear hix' b2 hr y0 y1 y2 y3 y4 y5 y6 y7
  go_wp2_with fail
  go_ret
  exact ⟨by rw [show decide ([d0, d1, d2, d3, d4, d5, d6, d7] ∈ l) = decide (0 ≤ r) from decide_eq_decide.2 HR.out.symm]; rfl, HBK.out ▸ HB2.out⟩

end Go.Proofs.YtimdioacmojkeaaDoor

namespace Go.Proofs.YtimdioacmojkeaaDoor
open Go.RowKit
set_option maxRecDepth 4000

theorem needs_turn {out : List (List UInt8)} {ps : List (List UInt8)} {j : Nat} {t : List UInt8} (h : ps[j]? = some t) : Wk.uniq out (ps.take (j + 1)) = if t ∈ Wk.uniq out (ps.take j) then Wk.uniq out (ps.take j) else Wk.uniq out (ps.take j) ++ [t] := by
  rw [List.take_add_one, h, Wk.uniq_app]
  rfl

theorem needs_node {l : List Nod} {k : Nat} {n : Nod} (h : l[k]? = some n) : Wk.uniq [] (((nds l).take (k + 1)).flatMap fun n => n.parts) = Wk.uniq (Wk.uniq [] (((nds l).take k).flatMap fun n => n.parts)) n.parts := by
  rw [List.take_add_one, show (nds l)[k]? = some n.nd from by unfold nds; rw [List.getElem?_map, h]; rfl, List.flatMap_append, Wk.uniq_app]
  simp [Nod.nd]

theorem uniq_len : ∀ (ids out : List (List UInt8)), (Wk.uniq out ids).length ≤ out.length + ids.length
  | [], out => by rw [Wk.uniq_nil]; simp
  | i :: ids, out => by
    rw [Wk.uniq_cons]
    refine Nat.le_trans (uniq_len ids _) ?_
    split <;> simp <;> omega

/-- what Needs answers -/
def NdOut (R : List (List UInt8) × Int) (w : World) (e : Ending) (w' : World) : Prop :=
  ∃ v, e = .returned (.tuple #[v, .int .i64 R.2]) ∧ w'.ownsRow w.heap.size 24 8 v R.1.length (rowR idC R.1) ∧ (∀ t ∈ R.1, t.length = 8) ∧ R.1.length ≤ 20000 ∧ Below w.heap.size w w'

theorem NdOut.none {w w' : World} {e : Int} {R : List (List UInt8) × Int} (hR : R = ([], e)) (hb : Below w.heap.size w w') : NdOut R w (.returned (.tuple #[.slice none 0 0, .int .i64 e])) w' := by
  subst hR
  exact ⟨_, rfl, World.ownsRow_nil _ _ _ _, fun _ h => absurd h List.not_mem_nil, by simp, hb⟩

set_option maxHeartbeats 4000000 in
set_option maxRecDepth 10000 in
theorem needs_any (b : Blb) (w : World) (hb : b.bytes.size ≤ 9223372036854775807) (hT : ∀ W, Below w.heap.size w W → Tabs W) :
    Calls Tryd.prog 8 #[blV b] w (NdOut (Wk.needs b.p) w) := by
  obtain ⟨i0, hi, hz0, hz1, hz2⟩ := info_of' info_id
  have hid := fun W => pid_any b W hb
  obtain ⟨a0, a1, a2, a3, a4, a5, a6, a7, hx⟩ := eight _ (idOr_length b)
  rw [hx] at hid
  obtain ⟨R, hR⟩ : ∃ R, R = Wk.needs b.p := ⟨_, rfl⟩
  have HR : Hid (R = Wk.needs b.p) := hR
  rw [← hR]
  clear hx hR
  obtain ⟨kind, s⟩ := b
  have eV : blV ⟨kind, s⟩ = .agg #[.int .i64 kind, .string s] := rfl
  rw [eV] at hid ⊢
  have hid' : ∀ W, Calls Tryd.prog 15 #[.agg #[.int .i64 kind, .string s]] W fun e w' => e = .returned (.tuple #[.agg #[.int .u8 (a0.toNat : Int), .int .u8 (a1.toNat : Int), .int .u8 (a2.toNat : Int), .int .u8 (a3.toNat : Int), .int .u8 (a4.toNat : Int), .int .u8 (a5.toNat : Int), .int .u8 (a6.toNat : Int), .int .u8 (a7.toNat : Int)], .int .i64 (Pk.bErr (Blb.p ⟨kind, s⟩))]) ∧ Below W.heap.size W w' := hid
  obtain ⟨W1, hW1⟩ : ∃ W1, W1 = w.alloc (.cells #[.int .i64 kind, .string s] 34) := ⟨_, rfl⟩
  have HB1 : Hid (Below w.heap.size w W1) := by rw [hW1]; exact (Below.refl _ w).alloc (Nat.le_refl _) _
  have hM1 : W1.heap[w.heap.size]? = some (.cells #[.int .i64 kind, .string s] 34 (0, 0)) := by rw [hW1]; exact heap_alloc_new w _
  have HM1 : Hid (∀ W, Gw W1 W → W.cell? ⟨w.heap.size, 0, none⟩ = some (.int .i64 kind) ∧ W.cell? ⟨w.heap.size, 1, none⟩ = some (.string s)) := fun W hW =>
    pair_at ((Below.block hW _ (Array.getElem?_eq_some_iff.1 hM1).1).trans hM1)
  obtain ⟨c0, c1⟩ := HM1.out W1 (Gw.refl _)
  have HRd : Hid (R = if Pk.bErr (Blb.p ⟨kind, s⟩) ≠ 0 then ([], Pk.bErr (Blb.p ⟨kind, s⟩)) else if kind ≠ 2 then ([], 0) else if (Td.read s.data.toList).2 ≠ 0 then ([], (Td.read s.data.toList).2) else (Wk.uniq [] ((Td.read s.data.toList).1.flatMap fun n => n.parts), 0)) := HR.out
  have HT : Hid (∀ W, Below w.heap.size w W → Tabs W) := hT
  generalize Pk.bErr (Blb.p ⟨kind, s⟩) = BE at *
  clear hid HR hM1 hT eV
  go_enter Tryd.func8, Tryd.ntmps8
  go_upto_region 1 with fail
  rw [← hW1]
  obtain ⟨bk, hbk⟩ : ∃ bk, bk = w.heap.size := ⟨_, rfl⟩
  have HBK : Hid (bk = w.heap.size) := hbk
  rw [← hbk] at c0 c1 HM1 ⊢
  clear hW1 hbk
  by_cases hE : BE = 0
  case neg =>
    have HRe : Hid (R = ([], BE)) := by show _ = _; rw [HRd.out, if_pos hE]
    have hne : (BE != 0) = true := by rw [bne_iff_ne]; exact hE
    clear HRd hE
    go_wp2_with fail
    refine (hid' _).mono ?_
    rintro e w2 ⟨rfl, b2⟩
    have HB2 : Hid (Below w.heap.size w (w2.alloc (.cells #[.int .u8 (a0.toNat : Int), .int .u8 (a1.toNat : Int), .int .u8 (a2.toNat : Int), .int .u8 (a3.toNat : Int), .int .u8 (a4.toNat : Int), .int .u8 (a5.toNat : Int), .int .u8 (a6.toNat : Int), .int .u8 (a7.toNat : Int)] 24))) := by
      have h := HB1.out.trans (b2.mono HB1.out.size)
      exact h.alloc h.size _
    clear hid' b2 c0 c1
    go_wp2_with fail
    go_ret2
    exact NdOut.none HRe.out HB2.out
  have HRd2 : Hid (R = if kind ≠ 2 then ([], 0) else if (Td.read s.data.toList).2 ≠ 0 then ([], (Td.read s.data.toList).2) else (Wk.uniq [] ((Td.read s.data.toList).1.flatMap fun n => n.parts), 0)) := by show _ = _; rw [HRd.out, if_neg (fun q => q hE)]
  subst hE
  clear HRd
  go_wp2_with fail
  refine (hid' _).mono ?_
  rintro e w2 ⟨rfl, b2⟩
  have HB2 : Hid (Below w.heap.size w (w2.alloc (.cells #[.int .u8 (a0.toNat : Int), .int .u8 (a1.toNat : Int), .int .u8 (a2.toNat : Int), .int .u8 (a3.toNat : Int), .int .u8 (a4.toNat : Int), .int .u8 (a5.toNat : Int), .int .u8 (a6.toNat : Int), .int .u8 (a7.toNat : Int)] 24))) := by
    have h := HB1.out.trans (b2.mono HB1.out.size)
    exact h.alloc h.size _
  have hG2 : Gw W1 w2 := b2
  obtain ⟨c0', c1'⟩ := HM1.out w2 hG2
  have hs2 : bk < w2.heap.size := by
    have := HB1.out.size
    exact World.block_lt_of_cell? _ _ c0'
  clear hid' b2 c0 c1 hG2 HB1
  by_cases hk : kind = 2
  case neg =>
    have HRe : Hid (R = ([], 0)) := by show _ = _; rw [HRd2.out, if_pos hk]
    have hne : (kind != 2) = true := by rw [bne_iff_ne]; exact hk
    clear HRd2 hk
    go_wp2_with fail
    go_ret2
    exact NdOut.none HRe.out HB2.out
  have HRd3 : Hid (R = if (Td.read s.data.toList).2 ≠ 0 then ([], (Td.read s.data.toList).2) else (Wk.uniq [] ((Td.read s.data.toList).1.flatMap fun n => n.parts), 0)) := by show _ = _; rw [HRd2.out, if_neg (fun q => q hk)]
  subst hk
  clear HRd2
  have hrd := tread_any s (w2.alloc (.cells #[.int .u8 (a0.toNat : Int), .int .u8 (a1.toNat : Int), .int .u8 (a2.toNat : Int), .int .u8 (a3.toNat : Int), .int .u8 (a4.toNat : Int), .int .u8 (a5.toNat : Int), .int .u8 (a6.toNat : Int), .int .u8 (a7.toNat : Int)] 24)) hb (HT.out _ HB2.out)
  unfold TgOut at hrd
  go_wp2_with fail
  refine hrd.mono ?_
  rintro e w4 ⟨v4, l4, rfl, hd4, ho4, hl4, hb4⟩
  have HB4 : Hid (Below w.heap.size w w4) := HB2.out.trans (hb4.mono HB2.out.size)
  have HO4 : Hid (Nds w4 v4 l4) := ho4
  obtain ⟨na, nc, rfl⟩ := ho4.slice
  have HD4 : Hid (nds l4 = (Td.read s.data.toList).1) := hd4
  clear hrd hb4 ho4 hd4 c0' c1' hs2
  by_cases hE : (Td.read s.data.toList).2 = 0
  case neg =>
    have HRe : Hid (R = ([], (Td.read s.data.toList).2)) := by show _ = _; rw [HRd3.out, if_pos hE]
    have hne : ((Td.read s.data.toList).2 != 0) = true := by rw [bne_iff_ne]; exact hE
    generalize (Td.read s.data.toList).2 = ER at *
    clear HRd3 hE
    go_wp2_with fail
    go_ret2
    exact NdOut.none HRe.out HB4.out
  have hchk : Td.check (nds l4) = 0 := by
    rw [HD4.out]
    exact (Td.write_read (Prod.ext rfl hE)).2.1
  have HNk : Hid (∀ n ∈ l4, Nk n) := fun n hn => nk_of hchk hn
  obtain ⟨N, hN⟩ : ∃ N, N = l4.length := ⟨_, rfl⟩
  have HN : Hid (N = l4.length) := hN
  have HRn : Hid (R = (Wk.uniq [] (((nds l4).take N).flatMap fun n => n.parts), 0)) := by
    show _ = _
    rw [HRd3.out, if_neg (fun q => q hE), ← HD4.out, hN, ← nds_length l4, List.take_length]
  rw [← hN] at HO4 hl4 ⊢
  rw [hE]
  clear HRd3 hE hchk hN HD4
  go_wp2_with fail
  go_loopw [8, 35] (fun v i wr => ∃ (k : Nat) (o : List (List UInt8)), k ≤ N ∧ i = .int .i64 k ∧ o.length ≤ 300 * k ∧ Hid (o = Wk.uniq [] (((nds l4).take k).flatMap fun n => n.parts)) ∧ Hid (∀ t ∈ o, t.length = 8) ∧ Hid (wr.ownsRow w4.heap.size 24 8 v o.length (rowR idC o)) ∧ Hid (Below w4.heap.size w4 wr)) (fun _ i _ => N - (intOf i).toNat)
  case atStart => exact ⟨0, [], by omega, rfl, by simp, by show _ = _; simp [Wk.uniq_nil], (fun _ h => absurd h List.not_mem_nil), World.ownsRow_nil _ _ _ _, Below.refl _ _⟩
  case round =>
    obtain ⟨k, o, hk, rfl, hol, HU, H8, HO, HB⟩ := hrel
    by_cases hlt : k < N
    · have hjl : k < l4.length := by rw [← HN.out]; exact hlt
      obtain ⟨n, hx⟩ : ∃ n, l4[k]? = some n := ⟨_, List.getElem?_eq_getElem hjl⟩
      have hnk := HNk.out n (List.mem_of_getElem? hx)
      obtain ⟨kb, ko, cs, rfl, hkb, hcl, hng, hcell4⟩ := HO4.out.get k n hx
      have hcell : ∀ (r : Nat) (u : Value), cs[r]? = some u → wr.cell? ⟨kb, ko + k * 7 + r, none⟩ = some u := fun r u hu => (HB.out.cell (p := ⟨kb, ko + k * 7 + r, none⟩) hkb).trans (hcell4 r u hu)
      clear hcell4
      obtain ⟨pv, ecs, hrx, hno⟩ := hng
      subst ecs
      have hmany : n.parts.length ≤ 300 := hnk.many
      have HUn : Hid (Wk.uniq [] (((nds l4).take (k + 1)).flatMap fun n => n.parts) = Wk.uniq o n.parts) := by
        show _ = _
        rw [needs_node hx, HU.out]
      have HP8 : Hid (∀ t ∈ n.parts, t.length = 8) := hno.ids
      have hblk := hno.ids
      obtain ⟨WB, hWB⟩ : ∃ WB, WB = wr.alloc (.cells (ndC n pv).toArray 54) := ⟨_, rfl⟩
      have hbB : Below wr.heap.size wr WB := by rw [hWB]; exact (Below.refl _ wr).alloc (Nat.le_refl _) _
      have HX : Hid (Rx 8 idC w4 pv n.parts) := hrx
      have hMB : WB.heap[wr.heap.size]? = some (.cells (ndC n pv).toArray 54 (0, 0)) := by rw [hWB]; exact heap_alloc_new wr _
      have HBB : Hid (Below w4.heap.size w4 WB) := HB.out.trans (hbB.mono HB.out.size)
      have HOB : Hid (WB.ownsRow w4.heap.size 24 8 u8 o.length (rowR idC o)) := own_below HO.out hbB
      have hszB : wr.heap.size < WB.heap.size := (Array.getElem?_eq_some_iff.1 hMB).1
      obtain ⟨name, kind, mode, time, size, parts, link⟩ := n
      dsimp only [ndC] at *
      obtain ⟨pa, pc, rfl, _, _⟩ := hrx.slice
      obtain ⟨m0, m1, m2, m3, m4, m5, m6⟩ := seven_at hMB
      have x0 := hcell 0 _ rfl
      have x1 := hcell 1 _ rfl
      have x2 := hcell 2 _ rfl
      have x3 := hcell 3 _ rfl
      have x4 := hcell 4 _ rfl
      have x5 := hcell 5 _ rfl
      have x6 := hcell 6 _ rfl
      rw [Nat.add_zero] at x0
      obtain ⟨PL, hPL⟩ : ∃ PL, PL = parts.length := ⟨_, rfl⟩
      have HPL : Hid (PL = parts.length) := hPL
      rw [← hPL] at x5 m5 HX hmany hWB
      clear hcell hrx hno hx hjl hbB HO hcl hnk hkb hMB hPL hblk m0 m1 m2 m3 m4 m6
      go_wp2_with fail
      rw [← hWB]
      obtain ⟨G, hG⟩ : ∃ G, G = wr.heap.size := ⟨_, rfl⟩
      rw [← hG] at m5 ⊢
      clear hWB hszB hG
      go_wp2_with fail
      go_loopw [8, 42] (fun v i wr => ∃ (j : Nat) (oj : List (List UInt8)), j ≤ PL ∧ i = .int .i64 j ∧ oj.length ≤ 300 * k + j ∧ Hid (oj = Wk.uniq o (parts.take j)) ∧ Hid (∀ t ∈ oj, t.length = 8) ∧ Hid (wr.ownsRow w4.heap.size 24 8 v oj.length (rowR idC oj)) ∧ Hid (Below w4.heap.size w4 wr)) (fun _ i _ => PL - (intOf i).toNat)
      case atStart => exact ⟨0, o, by omega, rfl, by omega, by show _ = _; rw [List.take_zero, Wk.uniq_nil], H8, HOB, HBB.out⟩
      case round =>
        clear HOB HBB H8 HU
        obtain ⟨j, oj, hj, rfl, hol2, HU, H8, HO, HB⟩ := hrel
        by_cases hlt2 : j < PL
        · have hjp : j < parts.length := by rw [← HPL.out]; exact hlt2
          obtain ⟨t, ht⟩ : ∃ t, parts[j]? = some t := ⟨_, List.getElem?_eq_getElem hjp⟩
          have ht8 := HP8.out t (List.mem_of_getElem? ht)
          obtain ⟨pk, po, rfl, hpk, hpc⟩ := (HX.out.below HB.out).get j t ht
          have HUt := needs_turn (out := o) ht
          rw [← HU.out] at HUt
          have HU2 : Hid (Wk.uniq o (parts.take (j + 1)) = if t ∈ oj then oj else oj ++ [t]) := HUt
          obtain ⟨W2, hW2⟩ : ∃ W2, W2 = wr.alloc (.cells (t.map B).toArray 24) := ⟨_, rfl⟩
          have hb2 : Below wr.heap.size wr W2 := by rw [hW2]; exact (Below.refl _ wr).alloc (Nat.le_refl _) _
          have hM2 : W2.heap[wr.heap.size]? = some (.cells (t.map B).toArray 24 (0, 0)) := by rw [hW2]; exact heap_alloc_new wr _
          have HB2 : Hid (Below w4.heap.size w4 W2) := HB.out.trans (hb2.mono HB.out.size)
          have hO2 : W2.ownsRow w4.heap.size 24 8 u8 oj.length (rowR idC oj) := own_below HO.out hb2
          have HO2 : Hid (W2.ownsRow w4.heap.size 24 8 u8 oj.length (rowR idC oj)) := hO2
          have hrx2 : Rx 8 idC W2 u8 oj := rx_own hO2 rfl H8.out
          have hhas := hasId_any u8 oj t W2 hrx2 H8.out ht8
          have hsz2 : wr.heap.size < W2.heap.size := (Array.getElem?_eq_some_iff.1 hM2).1
          obtain ⟨b0, b1, b2, b3, b4, b5, b6, b7, rfl⟩ := oct8 ht8
          have x0 : wr.cell? ⟨pk, po + j * 8, none⟩ = some (.int .u8 (b0.toNat : Int)) := hpc 0 _ rfl
          have x1 : wr.cell? ⟨pk, po + j * 8 + 1, none⟩ = some (.int .u8 (b1.toNat : Int)) := hpc 1 _ rfl
          have x2 : wr.cell? ⟨pk, po + j * 8 + 2, none⟩ = some (.int .u8 (b2.toNat : Int)) := hpc 2 _ rfl
          have x3 : wr.cell? ⟨pk, po + j * 8 + 3, none⟩ = some (.int .u8 (b3.toNat : Int)) := hpc 3 _ rfl
          have x4 : wr.cell? ⟨pk, po + j * 8 + 4, none⟩ = some (.int .u8 (b4.toNat : Int)) := hpc 4 _ rfl
          have x5 : wr.cell? ⟨pk, po + j * 8 + 5, none⟩ = some (.int .u8 (b5.toNat : Int)) := hpc 5 _ rfl
          have x6 : wr.cell? ⟨pk, po + j * 8 + 6, none⟩ = some (.int .u8 (b6.toNat : Int)) := hpc 6 _ rfl
          have x7 : wr.cell? ⟨pk, po + j * 8 + 7, none⟩ = some (.int .u8 (b7.toNat : Int)) := hpc 7 _ rfl
          have hW2' : W2 = wr.alloc (.cells #[.int .u8 (b0.toNat : Int), .int .u8 (b1.toNat : Int), .int .u8 (b2.toNat : Int), .int .u8 (b3.toNat : Int), .int .u8 (b4.toNat : Int), .int .u8 (b5.toNat : Int), .int .u8 (b6.toNat : Int), .int .u8 (b7.toNat : Int)] 24) := hW2
          obtain ⟨y0, y1, y2, y3, y4, y5, y6, y7⟩ := (I8.laid hM2).cells
          have hhas' : Calls Tryd.prog 17 #[u8, .agg #[.int .u8 (b0.toNat : Int), .int .u8 (b1.toNat : Int), .int .u8 (b2.toNat : Int), .int .u8 (b3.toNat : Int), .int .u8 (b4.toNat : Int), .int .u8 (b5.toNat : Int), .int .u8 (b6.toNat : Int), .int .u8 (b7.toNat : Int)]] W2 fun e w' => e = .returned (.bool (decide ([b0, b1, b2, b3, b4, b5, b6, b7] ∈ oj))) ∧ Below W2.heap.size W2 w' := hhas
          clear hhas hpc hM2 hW2 ht ht8 HUt hO2 hrx2 hb2 HO
          by_cases hin : [b0, b1, b2, b3, b4, b5, b6, b7] ∈ oj
          · have HU3 : Hid (oj = Wk.uniq o (parts.take (j + 1))) := by show _ = _; rw [HU2.out, if_pos hin]
            rw [decide_eq_true hin] at hhas'
            clear hin HU2 HU
            go_wp2_with fail
            rw [← hW2']
            obtain ⟨G2, hG2⟩ : ∃ G2, G2 = wr.heap.size := ⟨_, rfl⟩
            rw [← hG2] at y0 y1 y2 y3 y4 y5 y6 y7 ⊢
            clear hW2' hG2
            go_wp2_with fail
            refine hhas'.mono ?_
            rintro e w5 ⟨rfl, b5⟩
            have HB5 : Hid (Below w4.heap.size w4 w5) := HB2.out.trans (b5.mono HB2.out.size)
            have HO5 : Hid (w5.ownsRow w4.heap.size 24 8 u8 oj.length (rowR idC oj)) := own_below HO2.out b5
            clear hhas' b5 y0 y1 y2 y3 y4 y5 y6 y7 x0 x1 x2 x3 x4 x5 x6 x7
            go_wp2_with fail
            go_roundw
            case rel => exact ⟨j + 1, oj, by omega, by go_num, by omega, HU3, H8, HO5, HB5⟩
            case measure => simp only [intOf]; omega
          · have HU3 : Hid (oj ++ [[b0, b1, b2, b3, b4, b5, b6, b7]] = Wk.uniq o (parts.take (j + 1))) := by show _ = _; rw [HU2.out, if_neg hin]
            have H83 : Hid (∀ t ∈ oj ++ [[b0, b1, b2, b3, b4, b5, b6, b7]], t.length = 8) := fun t ht => by
              rcases List.mem_append.1 ht with q | q
              · exact H8.out t q
              · rw [List.mem_singleton.1 q]; rfl
            rw [decide_eq_false hin] at hhas'
            clear hin HU2 HU H8
            go_wp2_with fail
            rw [← hW2']
            obtain ⟨G2, hG2⟩ : ∃ G2, G2 = wr.heap.size := ⟨_, rfl⟩
            have HG2 : Hid (G2 < W2.heap.size) := by rw [hG2]; exact hsz2
            rw [← hG2] at y0 y1 y2 y3 y4 y5 y6 y7 ⊢
            clear hW2' hG2 hsz2
            go_wp2_with fail
            refine hhas'.mono ?_
            rintro e w5 ⟨rfl, b5⟩
            have HB5 : Hid (Below w4.heap.size w4 w5) := HB2.out.trans (b5.mono HB2.out.size)
            have hO5 : w5.ownsRow w4.heap.size 24 8 u8 oj.length (rowR idC oj) := own_below HO2.out b5
            have z0 := (b5.cell (p := ⟨G2, 0, none⟩) HG2.out).trans y0
            have z1 := (b5.cell (p := ⟨G2, 1, none⟩) HG2.out).trans y1
            have z2 := (b5.cell (p := ⟨G2, 2, none⟩) HG2.out).trans y2
            have z3 := (b5.cell (p := ⟨G2, 3, none⟩) HG2.out).trans y3
            have z4 := (b5.cell (p := ⟨G2, 4, none⟩) HG2.out).trans y4
            have z5 := (b5.cell (p := ⟨G2, 5, none⟩) HG2.out).trans y5
            have z6 := (b5.cell (p := ⟨G2, 6, none⟩) HG2.out).trans y6
            have z7 := (b5.cell (p := ⟨G2, 7, none⟩) HG2.out).trans y7
            clear hhas' b5 y0 y1 y2 y3 y4 y5 y6 y7 x0 x1 x2 x3 x4 x5 x6 x7 HO2
            have hs5 := HB5.out.size
            go_wp2_with (at_builtin; refine wpList_append_own _ rfl (.tmp 50) (.tmp 52) 35 rfl w4.heap.size 24 i0 (.agg #[.int .u8 0, .int .u8 0, .int .u8 0, .int .u8 0, .int .u8 0, .int .u8 0, .int .u8 0, .int .u8 0]) 8 8 Tryd.underlying35 hi hz0 hz1 hz2 rfl (by decide) _ _ _ rfl (hO5.alloc _) ⟨w5.heap.size, 0, none⟩ 1 1 [.int .u8 (b0.toNat : Int), .int .u8 (b1.toNat : Int), .int .u8 (b2.toNat : Int), .int .u8 (b3.toNat : Int), .int .u8 (b4.toNat : Int), .int .u8 (b5.toNat : Int), .int .u8 (b6.toNat : Int), .int .u8 (b7.toNat : Int)] rfl rfl ?c1 ?c2 ?c3 ?c4 ?c5 ?_)
            case c1 => exact eight_new w5 (.int .u8 (b0.toNat : Int)) (.int .u8 (b1.toNat : Int)) (.int .u8 (b2.toNat : Int)) (.int .u8 (b3.toNat : Int)) (.int .u8 (b4.toNat : Int)) (.int .u8 (b5.toNat : Int)) (.int .u8 (b6.toNat : Int)) (.int .u8 (b7.toNat : Int))
            case c2 => simp [Value.oneCell']
            case c3 => unfold maxLen; omega
            case c4 => omega
            case c5 => simp; omega
            intro v6 w6 hown6 hgrow _
            have hO5' := hO5.alloc (.cells #[.int .u8 (b0.toNat : Int), .int .u8 (b1.toNat : Int), .int .u8 (b2.toNat : Int), .int .u8 (b3.toNat : Int), .int .u8 (b4.toNat : Int), .int .u8 (b5.toNat : Int), .int .u8 (b6.toNat : Int), .int .u8 (b7.toNat : Int)] 24)
            have hb6 : Below w4.heap.size w5 w6 := ((Below.refl _ w5).alloc hs5 _).grown hgrow (by simp; omega) fun q hq => (hO5'.lt q hq).1
            have HB6 : Hid (Below w4.heap.size w4 w6) := HB5.out.trans hb6
            have HO6 : Hid (w6.ownsRow w4.heap.size 24 8 v6 (oj ++ [[b0, b1, b2, b3, b4, b5, b6, b7]]).length (rowR idC (oj ++ [[b0, b1, b2, b3, b4, b5, b6, b7]]))) := by
              show World.ownsRow _ _ _ _ _ _ _
              rw [rowR_more, List.length_append]
              exact hown6
            have hl6 : (oj ++ [[b0, b1, b2, b3, b4, b5, b6, b7]]).length ≤ 300 * k + (j + 1) := by rw [List.length_append, List.length_singleton]; omega
            clear hown6 hgrow hO5 hO5' hb6 HB5 z0 z1 z2 z3 z4 z5 z6 z7
            go_wp2_with fail
            go_roundw
            case rel => exact ⟨j + 1, _, by omega, by go_num, hl6, HU3, H83, HO6, HB6⟩
            case measure => simp only [intOf]; omega
        · obtain rfl : j = PL := by omega
          have HUk : Hid (oj = Wk.uniq [] (((nds l4).take (k + 1)).flatMap fun n => n.parts)) := by
            show _ = _
            rw [HUn.out, HU.out, List.take_of_length_le (by rw [← HPL.out]; omega)]
          have hlk : oj.length ≤ 300 * (k + 1) := by omega
          go_wp2_with fail
          go_roundw
          case rel => exact ⟨k + 1, oj, by omega, by go_num, hlk, HUk, H8, HO, HB⟩
          case measure => simp only [intOf]; omega
    · obtain rfl : k = N := by omega
      have HRe : Hid (R = (o, 0)) := by show _ = _; rw [HRn.out, HU.out]
      have hol' : o.length ≤ 20000 := by omega
      have HBz : Hid (Below w.heap.size w wr) := HB4.out.trans (HB.out.mono HB4.out.size)
      have HOz : Hid (wr.ownsRow w.heap.size 24 8 u8 o.length (rowR idC o)) := own_lower HO.out HB4.out.size
      go_wp2_with fail
      go_ret2
      exact ⟨_, by rw [HRe.out]; rfl, by rw [HRe.out]; exact HOz.out, by rw [HRe.out]; exact H8.out, by rw [HRe.out]; exact hol', HBz.out⟩

end Go.Proofs.YtimdioacmojkeaaDoor

namespace Go.Proofs.YtimdioacmojkeaaDoor
open Go.RowKit
set_option maxRecDepth 4000

set_option maxHeartbeats 1000000 in
theorem rpid_of (b0 b1 b2 b3 b4 b5 b6 b7 : UInt8) (k : Nat) (s : ByteArray) (w : World) (hk : kB (k : Int) = true) (hk3 : k ≤ 3) (hs : s.size ≤ 4096)
    (hn : ∀ W, Calls Tryd.prog 23 #[.string ⟨(UInt8.ofNat k :: s.data.toList).toArray⟩] W fun e w' => e = .returned (.agg #[B b0, B b1, B b2, B b3, B b4, B b5, B b6, B b7]) ∧ Below W.heap.size W w') :
    Calls Tryd.prog 13 #[.agg #[.int .i64 k, .string s]] w fun e w' => e = .returned (.tuple #[.agg #[B b0, B b1, B b2, B b3, B b4, B b5, B b6, B b7], .int .i64 0]) ∧ Below w.heap.size w w' := by
  simp only [B] at hn
  have hisk := fun W => rkind_any (k : Int) W
  rw [hk] at hisk
  clear hk
  have hcat : ∀ W : World, (Op.stringOp .add ⟨#[UInt8.ofNat k]⟩ s).run Tryd.prog W = .ok (.string ⟨(UInt8.ofNat k :: s.data.toList).toArray⟩) W := fun W => by
    have := run_string_add_lists (P := Tryd.prog) W [UInt8.ofNat k] s.data.toList (by simp) (by rw [← Lib.size_eq]; omega)
    exact this
  obtain ⟨W2, hW2⟩ : ∃ W2, W2 = (w.alloc (.cells #[.int .i64 k, .string s] 34)).alloc (.cells Z8 24) := ⟨_, rfl⟩
  have hsz : W2.heap.size = w.heap.size + 2 := by rw [hW2]; simp
  have hX : I8 W2 (w.heap.size + 1) (List.replicate 8 0) := by
    rw [hW2]
    have := I8.new (w.alloc (.cells #[.int .i64 k, .string s] 34)) 24
    rwa [World.size_alloc] at this
  have hB2 : Below w.heap.size w W2 := by rw [hW2]; exact ((Below.refl _ w).alloc (Nat.le_refl _) _).alloc (by simp) _
  have c0 : W2.cell? ⟨w.heap.size, 0, none⟩ = some (.int .i64 k) := by rw [hW2]; simp
  have c1 : W2.cell? ⟨w.heap.size, 1, none⟩ = some (.string s) := by rw [hW2]; simp
  have hr1 := str_new (k : Int) (by omega) (by omega) W2
  simp only [Int.toNat_natCast, hsz] at hr1
  dsimp only [Z8] at hW2
  go_enter Tryd.func13, Tryd.ntmps13
  go_wp2_with fail
  rw [← hW2]
  clear hW2
  refine (hisk _).mono ?_
  rintro e u ⟨rfl, hu⟩
  obtain rfl := hu.symm
  clear hu hisk
  go_wp2_with fail
  refine (hn _).mono ?_
  rintro e w2 ⟨rfl, hb2⟩
  have hb1 : Below W2.heap.size W2 w2 := ((Below.refl _ W2).alloc (Nat.le_refl _) _).trans (hb2.mono (by simp))
  have hX2 := hX.below hb1 (by omega)
  obtain ⟨e0, e1, e2, e3, e4, e5, e6, e7⟩ := I8.cells (b0 := 0) (b1 := 0) (b2 := 0) (b3 := 0) (b4 := 0) (b5 := 0) (b6 := 0) (b7 := 0) hX2
  obtain ⟨f0, f1, f2, f3, f4, f5, f6, f7⟩ := hX2.free
  have HB2 : Hid (Below w.heap.size w (set8 w2 (w.heap.size + 1) b0 b1 b2 b3 b4 b5 b6 b7)) := below_set8 (hB2.trans (hb1.mono (by omega))) (by omega) _ _ _ _ _ _ _ _
  clear hX hX2 hb2 hb1 hB2 hn hr1 hcat
  go_wp2_with fail
  refine bodyPost_ret (v := .tuple #[.agg #[B b0, B b1, B b2, B b3, B b4, B b5, B b6, B b7], .int .i64 0]) ?_ rfl ⟨rfl, HB2.out⟩
  have hres : Tryd.f13.results = #[.cell 2 24, .tmp 3] := by kernel_rfl
  simp only [results, hres]
  go_simp
  exact ⟨rfl, rfl, rfl, rfl, rfl, rfl, rfl, rfl⟩

set_option maxHeartbeats 1000000 in
theorem rpid_kind (k : Int) (s : ByteArray) (w : World) (hk : kB k = false) :
    Calls Tryd.prog 13 #[.agg #[.int .i64 k, .string s]] w fun e w' => e = .returned (.tuple #[.agg ((List.replicate 8 0).map B).toArray, .int .i64 5]) ∧ Below w.heap.size w w' := by
  have hisk := fun W => rkind_any k W
  rw [hk] at hisk
  clear hk
  obtain ⟨W2, hW2⟩ : ∃ W2, W2 = (w.alloc (.cells #[.int .i64 k, .string s] 34)).alloc (.cells Z8 24) := ⟨_, rfl⟩
  have hX : I8 W2 (w.heap.size + 1) (List.replicate 8 0) := by
    rw [hW2]
    have := I8.new (w.alloc (.cells #[.int .i64 k, .string s] 34)) 24
    rwa [World.size_alloc] at this
  have hB2 : Below w.heap.size w W2 := by rw [hW2]; exact ((Below.refl _ w).alloc (Nat.le_refl _) _).alloc (by simp) _
  have c0 : W2.cell? ⟨w.heap.size, 0, none⟩ = some (.int .i64 k) := by rw [hW2]; simp
  have c1 : W2.cell? ⟨w.heap.size, 1, none⟩ = some (.string s) := by rw [hW2]; simp
  dsimp only [Z8] at hW2
  obtain ⟨e0, e1, e2, e3, e4, e5, e6, e7⟩ := I8.cells (b0 := 0) (b1 := 0) (b2 := 0) (b3 := 0) (b4 := 0) (b5 := 0) (b6 := 0) (b7 := 0) hX
  obtain ⟨f0, f1, f2, f3, f4, f5, f6, f7⟩ := hX.free
  have HB2 : Hid (Below w.heap.size w (set8 W2 (w.heap.size + 1) 0 0 0 0 0 0 0 0)) := below_set8 hB2 (by omega) _ _ _ _ _ _ _ _
  clear hX hB2
  go_enter Tryd.func13, Tryd.ntmps13
  go_wp2_with fail
  rw [← hW2]
  clear hW2
  refine (hisk _).mono ?_
  rintro e u ⟨rfl, hu⟩
  obtain rfl := hu.symm
  clear hu hisk
  go_wp2_with fail
  refine bodyPost_ret (v := .tuple #[.agg #[B 0, B 0, B 0, B 0, B 0, B 0, B 0, B 0], .int .i64 5]) ?_ rfl ⟨rfl, HB2.out⟩
  have hres : Tryd.f13.results = #[.cell 2 24, .tmp 3] := by kernel_rfl
  simp only [results, hres]
  go_simp
  rfl

set_option maxHeartbeats 1000000 in
theorem rpid_large (k : Int) (s : ByteArray) (w : World) (hk : kB k = true) (hs : 4096 < s.size) (hs2 : s.size ≤ 9223372036854775807) :
    Calls Tryd.prog 13 #[.agg #[.int .i64 k, .string s]] w fun e w' => e = .returned (.tuple #[.agg ((List.replicate 8 0).map B).toArray, .int .i64 2]) ∧ Below w.heap.size w w' := by
  have hisk := fun W => rkind_any k W
  rw [hk] at hisk
  clear hk
  obtain ⟨W2, hW2⟩ : ∃ W2, W2 = (w.alloc (.cells #[.int .i64 k, .string s] 34)).alloc (.cells Z8 24) := ⟨_, rfl⟩
  have hX : I8 W2 (w.heap.size + 1) (List.replicate 8 0) := by
    rw [hW2]
    have := I8.new (w.alloc (.cells #[.int .i64 k, .string s] 34)) 24
    rwa [World.size_alloc] at this
  have hB2 : Below w.heap.size w W2 := by rw [hW2]; exact ((Below.refl _ w).alloc (Nat.le_refl _) _).alloc (by simp) _
  have c0 : W2.cell? ⟨w.heap.size, 0, none⟩ = some (.int .i64 k) := by rw [hW2]; simp
  have c1 : W2.cell? ⟨w.heap.size, 1, none⟩ = some (.string s) := by rw [hW2]; simp
  dsimp only [Z8] at hW2
  obtain ⟨e0, e1, e2, e3, e4, e5, e6, e7⟩ := I8.cells (b0 := 0) (b1 := 0) (b2 := 0) (b3 := 0) (b4 := 0) (b5 := 0) (b6 := 0) (b7 := 0) hX
  obtain ⟨f0, f1, f2, f3, f4, f5, f6, f7⟩ := hX.free
  have HB2 : Hid (Below w.heap.size w (set8 W2 (w.heap.size + 1) 0 0 0 0 0 0 0 0)) := below_set8 hB2 (by omega) _ _ _ _ _ _ _ _
  clear hX hB2
  go_enter Tryd.func13, Tryd.ntmps13
  go_wp2_with fail
  rw [← hW2]
  clear hW2
  refine (hisk _).mono ?_
  rintro e u ⟨rfl, hu⟩
  obtain rfl := hu.symm
  clear hu hisk
  go_wp2_with fail
  refine bodyPost_ret (v := .tuple #[.agg #[B 0, B 0, B 0, B 0, B 0, B 0, B 0, B 0], .int .i64 2]) ?_ rfl ⟨rfl, HB2.out⟩
  have hres : Tryd.f13.results = #[.cell 2 24, .tmp 3] := by kernel_rfl
  simp only [results, hres]
  go_simp
  rfl

/-- what the document's ID of a blob is -/
theorem rpid_any (b : Blb) (w : World) (hb : b.bytes.size ≤ 9223372036854775807) :
    Calls Tryd.prog 13 #[blV b] w fun e w' => e = .returned (.tuple #[.agg ((idOr b).map B).toArray, .int .i64 (Pk.bErr b.p)]) ∧ Below w.heap.size w w' := by
  obtain ⟨k, s⟩ := b
  have hsz : s.data.toList.length = s.size := (Lib.size_eq s).symm
  by_cases hk : kB k = true
  · have hk' : k = 1 ∨ k = 2 ∨ k = 3 := kB_of.1 hk
    by_cases hs : s.size ≤ 4096
    · have he : Pk.bErr (Blb.p ⟨k, s⟩) = 0 := by
        show (if k = 1 ∨ k = 2 ∨ k = 3 then (if 4096 < s.data.toList.length then (2 : Int) else 0) else 5) = 0
        rw [if_pos hk', if_neg (by omega)]
      have hi : idOr ⟨k, s⟩ = Nm.low 8 (Mx.narrow 64 (UInt8.ofNat k.toNat :: s.data.toList)) := by rw [idOr, if_pos he]; rfl
      obtain ⟨b0, b1, b2, b3, b4, b5, b6, b7, hL⟩ := eight _ (idOr_length ⟨k, s⟩)
      obtain ⟨n, rfl⟩ : ∃ n : Nat, k = (n : Int) := ⟨k.toNat, by rcases hk' with rfl | rfl | rfl <;> rfl⟩
      have hn3 : n ≤ 3 := by rcases hk' with h | h | h <;> omega
      rw [he, hL]
      refine rpid_of b0 b1 b2 b3 b4 b5 b6 b7 n s w hk hn3 hs fun W => ?_
      have := rid_any ⟨(UInt8.ofNat n :: s.data.toList).toArray⟩ W (by rw [Lib.size_eq]; simp only [List.length_cons]; omega)
      rw [show Nm.low 8 (Mx.narrow 64 (⟨(UInt8.ofNat n :: s.data.toList).toArray⟩ : ByteArray).data.toList) = [b0, b1, b2, b3, b4, b5, b6, b7] from by rw [← hL, hi]; rfl] at this
      exact this
    · have he : Pk.bErr (Blb.p ⟨k, s⟩) = 2 := by
        show (if k = 1 ∨ k = 2 ∨ k = 3 then (if 4096 < s.data.toList.length then (2 : Int) else 0) else 5) = 2
        rw [if_pos hk', if_pos (by omega)]
      rw [idOr, if_neg (by omega), he]
      exact rpid_large k s w hk (by omega) hb
  · have he : Pk.bErr (Blb.p ⟨k, s⟩) = 5 := by
      show (if k = 1 ∨ k = 2 ∨ k = 3 then (if 4096 < s.data.toList.length then (2 : Int) else 0) else 5) = 5
      rw [if_neg (fun h : k = 1 ∨ k = 2 ∨ k = 3 => hk (kB_of.2 h))]
    rw [idOr, if_neg (by omega), he]
    exact rpid_kind k s w (by simpa using hk)
end Go.Proofs.YtimdioacmojkeaaDoor

namespace Go.Proofs.YtimdioacmojkeaaDoor
open Go.RowKit
set_option maxRecDepth 4000

set_option maxHeartbeats 4000000 in
set_option maxRecDepth 10000 in
theorem rneeds_any (b : Blb) (w : World) (hb : b.bytes.size ≤ 9223372036854775807) :
    Calls Tryd.prog 9 #[blV b] w (NdOut (Wk.needs b.p) w) := by
  obtain ⟨i0, hi, hz0, hz1, hz2⟩ := info_of' info_id
  have hid := fun W => rpid_any b W hb
  obtain ⟨a0, a1, a2, a3, a4, a5, a6, a7, hx⟩ := eight _ (idOr_length b)
  rw [hx] at hid
  obtain ⟨R, hR⟩ : ∃ R, R = Wk.needs b.p := ⟨_, rfl⟩
  have HR : Hid (R = Wk.needs b.p) := hR
  rw [← hR]
  clear hx hR
  obtain ⟨kind, s⟩ := b
  have eV : blV ⟨kind, s⟩ = .agg #[.int .i64 kind, .string s] := rfl
  rw [eV] at hid ⊢
  have hid' : ∀ W, Calls Tryd.prog 13 #[.agg #[.int .i64 kind, .string s]] W fun e w' => e = .returned (.tuple #[.agg #[.int .u8 (a0.toNat : Int), .int .u8 (a1.toNat : Int), .int .u8 (a2.toNat : Int), .int .u8 (a3.toNat : Int), .int .u8 (a4.toNat : Int), .int .u8 (a5.toNat : Int), .int .u8 (a6.toNat : Int), .int .u8 (a7.toNat : Int)], .int .i64 (Pk.bErr (Blb.p ⟨kind, s⟩))]) ∧ Below W.heap.size W w' := hid
  obtain ⟨W1, hW1⟩ : ∃ W1, W1 = w.alloc (.cells #[.int .i64 kind, .string s] 34) := ⟨_, rfl⟩
  have HB1 : Hid (Below w.heap.size w W1) := by rw [hW1]; exact (Below.refl _ w).alloc (Nat.le_refl _) _
  have hM1 : W1.heap[w.heap.size]? = some (.cells #[.int .i64 kind, .string s] 34 (0, 0)) := by rw [hW1]; exact heap_alloc_new w _
  have HM1 : Hid (∀ W, Gw W1 W → W.cell? ⟨w.heap.size, 0, none⟩ = some (.int .i64 kind) ∧ W.cell? ⟨w.heap.size, 1, none⟩ = some (.string s)) := fun W hW =>
    pair_at ((Below.block hW _ (Array.getElem?_eq_some_iff.1 hM1).1).trans hM1)
  obtain ⟨c0, c1⟩ := HM1.out W1 (Gw.refl _)
  have HRd : Hid (R = if Pk.bErr (Blb.p ⟨kind, s⟩) ≠ 0 then ([], Pk.bErr (Blb.p ⟨kind, s⟩)) else if kind ≠ 2 then ([], 0) else if (Td.read s.data.toList).2 ≠ 0 then ([], (Td.read s.data.toList).2) else (Wk.uniq [] ((Td.read s.data.toList).1.flatMap fun n => n.parts), 0)) := HR.out
  generalize Pk.bErr (Blb.p ⟨kind, s⟩) = BE at *
  clear hid HR hM1 eV
  go_enter Tryd.func9, Tryd.ntmps9
  go_upto_region 1 with fail
  rw [← hW1]
  obtain ⟨bk, hbk⟩ : ∃ bk, bk = w.heap.size := ⟨_, rfl⟩
  have HBK : Hid (bk = w.heap.size) := hbk
  rw [← hbk] at c0 c1 HM1 ⊢
  clear hW1 hbk
  by_cases hE : BE = 0
  case neg =>
    have HRe : Hid (R = ([], BE)) := by show _ = _; rw [HRd.out, if_pos hE]
    have hne : (BE != 0) = true := by rw [bne_iff_ne]; exact hE
    clear HRd hE
    go_wp2_with fail
    refine (hid' _).mono ?_
    rintro e w2 ⟨rfl, b2⟩
    have HB2 : Hid (Below w.heap.size w (w2.alloc (.cells #[.int .u8 (a0.toNat : Int), .int .u8 (a1.toNat : Int), .int .u8 (a2.toNat : Int), .int .u8 (a3.toNat : Int), .int .u8 (a4.toNat : Int), .int .u8 (a5.toNat : Int), .int .u8 (a6.toNat : Int), .int .u8 (a7.toNat : Int)] 24))) := by
      have h := HB1.out.trans (b2.mono HB1.out.size)
      exact h.alloc h.size _
    clear hid' b2 c0 c1
    go_wp2_with fail
    go_ret2
    exact NdOut.none HRe.out HB2.out
  have HRd2 : Hid (R = if kind ≠ 2 then ([], 0) else if (Td.read s.data.toList).2 ≠ 0 then ([], (Td.read s.data.toList).2) else (Wk.uniq [] ((Td.read s.data.toList).1.flatMap fun n => n.parts), 0)) := by show _ = _; rw [HRd.out, if_neg (fun q => q hE)]
  subst hE
  clear HRd
  go_wp2_with fail
  refine (hid' _).mono ?_
  rintro e w2 ⟨rfl, b2⟩
  have HB2 : Hid (Below w.heap.size w (w2.alloc (.cells #[.int .u8 (a0.toNat : Int), .int .u8 (a1.toNat : Int), .int .u8 (a2.toNat : Int), .int .u8 (a3.toNat : Int), .int .u8 (a4.toNat : Int), .int .u8 (a5.toNat : Int), .int .u8 (a6.toNat : Int), .int .u8 (a7.toNat : Int)] 24))) := by
    have h := HB1.out.trans (b2.mono HB1.out.size)
    exact h.alloc h.size _
  have hG2 : Gw W1 w2 := b2
  obtain ⟨c0', c1'⟩ := HM1.out w2 hG2
  have hs2 : bk < w2.heap.size := by
    have := HB1.out.size
    exact World.block_lt_of_cell? _ _ c0'
  clear hid' b2 c0 c1 hG2 HB1
  by_cases hk : kind = 2
  case neg =>
    have HRe : Hid (R = ([], 0)) := by show _ = _; rw [HRd2.out, if_pos hk]
    have hne : (kind != 2) = true := by rw [bne_iff_ne]; exact hk
    clear HRd2 hk
    go_wp2_with fail
    go_ret2
    exact NdOut.none HRe.out HB2.out
  have HRd3 : Hid (R = if (Td.read s.data.toList).2 ≠ 0 then ([], (Td.read s.data.toList).2) else (Wk.uniq [] ((Td.read s.data.toList).1.flatMap fun n => n.parts), 0)) := by show _ = _; rw [HRd2.out, if_neg (fun q => q hk)]
  subst hk
  clear HRd2
  have hrd := rtree_any s (w2.alloc (.cells #[.int .u8 (a0.toNat : Int), .int .u8 (a1.toNat : Int), .int .u8 (a2.toNat : Int), .int .u8 (a3.toNat : Int), .int .u8 (a4.toNat : Int), .int .u8 (a5.toNat : Int), .int .u8 (a6.toNat : Int), .int .u8 (a7.toNat : Int)] 24)) hb
  unfold TrOut at hrd
  go_wp2_with fail
  refine hrd.mono ?_
  rintro e w4 ⟨v4, l4, rfl, hd4, ho4, hl4, _, hb4⟩
  have HB4 : Hid (Below w.heap.size w w4) := HB2.out.trans (hb4.mono HB2.out.size)
  have HO4 : Hid (Nds w4 v4 l4) := ho4
  obtain ⟨na, nc, rfl⟩ := ho4.slice
  have HD4 : Hid (nds l4 = (Td.read s.data.toList).1) := hd4
  clear hrd hb4 ho4 hd4 c0' c1' hs2
  by_cases hE : (Td.read s.data.toList).2 = 0
  case neg =>
    have HRe : Hid (R = ([], (Td.read s.data.toList).2)) := by show _ = _; rw [HRd3.out, if_pos hE]
    have hne : ((Td.read s.data.toList).2 != 0) = true := by rw [bne_iff_ne]; exact hE
    generalize (Td.read s.data.toList).2 = ER at *
    clear HRd3 hE
    go_wp2_with fail
    go_ret2
    exact NdOut.none HRe.out HB4.out
  have hchk : Td.check (nds l4) = 0 := by
    rw [HD4.out]
    exact (Td.write_read (Prod.ext rfl hE)).2.1
  have HNk : Hid (∀ n ∈ l4, Nk n) := fun n hn => nk_of hchk hn
  obtain ⟨N, hN⟩ : ∃ N, N = l4.length := ⟨_, rfl⟩
  have HN : Hid (N = l4.length) := hN
  have HRn : Hid (R = (Wk.uniq [] (((nds l4).take N).flatMap fun n => n.parts), 0)) := by
    show _ = _
    rw [HRd3.out, if_neg (fun q => q hE), ← HD4.out, hN, ← nds_length l4, List.take_length]
  rw [← hN] at HO4 hl4 ⊢
  rw [hE]
  clear HRd3 hE hchk hN HD4
  go_wp2_with fail
  go_loopw [8, 37] (fun v i wr => ∃ (k : Nat) (o : List (List UInt8)), k ≤ N ∧ i = .int .i64 k ∧ o.length ≤ 300 * k ∧ Hid (o = Wk.uniq [] (((nds l4).take k).flatMap fun n => n.parts)) ∧ Hid (∀ t ∈ o, t.length = 8) ∧ Hid (wr.ownsRow w4.heap.size 24 8 v o.length (rowR idC o)) ∧ Hid (Below w4.heap.size w4 wr)) (fun _ i _ => N - (intOf i).toNat)
  case atStart => exact ⟨0, [], by omega, rfl, by simp, by show _ = _; simp [Wk.uniq_nil], (fun _ h => absurd h List.not_mem_nil), World.ownsRow_nil _ _ _ _, Below.refl _ _⟩
  case round =>
    obtain ⟨k, o, hk, rfl, hol, HU, H8, HO, HB⟩ := hrel
    by_cases hlt : k < N
    · have hjl : k < l4.length := by rw [← HN.out]; exact hlt
      obtain ⟨n, hx⟩ : ∃ n, l4[k]? = some n := ⟨_, List.getElem?_eq_getElem hjl⟩
      have hnk := HNk.out n (List.mem_of_getElem? hx)
      obtain ⟨kb, ko, cs, rfl, hkb, hcl, hng, hcell4⟩ := HO4.out.get k n hx
      have hcell : ∀ (r : Nat) (u : Value), cs[r]? = some u → wr.cell? ⟨kb, ko + k * 7 + r, none⟩ = some u := fun r u hu => (HB.out.cell (p := ⟨kb, ko + k * 7 + r, none⟩) hkb).trans (hcell4 r u hu)
      clear hcell4
      obtain ⟨pv, ecs, hrx, hno⟩ := hng
      subst ecs
      have hmany : n.parts.length ≤ 300 := hnk.many
      have HUn : Hid (Wk.uniq [] (((nds l4).take (k + 1)).flatMap fun n => n.parts) = Wk.uniq o n.parts) := by
        show _ = _
        rw [needs_node hx, HU.out]
      have HP8 : Hid (∀ t ∈ n.parts, t.length = 8) := hno.ids
      have hblk := hno.ids
      obtain ⟨WB, hWB⟩ : ∃ WB, WB = wr.alloc (.cells (ndC n pv).toArray 54) := ⟨_, rfl⟩
      have hbB : Below wr.heap.size wr WB := by rw [hWB]; exact (Below.refl _ wr).alloc (Nat.le_refl _) _
      have HX : Hid (Rx 8 idC w4 pv n.parts) := hrx
      have hMB : WB.heap[wr.heap.size]? = some (.cells (ndC n pv).toArray 54 (0, 0)) := by rw [hWB]; exact heap_alloc_new wr _
      have HBB : Hid (Below w4.heap.size w4 WB) := HB.out.trans (hbB.mono HB.out.size)
      have HOB : Hid (WB.ownsRow w4.heap.size 24 8 u8 o.length (rowR idC o)) := own_below HO.out hbB
      have hszB : wr.heap.size < WB.heap.size := (Array.getElem?_eq_some_iff.1 hMB).1
      obtain ⟨name, kind, mode, time, size, parts, link⟩ := n
      dsimp only [ndC] at *
      obtain ⟨pa, pc, rfl, _, _⟩ := hrx.slice
      obtain ⟨m0, m1, m2, m3, m4, m5, m6⟩ := seven_at hMB
      have x0 := hcell 0 _ rfl
      have x1 := hcell 1 _ rfl
      have x2 := hcell 2 _ rfl
      have x3 := hcell 3 _ rfl
      have x4 := hcell 4 _ rfl
      have x5 := hcell 5 _ rfl
      have x6 := hcell 6 _ rfl
      rw [Nat.add_zero] at x0
      obtain ⟨PL, hPL⟩ : ∃ PL, PL = parts.length := ⟨_, rfl⟩
      have HPL : Hid (PL = parts.length) := hPL
      rw [← hPL] at x5 m5 HX hmany hWB
      clear hcell hrx hno hx hjl hbB HO hcl hnk hkb hMB hPL hblk m0 m1 m2 m3 m4 m6
      go_wp2_with fail
      rw [← hWB]
      obtain ⟨G, hG⟩ : ∃ G, G = wr.heap.size := ⟨_, rfl⟩
      rw [← hG] at m5 ⊢
      clear hWB hszB hG
      go_wp2_with fail
      go_loopw [8, 44] (fun v i wr => ∃ (j : Nat) (oj : List (List UInt8)), j ≤ PL ∧ i = .int .i64 j ∧ oj.length ≤ 300 * k + j ∧ Hid (oj = Wk.uniq o (parts.take j)) ∧ Hid (∀ t ∈ oj, t.length = 8) ∧ Hid (wr.ownsRow w4.heap.size 24 8 v oj.length (rowR idC oj)) ∧ Hid (Below w4.heap.size w4 wr)) (fun _ i _ => PL - (intOf i).toNat)
      case atStart => exact ⟨0, o, by omega, rfl, by omega, by show _ = _; rw [List.take_zero, Wk.uniq_nil], H8, HOB, HBB.out⟩
      case round =>
        clear HOB HBB H8 HU
        obtain ⟨j, oj, hj, rfl, hol2, HU, H8, HO, HB⟩ := hrel
        by_cases hlt2 : j < PL
        · have hjp : j < parts.length := by rw [← HPL.out]; exact hlt2
          obtain ⟨t, ht⟩ : ∃ t, parts[j]? = some t := ⟨_, List.getElem?_eq_getElem hjp⟩
          have ht8 := HP8.out t (List.mem_of_getElem? ht)
          obtain ⟨pk, po, rfl, hpk, hpc⟩ := (HX.out.below HB.out).get j t ht
          have HUt := needs_turn (out := o) ht
          rw [← HU.out] at HUt
          have HU2 : Hid (Wk.uniq o (parts.take (j + 1)) = if t ∈ oj then oj else oj ++ [t]) := HUt
          obtain ⟨W2, hW2⟩ : ∃ W2, W2 = wr.alloc (.cells (t.map B).toArray 24) := ⟨_, rfl⟩
          have hb2 : Below wr.heap.size wr W2 := by rw [hW2]; exact (Below.refl _ wr).alloc (Nat.le_refl _) _
          have hM2 : W2.heap[wr.heap.size]? = some (.cells (t.map B).toArray 24 (0, 0)) := by rw [hW2]; exact heap_alloc_new wr _
          have HB2 : Hid (Below w4.heap.size w4 W2) := HB.out.trans (hb2.mono HB.out.size)
          have hO2 : W2.ownsRow w4.heap.size 24 8 u8 oj.length (rowR idC oj) := own_below HO.out hb2
          have HO2 : Hid (W2.ownsRow w4.heap.size 24 8 u8 oj.length (rowR idC oj)) := hO2
          have hrx2 : Rx 8 idC W2 u8 oj := rx_own hO2 rfl H8.out
          have hhas := hasId_any u8 oj t W2 hrx2 H8.out ht8
          have hsz2 : wr.heap.size < W2.heap.size := (Array.getElem?_eq_some_iff.1 hM2).1
          obtain ⟨b0, b1, b2, b3, b4, b5, b6, b7, rfl⟩ := oct8 ht8
          have x0 : wr.cell? ⟨pk, po + j * 8, none⟩ = some (.int .u8 (b0.toNat : Int)) := hpc 0 _ rfl
          have x1 : wr.cell? ⟨pk, po + j * 8 + 1, none⟩ = some (.int .u8 (b1.toNat : Int)) := hpc 1 _ rfl
          have x2 : wr.cell? ⟨pk, po + j * 8 + 2, none⟩ = some (.int .u8 (b2.toNat : Int)) := hpc 2 _ rfl
          have x3 : wr.cell? ⟨pk, po + j * 8 + 3, none⟩ = some (.int .u8 (b3.toNat : Int)) := hpc 3 _ rfl
          have x4 : wr.cell? ⟨pk, po + j * 8 + 4, none⟩ = some (.int .u8 (b4.toNat : Int)) := hpc 4 _ rfl
          have x5 : wr.cell? ⟨pk, po + j * 8 + 5, none⟩ = some (.int .u8 (b5.toNat : Int)) := hpc 5 _ rfl
          have x6 : wr.cell? ⟨pk, po + j * 8 + 6, none⟩ = some (.int .u8 (b6.toNat : Int)) := hpc 6 _ rfl
          have x7 : wr.cell? ⟨pk, po + j * 8 + 7, none⟩ = some (.int .u8 (b7.toNat : Int)) := hpc 7 _ rfl
          have hW2' : W2 = wr.alloc (.cells #[.int .u8 (b0.toNat : Int), .int .u8 (b1.toNat : Int), .int .u8 (b2.toNat : Int), .int .u8 (b3.toNat : Int), .int .u8 (b4.toNat : Int), .int .u8 (b5.toNat : Int), .int .u8 (b6.toNat : Int), .int .u8 (b7.toNat : Int)] 24) := hW2
          obtain ⟨y0, y1, y2, y3, y4, y5, y6, y7⟩ := (I8.laid hM2).cells
          have hhas' : Calls Tryd.prog 17 #[u8, .agg #[.int .u8 (b0.toNat : Int), .int .u8 (b1.toNat : Int), .int .u8 (b2.toNat : Int), .int .u8 (b3.toNat : Int), .int .u8 (b4.toNat : Int), .int .u8 (b5.toNat : Int), .int .u8 (b6.toNat : Int), .int .u8 (b7.toNat : Int)]] W2 fun e w' => e = .returned (.bool (decide ([b0, b1, b2, b3, b4, b5, b6, b7] ∈ oj))) ∧ Below W2.heap.size W2 w' := hhas
          clear hhas hpc hM2 hW2 ht ht8 HUt hO2 hrx2 hb2 HO
          by_cases hin : [b0, b1, b2, b3, b4, b5, b6, b7] ∈ oj
          · have HU3 : Hid (oj = Wk.uniq o (parts.take (j + 1))) := by show _ = _; rw [HU2.out, if_pos hin]
            rw [decide_eq_true hin] at hhas'
            clear hin HU2 HU
            go_wp2_with fail
            rw [← hW2']
            obtain ⟨G2, hG2⟩ : ∃ G2, G2 = wr.heap.size := ⟨_, rfl⟩
            rw [← hG2] at y0 y1 y2 y3 y4 y5 y6 y7 ⊢
            clear hW2' hG2
            go_wp2_with fail
            refine hhas'.mono ?_
            rintro e w5 ⟨rfl, b5⟩
            have HB5 : Hid (Below w4.heap.size w4 w5) := HB2.out.trans (b5.mono HB2.out.size)
            have HO5 : Hid (w5.ownsRow w4.heap.size 24 8 u8 oj.length (rowR idC oj)) := own_below HO2.out b5
            clear hhas' b5 y0 y1 y2 y3 y4 y5 y6 y7 x0 x1 x2 x3 x4 x5 x6 x7
            go_wp2_with fail
            go_roundw
            case rel => exact ⟨j + 1, oj, by omega, by go_num, by omega, HU3, H8, HO5, HB5⟩
            case measure => simp only [intOf]; omega
          · have HU3 : Hid (oj ++ [[b0, b1, b2, b3, b4, b5, b6, b7]] = Wk.uniq o (parts.take (j + 1))) := by show _ = _; rw [HU2.out, if_neg hin]
            have H83 : Hid (∀ t ∈ oj ++ [[b0, b1, b2, b3, b4, b5, b6, b7]], t.length = 8) := fun t ht => by
              rcases List.mem_append.1 ht with q | q
              · exact H8.out t q
              · rw [List.mem_singleton.1 q]; rfl
            rw [decide_eq_false hin] at hhas'
            clear hin HU2 HU H8
            go_wp2_with fail
            rw [← hW2']
            obtain ⟨G2, hG2⟩ : ∃ G2, G2 = wr.heap.size := ⟨_, rfl⟩
            have HG2 : Hid (G2 < W2.heap.size) := by rw [hG2]; exact hsz2
            rw [← hG2] at y0 y1 y2 y3 y4 y5 y6 y7 ⊢
            clear hW2' hG2 hsz2
            go_wp2_with fail
            refine hhas'.mono ?_
            rintro e w5 ⟨rfl, b5⟩
            have HB5 : Hid (Below w4.heap.size w4 w5) := HB2.out.trans (b5.mono HB2.out.size)
            have hO5 : w5.ownsRow w4.heap.size 24 8 u8 oj.length (rowR idC oj) := own_below HO2.out b5
            have z0 := (b5.cell (p := ⟨G2, 0, none⟩) HG2.out).trans y0
            have z1 := (b5.cell (p := ⟨G2, 1, none⟩) HG2.out).trans y1
            have z2 := (b5.cell (p := ⟨G2, 2, none⟩) HG2.out).trans y2
            have z3 := (b5.cell (p := ⟨G2, 3, none⟩) HG2.out).trans y3
            have z4 := (b5.cell (p := ⟨G2, 4, none⟩) HG2.out).trans y4
            have z5 := (b5.cell (p := ⟨G2, 5, none⟩) HG2.out).trans y5
            have z6 := (b5.cell (p := ⟨G2, 6, none⟩) HG2.out).trans y6
            have z7 := (b5.cell (p := ⟨G2, 7, none⟩) HG2.out).trans y7
            clear hhas' b5 y0 y1 y2 y3 y4 y5 y6 y7 x0 x1 x2 x3 x4 x5 x6 x7 HO2
            have hs5 := HB5.out.size
            go_wp2_with (at_builtin; refine wpList_append_own _ rfl (.tmp 52) (.tmp 54) 35 rfl w4.heap.size 24 i0 (.agg #[.int .u8 0, .int .u8 0, .int .u8 0, .int .u8 0, .int .u8 0, .int .u8 0, .int .u8 0, .int .u8 0]) 8 8 Tryd.underlying35 hi hz0 hz1 hz2 rfl (by decide) _ _ _ rfl (hO5.alloc _) ⟨w5.heap.size, 0, none⟩ 1 1 [.int .u8 (b0.toNat : Int), .int .u8 (b1.toNat : Int), .int .u8 (b2.toNat : Int), .int .u8 (b3.toNat : Int), .int .u8 (b4.toNat : Int), .int .u8 (b5.toNat : Int), .int .u8 (b6.toNat : Int), .int .u8 (b7.toNat : Int)] rfl rfl ?c1 ?c2 ?c3 ?c4 ?c5 ?_)
            case c1 => exact eight_new w5 (.int .u8 (b0.toNat : Int)) (.int .u8 (b1.toNat : Int)) (.int .u8 (b2.toNat : Int)) (.int .u8 (b3.toNat : Int)) (.int .u8 (b4.toNat : Int)) (.int .u8 (b5.toNat : Int)) (.int .u8 (b6.toNat : Int)) (.int .u8 (b7.toNat : Int))
            case c2 => simp [Value.oneCell']
            case c3 => unfold maxLen; omega
            case c4 => omega
            case c5 => simp; omega
            intro v6 w6 hown6 hgrow _
            have hO5' := hO5.alloc (.cells #[.int .u8 (b0.toNat : Int), .int .u8 (b1.toNat : Int), .int .u8 (b2.toNat : Int), .int .u8 (b3.toNat : Int), .int .u8 (b4.toNat : Int), .int .u8 (b5.toNat : Int), .int .u8 (b6.toNat : Int), .int .u8 (b7.toNat : Int)] 24)
            have hb6 : Below w4.heap.size w5 w6 := ((Below.refl _ w5).alloc hs5 _).grown hgrow (by simp; omega) fun q hq => (hO5'.lt q hq).1
            have HB6 : Hid (Below w4.heap.size w4 w6) := HB5.out.trans hb6
            have HO6 : Hid (w6.ownsRow w4.heap.size 24 8 v6 (oj ++ [[b0, b1, b2, b3, b4, b5, b6, b7]]).length (rowR idC (oj ++ [[b0, b1, b2, b3, b4, b5, b6, b7]]))) := by
              show World.ownsRow _ _ _ _ _ _ _
              rw [rowR_more, List.length_append]
              exact hown6
            have hl6 : (oj ++ [[b0, b1, b2, b3, b4, b5, b6, b7]]).length ≤ 300 * k + (j + 1) := by rw [List.length_append, List.length_singleton]; omega
            clear hown6 hgrow hO5 hO5' hb6 HB5 z0 z1 z2 z3 z4 z5 z6 z7
            go_wp2_with fail
            go_roundw
            case rel => exact ⟨j + 1, _, by omega, by go_num, hl6, HU3, H83, HO6, HB6⟩
            case measure => simp only [intOf]; omega
        · obtain rfl : j = PL := by omega
          have HUk : Hid (oj = Wk.uniq [] (((nds l4).take (k + 1)).flatMap fun n => n.parts)) := by
            show _ = _
            rw [HUn.out, HU.out, List.take_of_length_le (by rw [← HPL.out]; omega)]
          have hlk : oj.length ≤ 300 * (k + 1) := by omega
          go_wp2_with fail
          go_roundw
          case rel => exact ⟨k + 1, oj, by omega, by go_num, hlk, HUk, H8, HO, HB⟩
          case measure => simp only [intOf]; omega
    · obtain rfl : k = N := by omega
      have HRe : Hid (R = (o, 0)) := by show _ = _; rw [HRn.out, HU.out]
      have hol' : o.length ≤ 20000 := by omega
      have HBz : Hid (Below w.heap.size w wr) := HB4.out.trans (HB.out.mono HB4.out.size)
      have HOz : Hid (wr.ownsRow w.heap.size 24 8 u8 o.length (rowR idC o)) := own_lower HO.out HB4.out.size
      go_wp2_with fail
      go_ret2
      exact ⟨_, by rw [HRe.out]; rfl, by rw [HRe.out]; exact HOz.out, by rw [HRe.out]; exact H8.out, by rw [HRe.out]; exact hol', HBz.out⟩

end Go.Proofs.YtimdioacmojkeaaDoor

namespace Go.Proofs.YtimdioacmojkeaaDoor
open Go.RowKit
set_option maxRecDepth 4000

set_option maxHeartbeats 4000000 in
set_option maxRecDepth 10000 in
theorem equal_ids (v1 v2 : Value) (l : List (List UInt8)) (w : World) (h1 : Rx 8 idC w v1 l) (h2 : Rx 8 idC w v2 l) (h8 : ∀ t ∈ l, t.length = 8) :
    Calls Tryd.prog 10 #[v1, v2] w fun e w' => e = .returned (.bool true) ∧ Below w.heap.size w w' := by
  obtain ⟨a1, c1, rfl, j1, j2⟩ := h1.slice
  obtain ⟨a2, c2, rfl, j3, j4⟩ := h2.slice
  have HX : Hid (Rx 8 idC w (.slice a1 l.length c1) l ∧ Rx 8 idC w (.slice a2 l.length c2) l ∧ ∀ t ∈ l, t.length = 8) := ⟨h1, h2, h8⟩
  obtain ⟨N, hN⟩ : ∃ N, N = l.length := ⟨_, rfl⟩
  have HN : Hid (N = l.length) := hN
  rw [← hN] at HX j1 ⊢
  clear j3 j4 h1 h2 h8 hN
  go_enter Tryd.func10, Tryd.ntmps10
  go_wp2_with fail
  go_loopw [13] (fun i wr => ∃ k : Nat, k ≤ N ∧ i = .int .i64 k ∧ Hid (Below w.heap.size w wr)) (fun i _ => N - (intOf i).toNat)
  case atStart => exact ⟨0, by omega, rfl, Below.refl _ _⟩
  case round =>
    obtain ⟨k, hk, rfl, HB⟩ := hrel
    by_cases hlt : k < N
    · have hkl : k < l.length := by rw [← HN.out]; exact hlt
      obtain ⟨bk, o, rfl, hbk, hc⟩ := (HX.out.1.below HB.out).get k l[k] (List.getElem?_eq_getElem hkl)
      obtain ⟨bk', o', rfl, hbk', hd⟩ := (HX.out.2.1.below HB.out).get k l[k] (List.getElem?_eq_getElem hkl)
      obtain ⟨b0, b1, b2, b3, b4, b5, b6, b7, ht8⟩ := oct8 (HX.out.2.2 l[k] (List.getElem_mem hkl))
      rw [ht8] at hc hd
      have x0 : wr.cell? ⟨bk, o + k * 8, none⟩ = some (.int .u8 (b0.toNat : Int)) := hc 0 _ rfl
      have x1 : wr.cell? ⟨bk, o + k * 8 + 1, none⟩ = some (.int .u8 (b1.toNat : Int)) := hc 1 _ rfl
      have x2 : wr.cell? ⟨bk, o + k * 8 + 2, none⟩ = some (.int .u8 (b2.toNat : Int)) := hc 2 _ rfl
      have x3 : wr.cell? ⟨bk, o + k * 8 + 3, none⟩ = some (.int .u8 (b3.toNat : Int)) := hc 3 _ rfl
      have x4 : wr.cell? ⟨bk, o + k * 8 + 4, none⟩ = some (.int .u8 (b4.toNat : Int)) := hc 4 _ rfl
      have x5 : wr.cell? ⟨bk, o + k * 8 + 5, none⟩ = some (.int .u8 (b5.toNat : Int)) := hc 5 _ rfl
      have x6 : wr.cell? ⟨bk, o + k * 8 + 6, none⟩ = some (.int .u8 (b6.toNat : Int)) := hc 6 _ rfl
      have x7 : wr.cell? ⟨bk, o + k * 8 + 7, none⟩ = some (.int .u8 (b7.toNat : Int)) := hc 7 _ rfl
      have y0 : wr.cell? ⟨bk', o' + k * 8, none⟩ = some (.int .u8 (b0.toNat : Int)) := hd 0 _ rfl
      have y1 : wr.cell? ⟨bk', o' + k * 8 + 1, none⟩ = some (.int .u8 (b1.toNat : Int)) := hd 1 _ rfl
      have y2 : wr.cell? ⟨bk', o' + k * 8 + 2, none⟩ = some (.int .u8 (b2.toNat : Int)) := hd 2 _ rfl
      have y3 : wr.cell? ⟨bk', o' + k * 8 + 3, none⟩ = some (.int .u8 (b3.toNat : Int)) := hd 3 _ rfl
      have y4 : wr.cell? ⟨bk', o' + k * 8 + 4, none⟩ = some (.int .u8 (b4.toNat : Int)) := hd 4 _ rfl
      have y5 : wr.cell? ⟨bk', o' + k * 8 + 5, none⟩ = some (.int .u8 (b5.toNat : Int)) := hd 5 _ rfl
      have y6 : wr.cell? ⟨bk', o' + k * 8 + 6, none⟩ = some (.int .u8 (b6.toNat : Int)) := hd 6 _ rfl
      have y7 : wr.cell? ⟨bk', o' + k * 8 + 7, none⟩ = some (.int .u8 (b7.toNat : Int)) := hd 7 _ rfl
      have heq : ∀ W, (Op.equalIn 10000 24 (.agg #[.int .u8 (b0.toNat : Int), .int .u8 (b1.toNat : Int), .int .u8 (b2.toNat : Int), .int .u8 (b3.toNat : Int), .int .u8 (b4.toNat : Int), .int .u8 (b5.toNat : Int), .int .u8 (b6.toNat : Int), .int .u8 (b7.toNat : Int)]) (.agg #[.int .u8 (b0.toNat : Int), .int .u8 (b1.toNat : Int), .int .u8 (b2.toNat : Int), .int .u8 (b3.toNat : Int), .int .u8 (b4.toNat : Int), .int .u8 (b5.toNat : Int), .int .u8 (b6.toNat : Int), .int .u8 (b7.toNat : Int)])).run Tryd.prog W = .ok true W := fun W => by
        have := id_eq W [b0, b1, b2, b3, b4, b5, b6, b7] [b0, b1, b2, b3, b4, b5, b6, b7] rfl rfl
        rw [beq_self_eq_true] at this
        exact this
      clear hc hd ht8 hbk hbk'
      go_wp2_with fail
      go_quiet (fail)
      clear x0 x1 x2 x3 x4 x5 x6 x7 y0 y1 y2 y3 y4 y5 y6 y7 heq
      go_wp2_with fail
      go_roundw
      case rel => exact ⟨k + 1, by omega, by go_num, Go.below_drewN HB.out _⟩
      case measure => simp only [intOf]; omega
    · go_wp2_with fail
      go_ret
      exact ⟨rfl, HB.out⟩

end Go.Proofs.YtimdioacmojkeaaDoor

namespace Go.Proofs.YtimdioacmojkeaaDoor
open Go.RowKit
set_option maxRecDepth 4000

set_option maxRecDepth 8000 in
set_option maxHeartbeats 2000000 in
theorem walkNeeds_walk (b0 : Blb) (z0 : b0.bytes.size ≤ 140737488351232) (w : World) (hT : Tabs w) :
    Calls Tryd.prog 4 #[.agg #[.int .i64 b0.kind, .string b0.bytes]] w fun e w' => e = .returned (.bool true) ∧ Below w.heap.size w w' := by
  obtain ⟨W1, hW1⟩ : ∃ W1, W1 = w.alloc (.cells #[.int .i64 b0.kind, .string b0.bytes] 34) := ⟨_, rfl⟩
  have HB1 : Hid (Below w.heap.size w W1) := by rw [hW1]; exact (Below.refl _ w).alloc (Nat.le_refl _) _
  have hM1 : W1.heap[w.heap.size]? = some (.cells #[.int .i64 b0.kind, .string b0.bytes] 34 (0, 0)) := by rw [hW1]; exact heap_alloc_new w _
  have hlt := (Array.getElem?_eq_some_iff.1 hM1).1
  have h1 : Calls Tryd.prog 8 #[.agg #[.int .i64 b0.kind, .string b0.bytes]] W1 (NdOut (Wk.needs b0.p) W1) := needs_any b0 W1 (by omega) fun W hW => hT.below (HB1.out.trans (hW.mono HB1.out.size))
  have h2 : ∀ W, Calls Tryd.prog 9 #[.agg #[.int .i64 b0.kind, .string b0.bytes]] W (NdOut (Wk.needs b0.p) W) := fun W => rneeds_any b0 W (by omega)
  unfold NdOut at h1 h2
  obtain ⟨⟨out, er⟩, hR⟩ : ∃ R, R = Wk.needs b0.p := ⟨_, rfl⟩
  rw [← hR] at h1 h2
  dsimp only at h1 h2
  obtain ⟨c0, c1⟩ := pair_at hM1
  obtain ⟨k, s⟩ := b0
  dsimp only at *
  clear hT hR hM1
  go_enter Tryd.func4, Tryd.ntmps4
  go_upto_region 1 with fail
  rw [← hW1]
  obtain ⟨bk, hbk⟩ : ∃ bk, bk = w.heap.size := ⟨_, rfl⟩
  have HBK : Hid (bk = w.heap.size) := hbk
  rw [← hbk] at c0 c1 hlt ⊢
  clear hW1 hbk
  go_wp2_with fail
  refine h1.mono ?_
  rintro e w1 ⟨v1, rfl, o1, o8, ol, b1⟩
  have HB2 : Hid (Below w.heap.size w w1) := HB1.out.trans (b1.mono HB1.out.size)
  have HO1 : Hid (w1.ownsRow W1.heap.size 24 8 v1 out.length (rowR idC out)) := o1
  have k2 := h2 w1
  have d0 := (b1.cell (p := ⟨bk, 0, none⟩) hlt).trans c0
  have d1 := (b1.cell (p := ⟨bk, 1, none⟩) hlt).trans c1
  clear h1 b1 h2 o1 c0 c1 hlt
  go_wp2_with fail
  refine k2.mono ?_
  rintro e w2 ⟨v2, rfl, o2, _, _, b2⟩
  have HB3 : Hid (Below w.heap.size w w2) := HB2.out.trans (b2.mono HB2.out.size)
  have k3 := equal_ids v1 v2 out w2 (rx_own (own_below HO1.out b2) rfl o8) (rx_own o2 rfl o8) o8
  clear k2 b2 o2 o8 ol HO1 d0 d1
  go_wp2_with fail
  refine k3.mono ?_
  rintro e w3 ⟨rfl, b3⟩
  have HB4 : Hid (Below w.heap.size w w3) := HB3.out.trans (b3.mono HB3.out.size)
  clear k3 b3
  go_wp2_with fail
  go_ret
  exact ⟨by simp, HB4.out⟩
end Go.Proofs.YtimdioacmojkeaaDoor

namespace Go.Proofs.YtimdioacmojkeaaDoor
open Go.RowKit Go.ChangeShapes Go.WideShapes Go.Deep Go.Joins
set_option maxRecDepth 20000

section
variable {H : Type} {enc : TypeId × Value → H} {w : World} {base : Nat} {spare : Nat → Bool} {held : Bool}
/-- rows of IDs -/
theorem open_idrow {fuel : Nat} {sa : Option Addr} {len cap : Nat} {x : DataW H × List MemPlace} (h : DataW.trod enc Tryd.prog w base spare held fuel 35 [.slice sa len cap] = some x) (hlt : ∀ y ∈ x.2, y.block < w.heap.size) :
    ∃ l : List (List UInt8), Rx 8 idC w (.slice sa len cap) l ∧ ∀ b ∈ l, b.length = 8 := by
  obtain ⟨l, hr, _, hs⟩ := open_rows (α := { x : List UInt8 // x.length = 8 }) (k := 8) (C := fun x => idC x.1) (q := fun _ => True) Tryd.underlying35 ce_id (by omega) (fun t => by rw [idC, List.length_map, t.2])
    (fun n cs x hc ho => by
      obtain ⟨l, hl, hcs, _⟩ := open_id8 hc ho
      exact ⟨⟨l, hl⟩, hcs, trivial⟩) h hlt
  refine ⟨l.map (·.1), ⟨?_, hr.room⟩, fun b hb => ?_⟩
  · rcases hr.at_ with ⟨h1, rfl⟩ | ⟨bk, o, cp, h1, h2, h3⟩
    · exact .inl ⟨h1, rfl⟩
    · refine .inr ⟨bk, o, cp, by rw [List.length_map]; exact h1, h2, fun j t hj r u hu => ?_⟩
      rw [List.getElem?_map] at hj
      cases e : l[j]? with
      | none => rw [e] at hj; simp at hj
      | some q =>
        rw [e] at hj
        obtain rfl : q.1 = t := by simpa using hj
        exact h3 j q e r u hu
  · obtain ⟨q, _, rfl⟩ := List.mem_map.1 hb
    exact q.2
/-- rows of things that have rows themselves -/
theorem open_rw {α : Type} {k : Nat} {R : World → α → List Value → Prop} {T E : TypeId} (hu : Tryd.prog.underlying T = some (.slice E)) (hk : Tryd.prog.cellsOf E = k) (hk0 : 0 < k)
    {q : α → DataW H → Prop} (ho : ∀ n cs (x : DataW H × List MemPlace), cs.length = k → DataW.trod enc Tryd.prog w base spare held n E cs = some x → (∀ y ∈ x.2, y.block < w.heap.size) → ∃ t, R w t cs ∧ q t x.1)
    {fuel : Nat} {sa : Option Addr} {len cap : Nat} {x : DataW H × List MemPlace} (h : DataW.trod enc Tryd.prog w base spare held fuel T [.slice sa len cap] = some x) (hlt : ∀ y ∈ x.2, y.block < w.heap.size) :
    ∃ l : List α, Rw k R w (.slice sa len cap) l ∧ len ≤ cap ∧ cap ≤ 9223372036854775807 ∧ (l = [] ∨ ∃ elems sp, x.1 = .slice elems sp ∧ l.length = elems.length ∧ ∀ t ∈ l, ∃ d ∈ elems, q t d) := by
  rcases open_slice hu h with ⟨hcs, hx⟩ | ⟨a, len', cap', m, n, D, Pl, hcs, _, hl, hm, hmm, hx, hall⟩
  · simp at hcs
    obtain ⟨rfl, rfl, rfl⟩ := hcs
    exact ⟨[], Rw.nil _ _, Nat.le_refl _, by omega, .inl rfl⟩
  · simp at hcs
    obtain ⟨rfl, rfl, rfl⟩ := hcs
    have hlm : len ≤ m := by rw [hmm]; split <;> omega
    rw [hk] at hall
    subst hx
    obtain ⟨L, hL, hT⟩ := choose_row (q := fun i t => ∃ cs, w.cells? base (a.add (i * k)) k = some cs ∧ R w t cs ∧ q t (D i)) len (fun i hi => by
      obtain ⟨cs', h1, h2⟩ := hall i (by omega)
      obtain ⟨_, hlen, _⟩ := World.cells?_some h1
      obtain ⟨t, h3⟩ := ho _ _ _ hlen h2 fun y hy => hlt y (List.mem_append_right _ (List.mem_flatMap.2 ⟨i, List.mem_range.2 (by omega), hy⟩))
      exact ⟨t, cs', h1, h3⟩)
    have hm' : cap ≤ 9223372036854775807 := by unfold maxLen at hm; omega
    refine ⟨L, ?_, hl, hm', .inr ⟨_, _, rfl, by simp [hL], fun t ht => ?_⟩⟩
    rotate_left
    · obtain ⟨i, hi, rfl⟩ := List.getElem_of_mem ht
      obtain ⟨_, _, _, h3⟩ := hT i _ (List.getElem?_eq_getElem hi)
      exact ⟨D i, List.mem_map_of_mem (List.mem_range.2 (by omega)), h3⟩
    by_cases hc0 : len = 0
    · subst hc0
      exact ⟨.inl ⟨⟨_, _, rfl⟩, List.length_eq_zero_iff.1 hL⟩⟩
    · have hcell : ∀ j t, L[j]? = some t → ∃ cs : List Value, cs.length = k ∧ R w t cs ∧ ∀ r v, cs[r]? = some v → w.cell? (a.add (j * k + r)) = some v := fun j t hj => by
        obtain ⟨cs, h1, h2, _⟩ := hT j t hj
        obtain ⟨_, hlen, hc⟩ := World.cells?_some h1
        refine ⟨cs, hlen, h2, fun r v hv => ?_⟩
        have hr : r < k := by
          have := (List.getElem?_eq_some_iff.1 hv).1
          omega
        have := hc r hr
        rw [add_add, hv] at this
        exact this
      obtain ⟨b, off, spot⟩ := a
      have hspot : spot = none := by
        obtain ⟨cs, c1, _, c3⟩ := hcell 0 _ (List.getElem?_eq_getElem (by omega))
        have h0 : cs[0]? = some (cs[0]'(by omega)) := List.getElem?_eq_getElem _
        simpa [Addr.add] using World.cell?_spot (c3 0 _ h0)
      subst hspot
      have hpos : 0 < m * k := Nat.mul_pos (by omega) hk0
      have hbW : b < w.heap.size := hlt (.cell b off) (List.mem_append_left _ (MemPlace.mem_row.2 ⟨0, by rw [hk]; exact hpos, by simp⟩))
      refine ⟨.inr ⟨b, off, cap, by rw [hL], by omega, hbW, fun j t hj => ?_⟩⟩
      obtain ⟨cs, c1, c2, c3⟩ := hcell j t hj
      refine ⟨cs, c1, c2, fun r u hu => ?_⟩
      have e := c3 r u hu
      rw [add_plain] at e
      rw [Nat.add_assoc]
      exact e
theorem trod_struct7 {P : Program} {t : TypeId} {f0 f1 f2 f3 f4 f5 f6 : Field} {fuel : Nat} {cs : List Value} {x : DataW H × List MemPlace} (ht : P.underlying t = some (.struct #[f0, f1, f2, f3, f4, f5, f6])) (h : DataW.trod enc P w base spare held fuel t cs = some x) :
    ∃ y0 y1 y2 y3 y4 y5 y6 n, x = (.agg [y0.1, y1.1, y2.1, y3.1, y4.1, y5.1, y6.1], y0.2 ++ (y1.2 ++ (y2.2 ++ (y3.2 ++ (y4.2 ++ (y5.2 ++ y6.2)))))) ∧ cs.length = P.cellsOf t ∧ DataW.trod enc P w base spare held n f0.type ((cs.drop f0.offset).take (P.cellsOf f0.type)) = some y0 ∧
      DataW.trod enc P w base spare held n f1.type ((cs.drop f1.offset).take (P.cellsOf f1.type)) = some y1 ∧ DataW.trod enc P w base spare held n f2.type ((cs.drop f2.offset).take (P.cellsOf f2.type)) = some y2 ∧
      DataW.trod enc P w base spare held n f3.type ((cs.drop f3.offset).take (P.cellsOf f3.type)) = some y3 ∧ DataW.trod enc P w base spare held n f4.type ((cs.drop f4.offset).take (P.cellsOf f4.type)) = some y4 ∧
      DataW.trod enc P w base spare held n f5.type ((cs.drop f5.offset).take (P.cellsOf f5.type)) = some y5 ∧ DataW.trod enc P w base spare held n f6.type ((cs.drop f6.offset).take (P.cellsOf f6.type)) = some y6 := by
  obtain ⟨xs, n, _, rfl, hl, hlen, hf⟩ := DataW.trod_struct ht h
  match xs, hlen with
  | [y0, y1, y2, y3, y4, y5, y6], _ => exact ⟨y0, y1, y2, y3, y4, y5, y6, n, by simp, hl, by simpa using hf 0 f0 rfl, by simpa using hf 1 f1 rfl, by simpa using hf 2 f2 rfl, by simpa using hf 3 f3 rfl, by simpa using hf 4 f4 rfl, by simpa using hf 5 f5 rfl, by simpa using hf 6 f6 rfl⟩
theorem nd_fields : ∃ f0 f1 f2 f3 f4 f5 f6, Tryd.prog.underlying 54 = some (.struct #[f0, f1, f2, f3, f4, f5, f6]) ∧ f0.type = 9 ∧ f0.offset = 0 ∧ f1.type = 3 ∧ f1.offset = 1 ∧ f2.type = 3 ∧ f2.offset = 2 ∧ f3.type = 3 ∧ f3.offset = 3 ∧ f4.type = 3 ∧ f4.offset = 4 ∧ f5.type = 35 ∧ f5.offset = 5 ∧ f6.type = 9 ∧ f6.offset = 6 :=
  ⟨_, _, _, _, _, _, _, Tryd.underlying54, rfl, rfl, rfl, rfl, rfl, rfl, rfl, rfl, rfl, rfl, rfl, rfl, rfl, rfl⟩
theorem open_node {n : Nat} {cs : List Value} {x : DataW H × List MemPlace} (hc : cs.length = 7) (h : DataW.trod enc Tryd.prog w base spare held n 54 cs = some x) (hlt : ∀ y ∈ x.2, y.block < w.heap.size) : ∃ t : Nod, NdR w t cs ∧ ∃ r, x.1 = .agg (.lit (.string t.name.data.toList) :: r) := by
  obtain ⟨f0, f1, f2, f3, f4, f5, f6, hu, t0, o0, t1, o1, t2, o2, t3, o3, t4, o4, t5, o5, t6, o6⟩ := nd_fields
  obtain ⟨y0, y1, y2, y3, y4, y5, y6, m, hx, _, g0, g1, g2, g3, g4, g5, g6⟩ := trod_struct7 hu h
  have ks : Tryd.prog.cellsOf 9 = 1 := by kernel_rfl
  have kr : Tryd.prog.cellsOf 35 = 1 := by kernel_rfl
  match cs, hc with
  | [v0, v1, v2, v3, v4, v5, v6], _ =>
    simp only [t0, o0, t1, o1, ce_int, t2, o2, t3, o3, t4, o4, t5, o5, t6, o6, ks, kr] at g0 g1 g2 g3 g4 g5 g6
    obtain ⟨b0, c0, x0, s0⟩ := DataW.trod_string Tryd.underlying9 g0
    obtain ⟨i1, c1, _, w1⟩ := DataW.trod_int Tryd.underlying3 g1
    obtain ⟨i2, c2, _, w2⟩ := DataW.trod_int Tryd.underlying3 g2
    obtain ⟨i3, c3, _, w3⟩ := DataW.trod_int Tryd.underlying3 g3
    obtain ⟨i4, c4, _, w4⟩ := DataW.trod_int Tryd.underlying3 g4
    obtain ⟨b6, c6, _, s6⟩ := DataW.trod_string Tryd.underlying9 g6
    obtain rfl : v0 = .string b0 := by simpa using c0
    obtain rfl : v1 = .int .i64 i1 := by simpa using c1
    obtain rfl : v2 = .int .i64 i2 := by simpa using c2
    obtain rfl : v3 = .int .i64 i3 := by simpa using c3
    obtain rfl : v4 = .int .i64 i4 := by simpa using c4
    obtain rfl : v6 = .string b6 := by simpa using c6
    have g5 : DataW.trod enc Tryd.prog w base spare held m 35 [v5] = some y5 := g5
    obtain ⟨sa, len, cap, rfl⟩ : ∃ sa len cap, v5 = .slice sa len cap := by
      rcases open_slice Tryd.underlying35 g5 with ⟨hcs, _⟩ | ⟨a, len', cap', _, _, _, _, hcs, _⟩
      · exact ⟨_, _, _, by simpa using hcs⟩
      · exact ⟨_, _, _, by simpa using hcs⟩
    obtain ⟨l, hl, h8⟩ := open_idrow g5 fun y hy => hlt y (by rw [hx]; simp [hy])
    unfold maxLen at s0 s6
    exact ⟨⟨b0, i1, i2, i3, i4, l, b6⟩, ⟨_, rfl, hl, w1, w2, w3, w4, s0, s6, h8⟩, _, by rw [hx, x0]⟩
theorem ce_nd : Tryd.prog.cellsOf 54 = 7 := by kernel_rfl
theorem open_nds {fuel : Nat} {sa : Option Addr} {len cap : Nat} {x : DataW H × List MemPlace} (h : DataW.trod enc Tryd.prog w base spare held fuel 50 [.slice sa len cap] = some x) (hlt : ∀ y ∈ x.2, y.block < w.heap.size) :
    ∃ l : List Nod, Nds w (.slice sa len cap) l ∧ len ≤ cap ∧ cap ≤ 9223372036854775807 ∧ (l = [] ∨ ∃ elems sp, x.1 = .slice elems sp ∧ l.length = elems.length ∧ ∀ t ∈ l, ∃ d ∈ elems, ∃ r, d = .agg (.lit (.string t.name.data.toList) :: r)) :=
  open_rw Tryd.underlying50 ce_nd (by omega) (fun _ _ _ => open_node) h hlt
end
end Go.Proofs.YtimdioacmojkeaaDoor

namespace Go.Proofs.YtimdioacmojkeaaDoor
open Go.RowKit Go.ChangeShapes Go.WideShapes Go.Deep Go.Joins
set_option maxRecDepth 20000

section
variable {H : Type} {enc : TypeId × Value → H} {w : World} {base : Nat} {spare : Nat → Bool} {held : Bool}

def blobD (H : Type) (b : Blb) : DataW H := .agg [.lit (.int .i64 b.kind), .lit (.string b.bytes.data.toList)]

theorem open_blobv {r : Reach} {b0 : Nat} {v : Value} {d : DataW H} {p : List MemPlace} (hv : Value.okWide Tryd.prog w r b0 34 v) (h : DataW.Trod enc Tryd.prog w base spare held 34 v d p) :
    ∃ b : Blb, v = blV b ∧ d = blobD H b ∧ p = [] ∧ (Lit.int .i64 b.kind).wf = true ∧ b.bytes.size ≤ 9223372036854775807 := by
  obtain ⟨v0, v1, y0, y1, n, rfl, rfl, rfl, h0, h1⟩ := open_agg2 Tryd.underlying34 (by kernel_rfl) (by kernel_rfl) hv h
  obtain ⟨a, ha, hy0, w0⟩ := DataW.trod_int Tryd.underlying3 h0
  obtain ⟨s, hs, hy1, w1⟩ := DataW.trod_string Tryd.underlying9 h1
  obtain rfl : v0 = .int .i64 a := by simpa using ha
  obtain rfl : v1 = .string s := by simpa using hs
  subst hy0 hy1
  exact ⟨⟨a, s⟩, rfl, rfl, rfl, w0, by unfold maxLen at w1; exact w1⟩

theorem shut_blobv {b : Blb} (h : (Lit.int .i64 b.kind).wf = true ∧ b.bytes.size ≤ 9223372036854775807) : DataW.Trod enc Tryd.prog w base spare held 34 (blV b) (blobD H b) [] :=
  shut_agg2 (y0 := (.lit (.int .i64 b.kind), [])) (y1 := (.lit (.string b.bytes.data.toList), [])) Tryd.underlying34 (by kernel_rfl) (by kernel_rfl) ⟨_, trod_int_mk 0 Tryd.underlying3 h.1⟩ ⟨1, by have : b.bytes.size ≤ maxLen := h.2; simp [DataW.trod, Tryd.underlying9, this]⟩

theorem sized_blobv {ts : List TypeId} {ds : List (DataW H)} (h : (DataW.weightsEach Tryd.prog ts ds).all (· ≤ reachBytes) = true) {j : Nat} {b : Blb} (ht : ts[j]? = some 34) (hd : ds[j]? = some (blobD H b)) : b.bytes.size ≤ 140737488351232 := by
  obtain ⟨f0, f1, hu, _⟩ := bl_fields
  have := of_decide_eq_true (List.all_eq_true.1 h _ (DataW.weights_mem_each ht hd b.bytes.data.toList.length (by simp [blobD, DataW.weights, DataW.weightsEach, hu])))
  simp only [reachBytes] at this
  rw [Lib.size_eq]; exact this

def wayD (H : Type) (fx mn mx bt : Int) : DataW H := .agg [.lit (.int .i64 fx), .agg [.lit (.int .i64 mn), .lit (.int .i64 mx), .lit (.int .i64 bt)]]

def WyOk (fx mn mx bt : Int) : Prop := (Lit.int .i64 fx).wf = true ∧ (Lit.int .i64 mn).wf = true ∧ (Lit.int .i64 mx).wf = true ∧ (Lit.int .i64 bt).wf = true

theorem wk_struct2 {P : Program} {t : TypeId} {f0 f1 : Field} {fuel : Nat} {cs : List Value} {x : DataW H × List MemPlace} (ht : P.underlying t = some (.struct #[f0, f1])) (h : DataW.trod enc P w base spare held fuel t cs = some x) :
    ∃ y0 y1 n, x = (.agg [y0.1, y1.1], y0.2 ++ y1.2) ∧ cs.length = P.cellsOf t ∧ DataW.trod enc P w base spare held n f0.type ((cs.drop f0.offset).take (P.cellsOf f0.type)) = some y0 ∧ DataW.trod enc P w base spare held n f1.type ((cs.drop f1.offset).take (P.cellsOf f1.type)) = some y1 := by
  obtain ⟨xs, n, _, rfl, hl, hlen, hf⟩ := DataW.trod_struct ht h
  match xs, hlen with
  | [y0, y1], _ => exact ⟨y0, y1, n, by simp, hl, by simpa using hf 0 f0 rfl, by simpa using hf 1 f1 rfl⟩

theorem wk_struct5 {P : Program} {t : TypeId} {f0 f1 f2 f3 f4 : Field} {fuel : Nat} {cs : List Value} {x : DataW H × List MemPlace} (ht : P.underlying t = some (.struct #[f0, f1, f2, f3, f4])) (h : DataW.trod enc P w base spare held fuel t cs = some x) :
    ∃ y0 y1 y2 y3 y4 n, x = (.agg [y0.1, y1.1, y2.1, y3.1, y4.1], y0.2 ++ (y1.2 ++ (y2.2 ++ (y3.2 ++ y4.2)))) ∧ cs.length = P.cellsOf t ∧ DataW.trod enc P w base spare held n f0.type ((cs.drop f0.offset).take (P.cellsOf f0.type)) = some y0 ∧
      DataW.trod enc P w base spare held n f1.type ((cs.drop f1.offset).take (P.cellsOf f1.type)) = some y1 ∧ DataW.trod enc P w base spare held n f2.type ((cs.drop f2.offset).take (P.cellsOf f2.type)) = some y2 ∧
      DataW.trod enc P w base spare held n f3.type ((cs.drop f3.offset).take (P.cellsOf f3.type)) = some y3 ∧ DataW.trod enc P w base spare held n f4.type ((cs.drop f4.offset).take (P.cellsOf f4.type)) = some y4 := by
  obtain ⟨xs, n, _, rfl, hl, hlen, hf⟩ := DataW.trod_struct ht h
  match xs, hlen with
  | [y0, y1, y2, y3, y4], _ => exact ⟨y0, y1, y2, y3, y4, n, by simp, hl, by simpa using hf 0 f0 rfl, by simpa using hf 1 f1 rfl, by simpa using hf 2 f2 rfl, by simpa using hf 3 f3 rfl, by simpa using hf 4 f4 rfl⟩

def itD (H : Type) (x : Im) : DataW H := .agg [.lit (.string x.path.data.toList), .lit (.int .i64 x.kind), .lit (.int .i64 x.mode), .lit (.int .i64 x.time), .lit (.string x.bytes.data.toList)]

theorem it_fields : ∃ f0 f1 f2 f3 f4, Tryd.prog.underlying 31 = some (.struct #[f0, f1, f2, f3, f4]) ∧ f0.type = 9 ∧ f0.offset = 0 ∧ f1.type = 3 ∧ f1.offset = 1 ∧ f2.type = 3 ∧ f2.offset = 2 ∧ f3.type = 3 ∧ f3.offset = 3 ∧ f4.type = 9 ∧ f4.offset = 4 :=
  ⟨_, _, _, _, _, Tryd.underlying31, rfl, rfl, rfl, rfl, rfl, rfl, rfl, rfl, rfl, rfl⟩

theorem ce_it : Tryd.prog.cellsOf 31 = 5 := by kernel_rfl

/-- what is sure of an item that comes in -/
def ImIn (x : Im) : Prop := (Lit.int .i64 x.kind).wf = true ∧ (Lit.int .i64 x.mode).wf = true ∧ (Lit.int .i64 x.time).wf = true

theorem open_item {n : Nat} {cs : List Value} {x : DataW H × List MemPlace} (hc : cs.length = 5) (h : DataW.trod enc Tryd.prog w base spare held n 31 cs = some x) : ∃ t : Im, (cs = imC t ∧ ImIn t) ∧ x.1 = itD H t := by
  obtain ⟨f0, f1, f2, f3, f4, hu, t0, o0, t1, o1, t2, o2, t3, o3, t4, o4⟩ := it_fields
  obtain ⟨y0, y1, y2, y3, y4, m, hx, _, g0, g1, g2, g3, g4⟩ := wk_struct5 hu h
  have ks : Tryd.prog.cellsOf 9 = 1 := by kernel_rfl
  match cs, hc with
  | [v0, v1, v2, v3, v4], _ =>
    simp only [t0, o0, t1, o1, ce_int, t2, o2, t3, o3, t4, o4, ks] at g0 g1 g2 g3 g4
    obtain ⟨b0, c0, x0, s0⟩ := DataW.trod_string Tryd.underlying9 g0
    obtain ⟨i1, c1, x1, w1⟩ := DataW.trod_int Tryd.underlying3 g1
    obtain ⟨i2, c2, x2, w2⟩ := DataW.trod_int Tryd.underlying3 g2
    obtain ⟨i3, c3, x3, w3⟩ := DataW.trod_int Tryd.underlying3 g3
    obtain ⟨b4, c4, x4, s4⟩ := DataW.trod_string Tryd.underlying9 g4
    obtain rfl : v0 = .string b0 := by simpa using c0
    obtain rfl : v1 = .int .i64 i1 := by simpa using c1
    obtain rfl : v2 = .int .i64 i2 := by simpa using c2
    obtain rfl : v3 = .int .i64 i3 := by simpa using c3
    obtain rfl : v4 = .string b4 := by simpa using c4
    exact ⟨⟨b0, i1, i2, i3, b4⟩, ⟨rfl, w1, w2, w3⟩, by rw [hx, x0, x1, x2, x3, x4]; rfl⟩

theorem open_items {fuel : Nat} {sa : Option Addr} {len cap : Nat} {x : DataW H × List MemPlace} (h : DataW.trod enc Tryd.prog w base spare held fuel 25 [.slice sa len cap] = some x) (hlt : ∀ y ∈ x.2, y.block < w.heap.size) :
    ∃ l : List Im, Ims w (.slice sa len cap) l ∧ (∀ t ∈ l, ImIn t) ∧ (l = [] ∨ ∃ elems sp, x.1 = .slice elems sp ∧ l.length = elems.length ∧ ∀ t ∈ l, itD H t ∈ elems) := by
  obtain ⟨l, hl, h1, h2, h3⟩ := open_rw (R := fun _ (t : Im) c => c = imC t ∧ ImIn t) (q := fun t d => d = itD H t) Tryd.underlying25 ce_it (by omega) (fun n cs x hc hx _ => by
    obtain ⟨t, a, b⟩ := open_item hc hx
    exact ⟨t, a, b⟩) h hlt
  have hin : ∀ t ∈ l, ImIn t := by
    obtain ⟨hat⟩ := hl
    rcases hat with ⟨_, hn⟩ | ⟨bk, o, cp, _, _, _, hc⟩
    · rw [hn]; exact fun t ht => absurd ht List.not_mem_nil
    · intro t ht
      obtain ⟨j, hj, rfl⟩ := List.getElem_of_mem ht
      obtain ⟨c, _, ⟨_, q⟩, _⟩ := hc j _ (List.getElem?_eq_getElem hj)
      exact q
  refine ⟨l, ?_, hin, h3.imp id fun ⟨elems, sp, a, b, c⟩ => ⟨elems, sp, a, b, fun t ht => ?_⟩⟩
  · obtain ⟨hat⟩ := hl
    rcases hat with ⟨⟨a, c, e⟩, hn⟩ | ⟨bk, o, cp, e, hle, hbk, hc⟩
    · cases e
      exact ⟨.inl ⟨⟨_, _, rfl⟩, hn⟩, _, _, _, rfl, h1, h2⟩
    · cases e
      refine ⟨.inr ⟨bk, o, cap, rfl, hbk, fun j t hj r u hu => ?_⟩, _, _, _, rfl, h1, h2⟩
      obtain ⟨cs, _, ⟨rfl, _⟩, q⟩ := hc j t hj
      exact q r u hu
  · obtain ⟨d, hd, rfl⟩ := c t ht
    exact hd

theorem weights_all {P : Program} {e : TypeId} : ∀ {elems : List (DataW H)} {d : DataW H}, d ∈ elems → ∀ n ∈ d.weights P e, n ∈ DataW.weightsAll P e elems
  | [], d, h, _, _ => absurd h List.not_mem_nil
  | x :: l, d, h, n, hn => by
    rw [DataW.weightsAll, List.mem_append]
    rcases List.mem_cons.1 h with rfl | h
    · exact .inl hn
    · exact .inr (weights_all h n hn)

theorem sized_items {ts : List TypeId} {ds : List (DataW H)} (h : (DataW.weightsEach Tryd.prog ts ds).all (· ≤ reachBytes) = true) {j : Nat} {l : List Im} {elems sp : List (DataW H)} (ht : ts[j]? = some 25) (hd : ds[j]? = some (.slice elems sp)) (hm : ∀ t ∈ l, itD H t ∈ elems) (hin : ∀ t ∈ l, ImIn t) : ∀ t ∈ l, t.Ok := by
  intro t htl
  obtain ⟨f0, f1, f2, f3, f4, hu, e0, _, e1, _, e2, _, e3, _, e4, _⟩ := it_fields
  have hall : ∀ n ∈ (itD H t).weights Tryd.prog 31, n ≤ reachBytes := fun n hn => by
    have := List.all_eq_true.1 h n (DataW.weights_mem_each ht hd n (by
      rw [DataW.weights, Tryd.underlying25]
      exact List.mem_cons_of_mem _ (List.mem_append_left _ (weights_all (hm t htl) n hn))))
    simpa using this
  have hp := hall t.path.data.toList.length (by simp [itD, DataW.weights, DataW.weightsEach, hu])
  have hb := hall t.bytes.data.toList.length (by simp [itD, DataW.weights, DataW.weightsEach, hu])
  simp only [reachBytes] at hp hb
  exact ⟨by rw [Lib.size_eq]; exact hp, by rw [Lib.size_eq]; exact hb, (hin t htl).2.2⟩

theorem in_bulk {elems : List (DataW H)} {d : DataW H} (h : d ∈ elems) : Rows.uptoBulk d ≤ Rows.uptoBulkAll elems := by
  induction elems with
  | nil => exact (List.not_mem_nil h).elim
  | cons e l ih =>
    rw [Rows.uptoBulkAll]
    rcases List.mem_cons.1 h with rfl | h
    · omega
    · have := ih h; omega

theorem bulk_items {l : List Im} {elems : List (DataW H)} (h : ∀ t ∈ l, itD H t ∈ elems) : ∀ x ∈ l, x.path.size ≤ Rows.uptoBulkAll elems ∧ x.bytes.size ≤ Rows.uptoBulkAll elems := fun x hx => by
  have h1 := in_bulk (h x hx)
  have h2 : x.path.data.toList.length + x.bytes.data.toList.length ≤ Rows.uptoBulk (itD H x) := by
    simp only [itD, Rows.uptoBulk, Rows.uptoBulkAll]
    omega
  rw [Lib.size_eq, Lib.size_eq]
  omega

end

end Go.Proofs.YtimdioacmojkeaaDoor

namespace Go.Proofs.YtimdioacmojkeaaDoor
open Go.RowKit

theorem first_laid : Rows.laid_unicode_utf8_first = Lib.firstData := by kernel_rfl
theorem accept_laid : (Rows.laid_unicode_utf8_acceptRanges : DataW Unit) = Lib.acceptData := by kernel_rfl
theorem laid_plain {P : Program} {l : List (String × DataW Unit)} {W : World} (h : laidMetH P l W) (hp : (l.filter fun x => x.2.handleName?.isSome) = []) : laidMet P l W := by
  unfold laidMetH at h
  rw [hp] at h
  exact h

/-- the two tables, off what the rows list -/
theorem tabs_of {W : World} (hL : laidMetH Tryd.prog Rows.walkReapsRow.laid W) : Tabs W := by
  have hM := laid_plain hL (by kernel_rfl)
  refine utf8Tabs_of_readsT (P := Tryd.prog) (ρ := Tryd.laysValid_ren) (U8Types.of196 Tryd.laysValid) ⟨by kernel_rfl, by kernel_rfl, by kernel_rfl, by kernel_rfl, by kernel_rfl, by kernel_rfl, by kernel_rfl⟩ ?_ ?_
  · rw [← first_laid]
    exact Lib.laidMet.reads hM (by simp [Rows.walkReapsRow])
  · rw [← accept_laid]
    exact Lib.laidMet.reads hM (by simp [Rows.walkReapsRow])
/-- a text of a list is no longer than the list's bulk -/
theorem bulk_strs {H : Type} : ∀ (l : List ByteArray), ∀ s ∈ l, s.size ≤ Rows.uptoBulkAll (ChangeShapes.strs l : List (DataW H))
  | [], s, hs => (List.not_mem_nil hs).elim
  | t :: l, s, hs => by
    show _ ≤ Rows.uptoBulkAll (DataW.lit (.string t.data.toList) :: (ChangeShapes.strs l : List (DataW H)))
    rw [Rows.uptoBulkAll, Rows.uptoBulk]
    rcases List.mem_cons.1 hs with rfl | hs
    · rw [Lib.size_eq]; omega
    · have := bulk_strs (H := H) l s hs; omega
end Go.Proofs.YtimdioacmojkeaaDoor
