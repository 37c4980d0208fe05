/-
  lumref: what nodeErr answers.
  lumref: what Nodes answers.
  Nothing is laid here: this program has none of it.
  What countDigits and appendDigits of package num answer (contracts over the model's calls), and small facts.
  What number, turned of the document's answer (package lumref) answer.
  What number of the document's answer (package lumref) answers: see RNum.
  The library's contracts at this program: strings_HasPrefix (laid by the guide's own tools, written out in plain words).
  What Put and Get of the document's answer (package lumref) answer.
  lumref: what numberAt answers.
  What PutText of package num answers.
  What GetText of package num answers.
  Nothing is laid here: this program has none of it.
  What PutText and GetText of the document's answer (package lumref) answer.
  What turned of the document's answer (package lumref) answers: each byte b as 255 - b.
  What GetInt of the document's answer (package lumref) answers.
  What GetInt of the document's answer (package lumref) answers, at every string.
  lumref: what nodeRead answers.
  lumref: what TreeRead answers.
  P47: what file of walk's planter answers.
  P47: what node of walk's planter answers.
  P48: what file of walk's reaper answers.
  P45 (no Go in it): a reader that keeps its first error reads what Td.read says.
  slices.IndexFunc over nodes, by a name.
  A structure of the library's at this program (laid by the guide's own tools, written out in plain words).
  unicode/utf8.ValidString and Check of package names in any world in which unicode/utf8's tables are as they are laid.
  What Check and Find of package tree answer.
  What joinDigits and readDigits of package num answer.
  What Get, GetInt of package num answer.
  What GetInt of package num answers.
  What the reader of package tree answers: numbers, texts, bytes.
  What the reader of package tree answers: IDs.
  What the reader of package tree answers: nodes; what Read answers.
  What Put, PutInt, PutFloat of package num answer.
  What PutInt of package num answers.
  What appendNumber, appendText, appendNode and Write of package tree answer.
-/
import Derived.Test.YtimdioacmojkeaaDoorGB
import Derived.BigQuiet
import Derived.Deep.CutBlock
import Derived.Deep.DeepCutAuto
import Derived.Deep.RegionWith
import Derived.Shelf.Strconv.Itoa0
import Derived.Test.YtimdioacmojkeaaDoorProg
import Derived.Test.YtimdioacmojkeaaDoorGA
import Derived.Lib.BitFns
import Derived.Deep.QuietTactic
import Derived.WalkSmall
import Derived.Shelf.Strings.Prefix
import Derived.Shelf.Strings.Replace
import Derived.Lib.ReplaceLaws
import Derived.Laws.IdiomStrings
import Derived.Deep.RegionLaw
import Derived.Deep.AppendLies
import Derived.Laws.Cover3
import Derived.Lib.SliceRun
import Derived.OwnWalk
import Derived.Lib.Strings
import Derived.Shelf.Unicode.ValidAny
import Derived.Lib.LazyBuf
import Derived.Lib.AppendStr
import Derived.Deep.Cut
import Derived.Deep.MidRow

namespace Go.Proofs.YtimdioacmojkeaaDoor
open Go.RowKit
set_option maxRecDepth 4000

/-- a node by value, v its parts -/
abbrev ndV (n : Nod) (v : Value) : Value := .agg (ndC n v).toArray

/-- a node's cells in a block of its own -/
theorem seven_at {w : World} {b : Nat} {T : TypeId} {fr : Nat × Nat} {x0 x1 x2 x3 x4 x5 x6 : Value} (h : w.heap[b]? = some (.cells #[x0, x1, x2, x3, x4, x5, x6] T fr)) :
    w.cell? ⟨b, 0, none⟩ = some x0 ∧ w.cell? ⟨b, 1, none⟩ = some x1 ∧ w.cell? ⟨b, 2, none⟩ = some x2 ∧ w.cell? ⟨b, 3, none⟩ = some x3 ∧ w.cell? ⟨b, 4, none⟩ = some x4 ∧ w.cell? ⟨b, 5, none⟩ = some x5 ∧ w.cell? ⟨b, 6, none⟩ = some x6 := by
  simp only [World.cell?, h]
  exact ⟨rfl, rfl, rfl, rfl, rfl, rfl, rfl⟩

set_option maxHeartbeats 4000000 in
set_option maxRecDepth 10000 in
theorem nodeErr_any (n : Nod) (a : Option Addr) (c : Nat) (w : World) (hn : n.name.size ≤ 4194304) (hl : n.link.size ≤ 9223372036854775807) :
    Calls Tryd.prog 50 #[ndV n (.slice a n.parts.length c)] w fun e w' => e = .returned (.int .i64 (Td.nErr n.nd)) ∧ Below w.heap.size w w' := by
  have HT : Hid (Td.nErr n.nd = if Nn.nm n.name.data.toList ≠ 0 then Nn.nm n.name.data.toList
    else if n.mode < 0 ∨ 511 < n.mode ∨ n.size < 0 ∨ 4096 < n.size ∨ 300 < n.parts.length then 1
    else if n.kind < 1 ∨ 3 < n.kind then 5
    else if (n.kind = 1 ∧ n.link.data.toList ≠ []) ∨ (1 < n.kind ∧ n.size ≠ 0) ∨ (n.kind = 2 ∧ (n.parts.length ≠ 1 ∨ n.link.data.toList ≠ [])) ∨ (n.kind = 3 ∧ (n.parts.length ≠ 0 ∨ n.link.data.toList = [])) then 4
    else if 1024 < n.link.data.toList.length then 2 else 0) := rfl
  obtain ⟨W1, hW1⟩ : ∃ W1, W1 = w.alloc (.cells (ndC n (.slice a n.parts.length c)).toArray 54) := ⟨_, rfl⟩
  have HB1 : Hid (Below w.heap.size w W1) := by rw [hW1]; exact (Below.refl _ w).alloc (Nat.le_refl _) _
  have HM1 : Hid (W1.heap[w.heap.size]? = some (.cells (ndC n (.slice a n.parts.length c)).toArray 54 (0, 0))) := by rw [hW1]; exact heap_alloc_new w _
  have hr := rname_any n.name W1 hn
  generalize Td.nErr n.nd = R at *
  generalize Nn.nm n.name.data.toList = E at *
  generalize n.parts.length = P at *
  obtain ⟨name, kind, mode, time, size, parts, link⟩ := n
  dsimp only at *
  go_enter Tryd.func50, Tryd.ntmps50
  go_wp2_with fail
  rw [← hW1]
  clear hW1
  refine hr.mono ?_
  rintro e w2 ⟨rfl, b2⟩
  have HB : Hid (Below w.heap.size w w2) := HB1.out.trans (b2.mono HB1.out.size)
  obtain ⟨m0, m1, m2, m3, m4, m5, m6⟩ := seven_at ((b2.block _ (Array.getElem?_eq_some_iff.1 HM1.out).1).trans HM1.out)
  clear HB1 HM1 hr b2 m0 m3 hn
  obtain ⟨bk, hbk⟩ : ∃ bk, bk = w.heap.size := ⟨_, rfl⟩
  rw [← hbk] at m1 m2 m4 m5 m6 ⊢
  clear hbk
  by_cases hE : E = 0
  · subst hE
    rw [if_neg (by simp)] at HT
    by_cases h1 : mode < 0
    · have HR : Hid (R = 1) := by
        have := HT.out
        rwa [if_pos (by omega)] at this
      clear HT
      go_wp2_with fail
      go_ret
      exact ⟨by rw [HR.out]; rfl, HB.out⟩
    by_cases h2 : 511 < mode
    · have HR : Hid (R = 1) := by
        have := HT.out
        rwa [if_pos (by omega)] at this
      clear HT
      go_wp2_with fail
      go_ret
      exact ⟨by rw [HR.out]; rfl, HB.out⟩
    by_cases h3 : size < 0
    · have HR : Hid (R = 1) := by
        have := HT.out
        rwa [if_pos (by omega)] at this
      clear HT
      go_wp2_with fail
      go_ret
      exact ⟨by rw [HR.out]; rfl, HB.out⟩
    by_cases h4 : 4096 < size
    · have HR : Hid (R = 1) := by
        have := HT.out
        rwa [if_pos (by omega)] at this
      clear HT
      go_wp2_with fail
      go_ret
      exact ⟨by rw [HR.out]; rfl, HB.out⟩
    by_cases h5 : 300 < P
    · have g5 : (300 : Int) < (P : Int) := by omega
      have HR : Hid (R = 1) := by
        have := HT.out
        rwa [if_pos (by omega)] at this
      clear HT
      go_wp2_with fail
      go_ret
      exact ⟨by rw [HR.out]; rfl, HB.out⟩
    have g5 : ¬ (300 : Int) < (P : Int) := by omega
    rw [if_neg (by omega)] at HT
    by_cases k1 : kind < 1
    · have HR : Hid (R = 5) := by
        have := HT.out
        rwa [if_pos (by omega)] at this
      clear HT
      go_wp2_with fail
      go_ret
      exact ⟨by rw [HR.out]; rfl, HB.out⟩
    by_cases k2 : 3 < kind
    · have HR : Hid (R = 5) := by
        have := HT.out
        rwa [if_pos (by omega)] at this
      clear HT
      go_wp2_with fail
      go_ret
      exact ⟨by rw [HR.out]; rfl, HB.out⟩
    rw [if_neg (by omega)] at HT
    obtain rfl | rfl | rfl : kind = 1 ∨ kind = 2 ∨ kind = 3 := by omega
    · by_cases hk : link.data.toList = []
      · obtain rfl := of_data hk
        rw [if_neg (by simp)] at HT
        have HR : Hid (R = 0) := by
          have := HT.out
          rwa [if_neg (by simp)] at this
        clear HT
        go_wp2_with fail
        go_ret
        exact ⟨by rw [HR.out]; rfl, HB.out⟩
      · have e1 : (link.toList == []) = false := data_ne hk
        have HR : Hid (R = 4) := by
          have := HT.out
          rwa [if_pos (.inl ⟨rfl, hk⟩)] at this
        clear HT
        go_wp2_with fail
        go_ret
        exact ⟨by rw [HR.out]; rfl, HB.out⟩
    · by_cases hz : size = 0
      · subst hz
        by_cases hp : P = 1
        · subst hp
          by_cases hk : link.data.toList = []
          · obtain rfl := of_data hk
            rw [if_neg (by simp)] at HT
            have HR : Hid (R = 0) := by
              have := HT.out
              rwa [if_neg (by simp)] at this
            clear HT
            go_wp2_with fail
            go_ret
            exact ⟨by rw [HR.out]; rfl, HB.out⟩
          · have e1 : (link.toList == []) = false := data_ne hk
            have HR : Hid (R = 4) := by
              have := HT.out
              rwa [if_pos (.inr (.inr (.inl ⟨rfl, .inr hk⟩)))] at this
            clear HT
            go_wp2_with fail
            go_ret
            exact ⟨by rw [HR.out]; rfl, HB.out⟩
        · have gp : ((P : Int) != 1) = true := by rw [bne_iff_ne]; omega
          have HR : Hid (R = 4) := by
            have := HT.out
            rwa [if_pos (.inr (.inr (.inl ⟨rfl, .inl hp⟩)))] at this
          clear HT
          go_wp2_with fail
          go_ret
          exact ⟨by rw [HR.out]; rfl, HB.out⟩
      · have gz : (size != 0) = true := by rw [bne_iff_ne]; exact hz
        have HR : Hid (R = 4) := by
          have := HT.out
          rwa [if_pos (.inr (.inl ⟨by omega, hz⟩))] at this
        clear HT
        go_wp2_with fail
        go_ret
        exact ⟨by rw [HR.out]; rfl, HB.out⟩
    · by_cases hz : size = 0
      · subst hz
        by_cases hp : P = 0
        · subst hp
          by_cases hk : link.data.toList = []
          · obtain rfl := of_data hk
            have HR : Hid (R = 4) := by
              have := HT.out
              rwa [if_pos (.inr (.inr (.inr ⟨rfl, .inr hk⟩)))] at this
            clear HT
            go_wp2_with fail
            go_ret
            exact ⟨by rw [HR.out]; rfl, HB.out⟩
          · have e1 : (link.toList == []) = false := data_ne hk
            rw [if_neg (by simp [hk])] at HT
            by_cases hL : 1024 < link.size
            · have gL : (1024 : Int) < (link.size : Int) := by omega
              have HR : Hid (R = 2) := by
                have := HT.out
                rwa [if_pos (by rw [← Lib.size_eq]; exact hL)] at this
              clear HT
              go_wp2_with fail
              go_ret
              exact ⟨by rw [HR.out]; rfl, HB.out⟩
            · have gL : ¬ (1024 : Int) < (link.size : Int) := by omega
              have HR : Hid (R = 0) := by
                have := HT.out
                rwa [if_neg (by rw [← Lib.size_eq]; exact hL)] at this
              clear HT
              go_wp2_with fail
              go_ret
              exact ⟨by rw [HR.out]; rfl, HB.out⟩
        · have gp : ((P : Int) != 0) = true := by rw [bne_iff_ne]; omega
          have HR : Hid (R = 4) := by
            have := HT.out
            rwa [if_pos (.inr (.inr (.inr ⟨rfl, .inl hp⟩)))] at this
          clear HT
          go_wp2_with fail
          go_ret
          exact ⟨by rw [HR.out]; rfl, HB.out⟩
      · have gz : (size != 0) = true := by rw [bne_iff_ne]; exact hz
        have HR : Hid (R = 4) := by
          have := HT.out
          rwa [if_pos (.inr (.inl ⟨by omega, hz⟩))] at this
        clear HT
        go_wp2_with fail
        go_ret
        exact ⟨by rw [HR.out]; rfl, HB.out⟩
  · have hqn : (E != 0) = true := by rw [bne_iff_ne]; exact hE
    have HR : Hid (R = E) := by
      have := HT.out
      rwa [if_pos hE] at this
    clear HT
    go_wp2_with fail
    go_ret
    exact ⟨by rw [HR.out]; rfl, HB.out⟩

end Go.Proofs.YtimdioacmojkeaaDoor

namespace Go.Proofs.YtimdioacmojkeaaDoor
open Go.RowKit
set_option maxRecDepth 4000

/-- the name ahead of place k -/
def prv (l : List Nod) : Nat → Option (List UInt8)
  | 0 => none
  | j + 1 => (l[j]?).map fun n => n.name.data.toList

theorem Td.ckB_cons (p : Option Td.Bs) (n : Td.Nd) (l : List Td.Nd) : Td.ckB p (n :: l) = if Td.nErr n ≠ 0 then Td.nErr n else if Td.low p n.name = true then 4 else Td.ckB (some n.name) l := rfl

theorem nds_drop (l : List Nod) (k : Nat) (h : k < l.length) : nds (l.drop k) = l[k].nd :: nds (l.drop (k + 1)) := by
  rw [List.drop_eq_getElem_cons h]; rfl

set_option maxHeartbeats 2000000 in
set_option maxRecDepth 10000 in
theorem rnodes_any (v : Value) (l : List Nod) (w : World) (h : Nds w v l) (hl : l.length ≤ 9223372036854775807) (hs : ∀ n ∈ l, n.name.size ≤ 4194304) :
    Calls Tryd.prog 35 #[v] w fun e w' => e = .returned (.int .i64 (Td.check (nds l))) ∧ Below w.heap.size w w' := by
  obtain ⟨a, c, rfl⟩ := h.slice
  have HX : Hid (Nds w (.slice a l.length c) l) := h
  have HS0 : Hid (∀ n ∈ l, n.name.size ≤ 4194304) := hs
  have HT : Hid (Td.check (nds l) = if 64 < l.length then 2 else Td.ckB none (nds l)) := by show _ = _; rw [← nds_length l]; rfl
  generalize Td.check (nds l) = R at *
  obtain ⟨N, hN⟩ : ∃ N, N = l.length := ⟨_, rfl⟩
  have HN : Hid (N = l.length) := hN
  rw [← hN] at HX HT hl ⊢
  clear h hs hN
  by_cases h64 : 64 < N
  · have HR : Hid (R = 2) := by
      have := HT.out
      rwa [if_pos h64] at this
    have g : (64 : Int) < (N : Int) := by omega
    clear HT
    go_enter Tryd.func35, Tryd.ntmps35
    go_wp2_with fail
    go_ret
    exact ⟨by rw [HR.out]; rfl, Below.refl _ _⟩
  have HC : Hid (Td.ckB (prv l 0) (nds (l.drop 0)) = R) := by
    have := HT.out
    rw [if_neg h64] at this
    exact this.symm
  have g : ¬ (64 : Int) < (N : Int) := by omega
  clear HT
  go_enter Tryd.func35, Tryd.ntmps35
  go_wp2_with fail
  go_loopw [11] (fun x wr => ∃ k : Nat, k ≤ N ∧ x = .int .i64 k ∧ Hid (Td.ckB (prv l k) (nds (l.drop k)) = R) ∧ Hid (Below w.heap.size w wr)) (fun x _ => N - (intOf x).toNat)
  case atStart => exact ⟨0, by omega, rfl, HC, Below.refl _ _⟩
  case round =>
    clear HC
    obtain ⟨k, hk, rfl, HC, HB⟩ := hrel
    by_cases hlt : k < N
    · have hkl : k < l.length := by rw [← HN.out]; exact hlt
      obtain ⟨bk, o, cs, rfl, hbk, hcl, ⟨v, rfl, hPs, hok⟩, hcell⟩ := (HX.out.below HB.out).get k l[k] (List.getElem?_eq_getElem hkl)
      have hSt := HC.out
      rw [nds_drop l k hkl, Td.ckB_cons] at hSt
      have HSt : Hid ((if Td.nErr l[k].nd ≠ 0 then Td.nErr l[k].nd else if Td.low (prv l k) l[k].name.data.toList = true then 4 else Td.ckB (some l[k].name.data.toList) (nds (l.drop (k + 1)))) = R) := hSt
      have HP1 : Hid (prv l (k + 1) = some l[k].name.data.toList) := by show _ = _; rw [prv, List.getElem?_eq_getElem hkl]; rfl
      have HPk : Hid (∀ j, k = j + 1 → ∃ t : ByteArray, prv l k = some t.data.toList ∧ wr.cell? ⟨bk, o + j * 7, none⟩ = some (.string t)) := fun j hj => by
        subst hj
        obtain ⟨bk', o', cs', e', _, _, ⟨v', rfl, _⟩, hc'⟩ := (HX.out.below HB.out).get j l[j] (List.getElem?_eq_getElem (by omega))
        cases e'
        exact ⟨l[j].name, by rw [prv, List.getElem?_eq_getElem (by omega)]; rfl, hc' 0 _ rfl⟩
      obtain ⟨av, cv, rfl, _⟩ := hPs.slice
      obtain ⟨W1, hW1⟩ : ∃ W1, W1 = wr.alloc (.cells (ndC l[k] (.slice av l[k].parts.length cv)).toArray 54) := ⟨_, rfl⟩
      have hB1 : Below wr.heap.size wr W1 := by rw [hW1]; exact (Below.refl _ wr).alloc (Nat.le_refl _) _
      have HB1 : Hid (Below w.heap.size w W1) := HB.out.trans (hB1.mono HB.out.size)
      have HM1 : Hid (W1.heap[wr.heap.size]? = some (.cells (ndC l[k] (.slice av l[k].parts.length cv)).toArray 54 (0, 0))) := by rw [hW1]; exact heap_alloc_new wr _
      have hne := nodeErr_any l[k] av cv W1 (HS0.out _ (List.getElem_mem hkl)) hok.link
      have c0 : wr.cell? ⟨bk, o + k * 7, none⟩ = some (.string l[k].name) := hcell 0 _ rfl
      have c1 := hcell 1 _ rfl
      have c2 := hcell 2 _ rfl
      have c3 := hcell 3 _ rfl
      have c4 := hcell 4 _ rfl
      have c5 := hcell 5 _ rfl
      have c6 := hcell 6 _ rfl
      generalize Td.nErr l[k].nd = E at *
      generalize l[k] = n at *
      generalize n.parts.length = np at *
      clear hcell hPs hok hcl HC hSt
      obtain ⟨name, kind, mode, time, size, parts, link⟩ := n
      dsimp only at *
      go_upto_region 6 with fail
      rw [← hW1]
      obtain ⟨b7, hb7⟩ : ∃ b7, b7 = wr.heap.size := ⟨_, rfl⟩
      rw [← hb7] at HM1 ⊢
      obtain ⟨m0, m1, m2, m3, m4, m5, m6⟩ := seven_at HM1.out
      clear hW1 c0 c1 c2 c3 c4 c5 c6 hb7
      go_wp2_with fail
      refine hne.mono ?_
      rintro e w3 ⟨rfl, b3⟩
      have HB3 : Hid (Below w.heap.size w w3) := HB1.out.trans (b3.mono HB1.out.size)
      have HP3 : Hid (∀ j, k = j + 1 → ∃ t : ByteArray, prv l k = some t.data.toList ∧ w3.cell? ⟨bk, o + j * 7, none⟩ = some (.string t)) := fun j hj => by
        obtain ⟨t, p1, p2⟩ := HPk.out j hj
        exact ⟨t, p1, (Below.cell (hB1.trans (b3.mono hB1.size)) (p := ⟨bk, o + j * 7, none⟩) hbk).trans p2⟩
      obtain ⟨n0, _⟩ := seven_at ((b3.block _ (Array.getElem?_eq_some_iff.1 HM1.out).1).trans HM1.out)
      clear hne b3 m0 m1 m2 m3 m4 m5 m6 HPk HM1 hB1 HB1
      by_cases hE : E = 0
      · subst hE
        rw [if_neg (by simp)] at HSt
        go_wp2_with fail
        rcases Nat.eq_zero_or_pos k with hk0 | hk0
        · have hd : decide ((0 : Int) < (k : Int)) = false := decide_eq_false (by omega)
          have HS2 : Hid (Td.ckB (prv l (k + 1)) (nds (l.drop (k + 1))) = R) := by
            have := HSt.out
            rw [hk0, prv, Td.low, if_neg (by simp)] at this
            show _ = _
            rw [HP1.out, hk0]
            exact this
          clear HSt HP3 HP1
          go_quiet (fail)
          go_wp2_with fail
          go_roundw
          case measure => simp only [intOf]; omega
          case rel => exact ⟨k + 1, by omega, by go_num, HS2, below_drewN HB3.out _⟩
        · obtain ⟨j, rfl⟩ : ∃ j, k = j + 1 := ⟨k - 1, by omega⟩
          obtain ⟨t, p1, p2⟩ := HP3.out j rfl
          have hd : decide ((0 : Int) < ((j + 1 : Nat) : Int)) = true := decide_eq_true (by omega)
          have hj : j < N := by omega
          have HL : Hid ((if (!Op.bytesLess t.data.toList name.data.toList) = true then 4 else Td.ckB (prv l (j + 1 + 1)) (nds (l.drop (j + 1 + 1)))) = R) := by
            have := HSt.out
            rw [p1, Td.low] at this
            rw [HP1.out]
            exact this
          clear HSt HP3 HP1 p1
          rw [← Lib.toList_data, ← Lib.toList_data] at HL
          go_quiet (fail)
          cases hbl : Op.bytesLess t.toList name.toList with
          | true =>
            have HS2 : Hid (Td.ckB (prv l (j + 1 + 1)) (nds (l.drop (j + 1 + 1))) = R) := by
              have := HL.out
              rwa [hbl, if_neg (by simp)] at this
            clear HL
            go_wp2_with fail
            go_roundw
            case measure => simp only [intOf]; omega
            case rel => exact ⟨j + 1 + 1, by omega, by go_num, HS2, below_drewN HB3.out _⟩
          | false =>
            have HR : Hid (R = 4) := by
              have := HL.out
              rw [hbl, if_pos (by rfl)] at this
              exact this.symm
            clear HL
            go_wp2_with fail
            go_ret
            exact ⟨by rw [HR.out]; rfl, below_drewN HB3.out _⟩
      · have hqn : (E != 0) = true := by rw [bne_iff_ne]; exact hE
        have HR : Hid (R = E) := by
          have := HSt.out
          rw [if_pos hE] at this
          exact this.symm
        clear HSt
        go_wp2_with fail
        go_ret
        exact ⟨by rw [HR.out]; rfl, HB3.out⟩
    · obtain rfl : k = N := by omega
      have HE : Hid (0 = R) := by
        have := HC.out
        rwa [List.drop_eq_nil_of_le (by rw [HN.out]; exact Nat.le_refl _)] at this
      clear HC
      go_wp2_with fail
      go_ret
      exact ⟨by rw [← HE.out]; rfl, HB.out⟩

end Go.Proofs.YtimdioacmojkeaaDoor

namespace Go.Proofs
end Go.Proofs

namespace Go.Proofs.YtimdioacmojkeaaDoor
open Go.RowKit

theorem bitLen_dig (n : Nat) (h : n < 256 ^ 8) : (Lib.bitLen n + 7) / 8 = (Nm.dig n).length := by
  have key : ∀ (f m : Nat), m < 256 ^ f → f ≤ 8 → (Lib.bitLen m + 7) / 8 = (Nm.digF f m).length := by
    intro f
    induction f with
    | zero => intro m hm _; have : m = 0 := by simpa using hm
              subst this; decide
    | succ f ih =>
      intro m hm hf
      have h64 : m < 18446744073709551616 := Nat.lt_of_lt_of_le hm (Nat.le_trans (Nat.pow_le_pow_right (by omega) hf) (by omega))
      rw [Nm.digF]
      split
      · subst_vars; decide
      · rename_i hn
        by_cases hs : 256 ≤ m
        · rw [Lib.bitLen_shift8 m hs h64, List.length_append, List.length_singleton, ← ih (m / 256) (by rw [Nat.pow_succ] at hm; omega) (by omega)]
          omega
        · have h0 : m / 256 = 0 := by omega
          have hd : Nm.digF f 0 = [] := by cases f <;> simp [Nm.digF]
          rw [h0, hd]
          have h1 := Lib.bitLen_le8 ⟨m, by omega⟩
          have h2 := Lib.bitLen_half m hn (by omega)
          simp at h1 ⊢
          omega
  exact key 8 n h (by omega)

theorem byte_at (n t : Int) (q : Nat) (n0 : 0 ≤ n) (h0 : 0 ≤ t) (h1 : t ≤ 255) :
    bits .xor .u8 (n / 2 ^ (8 * q) % 256) t = ((UInt8.ofNat (n.toNat / 256 ^ q % 256) ^^^ UInt8.ofNat t.toNat).toNat : Int) := by
  obtain ⟨m, rfl⟩ := Int.eq_ofNat_of_zero_le n0
  obtain ⟨T, rfl⟩ := Int.eq_ofNat_of_zero_le h0
  have e : ((m : Int) / 2 ^ (8 * q) % 256) = ((m / 256 ^ q % 256 : Nat) : Int) := by
    have : (2 : Int) ^ (8 * q) = ((256 ^ q : Nat) : Int) := by rw [Int.pow_mul]; simp
    rw [this]; simp
  rw [e, u8_xor_nat _ _ (by omega) (by omega)]
  simp only [Int.toNat_natCast]
  generalize m / 256 ^ q = x
  have hx : (UInt8.ofNat (x % 256)).toNat = x % 256 := by rw [UInt8.toNat_ofNat']; omega
  rw [← xor_u8 _ _ (by omega), hx]
theorem append_step {base : Nat} {w wr w1 : World} {v v1 : Value} {ys zs : List UInt8} {n t : Int} {q : Nat} {o : Obj} (hown : wr.ownsRow base 5 1 v ys.length (ys.map B))
    (hown1 : w1.ownsRow base 5 1 v1 (ys.length + 1) (ys.map B ++ [.int .u8 (bits .xor .u8 (n / 2 ^ (8 * q) % 256) t)])) (hg : (wr.alloc o).grownBy w1 v.ownBlock) (hbel : Below base w wr) (hbase : base ≤ w.heap.size)
    (heq : ys ++ Nm.tn t.toNat (Nm.low (q + 1) n.toNat) = zs) (n0 : 0 ≤ n) (_n1 : n ≤ 18446744073709551615) (h0 : 0 ≤ t) (h1 : t ≤ 255) :
    w1.ownsRow base 5 1 v1 (ys ++ [UInt8.ofNat (n.toNat / 256 ^ q % 256) ^^^ UInt8.ofNat t.toNat]).length ((ys ++ [UInt8.ofNat (n.toNat / 256 ^ q % 256) ^^^ UInt8.ofNat t.toNat]).map B) ∧
      (ys ++ [UInt8.ofNat (n.toNat / 256 ^ q % 256) ^^^ UInt8.ofNat t.toNat]) ++ Nm.tn t.toNat (Nm.low q n.toNat) = zs ∧ Below base w w1 := by
  refine ⟨?_, ?_, ?_⟩
  · rw [byte_at n t q n0 h0 h1] at hown1
    simpa [B] using hown1
  · rw [← heq, Nm.low, List.append_assoc]
    simp [Nm.tn]
  · have hs := hbel.size
    refine (hbel.alloc (by omega) o).grown hg (by simp; omega) ?_
    intro k hk
    exact (hown.lt k hk).1
end Go.Proofs.YtimdioacmojkeaaDoor

namespace Go.Proofs.YtimdioacmojkeaaDoor
open Go.RowKit
set_option maxRecDepth 4000

theorem number_step (s : ByteArray) (q : Nat) (hq : s.size = q + 1) (h8 : s.size ≤ 8) :
    IntKind.u64.wrap (256 * (Nm.val (s.data.toList.take q) : Int)) = 256 * (Nm.val (s.data.toList.take q) : Int) ∧
    256 * Nm.val (s.data.toList.take q) + (s[q]'(by omega)).toNat = Nm.val s.data.toList ∧ Nm.val s.data.toList < 18446744073709551616 := by
  have h1 := take_snoc s q (by omega)
  rw [List.take_of_length_le (by rw [← Lib.size_eq]; omega)] at h1
  have hlt := Nm.val_lt s.data.toList
  have hp : 256 ^ s.data.toList.length ≤ 256 ^ 8 := Nat.pow_le_pow_right (by omega) (by rw [← Lib.size_eq]; exact h8)
  have h2 : Nm.val s.data.toList = 256 * Nm.val (s.data.toList.take q) + (s[q]'(by omega)).toNat := by rw [← Nm.val_snoc, ← h1]
  exact ⟨wrap_u64 _ (by omega) (by omega), by omega, by omega⟩

set_option maxHeartbeats 400000 in
theorem number_any (k : Nat) : ∀ (s : ByteArray) (w : World), s.size ≤ k → k ≤ 8 →
    Calls Tryd.prog 72 #[.string s] w fun e w' => e = .returned (.int .u64 (Nm.val s.data.toList)) ∧ ∃ m, w' = w.drewN m := by
  induction k with
  | zero =>
    intro s w h0 _
    have hs : s.data.toList = [] := List.length_eq_zero_iff.1 (by rw [← Lib.size_eq]; omega)
    have hq : s.toList.isEmpty = true := by rw [Lib.toList_data, hs]; rfl
    have e : Nm.val s.data.toList = 0 := by rw [hs]; rfl
    rw [e]
    clear hs e
    go_enter Tryd.func72, Tryd.ntmps72
    go_wp2_with fail
    go_ret
    exact ⟨rfl, 0, rfl⟩
  | succ k ih =>
    intro s w h1 h8
    by_cases h0 : s.size = 0
    · exact ih s w (by omega) (by omega)
    · obtain ⟨q, hq1⟩ : ∃ q, s.size = q + 1 := ⟨s.size - 1, by omega⟩
      obtain ⟨e1, e2, e3⟩ := number_step s q hq1 (by omega)
      have hlt : q < s.size := by omega
      have hb := s[q].toNat_lt
      have hp : 0 < s.size := by omega
      have hw1 : IntKind.i64.wrap ((s.size : Int) - 1) = (q : Int) := by rw [IntKind.wrap_i64]; omega
      have hq : s.toList.isEmpty = false := by
        rw [Lib.toList_data]
        cases hl : s.data.toList with
        | nil => have := Lib.size_eq s; rw [hl, List.length_nil] at this; omega
        | cons => rfl
      have HE : Hid (256 * Nm.val (s.data.toList.take q) + s[q].toNat = Nm.val s.data.toList) := e2
      have HQ : Hid (s.size = q + 1) := hq1
      clear e2 hq1
      go_enter Tryd.func72, Tryd.ntmps72
      go_wp2_with fail
      go_quiet ((go_at_call 72; refine Calls.quiet_of (ih _ _ (by simp only [ByteArray.size_extract]; omega) (by omega))))
      go_wp2_with fail
      go_ret
      refine ⟨ret_int ?_, _, rfl⟩
      have := HE.out
      rw [wrap_u64 _ (by omega) (by omega)]
      omega
end Go.Proofs.YtimdioacmojkeaaDoor



namespace Go.Proofs
open Go.Shelf
def Tryd.lays99_ren : Go.Shelf.Ren := ⟨fun | 99 => 71 | 206 => 89 | n => n, fun | 9 => 9 | 4 => 4 | 3 => 3 | n => n, fun | n => n⟩
theorem Tryd.lays99 : Go.Proofs.Lays.n99 Tryd.prog Tryd.lays99_ren := {
  mixed := by kernel_rfl
  f99 := Tryd.func71.trans (congrArg some (by kernel_rfl))
  f206 := Tryd.func89.trans (congrArg some (by kernel_rfl))
  t3 := Tryd.underlying3
  a3 := Tryd.isAgg3
  z3 := Tryd.sizeOf3
  v3 := Tryd.zeroValue3
  t4 := Tryd.underlying4
  a4 := Tryd.isAgg4
  z4 := Tryd.sizeOf4
  v4 := Tryd.zeroValue4
  t9 := Tryd.underlying9
  a9 := Tryd.isAgg9
  z9 := Tryd.sizeOf9
  v9 := Tryd.zeroValue9 }
open Go.RowKit Go.Lib in
theorem Tryd.strings_HasPrefix (s p : ByteArray) (w : World) :
    Calls Tryd.prog 71 #[.string s, .string p] w fun e w' => e = .returned (.bool (Lib.hasPrefix s.data.toList p.data.toList)) ∧ w' = w := Any.strings_HasPrefix Tryd.lays99 s p w
end Go.Proofs

namespace Go.Proofs.YtimdioacmojkeaaDoor
open Go.RowKit
set_option maxRecDepth 4000

theorem pre_zero (l : List UInt8) (k : Nat) (h : k ≤ l.length) (z : UInt8) : Lib.hasPrefix (l.take k) [z] = decide (0 < k ∧ l.headD 0 = z) := by
  cases k with
  | zero => simp [Lib.hasPrefix]
  | succ k =>
    cases l with
    | nil => simp at h
    | cons b l =>
      have e : Lib.hasPrefix (List.take (k + 1) (b :: l)) [z] = (z == b) := by simp [Lib.hasPrefix, List.isPrefixOf]
      rw [e, Bool.eq_iff_iff, beq_iff_eq, decide_eq_true_eq]
      exact ⟨fun h => ⟨by omega, h.symm⟩, fun h => h.2.symm⟩
theorem mid_data (s : ByteArray) (k : Nat) : (s.extract 1 (1 + k)).data.toList = s.data.toList.tail.take k := by
  rw [Lib.extract_data, List.drop_one, Nat.add_sub_cancel_left]
theorem tail_length (s : ByteArray) : s.data.toList.tail.length = s.size - 1 := by rw [List.length_tail, ← Lib.size_eq]
theorem list_ne' (s : ByteArray) (h : 0 < s.size) : s.data.toList ≠ [] := by
  intro e; have := Lib.size_eq s; rw [e] at this; simp only [List.length_nil] at this; omega

set_option maxHeartbeats 400000 in
theorem rget_any (s : ByteArray) (w : World) (hs : s.size ≤ 9223372036854775807) :
    Calls Tryd.prog 47 #[.string s] w fun e w' =>
      e = .returned (.tuple #[.int .u64 (Nm.getN s.data.toList).1, .int .i64 (Nm.getN s.data.toList).2.1, .int .i64 (Nm.getN s.data.toList).2.2]) ∧ ∃ m, w' = w.drewN m := by
  by_cases h0 : s.size = 0
  · have hr : Nm.getN s.data.toList = (0, 0, 3) := by rw [Nm.getN, if_pos (List.length_eq_zero_iff.1 (by simpa using h0))]
    rw [hr]
    go_enter Tryd.func47, Tryd.ntmps47
    go_wp2_with fail
    go_ret3
    exact ⟨rfl, 0, rfl⟩
  · have hp : 0 < s.size := by omega
    have hne := list_ne' s hp
    have hb := s[0].toNat_lt
    have hh := head_byte s hp
    have hz : ((s.size : Int) == 0) = false := beq_eq_false_iff_ne.2 (by omega)
    have hg : Nm.getN s.data.toList = if (Nm.readN s.data.toList.tail s[0].toNat 0).2 = 0 then ((Nm.readN s.data.toList.tail s[0].toNat 0).1, 1 + s[0].toNat, (0 : Int)) else ((0 : Nat), (0 : Nat), (Nm.readN s.data.toList.tail s[0].toNat 0).2) := by
      rw [Nm.getN, if_neg hne]; simp only [hh]
    have htl := tail_length s
    rw [hg]
    clear hg hh hne h0
    generalize hc : s[0] = c at *
    by_cases h8 : 8 < c.toNat
    · have hr : Nm.readN s.data.toList.tail c.toNat 0 = (0, 4) := by rw [Nm.readN, if_pos h8]
      rw [hr, if_neg (by decide)]
      clear htl
      go_enter Tryd.func47, Tryd.ntmps47
      go_wp2_with fail
      go_ret3
      exact ⟨rfl, 0, rfl⟩
    by_cases hk : s.size < 1 + c.toNat
    · have hr : Nm.readN s.data.toList.tail c.toNat 0 = (0, 3) := by rw [Nm.readN, if_neg h8, if_pos (by omega)]
      rw [hr, if_neg (by decide)]
      clear htl
      go_enter Tryd.func47, Tryd.ntmps47
      go_wp2_with fail
      go_ret3
      exact ⟨rfl, 0, rfl⟩
    have hpre := pre_zero s.data.toList.tail c.toNat (by omega) 0
    rw [← mid_data] at hpre
    by_cases hd : 0 < c.toNat ∧ s.data.toList.tail.headD 0 = 0
    · have hr : Nm.readN s.data.toList.tail c.toNat 0 = (0, 4) := by rw [Nm.readN, if_neg h8, if_neg (by omega), if_pos (by simpa using hd)]
      rw [hr, if_neg (by decide)]
      rw [decide_eq_true hd] at hpre
      have HP : Hid (Lib.hasPrefix (s.extract 1 (1 + c.toNat)).data.toList [0] = true) := hpre
      clear htl hpre hd hr
      go_enter Tryd.func47, Tryd.ntmps47
      go_wp2_with fail
      refine (Tryd.strings_HasPrefix _ _ _).mono ?_
      rintro e w' ⟨rfl, rfl⟩
      rw [show ({ data := #[0] } : ByteArray).data.toList = [0] from rfl, HP.out]
      go_wp2_with fail
      go_ret3
      exact ⟨rfl, 0, rfl⟩
    · have hr : Nm.readN s.data.toList.tail c.toNat 0 = (Nm.val (s.data.toList.tail.take c.toNat), 0) := by
        rw [Nm.readN, if_neg h8, if_neg (by omega), if_neg (by simpa using hd), Nm.tn_zero]
      rw [hr, if_pos rfl]
      rw [decide_eq_false hd] at hpre
      have HP : Hid (Lib.hasPrefix (s.extract 1 (1 + c.toNat)).data.toList [0] = false) := hpre
      clear htl hpre hd hr
      go_enter Tryd.func47, Tryd.ntmps47
      go_wp2_with fail
      refine (Tryd.strings_HasPrefix _ _ _).mono ?_
      rintro e w' ⟨rfl, rfl⟩
      rw [show ({ data := #[0] } : ByteArray).data.toList = [0] from rfl, HP.out]
      go_wp2_with fail
      refine (number_any 8 _ _ (by simp only [ByteArray.size_extract]; omega) (by omega)).mono ?_
      rintro e w1 ⟨rfl, m, rfl⟩
      rw [mid_data]
      go_wp2_with fail
      go_ret3
      exact ⟨rfl, m, rfl⟩
end Go.Proofs.YtimdioacmojkeaaDoor

namespace Go.Proofs.YtimdioacmojkeaaDoor
open Go.RowKit
set_option maxRecDepth 4000

set_option maxHeartbeats 1000000 in
set_option maxRecDepth 10000 in
theorem numAt_any (s : ByteArray) (most : Nat) (w : World) (hs : s.size ≤ 4194304) (hm : most ≤ 4194304) :
    Calls Tryd.prog 33 #[.string s, .int .u64 most] w fun e w' =>
      e = .returned (.tuple #[.int .i64 (Td.num most s.data.toList).1, .string ⟨(Td.num most s.data.toList).2.1.toArray⟩, .int .i64 (Td.num most s.data.toList).2.2]) ∧ Below w.heap.size w w' := by
  have hg := rget_any s w (by omega)
  have HT : Hid (Td.num most s.data.toList = if (Nm.getN s.data.toList).2.2 ≠ 0 then (0, [], (Nm.getN s.data.toList).2.2) else if most < (Nm.getN s.data.toList).1 then (0, [], 2) else ((Nm.getN s.data.toList).1, s.data.toList.drop (Nm.getN s.data.toList).2.1, 0)) := rfl
  have HK : Hid ((Nm.getN s.data.toList).2.2 = 0 → (Nm.getN s.data.toList).2.1 ≤ s.size) := fun h => by
    have := (Nm.get_one (l := s.data.toList) (n := (Nm.getN s.data.toList).1) (k := (Nm.getN s.data.toList).2.1) (by rw [← h])).1
    rwa [← Lib.size_eq] at this
  generalize Td.num most s.data.toList = R at *
  generalize (Nm.getN s.data.toList).1 = n at *
  generalize (Nm.getN s.data.toList).2.1 = k at *
  generalize (Nm.getN s.data.toList).2.2 = E at *
  go_enter Tryd.func33, Tryd.ntmps33
  go_wp2_with fail
  refine hg.mono ?_
  rintro e w1 ⟨rfl, m, rfl⟩
  have HB : Hid (Below w.heap.size w (w.drewN m)) := ⟨rfl, rfl, rfl, Nat.le_refl _, fun _ _ => rfl⟩
  generalize w.drewN m = w1 at *
  clear hg
  by_cases hE : E = 0
  · subst hE
    have hk := HK.out rfl
    by_cases hmn : most < n
    · have HR : Hid (R = (0, [], 2)) := by
        have := HT.out
        rwa [if_neg (by simp), if_pos hmn] at this
      have hq : (most : Int) < (n : Int) := by omega
      clear HT HK
      go_wp2_with fail
      go_ret3
      exact ⟨by rw [HR.out]; rfl, HB.out⟩
    · have HR : Hid (R = (n, s.data.toList.drop k, 0)) := by
        have := HT.out
        rwa [if_neg (by simp), if_neg hmn] at this
      have hq : ¬ (most : Int) < (n : Int) := by omega
      have hn : (n : Int) ≤ 9223372036854775807 := by omega
      have hk0 : (k : Int) ≤ (s.size : Int) := by omega
      have HD : Hid ((⟨(s.data.toList.drop k).toArray⟩ : ByteArray) = s.extract k s.size) := by
        apply ByteArray.ext
        apply Array.toList_inj.1
        rw [Nn.ext_drop']
      clear HT HK
      go_wp2_with fail
      go_quiet (fail)
      go_wp2_with fail
      go_ret3
      exact ⟨by rw [HR.out, HD.out]; rfl, below_drewN HB.out _⟩
  · have hqn : (E != 0) = true := by rw [bne_iff_ne]; exact hE
    have hqe : (E == 0) = false := by rw [beq_eq_false_iff_ne]; exact hE
    have HR : Hid (R = (0, [], E)) := by
      have := HT.out
      rwa [if_pos hE] at this
    clear HT HK
    go_wp2_with fail
    go_ret3
    exact ⟨by rw [HR.out]; rfl, HB.out⟩

end Go.Proofs.YtimdioacmojkeaaDoor

namespace Go.Proofs.YtimdioacmojkeaaDoor
open Go.RowKit
end Go.Proofs.YtimdioacmojkeaaDoor

namespace Go.Proofs.YtimdioacmojkeaaDoor
open Go.RowKit
set_option maxRecDepth 4000

theorem drop_byte (s : ByteArray) (k : Nat) (h : k < s.size) : s.data.toList.drop k = s[k] :: s.data.toList.drop (k + 1) := by
  rw [List.drop_eq_getElem_cons (by simpa using h)]; rfl
theorem byte_ne (c z : UInt8) (h : c ≠ z) : ((c.toNat : Int) == (z.toNat : Int)) = false := by
  rw [beq_eq_false_iff_ne]; intro e; exact h (UInt8.toNat_inj.1 (by omega))

/-- an owned slice shows its length -/
theorem gt_own_len {w : World} {base : Nat} {v : Value} {ys : List UInt8} (h : w.ownsRow base 5 1 v ys.length (ys.map B)) : ∃ a cap, v = .slice a ys.length cap := by
  rcases h.2 with ⟨rfl, h0⟩ | ⟨g, cap, cur, rfl, _⟩
  · exact ⟨none, 0, by rw [h0]⟩
  · exact ⟨_, _, rfl⟩

set_option maxHeartbeats 2000000 in
theorem getT_any (s : ByteArray) (w : World) (hs : s.size ≤ 140737488355328) :
    Calls Tryd.prog 84 #[.string s] w fun e w' =>
      e = .returned (.tuple #[.string ⟨(Nm.getT s.data.toList).1.toArray⟩, .int .i64 (Nm.getT s.data.toList).2.1, .int .i64 (Nm.getT s.data.toList).2.2]) ∧ Below w.heap.size w w' := by
  obtain ⟨i0, hi, hz0, hz1, hz2⟩ := info_parts info_u8
  obtain ⟨G, hG⟩ : ∃ G, Nm.getT s.data.toList = G := ⟨_, rfl⟩
  rw [hG]
  have HG : Hid (Nm.scanT s.data.toList [] 0 = G) := hG
  clear hG
  go_enter Tryd.func84, Tryd.ntmps84
  go_wp2
  go_loopw [5, 6] (fun v i wr => ∃ (k : Nat) (ys : List UInt8), k ≤ s.size ∧ i = .int .i64 k ∧ wr.ownsRow w.heap.size 5 1 v ys.length (ys.map B) ∧
      Hid (Nm.scanT (s.data.toList.drop k) ys k = G) ∧ ys.length ≤ 1024 ∧ Below w.heap.size w wr) (fun _ i _ => s.size - (intOf i).toNat)
  case atStart => exact ⟨0, [], Nat.zero_le _, rfl, World.ownsRow_nil _ _ _ _, HG, by simp, Below.refl _ _⟩
  case round =>
    obtain ⟨k, ys, hk, rfl, hown, HS, hyl, hbel⟩ := hrel
    have hbs := hbel.size
    have hyl2 : ys.length ≤ 1024 := hyl
    by_cases hlt : k < s.size
    · have hb := s[k].toNat_lt
      have hds := drop_byte s k hlt
      generalize hc : s[k] = c at *
      by_cases hz : c = 0
      · subst hz
        by_cases he : k + 1 = s.size
        · have hq1 : ((k : Int) + 1 == (s.size : Int)) = true := by rw [beq_iff_eq]; omega
          have hres : G = ([], 0, 3) := by rw [← HS.out, hds, List.drop_of_length_le (by rw [← Lib.size_eq]; omega)]; exact Nm.scan_end _ _
          subst hres
          clear hds HS HG he
          go_wp2
          go_ret3
          exact ⟨rfl, hbel⟩
        have hlt2 : k + 1 < s.size := by omega
        have hq1 : ((k : Int) + 1 == (s.size : Int)) = false := by rw [beq_eq_false_iff_ne]; omega
        have hds2 := drop_byte s (k + 1) hlt2
        rw [hds2] at hds
        have hb2 := s[k + 1].toNat_lt
        clear hds2
        generalize hd : s[k + 1] = d at *
        by_cases hd0 : d = 0
        · subst hd0
          have hres : G = (ys, k + 2, 0) := by rw [← HS.out, hds]; exact Nm.scan_zeros _ _ _
          subst hres
          have hcv := run_str hown
          clear hds HS HG
          go_wp2
          go_ret3
          exact ⟨rfl, hbel⟩
        have hq2 : ((d.toNat : Int) == 0) = false := byte_ne d 0 hd0
        by_cases hd1 : d = 255
        · subst hd1
          by_cases hf : ys.length = 1024
          · have hq3 : ((ys.length : Int) == 1024) = true := by rw [beq_iff_eq]; omega
            have hres : G = ([], 0, 2) := by rw [← HS.out, hds]; exact Nm.scan_esc_full _ _ _ hf
            subst hres
            obtain ⟨a, cap, rfl⟩ := gt_own_len hown
            clear hds HS HG hf
            go_wp2
            go_ret3
            exact ⟨rfl, hbel⟩
          · have hq3 : ((ys.length : Int) == 1024) = false := by rw [beq_eq_false_iff_ne]; omega
            have HN : Hid (Nm.scanT (s.data.toList.drop (k + 2)) (ys ++ [0]) (k + 2) = G) := by show _ = _; rw [← HS.out, hds]; exact (Nm.scan_esc _ _ _ hf).symm
            obtain ⟨a, cap, rfl⟩ := gt_own_len hown
            clear hds HS HG
            go_wp2_with (at_builtin; refine wpList_append_own _ rfl (.tmp 40) (.tmp 42) 64 rfl w.heap.size 5 i0 (.int .u8 0) 1 1 Tryd.underlying64 hi hz0 hz1 hz2 rfl (by decide) _ _ _ rfl (hown.alloc _) ⟨wr.heap.size, 0, none⟩ 1 1 [.int .u8 0] rfl rfl ?p1 ?p2 ?p3 ?p4 ?p5 ?_)
            case p1 =>
              intro j u hj
              match j, hj with
              | 0, hj => simp at hj; subst hj; simp [Addr.add]
            case p2 => intro u hu; simp at hu; subst hu; rfl
            case p3 => unfold maxLen; omega
            case p4 => omega
            case p5 => simp; omega
            intro v1 w1 hown1 hgrow _
            obtain ⟨hown2, hbel2⟩ := own_more (b := 0) hown hown1 rfl hgrow hbel (Nat.le_refl _)
            clear hown1 hgrow hown hbel
            go_wp2
            go_roundw
            case rel => exact ⟨k + 2, _, by omega, by go_num, hown2, HN, by simp; omega, hbel2⟩
            case measure => simp [intOf]; omega
        · have hq3 : ((d.toNat : Int) != 255) = true := by rw [bne_iff_ne]; intro e; exact hd1 (UInt8.toNat_inj.1 (by simp; omega))
          have hres : G = ([], 0, 4) := by rw [← HS.out, hds]; exact Nm.scan_bad _ _ _ _ hd0 hd1
          subst hres
          clear hds HS HG
          go_wp2
          go_ret3
          exact ⟨rfl, hbel⟩
      · have hq : ((c.toNat : Int) == 0) = false := byte_ne c 0 hz
        by_cases hf : ys.length = 1024
        · have hq3 : ((ys.length : Int) == 1024) = true := by rw [beq_iff_eq]; omega
          have hres : G = ([], 0, 2) := by rw [← HS.out, hds]; exact Nm.scan_full _ _ _ _ hz hf
          subst hres
          obtain ⟨a, cap, rfl⟩ := gt_own_len hown
          clear hds HS HG hf
          go_wp2
          go_ret3
          exact ⟨rfl, hbel⟩
        · have hq3 : ((ys.length : Int) == 1024) = false := by rw [beq_eq_false_iff_ne]; omega
          have HN : Hid (Nm.scanT (s.data.toList.drop (k + 1)) (ys ++ [c]) (k + 1) = G) := by show _ = _; rw [← HS.out, hds]; exact (Nm.scan_byte _ _ _ _ hz hf).symm
          obtain ⟨a, cap, rfl⟩ := gt_own_len hown
          clear hds HS HG
          go_wp2_with (at_builtin; refine wpList_append_own _ rfl (.tmp 40) (.tmp 42) 64 rfl w.heap.size 5 i0 (.int .u8 0) 1 1 Tryd.underlying64 hi hz0 hz1 hz2 rfl (by decide) _ _ _ rfl (hown.alloc _) ⟨wr.heap.size, 0, none⟩ 1 1 [.int .u8 (c.toNat : Int)] rfl rfl ?r1 ?r2 ?r3 ?r4 ?r5 ?_)
          case r1 =>
            intro j u hj
            match j, hj with
            | 0, hj => simp at hj; subst hj; simp [Addr.add]
          case r2 => intro u hu; simp at hu; subst hu; rfl
          case r3 => unfold maxLen; omega
          case r4 => omega
          case r5 => simp; omega
          intro v1 w1 hown1 hgrow _
          obtain ⟨hown2, hbel2⟩ := own_more (b := c) hown hown1 rfl hgrow hbel (Nat.le_refl _)
          clear hown1 hgrow hown hbel
          go_wp2
          go_roundw
          case rel => exact ⟨k + 1, _, by omega, by go_num, hown2, HN, by simp; omega, hbel2⟩
          case measure => simp [intOf]; omega
    · have hres : G = ([], 0, 3) := by rw [← HS.out, List.drop_of_length_le (by rw [← Lib.size_eq]; omega)]; rfl
      subst hres
      clear HS HG
      go_wp2
      go_ret3
      exact ⟨rfl, hbel⟩
end Go.Proofs.YtimdioacmojkeaaDoor

namespace Go.Proofs
end Go.Proofs

namespace Go.Proofs.YtimdioacmojkeaaDoor
open Go.RowKit
set_option maxRecDepth 4000

theorem replace_esc (l : List UInt8) : Lib.replaceK [0] [0, 255] (l.count 0) l = Nm.esc l := by
  induction l with
  | nil => rfl
  | cons b l ih =>
    by_cases hb : b = 0
    · subst hb
      rw [List.count_cons_self, Lib.replaceK_hit _ _ _ _ 0 (by rw [Lib.index_one]; rfl)]
      show [0, 255] ++ Lib.replaceK [0] [0, 255] (List.count 0 l) l = _
      rw [ih]; rfl
    · have hne : ¬ (b == (0 : UInt8)) = true := by simpa using hb
      rw [List.count_cons_of_ne hb]
      have he : Nm.esc (b :: l) = b :: Nm.esc l := by simp [Nm.esc, hb]
      rw [he]
      cases hk : List.count 0 l with
      | zero => rw [hk] at ih; rw [← ih]; rfl
      | succ k =>
        rw [hk] at ih
        obtain ⟨i, hi⟩ := Lib.index_of_count (s := l) (old := [0]) (by rw [Lib.count_one, hk]; omega)
        rw [Lib.replaceK_hit _ _ _ _ i hi] at ih
        have hi2 : Lib.index (b :: l) [0] = ((i + 1 : Nat) : Int) := by
          rw [Lib.index_one] at hi ⊢
          unfold Lib.indexByte
          rw [if_neg hne, hi, if_neg (by intro e; have := beq_iff_eq.1 e; omega)]
          omega
        rw [Lib.replaceK_hit _ _ _ _ (i + 1) hi2, List.take_succ_cons, ← ih]
        rfl
theorem replaceAll_esc (l : List UInt8) : Lib.replaceAll l [0] [0, 255] = Nm.esc l := by
  rw [Lib.replaceAll, Lib.replace, if_neg (by decide), Lib.replaceNum, if_pos (.inl (by decide)), Lib.count_one, replace_esc]

theorem one_byte (s : ByteArray) (k : Nat) (h : k < s.size) : s.extract k (k + 1) = ⟨#[s[k]]⟩ := by
  apply ByteArray.ext
  apply Array.ext'
  rw [Lib.extract_data, drop_byte s k h, Nat.add_sub_cancel_left]
  rfl

set_option maxHeartbeats 2000000 in
theorem rgetT_any (s : ByteArray) (w : World) (hs : s.size ≤ 140737488351232) :
    Calls Tryd.prog 48 #[.string s] w fun e w' =>
      e = .returned (.tuple #[.string ⟨(Nm.getT s.data.toList).1.toArray⟩, .int .i64 (Nm.getT s.data.toList).2.1, .int .i64 (Nm.getT s.data.toList).2.2]) ∧ w' = w := by
  obtain ⟨G, hG⟩ : ∃ G, Nm.getT s.data.toList = G := ⟨_, rfl⟩
  rw [hG]
  have HG : Hid (Nm.scanT s.data.toList [] 0 = G) := hG
  clear hG
  go_enter Tryd.func48, Tryd.ntmps48
  go_wp2
  go_loop [5, 6] (fun v i => ∃ (k : Nat) (ys : List UInt8), k ≤ s.size ∧ i = .int .i64 k ∧ v = .string ⟨ys.toArray⟩ ∧ Hid (Nm.scanT (s.data.toList.drop k) ys k = G) ∧ ys.length ≤ 1024) (fun _ i => s.size - (intOf i).toNat)
  case atStart => exact ⟨0, [], Nat.zero_le _, rfl, rfl, HG, by simp⟩
  case round =>
    obtain ⟨k, ys, hk, rfl, rfl, HS, hyl⟩ := hrel
    by_cases hlt : k < s.size
    · have hb := s[k].toNat_lt
      have hds := drop_byte s k hlt
      have hex := one_byte s k hlt
      generalize hc : s[k] = c at *
      have hcat : (∀ W : World, (Op.stringOp .add ⟨ys.toArray⟩ ⟨#[c]⟩).run Tryd.prog W = .ok (.string ⟨(ys ++ [c]).toArray⟩) W) := fun W =>
        run_string_add_lists W ys [c] (by omega) (by simp)
      by_cases hz : c = 0
      · subst hz
        by_cases he : k + 1 = s.size
        · have hd1 : decide ((s.size : Int) ≤ (k : Int) + 1) = true := decide_eq_true (by omega)
          have hres : G = ([], 0, 3) := by rw [← HS.out, hds, List.drop_of_length_le (by rw [← Lib.size_eq]; omega)]; exact Nm.scan_end _ _
          subst hres
          clear hds HS HG he hcat hex
          go_wp2
          go_ret3
          exact ⟨rfl, rfl⟩
        have hlt2 : k + 1 < s.size := by omega
        have hd1 : decide ((s.size : Int) ≤ (k : Int) + 1) = false := decide_eq_false (by omega)
        have hds2 := drop_byte s (k + 1) hlt2
        rw [hds2] at hds
        have hb2 := s[k + 1].toNat_lt
        clear hds2
        generalize hd : s[k + 1] = d at *
        by_cases hd0 : d = 0
        · subst hd0
          have hres : G = (ys, k + 2, 0) := by rw [← HS.out, hds]; exact Nm.scan_zeros _ _ _
          subst hres
          clear hds HS HG hcat hex
          go_wp2
          go_ret3
          exact ⟨rfl, rfl⟩
        have hq2 : ((d.toNat : Int) == 0) = false := byte_ne d 0 hd0
        by_cases hd1' : d = 255
        · subst hd1'
          by_cases hf : ys.length = 1024
          · have hq3 : ((ys.length : Int) == 1024) = true := by rw [beq_iff_eq]; omega
            have hres : G = ([], 0, 2) := by rw [← HS.out, hds]; exact Nm.scan_esc_full _ _ _ hf
            subst hres
            clear hds HS HG hf hcat hex
            go_wp2
            go_ret3
            exact ⟨rfl, rfl⟩
          · have hq3 : ((ys.length : Int) == 1024) = false := by rw [beq_eq_false_iff_ne]; omega
            have HN : Hid (Nm.scanT (s.data.toList.drop (k + 2)) (ys ++ [0]) (k + 2) = G) := by show _ = _; rw [← HS.out, hds]; exact (Nm.scan_esc _ _ _ hf).symm
            clear hds HS HG
            go_wp2
            go_round
            case rel => exact ⟨k + 2, ys ++ [0], by omega, by go_num, rfl, HN, by simp; omega⟩
            case measure => simp [intOf]; omega
        · have hq3 : ((d.toNat : Int) != 255) = true := by rw [bne_iff_ne]; intro e; exact hd1' (UInt8.toNat_inj.1 (by simp; omega))
          have hres : G = ([], 0, 4) := by rw [← HS.out, hds]; exact Nm.scan_bad _ _ _ _ hd0 hd1'
          subst hres
          clear hds HS HG hcat hex
          go_wp2
          go_ret3
          exact ⟨rfl, rfl⟩
      · have hq : ((c.toNat : Int) == 0) = false := byte_ne c 0 hz
        by_cases hf : ys.length = 1024
        · have hq3 : ((ys.length : Int) == 1024) = true := by rw [beq_iff_eq]; omega
          have hres : G = ([], 0, 2) := by rw [← HS.out, hds]; exact Nm.scan_full _ _ _ _ hz hf
          subst hres
          clear hds HS HG hf hcat hex
          go_wp2
          go_ret3
          exact ⟨rfl, rfl⟩
        · have hq3 : ((ys.length : Int) == 1024) = false := by rw [beq_eq_false_iff_ne]; omega
          have HN : Hid (Nm.scanT (s.data.toList.drop (k + 1)) (ys ++ [c]) (k + 1) = G) := by show _ = _; rw [← HS.out, hds]; exact (Nm.scan_byte _ _ _ _ hz hf).symm
          clear hds HS HG
          go_wp2
          go_round
          case rel => exact ⟨k + 1, ys ++ [c], by omega, by go_num, rfl, HN, by simp; omega⟩
          case measure => simp [intOf]; omega
    · have hres : G = ([], 0, 3) := by rw [← HS.out, List.drop_of_length_le (by rw [← Lib.size_eq]; omega)]; rfl
      subst hres
      clear HS HG
      go_wp2
      go_ret3
      exact ⟨rfl, rfl⟩
end Go.Proofs.YtimdioacmojkeaaDoor

namespace Go.Proofs.YtimdioacmojkeaaDoor
open Go.RowKit
set_option maxRecDepth 4000

/-- what lies in cell j when k bytes have been turned -/
def turnAt (s : ByteArray) (k j : Nat) : Int := if j < k then 255 - ((s.data.toList.getD j 0).toNat : Int) else ((s.data.toList.getD j 0).toNat : Int)
theorem getD_byteT (s : ByteArray) (j : Nat) (h : j < s.size) : s.data.toList.getD j 0 = s[j] := by
  rw [List.getD_eq_getElem?_getD, List.getElem?_eq_getElem (by simpa using h)]; rfl
theorem turn_step {s : ByteArray} {k B : Nat} {w : World} (hk : k < s.size) (h : ∀ j, j < s.size → w.cell? ⟨B, j, none⟩ = some (.int .u8 (turnAt s k j))) :
    ∀ j, j < s.size → (w.setCell ⟨B, k, none⟩ (.int .u8 (255 - (s[k].toNat : Int)))).cell? ⟨B, j, none⟩ = some (.int .u8 (turnAt s (k + 1) j)) := by
  intro j hj
  by_cases e : j = k
  · subst e
    rw [World.cell?_setCell_same _ _ _ (h j hj), turnAt, if_pos (by omega), getD_byteT s j hj]
  · rw [World.cell?_setCell_other _ _ _ _ (by intro h; exact e (congrArg Addr.off h).symm), h j hj, turnAt, turnAt]
    by_cases hjk : j < k
    · rw [if_pos hjk, if_pos (by omega)]
    · rw [if_neg hjk, if_neg (by omega)]
theorem turn_back (s : ByteArray) (B cap : Nat) (w : World) (h : ∀ j, j < s.size → w.cell? ⟨B, j, none⟩ = some (.int .u8 (turnAt s s.size j))) :
    (convert 64 9 (.slice (some ⟨B, 0, none⟩) s.size cap)).run Tryd.prog w = .ok (.string ⟨(Nm.tn 255 s.data.toList).toArray⟩) w := by
  have hl : (Nm.tn 255 s.data.toList).length = s.size := by rw [Nm.tn_length, ← Lib.size_eq]
  have := run_convert_bytes_back w 64 9 5 ⟨B, 0, none⟩ cap (Nm.tn 255 s.data.toList) (P := Tryd.prog) (by kernel_rfl) (by kernel_rfl) (by kernel_rfl) (by
    intro j hj
    rw [hl] at hj
    have e : (⟨B, 0, none⟩ : Addr).add j = ⟨B, j, none⟩ := by unfold Addr.add; split <;> simp_all
    have hb := s[j].toNat_lt
    have g : (Nm.tn 255 s.data.toList)[j] = s[j] ^^^ UInt8.ofNat 255 := by simp [Nm.tn]; rfl
    rw [e, h j hj, turnAt, if_pos hj, getD_byteT s j hj, g, Nm.not_byte]
    congr 2
    omega)
  rw [hl] at this
  exact this

set_option maxHeartbeats 400000 in
theorem turned_any (s : ByteArray) (w : World) (hs : s.size ≤ 140737488351232) :
    Calls Tryd.prog 73 #[.string s] w fun e w' => e = .returned (.string ⟨(Nm.tn 255 s.data.toList).toArray⟩) ∧ Below w.heap.size w w' := by
  have hcv := run_bytes_of_string (P := Tryd.prog) w 9 64 5 s (by kernel_rfl) (by kernel_rfl) (by kernel_rfl)
  have hcell : ∀ j, j < s.size → (w.alloc (.cells (bytesRow s (grownCap w s.size 0 5)) 5 ((bytesRow s (grownCap w s.size 0 5)).size, (bytesRow s (grownCap w s.size 0 5)).size + 1))).drew.cell? ⟨w.heap.size, j, none⟩ = some (.int .u8 (turnAt s 0 j)) := by
    intro j hj
    rw [turnAt, if_neg (by omega), getD_byteT s j hj]
    exact bytes_cell w s _ _ j hj
  have hfz : ∀ j, j < s.size → (w.alloc (.cells (bytesRow s (grownCap w s.size 0 5)) 5 ((bytesRow s (grownCap w s.size 0 5)).size, (bytesRow s (grownCap w s.size 0 5)).size + 1))).drew.frozen? ⟨w.heap.size, j, none⟩ = false := by
    intro j hj
    exact bytes_free w s _ j hj
  generalize bytesRow s (grownCap w s.size 0 5) = C at *
  generalize grownCap w s.size 0 5 = cap at *
  have HC := hcell
  have HF := hfz
  have H1 : Hid (∀ j, j < s.size → (w.alloc (.cells C 5 (C.size, C.size + 1))).drew.cell? ⟨w.heap.size, j, none⟩ = some (.int .u8 (turnAt s 0 j))) := hcell
  have H2 : Hid (∀ j, j < s.size → (w.alloc (.cells C 5 (C.size, C.size + 1))).drew.frozen? ⟨w.heap.size, j, none⟩ = false) := hfz
  clear hcell hfz HC HF
  go_enter Tryd.func73, Tryd.ntmps73
  go_wp2
  go_loopw [9] (fun i wr => ∃ k : Nat, k ≤ s.size ∧ i = .int .i64 k ∧ (∀ j, j < s.size → wr.cell? ⟨w.heap.size, j, none⟩ = some (.int .u8 (turnAt s k j))) ∧
      (∀ j, j < s.size → wr.frozen? ⟨w.heap.size, j, none⟩ = false) ∧ Below w.heap.size w wr) (fun i _ => s.size - (intOf i).toNat)
  case atStart => exact ⟨0, Nat.zero_le _, rfl, H1.out, H2.out, ((Below.refl _ _).alloc (Nat.le_refl _) _).drew⟩
  case round =>
    obtain ⟨k, hk, rfl, hc, hf, hb⟩ := hrel
    by_cases hlt : k < s.size
    · have hck : wr.cell? ⟨w.heap.size, k, none⟩ = some (.int .u8 (s[k].toNat : Int)) := by rw [hc k hlt, turnAt, if_neg (by omega), getD_byteT s k hlt]
      have hfk := hf k hlt
      have hst := turn_step hlt hc
      have hbk := s[k].toNat_lt
      have HS : Hid (∀ j, j < s.size → (wr.setCell ⟨w.heap.size, k, none⟩ (.int .u8 (255 - (s[k].toNat : Int)))).cell? ⟨w.heap.size, j, none⟩ = some (.int .u8 (turnAt s (k + 1) j))) := hst
      have HF : Hid (∀ j, j < s.size → wr.frozen? ⟨w.heap.size, j, none⟩ = false) := hf
      clear hst hc hf hcv
      go_wp2
      go_roundw
      case rel => exact ⟨k + 1, by omega, by go_num, HS.out, by simpa using HF.out, hb.setCell (Nat.le_refl _) _⟩
      case measure => simp [intOf]; omega
    · obtain rfl : k = s.size := by omega
      have hbk := turn_back s w.heap.size cap wr hc
      clear hc hf hcv
      go_wp2
      go_ret
      exact ⟨rfl, hb⟩
end Go.Proofs.YtimdioacmojkeaaDoor

namespace Go.Proofs.YtimdioacmojkeaaDoor
open Go.RowKit
set_option maxRecDepth 4000

theorem xor255 (b : UInt8) : b ^^^ UInt8.ofNat 255 = 0 ↔ b = 255 := by
  simp

/-- what is said of k digits from the second byte on, turned by t -/
theorem read_mid (s : ByteArray) (k t : Nat) (h8 : k ≤ 8) (hl : 1 + k ≤ s.size) (hd : ¬ (0 < k ∧ s.data.toList.tail.headD 0 ^^^ UInt8.ofNat t = 0)) :
    Nm.readN s.data.toList.tail k t = (Nm.val (Nm.tn t (s.data.toList.tail.take k)), 0) := by
  rw [Nm.readN, if_neg (by omega), if_neg (by rw [tail_length]; omega), if_neg hd]
theorem read_bad (s : ByteArray) (k t : Nat) (h8 : k ≤ 8) (hl : 1 + k ≤ s.size) (hd : 0 < k ∧ s.data.toList.tail.headD 0 ^^^ UInt8.ofNat t = 0) :
    Nm.readN s.data.toList.tail k t = (0, 4) := by
  rw [Nm.readN, if_neg (by omega), if_neg (by rw [tail_length]; omega), if_pos hd]
theorem read_short (s : ByteArray) (k t : Nat) (h8 : k ≤ 8) (hp : 0 < s.size) (hl : s.size < 1 + k) :
    Nm.readN s.data.toList.tail k t = (0, 3) := by
  rw [Nm.readN, if_neg (by omega), if_pos (by rw [tail_length]; omega)]

set_option maxRecDepth 100000 in
set_option maxHeartbeats 1000000 in
theorem rgetI_hi_short (s : ByteArray) (w : World) (hs : s.size ≤ 9223372036854775807) (hp : 0 < s.size) (c : UInt8) (hc : s[0] = c) (kk : Nat) (hcc : c.toNat = 128 + kk) (h8 : kk ≤ 8) (hl : s.size < 1 + kk) :
    Calls Tryd.prog 49 #[.string s] w fun e w' => e = .returned (.tuple #[.int .i64 0, .int .i64 0, .int .i64 3]) ∧ Below w.heap.size w w' := by
  have hz : ((s.size : Int) == 0) = false := beq_eq_false_iff_ne.2 (by omega)
  have hb := c.toNat_lt
  have c1 : 128 ≤ c.toNat := by omega
  have c2 : c.toNat ≤ 136 := by omega
  have hl' : s.size < 1 + c.toNat - 128 := by omega
  clear hcc hl h8
  go_enter Tryd.func49, Tryd.ntmps49
  go_wp2_with fail
  go_ret3
  exact ⟨rfl, Below.refl _ _⟩

set_option maxRecDepth 100000 in
set_option maxHeartbeats 1000000 in
theorem rgetI_hi_bad (s : ByteArray) (w : World) (hs : s.size ≤ 9223372036854775807) (hp : 0 < s.size) (c : UInt8) (hc : s[0] = c) (kk : Nat) (hcc : c.toNat = 128 + kk) (h8 : kk ≤ 8) (hl : 1 + kk ≤ s.size) (V : Nat) (HV : Hid (Nm.val (s.data.toList.tail.take kk) = V)) (HP0 : Lib.hasPrefix (s.data.toList.tail.take kk) [0] = true) :
    Calls Tryd.prog 49 #[.string s] w fun e w' => e = .returned (.tuple #[.int .i64 0, .int .i64 0, .int .i64 4]) ∧ Below w.heap.size w w' := by
  have hz : ((s.size : Int) == 0) = false := beq_eq_false_iff_ne.2 (by omega)
  have hb := c.toNat_lt
  have c1 : 128 ≤ c.toNat := by omega
  have c2 : c.toNat ≤ 136 := by omega
  have hl' : 1 + c.toNat - 128 ≤ s.size := by omega
  have HM : Hid ((s.extract 1 (1 + c.toNat - 128)).data.toList = s.data.toList.tail.take kk) := by show (s.extract 1 (1 + c.toNat - 128)).data.toList = _; rw [show 1 + c.toNat - 128 = 1 + kk from by omega, mid_data]
  have HP : Hid (Lib.hasPrefix (s.data.toList.tail.take kk) [0] = true) := HP0
  clear hcc hl HP0
  go_enter Tryd.func49, Tryd.ntmps49
  go_wp2_with fail
  refine (number_any 8 _ _ (by simp only [ByteArray.size_extract]; omega) (by omega)).mono ?_
  rintro e w2 ⟨rfl, m, rfl⟩
  rw [HM.out, HV.out]
  have hbb : Below w.heap.size w (w.drewN m) := below_drewN (Below.refl _ _) m
  go_wp2_with fail
  refine (Tryd.strings_HasPrefix _ _ _).mono ?_
  rintro e w3 ⟨rfl, rfl⟩
  rw [show ({ data := #[0] } : ByteArray).data.toList = [0] from rfl, HM.out, HP.out]
  go_wp2_with fail
  go_ret3
  exact ⟨rfl, hbb⟩

set_option maxRecDepth 100000 in
set_option maxHeartbeats 1000000 in
theorem rgetI_hi_big (s : ByteArray) (w : World) (hs : s.size ≤ 9223372036854775807) (hp : 0 < s.size) (c : UInt8) (hc : s[0] = c) (kk : Nat) (hcc : c.toNat = 128 + kk) (h8 : kk ≤ 8) (hl : 1 + kk ≤ s.size) (V : Nat) (HV : Hid (Nm.val (s.data.toList.tail.take kk) = V)) (HP0 : Lib.hasPrefix (s.data.toList.tail.take kk) [0] = false) (hm : 9223372036854775807 < V) :
    Calls Tryd.prog 49 #[.string s] w fun e w' => e = .returned (.tuple #[.int .i64 0, .int .i64 0, .int .i64 4]) ∧ Below w.heap.size w w' := by
  have hz : ((s.size : Int) == 0) = false := beq_eq_false_iff_ne.2 (by omega)
  have hb := c.toNat_lt
  have c1 : 128 ≤ c.toNat := by omega
  have c2 : c.toNat ≤ 136 := by omega
  have hl' : 1 + c.toNat - 128 ≤ s.size := by omega
  have HM : Hid ((s.extract 1 (1 + c.toNat - 128)).data.toList = s.data.toList.tail.take kk) := by show (s.extract 1 (1 + c.toNat - 128)).data.toList = _; rw [show 1 + c.toNat - 128 = 1 + kk from by omega, mid_data]
  have HP : Hid (Lib.hasPrefix (s.data.toList.tail.take kk) [0] = false) := HP0
  clear hcc hl HP0
  go_enter Tryd.func49, Tryd.ntmps49
  go_wp2_with fail
  refine (number_any 8 _ _ (by simp only [ByteArray.size_extract]; omega) (by omega)).mono ?_
  rintro e w2 ⟨rfl, m, rfl⟩
  rw [HM.out, HV.out]
  have hbb : Below w.heap.size w (w.drewN m) := below_drewN (Below.refl _ _) m
  go_wp2_with fail
  refine (Tryd.strings_HasPrefix _ _ _).mono ?_
  rintro e w3 ⟨rfl, rfl⟩
  rw [show ({ data := #[0] } : ByteArray).data.toList = [0] from rfl, HM.out, HP.out]
  have hdec : decide ((9223372036854775808 : Int) ≤ (V : Int)) = true := decide_eq_true (by omega)
  clear hm
  go_wp2_with fail
  go_ret3
  exact ⟨rfl, hbb⟩

set_option maxRecDepth 100000 in
set_option maxHeartbeats 1000000 in
theorem rgetI_hi_ok (s : ByteArray) (w : World) (hs : s.size ≤ 9223372036854775807) (hp : 0 < s.size) (c : UInt8) (hc : s[0] = c) (kk : Nat) (hcc : c.toNat = 128 + kk) (h8 : kk ≤ 8) (hl : 1 + kk ≤ s.size) (V : Nat) (HV : Hid (Nm.val (s.data.toList.tail.take kk) = V)) (HP0 : Lib.hasPrefix (s.data.toList.tail.take kk) [0] = false) (hm : V ≤ 9223372036854775807) :
    Calls Tryd.prog 49 #[.string s] w fun e w' => e = .returned (.tuple #[.int .i64 V, .int .i64 (1 + (c.toNat : Int) - 128), .int .i64 0]) ∧ Below w.heap.size w w' := by
  have hz : ((s.size : Int) == 0) = false := beq_eq_false_iff_ne.2 (by omega)
  have hb := c.toNat_lt
  have c1 : 128 ≤ c.toNat := by omega
  have c2 : c.toNat ≤ 136 := by omega
  have hl' : 1 + c.toNat - 128 ≤ s.size := by omega
  have HM : Hid ((s.extract 1 (1 + c.toNat - 128)).data.toList = s.data.toList.tail.take kk) := by show (s.extract 1 (1 + c.toNat - 128)).data.toList = _; rw [show 1 + c.toNat - 128 = 1 + kk from by omega, mid_data]
  have HP : Hid (Lib.hasPrefix (s.data.toList.tail.take kk) [0] = false) := HP0
  clear hcc hl HP0
  go_enter Tryd.func49, Tryd.ntmps49
  go_wp2_with fail
  refine (number_any 8 _ _ (by simp only [ByteArray.size_extract]; omega) (by omega)).mono ?_
  rintro e w2 ⟨rfl, m, rfl⟩
  rw [HM.out, HV.out]
  have hbb : Below w.heap.size w (w.drewN m) := below_drewN (Below.refl _ _) m
  go_wp2_with fail
  refine (Tryd.strings_HasPrefix _ _ _).mono ?_
  rintro e w3 ⟨rfl, rfl⟩
  rw [show ({ data := #[0] } : ByteArray).data.toList = [0] from rfl, HM.out, HP.out]
  have hdec : decide ((9223372036854775808 : Int) ≤ (V : Int)) = false := decide_eq_false (by omega)
  go_wp2_with fail
  go_ret3
  exact ⟨rfl, hbb⟩

set_option maxRecDepth 100000 in
set_option maxHeartbeats 1000000 in
theorem rgetI_lo_short (s : ByteArray) (w : World) (hs : s.size ≤ 9223372036854775807) (hp : 0 < s.size) (c : UInt8) (hc : s[0] = c) (kk : Nat) (hcc : c.toNat + kk = 127) (h8 : kk ≤ 8) (hl : s.size < 1 + kk) :
    Calls Tryd.prog 49 #[.string s] w fun e w' => e = .returned (.tuple #[.int .i64 0, .int .i64 0, .int .i64 3]) ∧ Below w.heap.size w w' := by
  have hz : ((s.size : Int) == 0) = false := beq_eq_false_iff_ne.2 (by omega)
  have hb := c.toNat_lt
  have c1 : 119 ≤ c.toNat := by omega
  have c2 : c.toNat ≤ 127 := by omega
  have hl' : s.size < 128 - c.toNat := by omega
  clear hcc hl h8
  go_enter Tryd.func49, Tryd.ntmps49
  go_wp2_with fail
  go_ret3
  exact ⟨rfl, Below.refl _ _⟩

set_option maxRecDepth 100000 in
set_option maxHeartbeats 1000000 in
theorem rgetI_lo_bad (s : ByteArray) (w : World) (hs : s.size ≤ 9223372036854775807) (hp : 0 < s.size) (c : UInt8) (hc : s[0] = c) (kk : Nat) (hcc : c.toNat + kk = 127) (h8 : kk ≤ 8) (hl : 1 + kk ≤ s.size) (V : Nat) (HV : Hid (Nm.val (Nm.tn 255 (s.data.toList.tail.take kk)) = V)) (HP0 : Lib.hasPrefix (s.data.toList.tail.take kk) [255] = true) :
    Calls Tryd.prog 49 #[.string s] w fun e w' => e = .returned (.tuple #[.int .i64 0, .int .i64 0, .int .i64 4]) ∧ Below w.heap.size w w' := by
  have hz : ((s.size : Int) == 0) = false := beq_eq_false_iff_ne.2 (by omega)
  have hb := c.toNat_lt
  have c1 : 119 ≤ c.toNat := by omega
  have c2 : c.toNat ≤ 127 := by omega
  have hl' : 128 - c.toNat ≤ s.size := by omega
  have HM : Hid ((s.extract 1 (128 - c.toNat)).data.toList = s.data.toList.tail.take kk) := by show (s.extract 1 (128 - c.toNat)).data.toList = _; rw [show 128 - c.toNat = 1 + kk from by omega, mid_data]
  have HP : Hid (Lib.hasPrefix (s.data.toList.tail.take kk) [255] = true) := HP0
  clear hcc hl HP0
  go_enter Tryd.func49, Tryd.ntmps49
  go_wp2_with fail
  refine (turned_any _ _ (by simp only [ByteArray.size_extract]; omega)).mono ?_
  rintro e w1 ⟨rfl, hb1⟩
  rw [HM.out]
  go_wp2_with fail
  refine (number_any 8 _ _ (by rw [Lib.size_eq]; simp only [Nm.tn_length]; have := List.length_take_le kk s.data.toList.tail; omega) (by omega)).mono ?_
  rintro e w2 ⟨rfl, m, rfl⟩
  rw [show ({ data := (Nm.tn 255 (List.take kk s.data.toList.tail)).toArray } : ByteArray).data.toList = Nm.tn 255 (List.take kk s.data.toList.tail) from rfl, HV.out]
  have hbb : Below w.heap.size w (w1.drewN m) := below_drewN hb1 m
  go_wp2_with fail
  refine (Tryd.strings_HasPrefix _ _ _).mono ?_
  rintro e w3 ⟨rfl, rfl⟩
  rw [show ({ data := #[255] } : ByteArray).data.toList = [255] from rfl, HM.out, HP.out]
  go_wp2_with fail
  go_ret3
  exact ⟨rfl, hbb⟩

set_option maxRecDepth 100000 in
set_option maxHeartbeats 1000000 in
theorem rgetI_lo_big (s : ByteArray) (w : World) (hs : s.size ≤ 9223372036854775807) (hp : 0 < s.size) (c : UInt8) (hc : s[0] = c) (kk : Nat) (hcc : c.toNat + kk = 127) (h8 : kk ≤ 8) (hl : 1 + kk ≤ s.size) (V : Nat) (HV : Hid (Nm.val (Nm.tn 255 (s.data.toList.tail.take kk)) = V)) (HP0 : Lib.hasPrefix (s.data.toList.tail.take kk) [255] = false) (hm : 9223372036854775807 < V) :
    Calls Tryd.prog 49 #[.string s] w fun e w' => e = .returned (.tuple #[.int .i64 0, .int .i64 0, .int .i64 4]) ∧ Below w.heap.size w w' := by
  have hz : ((s.size : Int) == 0) = false := beq_eq_false_iff_ne.2 (by omega)
  have hb := c.toNat_lt
  have c1 : 119 ≤ c.toNat := by omega
  have c2 : c.toNat ≤ 127 := by omega
  have hl' : 128 - c.toNat ≤ s.size := by omega
  have HM : Hid ((s.extract 1 (128 - c.toNat)).data.toList = s.data.toList.tail.take kk) := by show (s.extract 1 (128 - c.toNat)).data.toList = _; rw [show 128 - c.toNat = 1 + kk from by omega, mid_data]
  have HP : Hid (Lib.hasPrefix (s.data.toList.tail.take kk) [255] = false) := HP0
  clear hcc hl HP0
  go_enter Tryd.func49, Tryd.ntmps49
  go_wp2_with fail
  refine (turned_any _ _ (by simp only [ByteArray.size_extract]; omega)).mono ?_
  rintro e w1 ⟨rfl, hb1⟩
  rw [HM.out]
  go_wp2_with fail
  refine (number_any 8 _ _ (by rw [Lib.size_eq]; simp only [Nm.tn_length]; have := List.length_take_le kk s.data.toList.tail; omega) (by omega)).mono ?_
  rintro e w2 ⟨rfl, m, rfl⟩
  rw [show ({ data := (Nm.tn 255 (List.take kk s.data.toList.tail)).toArray } : ByteArray).data.toList = Nm.tn 255 (List.take kk s.data.toList.tail) from rfl, HV.out]
  have hbb : Below w.heap.size w (w1.drewN m) := below_drewN hb1 m
  go_wp2_with fail
  refine (Tryd.strings_HasPrefix _ _ _).mono ?_
  rintro e w3 ⟨rfl, rfl⟩
  rw [show ({ data := #[255] } : ByteArray).data.toList = [255] from rfl, HM.out, HP.out]
  have hdec : decide ((9223372036854775808 : Int) ≤ (V : Int)) = true := decide_eq_true (by omega)
  clear hm
  go_wp2_with fail
  go_ret3
  exact ⟨rfl, hbb⟩

set_option maxRecDepth 100000 in
set_option maxHeartbeats 1000000 in
theorem rgetI_lo_ok (s : ByteArray) (w : World) (hs : s.size ≤ 9223372036854775807) (hp : 0 < s.size) (c : UInt8) (hc : s[0] = c) (kk : Nat) (hcc : c.toNat + kk = 127) (h8 : kk ≤ 8) (hl : 1 + kk ≤ s.size) (V : Nat) (HV : Hid (Nm.val (Nm.tn 255 (s.data.toList.tail.take kk)) = V)) (HP0 : Lib.hasPrefix (s.data.toList.tail.take kk) [255] = false) (hm : V ≤ 9223372036854775807) :
    Calls Tryd.prog 49 #[.string s] w fun e w' => e = .returned (.tuple #[.int .i64 (-1 - (V : Int)), .int .i64 (128 - (c.toNat : Int)), .int .i64 0]) ∧ Below w.heap.size w w' := by
  have hz : ((s.size : Int) == 0) = false := beq_eq_false_iff_ne.2 (by omega)
  have hb := c.toNat_lt
  have c1 : 119 ≤ c.toNat := by omega
  have c2 : c.toNat ≤ 127 := by omega
  have hl' : 128 - c.toNat ≤ s.size := by omega
  have HM : Hid ((s.extract 1 (128 - c.toNat)).data.toList = s.data.toList.tail.take kk) := by show (s.extract 1 (128 - c.toNat)).data.toList = _; rw [show 128 - c.toNat = 1 + kk from by omega, mid_data]
  have HP : Hid (Lib.hasPrefix (s.data.toList.tail.take kk) [255] = false) := HP0
  clear hcc hl HP0
  go_enter Tryd.func49, Tryd.ntmps49
  go_wp2_with fail
  refine (turned_any _ _ (by simp only [ByteArray.size_extract]; omega)).mono ?_
  rintro e w1 ⟨rfl, hb1⟩
  rw [HM.out]
  go_wp2_with fail
  refine (number_any 8 _ _ (by rw [Lib.size_eq]; simp only [Nm.tn_length]; have := List.length_take_le kk s.data.toList.tail; omega) (by omega)).mono ?_
  rintro e w2 ⟨rfl, m, rfl⟩
  rw [show ({ data := (Nm.tn 255 (List.take kk s.data.toList.tail)).toArray } : ByteArray).data.toList = Nm.tn 255 (List.take kk s.data.toList.tail) from rfl, HV.out]
  have hbb : Below w.heap.size w (w1.drewN m) := below_drewN hb1 m
  go_wp2_with fail
  refine (Tryd.strings_HasPrefix _ _ _).mono ?_
  rintro e w3 ⟨rfl, rfl⟩
  rw [show ({ data := #[255] } : ByteArray).data.toList = [255] from rfl, HM.out, HP.out]
  have hdec : decide ((9223372036854775808 : Int) ≤ (V : Int)) = false := decide_eq_false (by omega)
  go_wp2_with fail
  go_ret3
  exact ⟨rfl, hbb⟩

end Go.Proofs.YtimdioacmojkeaaDoor

namespace Go.Proofs.YtimdioacmojkeaaDoor
open Go.RowKit
set_option maxRecDepth 4000

set_option maxRecDepth 100000 in
set_option maxHeartbeats 1000000 in
theorem rgetI_out (s : ByteArray) (w : World) (hs : s.size ≤ 9223372036854775807) (hp : 0 < s.size) (c : UInt8) (hc : s[0] = c) (hcc : c.toNat < 119 ∨ 136 < c.toNat) :
    Calls Tryd.prog 49 #[.string s] w fun e w' => e = .returned (.tuple #[.int .i64 0, .int .i64 0, .int .i64 4]) ∧ Below w.heap.size w w' := by
  have hz : ((s.size : Int) == 0) = false := beq_eq_false_iff_ne.2 (by omega)
  have hb := c.toNat_lt
  rcases hcc with h | h
  · go_enter Tryd.func49, Tryd.ntmps49
    go_wp2_with fail
    go_ret3
    exact ⟨rfl, Below.refl _ _⟩
  · have h' : ¬ c.toNat < 119 := by omega
    go_enter Tryd.func49, Tryd.ntmps49
    go_wp2_with fail
    go_ret3
    exact ⟨rfl, Below.refl _ _⟩

set_option maxRecDepth 100000 in
theorem rgetI_none (s : ByteArray) (w : World) (hp : s.size = 0) :
    Calls Tryd.prog 49 #[.string s] w fun e w' => e = .returned (.tuple #[.int .i64 0, .int .i64 0, .int .i64 3]) ∧ Below w.heap.size w w' := by
  go_enter Tryd.func49, Tryd.ntmps49
  go_wp2_with fail
  go_ret3
  exact ⟨rfl, Below.refl _ _⟩

theorem head3 {a b : Int} {c : Int} {a' b' c' : Int} (h1 : a = a') (h2 : b = b') (h3 : c = c') :
    Ending.returned (.tuple #[.int .i64 a, .int .i64 b, .int .i64 c]) = .returned (.tuple #[.int .i64 a', .int .i64 b', .int .i64 c']) := by rw [h1, h2, h3]

theorem rgetI_any (s : ByteArray) (w : World) (hs : s.size ≤ 9223372036854775807) :
    Calls Tryd.prog 49 #[.string s] w fun e w' =>
      e = .returned (.tuple #[.int .i64 (Nm.getI s.data.toList).1, .int .i64 (Nm.getI s.data.toList).2.1, .int .i64 (Nm.getI s.data.toList).2.2]) ∧ Below w.heap.size w w' := by
  by_cases h0 : s.size = 0
  · have hr : Nm.getI s.data.toList = (0, 0, 3) := by rw [Nm.getI, if_pos (List.length_eq_zero_iff.1 (by simpa using h0))]
    rw [hr]
    exact rgetI_none s w h0
  have hp : 0 < s.size := by omega
  have hne := list_ne' s hp
  have hh := head_byte s hp
  obtain ⟨c, hc⟩ : ∃ c, s[0] = c := ⟨_, rfl⟩
  rw [hc] at hh
  have hb := c.toNat_lt
  by_cases hout : c.toNat < 119 ∨ 136 < c.toNat
  · have hr : Nm.getI s.data.toList = (0, 0, 4) := by
      rw [Nm.getI, if_neg hne, hh]
      by_cases h1 : 128 ≤ c.toNat
      · rw [if_pos h1]
        have : Nm.readN s.data.toList.tail (c.toNat - 128) 0 = (0, 4) := by rw [Nm.readN, if_pos (by omega)]
        rw [this]; rfl
      · rw [if_neg h1]
        have : Nm.readN s.data.toList.tail (127 - c.toNat) 255 = (0, 4) := by rw [Nm.readN, if_pos (by omega)]
        rw [this]; rfl
    rw [hr]
    exact rgetI_out s w hs hp c hc hout
  by_cases h1 : 128 ≤ c.toNat
  · obtain ⟨kk, hkk⟩ : ∃ kk, kk = c.toNat - 128 := ⟨_, rfl⟩
    have hg : Nm.getI s.data.toList = if (Nm.readN s.data.toList.tail kk 0).2 = 0 then (if 9223372036854775807 < (Nm.readN s.data.toList.tail kk 0).1 then ((0 : Int), (0 : Nat), (4 : Int)) else (((Nm.readN s.data.toList.tail kk 0).1 : Int), 1 + kk, (0 : Int))) else ((0 : Int), (0 : Nat), (Nm.readN s.data.toList.tail kk 0).2) := by
      rw [Nm.getI, if_neg hne]; simp only [hh]; rw [if_pos h1, ← hkk]
    rw [hg]
    by_cases hl : s.size < 1 + kk
    · rw [read_short s kk 0 (by omega) hp hl, if_neg (by decide)]
      exact rgetI_hi_short s w hs hp c hc kk (by omega) (by omega) hl
    have hpre := pre_zero s.data.toList.tail kk (by rw [tail_length]; omega) 0
    by_cases hd : 0 < kk ∧ s.data.toList.tail.headD 0 ^^^ UInt8.ofNat 0 = 0
    · rw [read_bad s kk 0 (by omega) (by omega) hd, if_neg (by decide)]
      exact rgetI_hi_bad s w hs hp c hc kk (by omega) (by omega) (by omega) _ rfl (by rw [hpre]; exact decide_eq_true (by simpa using hd))
    · rw [read_mid s kk 0 (by omega) (by omega) hd, if_pos rfl, Nm.tn_zero]
      have hpf : Lib.hasPrefix (s.data.toList.tail.take kk) [0] = false := by rw [hpre]; exact decide_eq_false (by simpa using hd)
      by_cases hm : 9223372036854775807 < Nm.val (s.data.toList.tail.take kk)
      · rw [if_pos hm]
        exact rgetI_hi_big s w hs hp c hc kk (by omega) (by omega) (by omega) _ rfl hpf hm
      · rw [if_neg hm]
        refine (rgetI_hi_ok s w hs hp c hc kk (by omega) (by omega) (by omega) _ rfl hpf (by omega)).mono ?_
        rintro e w' ⟨rfl, hb⟩
        exact ⟨head3 rfl (by show _ = ((1 + kk : Nat) : Int); omega) rfl, hb⟩
  · obtain ⟨kk, hkk⟩ : ∃ kk, kk = 127 - c.toNat := ⟨_, rfl⟩
    have hg : Nm.getI s.data.toList = if (Nm.readN s.data.toList.tail kk 255).2 = 0 then (if 9223372036854775807 < (Nm.readN s.data.toList.tail kk 255).1 then ((0 : Int), (0 : Nat), (4 : Int)) else (-1 - ((Nm.readN s.data.toList.tail kk 255).1 : Int), 1 + kk, (0 : Int))) else ((0 : Int), (0 : Nat), (Nm.readN s.data.toList.tail kk 255).2) := by
      rw [Nm.getI, if_neg hne]; simp only [hh]; rw [if_neg h1, ← hkk]
    rw [hg]
    by_cases hl : s.size < 1 + kk
    · rw [read_short s kk 255 (by omega) hp hl, if_neg (by decide)]
      exact rgetI_lo_short s w hs hp c hc kk (by omega) (by omega) hl
    have hpre := pre_zero s.data.toList.tail kk (by rw [tail_length]; omega) 255
    by_cases hd : 0 < kk ∧ s.data.toList.tail.headD 0 ^^^ UInt8.ofNat 255 = 0
    · rw [read_bad s kk 255 (by omega) (by omega) hd, if_neg (by decide)]
      exact rgetI_lo_bad s w hs hp c hc kk (by omega) (by omega) (by omega) _ rfl (by rw [hpre]; exact decide_eq_true (by rw [xor255] at hd; exact hd))
    · rw [read_mid s kk 255 (by omega) (by omega) hd, if_pos rfl]
      have hpf : Lib.hasPrefix (s.data.toList.tail.take kk) [255] = false := by rw [hpre]; exact decide_eq_false (by rw [xor255] at hd; exact hd)
      by_cases hm : 9223372036854775807 < Nm.val (Nm.tn 255 (s.data.toList.tail.take kk))
      · rw [if_pos hm]
        exact rgetI_lo_big s w hs hp c hc kk (by omega) (by omega) (by omega) _ rfl hpf hm
      · rw [if_neg hm]
        refine (rgetI_lo_ok s w hs hp c hc kk (by omega) (by omega) (by omega) _ rfl hpf (by omega)).mono ?_
        rintro e w' ⟨rfl, hb⟩
        exact ⟨head3 rfl (by show _ = ((1 + kk : Nat) : Int); omega) rfl, hb⟩
end Go.Proofs.YtimdioacmojkeaaDoor

namespace Go.Proofs.YtimdioacmojkeaaDoor
open Go.RowKit
set_option maxRecDepth 4000

/-- two nodes in blocks of their own: the answer, and the one that is filled -/
structure R2 (w W : World) (b : Nat) (x0 x1 x2 x3 x4 x5 x6 : Value) : Prop where
  res : W.heap[b]? = some (.cells #[.string ⟨#[]⟩, .int .i64 0, .int .i64 0, .int .i64 0, .int .i64 0, .slice none 0 0, .string ⟨#[]⟩] 54 (0, 0))
  str : W.heap[b + 1]? = some (.cells #[x0, x1, x2, x3, x4, x5, x6] 54 (0, 0))
  bel : Below w.heap.size w W
  at_ : w.heap.size = b

section
variable {w W W' : World} {b : Nat} {x0 x1 x2 x3 x4 x5 x6 y : Value}
theorem R2.past (h : R2 w W b x0 x1 x2 x3 x4 x5 x6) (hb : Below W.heap.size W W') : R2 w W' b x0 x1 x2 x3 x4 x5 x6 :=
  ⟨(hb.block _ (Array.getElem?_eq_some_iff.1 h.res).1).trans h.res, (hb.block _ (Array.getElem?_eq_some_iff.1 h.str).1).trans h.str, h.bel.trans (hb.mono h.bel.size), h.at_⟩

theorem R2.setAt (h : R2 w W b x0 x1 x2 x3 x4 x5 x6) (j : Nat) (y : Value) {y0 y1 y2 y3 y4 y5 y6 : Value} (e : (#[x0, x1, x2, x3, x4, x5, x6] : Array Value).setIfInBounds j y = #[y0, y1, y2, y3, y4, y5, y6]) :
    R2 w (W.setCell ⟨b + 1, j, none⟩ y) b y0 y1 y2 y3 y4 y5 y6 := by
  refine ⟨?_, ?_, h.bel.setCell (p := ⟨b + 1, j, none⟩) (by have := h.at_; simp; omega) _, h.at_⟩
  · rw [Below.heap_setCell _ _ _ _ (by simp)]; exact h.res
  · rw [← e]
    simp [World.setCell, Array.getElem?_modify, h.str]

theorem seven_fz {b : Nat} {T : TypeId} (h : W.heap[b]? = some (.cells #[x0, x1, x2, x3, x4, x5, x6] T (0, 0))) :
    W.frozen? ⟨b, 0, none⟩ = false ∧ W.frozen? ⟨b, 1, none⟩ = false ∧ W.frozen? ⟨b, 2, none⟩ = false ∧ W.frozen? ⟨b, 3, none⟩ = false ∧ W.frozen? ⟨b, 4, none⟩ = false ∧ W.frozen? ⟨b, 5, none⟩ = false ∧ W.frozen? ⟨b, 6, none⟩ = false := by
  refine ⟨?_, ?_, ?_, ?_, ?_, ?_, ?_⟩ <;> simp [World.frozen?, h]

theorem below7 (h : Below w.heap.size w W) (hM : w.heap.size = b) (x0 x1 x2 x3 x4 x5 x6 : Value) :
    Below w.heap.size w (((((((W.setCell ⟨b, 0, none⟩ x0).setCell ⟨b, 1, none⟩ x1).setCell ⟨b, 2, none⟩ x2).setCell ⟨b, 3, none⟩ x3).setCell ⟨b, 4, none⟩ x4).setCell ⟨b, 5, none⟩ x5).setCell ⟨b, 6, none⟩ x6) :=
  ((((((h.setCell (p := ⟨b, 0, none⟩) (Nat.le_of_eq hM) x0).setCell (p := ⟨b, 1, none⟩) (Nat.le_of_eq hM) x1).setCell (p := ⟨b, 2, none⟩) (Nat.le_of_eq hM) x2).setCell (p := ⟨b, 3, none⟩) (Nat.le_of_eq hM) x3).setCell (p := ⟨b, 4, none⟩) (Nat.le_of_eq hM) x4).setCell (p := ⟨b, 5, none⟩) (Nat.le_of_eq hM) x5).setCell (p := ⟨b, 6, none⟩) (Nat.le_of_eq hM) x6

end

/-- what nodeRead answers -/
def RdOut (s : ByteArray) (w : World) (e : Ending) (w' : World) : Prop :=
  Below w.heap.size w w' ∧
  (((Td.rdOne s.data.toList).2.2 ≠ 0 ∧ ∃ (n : Nod) (a : Option Addr) (m c : Nat), e = .returned (.tuple #[ndV n (.slice a m c), .string ⟨#[]⟩, .int .i64 (Td.rdOne s.data.toList).2.2])) ∨
   ∃ (n : Nod) (v : Value), (Td.rdOne s.data.toList) = (n.nd, (Td.rdOne s.data.toList).2.1, 0) ∧ e = .returned (.tuple #[ndV n v, .string ⟨(Td.rdOne s.data.toList).2.1.toArray⟩, .int .i64 0]) ∧ Rx 8 idC w' v n.parts ∧
    (∀ a m c, v = .slice (some a) m c → ∃ cur fr, w'.heap[a.block]? = some (.cells cur 24 fr)) ∧ n.Ok ∧ n.name.size ≤ 1024)

theorem ext_str (s : ByteArray) (k : Nat) : s.extract k s.size = ⟨(s.data.toList.drop k).toArray⟩ := by
  apply ByteArray.ext
  apply Array.toList_inj.1
  rw [Nn.ext_drop']

/-! the reading in stages -/
namespace Td
def rdK (t : Bs) (kd md : Nat) (i : Int) (sz np : Nat) (l : Bs) : Nd × Bs × Int :=
  if l.length < 8 * np then (nd0, [], 3) else
  let k := Nm.getT (l.drop (8 * np))
  if k.2.2 ≠ 0 then (nd0, [], k.2.2) else
  (⟨t, kd, md, i, sz, eights np l, k.1⟩, (l.drop (8 * np)).drop k.2.1, 0)

def rdP (t : Bs) (kd md : Nat) (i : Int) (sz : Nat) (l : Bs) : Nd × Bs × Int := let p := num 300 l; if p.2.2 ≠ 0 then (nd0, [], p.2.2) else rdK t kd md i sz p.1 p.2.1

def rdZ (t : Bs) (kd md : Nat) (i : Int) (l : Bs) : Nd × Bs × Int := let z := num 4096 l; if z.2.2 ≠ 0 then (nd0, [], z.2.2) else rdP t kd md i z.1 z.2.1

def rdI (t : Bs) (kd md : Nat) (l : Bs) : Nd × Bs × Int := let i := Nm.getI l; if i.2.2 ≠ 0 then (nd0, [], i.2.2) else rdZ t kd md i.1 (l.drop i.2.1)

def rdM (t : Bs) (kd : Nat) (l : Bs) : Nd × Bs × Int := let m := num 511 l; if m.2.2 ≠ 0 then (nd0, [], m.2.2) else rdI t kd m.1 m.2.1

theorem rdOne_M {s t : Bs} {kt : Nat} (h1 : Nm.getT s = (t, kt, 0)) (h2 : s.drop kt ≠ []) : rdOne s = rdM t ((s.drop kt).headD 0).toNat (s.drop kt).tail := by
  unfold rdOne
  rw [h1]
  simp only [ne_eq, not_true, if_false, if_neg h2]
  rfl

theorem num_len (most : Nat) (s : Bs) : (num most s).2.1.length ≤ s.length := by
  unfold num
  simp only
  split
  · simp
  · split
    · simp
    · simp

theorem num_most {most : Nat} {s : Bs} {n : Nat} {r : Bs} {e : Int} (h : num most s = (n, r, e)) : n ≤ most := by
  unfold num at h
  simp only at h
  split at h
  · have := congrArg (fun q => q.1) h
    simp at this
    omega
  · split at h
    · have := congrArg (fun q => q.1) h
      simp at this
      omega
    · have := congrArg (fun q => q.1) h
      simp at this
      omega

theorem num_zero {most : Nat} {s : Bs} {n : Nat} {r : Bs} {e : Int} (h : num most s = (n, r, e)) (he : e ≠ 0) : r = [] := by
  unfold num at h
  simp only at h
  split at h
  · exact (congrArg (fun q => q.2.1) h).symm
  · split at h
    · exact (congrArg (fun q => q.2.1) h).symm
    · exact absurd (congrArg (fun q => q.2.2) h).symm he

theorem rdM_err {t l r : Bs} {kd n : Nat} {e : Int} (h : num 511 l = (n, r, e)) (he : e ≠ 0) : (rdM t kd l).2.2 = e := by unfold rdM; rw [h]; simp only [if_pos he]

theorem rdM_ok {t l r : Bs} {kd n : Nat} (h : num 511 l = (n, r, 0)) : rdM t kd l = rdI t kd n r := by unfold rdM; rw [h]; simp only [ne_eq, not_true, if_false]

theorem rdI_err {t l : Bs} {kd md k : Nat} {i e : Int} (h : Nm.getI l = (i, k, e)) (he : e ≠ 0) : (rdI t kd md l).2.2 = e := by unfold rdI; rw [h]; simp only [if_pos he]

theorem rdI_ok {t l : Bs} {kd md k : Nat} {i : Int} (h : Nm.getI l = (i, k, 0)) : rdI t kd md l = rdZ t kd md i (l.drop k) := by unfold rdI; rw [h]; simp only [ne_eq, not_true, if_false]

theorem rdZ_err {t l r : Bs} {kd md n : Nat} {i e : Int} (h : num 4096 l = (n, r, e)) (he : e ≠ 0) : (rdZ t kd md i l).2.2 = e := by unfold rdZ; rw [h]; simp only [if_pos he]

theorem rdZ_ok {t l r : Bs} {kd md n : Nat} {i : Int} (h : num 4096 l = (n, r, 0)) : rdZ t kd md i l = rdP t kd md i n r := by unfold rdZ; rw [h]; simp only [ne_eq, not_true, if_false]

theorem rdP_err {t l r : Bs} {kd md sz n : Nat} {i e : Int} (h : num 300 l = (n, r, e)) (he : e ≠ 0) : (rdP t kd md i sz l).2.2 = e := by unfold rdP; rw [h]; simp only [if_pos he]

theorem rdP_ok {t l r : Bs} {kd md sz n : Nat} {i : Int} (h : num 300 l = (n, r, 0)) : rdP t kd md i sz l = rdK t kd md i sz n r := by unfold rdP; rw [h]; simp only [ne_eq, not_true, if_false]

theorem rdK_short {t l : Bs} {kd md sz np : Nat} {i : Int} (h : l.length < 8 * np) : (rdK t kd md i sz np l).2.2 = 3 := by unfold rdK; rw [if_pos h]

theorem rdK_err {t l k : Bs} {kd md sz np kk : Nat} {i e : Int} (h : ¬ l.length < 8 * np) (hk : Nm.getT (l.drop (8 * np)) = (k, kk, e)) (he : e ≠ 0) : (rdK t kd md i sz np l).2.2 = e := by unfold rdK; rw [if_neg h, hk]; simp only [if_pos he]

theorem rdK_ok {t l k : Bs} {kd md sz np kk : Nat} {i : Int} (h : ¬ l.length < 8 * np) (hk : Nm.getT (l.drop (8 * np)) = (k, kk, 0)) : rdK t kd md i sz np l = (⟨t, kd, md, i, sz, eights np l, k⟩, (l.drop (8 * np)).drop kk, 0) := by
  unfold rdK; rw [if_neg h, hk]; simp only [ne_eq, not_true, if_false]

theorem eights_more : ∀ (j : Nat) (l : Bs), eights (j + 1) l = eights j l ++ [(l.drop (8 * j)).take 8]
  | 0, l => rfl
  | j + 1, l => by
    rw [eights, eights_more j (l.drop 8), List.drop_drop, show 8 + 8 * j = 8 * (j + 1) from by omega]
    rfl

end Td

theorem eight_of8 {t : List UInt8} (h : t.length = 8) : ∃ b0 b1 b2 b3 b4 b5 b6 b7, t = [b0, b1, b2, b3, b4, b5, b6, b7] := by
  match t, h with
  | [b0, b1, b2, b3, b4, b5, b6, b7], _ => exact ⟨b0, b1, b2, b3, b4, b5, b6, b7, rfl⟩

theorem own_ge {base : Nat} {e : TypeId} {k : Nat} {v : Value} {n : Nat} {xs : List Value} {w : World} (h : w.ownsRow base e k v n xs) {g : Nat} (hg : v.ownBlock = some g) : base ≤ g := by
  obtain ⟨_, _, q, _⟩ := own_block h hg
  exact q

theorem own_more8 {w : World} {b n : Nat} {v : Value} {es es' : List (List UInt8)} {x : List UInt8} (h : w.ownsRow (b + 2) 24 8 v n (rowR idC es ++ idC x)) (he : es' = es ++ [x]) (y : Value) :
    (w.setCell ⟨b + 1, 5, none⟩ y).ownsRow (b + 2) 24 8 v n (rowR idC es') := by
  subst he
  rw [rowR_more]
  exact own_kept h ((Kept.refl (fun k => k ≠ b + 1) w).setCell (by simp) _) fun g hg => by have := own_ge h hg; omega

theorem rx_sub {w : World} {v : Value} {L : List { x : List UInt8 // x.length = 8 }} (hr : Rx 8 (fun x : { x : List UInt8 // x.length = 8 } => idC x.1) w v L) : Rx 8 idC w v (L.map (·.1)) := by
  refine ⟨?_, hr.room⟩
  rcases hr.at_ with ⟨h1, rfl⟩ | ⟨bk, o, cp, h1, h2, h3⟩
  · exact .inl ⟨h1, rfl⟩
  · refine .inr ⟨bk, o, cp, by rw [List.length_map]; exact h1, h2, fun j t hj r u hu => ?_⟩
    rw [List.getElem?_map] at hj
    cases e : L[j]? with
    | none => rw [e] at hj; simp at hj
    | some q =>
      rw [e] at hj
      obtain rfl : q.1 = t := by simpa using hj
      exact h3 j q e r u hu

theorem rx_own {base : Nat} {w : World} {v : Value} {n : Nat} {l : List (List UInt8)} (h : w.ownsRow base 24 8 v n (rowR idC l)) (hn : l.length = n) (h8 : ∀ t ∈ l, t.length = 8) : Rx 8 idC w v l := by
  obtain ⟨L, rfl⟩ : ∃ L : List { x : List UInt8 // x.length = 8 }, l = L.map (·.1) := ⟨l.attach.map (fun x => ⟨x.1, h8 x.1 x.2⟩), by simp [List.map_map, Function.comp_def]⟩
  refine rx_sub (Rx.of_own (base := base) (T := 24) (fun t => by rw [idC, List.length_map, t.2]) ?_)
  have e : rowR (fun x : { x : List UInt8 // x.length = 8 } => idC x.1) L = rowR idC (L.map (·.1)) := by simp [rowR]
  rw [e]
  rw [List.length_map] at hn
  rw [hn]
  exact h

theorem own_type {base n k : Nat} {T : TypeId} {w : World} {v : Value} {xs : List Value} (h : w.ownsRow base T k v n xs) : ∀ a m c, v = .slice (some a) m c → ∃ cur fr, w.heap[a.block]? = some (.cells cur T fr) := by
  intro a m c e
  rcases h.2 with ⟨rfl, _⟩ | ⟨g, cap, cur, rfl, hg, hh, _⟩
  · cases e
  · cases e
    exact ⟨_, _, hh⟩

theorem kept7 (W : World) (b : Nat) (x0 x1 x2 x3 x4 x5 x6 : Value) : Kept (fun k => k ≠ b) W (((((((W.setCell ⟨b, 0, none⟩ x0).setCell ⟨b, 1, none⟩ x1).setCell ⟨b, 2, none⟩ x2).setCell ⟨b, 3, none⟩ x3).setCell ⟨b, 4, none⟩ x4).setCell ⟨b, 5, none⟩ x5).setCell ⟨b, 6, none⟩ x6) :=
  (((((((Kept.refl (fun k => k ≠ b) W).setCell (a := ⟨b, 0, none⟩) (by simp) x0).setCell (a := ⟨b, 1, none⟩) (by simp) x1).setCell (a := ⟨b, 2, none⟩) (by simp) x2).setCell (a := ⟨b, 3, none⟩) (by simp) x3).setCell (a := ⟨b, 4, none⟩) (by simp) x4).setCell (a := ⟨b, 5, none⟩) (by simp) x5).setCell (a := ⟨b, 6, none⟩) (by simp) x6

theorem wf_i {n : Int} (h0 : -9223372036854775808 ≤ n) (h1 : n ≤ 9223372036854775807) : (Lit.int .i64 n).wf = true := by
  simp [Lit.wf, IntKind.min, IntKind.max, IntKind.signed, IntKind.bits]
  omega

theorem R2.grown {w W W' : World} {b : Nat} {x0 x1 x2 x3 x4 x5 x6 : Value} {row : Option Nat} (h : R2 w W b x0 x1 x2 x3 x4 x5 x6) (hg : W.grownBy W' row) (hr : ∀ g, row = some g → b + 2 ≤ g) : R2 w W' b x0 x1 x2 x3 x4 x5 x6 :=
  ⟨(hg.block b (Array.getElem?_eq_some_iff.1 h.res).1 fun e => by have := hr b e.symm; omega).trans h.res, (hg.block (b + 1) (Array.getElem?_eq_some_iff.1 h.str).1 fun e => by have := hr (b + 1) e.symm; omega).trans h.str,
    h.bel.grown hg h.bel.size fun g hgb => by have := hr g hgb; have := h.at_; omega, h.at_⟩

theorem info_id : (Tryd.prog.info? 24).map (fun i => (i.zero, i.size, i.bytes)) = some (some (.agg #[.int .u8 0, .int .u8 0, .int .u8 0, .int .u8 0, .int .u8 0, .int .u8 0, .int .u8 0, .int .u8 0]), 8, 8) := by kernel_rfl

theorem eight_new (W : World) (v0 v1 v2 v3 v4 v5 v6 v7 : Value) {T : TypeId} : ∀ j u, [v0, v1, v2, v3, v4, v5, v6, v7][j]? = some u → (W.alloc (.cells #[v0, v1, v2, v3, v4, v5, v6, v7] T)).cell? ((⟨W.heap.size, 0, none⟩ : Addr).add j) = some u := by
  intro j u hj
  rw [show ((⟨W.heap.size, 0, none⟩ : Addr).add j) = ⟨W.heap.size, j, none⟩ from by unfold Addr.add; split <;> simp_all]
  match j, hj with
  | 0, hj => simp at hj; subst hj; simp
  | 1, hj => simp at hj; subst hj; simp
  | 2, hj => simp at hj; subst hj; simp
  | 3, hj => simp at hj; subst hj; simp
  | 4, hj => simp at hj; subst hj; simp
  | 5, hj => simp at hj; subst hj; simp
  | 6, hj => simp at hj; subst hj; simp
  | 7, hj => simp at hj; subst hj; simp

theorem R2.drew {w W : World} {b : Nat} {x0 x1 x2 x3 x4 x5 x6 : Value} (h : R2 w W b x0 x1 x2 x3 x4 x5 x6) : R2 w W.drew b x0 x1 x2 x3 x4 x5 x6 := ⟨h.res, h.str, h.bel.drew, h.at_⟩

set_option maxHeartbeats 8000000 in
set_option maxRecDepth 10000 in
theorem nodeRead_any (s : ByteArray) (w : World) (hs : s.size ≤ 4194304) : Calls Tryd.prog 34 #[.string s] w (RdOut s w) := by
  unfold RdOut
  obtain ⟨R, hR⟩ : ∃ R, Td.rdOne s.data.toList = R := ⟨_, rfl⟩
  have HR : Hid (Td.rdOne s.data.toList = R) := hR
  rw [hR]
  clear hR
  obtain ⟨W0, hW0⟩ : ∃ W0, W0 = (w.alloc (.cells #[.string ⟨#[]⟩, .int .i64 0, .int .i64 0, .int .i64 0, .int .i64 0, .slice none 0 0, .string ⟨#[]⟩] 54)).alloc (.cells #[.string ⟨#[]⟩, .int .i64 0, .int .i64 0, .int .i64 0, .int .i64 0, .slice none 0 0, .string ⟨#[]⟩] 54) := ⟨_, rfl⟩
  have HA : Hid (R2 w W0 w.heap.size (.string ⟨#[]⟩) (.int .i64 0) (.int .i64 0) (.int .i64 0) (.int .i64 0) (.slice none 0 0) (.string ⟨#[]⟩)) := by
    rw [hW0]
    refine ⟨?_, ?_, ((Below.refl _ w).alloc (Nat.le_refl _) _).alloc (by simp) _, rfl⟩
    · exact ((Below.refl _ (w.alloc (.cells #[.string ⟨#[]⟩, .int .i64 0, .int .i64 0, .int .i64 0, .int .i64 0, .slice none 0 0, .string ⟨#[]⟩] 54))).alloc (Nat.le_refl _) _).block w.heap.size (by simp) ▸ heap_alloc_new w _
    · have := heap_alloc_new (w.alloc (.cells #[.string ⟨#[]⟩, .int .i64 0, .int .i64 0, .int .i64 0, .int .i64 0, .slice none 0 0, .string ⟨#[]⟩] 54)) (.cells #[.string ⟨#[]⟩, .int .i64 0, .int .i64 0, .int .i64 0, .int .i64 0, .slice none 0 0, .string ⟨#[]⟩] 54)
      simpa using this
  have hgt := rgetT_any s W0 (by omega)
  rcases hT : Nm.getT s.data.toList with ⟨t, kt, et⟩
  rw [hT] at hgt
  have HT : Hid (Nm.getT s.data.toList = (t, kt, et)) := hT
  clear hT
  obtain ⟨b, hb⟩ : ∃ b, b = w.heap.size := ⟨_, rfl⟩
  rw [← hb] at HA
  go_enter Tryd.func34, Tryd.ntmps34
  go_upto_region 2 with fail
  rw [← hW0, ← hb]
  clear hW0 hb
  go_wp2_with fail
  refine hgt.mono ?_
  rintro e u ⟨rfl, hu⟩
  obtain rfl := hu.symm
  clear hgt hu
  by_cases h1 : et ≠ 0
  · have hqn : (et != 0) = true := by rw [bne_iff_ne]; exact h1
    have HE : Hid (R.2.2 = et) := by
      show _ = _
      rw [← HR.out, Td.rdOne, HT.out]
      simp only [if_pos h1]
    obtain ⟨m0, m1, m2, m3, m4, m5, m6⟩ := seven_at HA.out.str
    obtain ⟨r0, r1, r2, r3, r4, r5, r6⟩ := seven_at HA.out.res
    obtain ⟨f0, f1, f2, f3, f4, f5, f6⟩ := seven_fz HA.out.res
    go_wp2_with fail
    refine bodyPost_ret (v := .tuple #[.agg #[.string ⟨#[]⟩, .int .i64 0, .int .i64 0, .int .i64 0, .int .i64 0, .slice none 0 0, .string ⟨#[]⟩], .string ⟨#[]⟩, .int .i64 et]) ?_ rfl ⟨below7 HA.out.bel HA.out.at_ _ _ _ _ _ _ _, .inl ⟨by rw [HE.out]; exact h1, ⟨⟨#[]⟩, 0, 0, 0, 0, [], ⟨#[]⟩⟩, none, 0, 0, by rw [HE.out]⟩⟩
    simp [results, asAddr, go_sem, r0, r1, r2, r3, r4, r5, r6]
  obtain rfl := Decidable.not_not.mp h1
  clear h1
  have hkt : kt ≤ s.size := by
    have := (Nm.getT_one HT.out).1
    rwa [← Lib.size_eq] at this
  have htl : t.length ≤ 1024 := (Nm.getT_one HT.out).2.1
  obtain ⟨s1, hs1⟩ : ∃ s1, s1 = s.extract kt s.size := ⟨_, rfl⟩
  have HS1 : Hid (s1.data.toList = s.data.toList.drop kt) := by show _ = _; rw [hs1, Nn.ext_drop']
  have hs1z : s1.size ≤ 4194304 := by rw [hs1, ByteArray.size_extract]; omega
  have hkt' : (kt : Int) ≤ (s.size : Int) := by omega
  by_cases h2 : s1.data.toList = []
  · have h2' := of_data h2
    have HE : Hid (R.2.2 = 3) := by
      show _ = _
      rw [← HR.out, Td.rdOne, HT.out]
      simp only [ne_eq, not_true, if_false, ← HS1.out, if_pos h2]
    rw [hs1] at h2'
    clear h2
    obtain ⟨m0, m1, m2, m3, m4, m5, m6⟩ := seven_at HA.out.str
    obtain ⟨r0, r1, r2, r3, r4, r5, r6⟩ := seven_at HA.out.res
    obtain ⟨f0, f1, f2, f3, f4, f5, f6⟩ := seven_fz HA.out.res
    go_wp2_with fail
    refine bodyPost_ret (v := .tuple #[.agg #[.string ⟨#[]⟩, .int .i64 0, .int .i64 0, .int .i64 0, .int .i64 0, .slice none 0 0, .string ⟨#[]⟩], .string ⟨#[]⟩, .int .i64 3]) ?_ rfl ⟨below7 HA.out.bel HA.out.at_ _ _ _ _ _ _ _, .inl ⟨by rw [HE.out]; exact by decide, ⟨⟨#[]⟩, 0, 0, 0, 0, [], ⟨#[]⟩⟩, none, 0, 0, by rw [HE.out]⟩⟩
    simp [results, asAddr, go_sem, r0, r1, r2, r3, r4, r5, r6]
  have hs1' := hs1.symm
  clear hs1
  have e1 : (s1.toList == []) = false := data_ne h2
  have hp0 : 0 < s1.size := by rw [Lib.size_eq]; exact List.length_pos_iff.2 h2
  obtain ⟨c0, hc0⟩ : ∃ c0 : Nat, s1[0].toNat = c0 := ⟨_, rfl⟩
  have hc256 : c0 < 256 := by rw [← hc0]; exact s1[0].toNat_lt
  have hwc : wrap64 (c0 : Int) = (c0 : Int) := by unfold wrap64; omega
  obtain ⟨q1, hq1⟩ : ∃ q1, s1.extract 1 s1.size = q1 := ⟨_, rfl⟩
  have hq1z : q1.size ≤ 4194304 := by rw [← hq1, ByteArray.size_extract]; omega
  have HR1 : Hid (R = Td.rdM t c0 q1.data.toList) := by
    show _ = _
    rw [← HR.out, Td.rdOne_M HT.out (by rw [← HS1.out]; exact h2), ← HS1.out, ← hq1, Nn.ext_drop', List.drop_one, ← hc0]
    congr 2
    have : s1.data.toList[0]? = some s1[0] := Lib.data_getElem? s1 0 hp0
    rw [List.headD_eq_head?_getD, List.head?_eq_getElem?, this]; rfl
  obtain ⟨m0, m1, _, _, _, _, _⟩ := seven_at HA.out.str
  obtain ⟨f0, f1, _, _, _, _, _⟩ := seven_fz HA.out.str
  have HA1 := HA.out.setAt 0 (.string ⟨t.toArray⟩) rfl
  have HA1' := HA.out.setAt 1 (.int .i64 (c0 : Int)) rfl
  obtain ⟨_, n1, _, _, _, _, _⟩ := seven_at HA1.str
  obtain ⟨_, g1, _, _, _, _, _⟩ := seven_fz HA1.str
  obtain ⟨n0, _⟩ := seven_at HA1'.str
  obtain ⟨g0, _⟩ := seven_fz HA1'.str
  have HA2 : Hid (R2 w ((W0.setCell ⟨b + 1, 0, none⟩ (.string ⟨t.toArray⟩)).setCell ⟨b + 1, 1, none⟩ (.int .i64 (c0 : Int))).drew b (.string ⟨t.toArray⟩) (.int .i64 (c0 : Int)) (.int .i64 0) (.int .i64 0) (.int .i64 0) (.slice none 0 0) (.string ⟨#[]⟩)) := (HA1.setAt 1 _ rfl).drew
  clear HA1 HA1' HR HT HS1
  go_wp2_with fail
  go_region
  obtain ⟨W1, hW1⟩ : ∃ W1, W1 = ((W0.setCell ⟨b + 1, 0, none⟩ (.string ⟨t.toArray⟩)).setCell ⟨b + 1, 1, none⟩ (.int .i64 (c0 : Int))).drew := ⟨_, rfl⟩
  rw [← hW1] at HA2 ⊢
  clear hW1 m0 m1 f0 f1 n0 n1 g0 g1 HA
  have q1' : (1 : Int) ≤ (s1.size : Int) := by omega
  rcases hM : Td.num 511 q1.data.toList with ⟨md, l2, em⟩
  have hcall := numAt_any q1 511 W1 hq1z (by omega)
  rw [hM] at hcall
  have hmd : md ≤ 511 := Td.num_most hM
  have hl2 : l2.length ≤ 4194304 := by have := Td.num_len 511 q1.data.toList; rw [hM, ← Lib.size_eq] at this; simp only at this; omega
  have HM : Hid (Td.num 511 q1.data.toList = (md, l2, em)) := hM
  clear hM
  go_wp2_with fail
  refine hcall.mono ?_
  rintro e w2 ⟨rfl, b2⟩
  have HP := HA2.out.past b2
  have hmj := seven_at HP.str
  have hfj := seven_fz HP.str
  obtain ⟨c_0, c_1, c_2, c_3, c_4, c_5, c_6⟩ := hmj
  obtain ⟨z_0, z_1, z_2, z_3, z_4, z_5, z_6⟩ := hfj
  obtain ⟨WN, hWN⟩ : ∃ WN, WN = w2.setCell ⟨b + 1, 2, none⟩ (.int .i64 (md : Int)) := ⟨_, rfl⟩
  have HA : Hid (R2 w WN b (.string ⟨t.toArray⟩) (.int .i64 (c0 : Int)) (.int .i64 (md : Int)) (.int .i64 0) (.int .i64 0) (.slice none 0 0) (.string ⟨#[]⟩)) := by rw [hWN]; exact HP.setAt 2 _ rfl
  clear HP hcall b2 HA2
  go_upto_region 10 with fail
  rw [← hWN]
  clear hWN c_0 c_1 c_2 c_3 c_4 c_5 c_6 z_0 z_1 z_2 z_3 z_4 z_5 z_6 w2
  by_cases he : em ≠ 0
  · have hqn : (em != 0) = true := by rw [bne_iff_ne]; exact he
    have HE : Hid (R.2.2 = em) := by show _ = _; rw [HR1.out]; exact Td.rdM_err HM.out he
    obtain ⟨m0, m1, m2, m3, m4, m5, m6⟩ := seven_at HA.out.str
    obtain ⟨r0, r1, r2, r3, r4, r5, r6⟩ := seven_at HA.out.res
    obtain ⟨f0, f1, f2, f3, f4, f5, f6⟩ := seven_fz HA.out.res
    go_wp2_with fail
    refine bodyPost_ret (v := .tuple #[.agg #[.string ⟨t.toArray⟩, .int .i64 (c0 : Int), .int .i64 (md : Int), .int .i64 0, .int .i64 0, .slice none 0 0, .string ⟨#[]⟩], .string ⟨#[]⟩, .int .i64 em]) ?_ rfl ⟨below7 HA.out.bel HA.out.at_ _ _ _ _ _ _ _, .inl ⟨by rw [HE.out]; exact he, ⟨⟨t.toArray⟩, (c0 : Int), (md : Int), 0, 0, [], ⟨#[]⟩⟩, none, 0, 0, by rw [HE.out]⟩⟩
    simp [results, asAddr, go_sem, r0, r1, r2, r3, r4, r5, r6]
  obtain rfl := Decidable.not_not.mp he
  clear he
  have HR2 : Hid (R = Td.rdI t c0 md l2) := by show _ = _; rw [HR1.out]; exact Td.rdM_ok HM.out
  obtain ⟨s2, hs2⟩ : ∃ s2 : ByteArray, s2 = ⟨l2.toArray⟩ := ⟨_, rfl⟩
  have hd2 : s2.data.toList = l2 := by rw [hs2]
  have hs2z : s2.size ≤ 4194304 := by rw [Lib.size_eq, hd2]; exact hl2
  rw [← hs2]
  have HA2 := HA
  clear HM HR1 hq1 hq1z hs2 HA
  generalize WN = W1 at *
  rcases hI : Nm.getI s2.data.toList with ⟨tm, ki, ei⟩
  have hcall := rgetI_any s2 W1 (by omega)
  rw [hI] at hcall
  have HI : Hid (Nm.getI l2 = (tm, ki, ei)) := by show _ = _; rw [← hd2]; exact hI
  clear hI
  go_wp2_with fail
  refine hcall.mono ?_
  rintro e w2 ⟨rfl, b2⟩
  have HP := HA2.out.past b2
  have hmj := seven_at HP.str
  have hfj := seven_fz HP.str
  obtain ⟨c_0, c_1, c_2, c_3, c_4, c_5, c_6⟩ := hmj
  obtain ⟨z_0, z_1, z_2, z_3, z_4, z_5, z_6⟩ := hfj
  obtain ⟨WN, hWN⟩ : ∃ WN, WN = w2.setCell ⟨b + 1, 3, none⟩ (.int .i64 tm) := ⟨_, rfl⟩
  have HA : Hid (R2 w WN b (.string ⟨t.toArray⟩) (.int .i64 (c0 : Int)) (.int .i64 (md : Int)) (.int .i64 tm) (.int .i64 0) (.slice none 0 0) (.string ⟨#[]⟩)) := by rw [hWN]; exact HP.setAt 3 _ rfl
  clear HP hcall b2 HA2
  go_upto_region 13 with fail
  rw [← hWN]
  clear hWN c_0 c_1 c_2 c_3 c_4 c_5 c_6 z_0 z_1 z_2 z_3 z_4 z_5 z_6 w2
  by_cases he : ei ≠ 0
  · have hqn : (ei != 0) = true := by rw [bne_iff_ne]; exact he
    have HE : Hid (R.2.2 = ei) := by show _ = _; rw [HR2.out]; exact Td.rdI_err HI.out he
    obtain ⟨m0, m1, m2, m3, m4, m5, m6⟩ := seven_at HA.out.str
    obtain ⟨r0, r1, r2, r3, r4, r5, r6⟩ := seven_at HA.out.res
    obtain ⟨f0, f1, f2, f3, f4, f5, f6⟩ := seven_fz HA.out.res
    go_wp2_with fail
    refine bodyPost_ret (v := .tuple #[.agg #[.string ⟨t.toArray⟩, .int .i64 (c0 : Int), .int .i64 (md : Int), .int .i64 tm, .int .i64 0, .slice none 0 0, .string ⟨#[]⟩], .string ⟨#[]⟩, .int .i64 ei]) ?_ rfl ⟨below7 HA.out.bel HA.out.at_ _ _ _ _ _ _ _, .inl ⟨by rw [HE.out]; exact he, ⟨⟨t.toArray⟩, (c0 : Int), (md : Int), tm, 0, [], ⟨#[]⟩⟩, none, 0, 0, by rw [HE.out]⟩⟩
    simp [results, asAddr, go_sem, r0, r1, r2, r3, r4, r5, r6]
  obtain rfl := Decidable.not_not.mp he
  clear he
  have HR3 : Hid (R = Td.rdZ t c0 md tm (l2.drop ki)) := by show _ = _; rw [HR2.out]; exact Td.rdI_ok HI.out
  obtain ⟨hki, htm0, htm1, _⟩ := Nm.getI_one HI.out
  rw [← hd2, ← Lib.size_eq] at hki
  have hki' : (ki : Int) ≤ (s2.size : Int) := by omega
  obtain ⟨q3, hq3⟩ : ∃ q3, s2.extract ki s2.size = q3 := ⟨_, rfl⟩
  have hq3z : q3.size ≤ 4194304 := by rw [← hq3, ByteArray.size_extract]; omega
  have hd3 : q3.data.toList = l2.drop ki := by rw [← hq3, Nn.ext_drop', hd2]
  have HA2 := HA
  clear HI HR2 HA
  generalize WN = W1 at *
  rcases hZ : Td.num 4096 q3.data.toList with ⟨sz, l3, ez⟩
  have hcall := numAt_any q3 4096 W1 hq3z (by omega)
  rw [hZ] at hcall
  have hsz : sz ≤ 4096 := Td.num_most hZ
  have hl3 : l3.length ≤ 4194304 := by have := Td.num_len 4096 q3.data.toList; rw [hZ, ← Lib.size_eq] at this; simp only at this; omega
  have HZ : Hid (Td.num 4096 (l2.drop ki) = (sz, l3, ez)) := by show _ = _; rw [← hd3]; exact hZ
  clear hZ
  go_wp2_with fail
  refine hcall.mono ?_
  rintro e w2 ⟨rfl, b2⟩
  have HP := HA2.out.past b2
  have hmj := seven_at HP.str
  have hfj := seven_fz HP.str
  obtain ⟨c_0, c_1, c_2, c_3, c_4, c_5, c_6⟩ := hmj
  obtain ⟨z_0, z_1, z_2, z_3, z_4, z_5, z_6⟩ := hfj
  obtain ⟨WN, hWN⟩ : ∃ WN, WN = w2.setCell ⟨b + 1, 4, none⟩ (.int .i64 (sz : Int)) := ⟨_, rfl⟩
  have HA : Hid (R2 w WN b (.string ⟨t.toArray⟩) (.int .i64 (c0 : Int)) (.int .i64 (md : Int)) (.int .i64 tm) (.int .i64 (sz : Int)) (.slice none 0 0) (.string ⟨#[]⟩)) := by rw [hWN]; exact HP.setAt 4 _ rfl
  clear HP hcall b2 HA2
  go_upto_region 16 with fail
  rw [← hWN]
  clear hWN c_0 c_1 c_2 c_3 c_4 c_5 c_6 z_0 z_1 z_2 z_3 z_4 z_5 z_6 w2
  by_cases he : ez ≠ 0
  · have hqn : (ez != 0) = true := by rw [bne_iff_ne]; exact he
    have HE : Hid (R.2.2 = ez) := by show _ = _; rw [HR3.out]; exact Td.rdZ_err HZ.out he
    obtain ⟨m0, m1, m2, m3, m4, m5, m6⟩ := seven_at HA.out.str
    obtain ⟨r0, r1, r2, r3, r4, r5, r6⟩ := seven_at HA.out.res
    obtain ⟨f0, f1, f2, f3, f4, f5, f6⟩ := seven_fz HA.out.res
    go_wp2_with fail
    refine bodyPost_ret (v := .tuple #[.agg #[.string ⟨t.toArray⟩, .int .i64 (c0 : Int), .int .i64 (md : Int), .int .i64 tm, .int .i64 (sz : Int), .slice none 0 0, .string ⟨#[]⟩], .string ⟨#[]⟩, .int .i64 ez]) ?_ rfl ⟨below7 HA.out.bel HA.out.at_ _ _ _ _ _ _ _, .inl ⟨by rw [HE.out]; exact he, ⟨⟨t.toArray⟩, (c0 : Int), (md : Int), tm, (sz : Int), [], ⟨#[]⟩⟩, none, 0, 0, by rw [HE.out]⟩⟩
    simp [results, asAddr, go_sem, r0, r1, r2, r3, r4, r5, r6]
  obtain rfl := Decidable.not_not.mp he
  clear he
  have HR4 : Hid (R = Td.rdP t c0 md tm sz l3) := by show _ = _; rw [HR3.out]; exact Td.rdZ_ok HZ.out
  obtain ⟨s3, hs3⟩ : ∃ s3 : ByteArray, s3 = ⟨l3.toArray⟩ := ⟨_, rfl⟩
  have hd3' : s3.data.toList = l3 := by rw [hs3]
  have hs3z : s3.size ≤ 4194304 := by rw [Lib.size_eq, hd3']; exact hl3
  rw [← hs3]
  clear HZ HR3 hq3 hq3z hs3 hd3
  generalize WN = W1 at *
  rcases hP : Td.num 300 s3.data.toList with ⟨np, l4, ep⟩
  have hcall := numAt_any s3 300 W1 hs3z (by omega)
  rw [hP] at hcall
  have hnp : np ≤ 300 := Td.num_most hP
  have hl4 : l4.length ≤ 4194304 := by have := Td.num_len 300 s3.data.toList; rw [hP, ← Lib.size_eq] at this; simp only at this; omega
  have HP : Hid (Td.num 300 l3 = (np, l4, ep)) := by show _ = _; rw [← hd3']; exact hP
  clear hP
  go_wp2_with fail
  refine hcall.mono ?_
  rintro e w2 ⟨rfl, b2⟩
  have HA2 := HA
  have HA : Hid (R2 w w2 b (.string ⟨t.toArray⟩) (.int .i64 (c0 : Int)) (.int .i64 (md : Int)) (.int .i64 tm) (.int .i64 (sz : Int)) (.slice none 0 0) (.string ⟨#[]⟩)) := HA2.out.past b2
  clear HA2 hcall b2
  by_cases he : ep ≠ 0
  · have hqn : (ep != 0) = true := by rw [bne_iff_ne]; exact he
    have HE : Hid (R.2.2 = ep) := by show _ = _; rw [HR4.out]; exact Td.rdP_err HP.out he
    obtain ⟨m0, m1, m2, m3, m4, m5, m6⟩ := seven_at HA.out.str
    obtain ⟨r0, r1, r2, r3, r4, r5, r6⟩ := seven_at HA.out.res
    obtain ⟨f0, f1, f2, f3, f4, f5, f6⟩ := seven_fz HA.out.res
    go_wp2_with fail
    refine bodyPost_ret (v := .tuple #[.agg #[.string ⟨t.toArray⟩, .int .i64 (c0 : Int), .int .i64 (md : Int), .int .i64 tm, .int .i64 (sz : Int), .slice none 0 0, .string ⟨#[]⟩], .string ⟨#[]⟩, .int .i64 ep]) ?_ rfl ⟨below7 HA.out.bel HA.out.at_ _ _ _ _ _ _ _, .inl ⟨by rw [HE.out]; exact he, ⟨⟨t.toArray⟩, (c0 : Int), (md : Int), tm, (sz : Int), [], ⟨#[]⟩⟩, none, 0, 0, by rw [HE.out]⟩⟩
    simp [results, asAddr, go_sem, r0, r1, r2, r3, r4, r5, r6]
  obtain rfl := Decidable.not_not.mp he
  clear he
  have HR5 : Hid (R = Td.rdK t c0 md tm sz np l4) := by show _ = _; rw [HR4.out]; exact Td.rdP_ok HP.out
  obtain ⟨s4, hs4⟩ : ∃ s4 : ByteArray, s4 = ⟨l4.toArray⟩ := ⟨_, rfl⟩
  have hd4 : s4.data.toList = l4 := by rw [hs4]
  have hs4z : s4.size = l4.length := by rw [Lib.size_eq, hd4]
  rw [← hs4]
  clear HP HR4
  have hw8 : wrap64 (8 * (np : Int)) = 8 * (np : Int) := by unfold wrap64; omega
  by_cases h8 : l4.length < 8 * np
  · have g8 : (s4.size : Int) < 8 * (np : Int) := by omega
    have HE : Hid (R.2.2 = 3) := by show _ = _; rw [HR5.out]; exact Td.rdK_short h8
    obtain ⟨m0, m1, m2, m3, m4, m5, m6⟩ := seven_at HA.out.str
    obtain ⟨r0, r1, r2, r3, r4, r5, r6⟩ := seven_at HA.out.res
    obtain ⟨f0, f1, f2, f3, f4, f5, f6⟩ := seven_fz HA.out.res
    go_wp2_with fail
    refine bodyPost_ret (v := .tuple #[.agg #[.string ⟨t.toArray⟩, .int .i64 (c0 : Int), .int .i64 (md : Int), .int .i64 tm, .int .i64 (sz : Int), .slice none 0 0, .string ⟨#[]⟩], .string ⟨#[]⟩, .int .i64 3]) ?_ rfl ⟨below7 HA.out.bel HA.out.at_ _ _ _ _ _ _ _, .inl ⟨by rw [HE.out]; exact by decide, ⟨⟨t.toArray⟩, (c0 : Int), (md : Int), tm, (sz : Int), [], ⟨#[]⟩⟩, none, 0, 0, by rw [HE.out]⟩⟩
    simp [results, asAddr, go_sem, r0, r1, r2, r3, r4, r5, r6]
  have g8 : ¬ (s4.size : Int) < 8 * (np : Int) := by omega
  go_wp2_with fail
  clear hs4z hd4
  go_loopw [0, 85] (fun x i wr => ∃ (j : Nat) (av : Option Addr) (cv : Nat), j ≤ np ∧ i = .int .i64 j ∧ x = .string ⟨(l4.drop (8 * j)).toArray⟩ ∧ Hid (R2 w wr b (.string ⟨t.toArray⟩) (.int .i64 (c0 : Int)) (.int .i64 (md : Int)) (.int .i64 tm) (.int .i64 (sz : Int)) (.slice av j cv) (.string ⟨#[]⟩)) ∧ Hid (wr.ownsRow (b + 2) 24 8 (.slice av j cv) j (rowR idC (Td.eights j l4)))) (fun _ i _ => np - (intOf i).toNat)
  case atStart => exact ⟨0, none, 0, by omega, rfl, rfl, HA, World.ownsRow_nil _ _ _ _⟩
  case round =>
    clear HA
    obtain ⟨j, av, cv, hj, rfl, rfl, HA, HO⟩ := hrel
    by_cases hjl : j < np
    · have hlen : 8 ≤ (l4.drop (8 * j)).length := by rw [List.length_drop]; omega
      obtain ⟨b0, b1, b2, b3, b4, b5, b6, b7, ht8⟩ := eight_of8 (t := (l4.drop (8 * j)).take 8) (by rw [List.length_take]; omega)
      have HEi : Hid (Td.eights (j + 1) l4 = Td.eights j l4 ++ [[b0, b1, b2, b3, b4, b5, b6, b7]]) := by show _ = _; rw [Td.eights_more, ht8]
      obtain ⟨sj, hsj⟩ : ∃ sj : ByteArray, sj = ⟨(l4.drop (8 * j)).toArray⟩ := ⟨_, rfl⟩
      have hdj : sj.data.toList = l4.drop (8 * j) := by rw [hsj]
      have hx8 : sj.extract 0 8 = ⟨#[b0, b1, b2, b3, b4, b5, b6, b7]⟩ := by
        apply ByteArray.ext
        apply Array.toList_inj.1
        rw [Lib.extract_from_zero, hdj, ht8]
      have hxn : sj.extract 8 sj.size = ⟨(l4.drop (8 * (j + 1))).toArray⟩ := by
        apply ByteArray.ext
        apply Array.toList_inj.1
        rw [Nn.ext_drop', hdj, List.drop_drop]
        exact congrArg (fun q => List.drop q l4) (by omega)
      have hsz8 : (8 : Int) ≤ (sj.size : Int) := by rw [Lib.size_eq, hdj]; omega
      obtain ⟨sn, hsn⟩ : ∃ sn : ByteArray, sn = ⟨(l4.drop (8 * (j + 1))).toArray⟩ := ⟨_, rfl⟩
      rw [← hsn] at hxn
      rw [← hsj]
      have HSn : Hid (sn = ⟨(l4.drop (8 * (j + 1))).toArray⟩) := hsn
      clear hsj hsn
      obtain ⟨WB, cb, hcv, hcells, hB⟩ := conv_by wr.drew ⟨#[b0, b1, b2, b3, b4, b5, b6, b7]⟩
      have HAB : Hid (R2 w WB b (.string ⟨t.toArray⟩) (.int .i64 (c0 : Int)) (.int .i64 (md : Int)) (.int .i64 tm) (.int .i64 (sz : Int)) (.slice av j cv) (.string ⟨#[]⟩)) := HA.out.drew.past hB
      have HOB : Hid (WB.ownsRow (b + 2) 24 8 (.slice av j cv) j (rowR idC (Td.eights j l4))) := own_kept HO.out.drew (Kept.of_below (p := fun _ => True) hB) fun _ _ => trivial
      have c5 := (seven_at HA.out.str).2.2.2.2.2.1
      have c5' := (seven_at HAB.out.str).2.2.2.2.2.1
      have hl1 : b + 1 < WB.heap.size := (Array.getElem?_eq_some_iff.1 HAB.out.str).1
      have hzr : wr.drew.heap.size = wr.heap.size := rfl
      rw [hzr] at hcv hcells
      have hzB : wr.heap.size < WB.heap.size := by
        have := hcells 0 (by simp [ByteArray.size])
        exact World.block_lt_of_cell? WB _ this
      have k0 : WB.cell? ⟨wr.heap.size, 0, none⟩ = some (.int .u8 (b0.toNat : Int)) := hcells 0 (by simp [ByteArray.size])
      have k1 : WB.cell? ⟨wr.heap.size, 1, none⟩ = some (.int .u8 (b1.toNat : Int)) := hcells 1 (by simp [ByteArray.size])
      have k2 : WB.cell? ⟨wr.heap.size, 2, none⟩ = some (.int .u8 (b2.toNat : Int)) := hcells 2 (by simp [ByteArray.size])
      have k3 : WB.cell? ⟨wr.heap.size, 3, none⟩ = some (.int .u8 (b3.toNat : Int)) := hcells 3 (by simp [ByteArray.size])
      have k4 : WB.cell? ⟨wr.heap.size, 4, none⟩ = some (.int .u8 (b4.toNat : Int)) := hcells 4 (by simp [ByteArray.size])
      have k5 : WB.cell? ⟨wr.heap.size, 5, none⟩ = some (.int .u8 (b5.toNat : Int)) := hcells 5 (by simp [ByteArray.size])
      have k6 : WB.cell? ⟨wr.heap.size, 6, none⟩ = some (.int .u8 (b6.toNat : Int)) := hcells 6 (by simp [ByteArray.size])
      have k7 : WB.cell? ⟨wr.heap.size, 7, none⟩ = some (.int .u8 (b7.toNat : Int)) := hcells 7 (by simp [ByteArray.size])
      have hcv8 : (convert 9 64 (.string ⟨#[b0, b1, b2, b3, b4, b5, b6, b7]⟩)).run Tryd.prog wr.drew = .ok (.slice (some ⟨wr.heap.size, 0, none⟩) 8 cb) WB := hcv
      have hAt : (Instr.arrayAt 24 (.slice (some ⟨wr.heap.size, 0, none⟩) 8 cb)).run Tryd.prog WB = .ok (.pointer (some ⟨wr.heap.size, 0, none⟩)) WB := run_arrayAt WB 24 5 8 _ 8 cb (by kernel_rfl) (by omega)
      have hrow : ∀ o, (WB.alloc o).ownsRow (b + 2) 24 8 (.slice av j cv) j (rowR idC (Td.eights j l4)) := fun o => HOB.out.alloc o
      have HQ : Hid (∀ o w2, (WB.alloc o).grownBy w2 (Value.slice av j cv).ownBlock → w2.cell? ⟨b + 1, 5, none⟩ = some (.slice av j cv) ∧ w2.frozen? ⟨b + 1, 5, none⟩ = false) := fun o w2 hg => by
        have hs2 := R2.grown (HAB.out.past ((Below.refl _ WB).alloc (Nat.le_refl _) o)) hg fun g hgb => by
          obtain ⟨_, _, q, _⟩ := own_block (hrow o) hgb
          exact q
        exact ⟨(seven_at hs2.str).2.2.2.2.2.1, (seven_fz hs2.str).2.2.2.2.2.1⟩
      have hbW : b + 2 ≤ WB.heap.size := by omega
      obtain ⟨i0, hi, hz0, hz1, hz2⟩ := info_of' info_id
      clear hcells hcv hB hzr ht8 hdj hlen hs4 g8 hw8
      go_wp2_with fail
      go_region_law ((refine step_append_lies _ (by rfl) (.tmp 88) (.tmp 94) 35 (by rfl) (b + 2) 24 i0 (.agg #[.int .u8 0, .int .u8 0, .int .u8 0, .int .u8 0, .int .u8 0, .int .u8 0, .int .u8 0, .int .u8 0]) 8 8 Tryd.underlying35 hi hz0 hz1 hz2 rfl (by decide) (.slice av j cv) j (rowR idC (Td.eights j l4)) (by rfl) (hrow _) ⟨WB.heap.size, 0, none⟩ 1 1 [.int .u8 (b0.toNat : Int), .int .u8 (b1.toNat : Int), .int .u8 (b2.toNat : Int), .int .u8 (b3.toNat : Int), .int .u8 (b4.toNat : Int), .int .u8 (b5.toNat : Int), .int .u8 (b6.toNat : Int), .int .u8 (b7.toNat : Int)] (by rfl) (by rfl) (eight_new WB _ _ _ _ _ _ _ _) (by simp [Value.oneCell']) (by decide) (by unfold maxLen; omega) (by omega) (by simp; omega) (WB.heap.size + 1) (by simp) ?_; intro g cap w3 hown3 hgrow hat hlt3; obtain ⟨u1, u2⟩ := HQ.out _ _ hgrow))
      all_goals have HN : Hid (R2 w (w3.setCell ⟨b + 1, 5, none⟩ (.slice (some ⟨g, 0, none⟩) (j + 1) cap)) b (.string ⟨t.toArray⟩) (.int .i64 (c0 : Int)) (.int .i64 (md : Int)) (.int .i64 tm) (.int .i64 (sz : Int)) (.slice (some ⟨g, 0, none⟩) (j + 1) cap) (.string ⟨#[]⟩)) := (R2.grown (HAB.out.past ((Below.refl _ WB).alloc (Nat.le_refl _) _)) hgrow (fun g hgb => own_ge HOB.out hgb)).setAt 5 _ rfl
      all_goals have HON : Hid ((w3.setCell ⟨b + 1, 5, none⟩ (.slice (some ⟨g, 0, none⟩) (j + 1) cap)).ownsRow (b + 2) 24 8 (.slice (some ⟨g, 0, none⟩) (j + 1) cap) (j + 1) (rowR idC (Td.eights (j + 1) l4))) := own_more8 (x := [b0, b1, b2, b3, b4, b5, b6, b7]) hown3 HEi.out _
      all_goals clear hown3 hgrow hat hlt3 u1 u2 HQ hrow HAB HOB HEi hAt hcv8 k0 k1 k2 k3 k4 k5 k6 k7 c5 c5' hl1 hzB hbW HA HO
      all_goals go_wp2_with fail
      all_goals exact ⟨⟨j + 1, _, _, by omega, by go_num, by rw [HSn.out], HN, HON⟩, by simp only [intOf]; omega⟩
    · obtain rfl : j = np := by omega
      rcases hK : Nm.getT (l4.drop (8 * j)) with ⟨lk, kk, ek⟩
      obtain ⟨s5, hs5⟩ : ∃ s5 : ByteArray, s5 = ⟨(l4.drop (8 * j)).toArray⟩ := ⟨_, rfl⟩
      have hd5 : s5.data.toList = l4.drop (8 * j) := by rw [hs5]
      have hs5z : s5.size ≤ 4194304 := by rw [Lib.size_eq, hd5, List.length_drop]; omega
      have hcall := rgetT_any s5 wr (by omega)
      rw [hd5, hK] at hcall
      have HK : Hid (Nm.getT (l4.drop (8 * j)) = (lk, kk, ek)) := hK
      have HD5 : Hid (s5.data.toList = l4.drop (8 * j)) := hd5
      obtain ⟨c_0, c_1, c_2, c_3, c_4, c_5, c_6⟩ := seven_at HA.out.str
      obtain ⟨z_0, z_1, z_2, z_3, z_4, z_5, z_6⟩ := seven_fz HA.out.str
      obtain ⟨WN, hWN⟩ : ∃ WN, WN = wr.setCell ⟨b + 1, 6, none⟩ (.string ⟨lk.toArray⟩) := ⟨_, rfl⟩
      have HAo : Hid (R2 w WN b (.string ⟨t.toArray⟩) (.int .i64 (c0 : Int)) (.int .i64 (md : Int)) (.int .i64 tm) (.int .i64 (sz : Int)) (.slice av j cv) (.string ⟨lk.toArray⟩)) := by rw [hWN]; exact HA.out.setAt 6 _ rfl
      have HON : Hid (WN.ownsRow (b + 2) 24 8 (.slice av j cv) j (rowR idC (Td.eights j l4))) := by
        rw [hWN]
        exact own_kept HO.out ((Kept.refl (fun k => k ≠ b + 1) wr).setCell (by simp) _) fun g hg => by have := own_ge HO.out hg; omega
      rw [← hs5]
      clear hK hs5 hd5 HA HO hs4 g8 hw8
      go_wp2_with fail
      refine hcall.mono ?_
      rintro e u ⟨rfl, hu⟩
      obtain rfl := hu.symm
      clear hcall hu
      go_upto_region 29 with fail
      rw [← hWN]
      clear hWN c_0 c_1 c_2 c_3 c_4 c_5 c_6 z_0 z_1 z_2 z_3 z_4 z_5 z_6
      have HA := HAo
      clear HAo
      by_cases he : ek ≠ 0
      · have hqn : (ek != 0) = true := by rw [bne_iff_ne]; exact he
        have HE : Hid (R.2.2 = ek) := by show _ = _; rw [HR5.out]; exact Td.rdK_err h8 HK.out he
        obtain ⟨m0, m1, m2, m3, m4, m5, m6⟩ := seven_at HA.out.str
        obtain ⟨r0, r1, r2, r3, r4, r5, r6⟩ := seven_at HA.out.res
        obtain ⟨f0, f1, f2, f3, f4, f5, f6⟩ := seven_fz HA.out.res
        go_wp2_with fail
        refine bodyPost_ret (v := .tuple #[.agg #[.string ⟨t.toArray⟩, .int .i64 (c0 : Int), .int .i64 (md : Int), .int .i64 tm, .int .i64 (sz : Int), .slice av j cv, .string ⟨lk.toArray⟩], .string ⟨#[]⟩, .int .i64 ek]) ?_ rfl ⟨below7 HA.out.bel HA.out.at_ _ _ _ _ _ _ _, .inl ⟨by rw [HE.out]; exact he, ⟨⟨t.toArray⟩, (c0 : Int), (md : Int), tm, (sz : Int), [], ⟨lk.toArray⟩⟩, av, j, cv, by rw [HE.out]⟩⟩
        simp [results, asAddr, go_sem, r0, r1, r2, r3, r4, r5, r6]
      obtain rfl := Decidable.not_not.mp he
      clear he
      have HR6 : Hid (R = (⟨t, (c0 : Nat), (md : Nat), tm, (sz : Nat), Td.eights j l4, lk⟩, (l4.drop (8 * j)).drop kk, 0)) := by show _ = _; rw [HR5.out]; exact Td.rdK_ok h8 HK.out
      obtain ⟨hkk, hlk, _⟩ := Nm.getT_one HK.out
      rw [← HD5.out, ← Lib.size_eq] at hkk
      have hkk' : (kk : Int) ≤ (s5.size : Int) := by omega
      obtain ⟨sr, hsr⟩ : ∃ sr, s5.extract kk s5.size = sr := ⟨_, rfl⟩
      have HSr : Hid (sr = ⟨((l4.drop (8 * j)).drop kk).toArray⟩) := by show _ = _; rw [← hsr, ext_str, HD5.out]
      have HFl := Td.flat_eights (k := j) (s := l4) (by omega)
      have HIds : Hid ((Td.eights j l4).length = j ∧ ∀ p ∈ Td.eights j l4, p.length = 8) := HFl.2
      obtain ⟨m0, m1, m2, m3, m4, m5, m6⟩ := seven_at HA.out.str
      obtain ⟨r0, r1, r2, r3, r4, r5, r6⟩ := seven_at HA.out.res
      obtain ⟨f0, f1, f2, f3, f4, f5, f6⟩ := seven_fz HA.out.res
      clear HFl HR5 HK HD5
      go_wp2_with fail
      go_region
      go_wp2_with fail
      have HOF : Hid ((((((((WN.setCell ⟨b, 0, none⟩ (.string ⟨t.toArray⟩)).setCell ⟨b, 1, none⟩ (.int .i64 (c0 : Int))).setCell ⟨b, 2, none⟩ (.int .i64 (md : Int))).setCell ⟨b, 3, none⟩ (.int .i64 tm)).setCell ⟨b, 4, none⟩ (.int .i64 (sz : Int))).setCell ⟨b, 5, none⟩ (.slice av j cv)).setCell ⟨b, 6, none⟩ (.string ⟨lk.toArray⟩)).drew.ownsRow (b + 2) 24 8 (.slice av j cv) j (rowR idC (Td.eights j l4))) := (own_kept HON.out (kept7 WN b _ _ _ _ _ _ _) fun g hg => by have := own_ge HON.out hg; omega).drew
      refine bodyPost_ret (v := .tuple #[.agg #[.string ⟨t.toArray⟩, .int .i64 (c0 : Int), .int .i64 (md : Int), .int .i64 tm, .int .i64 (sz : Int), .slice av j cv, .string ⟨lk.toArray⟩], .string sr, .int .i64 0]) ?_ rfl ⟨(below7 HA.out.bel HA.out.at_ _ _ _ _ _ _ _).drew, .inr ⟨⟨⟨t.toArray⟩, (c0 : Int), (md : Int), tm, (sz : Int), Td.eights j l4, ⟨lk.toArray⟩⟩, .slice av j cv, ?_, ?_, ?_, ?_, ?_⟩⟩
      · simp [results, asAddr, go_sem, r0, r1, r2, r3, r4, r5, r6]
      · rw [HR6.out]; rfl
      · rw [HR6.out, HSr.out]
      · exact rx_own HOF.out HIds.out.1 HIds.out.2
      · exact own_type HOF.out
      · refine ⟨?_, show t.length ≤ 1024 from htl⟩
        exact ⟨wf_i (n := (c0 : Int)) (by omega) (by omega), wf_i (n := (md : Int)) (by omega) (by omega), wf_i htm0 htm1, wf_i (n := (sz : Int)) (by omega) (by omega), by show t.length ≤ _; omega, by show lk.length ≤ _; omega, HIds.out.2⟩

end Go.Proofs.YtimdioacmojkeaaDoor

namespace Go.Proofs.YtimdioacmojkeaaDoor
open Go.RowKit
set_option maxRecDepth 4000

/-- a node whose IDs lie in a block of IDs -/
def NdG (w : World) (n : Nod) (c : List Value) : Prop := ∃ v, c = ndC n v ∧ Rx 8 idC w v n.parts ∧ (∀ a m c, v = .slice (some a) m c → ∃ cur fr, w.heap[a.block]? = some (.cells cur 24 fr)) ∧ n.Ok

theorem NdG.kt {w W : World} {n : Nod} {c : List Value} (hk : Kt 54 w W) (h : NdG w n c) : NdG W n c := by
  obtain ⟨v, e, hr, ht, ho⟩ := h
  refine ⟨v, e, ⟨?_, hr.room⟩, fun a m c hv => ?_, ho⟩
  · rcases hr.at_ with h1 | ⟨bk, o, cap, h1, h2, h3⟩
    · exact .inl h1
    · obtain ⟨cur, fr, hb⟩ := ht _ _ _ h1
      have hb' := hk.cell hb (by decide)
      refine .inr ⟨bk, o, cap, h1, Nat.lt_of_lt_of_le h2 hk.size, fun j t hj r u hu => ?_⟩
      rw [← h3 j t hj r u hu]
      simp only [World.cell?] at hb hb' ⊢
      rw [hb, hb']
  · obtain ⟨cur, fr, hb⟩ := ht a m c hv
    exact ⟨cur, fr, hk.cell hb (by decide)⟩

theorem NdG.below {w W : World} {n : Nod} {c : List Value} (hb : Below w.heap.size w W) (h : NdG w n c) : NdG W n c := NdG.kt (Kt.of_below hb) h

theorem NdG.r {w : World} {n : Nod} {c : List Value} (h : NdG w n c) : NdR w n c := by
  obtain ⟨v, e, hr, _, ho⟩ := h
  exact ⟨v, e, hr, ho⟩

theorem Nds.of_oy {base : Nat} {w : World} {v : Value} {l : List Nod} (h : Oy 7 54 NdG base w v l) : Nds w v l := by
  rcases (Rw.of_ry h.ry).at_ with h1 | ⟨bk, o, cap, h1, h2, h3, h4⟩
  · exact ⟨.inl h1⟩
  · refine ⟨.inr ⟨bk, o, cap, h1, h2, h3, fun j t hj => ?_⟩⟩
    obtain ⟨c, c1, c2, c3⟩ := h4 j t hj
    exact ⟨c, c1, c2.r, c3⟩

theorem info_nd : (Tryd.prog.info? 54).map (fun i => (i.zero, i.size, i.bytes)) = some (some (.agg #[.string ⟨#[]⟩, .int .i64 0, .int .i64 0, .int .i64 0, .int .i64 0, .slice none 0 0, .string ⟨#[]⟩]), 7, 88) := by kernel_rfl

theorem below7' {w W : World} {B b : Nat} (h : Below B w W) (hM : B ≤ b) (x0 x1 x2 x3 x4 x5 x6 : Value) :
    Below B w (((((((W.setCell ⟨b, 0, none⟩ x0).setCell ⟨b, 1, none⟩ x1).setCell ⟨b, 2, none⟩ x2).setCell ⟨b, 3, none⟩ x3).setCell ⟨b, 4, none⟩ x4).setCell ⟨b, 5, none⟩ x5).setCell ⟨b, 6, none⟩ x6) :=
  ((((((h.setCell (p := ⟨b, 0, none⟩) hM x0).setCell (p := ⟨b, 1, none⟩) hM x1).setCell (p := ⟨b, 2, none⟩) hM x2).setCell (p := ⟨b, 3, none⟩) hM x3).setCell (p := ⟨b, 4, none⟩) hM x4).setCell (p := ⟨b, 5, none⟩) hM x5).setCell (p := ⟨b, 6, none⟩) hM x6

theorem set_seven {W : World} {b : Nat} {T : TypeId} {y0 y1 y2 y3 y4 y5 y6 : Value} (h : W.heap[b]? = some (.cells #[y0, y1, y2, y3, y4, y5, y6] T (0, 0))) (x0 x1 x2 x3 x4 x5 x6 : Value) :
    (((((((W.setCell ⟨b, 0, none⟩ x0).setCell ⟨b, 1, none⟩ x1).setCell ⟨b, 2, none⟩ x2).setCell ⟨b, 3, none⟩ x3).setCell ⟨b, 4, none⟩ x4).setCell ⟨b, 5, none⟩ x5).setCell ⟨b, 6, none⟩ x6).heap[b]? = some (.cells #[x0, x1, x2, x3, x4, x5, x6] T (0, 0)) := by
  simp [World.setCell, Array.getElem?_modify, h]

theorem kt_any {T : TypeId} {W : World} {b : Nat} (h : ∃ cur fr, W.heap[b]? = some (.cells cur T fr)) (j : Nat) (x : Value) : Kt T W (W.setCell ⟨b, j, none⟩ x) ∧ ∃ cur fr, (W.setCell ⟨b, j, none⟩ x).heap[b]? = some (.cells cur T fr) := by
  obtain ⟨cur, fr, h⟩ := h
  refine ⟨Kt.set h j x, ?_⟩
  simp [World.setCell, Array.getElem?_modify, h]

theorem kt_seven {W : World} {b : Nat} {T : TypeId} {cur : Array Value} {fr : Nat × Nat} (h : W.heap[b]? = some (.cells cur T fr)) (x0 x1 x2 x3 x4 x5 x6 : Value) :
    Kt T W (((((((W.setCell ⟨b, 0, none⟩ x0).setCell ⟨b, 1, none⟩ x1).setCell ⟨b, 2, none⟩ x2).setCell ⟨b, 3, none⟩ x3).setCell ⟨b, 4, none⟩ x4).setCell ⟨b, 5, none⟩ x5).setCell ⟨b, 6, none⟩ x6) := by
  obtain ⟨k0, h0⟩ := kt_any ⟨_, _, h⟩ 0 x0
  obtain ⟨k1, h1⟩ := kt_any h0 1 x1
  obtain ⟨k2, h2⟩ := kt_any h1 2 x2
  obtain ⟨k3, h3⟩ := kt_any h2 3 x3
  obtain ⟨k4, h4⟩ := kt_any h3 4 x4
  obtain ⟨k5, h5⟩ := kt_any h4 5 x5
  obtain ⟨k6, _⟩ := kt_any h5 6 x6
  exact (((((k0.trans k1).trans k2).trans k3).trans k4).trans k5).trans k6

theorem seven_new (W : World) (v0 v1 v2 v3 v4 v5 v6 : Value) {T : TypeId} : ∀ j u, [v0, v1, v2, v3, v4, v5, v6][j]? = some u → (W.alloc (.cells #[v0, v1, v2, v3, v4, v5, v6] T)).cell? ((⟨W.heap.size, 0, none⟩ : Addr).add j) = some u := by
  intro j u hj
  rw [show ((⟨W.heap.size, 0, none⟩ : Addr).add j) = ⟨W.heap.size, j, none⟩ from by unfold Addr.add; split <;> simp_all]
  match j, hj with
  | 0, hj => simp at hj; subst hj; simp
  | 1, hj => simp at hj; subst hj; simp
  | 2, hj => simp at hj; subst hj; simp
  | 3, hj => simp at hj; subst hj; simp
  | 4, hj => simp at hj; subst hj; simp
  | 5, hj => simp at hj; subst hj; simp
  | 6, hj => simp at hj; subst hj; simp

/-- what TreeRead answers -/
def TrOut (s : ByteArray) (w : World) (e : Ending) (w' : World) : Prop :=
  ∃ v l, e = .returned (.tuple #[v, .int .i64 (Td.read s.data.toList).2]) ∧ nds l = (Td.read s.data.toList).1 ∧ Nds w' v l ∧ l.length ≤ 64 ∧ (∀ n ∈ l, n.name.size ≤ 1024) ∧ Below w.heap.size w w'

theorem Td.rdAll_step {m : Nat} {s : Td.Bs} {out : List Td.Nd} {RES : List Td.Nd × Int} (h : Td.rdAll (m + 1) s out = RES) : ((Td.rdOne s).2.2 ≠ 0 → RES = ([], (Td.rdOne s).2.2)) ∧ ((Td.rdOne s).2.2 = 0 → Td.rdAll m (Td.rdOne s).2.1 (out ++ [(Td.rdOne s).1]) = RES) := by
  rw [Td.rdAll] at h
  refine ⟨fun he => ?_, fun he => ?_⟩
  · rw [if_pos he] at h; exact h.symm
  · rw [if_neg (fun k => k he)] at h; exact h

set_option maxHeartbeats 4000000 in
set_option maxRecDepth 10000 in
theorem rtree_any (s : ByteArray) (w : World) (hs : s.size ≤ 9223372036854775807) : Calls Tryd.prog 18 #[.string s] w (TrOut s w) := by
  unfold TrOut
  have HT : Hid (Td.read s.data.toList = if 4096 < s.data.toList.length then ([], 2) else if (Td.num 64 s.data.toList).2.2 ≠ 0 then ([], (Td.num 64 s.data.toList).2.2) else Td.rdAll (Td.num 64 s.data.toList).1 (Td.num 64 s.data.toList).2.1 []) := rfl
  generalize Td.read s.data.toList = RES at *
  by_cases h4 : 4096 < s.size
  · have HR : Hid (RES = ([], 2)) := by
      have := HT.out
      rwa [if_pos (by rw [← Lib.size_eq]; exact h4)] at this
    have g4 : (4096 : Int) < (s.size : Int) := by omega
    clear HT
    go_enter Tryd.func18, Tryd.ntmps18
    go_wp2_with fail
    go_ret2
    exact ⟨_, [], by rw [HR.out]; rfl, by rw [HR.out]; rfl, Rw.nil _ _, by simp, fun n hn => absurd hn List.not_mem_nil, Below.refl _ _⟩
  have g4 : ¬ (4096 : Int) < (s.size : Int) := by omega
  rw [if_neg (by rw [← Lib.size_eq]; exact h4)] at HT
  have hcall := numAt_any s 64 w (by omega) (by omega)
  have hlen := Td.num_len 64 s.data.toList
  rcases hM : Td.num 64 s.data.toList with ⟨many, l1, em⟩
  rw [hM] at hcall HT hlen
  have hmany : many ≤ 64 := Td.num_most hM
  simp only at hcall hlen
  rw [← Lib.size_eq] at hlen
  clear hM
  obtain ⟨i0, hi, hz0, hz1, hz2⟩ := info_of' info_nd
  go_enter Tryd.func18, Tryd.ntmps18
  go_wp2_with fail
  refine hcall.mono ?_
  rintro e w1 ⟨rfl, b1⟩
  have HB1 : Hid (Below w.heap.size w w1) := b1
  clear hcall b1
  by_cases he : em ≠ 0
  · have hqn : (em != 0) = true := by rw [bne_iff_ne]; exact he
    have HR : Hid (RES = ([], em)) := by
      have := HT.out
      rwa [if_pos he] at this
    clear HT
    go_wp2_with fail
    go_ret2
    exact ⟨_, [], by rw [HR.out]; rfl, by rw [HR.out]; rfl, Rw.nil _ _, by simp, fun n hn => absurd hn List.not_mem_nil, HB1.out⟩
  obtain rfl := Decidable.not_not.mp he
  clear he
  have HR0 : Hid (Td.rdAll (many - 0) l1 (nds []) = RES) := by
    have := HT.out
    rw [if_neg (by simp)] at this
    exact this.symm
  clear HT
  go_wp2_with fail
  go_loopw [0, 6, 22] (fun x v i wr => ∃ (k : Nat) (rest : List UInt8) (l : List Nod), k ≤ many ∧ i = .int .i64 k ∧ x = .string ⟨rest.toArray⟩ ∧ rest.length ≤ 4096 ∧ l.length = k ∧ Hid (Td.rdAll (many - k) rest (nds l) = RES) ∧ Hid (∀ n ∈ l, n.name.size ≤ 1024) ∧ Hid (Oy 7 54 NdG w.heap.size wr v l) ∧ Hid (Below w.heap.size w wr)) (fun _ _ i _ => many - (intOf i).toNat)
  case atStart => exact ⟨0, l1, [], by omega, rfl, rfl, by omega, rfl, HR0, (fun n hn => absurd hn List.not_mem_nil), Oy.nil, HB1⟩
  case round =>
    clear HR0 HB1
    obtain ⟨k, rest, l, hk, rfl, rfl, hrl, hlk, HR, HNm, HO, HB⟩ := hrel
    by_cases hlt : k < many
    · have hst := Td.rdAll_step (m := many - (k + 1)) (s := rest) (out := nds l) (RES := RES) (by rw [show many - (k + 1) + 1 = many - k from by omega]; exact HR.out)
      have HSt : Hid (((Td.rdOne rest).2.2 ≠ 0 → RES = ([], (Td.rdOne rest).2.2)) ∧ ((Td.rdOne rest).2.2 = 0 → Td.rdAll (many - (k + 1)) (Td.rdOne rest).2.1 (nds l ++ [(Td.rdOne rest).1]) = RES)) := hst
      obtain ⟨sr, hsr⟩ : ∃ sr : ByteArray, sr = ⟨rest.toArray⟩ := ⟨_, rfl⟩
      have hdr : sr.data.toList = rest := by rw [hsr]
      obtain ⟨W1, hW1⟩ : ∃ W1, W1 = wr.alloc (.cells #[.string ⟨#[]⟩, .int .i64 0, .int .i64 0, .int .i64 0, .int .i64 0, .slice none 0 0, .string ⟨#[]⟩] 54) := ⟨_, rfl⟩
      have hB1 : Below wr.heap.size wr W1 := by rw [hW1]; exact (Below.refl _ wr).alloc (Nat.le_refl _) _
      have HBB : Hid (Below wr.heap.size wr W1) := hB1
      have HM1 : Hid (W1.heap[wr.heap.size]? = some (.cells #[.string ⟨#[]⟩, .int .i64 0, .int .i64 0, .int .i64 0, .int .i64 0, .slice none 0 0, .string ⟨#[]⟩] 54 (0, 0))) := by rw [hW1]; exact heap_alloc_new wr _
      have hnr := nodeRead_any sr W1 (by rw [Lib.size_eq, hdr]; omega)
      unfold RdOut at hnr
      rw [hdr] at hnr
      have HLn : Hid (∀ {n : Nod}, Td.rdOne rest = (n.nd, (Td.rdOne rest).2.1, 0) → (Td.rdOne rest).2.1.length ≤ rest.length) := fun h => by
        have := congrArg List.length (Td.rdOne_one h).2
        rw [List.length_append] at this
        omega
      generalize Td.rdOne rest = ONE at *
      rw [← hsr]
      clear hst hB1 hsr hdr HR
      go_upto_region 10 with fail
      rw [← hW1]
      obtain ⟨b7, hb7⟩ : ∃ b7, b7 = wr.heap.size := ⟨_, rfl⟩
      have HB7 : Hid (b7 = wr.heap.size) := hb7
      rw [← hb7] at HM1 ⊢
      clear hW1 hb7
      go_wp2_with fail
      refine hnr.mono ?_
      rintro e w3 ⟨b3, ⟨hne, n, av, nv, cv, rfl⟩ | ⟨n, v, hone, rfl, hRx, hTy, hOk, hNs⟩⟩
      · have HB3 : Hid (Below w.heap.size w w3) := (HB.out.trans (HBB.out.mono HB.out.size)).trans (b3.mono (HB.out.trans (HBB.out.mono HB.out.size)).size)
        have HRE : Hid (RES = ([], ONE.2.2)) := HSt.out.1 hne
        have hqn : (ONE.2.2 != 0) = true := by rw [bne_iff_ne]; exact hne
        obtain ⟨m0, m1, m2, m3, m4, m5, m6⟩ := seven_at ((b3.block _ (Array.getElem?_eq_some_iff.1 HM1.out).1).trans HM1.out)
        obtain ⟨f0, f1, f2, f3, f4, f5, f6⟩ := seven_fz ((b3.block _ (Array.getElem?_eq_some_iff.1 HM1.out).1).trans HM1.out)
        obtain ⟨name, kind, mode, time, size, parts, link⟩ := n
        generalize ONE.2.2 = E at *
        clear hnr b3 HSt
        go_wp2_with fail
        go_ret2
        exact ⟨_, [], by rw [HRE.out]; rfl, by rw [HRE.out]; rfl, Rw.nil _ _, by simp, (fun n hn => absurd hn List.not_mem_nil), below7' HB3.out (by have := HB7.out; have := HB.out.size; omega) _ _ _ _ _ _ _⟩
      · obtain ⟨av, cv, rfl, _⟩ := hRx.slice
        have hb13 : Below wr.heap.size wr w3 := HBB.out.trans (b3.mono HBB.out.size)
        have HB3 : Hid (Below w.heap.size w w3) := HB.out.trans (hb13.mono HB.out.size)
        have hM3 := (b3.block _ (Array.getElem?_eq_some_iff.1 HM1.out).1).trans HM1.out
        obtain ⟨m0, m1, m2, m3, m4, m5, m6⟩ := seven_at hM3
        obtain ⟨f0, f1, f2, f3, f4, f5, f6⟩ := seven_fz hM3
        have HRE : Hid (Td.rdAll (many - (k + 1)) ONE.2.1 (nds (l ++ [n])) = RES) := by
          have := HSt.out.2 (by rw [hone])
          rw [show ONE.1 = n.nd from by rw [hone]] at this
          show _ = _
          rw [show nds (l ++ [n]) = nds l ++ [n.nd] from by simp [nds]]
          exact this
        have HNm2 : Hid (∀ x ∈ l ++ [n], x.name.size ≤ 1024) := fun x hx => by
          rcases List.mem_append.1 hx with q | q
          · exact HNm.out x q
          · rw [List.mem_singleton.1 q]; exact hNs
        have hrl2 : ONE.2.1.length ≤ 4096 := by
          have := HLn.out hone
          omega
        obtain ⟨cc, o1, o2, o3, o4⟩ := HO.out
        have HG3 : NdG w3 n (ndC n (.slice av n.parts.length cv)) := ⟨_, rfl, hRx, hTy, hOk⟩
        have HLe : Hid (l.length = k ∧ (l ++ [n]).length = k + 1) := ⟨hlk, by rw [List.length_append, hlk]; rfl⟩
        obtain ⟨np, hnp⟩ : ∃ np, np = n.parts.length := ⟨_, rfl⟩
        rw [← hnp] at HG3 ⊢
        obtain ⟨W4, hW4⟩ : ∃ W4, W4 = (((((((w3.setCell ⟨b7, 0, none⟩ (.string n.name)).setCell ⟨b7, 1, none⟩ (.int .i64 n.kind)).setCell ⟨b7, 2, none⟩ (.int .i64 n.mode)).setCell ⟨b7, 3, none⟩ (.int .i64 n.time)).setCell ⟨b7, 4, none⟩ (.int .i64 n.size)).setCell ⟨b7, 5, none⟩ (.slice av np cv)).setCell ⟨b7, 6, none⟩ (.string n.link)) := ⟨_, rfl⟩
        have HM4 : Hid (W4.heap[b7]? = some (.cells (ndC n (.slice av np cv)).toArray 54 (0, 0))) := by rw [hW4]; exact set_seven hM3 _ _ _ _ _ _ _
        have hKt : Kt 54 w3 W4 := by rw [hW4]; exact kt_seven hM3 _ _ _ _ _ _ _
        have HB4 : Hid (Below w.heap.size w W4) := by rw [hW4]; exact below7' HB3.out (by have := HB7.out; have := HB.out.size; omega) _ _ _ _ _ _ _
        have o1' : W4.ownsRow w.heap.size 54 7 u6 l.length cc.flatten := by
          rw [hW4]
          exact own_kept (own_kept o1 (Kept.of_below (p := fun _ => True) hb13) fun _ _ => trivial) (kept7 w3 b7 _ _ _ _ _ _ _) fun g hg => by
            obtain ⟨_, _, _, q⟩ := own_block o1 hg
            have := HB7.out
            omega
        have HO2 : Hid ((∀ c ∈ cc, c.length = 7) ∧ cc.length = l.length ∧ ∀ (j : Nat) t c, l[j]? = some t → cc[j]? = some c → NdG W4 t c) := ⟨o2, o3, fun j t c a b => NdG.kt hKt (NdG.below hb13 (o4 j t c a b))⟩
        have HG : Hid (NdG W4 n (ndC n (.slice av np cv))) := NdG.kt hKt HG3
        have hl4 : l.length ≤ 64 := by omega
        have hsw := HB4.out.size
        clear hnr b3 HSt HM1 HBB hb13 hM3 HB3 HO o1 o2 o3 o4 HG3 hKt hRx hTy hOk hNs HNm hnp HB7
        obtain ⟨name, kind, mode, time, size, parts, link⟩ := n
        dsimp only at *
        generalize hor : ONE.2.1 = rest2 at *
        clear hone hor
        go_upto_region 11 with fail
        rw [← hW4]
        clear hW4 m0 m1 m2 m3 m4 m5 m6 f0 f1 f2 f3 f4 f5 f6
        obtain ⟨m0, m1, m2, m3, m4, m5, m6⟩ := seven_at HM4.out
        go_wp2_with (at_builtin; refine wpList_append_own _ rfl (.tmp 33) (.tmp 35) 50 rfl w.heap.size 54 i0 (.agg #[.string ⟨#[]⟩, .int .i64 0, .int .i64 0, .int .i64 0, .int .i64 0, .slice none 0 0, .string ⟨#[]⟩]) 7 88 Tryd.underlying50 hi hz0 hz1 hz2 rfl (by decide) _ _ _ rfl (o1'.alloc _) ⟨W4.heap.size, 0, none⟩ 1 1 [.string name, .int .i64 kind, .int .i64 mode, .int .i64 time, .int .i64 size, .slice av np cv, .string link] rfl rfl (seven_new W4 _ _ _ _ _ _ _) ?c2 ?c3 ?c4 ?c5 ?_)
        case c2 => simp [Value.oneCell']
        case c3 => unfold maxLen; omega
        case c4 => omega
        case c5 => first | omega | (simp; omega)
        intro v6 w5 hown5 hgrow _
        rw [← HLe.out.1] at hown5
        have hk5 : Kt 54 W4 w5 := ((Kt.refl _ W4).alloc _).trans (Kt.of_grown hgrow fun g hg => by
          obtain ⟨cur, q, _⟩ := own_block (o1'.alloc _) hg
          exact ⟨cur, _, q⟩)
        have HB5 : Hid (Below w.heap.size w w5) := (HB4.out.alloc hsw _).grown hgrow (by simp; omega) fun g hg => own_ge o1' hg
        have HOn : Hid (Oy 7 54 NdG w.heap.size w5 v6 (l ++ [⟨name, kind, mode, time, size, parts, link⟩])) := Oy.more HO2.out.1 HO2.out.2.1 (fun j t c a b => NdG.kt hk5 (HO2.out.2.2 j t c a b)) hown5 rfl (NdG.kt hk5 HG.out)
        clear hown5 hgrow hk5 o1' HO2 HG HB4 HM4 m0 m1 m2 m3 m4 m5 m6
        go_wp2_with fail
        go_roundw
        case measure => simp only [intOf]; omega
        case rel => exact ⟨k + 1, rest2, _, by omega, by go_num, rfl, hrl2, HLe.out.2, HRE, HNm2, HOn, HB5⟩
    · obtain rfl : k = many := by omega
      have HE : Hid (RES = if rest ≠ [] then ([], 4) else if Td.check (nds l) ≠ 0 then ([], Td.check (nds l)) else (nds l, 0)) := by
        have := HR.out
        rw [Nat.sub_self, Td.rdAll] at this
        exact this.symm
      have hno := rnodes_any u6 l wr (Nds.of_oy HO.out) (by omega) (fun n hn => by have := HNm.out n hn; omega)
      have HNd : Hid (Nds wr u6 l) := Nds.of_oy HO.out
      clear HR HO
      by_cases hre : rest ≠ []
      · have e1 : rest.isEmpty = false := by cases rest with | nil => exact absurd rfl hre | cons a b => rfl
        have HRE : Hid (RES = ([], 4)) := by
          have := HE.out
          rwa [if_pos hre] at this
        clear HE hno
        go_wp2_with fail
        go_ret2
        exact ⟨_, [], by rw [HRE.out]; rfl, by rw [HRE.out]; rfl, Rw.nil _ _, by simp, (fun n hn => absurd hn List.not_mem_nil), HB.out⟩
      obtain rfl := Decidable.not_not.mp hre
      have HE2 : Hid (RES = if Td.check (nds l) ≠ 0 then ([], Td.check (nds l)) else (nds l, 0)) := by
        have := HE.out
        rwa [if_neg (by simp)] at this
      generalize Td.check (nds l) = E at *
      clear HE hre
      go_wp2_with fail
      refine hno.mono ?_
      rintro e w5 ⟨rfl, b5⟩
      have HB5 : Hid (Below w.heap.size w w5) := HB.out.trans (b5.mono HB.out.size)
      have HN5 : Hid (Nds w5 u6 l) := HNd.out.below b5
      clear hno b5
      by_cases hE : E ≠ 0
      · have hqn : (E != 0) = true := by rw [bne_iff_ne]; exact hE
        have HRE : Hid (RES = ([], E)) := by
          have := HE2.out
          rwa [if_pos hE] at this
        clear HE2
        go_wp2_with fail
        go_ret2
        exact ⟨_, [], by rw [HRE.out]; rfl, by rw [HRE.out]; rfl, Rw.nil _ _, by simp, (fun n hn => absurd hn List.not_mem_nil), HB5.out⟩
      obtain rfl := Decidable.not_not.mp hE
      have HRE : Hid (RES = (nds l, 0)) := by
        have := HE2.out
        rwa [if_neg (by simp)] at this
      clear HE2 hE
      go_wp2_with fail
      go_ret2
      exact ⟨_, l, by rw [HRE.out]; rfl, by rw [HRE.out], HN5.out, by omega, HNm.out, HB5.out⟩

end Go.Proofs.YtimdioacmojkeaaDoor

namespace Go.Proofs.YtimdioacmojkeaaDoor
open Go.RowKit

theorem own_kt {base' : Nat} {T e : TypeId} {k : Nat} {v : Value} {n : Nat} {xs : List Value} {w w' : World} (h : w.ownsRow base' e k v n xs) (hk : Kt T w w') (hne : e ≠ T) : w'.ownsRow base' e k v n xs := by
  obtain ⟨h1, h2⟩ := h
  refine ⟨h1, ?_⟩
  rcases h2 with h2 | ⟨g, cap, cur, hv, hg, hh, r⟩
  · exact .inl h2
  · exact .inr ⟨g, cap, cur, hv, hg, hk.cell hh hne, r⟩

def mkB (p : List UInt8) : ByteArray := ⟨p.toArray⟩

theorem sv_tv (P : List Ck.Bs) : P.map Sv = (P.map mkB).map Tv := by
  rw [List.map_map]
  rfl

/-- what pieces leaves, when k of them have been told -/
theorem pieces_step {P : List Wk.Bs} {k : Nat} {p : Wk.Bs} (hp : P[k]? = some p) {bs : List Blb} {T : List Pk.Bl × List Wk.Bs × Int} {done : List Wk.Bs}
    (h : T = ((Wk.pieces (P.drop k) (pl bs)).1, done ++ (Wk.pieces (P.drop k) (pl bs)).2.1, (Wk.pieces (P.drop k) (pl bs)).2.2)) :
    (errI bs ⟨1, mkB p⟩ ≠ 0 → T.2.2 = errI bs ⟨1, mkB p⟩) ∧
    (errI bs ⟨1, mkB p⟩ = 0 → T = ((Wk.pieces (P.drop (k + 1)) (pl (more bs ⟨1, mkB p⟩))).1, (done ++ [idI bs ⟨1, mkB p⟩]) ++ (Wk.pieces (P.drop (k + 1)) (pl (more bs ⟨1, mkB p⟩))).2.1, (Wk.pieces (P.drop (k + 1)) (pl (more bs ⟨1, mkB p⟩))).2.2)) := by
  have hlt := (List.getElem?_eq_some_iff.1 hp).1
  have e0 : P.drop k = p :: P.drop (k + 1) := by
    rw [List.drop_eq_getElem_cons hlt, (List.getElem?_eq_some_iff.1 hp).2]
  rw [e0, Wk.pieces] at h
  have eb : (⟨1, mkB p⟩ : Blb).p = (1, p) := rfl
  constructor
  · intro hE
    have hE' : (Wk.into (pl bs) (1, p)).2.2 ≠ 0 := hE
    rw [h]
    dsimp only
    rw [if_pos hE']
    rfl
  · intro hE
    have hm := more_pl hE
    rw [eb] at hm
    rw [hm] at h
    rw [h]
    have hi : idI bs ⟨1, mkB p⟩ = Pk.bid (1, p) := by unfold idI; rw [if_pos hE]; rfl
    rw [hi]
    simp
end Go.Proofs.YtimdioacmojkeaaDoor

namespace Go.Proofs.YtimdioacmojkeaaDoor
open Go.RowKit

/-- seven cells written -/
def set7 (W : World) (G : Nat) (x0 x1 x2 x3 x4 x5 x6 : Value) : World :=
  ((((((W.setCell ⟨G, 0, none⟩ x0).setCell ⟨G, 1, none⟩ x1).setCell ⟨G, 2, none⟩ x2).setCell ⟨G, 3, none⟩ x3).setCell ⟨G, 4, none⟩ x4).setCell ⟨G, 5, none⟩ x5).setCell ⟨G, 6, none⟩ x6

theorem below_set7 {B' : Nat} {w W : World} {G : Nat} (h : Below B' w W) (hg : B' ≤ G) (x0 x1 x2 x3 x4 x5 x6 : Value) : Below B' w (set7 W G x0 x1 x2 x3 x4 x5 x6) :=
  ((((((h.setCell hg _).setCell hg _).setCell hg _).setCell hg _).setCell hg _).setCell hg _).setCell hg _

theorem set_at {W : World} {M : Nat} {cur : Array Value} {T : TypeId} {fr : Nat × Nat} (h : W.heap[M]? = some (.cells cur T fr)) (j : Nat) (a : Value) :
    (W.setCell ⟨M, j, none⟩ a).heap[M]? = some (.cells (cur.setIfInBounds j a) T fr) := by
  simp [World.setCell, Array.getElem?_modify, h]

theorem seven_set {W : World} {G : Nat} {y0 y1 y2 y3 y4 y5 y6 : Value} {T : TypeId} {fr : Nat × Nat} (h : W.heap[G]? = some (.cells #[y0, y1, y2, y3, y4, y5, y6] T fr)) (x0 x1 x2 x3 x4 x5 x6 : Value) :
    (set7 W G x0 x1 x2 x3 x4 x5 x6).heap[G]? = some (.cells #[x0, x1, x2, x3, x4, x5, x6] T fr) ∧ Kt T W (set7 W G x0 x1 x2 x3 x4 x5 x6) := by
  have h0 : (W.setCell ⟨G, 0, none⟩ x0).heap[G]? = some (.cells #[x0, y1, y2, y3, y4, y5, y6] T fr) := by simpa using set_at h 0 x0
  have h1 : ((W.setCell ⟨G, 0, none⟩ x0).setCell ⟨G, 1, none⟩ x1).heap[G]? = some (.cells #[x0, x1, y2, y3, y4, y5, y6] T fr) := by simpa using set_at h0 1 x1
  have h2 : (((W.setCell ⟨G, 0, none⟩ x0).setCell ⟨G, 1, none⟩ x1).setCell ⟨G, 2, none⟩ x2).heap[G]? = some (.cells #[x0, x1, x2, y3, y4, y5, y6] T fr) := by simpa using set_at h1 2 x2
  have h3 : ((((W.setCell ⟨G, 0, none⟩ x0).setCell ⟨G, 1, none⟩ x1).setCell ⟨G, 2, none⟩ x2).setCell ⟨G, 3, none⟩ x3).heap[G]? = some (.cells #[x0, x1, x2, x3, y4, y5, y6] T fr) := by simpa using set_at h2 3 x3
  have h4 : (((((W.setCell ⟨G, 0, none⟩ x0).setCell ⟨G, 1, none⟩ x1).setCell ⟨G, 2, none⟩ x2).setCell ⟨G, 3, none⟩ x3).setCell ⟨G, 4, none⟩ x4).heap[G]? = some (.cells #[x0, x1, x2, x3, x4, y5, y6] T fr) := by simpa using set_at h3 4 x4
  have h5 : ((((((W.setCell ⟨G, 0, none⟩ x0).setCell ⟨G, 1, none⟩ x1).setCell ⟨G, 2, none⟩ x2).setCell ⟨G, 3, none⟩ x3).setCell ⟨G, 4, none⟩ x4).setCell ⟨G, 5, none⟩ x5).heap[G]? = some (.cells #[x0, x1, x2, x3, x4, x5, y6] T fr) := by simpa using set_at h4 5 x5
  have h6 : (((((((W.setCell ⟨G, 0, none⟩ x0).setCell ⟨G, 1, none⟩ x1).setCell ⟨G, 2, none⟩ x2).setCell ⟨G, 3, none⟩ x3).setCell ⟨G, 4, none⟩ x4).setCell ⟨G, 5, none⟩ x5).setCell ⟨G, 6, none⟩ x6).heap[G]? = some (.cells #[x0, x1, x2, x3, x4, x5, x6] T fr) := by simpa using set_at h5 6 x6
  exact ⟨h6, ((((((Kt.set h 0 x0).trans (Kt.set h0 1 x1)).trans (Kt.set h1 2 x2)).trans (Kt.set h2 3 x3)).trans (Kt.set h3 4 x4)).trans (Kt.set h4 5 x5)).trans (Kt.set h5 6 x6)⟩

theorem free7 {w : World} {b : Nat} {T : TypeId} {cur : Array Value} (h : w.heap[b]? = some (.cells cur T (0, 0))) : w.frozen? ⟨b, 0, none⟩ = false ∧ w.frozen? ⟨b, 1, none⟩ = false ∧ w.frozen? ⟨b, 2, none⟩ = false ∧ w.frozen? ⟨b, 3, none⟩ = false ∧ w.frozen? ⟨b, 4, none⟩ = false ∧ w.frozen? ⟨b, 5, none⟩ = false ∧ w.frozen? ⟨b, 6, none⟩ = false :=
  ⟨free_at h 0, free_at h 1, free_at h 2, free_at h 3, free_at h 4, free_at h 5, free_at h 6⟩

theorem Kt.set1 {T : TypeId} {W : World} {G j : Nat} {cur : Array Value} {fr : Nat × Nat} (h : W.heap[G]? = some (.cells cur T fr)) (a : Value) : Kt T W (W.setCell ⟨G, j, none⟩ a) := Kt.set h j a

/-- how an item comes in: its block, the result's, the node's -/
structure Nb (w W : World) (x : Im) (B G : Nat) (nv : Array Value) : Prop where
  eq : B = w.heap.size
  ge : B + 2 ≤ G
  it : W.heap[B]? = some (.cells #[.string x.path, .int .i64 x.kind, .int .i64 x.mode, .int .i64 x.time, .string x.bytes] 31 (0, 0))
  res : W.heap[B + 1]? = some (.cells #[.string ⟨#[]⟩, .int .i64 0, .int .i64 0, .int .i64 0, .int .i64 0, .slice none 0 0, .string ⟨#[]⟩] 54 (0, 0))
  nd : W.heap[G]? = some (.cells nv 54 (0, 0))

theorem Nb.set {w W : World} {x : Im} {B G : Nat} {nv nv' : Array Value} (h : Nb w W x B G nv) (j : Nat) (a : Value) (e : nv.setIfInBounds j a = nv') : Nb w (W.setCell ⟨G, j, none⟩ a) x B G nv' := by
  have := h.ge
  refine ⟨h.eq, h.ge, ?_, ?_, ?_⟩
  · rw [Below.heap_setCell _ _ _ _ (by show B ≠ G; omega)]; exact h.it
  · rw [Below.heap_setCell _ _ _ _ (by show B + 1 ≠ G; omega)]; exact h.res
  · rw [← e]; exact set_at h.nd j a

theorem Nb.past {w W W' : World} {x : Im} {B G : Nat} {nv : Array Value} (h : Nb w W x B G nv) (hb : Below W.heap.size W W') : Nb w W' x B G nv :=
  ⟨h.eq, h.ge, (hb.block _ (Array.getElem?_eq_some_iff.1 h.it).1).trans h.it, (hb.block _ (Array.getElem?_eq_some_iff.1 h.res).1).trans h.res, (hb.block _ (Array.getElem?_eq_some_iff.1 h.nd).1).trans h.nd⟩

/-- the node's block as it is made -/
def Nz (B : Nat) (u : Value) (W : World) : Prop := ∃ g, u = .pointer (some ⟨g, 0, none⟩) ∧ W.heap[g]? = some (.cells #[.string ⟨#[]⟩, .int .i64 0, .int .i64 0, .int .i64 0, .int .i64 0, .slice none 0 0, .string ⟨#[]⟩] 54 (0, 0)) ∧ B ≤ g

theorem Nz.mono {B : Nat} (u : Value) (w w' : World) (h : Nz B u w) (hg : Gw w w') : Nz B u w' := by
  obtain ⟨g, e, h1, h2⟩ := h
  exact ⟨g, e, (Below.block hg g (Array.getElem?_eq_some_iff.1 h1).1).trans h1, h2⟩

theorem two_new (w : World) (o1 o2 : Obj) : ((w.alloc o1).alloc o2).heap[w.heap.size]? = some o1 ∧ ((w.alloc o1).alloc o2).heap[w.heap.size + 1]? = some o2 ∧ ((w.alloc o1).alloc o2).heap.size = w.heap.size + 2 ∧ Below w.heap.size w ((w.alloc o1).alloc o2) := by
  have s1 : (w.alloc o1).heap.size = w.heap.size + 1 := World.size_alloc _ _
  have s2 : ((w.alloc o1).alloc o2).heap.size = w.heap.size + 2 := by rw [World.size_alloc, s1]
  have h1 := heap_alloc_new w o1
  have h2 := heap_alloc_new (w.alloc o1) o2
  rw [s1] at h2
  have b2 := (Below.refl _ (w.alloc o1)).alloc (Nat.le_refl _) o2
  exact ⟨(b2.block _ (by rw [s1]; omega)).trans h1, h2, s2, ((Below.refl _ w).alloc (Nat.le_refl _) o1).alloc (by rw [s1]; omega) o2⟩

theorem I8.zero {W : World} {G : Nat} {t : TypeId} (h : W.heap[G]? = some (.cells Z8 t (0, 0))) : I8 W G (List.replicate 8 0) := by
  refine ⟨by simp, fun j hj => ?_, fun j _ => by simp [World.frozen?, h], (Array.getElem?_eq_some_iff.1 h).1⟩
  rw [List.getD_eq_getElem?_getD, List.getElem?_replicate, if_pos hj, cell_of_row _ G j _ _ _ h]
  match j, hj with
  | 0, _ | 1, _ | 2, _ | 3, _ | 4, _ | 5, _ | 6, _ | 7, _ => rfl

theorem I8.kt8 {T : TypeId} {W : World} {G : Nat} {cur : Array Value} {fr : Nat × Nat} (h : W.heap[G]? = some (.cells cur T fr)) (b0 b1 b2 b3 b4 b5 b6 b7 : UInt8) : Kt T W (set8 W G b0 b1 b2 b3 b4 b5 b6 b7) := by
  have hk := kept_not8 W G b0 b1 b2 b3 b4 b5 b6 b7
  refine ⟨hk.os, hk.tape, hk.output, hk.size, fun k o ho hn => ?_⟩
  by_cases e : k = G
  · subst e
    rw [h] at ho
    cases ho
    exact absurd ⟨_, _, rfl⟩ hn
  · exact hk.obj e ho

/-- an ID in a block of its own, as a row -/
theorem one_id (W : World) (b0 b1 b2 b3 b4 b5 b6 b7 : UInt8) : (W.alloc (.cells #[.int .u8 (b0.toNat : Int), .int .u8 (b1.toNat : Int), .int .u8 (b2.toNat : Int), .int .u8 (b3.toNat : Int), .int .u8 (b4.toNat : Int), .int .u8 (b5.toNat : Int), .int .u8 (b6.toNat : Int), .int .u8 (b7.toNat : Int)] 24)).ownsRow W.heap.size 24 8 (.slice (some ⟨W.heap.size, 0, none⟩) 1 1) 1 (idC [b0, b1, b2, b3, b4, b5, b6, b7]) :=
  ⟨rfl, .inr ⟨W.heap.size, 1, #[.int .u8 (b0.toNat : Int), .int .u8 (b1.toNat : Int), .int .u8 (b2.toNat : Int), .int .u8 (b3.toNat : Int), .int .u8 (b4.toNat : Int), .int .u8 (b5.toNat : Int), .int .u8 (b6.toNat : Int), .int .u8 (b7.toNat : Int)], rfl, Nat.le_refl _, heap_alloc_new W _, Nat.le_refl _, by unfold maxLen; omega, rfl, rfl⟩⟩
end Go.Proofs.YtimdioacmojkeaaDoor

namespace Go.Proofs.YtimdioacmojkeaaDoor
open Go.RowKit
set_option maxRecDepth 4000

theorem rfile_step {L : List Pk.Bl} {size : Int} {ps : List Wk.Bs} {j : Nat} {id : Wk.Bs} (hx : ps[j]? = some id) {out : Wk.Bs} {R : Wk.Bs × Int} (h : R = Wk.reapFile L size (ps.drop j) out) :
    ((Wk.blobOf L id 1).2 ≠ 0 → R = ([], (Wk.blobOf L id 1).2)) ∧ ((Wk.blobOf L id 1).2 = 0 → size < ((out ++ (Wk.blobOf L id 1).1).length : Int) → R = ([], 4)) ∧
    ((Wk.blobOf L id 1).2 = 0 → ¬ size < ((out ++ (Wk.blobOf L id 1).1).length : Int) → R = Wk.reapFile L size (ps.drop (j + 1)) (out ++ (Wk.blobOf L id 1).1)) := by
  have hlt := (List.getElem?_eq_some_iff.1 hx).1
  have e0 : ps.drop j = id :: ps.drop (j + 1) := by rw [List.drop_eq_getElem_cons hlt, (List.getElem?_eq_some_iff.1 hx).2]
  rw [e0, Wk.reapFile] at h
  refine ⟨fun hE => ?_, fun hE hs => ?_, fun hE hs => ?_⟩
  · rw [h, if_pos hE]
  · rw [h, if_neg (fun q => q hE), if_pos hs]
  · rw [h, if_neg (fun q => q hE), if_neg hs]

/-- blobs of a heap are of at most 4096 bytes -/
def Sm (bs : List Blb) : Prop := ∀ x ∈ bs, x.bytes.size ≤ 4096

theorem blobOf_small {bs : List Blb} (h : Sm bs) (id : Wk.Bs) (k : Int) : (Wk.blobOf (pl bs) id k).1.length ≤ 4096 := by
  unfold Wk.blobOf
  rcases find_bid bs id with ⟨h1, _⟩ | ⟨o, ho, h1, _⟩
  · rw [h1]; simp
  · rw [h1]
    dsimp only
    split
    · simp
    · have := h o ho
      rw [Lib.size_eq] at this
      exact this

set_option maxHeartbeats 4000000 in
set_option maxRecDepth 10000 in
theorem rfile_any (b m nq : Nat) (bs : List Blb) (n : Nod) (pv iv : Value) (w : World) (hb : w.heap[b]? = some (.cells #[.map (some m), iv] 45 (0, 0))) (hm : Mp w m nq (mpB bs)) (hsm : Sm bs)
    (hp : Rx 8 idC w pv n.parts) (h8 : ∀ t ∈ n.parts, t.length = 8) (hs0 : 0 ≤ n.size) (hs1 : n.size ≤ 4096) (hl : n.parts.length ≤ 300) (R : Wk.Bs × Int) (hR : R = Wk.reapFile (pl bs) n.size n.parts []) :
    Calls Tryd.prog 37 #[.pointer (some ⟨b, 0, none⟩), .agg (ndC n pv).toArray] w fun e w' => e = .returned (.tuple #[.string ⟨R.1.toArray⟩, .int .i64 R.2]) ∧ Below w.heap.size w w' ∧ R.1.length ≤ 4096 := by
  obtain ⟨i0, hi, hz0, hz1, hz2⟩ := info_parts info_u8
  obtain ⟨name, kind, mode, time, size, parts, link⟩ := n
  dsimp only [ndC] at *
  obtain ⟨sz, rfl⟩ := Int.eq_ofNat_of_zero_le hs0
  obtain ⟨pa, pc, rfl, hpc1, hpc2⟩ := hp.slice
  obtain ⟨W1, hW1⟩ : ∃ W1, W1 = w.alloc (.cells #[.string name, .int .i64 kind, .int .i64 mode, .int .i64 time, .int .i64 sz, .slice pa parts.length pc, .string link] 54) := ⟨_, rfl⟩
  have hB1 : Below w.heap.size w W1 := by rw [hW1]; exact (Below.refl _ w).alloc (Nat.le_refl _) _
  have HB1 : Hid (Below w.heap.size w W1) := hB1
  have HW1s : Hid (W1.heap.size = w.heap.size + 1) := by show _ = _; rw [hW1, World.size_alloc]
  have HM : Hid (W1.heap[w.heap.size]? = some (.cells #[.string name, .int .i64 kind, .int .i64 mode, .int .i64 time, .int .i64 sz, .slice pa parts.length pc, .string link] 54 (0, 0))) := by rw [hW1]; exact heap_alloc_new w _
  have HR0 : Hid (R = Wk.reapFile (pl bs) sz (parts.drop 0) []) := hR
  have HX : Hid (Rx 8 idC w (.slice pa parts.length pc) parts) := hp
  have HR2 : Hid (w.heap[b]? = some (.cells #[.map (some m), iv] 45 (0, 0))) := hb
  have HMp : Hid (Mp w m nq (mpB bs)) := hm
  have HSm : Hid (Sm bs) := hsm
  have H8 : Hid (∀ t ∈ parts, t.length = 8) := h8
  obtain ⟨n0, n1, n2, n3, n4, n5, n6, nlt⟩ := sev_at HM.out
  obtain ⟨N, hN⟩ : ∃ N, N = parts.length := ⟨_, rfl⟩
  have HN : Hid (N = parts.length) := hN
  rw [← hN] at HX n5 HM hl ⊢
  obtain ⟨PB, hPB⟩ : ∃ PB, PB = w.heap.size := ⟨_, rfl⟩
  have HPB : Hid (PB = w.heap.size) := hPB
  rw [← hN] at hW1
  clear hR hp hb hm hsm h8 hB1 hpc1 hpc2 hN
  go_enter Tryd.func37, Tryd.ntmps37
  go_upto_region 1 with fail
  rw [← hW1]
  clear hW1
  rw [← hPB] at HM n0 n1 n2 n3 n4 n5 n6 nlt ⊢
  clear hPB
  go_wp2_with fail
  go_loopw [6, 14] (fun vo i wr => ∃ (j : Nat) (out : Wk.Bs), j ≤ N ∧ i = .int .i64 j ∧ out.length ≤ 4096 ∧ (out.length : Int) ≤ sz ∧ Hid (R = Wk.reapFile (pl bs) sz (parts.drop j) out) ∧ Hid (wr.ownsRow (w.heap.size + 1) 5 1 vo out.length (out.map B)) ∧ Hid (Below w.heap.size w wr) ∧ Hid (Below W1.heap.size W1 wr)) (fun _ i _ => N - (intOf i).toNat)
  case atStart => exact ⟨0, [], by omega, rfl, by simp, by simp, HR0, World.ownsRow_nil _ _ _ _, HB1, Below.refl _ _⟩
  case round =>
    clear HR0 HB1
    obtain ⟨j, out, hj, rfl, ho1, ho2, HR, HO, HB, HB1⟩ := hrel
    have hnd := (HB1.out.block _ (Array.getElem?_eq_some_iff.1 HM.out).1).trans HM.out
    obtain ⟨d0, d1, d2, d3, d4, d5, d6, dlt⟩ := sev_at hnd
    clear n0 n1 n2 n3 n4 n5 n6 nlt
    obtain ⟨oa, oc, evo⟩ := own_form HO.out
    subst evo
    by_cases hlt : j < N
    · have hjl : j < parts.length := by rw [← HN.out]; exact hlt
      obtain ⟨id, hx⟩ : ∃ id, parts[j]? = some id := ⟨_, List.getElem?_eq_getElem hjl⟩
      have hid := H8.out id (List.mem_of_getElem? hx)
      obtain ⟨s1, s2, s3⟩ := rfile_step hx HR.out
      have hXr := HX.out.below HB.out
      rw [HN.out] at hXr
      obtain ⟨kb, ko, rfl, hkb, hcell⟩ := hXr.get j id hx
      obtain ⟨b0, b1, b2, b3, b4, b5, b6, b7, rfl⟩ := eight id hid
      obtain ⟨x0, x1, x2, x3, x4, x5, x6, x7⟩ : wr.cell? ⟨kb, ko + j * 8, none⟩ = some (.int .u8 (b0.toNat : Int)) ∧ wr.cell? ⟨kb, ko + j * 8 + 1, none⟩ = some (.int .u8 (b1.toNat : Int)) ∧ wr.cell? ⟨kb, ko + j * 8 + 2, none⟩ = some (.int .u8 (b2.toNat : Int)) ∧ wr.cell? ⟨kb, ko + j * 8 + 3, none⟩ = some (.int .u8 (b3.toNat : Int)) ∧
          wr.cell? ⟨kb, ko + j * 8 + 4, none⟩ = some (.int .u8 (b4.toNat : Int)) ∧ wr.cell? ⟨kb, ko + j * 8 + 5, none⟩ = some (.int .u8 (b5.toNat : Int)) ∧ wr.cell? ⟨kb, ko + j * 8 + 6, none⟩ = some (.int .u8 (b6.toNat : Int)) ∧ wr.cell? ⟨kb, ko + j * 8 + 7, none⟩ = some (.int .u8 (b7.toNat : Int)) :=
        ⟨hcell 0 _ rfl, hcell 1 _ rfl, hcell 2 _ rfl, hcell 3 _ rfl, hcell 4 _ rfl, hcell 5 _ rfl, hcell 6 _ rfl, hcell 7 _ rfl⟩
      have hgl := blobOf_small HSm.out [b0, b1, b2, b3, b4, b5, b6, b7] 1
      obtain ⟨WA, hWA⟩ : ∃ WA, WA = wr.alloc (.cells #[.int .u8 (b0.toNat : Int), .int .u8 (b1.toNat : Int), .int .u8 (b2.toNat : Int), .int .u8 (b3.toNat : Int), .int .u8 (b4.toNat : Int), .int .u8 (b5.toNat : Int), .int .u8 (b6.toNat : Int), .int .u8 (b7.toNat : Int)] 24) := ⟨_, rfl⟩
      have hbA : Below wr.heap.size wr WA := by rw [hWA]; exact (Below.refl _ wr).alloc (Nat.le_refl _) _
      have HBA : Hid (Below w.heap.size w WA) := HB.out.trans (hbA.mono HB.out.size)
      have HB1A : Hid (Below W1.heap.size W1 WA) := HB1.out.trans (hbA.mono HB1.out.size)
      have HOA : Hid (WA.ownsRow (w.heap.size + 1) 5 1 (.slice oa out.length oc) out.length (out.map B)) := own_below HO.out hbA
      have hIA : WA.heap[wr.heap.size]? = some (.cells #[.int .u8 (b0.toNat : Int), .int .u8 (b1.toNat : Int), .int .u8 (b2.toNat : Int), .int .u8 (b3.toNat : Int), .int .u8 (b4.toNat : Int), .int .u8 (b5.toNat : Int), .int .u8 (b6.toNat : Int), .int .u8 (b7.toNat : Int)] 24 (0, 0)) := by rw [hWA]; exact heap_alloc_new wr _
      have HcI : Hid (∀ W, Gw WA W → W.cell? ⟨wr.heap.size, 0, none⟩ = some (.int .u8 (b0.toNat : Int)) ∧ W.cell? ⟨wr.heap.size, 1, none⟩ = some (.int .u8 (b1.toNat : Int)) ∧ W.cell? ⟨wr.heap.size, 2, none⟩ = some (.int .u8 (b2.toNat : Int)) ∧ W.cell? ⟨wr.heap.size, 3, none⟩ = some (.int .u8 (b3.toNat : Int)) ∧ W.cell? ⟨wr.heap.size, 4, none⟩ = some (.int .u8 (b4.toNat : Int)) ∧ W.cell? ⟨wr.heap.size, 5, none⟩ = some (.int .u8 (b5.toNat : Int)) ∧ W.cell? ⟨wr.heap.size, 6, none⟩ = some (.int .u8 (b6.toNat : Int)) ∧ W.cell? ⟨wr.heap.size, 7, none⟩ = some (.int .u8 (b7.toNat : Int))) := fun W hW =>
        (I8.laid ((Below.block hW _ (Array.getElem?_eq_some_iff.1 hIA).1).trans hIA)).cells
      have HcB : Hid (∀ W, Gw WA W → W.cell? ⟨b, 0, none⟩ = some (.map (some m))) := fun W hW => by
        have h1 := (HBA.out.block _ (Array.getElem?_eq_some_iff.1 HR2.out).1).trans HR2.out
        have h2 := (Below.block hW _ (Array.getElem?_eq_some_iff.1 h1).1).trans h1
        simp [World.cell?, h2]
      have hget : ∀ W, Gw WA W → Calls Tryd.prog 20 #[.map (some m), .agg #[.int .u8 (b0.toNat : Int), .int .u8 (b1.toNat : Int), .int .u8 (b2.toNat : Int), .int .u8 (b3.toNat : Int), .int .u8 (b4.toNat : Int), .int .u8 (b5.toNat : Int), .int .u8 (b6.toNat : Int), .int .u8 (b7.toNat : Int)], .int .i64 1] W fun e w' => e = .returned (.tuple #[.string ⟨(Wk.blobOf (pl bs) [b0, b1, b2, b3, b4, b5, b6, b7] 1).1.toArray⟩, .int .i64 (Wk.blobOf (pl bs) [b0, b1, b2, b3, b4, b5, b6, b7] 1).2]) ∧ Below W.heap.size W w' :=
        fun W hW => hget_any m nq bs [b0, b1, b2, b3, b4, b5, b6, b7] rfl 1 W ((HMp.out.below HBA.out).below hW)
      rcases hG : Wk.blobOf (pl bs) [b0, b1, b2, b3, b4, b5, b6, b7] 1 with ⟨gs, GE⟩
      rw [hG] at hget s1 s2 s3 hgl
      dsimp only at hget s1 s2 s3 hgl
      obtain ⟨GS, hGS⟩ : ∃ GS : ByteArray, GS = ⟨gs.toArray⟩ := ⟨_, rfl⟩
      have hGd : GS.data.toList = gs := by rw [hGS]
      rw [← hGS] at hget
      obtain ⟨gz, hgz⟩ : ∃ gz, gz = GS.size := ⟨_, rfl⟩
      have hgsz : gz = gs.length := by rw [hgz, Lib.size_eq, hGd]
      rw [← hGd, List.length_append] at s2 s3
      have HS1 : Hid (GE ≠ 0 → R = ([], GE)) := s1
      have HS2 : Hid (GE = 0 → (sz : Int) < ((out.length + GS.data.toList.length : Nat) : Int) → R = ([], 4)) := s2
      have HS3 : Hid (GE = 0 → ¬ (sz : Int) < ((out.length + GS.data.toList.length : Nat) : Int) → R = Wk.reapFile (pl bs) sz (parts.drop (j + 1)) (out ++ GS.data.toList)) := s3
      have HGz : Hid (GS.data.toList.length = gz ∧ gz = GS.size ∧ gz ≤ 4096) := ⟨by rw [hGd, hgsz], hgz, by omega⟩
      have hgz2 : GS.size ≤ 4096 := by omega
      obtain ⟨ON, hON⟩ : ∃ ON, ON = out.length := ⟨_, rfl⟩
      have HON : Hid (ON = out.length) := hON
      rw [← hON] at HOA ho1 ho2 ⊢
      clear s1 s2 s3 hG hGS hGd hgz hgsz hgl hXr hx hid hcell hIA hbA HO HB HB1 HR hON hjl
      go_upto_region 5 with fail
      rw [← hWA]
      clear hWA x0 x1 x2 x3 x4 x5 x6 x7 hkb d0 d1 d2 d3 d4 d5 d6 dlt hnd
      by_cases hE : GE = 0
      case neg =>
        have HRe : Hid (R = ([], GE)) := HS1.out hE
        have hne : (GE != 0) = true := by rw [bne_iff_ne]; exact hE
        clear HS1 HS2 HS3 hE
        refine wp_region_rel (G := Gw) (W0 := WA) Gw.refl Gw.trans (by kernel_rfl) (by kernel_rfl) (by kernel_rfl) (Below.refl _ WA).drew ?_
        refine .inl ⟨.pointer (some ⟨b, 0, none⟩), fun v W hW hd => step_run rfl _ W (by clear hd; go_simp) rfl (Gw.refl _), ?_⟩
        simp only [Act.put, List.setIfInBounds_toArray, List.set_cons_zero, List.set_cons_succ]
        refine .inl ⟨.pointer (some ⟨b, 0, none⟩), fun v W hW hd => step_run rfl _ W (by clear hd; go_simp) rfl (Gw.refl _), ?_⟩
        simp only [Act.put, List.setIfInBounds_toArray, List.set_cons_zero, List.set_cons_succ]
        refine .inl ⟨.pointer (some ⟨b, 0, none⟩), fun v W hW hd => step_run rfl _ W (by clear hd; go_simp) rfl (Gw.refl _), ?_⟩
        simp only [Act.put, List.setIfInBounds_toArray, List.set_cons_zero, List.set_cons_succ]
        refine .inl ⟨.map (some m), fun v W hW hd => step_run rfl _ W (by clear hd; have ce := HcB.out W hW; go_simp) rfl (Gw.refl _), ?_⟩
        simp only [Act.put, List.setIfInBounds_toArray, List.set_cons_zero, List.set_cons_succ]
        refine .inl ⟨.agg #[.int .u8 (b0.toNat : Int), .int .u8 (b1.toNat : Int), .int .u8 (b2.toNat : Int), .int .u8 (b3.toNat : Int), .int .u8 (b4.toNat : Int), .int .u8 (b5.toNat : Int), .int .u8 (b6.toNat : Int), .int .u8 (b7.toNat : Int)], fun v W hW hd => step_run rfl _ W (by clear hd; obtain ⟨c0, c1, c2, c3, c4, c5, c6, c7⟩ := HcI.out W hW; go_simp) rfl (Gw.refl _), ?_⟩
        simp only [Act.put, List.setIfInBounds_toArray, List.set_cons_zero, List.set_cons_succ]
        refine .inl ⟨.tuple #[.string GS, .int .i64 GE], fun v W hW hd => step_call rfl 20 #[.map (some m), .agg #[.int .u8 (b0.toNat : Int), .int .u8 (b1.toNat : Int), .int .u8 (b2.toNat : Int), .int .u8 (b3.toNat : Int), .int .u8 (b4.toNat : Int), .int .u8 (b5.toNat : Int), .int .u8 (b6.toNat : Int), .int .u8 (b7.toNat : Int)], .int .i64 1] (by clear hd; go_simp) ((hget W hW).mono fun e w' h => ⟨_, h.1, rfl, h.2⟩), ?_⟩
        simp only [Act.put, List.setIfInBounds_toArray, List.set_cons_zero, List.set_cons_succ]
        refine .inl ⟨.tuple #[.string GS, .int .i64 GE], fun v W hW hd => step_run rfl _ W (by clear hd; go_simp) rfl (Gw.refl _), ?_⟩
        simp only [Act.put, List.setIfInBounds_toArray, List.set_cons_zero, List.set_cons_succ]
        refine .inl ⟨.string GS, fun v W hW hd => step_run rfl _ W (by clear hd; go_simp) rfl (Gw.refl _), ?_⟩
        simp only [Act.put, List.setIfInBounds_toArray, List.set_cons_zero, List.set_cons_succ]
        refine .inl ⟨.int .i64 GE, fun v W hW hd => step_run rfl _ W (by clear hd; go_simp) rfl (Gw.refl _), ?_⟩
        simp only [Act.put, List.setIfInBounds_toArray, List.set_cons_zero, List.set_cons_succ]
        refine .inl ⟨.string GS, fun v W hW hd => step_run rfl _ W (by clear hd; go_simp) rfl (Gw.refl _), ?_⟩
        simp only [Act.put, List.setIfInBounds_toArray, List.set_cons_zero, List.set_cons_succ]
        refine .inl ⟨.int .i64 GE, fun v W hW hd => step_run rfl _ W (by clear hd; go_simp) rfl (Gw.refl _), ?_⟩
        simp only [Act.put, List.setIfInBounds_toArray, List.set_cons_zero, List.set_cons_succ]
        intro v w3 hW3 hV
        clear hV
        have HB3 : Hid (Below w.heap.size w w3) := HBA.out.trans (Below.mono hW3 HBA.out.size)
        clear hget HcI HcB hW3
        go_wp2_with fail
        go_ret2
        exact ⟨by rw [HRe.out]; rfl, HB3.out, by rw [HRe.out]; simp⟩
      have HSz := (show Hid _ from HS2.out hE)
      have HSy := (show Hid _ from HS3.out hE)
      subst hE
      clear HS1 HS2 HS3
      refine wp_region_rel (G := Gw) (W0 := WA) Gw.refl Gw.trans (by kernel_rfl) (by kernel_rfl) (by kernel_rfl) (Below.refl _ WA).drew ?_
      refine .inl ⟨.pointer (some ⟨b, 0, none⟩), fun v W hW hd => step_run rfl _ W (by clear hd; go_simp) rfl (Gw.refl _), ?_⟩
      simp only [Act.put, List.setIfInBounds_toArray, List.set_cons_zero, List.set_cons_succ]
      refine .inl ⟨.pointer (some ⟨b, 0, none⟩), fun v W hW hd => step_run rfl _ W (by clear hd; go_simp) rfl (Gw.refl _), ?_⟩
      simp only [Act.put, List.setIfInBounds_toArray, List.set_cons_zero, List.set_cons_succ]
      refine .inl ⟨.pointer (some ⟨b, 0, none⟩), fun v W hW hd => step_run rfl _ W (by clear hd; go_simp) rfl (Gw.refl _), ?_⟩
      simp only [Act.put, List.setIfInBounds_toArray, List.set_cons_zero, List.set_cons_succ]
      refine .inl ⟨.map (some m), fun v W hW hd => step_run rfl _ W (by clear hd; have ce := HcB.out W hW; go_simp) rfl (Gw.refl _), ?_⟩
      simp only [Act.put, List.setIfInBounds_toArray, List.set_cons_zero, List.set_cons_succ]
      refine .inl ⟨.agg #[.int .u8 (b0.toNat : Int), .int .u8 (b1.toNat : Int), .int .u8 (b2.toNat : Int), .int .u8 (b3.toNat : Int), .int .u8 (b4.toNat : Int), .int .u8 (b5.toNat : Int), .int .u8 (b6.toNat : Int), .int .u8 (b7.toNat : Int)], fun v W hW hd => step_run rfl _ W (by clear hd; obtain ⟨c0, c1, c2, c3, c4, c5, c6, c7⟩ := HcI.out W hW; go_simp) rfl (Gw.refl _), ?_⟩
      simp only [Act.put, List.setIfInBounds_toArray, List.set_cons_zero, List.set_cons_succ]
      refine .inl ⟨.tuple #[.string GS, .int .i64 0], fun v W hW hd => step_call rfl 20 #[.map (some m), .agg #[.int .u8 (b0.toNat : Int), .int .u8 (b1.toNat : Int), .int .u8 (b2.toNat : Int), .int .u8 (b3.toNat : Int), .int .u8 (b4.toNat : Int), .int .u8 (b5.toNat : Int), .int .u8 (b6.toNat : Int), .int .u8 (b7.toNat : Int)], .int .i64 1] (by clear hd; go_simp) ((hget W hW).mono fun e w' h => ⟨_, h.1, rfl, h.2⟩), ?_⟩
      simp only [Act.put, List.setIfInBounds_toArray, List.set_cons_zero, List.set_cons_succ]
      refine .inl ⟨.tuple #[.string GS, .int .i64 0], fun v W hW hd => step_run rfl _ W (by clear hd; go_simp) rfl (Gw.refl _), ?_⟩
      simp only [Act.put, List.setIfInBounds_toArray, List.set_cons_zero, List.set_cons_succ]
      refine .inl ⟨.string GS, fun v W hW hd => step_run rfl _ W (by clear hd; go_simp) rfl (Gw.refl _), ?_⟩
      simp only [Act.put, List.setIfInBounds_toArray, List.set_cons_zero, List.set_cons_succ]
      refine .inl ⟨.int .i64 0, fun v W hW hd => step_run rfl _ W (by clear hd; go_simp) rfl (Gw.refl _), ?_⟩
      simp only [Act.put, List.setIfInBounds_toArray, List.set_cons_zero, List.set_cons_succ]
      refine .inl ⟨.string GS, fun v W hW hd => step_run rfl _ W (by clear hd; go_simp) rfl (Gw.refl _), ?_⟩
      simp only [Act.put, List.setIfInBounds_toArray, List.set_cons_zero, List.set_cons_succ]
      refine .inl ⟨.int .i64 0, fun v W hW hd => step_run rfl _ W (by clear hd; go_simp) rfl (Gw.refl _), ?_⟩
      simp only [Act.put, List.setIfInBounds_toArray, List.set_cons_zero, List.set_cons_succ]
      intro v w3 hW3 hV
      clear hV
      have HB3 : Hid (Below w.heap.size w w3) := HBA.out.trans (Below.mono hW3 HBA.out.size)
      have HB13 : Hid (Below W1.heap.size W1 w3) := HB1A.out.trans (Below.mono hW3 HB1A.out.size)
      have ho3 : w3.ownsRow (w.heap.size + 1) 5 1 (.slice oa ON oc) ON (out.map B) := own_below HOA.out hW3
      have hws : w.heap.size + 1 ≤ w3.heap.size := by
        have h1 := HB13.out.size
        have h2 := (Array.getElem?_eq_some_iff.1 HM.out).1
        have h3 := HPB.out
        omega
      clear hget HcI HcB hW3
      go_wp2_with (at_builtin; refine Lib.wpList_append_own_string _ rfl (.tmp 30) (.tmp 31) 64 9 rfl (w.heap.size + 1) 5 i0 Tryd.underlying64 Tryd.underlying9 hi hz0 hz1 hz2 _ _ _ rfl ho3 GS rfl ?c3 ?c4 ?c5 ?_)
      case c3 => unfold maxLen; omega
      case c4 => omega
      intro v1 w5 hown5 hgrow _
      have hb5 : Below (w.heap.size + 1) w3 w5 := (Below.refl _ w3).grown hgrow hws fun q hq => (ho3.lt q hq).1
      have HB5 : Hid (Below w.heap.size w w5) := HB3.out.trans (hb5.mono (by omega))
      have HB15 : Hid (Below W1.heap.size W1 w5) := HB13.out.trans (hb5.mono (Nat.le_of_eq HW1s.out))
      have hnd5 := (HB15.out.block _ (Array.getElem?_eq_some_iff.1 HM.out).1).trans HM.out
      obtain ⟨d0, d1, d2, d3, d4, d5, d6, dlt⟩ := sev_at hnd5
      have HO5 : Hid (w5.ownsRow (w.heap.size + 1) 5 1 v1 (out ++ GS.data.toList).length ((out ++ GS.data.toList).map B)) := by
        show World.ownsRow _ _ _ _ _ _ _
        rw [List.length_append, ← HON.out, HGz.out.1, HGz.out.2.1, List.map_append]
        exact hown5
      have HLn : Hid ((out.length + GS.data.toList.length : Nat) = ON + GS.size) := by show _ = _; rw [← HON.out, HGz.out.1, HGz.out.2.1]
      obtain ⟨va, vc, ev1⟩ := own_form hown5
      subst ev1
      clear hown5 hgrow hb5 ho3 hnd5
      by_cases hgt : sz < ON + GS.size
      · have HRe : Hid (R = ([], 4)) := HSz.out (by rw [HLn.out]; exact_mod_cast hgt)
        clear HSz HSy
        go_wp2_with fail
        go_ret2
        exact ⟨by rw [HRe.out]; rfl, HB5.out, by rw [HRe.out]; simp⟩
      · have HRn : Hid (R = Wk.reapFile (pl bs) sz (parts.drop (j + 1)) (out ++ GS.data.toList)) := HSy.out (by rw [HLn.out]; omega)
        have ho5 : (out ++ GS.data.toList).length ≤ 4096 := by rw [List.length_append, HLn.out]; omega
        have ho6 : (((out ++ GS.data.toList).length : Nat) : Int) ≤ sz := by rw [List.length_append, HLn.out]; omega
        clear HSz HSy
        go_wp2_with fail
        go_roundw
        case measure => simp only [intOf]; omega
        case rel => exact ⟨j + 1, out ++ GS.data.toList, by omega, by go_num, ho5, ho6, HRn, HO5, HB5, HB15⟩
    · obtain rfl : j = N := by omega
      have hRz : R = if (out.length : Int) ≠ sz then ([], 4) else (out, 0) := by
        have e : parts.drop j = [] := by rw [HN.out]; exact List.drop_of_length_le (Nat.le_refl _)
        rw [HR.out, e]; rfl
      have hstr := run_str HO.out
      have HOl : Hid (out.length ≤ 4096) := ho1
      by_cases hsz : out.length < sz
      · have HRe : Hid (R = ([], 4)) := by show _ = _; rw [hRz, if_pos (by omega)]
        generalize out.length = ON at *
        clear hRz HR
        go_wp2_with fail
        go_ret2
        exact ⟨by rw [HRe.out]; rfl, HB.out, by rw [HRe.out]; simp⟩
      · have HRe : Hid (R = (out, 0)) := by show _ = _; rw [hRz, if_neg (by omega)]
        obtain ⟨OS, hOS⟩ : ∃ OS : ByteArray, OS = ⟨out.toArray⟩ := ⟨_, rfl⟩
        have HOS : Hid (OS = ⟨out.toArray⟩) := hOS
        rw [← hOS] at hstr
        generalize hON : out.length = ON at *
        clear hRz HR hOS
        go_wp2_with fail
        go_ret2
        exact ⟨by rw [HRe.out, HOS.out]; rfl, HB.out, by rw [HRe.out]; show out.length ≤ 4096; rw [hON]; exact HOl.out⟩

end Go.Proofs.YtimdioacmojkeaaDoor

namespace Go.Proofs.YtimdioacmojkeaaDoor
namespace Td

/-- what is left, and the first error -/
abbrev St := Bs × Int

def tk (k : Nat) (e : Int) (x : St) : Bool × St := if x.2 ≠ 0 then (false, x) else if e ≠ 0 then (false, (x.1, e)) else (true, (x.1.drop k, 0))

def nuE (most : Nat) (s : Bs) : Int := if (Nm.getN s).2.2 = 0 ∧ most < (Nm.getN s).1 then 2 else (Nm.getN s).2.2

def sNum (most : Nat) (x : St) : Nat × St := (if (tk (Nm.getN x.1).2.1 (nuE most x.1) x).1 = true then (Nm.getN x.1).1 else 0, (tk (Nm.getN x.1).2.1 (nuE most x.1) x).2)

def sInt (x : St) : Int × St := (if (tk (Nm.getI x.1).2.1 (Nm.getI x.1).2.2 x).1 = true then (Nm.getI x.1).1 else 0, (tk (Nm.getI x.1).2.1 (Nm.getI x.1).2.2 x).2)

def sTxt (x : St) : Bs × St := (if (tk (Nm.getT x.1).2.1 (Nm.getT x.1).2.2 x).1 = true then (Nm.getT x.1).1 else [], (tk (Nm.getT x.1).2.1 (Nm.getT x.1).2.2 x).2)

def shE (k : Nat) (s : Bs) : Int := if s.length < k then 3 else 0

def sByt (k : Nat) (x : St) : Bs × St := (if (tk k (shE k x.1) x).1 = true then x.1.take k else [], (tk k (shE k x.1) x).2)

def sKind (x : St) : Nat × St := (((sByt 1 x).1.headD 0).toNat, (sByt 1 x).2)

def eight (s : Bs) : Bs := s ++ List.replicate (8 - s.length) 0

def sIds : Nat → St → List Bs × St
  | 0, x => ([], x)
  | j + 1, x => ((sIds j x).1 ++ [eight (sByt 8 (sIds j x).2).1], (sByt 8 (sIds j x).2).2)

def sParts (x : St) : List Bs × St := sIds (sNum 300 x).1 (sNum 300 x).2

def sNode (x : St) : Nd × St :=
  let a := sTxt x
  let b := sKind a.2
  let c := sNum 511 b.2
  let d := sInt c.2
  let e := sNum 4096 d.2
  let f := sParts e.2
  let g := sTxt f.2
  (⟨a.1, b.1, c.1, d.1, e.1, f.1, g.1⟩, g.2)

def sAll : Nat → St → List Nd × St
  | 0, x => ([], x)
  | j + 1, x => ((sAll j x).1 ++ [(sNode (sAll j x).2).1], (sNode (sAll j x).2).2)

/-! what has an error stays -/
theorem tk_stay {k : Nat} {e : Int} {x : St} (h : x.2 ≠ 0) : tk k e x = (false, x) := by unfold tk; rw [if_pos h]

theorem tk_err {k : Nat} {e : Int} {s : Bs} (h : e ≠ 0) : tk k e (s, 0) = (false, (s, e)) := by unfold tk; rw [if_neg (fun q => q rfl), if_pos h]

theorem tk_ok {k : Nat} {s : Bs} : tk k 0 (s, 0) = (true, (s.drop k, 0)) := by unfold tk; rw [if_neg (fun q => q rfl), if_neg (fun q => q rfl)]

theorem sNum_stay {m : Nat} {x : St} (h : x.2 ≠ 0) : sNum m x = (0, x) := by unfold sNum; rw [tk_stay h]; rfl

theorem sInt_stay {x : St} (h : x.2 ≠ 0) : sInt x = (0, x) := by unfold sInt; rw [tk_stay h]; rfl

theorem sTxt_stay {x : St} (h : x.2 ≠ 0) : sTxt x = ([], x) := by unfold sTxt; rw [tk_stay h]; rfl

theorem sByt_stay {k : Nat} {x : St} (h : x.2 ≠ 0) : sByt k x = ([], x) := by unfold sByt; rw [tk_stay h]; rfl

theorem sKind_stay {x : St} (h : x.2 ≠ 0) : sKind x = (0, x) := by unfold sKind; rw [sByt_stay h]; rfl

theorem sIds_stay {x : St} (h : x.2 ≠ 0) : ∀ j, (sIds j x).2 = x
  | 0 => rfl
  | j + 1 => by
    have i := sIds_stay h j
    show (sByt 8 (sIds j x).2).2 = x
    rw [i, sByt_stay h]

theorem sParts_stay {x : St} (h : x.2 ≠ 0) : (sParts x).2 = x := by unfold sParts; rw [sNum_stay h]; rfl

theorem sNode_stay {x : St} (h : x.2 ≠ 0) : (sNode x).2 = x := by
  unfold sNode
  simp only [sTxt_stay h, sKind_stay h, sNum_stay h, sInt_stay h, sParts_stay h]

theorem sAll_stay {x : St} (h : x.2 ≠ 0) : ∀ j, (sAll j x).2 = x
  | 0 => rfl
  | j + 1 => by
    have i := sAll_stay h j
    show (sNode (sAll j x).2).2 = x
    rw [i, sNode_stay h]

/-! as the plain reading says -/
theorem sNum_ok {m n : Nat} {s r : Bs} (h : num m s = (n, r, 0)) : sNum m (s, 0) = (n, (r, 0)) := by
  unfold num at h
  simp only at h
  split at h
  · rename_i q; exact absurd (congrArg (fun q => q.2.2) h) q
  · rename_i q
    split at h
    · exact absurd (congrArg (fun q => q.2.2) h) (by simp)
    · rename_i q2
      have e1 : (Nm.getN s).1 = n := congrArg (fun q => q.1) h
      have e2 : s.drop (Nm.getN s).2.1 = r := congrArg (fun q => q.2.1) h
      have e3 : nuE m s = 0 := by unfold nuE; rw [if_neg (fun k => q2 k.2)]; exact Decidable.not_not.mp q
      unfold sNum
      simp only [e3, tk_ok, e1, e2, if_true]

theorem sNum_err {m n : Nat} {s r : Bs} {e : Int} (h : num m s = (n, r, e)) (he : e ≠ 0) : (sNum m (s, 0)).2 = (s, e) := by
  have : nuE m s = e := by
    unfold num at h
    simp only at h
    split at h
    · rename_i q
      unfold nuE
      rw [if_neg (fun k => q k.1)]
      exact congrArg (fun q => q.2.2) h
    · rename_i q
      split at h
      · rename_i q2
        unfold nuE
        rw [if_pos ⟨Decidable.not_not.mp q, q2⟩]
        exact congrArg (fun q => q.2.2) h
      · exact absurd (congrArg (fun q => q.2.2) h).symm he
  unfold sNum
  simp only [this, tk_err he]

theorem sInt_ok {k : Nat} {i : Int} {s : Bs} (h : Nm.getI s = (i, k, 0)) : sInt (s, 0) = (i, (s.drop k, 0)) := by
  unfold sInt; simp only [h, tk_ok, if_true]

theorem sInt_err {k : Nat} {i e : Int} {s : Bs} (h : Nm.getI s = (i, k, e)) (he : e ≠ 0) : (sInt (s, 0)).2 = (s, e) := by
  unfold sInt; simp only [h, tk_err he]

theorem sTxt_ok {k : Nat} {t s : Bs} (h : Nm.getT s = (t, k, 0)) : sTxt (s, 0) = (t, (s.drop k, 0)) := by
  unfold sTxt; simp only [h, tk_ok, if_true]

theorem sTxt_err {k : Nat} {e : Int} {t s : Bs} (h : Nm.getT s = (t, k, e)) (he : e ≠ 0) : (sTxt (s, 0)).2 = (s, e) := by
  unfold sTxt; simp only [h, tk_err he]

theorem sByt_ok {k : Nat} {s : Bs} (h : k ≤ s.length) : sByt k (s, 0) = (s.take k, (s.drop k, 0)) := by
  have : shE k s = 0 := by unfold shE; rw [if_neg (by omega)]
  unfold sByt; simp only [this, tk_ok, if_true]

theorem sByt_err {k : Nat} {s : Bs} (h : s.length < k) : (sByt k (s, 0)).2 = (s, 3) := by
  have : shE k s = 3 := by unfold shE; rw [if_pos h]
  unfold sByt; simp only [this, tk_err (show (3 : Int) ≠ 0 by decide)]

theorem sKind_ok {s : Bs} (h : s ≠ []) : sKind (s, 0) = ((s.headD 0).toNat, (s.tail, 0)) := by
  unfold sKind
  cases s with
  | nil => exact absurd rfl h
  | cons a b => rw [sByt_ok (by simp)]; simp

theorem sKind_err : (sKind ([], 0)).2 = ([], 3) := by unfold sKind; rw [sByt_err (by simp)]

theorem eights_snoc : ∀ (j : Nat) (l : Bs), eights (j + 1) l = eights j l ++ [(l.drop (8 * j)).take 8]
  | 0, l => rfl
  | j + 1, l => by
    rw [eights, eights_snoc j (l.drop 8), List.drop_drop, show 8 + 8 * j = 8 * (j + 1) from by omega]
    rfl

theorem eight_id {s : Bs} (h : s.length = 8) : eight s = s := by unfold eight; rw [h]; simp

theorem sIds_ok {s : Bs} : ∀ {j : Nat}, 8 * j ≤ s.length → sIds j (s, 0) = (eights j s, (s.drop (8 * j), 0))
  | 0, _ => rfl
  | j + 1, h => by
    have i := sIds_ok (s := s) (j := j) (by omega)
    have l8 : 8 ≤ (s.drop (8 * j)).length := by rw [List.length_drop]; omega
    rw [sIds, i]
    simp only
    rw [sByt_ok l8, eights_snoc, eight_id (by rw [List.length_take]; omega), List.drop_drop, show 8 * j + 8 = 8 * (j + 1) from by omega]

theorem sIds_err {s : Bs} : ∀ {j : Nat}, s.length < 8 * j → (sIds j (s, 0)).2.2 = 3
  | 0, h => absurd h (by omega)
  | j + 1, h => by
    show (sByt 8 (sIds j (s, 0)).2).2.2 = 3
    by_cases q : s.length < 8 * j
    · have i := sIds_err q
      rw [sByt_stay (by rw [i]; decide)]
      exact i
    · rw [sIds_ok (by omega)]
      simp only
      rw [sByt_err (by rw [List.length_drop]; omega)]

theorem sNode_rd (s : Bs) : ((rdOne s).2.2 = 0 → sNode (s, 0) = ((rdOne s).1, ((rdOne s).2.1, 0))) ∧ ((rdOne s).2.2 ≠ 0 → (sNode (s, 0)).2.2 = (rdOne s).2.2) := by
  unfold rdOne sNode
  rcases ht : Nm.getT s with ⟨t, kt, et⟩
  simp only
  by_cases q1 : et ≠ 0
  · rw [if_pos q1]
    have k := sTxt_err ht q1
    have z : (sTxt (s, 0)).2.2 ≠ 0 := by rw [k]; exact q1
    simp only [sKind_stay z, sNum_stay z, sInt_stay z, sParts_stay z, sTxt_stay z]
    exact ⟨fun h => absurd h q1, fun _ => by rw [k]⟩
  obtain rfl := Decidable.not_not.mp q1
  rw [if_neg q1, sTxt_ok ht]
  simp only
  by_cases q2 : s.drop kt = []
  · rw [if_pos q2, q2]
    have k := sKind_err
    have z : (sKind ([], 0)).2.2 ≠ 0 := by rw [k]; decide
    simp only [sNum_stay z, sInt_stay z, sParts_stay z, sTxt_stay z]
    exact ⟨fun h => absurd h (by decide), fun _ => by rw [k]⟩
  rw [if_neg q2, sKind_ok q2]
  simp only
  rcases hm : num 511 (s.drop kt).tail with ⟨m, s2, em⟩
  simp only
  by_cases q3 : em ≠ 0
  · rw [if_pos q3]
    have k := sNum_err hm q3
    have z : (sNum 511 ((s.drop kt).tail, 0)).2.2 ≠ 0 := by rw [k]; exact q3
    simp only [sNum_stay z, sInt_stay z, sParts_stay z, sTxt_stay z]
    exact ⟨fun h => absurd h q3, fun _ => by rw [k]⟩
  obtain rfl := Decidable.not_not.mp q3
  rw [if_neg q3, sNum_ok hm]
  simp only
  rcases hi : Nm.getI s2 with ⟨i, ki, ei⟩
  simp only
  by_cases q4 : ei ≠ 0
  · rw [if_pos q4]
    have k := sInt_err hi q4
    have z : (sInt (s2, 0)).2.2 ≠ 0 := by rw [k]; exact q4
    simp only [sNum_stay z, sParts_stay z, sTxt_stay z]
    exact ⟨fun h => absurd h q4, fun _ => by rw [k]⟩
  obtain rfl := Decidable.not_not.mp q4
  rw [if_neg q4, sInt_ok hi]
  simp only
  rcases hz : num 4096 (s2.drop ki) with ⟨z, s3, ez⟩
  simp only
  by_cases q5 : ez ≠ 0
  · rw [if_pos q5]
    have k := sNum_err hz q5
    have z : (sNum 4096 (s2.drop ki, 0)).2.2 ≠ 0 := by rw [k]; exact q5
    simp only [sParts_stay z, sTxt_stay z]
    exact ⟨fun h => absurd h q5, fun _ => by rw [k]⟩
  obtain rfl := Decidable.not_not.mp q5
  rw [if_neg q5, sNum_ok hz]
  simp only
  rcases hp : num 300 s3 with ⟨p, s4, ep⟩
  simp only
  by_cases q6 : ep ≠ 0
  · rw [if_pos q6]
    have k := sNum_err hp q6
    have z : (sParts (s3, 0)).2 = (s3, ep) := by
      unfold sParts
      rw [sIds_stay (by rw [k]; exact q6), k]
    have z2 : (sParts (s3, 0)).2.2 ≠ 0 := by rw [z]; exact q6
    simp only [sTxt_stay z2]
    exact ⟨fun h => absurd h q6, fun _ => by rw [z]⟩
  obtain rfl := Decidable.not_not.mp q6
  rw [if_neg q6]
  have hsp : sParts (s3, 0) = sIds p (s4, 0) := by unfold sParts; rw [sNum_ok hp]
  rw [hsp]
  by_cases q7 : s4.length < 8 * p
  · rw [if_pos q7]
    have k := sIds_err q7
    have z : (sIds p (s4, 0)).2.2 ≠ 0 := by rw [k]; decide
    simp only [sTxt_stay z]
    exact ⟨fun h => absurd h (by decide), fun _ => k⟩
  rw [if_neg q7, sIds_ok (by omega)]
  simp only
  rcases hk : Nm.getT (s4.drop (8 * p)) with ⟨k, kk, ek⟩
  simp only
  by_cases q8 : ek ≠ 0
  · rw [if_pos q8]
    have k := sTxt_err hk q8
    exact ⟨fun h => absurd h q8, fun _ => by rw [k]⟩
  obtain rfl := Decidable.not_not.mp q8
  rw [if_neg q8, sTxt_ok hk]
  exact ⟨fun _ => rfl, fun h => absurd rfl h⟩

theorem sAll_rd (s : Bs) (m : Nat) : ∀ j, j ≤ m → ((sAll j (s, 0)).2.2 = 0 → rdAll m s [] = rdAll (m - j) (sAll j (s, 0)).2.1 (sAll j (s, 0)).1) ∧ ((sAll j (s, 0)).2.2 ≠ 0 → rdAll m s [] = ([], (sAll j (s, 0)).2.2))
  | 0, _ => ⟨fun _ => rfl, fun h => absurd rfl h⟩
  | j + 1, hj => by
    obtain ⟨i1, i2⟩ := sAll_rd s m j (by omega)
    have e2 : (sAll (j + 1) (s, 0)).2 = (sNode (sAll j (s, 0)).2).2 := rfl
    have e1 : (sAll (j + 1) (s, 0)).1 = (sAll j (s, 0)).1 ++ [(sNode (sAll j (s, 0)).2).1] := rfl
    rw [e2, e1]
    generalize sAll j (s, 0) = A at *
    obtain ⟨L, r, e⟩ := A
    simp only at i1 i2 ⊢
    by_cases he : e ≠ 0
    · rw [sNode_stay (x := (r, e)) he]
      exact ⟨fun h => absurd h he, fun _ => i2 he⟩
    obtain rfl := Decidable.not_not.mp he
    rw [i1 rfl, show m - j = (m - (j + 1)) + 1 from by omega, rdAll]
    obtain ⟨n1, n2⟩ := sNode_rd r
    by_cases h1 : (rdOne r).2.2 = 0
    · rw [n1 h1]
      simp only
      rw [if_neg (fun k => k h1)]
      exact ⟨fun _ => rfl, fun h => absurd rfl h⟩
    · rw [n2 h1]
      exact ⟨fun h => absurd h h1, fun _ => by rw [if_pos h1]⟩

/-- what Read says, by such a reader -/
theorem read_st {s : Bs} (h : ¬ 4096 < s.length) {L : List Nd} {r : Bs} {e : Int} (hA : sAll (sNum 64 (s, 0)).1 (sNum 64 (s, 0)).2 = (L, (r, e))) :
    read s = if e ≠ 0 then ([], e) else if r ≠ [] then ([], 4) else if check L ≠ 0 then ([], check L) else (L, 0) := by
  unfold read
  rw [if_neg h]
  rcases hg : num 64 s with ⟨n, k, eg⟩
  simp only
  by_cases hq : eg ≠ 0
  · rw [if_pos hq]
    have z := sNum_err hg hq
    have y := sAll_stay (x := (sNum 64 (s, 0)).2) (by rw [z]; exact hq) (sNum 64 (s, 0)).1
    rw [hA, z] at y
    obtain rfl : e = eg := congrArg (fun q => q.2) y
    rw [if_pos hq]
  · rw [if_neg hq]
    obtain rfl := Decidable.not_not.mp hq
    rw [sNum_ok hg] at hA
    obtain ⟨a1, a2⟩ := sAll_rd k n n (Nat.le_refl _)
    simp only at hA
    rw [hA] at a1 a2
    simp only at a1 a2
    by_cases he : e ≠ 0
    · rw [if_pos he, a2 he]
    · rw [if_neg he, a1 (Decidable.not_not.mp he), Nat.sub_self, rdAll]

/-! bounds -/
theorem tk_len (k : Nat) (e : Int) (x : St) : (tk k e x).2.1.length ≤ x.1.length := by
  unfold tk; split
  · exact Nat.le_refl _
  · split
    · exact Nat.le_refl _
    · simp

theorem tk_true {k : Nat} {e : Int} {x : St} (h : (tk k e x).1 = true) : x.2 = 0 ∧ e = 0 := by
  unfold tk at h
  split at h
  · cases h
  · rename_i q
    split at h
    · cases h
    · rename_i q2
      exact ⟨Decidable.not_not.mp q, Decidable.not_not.mp q2⟩

theorem sNum_most (m : Nat) (x : St) : (sNum m x).1 ≤ m := by
  unfold sNum
  simp only
  split
  · rename_i h
    have := (tk_true h).2
    unfold nuE at this
    split at this
    · cases this
    · rename_i q
      by_cases h2 : m < (Nm.getN x.1).1
      · exact absurd ⟨this, h2⟩ q
      · omega
  · exact Nat.zero_le _

theorem sNum_len (m : Nat) (x : St) : (sNum m x).2.1.length ≤ x.1.length := tk_len _ _ _

theorem sInt_len (x : St) : (sInt x).2.1.length ≤ x.1.length := tk_len _ _ _

theorem sTxt_len (x : St) : (sTxt x).2.1.length ≤ x.1.length := tk_len _ _ _

theorem sByt_len (k : Nat) (x : St) : (sByt k x).2.1.length ≤ x.1.length := tk_len _ _ _

theorem sKind_len (x : St) : (sKind x).2.1.length ≤ x.1.length := tk_len _ _ _

theorem sIds_len (x : St) : ∀ j, (sIds j x).2.1.length ≤ x.1.length
  | 0 => Nat.le_refl _
  | j + 1 => Nat.le_trans (sByt_len 8 _) (sIds_len x j)

theorem sParts_len (x : St) : (sParts x).2.1.length ≤ x.1.length := Nat.le_trans (sIds_len _ _) (sNum_len _ _)

theorem sInt_bd (x : St) : -9223372036854775808 ≤ (sInt x).1 ∧ (sInt x).1 ≤ 9223372036854775807 := by
  unfold sInt
  simp only
  split
  · rename_i h
    rcases hg : Nm.getI x.1 with ⟨i, k, e⟩
    rw [hg] at h
    have he := (tk_true h).2
    simp only at he
    subst he
    obtain ⟨_, a, b, _⟩ := Nm.getI_one hg
    exact ⟨a, b⟩
  · exact ⟨by decide, by decide⟩

theorem sTxt_bd (x : St) : (sTxt x).1.length ≤ 1024 := by
  unfold sTxt
  simp only
  split
  · rename_i h
    rcases hg : Nm.getT x.1 with ⟨t, k, e⟩
    rw [hg] at h
    have he := (tk_true h).2
    simp only at he
    subst he
    exact (Nm.getT_one hg).2.1
  · simp

theorem sByt_bd (k : Nat) (x : St) : (sByt k x).1.length ≤ k := by
  unfold sByt
  simp only
  split
  · rw [List.length_take]; omega
  · simp

theorem eight_len {s : Bs} (h : s.length ≤ 8) : (eight s).length = 8 := by unfold eight; rw [List.length_append, List.length_replicate]; omega

theorem sIds_bd (x : St) : ∀ j, (sIds j x).1.length = j ∧ ∀ p ∈ (sIds j x).1, p.length = 8
  | 0 => ⟨rfl, fun p h => absurd h List.not_mem_nil⟩
  | j + 1 => by
    obtain ⟨a, b⟩ := sIds_bd x j
    refine ⟨by show ((sIds j x).1 ++ [_]).length = _; rw [List.length_append, a]; rfl, fun p hp => ?_⟩
    rcases List.mem_append.1 (show p ∈ (sIds j x).1 ++ [eight (sByt 8 (sIds j x).2).1] from hp) with h | h
    · exact b p h
    · rw [List.mem_singleton.1 h]; exact eight_len (sByt_bd _ _)

theorem sParts_bd (x : St) : (sParts x).1.length ≤ 300 ∧ ∀ p ∈ (sParts x).1, p.length = 8 := by
  obtain ⟨a, b⟩ := sIds_bd (sNum 300 x).2 (sNum 300 x).1
  exact ⟨by show (sIds _ _).1.length ≤ _; rw [a]; exact sNum_most _ _, b⟩

theorem sKind_bd (x : St) : (sKind x).1 ≤ 255 := by
  unfold sKind
  simp only
  have := ((sByt 1 x).1.headD 0).toNat_lt
  omega

theorem sNode_len (x : St) : (sNode x).2.1.length ≤ x.1.length := by
  unfold sNode
  simp only
  exact Nat.le_trans (sTxt_len _) (Nat.le_trans (sParts_len _) (Nat.le_trans (sNum_len _ _) (Nat.le_trans (sInt_len _) (Nat.le_trans (sNum_len _ _) (Nat.le_trans (sKind_len _) (sTxt_len _))))))

theorem sAll_len (x : St) : ∀ j, (sAll j x).2.1.length ≤ x.1.length ∧ (sAll j x).1.length = j
  | 0 => ⟨Nat.le_refl _, rfl⟩
  | j + 1 => by
    obtain ⟨a, b⟩ := sAll_len x j
    refine ⟨Nat.le_trans (sNode_len _) a, ?_⟩
    show ((sAll j x).1 ++ [_]).length = _
    rw [List.length_append, b]
    rfl

end Td

end Go.Proofs.YtimdioacmojkeaaDoor

namespace Go.Proofs.YtimdioacmojkeaaDoor
open Go.RowKit

/-- where the first node of that name stands, or -1 -/
def ixOf (l : List Td.Nd) (s : List UInt8) : Int := match l.findIdx? (fun n => n.name == s) with
  | none => -1
  | some k => k

theorem ixOf_le (l : List Td.Nd) (s : List UInt8) {n : Nat} (h : l.length ≤ n) : ixOf l s ≤ n := by
  unfold ixOf
  cases hk : l.findIdx? fun n => n.name == s with
  | none => show (-1 : Int) ≤ n; omega
  | some k =>
    have := (List.findIdx?_eq_some_iff_getElem.1 hk).1
    show (k : Int) ≤ n
    omega

theorem findIdx_none {l : List Td.Nd} {s : List UInt8} (h : ∀ n ∈ l, (n.name == s) = false) : ixOf l s = -1 := by
  unfold ixOf
  rw [List.findIdx?_eq_none_iff.2 h]

theorem findIdx_at {l : List Td.Nd} {s : List UInt8} {k : Nat} (hk : k < l.length) (h : ∀ j (hj : j < k), (l[j].name == s) = false) (hs : (l[k].name == s) = true) : ixOf l s = k := by
  unfold ixOf
  rw [List.findIdx?_eq_some_iff_getElem.2 ⟨hk, hs, fun j hj => by rw [h j hj]; simp⟩]
end Go.Proofs.YtimdioacmojkeaaDoor

namespace Go.Proofs
open Go.Shelf
def Tryd.laysValid_ren : Go.Shelf.Ren := ⟨fun | 196 => 87 | 259 => 99 | n => n, fun | 9 => 9 | 4 => 4 | 3 => 3 | 5 => 5 | 12 => 12 | 119 => 144 | 0 => 0 | 46 => 95 | 139 => 147 | 138 => 146 | 53 => 77 | n => n, fun | 3 => 1 | 4 => 2 | n => n⟩
theorem Tryd.laysValid : Go.Proofs.Lays.n196 Tryd.prog Tryd.laysValid_ren := {
  mixed := by kernel_rfl
  f196 := Tryd.func87.trans (congrArg some (by kernel_rfl))
  f259 := Tryd.func99.trans (congrArg some (by kernel_rfl))
  t0 := Tryd.underlying0
  a0 := Tryd.isAgg0
  z0 := Tryd.sizeOf0
  v0 := Tryd.zeroValue0
  t3 := Tryd.underlying3
  a3 := Tryd.isAgg3
  z3 := Tryd.sizeOf3
  v3 := Tryd.zeroValue3
  t4 := Tryd.underlying4
  a4 := Tryd.isAgg4
  z4 := Tryd.sizeOf4
  v4 := Tryd.zeroValue4
  t5 := Tryd.underlying5
  a5 := Tryd.isAgg5
  z5 := Tryd.sizeOf5
  v5 := Tryd.zeroValue5
  t9 := Tryd.underlying9
  a9 := Tryd.isAgg9
  z9 := Tryd.sizeOf9
  v9 := Tryd.zeroValue9
  t12 := Tryd.underlying12
  a12 := Tryd.isAgg12
  z12 := Tryd.sizeOf12
  v12 := Tryd.zeroValue12
  t46 := Tryd.underlying95
  a46 := Tryd.isAgg95
  z46 := Tryd.sizeOf95
  v46 := Tryd.zeroValue95
  t53 := Tryd.underlying77
  a53 := Tryd.isAgg77
  z53 := Tryd.sizeOf77
  v53 := Tryd.zeroValue77
  t119 := Tryd.underlying144
  a119 := Tryd.isAgg144
  z119 := Tryd.sizeOf144
  t138 := Tryd.underlying146
  a138 := Tryd.isAgg146
  z138 := Tryd.sizeOf146
  v138 := Tryd.zeroValue146
  t139 := Tryd.underlying147
  a139 := Tryd.isAgg147
  z139 := Tryd.sizeOf147
  v139 := Tryd.zeroValue147
  g3 := by kernel_rfl
  g4 := by kernel_rfl }
end Go.Proofs

namespace Go.Proofs.YtimdioacmojkeaaDoor
open Go.RowKit

theorem valid_any (s : ByteArray) (w : World) (hs : s.size ≤ 9223372036854775807) (hT : Tabs w) :
    Calls Tryd.prog 87 #[.string s] w fun e w' => e = .returned (.bool (Lib.validD s.data.toList)) ∧ Below w.heap.size w w' :=
  Any.utf8_ValidString Tryd.laysValid s w hs hT
theorem check_any (s : ByteArray) (w : World) (hs : s.size ≤ 9223372036854775807) (hT : Tabs w) :
    Calls Tryd.prog 67 #[.string s] w fun e w' => e = .returned (.int .i64 (Nn.nm s.data.toList)) ∧ Below w.heap.size w w' :=
  check_of s w hs (valid_any s w hs hT)
end Go.Proofs.YtimdioacmojkeaaDoor

namespace Go.Proofs.YtimdioacmojkeaaDoor
open Go.RowKit
set_option maxRecDepth 4000

/-- a node that is not as its kind asks -/
def Td.Bad (n : Td.Nd) : Prop := (n.kind = 1 ∧ n.link ≠ []) ∨ (1 < n.kind ∧ n.size ≠ 0) ∨ (n.kind = 2 ∧ (n.parts.length ≠ 1 ∨ n.link ≠ [])) ∨ (n.kind = 3 ∧ (n.parts.length ≠ 0 ∨ n.link = []))

theorem upto_any (n m : Int) (b : Bool) (w : World) (hb : decide (0 ≤ n ∧ n ≤ m) = b) : Calls Tryd.prog 68 #[.int .i64 n, .int .i64 m] w fun e w' => e = .returned (.bool b) ∧ w' = w := by
  by_cases h0 : 0 ≤ n
  · by_cases h1 : n ≤ m
    · obtain rfl : b = true := by rw [← hb]; exact decide_eq_true ⟨h0, h1⟩
      clear hb
      go_enter Tryd.func68, Tryd.ntmps68
      go_wp2_with fail
      go_ret
      exact ⟨rfl, rfl⟩
    · obtain rfl : b = false := by rw [← hb]; exact decide_eq_false (fun q => h1 q.2)
      clear hb
      go_enter Tryd.func68, Tryd.ntmps68
      go_wp2_with fail
      go_ret
      exact ⟨rfl, rfl⟩
  · obtain rfl : b = false := by rw [← hb]; exact decide_eq_false (fun q => h0 q.1)
    clear hb
    go_enter Tryd.func68, Tryd.ntmps68
    go_wp2_with fail
    go_ret
    exact ⟨rfl, rfl⟩

theorem iskind_any (n : Int) (b : Bool) (w : World) (hb : decide (1 ≤ n ∧ n ≤ 3) = b) : Calls Tryd.prog 69 #[.int .i64 n] w fun e w' => e = .returned (.bool b) ∧ w' = w := by
  subst hb
  by_cases h1 : n = 1
  · subst h1
    go_enter Tryd.func69, Tryd.ntmps69
    go_wp2_with fail
    go_ret
    exact ⟨by simp, rfl⟩
  by_cases h2 : n = 2
  · subst h2
    go_enter Tryd.func69, Tryd.ntmps69
    go_wp2_with fail
    go_ret
    exact ⟨by simp, rfl⟩
  by_cases h3 : n = 3
  · subst h3
    go_enter Tryd.func69, Tryd.ntmps69
    go_wp2_with fail
    go_ret
    exact ⟨by simp, rfl⟩
  have q1 : (n == 1) = false := beq_eq_false_iff_ne.2 h1
  have q2 : (n == 2) = false := beq_eq_false_iff_ne.2 h2
  have q3 : (n == 3) = false := beq_eq_false_iff_ne.2 h3
  have hr : decide (1 ≤ n ∧ n ≤ 3) = false := decide_eq_false (by omega)
  rw [hr]
  clear hr h1 h2 h3
  go_enter Tryd.func69, Tryd.ntmps69
  go_wp2_with fail
  go_ret
  exact ⟨by simp, rfl⟩

set_option maxHeartbeats 2000000 in
set_option maxRecDepth 10000 in
theorem asks_any (n : Nod) (a : Option Addr) (c : Nat) (b : Bool) (w : World) (hk : n.kind = 1 ∨ n.kind = 2 ∨ n.kind = 3) (hb : b = true ↔ ¬ Td.Bad n.nd) :
    Calls Tryd.prog 70 #[ndV n (.slice a n.parts.length c)] w fun e w' => e = .returned (.bool b) ∧ Below w.heap.size w w' := by
  unfold Td.Bad at hb
  have HBd : Hid (b = true ↔ ¬ ((n.kind = 1 ∧ n.link.data.toList ≠ []) ∨ (1 < n.kind ∧ n.size ≠ 0) ∨ (n.kind = 2 ∧ (n.parts.length ≠ 1 ∨ n.link.data.toList ≠ [])) ∨ (n.kind = 3 ∧ (n.parts.length ≠ 0 ∨ n.link.data.toList = [])))) := hb
  have HF : ∀ {P : Prop}, (b = true ↔ ¬ P) → P → b = false := fun h p => by cases b with | false => rfl | true => exact absurd p (h.1 rfl)
  obtain ⟨W1, hW1⟩ : ∃ W1, W1 = w.alloc (.cells (ndC n (.slice a n.parts.length c)).toArray 54) := ⟨_, rfl⟩
  have HB : Hid (Below w.heap.size w W1) := by rw [hW1]; exact (Below.refl _ w).alloc (Nat.le_refl _) _
  have HM1 : Hid (W1.heap[w.heap.size]? = some (.cells (ndC n (.slice a n.parts.length c)).toArray 54 (0, 0))) := by rw [hW1]; exact heap_alloc_new w _
  clear hb
  generalize n.parts.length = P at *
  obtain ⟨name, kind, mode, time, size, parts, link⟩ := n
  dsimp only at *
  go_enter Tryd.func70, Tryd.ntmps70
  go_upto_region 1 with fail
  rw [← hW1]
  obtain ⟨m0, m1, m2, m3, m4, m5, m6⟩ := seven_at HM1.out
  clear hW1 HM1 m0 m2 m3
  obtain ⟨bk, hbk⟩ : ∃ bk, bk = w.heap.size := ⟨_, rfl⟩
  rw [← hbk] at m1 m4 m5 m6 ⊢
  clear hbk
  obtain rfl | rfl | rfl : kind = 1 ∨ kind = 2 ∨ kind = 3 := by omega
  · by_cases hl : link.data.toList = []
    · obtain rfl := of_data hl
      have HR : Hid (b = true) := HBd.out.2 (by simp)
      clear HBd HF
      go_wp2_with fail
      go_ret
      exact ⟨by rw [HR.out]; rfl, HB.out⟩
    · have e1 : (link.toList == []) = false := data_ne hl
      have HR : Hid (b = false) := HF HBd.out (.inl ⟨rfl, hl⟩)
      clear HBd HF
      go_wp2_with fail
      go_ret
      exact ⟨by rw [HR.out]; rfl, HB.out⟩
  · by_cases hz : size = 0
    · subst hz
      by_cases hp : P = 1
      · subst hp
        by_cases hl : link.data.toList = []
        · obtain rfl := of_data hl
          have HR : Hid (b = true) := HBd.out.2 (by simp)
          clear HBd HF
          go_wp2_with fail
          go_ret
          exact ⟨by rw [HR.out]; rfl, HB.out⟩
        · have e1 : (link.toList == []) = false := data_ne hl
          have HR : Hid (b = false) := HF HBd.out (.inr (.inr (.inl ⟨rfl, .inr hl⟩)))
          clear HBd HF
          go_wp2_with fail
          go_ret
          exact ⟨by rw [HR.out]; rfl, HB.out⟩
      · have gp : ((P : Int) == 1) = false := by rw [beq_eq_false_iff_ne]; omega
        have HR : Hid (b = false) := HF HBd.out (.inr (.inr (.inl ⟨rfl, .inl hp⟩)))
        clear HBd HF hp
        go_wp2_with fail
        go_ret
        exact ⟨by rw [HR.out]; rfl, HB.out⟩
    · have gz : (size == 0) = false := by rw [beq_eq_false_iff_ne]; exact hz
      have HR : Hid (b = false) := HF HBd.out (.inr (.inl ⟨by omega, hz⟩))
      clear HBd HF hz
      go_wp2_with fail
      go_ret
      exact ⟨by rw [HR.out]; rfl, HB.out⟩
  · by_cases hz : size = 0
    · subst hz
      by_cases hp : P = 0
      · subst hp
        by_cases hl : link.data.toList = []
        · obtain rfl := of_data hl
          have HR : Hid (b = false) := HF HBd.out (.inr (.inr (.inr ⟨rfl, .inr hl⟩)))
          clear HBd HF
          go_wp2_with fail
          go_ret
          exact ⟨by rw [HR.out]; rfl, HB.out⟩
        · have e1 : (link.toList == []) = false := data_ne hl
          have HR : Hid (b = true) := HBd.out.2 (by simp [hl])
          clear HBd HF
          go_wp2_with fail
          go_ret
          exact ⟨by rw [HR.out]; rfl, HB.out⟩
      · have gp : ((P : Int) == 0) = false := by rw [beq_eq_false_iff_ne]; omega
        have HR : Hid (b = false) := HF HBd.out (.inr (.inr (.inr ⟨rfl, .inl hp⟩)))
        clear HBd HF hp
        go_wp2_with fail
        go_ret
        exact ⟨by rw [HR.out]; rfl, HB.out⟩
    · have gz : (size == 0) = false := by rw [beq_eq_false_iff_ne]; exact hz
      have HR : Hid (b = false) := HF HBd.out (.inr (.inl ⟨by omega, hz⟩))
      clear HBd HF hz
      go_wp2_with fail
      go_ret
      exact ⟨by rw [HR.out]; rfl, HB.out⟩

set_option maxHeartbeats 2000000 in
set_option maxRecDepth 10000 in
theorem cnode_any (n : Nod) (a : Option Addr) (c : Nat) (w : World) (hn : n.name.size ≤ 9223372036854775807) (hl : n.link.size ≤ 9223372036854775807) (hT : Tabs w) :
    Calls Tryd.prog 46 #[ndV n (.slice a n.parts.length c)] w fun e w' => e = .returned (.int .i64 (Td.nErr n.nd)) ∧ Below w.heap.size w w' := by
  have HT : Hid (Td.nErr n.nd = if Nn.nm n.name.data.toList ≠ 0 then Nn.nm n.name.data.toList
    else if n.mode < 0 ∨ 511 < n.mode ∨ n.size < 0 ∨ 4096 < n.size ∨ 300 < n.parts.length then 1
    else if n.kind < 1 ∨ 3 < n.kind then 5
    else if (n.kind = 1 ∧ n.link.data.toList ≠ []) ∨ (1 < n.kind ∧ n.size ≠ 0) ∨ (n.kind = 2 ∧ (n.parts.length ≠ 1 ∨ n.link.data.toList ≠ [])) ∨ (n.kind = 3 ∧ (n.parts.length ≠ 0 ∨ n.link.data.toList = [])) then 4
    else if 1024 < n.link.data.toList.length then 2 else 0) := rfl
  obtain ⟨W1, hW1⟩ : ∃ W1, W1 = w.alloc (.cells (ndC n (.slice a n.parts.length c)).toArray 54) := ⟨_, rfl⟩
  have HB1 : Hid (Below w.heap.size w W1) := by rw [hW1]; exact (Below.refl _ w).alloc (Nat.le_refl _) _
  have HM1 : Hid (W1.heap[w.heap.size]? = some (.cells (ndC n (.slice a n.parts.length c)).toArray 54 (0, 0))) := by rw [hW1]; exact heap_alloc_new w _
  have hr := check_any n.name W1 hn (hT.below HB1.out)
  have HAs : Hid (∀ b W, (n.kind = 1 ∨ n.kind = 2 ∨ n.kind = 3) → (b = true ↔ ¬ Td.Bad n.nd) → Calls Tryd.prog 70 #[ndV n (.slice a n.parts.length c)] W fun e w' => e = .returned (.bool b) ∧ Below W.heap.size W w') := fun b W => asks_any n a c b W
  have HBd : Hid (Td.Bad n.nd ↔ ((n.kind = 1 ∧ n.link.data.toList ≠ []) ∨ (1 < n.kind ∧ n.size ≠ 0) ∨ (n.kind = 2 ∧ (n.parts.length ≠ 1 ∨ n.link.data.toList ≠ [])) ∨ (n.kind = 3 ∧ (n.parts.length ≠ 0 ∨ n.link.data.toList = [])))) := Iff.rfl
  generalize Td.nErr n.nd = R at *
  generalize Td.Bad n.nd = BAD at *
  generalize Nn.nm n.name.data.toList = E at *
  generalize n.parts.length = P at *
  obtain ⟨name, kind, mode, time, size, parts, link⟩ := n
  dsimp only at *
  clear hT
  go_enter Tryd.func46, Tryd.ntmps46
  go_upto_region 1 with fail
  rw [← hW1]
  obtain ⟨m0, _⟩ := seven_at HM1.out
  clear hW1
  go_wp2_with fail
  refine hr.mono ?_
  rintro e w2 ⟨rfl, b2⟩
  have HB : Hid (Below w.heap.size w w2) := HB1.out.trans (b2.mono HB1.out.size)
  obtain ⟨m0, m1, m2, m3, m4, m5, m6⟩ := seven_at ((b2.block _ (Array.getElem?_eq_some_iff.1 HM1.out).1).trans HM1.out)
  have HM2 : Hid (w2.heap[w.heap.size]? = some (.cells #[.string name, .int .i64 kind, .int .i64 mode, .int .i64 time, .int .i64 size, .slice a P c, .string link] 54 (0, 0))) := (b2.block _ (Array.getElem?_eq_some_iff.1 HM1.out).1).trans HM1.out
  clear HB1 HM1 hr b2 hn
  obtain ⟨bk, hbk⟩ : ∃ bk, bk = w.heap.size := ⟨_, rfl⟩
  rw [← hbk] at HM2 m0 m1 m2 m3 m4 m5 m6 ⊢
  clear hbk
  by_cases hE : ¬ E = 0
  · have hqn : (E != 0) = true := by rw [bne_iff_ne]; exact hE
    have HR : Hid (R = E) := by
      have := HT.out
      rwa [if_pos hE] at this
    clear HT HAs HBd
    go_wp2_with fail
    go_ret
    exact ⟨by rw [HR.out]; rfl, HB.out⟩
  obtain rfl := Decidable.not_not.mp hE
  clear hE
  rw [if_neg (by simp)] at HT
  by_cases h1 : ¬ (0 ≤ mode ∧ mode ≤ 511)
  · have HR : Hid (R = 1) := by
      have := HT.out
      rwa [if_pos (by omega)] at this
    have k1 : decide (0 ≤ mode ∧ mode ≤ 511) = false := decide_eq_false h1
    clear HT HAs HBd h1
    go_wp2_with (go_at_call 68; refine (upto_any mode 511 false _ k1).mono ?_; rintro e w3 ⟨rfl, rfl⟩)
    go_ret
    exact ⟨by rw [HR.out]; rfl, HB.out⟩
  replace h1 := Decidable.not_not.mp h1
  have k1 : decide (0 ≤ mode ∧ mode ≤ 511) = true := decide_eq_true h1
  by_cases h2 : ¬ (0 ≤ size ∧ size ≤ 4096)
  · have HR : Hid (R = 1) := by
      have := HT.out
      rwa [if_pos (by omega)] at this
    have k2 : decide (0 ≤ size ∧ size ≤ 4096) = false := decide_eq_false h2
    clear HT HAs HBd h1 h2
    go_wp2_with (first | (go_at_call 68; with_reducible refine (upto_any mode 511 true _ k1).mono ?_; rintro e w3 ⟨rfl, hw⟩; obtain rfl := hw.symm) | (go_at_call 68; with_reducible refine (upto_any size 4096 false _ k2).mono ?_; rintro e w3 ⟨rfl, hw⟩; obtain rfl := hw.symm))
    go_ret
    exact ⟨by rw [HR.out]; rfl, HB.out⟩
  replace h2 := Decidable.not_not.mp h2
  have k2 : decide (0 ≤ size ∧ size ≤ 4096) = true := decide_eq_true h2
  by_cases h5 : 300 < P
  · have g5 : (300 : Int) < (P : Int) := by omega
    have HR : Hid (R = 1) := by
      have := HT.out
      rwa [if_pos (by omega)] at this
    clear HT HAs HBd h1 h2
    go_wp2_with (first | (go_at_call 68; with_reducible refine (upto_any mode 511 true _ k1).mono ?_; rintro e w3 ⟨rfl, hw⟩; obtain rfl := hw.symm) | (go_at_call 68; with_reducible refine (upto_any size 4096 true _ k2).mono ?_; rintro e w3 ⟨rfl, hw⟩; obtain rfl := hw.symm))
    go_ret
    exact ⟨by rw [HR.out]; rfl, HB.out⟩
  have g5 : ¬ (300 : Int) < (P : Int) := by omega
  rw [if_neg (by omega)] at HT
  by_cases h3 : ¬ (1 ≤ kind ∧ kind ≤ 3)
  · have HR : Hid (R = 5) := by
      have := HT.out
      rwa [if_pos (by omega)] at this
    have k3 : decide (1 ≤ kind ∧ kind ≤ 3) = false := decide_eq_false h3
    clear HT HAs HBd h1 h2 h3
    go_wp2_with (first | (go_at_call 68; with_reducible refine (upto_any mode 511 true _ k1).mono ?_; rintro e w3 ⟨rfl, hw⟩; obtain rfl := hw.symm) | (go_at_call 68; with_reducible refine (upto_any size 4096 true _ k2).mono ?_; rintro e w3 ⟨rfl, hw⟩; obtain rfl := hw.symm) | (go_at_call 69; refine (iskind_any kind false _ k3).mono ?_; rintro e w3 ⟨rfl, hw⟩; obtain rfl := hw.symm))
    go_ret
    exact ⟨by rw [HR.out]; rfl, HB.out⟩
  replace h3 := Decidable.not_not.mp h3
  have k3 : decide (1 ≤ kind ∧ kind ≤ 3) = true := decide_eq_true h3
  rw [if_neg (by omega)] at HT
  have hk : kind = 1 ∨ kind = 2 ∨ kind = 3 := by omega
  by_cases hb : BAD
  · have HR : Hid (R = 4) := by
      have := HT.out
      rwa [if_pos (HBd.out.1 hb)] at this
    have has := HAs.out false w2 hk (by simp [hb])
    clear HT HAs HBd h1 h2 h3 hk
    go_wp2_with (first | (go_at_call 68; with_reducible refine (upto_any mode 511 true _ k1).mono ?_; rintro e w3 ⟨rfl, hw⟩; obtain rfl := hw.symm) | (go_at_call 68; with_reducible refine (upto_any size 4096 true _ k2).mono ?_; rintro e w3 ⟨rfl, hw⟩; obtain rfl := hw.symm) | (go_at_call 69; refine (iskind_any kind true _ k3).mono ?_; rintro e w3 ⟨rfl, hw⟩; obtain rfl := hw.symm))
    refine has.mono ?_
    rintro e w4 ⟨rfl, b4⟩
    have HB4 : Hid (Below w.heap.size w w4) := HB.out.trans (b4.mono HB.out.size)
    clear has b4
    go_wp2_with fail
    go_ret
    exact ⟨by rw [HR.out]; rfl, HB4.out⟩
  · have HR : Hid (R = if 1024 < link.size then 2 else 0) := by
      have := HT.out
      rwa [if_neg (fun q => hb (HBd.out.2 q)), ← Lib.size_eq] at this
    have has := HAs.out true w2 hk (by simp [hb])
    clear HT HAs HBd h1 h2 h3 hk
    go_wp2_with (first | (go_at_call 68; with_reducible refine (upto_any mode 511 true _ k1).mono ?_; rintro e w3 ⟨rfl, hw⟩; obtain rfl := hw.symm) | (go_at_call 68; with_reducible refine (upto_any size 4096 true _ k2).mono ?_; rintro e w3 ⟨rfl, hw⟩; obtain rfl := hw.symm) | (go_at_call 69; refine (iskind_any kind true _ k3).mono ?_; rintro e w3 ⟨rfl, hw⟩; obtain rfl := hw.symm))
    refine has.mono ?_
    rintro e w4 ⟨rfl, b4⟩
    have HB4 : Hid (Below w.heap.size w w4) := HB.out.trans (b4.mono HB.out.size)
    obtain ⟨_, _, _, _, _, _, n6⟩ := seven_at ((b4.block _ (Array.getElem?_eq_some_iff.1 HM2.out).1).trans HM2.out)
    clear has b4 m0 m1 m2 m3 m4 m5 m6 HM2
    by_cases hL : 1024 < link.size
    · have gL : (1024 : Int) < (link.size : Int) := by omega
      rw [if_pos hL] at HR
      go_wp2_with fail
      go_ret
      exact ⟨by rw [HR.out]; rfl, HB4.out⟩
    · have gL : ¬ (1024 : Int) < (link.size : Int) := by omega
      rw [if_neg hL] at HR
      go_wp2_with fail
      go_ret
      exact ⟨by rw [HR.out]; rfl, HB4.out⟩

theorem tg_irr : ∀ x : List UInt8, Op.bytesLess x x = false
  | [] => rfl
  | a :: x => by rw [Op.bytesLess, tg_irr x]; simp

theorem tg_tri : ∀ x y : List UInt8, Op.bytesLess x y = true → Op.bytesLess y x = false
  | [], [], _ => rfl
  | [], _ :: _, _ => rfl
  | _ :: _, [], h => by cases h
  | a :: x, b :: y, h => by
    rw [Op.bytesLess, Bool.or_eq_true, Bool.and_eq_true] at h
    rw [Op.bytesLess]
    rcases h with h | ⟨h1, h2⟩
    · have q : a < b := of_decide_eq_true h
      have q1 : a.toNat < b.toNat := q
      have q2 : ¬ b < a := fun k => by have k1 : b.toNat < a.toNat := k; omega
      have q3 : (b == a) = false := beq_eq_false_iff_ne.2 fun k => by rw [k] at q1; omega
      rw [q3, decide_eq_false q2]
      rfl
    · obtain rfl : a = b := eq_of_beq h1
      rw [tg_tri x y h2]
      simp

theorem tg_less {s t : ByteArray} (h : Op.bytesLess t.toList s.toList = true) : Op.bytesLess s.toList t.toList = false ∧ (s.toList == t.toList) = false :=
  ⟨tg_tri _ _ h, beq_eq_false_iff_ne.2 fun e => by rw [e, tg_irr] at h; cases h⟩

theorem tg_tot : ∀ x y : List UInt8, Op.bytesLess y x = false → x = y ∨ Op.bytesLess x y = true
  | [], [], _ => .inl rfl
  | [], _ :: _, _ => .inr rfl
  | _ :: _, [], h => by cases h
  | a :: x, b :: y, h => by
    rw [Op.bytesLess, Bool.or_eq_false_iff, Bool.and_eq_false_iff] at h
    rw [Op.bytesLess]
    have q : ¬ b < a := of_decide_eq_false h.1
    by_cases e : a = b
    · subst e
      rcases h.2 with k | k
      · simp at k
      · rcases tg_tot x y k with e | e
        · exact .inl (by rw [e])
        · exact .inr (by rw [e]; simp)
    · refine .inr ?_
      have q1 : ¬ b.toNat < a.toNat := q
      have q2 : a.toNat ≠ b.toNat := fun k => e (UInt8.toNat_inj.1 k)
      have q3 : a < b := show a.toNat < b.toNat by omega
      rw [decide_eq_true q3]
      rfl

theorem tg_more {s t : ByteArray} (h : Op.bytesLess t.toList s.toList = false) : Op.bytesLess s.toList t.toList = true ∨ (Op.bytesLess s.toList t.toList = false ∧ (s.toList == t.toList) = true) := by
  rcases tg_tot _ _ h with e | e
  · exact .inr ⟨by rw [e, tg_irr], by rw [e]; simp⟩
  · exact .inl e

set_option maxHeartbeats 2000000 in
set_option maxRecDepth 10000 in
theorem tcheck_any (v : Value) (l : List Nod) (w : World) (h : Nds w v l) (hl : l.length ≤ 9223372036854775807) (hT : Tabs w) :
    Calls Tryd.prog 31 #[v] w fun e w' => e = .returned (.int .i64 (Td.check (nds l))) ∧ Below w.heap.size w w' := by
  obtain ⟨a, c, rfl⟩ := h.slice
  have HX : Hid (Nds w (.slice a l.length c) l) := h
  have HS0 : Hid (Tabs w) := hT
  have HT : Hid (Td.check (nds l) = if 64 < l.length then 2 else Td.ckB none (nds l)) := by show _ = _; rw [← nds_length l]; rfl
  generalize Td.check (nds l) = R at *
  obtain ⟨N, hN⟩ : ∃ N, N = l.length := ⟨_, rfl⟩
  have HN : Hid (N = l.length) := hN
  rw [← hN] at HX HT hl ⊢
  clear h hT hN
  by_cases h64 : 64 < N
  · have HR : Hid (R = 2) := by
      have := HT.out
      rwa [if_pos h64] at this
    have g : (64 : Int) < (N : Int) := by omega
    clear HT
    go_enter Tryd.func31, Tryd.ntmps31
    go_wp2_with fail
    go_ret
    exact ⟨by rw [HR.out]; rfl, Below.refl _ _⟩
  have HC : Hid (Td.ckB (prv l 0) (nds (l.drop 0)) = R) := by
    have := HT.out
    rw [if_neg h64] at this
    exact this.symm
  have g : ¬ (64 : Int) < (N : Int) := by omega
  clear HT
  go_enter Tryd.func31, Tryd.ntmps31
  go_wp2_with fail
  go_loopw [11] (fun x wr => ∃ k : Nat, k ≤ N ∧ x = .int .i64 k ∧ Hid (Td.ckB (prv l k) (nds (l.drop k)) = R) ∧ Hid (Below w.heap.size w wr)) (fun x _ => N - (intOf x).toNat)
  case atStart => exact ⟨0, by omega, rfl, HC, Below.refl _ _⟩
  case round =>
    clear HC
    obtain ⟨k, hk, rfl, HC, HB⟩ := hrel
    by_cases hlt : k < N
    · have hkl : k < l.length := by rw [← HN.out]; exact hlt
      obtain ⟨bk, o, cs, rfl, hbk, hcl, ⟨v, rfl, hPs, hok⟩, hcell⟩ := (HX.out.below HB.out).get k l[k] (List.getElem?_eq_getElem hkl)
      have hSt := HC.out
      rw [nds_drop l k hkl, Td.ckB_cons] at hSt
      have HSt : Hid ((if Td.nErr l[k].nd ≠ 0 then Td.nErr l[k].nd else if Td.low (prv l k) l[k].name.data.toList = true then 4 else Td.ckB (some l[k].name.data.toList) (nds (l.drop (k + 1)))) = R) := hSt
      have HP1 : Hid (prv l (k + 1) = some l[k].name.data.toList) := by show _ = _; rw [prv, List.getElem?_eq_getElem hkl]; rfl
      have HPk : Hid (∀ j, k = j + 1 → ∃ t : ByteArray, prv l k = some t.data.toList ∧ wr.cell? ⟨bk, o + j * 7, none⟩ = some (.string t)) := fun j hj => by
        subst hj
        obtain ⟨bk', o', cs', e', _, _, ⟨v', rfl, _⟩, hc'⟩ := (HX.out.below HB.out).get j l[j] (List.getElem?_eq_getElem (by omega))
        cases e'
        exact ⟨l[j].name, by rw [prv, List.getElem?_eq_getElem (by omega)]; rfl, hc' 0 _ rfl⟩
      obtain ⟨av, cv, rfl, _⟩ := hPs.slice
      obtain ⟨W1, hW1⟩ : ∃ W1, W1 = wr.alloc (.cells (ndC l[k] (.slice av l[k].parts.length cv)).toArray 54) := ⟨_, rfl⟩
      have hB1 : Below wr.heap.size wr W1 := by rw [hW1]; exact (Below.refl _ wr).alloc (Nat.le_refl _) _
      have HB1 : Hid (Below w.heap.size w W1) := HB.out.trans (hB1.mono HB.out.size)
      have HM1 : Hid (W1.heap[wr.heap.size]? = some (.cells (ndC l[k] (.slice av l[k].parts.length cv)).toArray 54 (0, 0))) := by rw [hW1]; exact heap_alloc_new wr _
      have hne := cnode_any l[k] av cv W1 hok.name hok.link (HS0.out.below HB1.out)
      have c0 : wr.cell? ⟨bk, o + k * 7, none⟩ = some (.string l[k].name) := hcell 0 _ rfl
      have c1 := hcell 1 _ rfl
      have c2 := hcell 2 _ rfl
      have c3 := hcell 3 _ rfl
      have c4 := hcell 4 _ rfl
      have c5 := hcell 5 _ rfl
      have c6 := hcell 6 _ rfl
      generalize Td.nErr l[k].nd = E at *
      generalize l[k] = n at *
      generalize n.parts.length = np at *
      clear hcell hPs hok hcl HC hSt
      obtain ⟨name, kind, mode, time, size, parts, link⟩ := n
      dsimp only at *
      go_upto_region 6 with fail
      rw [← hW1]
      obtain ⟨b7, hb7⟩ : ∃ b7, b7 = wr.heap.size := ⟨_, rfl⟩
      rw [← hb7] at HM1 ⊢
      obtain ⟨m0, m1, m2, m3, m4, m5, m6⟩ := seven_at HM1.out
      clear hW1 c0 c1 c2 c3 c4 c5 c6 hb7
      go_wp2_with fail
      refine hne.mono ?_
      rintro e w3 ⟨rfl, b3⟩
      have HB3 : Hid (Below w.heap.size w w3) := HB1.out.trans (b3.mono HB1.out.size)
      have HP3 : Hid (∀ j, k = j + 1 → ∃ t : ByteArray, prv l k = some t.data.toList ∧ w3.cell? ⟨bk, o + j * 7, none⟩ = some (.string t)) := fun j hj => by
        obtain ⟨t, p1, p2⟩ := HPk.out j hj
        exact ⟨t, p1, (Below.cell (hB1.trans (b3.mono hB1.size)) (p := ⟨bk, o + j * 7, none⟩) hbk).trans p2⟩
      obtain ⟨n0, _⟩ := seven_at ((b3.block _ (Array.getElem?_eq_some_iff.1 HM1.out).1).trans HM1.out)
      clear hne b3 m0 m1 m2 m3 m4 m5 m6 HPk HM1 hB1 HB1
      by_cases hE : E = 0
      · subst hE
        rw [if_neg (by simp)] at HSt
        go_wp2_with fail
        rcases Nat.eq_zero_or_pos k with hk0 | hk0
        · have hd : decide ((0 : Int) < (k : Int)) = false := decide_eq_false (by omega)
          have HS2 : Hid (Td.ckB (prv l (k + 1)) (nds (l.drop (k + 1))) = R) := by
            have := HSt.out
            rw [hk0, prv, Td.low, if_neg (by simp)] at this
            show _ = _
            rw [HP1.out, hk0]
            exact this
          clear HSt HP3 HP1
          go_quiet (fail)
          go_wp2_with fail
          go_roundw
          case measure => simp only [intOf]; omega
          case rel => exact ⟨k + 1, by omega, by go_num, HS2, below_drewN HB3.out _⟩
        · obtain ⟨j, rfl⟩ : ∃ j, k = j + 1 := ⟨k - 1, by omega⟩
          obtain ⟨t, p1, p2⟩ := HP3.out j rfl
          have hd : decide ((0 : Int) < ((j + 1 : Nat) : Int)) = true := decide_eq_true (by omega)
          have hj : j < N := by omega
          have HL : Hid ((if (!Op.bytesLess t.data.toList name.data.toList) = true then 4 else Td.ckB (prv l (j + 1 + 1)) (nds (l.drop (j + 1 + 1)))) = R) := by
            have := HSt.out
            rw [p1, Td.low] at this
            rw [HP1.out]
            exact this
          clear HSt HP3 HP1 p1
          rw [← Lib.toList_data, ← Lib.toList_data] at HL
          cases hbl : Op.bytesLess t.toList name.toList with
          | true =>
            obtain ⟨x1, x2⟩ := tg_less hbl
            have HS2 : Hid (Td.ckB (prv l (j + 1 + 1)) (nds (l.drop (j + 1 + 1))) = R) := by
              have := HL.out
              rwa [hbl, if_neg (by simp)] at this
            clear HL hbl
            go_quiet (fail)
            go_wp2_with fail
            go_roundw
            case measure => simp only [intOf]; omega
            case rel => exact ⟨j + 1 + 1, by omega, by go_num, HS2, below_drewN HB3.out _⟩
          | false =>
            have HR : Hid (R = 4) := by
              have := HL.out
              rw [hbl, if_pos (by rfl)] at this
              exact this.symm
            have hz := tg_more hbl
            clear HL hbl
            rcases hz with hz | ⟨x1, x2⟩
            · go_quiet (fail)
              go_wp2_with fail
              go_ret
              exact ⟨by rw [HR.out]; rfl, below_drewN HB3.out _⟩
            · go_quiet (fail)
              go_wp2_with fail
              go_ret
              exact ⟨by rw [HR.out]; rfl, below_drewN HB3.out _⟩
      · have hqn : (E != 0) = true := by rw [bne_iff_ne]; exact hE
        have HR : Hid (R = E) := by
          have := HSt.out
          rw [if_pos hE] at this
          exact this.symm
        clear HSt
        go_wp2_with fail
        go_ret
        exact ⟨by rw [HR.out]; rfl, HB3.out⟩
    · obtain rfl : k = N := by omega
      have HE : Hid (0 = R) := by
        have := HC.out
        rwa [List.drop_eq_nil_of_le (by rw [HN.out]; exact Nat.le_refl _)] at this
      clear HC
      go_wp2_with fail
      go_ret
      exact ⟨by rw [← HE.out]; rfl, HB.out⟩

theorem find_bad {l : List Td.Nd} {s : List UInt8} (h : Td.check l ≠ 0) : Td.find l s = (0, Td.check l) := by unfold Td.find; rw [if_pos h]

theorem find_ok {l : List Td.Nd} {s : List UInt8} (h : Td.check l = 0) : (ixOf l s = -1 ∧ Td.find l s = (0, 9)) ∨ ∃ k : Nat, ixOf l s = k ∧ Td.find l s = (k, 0) := by
  unfold Td.find ixOf
  rw [if_neg (fun q => q h)]
  cases l.findIdx? fun n => n.name == s with
  | none => exact .inl ⟨rfl, rfl⟩
  | some k => exact .inr ⟨k, rfl, rfl⟩
end Go.Proofs.YtimdioacmojkeaaDoor

namespace Go.Proofs.YtimdioacmojkeaaDoor
open Go.RowKit
set_option maxRecDepth 4000

theorem or_byte (m b : Nat) (hb : b < 256) : m * 256 ||| b = m * 256 + b := by
  have := Nat.two_pow_add_eq_or_of_lt (i := 8) (b := b) hb m
  rw [Nat.mul_comm m 256]
  exact this.symm
theorem join_step (m : Nat) (b : UInt8) (t : Int) (hm : m < 72057594037927936) (h0 : 0 ≤ t) (h1 : t ≤ 255) :
    bits .or .u64 (IntKind.u64.wrap ((m : Int) * 256)) (IntKind.u64.wrap (bits .xor .u8 (b.toNat : Int) t)) = ((256 * m + (b ^^^ UInt8.ofNat t.toNat).toNat : Nat) : Int) := by
  obtain ⟨T, rfl⟩ := Int.eq_ofNat_of_zero_le h0
  have hb := b.toNat_lt
  rw [u8_xor_nat _ _ (by omega) (by omega), Int.toNat_natCast, xor_u8 _ _ (by omega)]
  have hx := (b ^^^ UInt8.ofNat T).toNat_lt
  rw [wrap_u64 _ (by omega) (by omega), wrap_u64 _ (by omega) (by omega)]
  rw [show ((m : Int) * 256) = ((m * 256 : Nat) : Int) from by omega, u64_or_nat _ _ (by omega) (by omega), or_byte _ _ (by omega)]
  omega

set_option maxHeartbeats 400000 in
theorem digits_join (s : ByteArray) (t : Int) (w : World) (hl : s.size ≤ 8) (h0 : 0 ≤ t) (h1 : t ≤ 255) :
    Calls Tryd.prog 97 #[.string s, .int .u8 t] w fun e w' => e = .returned (.int .u64 (Nm.val (Nm.tn t.toNat s.data.toList))) ∧ w' = w := by
  go_enter Tryd.func97, Tryd.ntmps97
  go_wp2
  go_loop [5, 6] (fun n i => ∃ k : Nat, k ≤ s.size ∧ i = .int .i64 k ∧ n = .int .u64 (Nm.val (Nm.tn t.toNat (s.data.toList.take k)))) (fun _ i => s.size - (intOf i).toNat)
  case atStart => exact ⟨0, Nat.zero_le _, rfl, by simp [Nm.tn, Nm.val_nil]⟩
  case round =>
    obtain ⟨k, hk, rfl, rfl⟩ := hrel
    by_cases hlt : k < s.size
    · go_wp2
      go_round
      case rel =>
        refine ⟨k + 1, by omega, by go_num, int_eq ?_⟩
        have hv := Nm.val_lt (Nm.tn t.toNat (s.data.toList.take k))
        have hle : (Nm.tn t.toNat (s.data.toList.take k)).length ≤ 7 := by rw [Nm.tn_length]; have := List.length_take_le k s.data.toList; omega
        have hp : 256 ^ (Nm.tn t.toNat (s.data.toList.take k)).length ≤ 256 ^ 7 := Nat.pow_le_pow_right (by omega) hle
        rw [take_snoc s k hlt, Nm.tn_append, Nm.tn, Nm.tn, List.map_cons, List.map_nil, Nm.val_snoc]
        exact join_step _ _ _ (by simp only [Nm.tn] at hv hp ⊢; omega) h0 h1
      case measure => simp [intOf]; omega
    · go_wp2
      go_ret
      exact ⟨ret_int (by rw [List.take_of_length_le (by simp; omega)]), rfl⟩

theorem xor_zero (s : ByteArray) (t : Int) (h : 0 < s.size) (h0 : 0 ≤ t) (h1 : t ≤ 255) : (bits BinOp.xor IntKind.u8 (s[0].toNat : Int) t == 0) = decide (s.data.toList.headD 0 ^^^ UInt8.ofNat t.toNat = 0) := by
  obtain ⟨T, rfl⟩ := Int.eq_ofNat_of_zero_le h0
  have hb := s[0].toNat_lt
  rw [u8_xor_nat _ _ (by omega) (by omega), Int.toNat_natCast, xor_u8 _ _ (by omega)]
  have e : s.data.toList.headD 0 = s[0] := head_byte s h
  rw [e, Bool.eq_iff_iff]
  simp only [beq_iff_eq, decide_eq_true_eq]
  constructor
  · intro h; exact UInt8.toNat_inj.1 (by simpa using h)
  · intro h; rw [h]; rfl

set_option maxHeartbeats 400000 in
theorem digits_read (s : ByteArray) (k t : Int) (w : World) (hs : s.size ≤ 9223372036854775807) (k0 : 0 ≤ k) (k1 : k ≤ 255) (h0 : 0 ≤ t) (h1 : t ≤ 255) :
    Calls Tryd.prog 83 #[.string s, .int .i64 k, .int .u8 t] w fun e w' =>
      e = .returned (.tuple #[.int .u64 (Nm.readN s.data.toList k.toNat t.toNat).1, .int .i64 (Nm.readN s.data.toList k.toNat t.toNat).2]) ∧ w' = w := by
  by_cases h8 : 8 < k
  · have hr : Nm.readN s.data.toList k.toNat t.toNat = (0, 4) := by rw [Nm.readN, if_pos (by omega)]
    rw [hr]
    go_enter Tryd.func83, Tryd.ntmps83
    go_wp2
    go_ret2
    exact ⟨rfl, rfl⟩
  by_cases hk : (s.size : Int) < k
  · have hr : Nm.readN s.data.toList k.toNat t.toNat = (0, 3) := by rw [Nm.readN, if_neg (by omega), if_pos (by simp; omega)]
    rw [hr]
    go_enter Tryd.func83, Tryd.ntmps83
    go_wp2
    go_ret2
    exact ⟨rfl, rfl⟩
  by_cases hz : 0 < k
  · have hp : 0 < s.size := by omega
    have hx := xor_zero s t hp h0 h1
    by_cases hd : s.data.toList.headD 0 ^^^ UInt8.ofNat t.toNat = 0
    · have hr : Nm.readN s.data.toList k.toNat t.toNat = (0, 4) := by rw [Nm.readN, if_neg (by omega), if_neg (by simp; omega), if_pos ⟨by omega, hd⟩]
      rw [hr]
      rw [decide_eq_true hd] at hx
      clear hd hr
      go_enter Tryd.func83, Tryd.ntmps83
      go_wp2
      go_ret2
      exact ⟨rfl, rfl⟩
    · have hr : Nm.readN s.data.toList k.toNat t.toNat = (Nm.val (Nm.tn t.toNat (s.data.toList.take k.toNat)), 0) := by rw [Nm.readN, if_neg (by omega), if_neg (by simp; omega), if_neg (by intro h; exact hd h.2)]
      rw [hr]
      rw [decide_eq_false hd] at hx
      clear hd hr
      go_enter Tryd.func83, Tryd.ntmps83
      go_wp2_with (go_at_call 97; refine (digits_join _ _ _ (by simp; omega) h0 h1).mono ?_; rintro e w' ⟨rfl, rfl⟩)
      go_ret2
      exact ⟨rfl, rfl⟩
  · have hr : Nm.readN s.data.toList k.toNat t.toNat = (Nm.val (Nm.tn t.toNat []), 0) := by rw [Nm.readN, if_neg (by omega), if_neg (by simp; omega), if_neg (by intro h; omega), show k.toNat = 0 from by omega, List.take_zero]
    rw [hr]
    clear hr
    go_enter Tryd.func83, Tryd.ntmps83
    go_wp2_with (go_at_call 97; refine (digits_join _ _ _ (by simp; omega) h0 h1).mono ?_; rintro e w' ⟨rfl, rfl⟩)
    go_ret2
    exact ⟨rfl, rfl⟩
end Go.Proofs.YtimdioacmojkeaaDoor

namespace Go.Proofs.YtimdioacmojkeaaDoor
open Go.RowKit
set_option maxRecDepth 4000

theorem list_ne (s : ByteArray) (h : 0 < s.size) : s.data.toList ≠ [] := by
  intro e; have := Lib.size_eq s; rw [e] at this; simp only [List.length_nil] at this; omega

theorem tail_data (s : ByteArray) : (s.extract 1 s.size).data.toList = s.data.toList.tail := by
  rw [Lib.extract_data, List.take_of_length_le, List.drop_one]
  rw [List.length_drop, ← Lib.size_eq]
  exact Nat.le_refl _

theorem read_tail (s : ByteArray) (c t : Int) (w : World) (hs : s.size ≤ 9223372036854775807) (k0 : 0 ≤ c) (k1 : c ≤ 255) (h0 : 0 ≤ t) (h1 : t ≤ 255) :
    Calls Tryd.prog 83 #[.string (s.extract 1 s.size), .int .i64 c, .int .u8 t] w fun e w' =>
      e = .returned (.tuple #[.int .u64 (Nm.readN s.data.toList.tail c.toNat t.toNat).1, .int .i64 (Nm.readN s.data.toList.tail c.toNat t.toNat).2]) ∧ w' = w := by
  have h := digits_read (s.extract 1 s.size) c t w (by simp; omega) k0 k1 h0 h1
  rw [tail_data] at h
  exact h

set_option maxHeartbeats 400000 in
theorem get_any (s : ByteArray) (w : World) (hs : s.size ≤ 9223372036854775807) :
    Calls Tryd.prog 61 #[.string s] w fun e w' =>
      e = .returned (.tuple #[.int .u64 (Nm.getN s.data.toList).1, .int .i64 (Nm.getN s.data.toList).2.1, .int .i64 (Nm.getN s.data.toList).2.2]) ∧ w' = w := by
  by_cases h0 : s.size = 0
  · have hr : Nm.getN s.data.toList = (0, 0, 3) := by rw [Nm.getN, if_pos (List.length_eq_zero_iff.1 (by simpa using h0))]
    rw [hr]
    go_enter Tryd.func61, Tryd.ntmps61
    go_wp2
    go_ret3
    exact ⟨rfl, rfl⟩
  · have hp : 0 < s.size := by omega
    have hne := list_ne s hp
    have hb := s[0].toNat_lt
    have hh := head_byte s hp
    have hz : ((s.size : Int) == 0) = false := beq_eq_false_iff_ne.2 (by omega)
    have hg : Nm.getN s.data.toList = if (Nm.readN s.data.toList.tail s[0].toNat 0).2 = 0 then ((Nm.readN s.data.toList.tail s[0].toNat 0).1, 1 + s[0].toNat, (0 : Int)) else ((0 : Nat), (0 : Nat), (Nm.readN s.data.toList.tail s[0].toNat 0).2) := by
      rw [Nm.getN, if_neg hne]; simp only [hh]
    rw [hg]
    clear hg hh hne h0
    generalize hc : s[0] = c at *
    generalize hR : Nm.readN s.data.toList.tail c.toNat 0 = r
    obtain ⟨r1, r2⟩ := r
    have HR : Hid (Nm.readN s.data.toList.tail c.toNat 0 = (r1, r2)) := hR
    clear hR
    by_cases hr : r2 = 0
    · subst hr
      rw [if_pos rfl]
      go_enter Tryd.func61, Tryd.ntmps61
      go_wp2_with fail
      refine (read_tail s _ 0 _ hs (by omega) (by omega) (by omega) (by omega)).mono ?_
      rintro e w' ⟨rfl, rfl⟩
      rw [Int.toNat_natCast, show (0 : Int).toNat = 0 from rfl, HR.out]
      go_wp2
      go_ret3
      exact ⟨rfl, rfl⟩
    · have hq : (r2 != 0) = true := by simpa using hr
      rw [if_neg hr]
      go_enter Tryd.func61, Tryd.ntmps61
      go_wp2_with fail
      refine (read_tail s _ 0 _ hs (by omega) (by omega) (by omega) (by omega)).mono ?_
      rintro e w' ⟨rfl, rfl⟩
      rw [Int.toNat_natCast, show (0 : Int).toNat = 0 from rfl, HR.out]
      go_wp2
      go_ret3
      exact ⟨rfl, rfl⟩
end Go.Proofs.YtimdioacmojkeaaDoor

namespace Go.Proofs.YtimdioacmojkeaaDoor
open Go.RowKit
set_option maxRecDepth 4000

theorem head_hi (c : Int) (w : World) (h0 : 128 ≤ c) (h1 : c ≤ 255) :
    Calls Tryd.prog 98 #[.int .u8 c] w fun e w' => e = .returned (.tuple #[.int .i64 (c - 128), .int .u8 0]) ∧ w' = w := by
  go_enter Tryd.func98, Tryd.ntmps98
  go_wp2
  go_ret2
  exact ⟨rfl, rfl⟩
theorem head_lo (c : Int) (w : World) (h0 : 0 ≤ c) (h1 : c ≤ 127) :
    Calls Tryd.prog 98 #[.int .u8 c] w fun e w' => e = .returned (.tuple #[.int .i64 (127 - c), .int .u8 255]) ∧ w' = w := by
  go_enter Tryd.func98, Tryd.ntmps98
  go_wp2
  go_ret2
  exact ⟨rfl, rfl⟩
theorem readN_lt (l : List UInt8) (k t : Nat) : (Nm.readN l k t).1 < 18446744073709551616 := by
  unfold Nm.readN
  split
  · simp
  split
  · simp
  split
  · simp
  · rename_i h8 _ _
    have h := Nm.val_lt (Nm.tn t (l.take k))
    have hle : (Nm.tn t (l.take k)).length ≤ 8 := by rw [Nm.tn_length]; have := List.length_take_le k l; omega
    have hp : 256 ^ (Nm.tn t (l.take k)).length ≤ 256 ^ 8 := Nat.pow_le_pow_right (by omega) hle
    show Nm.val (Nm.tn t (l.take k)) < 18446744073709551616
    omega

set_option maxHeartbeats 1000000 in
theorem getI_any (s : ByteArray) (w : World) (hs : s.size ≤ 9223372036854775807) :
    Calls Tryd.prog 86 #[.string s] w fun e w' =>
      e = .returned (.tuple #[.int .i64 (Nm.getI s.data.toList).1, .int .i64 (Nm.getI s.data.toList).2.1, .int .i64 (Nm.getI s.data.toList).2.2]) ∧ w' = w := by
  by_cases h0 : s.size = 0
  · have hr : Nm.getI s.data.toList = (0, 0, 3) := by rw [Nm.getI, if_pos (List.length_eq_zero_iff.1 (by simpa using h0))]
    rw [hr]
    go_enter Tryd.func86, Tryd.ntmps86
    go_wp2
    go_ret3
    exact ⟨rfl, rfl⟩
  · have hp : 0 < s.size := by omega
    have hne := list_ne s hp
    have hb := s[0].toNat_lt
    have hh := head_byte s hp
    have hz : ((s.size : Int) == 0) = false := beq_eq_false_iff_ne.2 (by omega)
    generalize hc : s[0] = c at *
    by_cases hc128 : 128 ≤ c.toNat
    · obtain ⟨kk, hkk⟩ : ∃ kk : Nat, kk = c.toNat - 128 := ⟨_, rfl⟩
      have hk255 : kk ≤ 255 := by omega
      have hg : Nm.getI s.data.toList = if (Nm.readN s.data.toList.tail kk 0).2 = 0 then (if 9223372036854775807 < (Nm.readN s.data.toList.tail kk 0).1 then ((0 : Int), (0 : Nat), (4 : Int)) else ( ((Nm.readN s.data.toList.tail kk 0).1 : Int), 1 + kk, (0 : Int))) else ((0 : Int), (0 : Nat), (Nm.readN s.data.toList.tail kk 0).2) := by
        rw [Nm.getI, if_neg hne]; simp only [hh]; rw [if_pos hc128, ← hkk]
      rw [hg]
      clear hg hh hne h0
      have hkI : (c.toNat : Int) - 128 = (kk : Int) := by omega
      have HK : Hid ((c.toNat : Int) - 128 = (kk : Int)) := hkI
      clear hkI hkk
      have hlt := readN_lt s.data.toList.tail kk 0
      generalize hR : Nm.readN s.data.toList.tail kk 0 = r at *
      obtain ⟨r1, r2⟩ := r
      simp only at hlt
      have HR : Hid (Nm.readN s.data.toList.tail kk 0 = (r1, r2)) := hR
      clear hR
      by_cases hr : r2 = 0
      · subst hr
        rw [if_pos rfl]
        by_cases hm : 9223372036854775807 < r1
        · rw [if_pos hm]
          go_enter Tryd.func86, Tryd.ntmps86
          go_wp2_with (go_at_call 98; refine (head_hi _ _ (by omega) (by omega)).mono ?_; rintro e w' ⟨rfl, rfl⟩; rw [HK.out])
          refine (read_tail s _ 0 _ hs (by omega) (by omega) (by omega) (by omega)).mono ?_
          rintro e w' ⟨rfl, rfl⟩
          rw [Int.toNat_natCast, show (0 : Int).toNat = 0 from rfl, HR.out]
          go_wp2
          go_ret3
          exact ⟨rfl, rfl⟩
        · rw [if_neg hm]
          go_enter Tryd.func86, Tryd.ntmps86
          go_wp2_with (go_at_call 98; refine (head_hi _ _ (by omega) (by omega)).mono ?_; rintro e w' ⟨rfl, rfl⟩; rw [HK.out])
          refine (read_tail s _ 0 _ hs (by omega) (by omega) (by omega) (by omega)).mono ?_
          rintro e w' ⟨rfl, rfl⟩
          rw [Int.toNat_natCast, show (0 : Int).toNat = 0 from rfl, HR.out]
          go_wp2
          go_ret3
          exact ⟨rfl, rfl⟩
      · have hq : (r2 != 0) = true := by simpa using hr
        rw [if_neg hr]
        go_enter Tryd.func86, Tryd.ntmps86
        go_wp2_with (go_at_call 98; refine (head_hi _ _ (by omega) (by omega)).mono ?_; rintro e w' ⟨rfl, rfl⟩; rw [HK.out])
        refine (read_tail s _ 0 _ hs (by omega) (by omega) (by omega) (by omega)).mono ?_
        rintro e w' ⟨rfl, rfl⟩
        rw [Int.toNat_natCast, show (0 : Int).toNat = 0 from rfl, HR.out]
        go_wp2
        go_ret3
        exact ⟨rfl, rfl⟩
    · obtain ⟨kk, hkk⟩ : ∃ kk : Nat, kk = 127 - c.toNat := ⟨_, rfl⟩
      have hk255 : kk ≤ 255 := by omega
      have hg : Nm.getI s.data.toList = if (Nm.readN s.data.toList.tail kk 255).2 = 0 then (if 9223372036854775807 < (Nm.readN s.data.toList.tail kk 255).1 then ((0 : Int), (0 : Nat), (4 : Int)) else (-1 - ((Nm.readN s.data.toList.tail kk 255).1 : Int), 1 + kk, (0 : Int))) else ((0 : Int), (0 : Nat), (Nm.readN s.data.toList.tail kk 255).2) := by
        rw [Nm.getI, if_neg hne]; simp only [hh]; rw [if_neg hc128, ← hkk]
      rw [hg]
      clear hg hh hne h0
      have hkI : 127 - (c.toNat : Int) = (kk : Int) := by omega
      have HK : Hid (127 - (c.toNat : Int) = (kk : Int)) := hkI
      clear hkI hkk
      have hlt := readN_lt s.data.toList.tail kk 255
      generalize hR : Nm.readN s.data.toList.tail kk 255 = r at *
      obtain ⟨r1, r2⟩ := r
      simp only at hlt
      have HR : Hid (Nm.readN s.data.toList.tail kk 255 = (r1, r2)) := hR
      clear hR
      by_cases hr : r2 = 0
      · subst hr
        rw [if_pos rfl]
        by_cases hm : 9223372036854775807 < r1
        · rw [if_pos hm]
          go_enter Tryd.func86, Tryd.ntmps86
          go_wp2_with (go_at_call 98; refine (head_lo _ _ (by omega) (by omega)).mono ?_; rintro e w' ⟨rfl, rfl⟩; rw [HK.out])
          refine (read_tail s _ 255 _ hs (by omega) (by omega) (by omega) (by omega)).mono ?_
          rintro e w' ⟨rfl, rfl⟩
          rw [Int.toNat_natCast, show (255 : Int).toNat = 255 from rfl, HR.out]
          go_wp2
          go_ret3
          exact ⟨rfl, rfl⟩
        · rw [if_neg hm]
          go_enter Tryd.func86, Tryd.ntmps86
          go_wp2_with (go_at_call 98; refine (head_lo _ _ (by omega) (by omega)).mono ?_; rintro e w' ⟨rfl, rfl⟩; rw [HK.out])
          refine (read_tail s _ 255 _ hs (by omega) (by omega) (by omega) (by omega)).mono ?_
          rintro e w' ⟨rfl, rfl⟩
          rw [Int.toNat_natCast, show (255 : Int).toNat = 255 from rfl, HR.out]
          go_wp2
          go_ret3
          exact ⟨rfl, rfl⟩
      · have hq : (r2 != 0) = true := by simpa using hr
        rw [if_neg hr]
        go_enter Tryd.func86, Tryd.ntmps86
        go_wp2_with (go_at_call 98; refine (head_lo _ _ (by omega) (by omega)).mono ?_; rintro e w' ⟨rfl, rfl⟩; rw [HK.out])
        refine (read_tail s _ 255 _ hs (by omega) (by omega) (by omega) (by omega)).mono ?_
        rintro e w' ⟨rfl, rfl⟩
        rw [Int.toNat_natCast, show (255 : Int).toNat = 255 from rfl, HR.out]
        go_wp2
        go_ret3
        exact ⟨rfl, rfl⟩
end Go.Proofs.YtimdioacmojkeaaDoor

namespace Go.Proofs.YtimdioacmojkeaaDoor
open Go.RowKit
set_option maxRecDepth 4000

/-- a reader in block b: what is left, and its error -/
def Rs (W : World) (b : Nat) (x : Td.St) : Prop := W.heap[b]? = some (.cells #[.string ⟨x.1.toArray⟩, .int .i64 x.2] 71 (0, 0))

section
variable {W W' : World} {b : Nat} {x : Td.St}
theorem Rs.cells (h : Rs W b x) : W.cell? ⟨b, 0, none⟩ = some (.string ⟨x.1.toArray⟩) ∧ W.cell? ⟨b, 1, none⟩ = some (.int .i64 x.2) ∧ W.frozen? ⟨b, 0, none⟩ = false ∧ W.frozen? ⟨b, 1, none⟩ = false := by
  unfold Rs at h
  refine ⟨?_, ?_, ?_, ?_⟩
  · simp only [World.cell?, h]; rfl
  · simp only [World.cell?, h]; rfl
  · simp [World.frozen?, h]
  · simp [World.frozen?, h]

theorem Rs.set0 (h : Rs W b x) (l : List UInt8) : Rs (W.setCell ⟨b, 0, none⟩ (.string ⟨l.toArray⟩)) b (l, x.2) := by
  unfold Rs at h ⊢
  simp [World.setCell, Array.getElem?_modify, h]

theorem Rs.set1 (h : Rs W b x) (e : Int) : Rs (W.setCell ⟨b, 1, none⟩ (.int .i64 e)) b (x.1, e) := by
  unfold Rs at h ⊢
  simp [World.setCell, Array.getElem?_modify, h]

theorem Rs.lt (h : Rs W b x) : b < W.heap.size := (Array.getElem?_eq_some_iff.1 h).1

theorem Rs.past (h : Rs W b x) (hb : Below W.heap.size W W') : Rs W' b x := (hb.block _ h.lt).trans h

end

/-- what a reader's call answers -/
def RsOut (b : Nat) (w : World) (v : Value) (x : Td.St) (e : Ending) (w' : World) : Prop := e = .returned v ∧ Rs w' b x ∧ Kept (fun j => j ≠ b) w w'

theorem tg_ext (l : List UInt8) (k : Nat) : (⟨l.toArray⟩ : ByteArray).extract k (⟨l.toArray⟩ : ByteArray).size = ⟨(l.drop k).toArray⟩ := by
  apply ByteArray.ext
  apply Array.toList_inj.1
  rw [Nn.ext_drop']

theorem tg_size (l : List UInt8) : (⟨l.toArray⟩ : ByteArray).size = l.length := by show l.toArray.size = _; rw [List.size_toArray]

set_option maxHeartbeats 1000000 in
theorem rdtake_any (b k : Nat) (e : Int) (x : Td.St) (w : World) (h : Rs w b x) (hk : e = 0 → k ≤ x.1.length) (hx : x.1.length ≤ 1048576) :
    Calls Tryd.prog 62 #[.pointer (some ⟨b, 0, none⟩), .int .i64 k, .int .i64 e] w (RsOut b w (.bool (Td.tk k e x).1) (Td.tk k e x).2) := by
  unfold RsOut
  obtain ⟨l, er⟩ := x
  obtain ⟨c0, c1, f0, f1⟩ := h.cells
  have H0 : Hid (Rs w b (l, er)) := h
  by_cases h1 : er ≠ 0
  · rw [Td.tk_stay h1]
    have q : (er != 0) = true := by rw [bne_iff_ne]; exact h1
    clear h
    go_enter Tryd.func62, Tryd.ntmps62
    go_wp2_with fail
    go_ret
    exact ⟨rfl, H0.out, Kept.refl _ _⟩
  obtain rfl := Decidable.not_not.mp h1
  by_cases h2 : e ≠ 0
  · rw [Td.tk_err h2]
    have q : (e != 0) = true := by rw [bne_iff_ne]; exact h2
    have H1 : Hid (Rs (w.setCell ⟨b, 1, none⟩ (.int .i64 e)) b (l, e)) := h.set1 e
    have HK : Hid (Kept (fun j => j ≠ b) w (w.setCell ⟨b, 1, none⟩ (.int .i64 e))) := (Kept.refl _ w).setCell (by simp) _
    clear h hk
    go_enter Tryd.func62, Tryd.ntmps62
    go_wp2_with fail
    go_ret
    exact ⟨rfl, H1.out, HK.out⟩
  obtain rfl := Decidable.not_not.mp h2
  rw [Td.tk_ok]
  have hkl : k ≤ l.length := hk rfl
  replace hx : l.length ≤ 1048576 := hx
  obtain ⟨s, hs⟩ : ∃ s : ByteArray, s = ⟨l.toArray⟩ := ⟨_, rfl⟩
  have hsz : s.size = l.length := by rw [hs]; exact tg_size l
  have hex : s.extract k s.size = ⟨(l.drop k).toArray⟩ := by rw [hs]; exact tg_ext l k
  have HE : Hid (s.extract k s.size = ⟨(l.drop k).toArray⟩) := hex
  have H1 : Hid (Rs (w.setCell ⟨b, 0, none⟩ (.string (s.extract k s.size))) b (l.drop k, 0)) := by rw [hex]; exact h.set0 _
  have HK : Hid (Kept (fun j => j ≠ b) w (w.setCell ⟨b, 0, none⟩ (.string (s.extract k s.size)))) := (Kept.refl _ w).setCell (by simp) _
  have hk1 : (k : Int) ≤ (s.size : Int) := by omega
  dsimp only at c0 c1
  rw [← hs] at c0
  have hsx : s.size ≤ 1048576 := by omega
  clear h hk hs hex h1 h2 hkl hsz
  go_enter Tryd.func62, Tryd.ntmps62
  go_wp2_with fail
  go_ret
  exact ⟨rfl, H1.out, HK.out⟩

set_option maxHeartbeats 1000000 in
theorem rdnumber_any (b most : Nat) (x : Td.St) (w : World) (h : Rs w b x) (hm : most ≤ 4096) (hx : x.1.length ≤ 1048576) :
    Calls Tryd.prog 44 #[.pointer (some ⟨b, 0, none⟩), .int .u64 most] w (RsOut b w (.int .i64 (Td.sNum most x).1) (Td.sNum most x).2) := by
  have hg := get_any ⟨x.1.toArray⟩ w (by rw [tg_size]; omega)
  rcases hG : Nm.getN x.1 with ⟨n, k, e0⟩
  have hG' : Nm.getN (⟨x.1.toArray⟩ : ByteArray).data.toList = (n, k, e0) := hG
  rw [hG'] at hg
  have hT : Td.sNum most x = (if (Td.tk k (Td.nuE most x.1) x).1 = true then n else 0, (Td.tk k (Td.nuE most x.1) x).2) := by unfold Td.sNum; rw [hG]
  have hE : Td.nuE most x.1 = if e0 = 0 ∧ most < n then 2 else e0 := by unfold Td.nuE; rw [hG]
  have hk : Td.nuE most x.1 = 0 → k ≤ x.1.length ∧ n ≤ most := fun q => by
    rw [hE] at q
    split at q
    · cases q
    · rename_i q2
      subst q
      exact ⟨(Nm.get_one hG).1, by
        by_cases z : most < n
        · exact absurd ⟨rfl, z⟩ q2
        · omega⟩
  have ht := rdtake_any b k (Td.nuE most x.1) x w h (fun q => (hk q).1) hx
  have HTr : Hid ((Td.tk k (Td.nuE most x.1) x).1 = true → n ≤ most) := fun q => (hk (Td.tk_true q).2).2
  rw [hT]
  obtain ⟨c0, c1, f0, f1⟩ := h.cells
  generalize Td.tk k (Td.nuE most x.1) x = T at *
  generalize Td.nuE most x.1 = E at *
  unfold RsOut at ht ⊢
  have hn0 : (0 : Int) ≤ (n : Int) := by omega
  clear h hk hT hG hG' hx
  go_enter Tryd.func44, Tryd.ntmps44
  go_wp2_with fail
  refine hg.mono ?_
  rintro e u ⟨rfl, hu⟩
  obtain rfl := hu.symm
  clear hg hu
  by_cases h1 : e0 ≠ 0
  · have q : (e0 == 0) = false := by rw [beq_eq_false_iff_ne]; exact h1
    rw [if_neg (fun z => h1 z.1)] at hE
    subst hE
    clear h1
    go_wp2_with fail
    refine ht.mono ?_
    rintro e w2 ⟨rfl, r2, k2⟩
    have HR : Hid (Rs w2 b T.2 ∧ Kept (fun j => j ≠ b) w w2) := ⟨r2, k2⟩
    clear ht r2 k2
    obtain ⟨tb, x2⟩ := T
    dsimp only at *
    cases tb with
    | true =>
      have hnm : n ≤ most := HTr.out rfl
      have hw64 : wrap64 (n : Int) = (n : Int) := by unfold wrap64; omega
      clear HTr
      go_wp2_with fail
      go_ret
      exact ⟨rfl, HR.out⟩
    | false =>
      clear HTr
      go_wp2_with fail
      go_ret
      exact ⟨rfl, HR.out⟩
  obtain rfl := Decidable.not_not.mp h1
  clear h1
  by_cases h2 : most < n
  · rw [if_pos ⟨rfl, h2⟩] at hE
    subst hE
    have q : (most : Int) < (n : Int) := by omega
    go_wp2_with fail
    refine ht.mono ?_
    rintro e w2 ⟨rfl, r2, k2⟩
    have HR : Hid (Rs w2 b T.2 ∧ Kept (fun j => j ≠ b) w w2) := ⟨r2, k2⟩
    clear ht r2 k2
    obtain ⟨tb, x2⟩ := T
    dsimp only at *
    cases tb with
    | true =>
      have hnm : n ≤ most := HTr.out rfl
      have hw64 : wrap64 (n : Int) = (n : Int) := by unfold wrap64; omega
      clear HTr
      go_wp2_with fail
      go_ret
      exact ⟨rfl, HR.out⟩
    | false =>
      clear HTr
      go_wp2_with fail
      go_ret
      exact ⟨rfl, HR.out⟩
  · rw [if_neg (fun z => h2 z.2)] at hE
    subst hE
    have q : ¬ (most : Int) < (n : Int) := by omega
    go_wp2_with fail
    refine ht.mono ?_
    rintro e w2 ⟨rfl, r2, k2⟩
    have HR : Hid (Rs w2 b T.2 ∧ Kept (fun j => j ≠ b) w w2) := ⟨r2, k2⟩
    clear ht r2 k2
    obtain ⟨tb, x2⟩ := T
    dsimp only at *
    cases tb with
    | true =>
      have hnm : n ≤ most := HTr.out rfl
      have hw64 : wrap64 (n : Int) = (n : Int) := by unfold wrap64; omega
      clear HTr
      go_wp2_with fail
      go_ret
      exact ⟨rfl, HR.out⟩
    | false =>
      clear HTr
      go_wp2_with fail
      go_ret
      exact ⟨rfl, HR.out⟩

set_option maxHeartbeats 1000000 in
theorem rdsigned_any (b : Nat) (x : Td.St) (w : World) (h : Rs w b x) (hx : x.1.length ≤ 1048576) :
    Calls Tryd.prog 65 #[.pointer (some ⟨b, 0, none⟩)] w (RsOut b w (.int .i64 (Td.sInt x).1) (Td.sInt x).2) := by
  have hg := getI_any ⟨x.1.toArray⟩ w (by rw [tg_size]; omega)
  rcases hG : Nm.getI x.1 with ⟨n, k, e0⟩
  have hG' : Nm.getI (⟨x.1.toArray⟩ : ByteArray).data.toList = (n, k, e0) := hG
  rw [hG'] at hg
  have hT : Td.sInt x = (if (Td.tk k e0 x).1 = true then n else 0, (Td.tk k e0 x).2) := by unfold Td.sInt; rw [hG]
  have ht := rdtake_any b k e0 x w h (fun q => by subst q; exact (Nm.getI_one hG).1) hx
  rw [hT]
  obtain ⟨c0, c1, f0, f1⟩ := h.cells
  generalize Td.tk k e0 x = T at *
  unfold RsOut at ht ⊢
  clear h hT hG hG' hx
  go_enter Tryd.func65, Tryd.ntmps65
  go_wp2_with fail
  refine hg.mono ?_
  rintro e u ⟨rfl, hu⟩
  obtain rfl := hu.symm
  clear hg hu
  go_wp2_with fail
  refine ht.mono ?_
  rintro e w2 ⟨rfl, r2, k2⟩
  have HR : Hid (Rs w2 b T.2 ∧ Kept (fun j => j ≠ b) w w2) := ⟨r2, k2⟩
  clear ht r2 k2
  obtain ⟨tb, x2⟩ := T
  dsimp only at *
  cases tb with
  | true =>
    go_wp2_with fail
    go_ret
    exact ⟨rfl, HR.out⟩
  | false =>
    go_wp2_with fail
    go_ret
    exact ⟨rfl, HR.out⟩

set_option maxHeartbeats 1000000 in
theorem rdtext_any (b : Nat) (x : Td.St) (w : World) (h : Rs w b x) (hx : x.1.length ≤ 1048576) :
    Calls Tryd.prog 63 #[.pointer (some ⟨b, 0, none⟩)] w (RsOut b w (.string ⟨(Td.sTxt x).1.toArray⟩) (Td.sTxt x).2) := by
  have hg := getT_any ⟨x.1.toArray⟩ w (by rw [tg_size]; omega)
  rcases hG : Nm.getT x.1 with ⟨n, k, e0⟩
  have hG' : Nm.getT (⟨x.1.toArray⟩ : ByteArray).data.toList = (n, k, e0) := hG
  rw [hG'] at hg
  have hT : Td.sTxt x = (if (Td.tk k e0 x).1 = true then n else [], (Td.tk k e0 x).2) := by unfold Td.sTxt; rw [hG]
  have ht := fun W (hW : Rs W b x) => rdtake_any b k e0 x W hW (fun q => by subst q; exact (Nm.getT_one hG).1) hx
  rw [hT]
  obtain ⟨c0, c1, f0, f1⟩ := h.cells
  generalize Td.tk k e0 x = T at *
  unfold RsOut at ht ⊢
  have H0 : Hid (Rs w b x) := h
  clear h hT hG hG' hx
  go_enter Tryd.func63, Tryd.ntmps63
  go_wp2_with fail
  refine hg.mono ?_
  rintro e w1 ⟨rfl, b1⟩
  have HK1 : Hid (Kept (fun j => j ≠ b) w w1) := Kept.of_below b1
  replace ht := ht w1 (H0.out.past b1)
  clear hg b1
  go_wp2_with fail
  refine ht.mono ?_
  rintro e w2 ⟨rfl, r2, k2⟩
  have HR : Hid (Rs w2 b T.2 ∧ Kept (fun j => j ≠ b) w w2) := ⟨r2, HK1.out.trans k2⟩
  clear ht r2 k2
  obtain ⟨tb, x2⟩ := T
  dsimp only at *
  cases tb with
  | true =>
    go_wp2_with fail
    go_ret
    exact ⟨rfl, HR.out⟩
  | false =>
    go_wp2_with fail
    go_ret
    exact ⟨rfl, HR.out⟩

theorem tg_take (l : List UInt8) (k : Nat) : (⟨l.toArray⟩ : ByteArray).extract 0 k = ⟨(l.take k).toArray⟩ := by
  apply ByteArray.ext
  apply Array.toList_inj.1
  rw [Lib.extract_data]
  simp

set_option maxHeartbeats 1000000 in
theorem rdbytes_any (b k : Nat) (x : Td.St) (w : World) (h : Rs w b x) (_hk : k ≤ 8) (hx : x.1.length ≤ 1048576) :
    Calls Tryd.prog 85 #[.pointer (some ⟨b, 0, none⟩), .int .i64 k] w (RsOut b w (.string ⟨(Td.sByt k x).1.toArray⟩) (Td.sByt k x).2) := by
  have hT : Td.sByt k x = (if (Td.tk k (Td.shE k x.1) x).1 = true then x.1.take k else [], (Td.tk k (Td.shE k x.1) x).2) := rfl
  have hE : Td.shE k x.1 = if x.1.length < k then 3 else 0 := rfl
  have hz : Td.shE k x.1 = 0 → k ≤ x.1.length := fun q => by
    rw [hE] at q
    split at q
    · cases q
    · omega
  have ht := rdtake_any b k (Td.shE k x.1) x w h hz hx
  have HTr : Hid ((Td.tk k (Td.shE k x.1) x).1 = true → k ≤ x.1.length) := fun q => hz (Td.tk_true q).2
  rw [hT]
  obtain ⟨c0, c1, f0, f1⟩ := h.cells
  generalize Td.tk k (Td.shE k x.1) x = T at *
  generalize Td.shE k x.1 = E at *
  obtain ⟨l, er⟩ := x
  dsimp only at *
  obtain ⟨s, hs⟩ : ∃ s : ByteArray, s = ⟨l.toArray⟩ := ⟨_, rfl⟩
  have hsz : s.size = l.length := by rw [hs]; exact tg_size l
  have HE : Hid (s.extract 0 k = ⟨(l.take k).toArray⟩) := by show _ = _; rw [hs]; exact tg_take l k
  rw [← hs] at c0
  rw [← hsz] at hE HTr hx
  unfold RsOut at ht ⊢
  clear h hT hs hsz hz
  go_enter Tryd.func85, Tryd.ntmps85
  by_cases h2 : s.size < k
  · rw [if_pos h2] at hE
    subst hE
    have q : (s.size : Int) < (k : Int) := by omega
    go_wp2_with fail
    refine ht.mono ?_
    rintro e w2 ⟨rfl, r2, k2⟩
    have HR : Hid (Rs w2 b T.2 ∧ Kept (fun j => j ≠ b) w w2) := ⟨r2, k2⟩
    clear ht r2 k2
    obtain ⟨tb, x2⟩ := T
    dsimp only at *
    cases tb with
    | true =>
      exact absurd (HTr.out rfl) (by omega)
    | false =>
      clear HTr
      go_wp2_with fail
      go_ret
      exact ⟨rfl, HR.out⟩
  · rw [if_neg h2] at hE
    subst hE
    have q : ¬ (s.size : Int) < (k : Int) := by omega
    go_wp2_with fail
    refine ht.mono ?_
    rintro e w2 ⟨rfl, r2, k2⟩
    have HR : Hid (Rs w2 b T.2 ∧ Kept (fun j => j ≠ b) w w2) := ⟨r2, k2⟩
    clear ht r2 k2
    obtain ⟨tb, x2⟩ := T
    dsimp only at *
    cases tb with
    | true =>
      have hks : (k : Int) ≤ (s.size : Int) := by have := HTr.out rfl; omega
      clear HTr
      go_wp2_with fail
      go_ret
      exact ⟨by rw [← HE.out]; rfl, HR.out⟩
    | false =>
      clear HTr
      go_wp2_with fail
      go_ret
      exact ⟨rfl, HR.out⟩

set_option maxHeartbeats 1000000 in
theorem rdkind_any (b : Nat) (x : Td.St) (w : World) (h : Rs w b x) (hx : x.1.length ≤ 1048576) :
    Calls Tryd.prog 64 #[.pointer (some ⟨b, 0, none⟩)] w (RsOut b w (.int .i64 (Td.sKind x).1) (Td.sKind x).2) := by
  have ht := rdbytes_any b 1 x w h (by omega) hx
  have hT : Td.sKind x = (((Td.sByt 1 x).1.headD 0).toNat, (Td.sByt 1 x).2) := rfl
  have hl := Td.sByt_bd 1 x
  rw [hT]
  generalize Td.sByt 1 x = T at *
  obtain ⟨y, x2⟩ := T
  unfold RsOut at ht ⊢
  dsimp only at *
  clear h hT hx
  match y, hl with
  | [], _ =>
    go_enter Tryd.func64, Tryd.ntmps64
    go_wp2_with fail
    refine ht.mono ?_
    rintro e w2 ⟨rfl, r2, k2⟩
    have HR : Hid (Rs w2 b x2 ∧ Kept (fun j => j ≠ b) w w2) := ⟨r2, k2⟩
    clear ht r2 k2
    go_wp2_with fail
    go_ret
    exact ⟨rfl, HR.out⟩
  | [c], _ =>
    obtain ⟨s, hs⟩ : ∃ s : ByteArray, s = ⟨[c].toArray⟩ := ⟨_, rfl⟩
    have hsz : 0 < s.size := by rw [hs, tg_size]; simp
    have e1 : (s.toList == []) = false := data_ne (by rw [hs]; simp)
    obtain ⟨c0, hc0⟩ : ∃ c0 : Nat, s[0].toNat = c0 := ⟨_, rfl⟩
    have HV : Hid (([c].headD 0).toNat = c0) := by show _ = _; rw [← hc0]; subst hs; rfl
    have hc : c0 < 256 := by rw [← hc0]; exact s[0].toNat_lt
    have hwc : wrap64 (c0 : Int) = (c0 : Int) := by unfold wrap64; omega
    rw [← hs] at ht
    clear hs
    go_enter Tryd.func64, Tryd.ntmps64
    go_wp2_with fail
    refine ht.mono ?_
    rintro e w2 ⟨rfl, r2, k2⟩
    have HR : Hid (Rs w2 b x2 ∧ Kept (fun j => j ≠ b) w w2) := ⟨r2, k2⟩
    clear ht r2 k2
    go_wp2_with fail
    go_ret
    exact ⟨by rw [HV.out]; rfl, HR.out⟩

end Go.Proofs.YtimdioacmojkeaaDoor

namespace Go.Proofs.YtimdioacmojkeaaDoor
open Go.RowKit
set_option maxRecDepth 4000

abbrev Tz8 : Array Value := #[.int .u8 0, .int .u8 0, .int .u8 0, .int .u8 0, .int .u8 0, .int .u8 0, .int .u8 0, .int .u8 0]

theorem Kept.then {p : Nat → Prop} {A B C : World} {n : Nat} (h : Kept p A B) (hb : Below n B C) (hn : A.heap.size ≤ n) : Kept p A C :=
  ⟨hb.os.trans h.os, hb.tape.trans h.tape, hb.output.trans h.output, Nat.le_trans h.size hb.size, fun k hk hp => (hb.block k (by omega)).trans (h.block k hk hp)⟩

theorem tid_info : (Tryd.prog.info? 24).map (fun i => (i.zero, i.size, i.bytes)) = some (some (.agg Tz8), 8, 8) := by kernel_rfl

/-- the world behind the copy of y into block M -/
def cpW (W : World) (M : Nat) (y : List UInt8) : World := W.setCells M 0 (y.map B)

theorem cpW_cells {W : World} {M : Nat} {y : List UInt8} (h : W.heap[M]? = some (.cells Tz8 24 (0, 0))) (hy : y = [] ∨ y.length = 8) : (cpW W M y).heap[M]? = some (.cells (idC (Td.eight y)).toArray 24 (0, 0)) := by
  rcases hy with rfl | hy
  · exact h
  · rw [Td.eight_id hy]
    match y, hy with
    | [b0, b1, b2, b3, b4, b5, b6, b7], _ => simp [cpW, World.setCells, World.setCell, Array.getElem?_modify, h, idC]

theorem cpW_below {W : World} {M : Nat} {y : List UInt8} (hy : y = [] ∨ y.length = 8) : Below M W (cpW W M y) := by
  rcases hy with rfl | hy
  · exact Below.refl _ _
  · match y, hy with
    | [b0, b1, b2, b3, b4, b5, b6, b7], _ =>
      exact ((((((((Below.refl M W).setCell (p := ⟨M, 0, none⟩) (Nat.le_refl _) _).setCell (p := ⟨M, 1, none⟩) (Nat.le_refl _) _).setCell (p := ⟨M, 2, none⟩) (Nat.le_refl _) _).setCell (p := ⟨M, 3, none⟩) (Nat.le_refl _) _).setCell (p := ⟨M, 4, none⟩) (Nat.le_refl _) _).setCell (p := ⟨M, 5, none⟩) (Nat.le_refl _) _).setCell (p := ⟨M, 6, none⟩) (Nat.le_refl _) _).setCell (p := ⟨M, 7, none⟩) (Nat.le_refl _) _

theorem cpW_run {W : World} {M : Nat} {y : List UInt8} (h : W.heap[M]? = some (.cells Tz8 24 (0, 0))) (hy : y.length ≤ 8) :
    (Builtin.copy_ #[64, 9] 3 #[.slice (some ⟨M, 0, none⟩) 8 8, .string ⟨y.toArray⟩]).run Tryd.prog W = .ok (.int .i64 y.length) (cpW W M y) := by
  have hz : ∀ w, (Go.sizeOf 5).run Tryd.prog w = .ok 1 w := fun w => by go_simp
  have hc : ∀ j, j < 8 → W.cell? ⟨M, j, none⟩ = some (.int .u8 0) := fun j hj => by
    rw [cell_of_row _ M j _ _ _ h, show Tz8 = Array.replicate 8 (Value.int .u8 0) from rfl, Array.getElem?_replicate, if_pos hj]
  have hr := run_copy_string (P := Tryd.prog) W 64 9 3 5 M 0 8 8 ⟨y.toArray⟩ (by kernel_rfl) hz (by rw [tg_size]; exact hy) (fun j hj => by rw [tg_size] at hj; rw [hc _ (by omega)]; rfl) (fun j _ => by simp [World.frozen?, h])
  rw [tg_size] at hr
  exact hr

theorem sByt_form (x : Td.St) (k : Nat) : (Td.sByt k x).1 = [] ∨ (Td.sByt k x).1.length = k := by
  unfold Td.sByt
  simp only
  split
  · rename_i h
    obtain ⟨_, h2⟩ := Td.tk_true h
    unfold Td.shE at h2
    split at h2
    · cases h2
    · refine .inr ?_
      rw [List.length_take]
      omega
  · exact .inl rfl

theorem tg_new8 (W : World) (v0 v1 v2 v3 v4 v5 v6 v7 : Value) {T : TypeId} : ∀ j u, [v0, v1, v2, v3, v4, v5, v6, v7][j]? = some u → (W.alloc (.cells #[v0, v1, v2, v3, v4, v5, v6, v7] T)).cell? ((⟨W.heap.size, 0, none⟩ : Addr).add j) = some u := by
  intro j u hj
  rw [show ((⟨W.heap.size, 0, none⟩ : Addr).add j) = ⟨W.heap.size, j, none⟩ from by unfold Addr.add; split <;> simp_all]
  match j, hj with
  | 0, hj => simp at hj; subst hj; simp
  | 1, hj => simp at hj; subst hj; simp
  | 2, hj => simp at hj; subst hj; simp
  | 3, hj => simp at hj; subst hj; simp
  | 4, hj => simp at hj; subst hj; simp
  | 5, hj => simp at hj; subst hj; simp
  | 6, hj => simp at hj; subst hj; simp
  | 7, hj => simp at hj; subst hj; simp

/-- what parts answers -/
def PtOut (b : Nat) (w : World) (x : Td.St) (e : Ending) (w' : World) : Prop :=
  ∃ v, e = .returned v ∧ w'.ownsRow w.heap.size 24 8 v (Td.sParts x).1.length (rowR idC (Td.sParts x).1) ∧ Rs w' b (Td.sParts x).2 ∧ Kept (fun j => j ≠ b) w w'

set_option maxHeartbeats 4000000 in
set_option maxRecDepth 10000 in
theorem rdparts_any (b : Nat) (x : Td.St) (w : World) (h : Rs w b x) (hx : x.1.length ≤ 1048576) :
    Calls Tryd.prog 66 #[.pointer (some ⟨b, 0, none⟩)] w (PtOut b w x) := by
  unfold PtOut
  obtain ⟨i0, hi, hz0, hz1, hz2⟩ := info_of' tid_info
  have hg := rdnumber_any b 300 x w h (by omega) hx
  have hS : Td.sParts x = Td.sIds (Td.sNum 300 x).1 (Td.sNum 300 x).2 := rfl
  have hnp := Td.sNum_most 300 x
  have hl1 := Td.sNum_len 300 x
  rw [hS]
  rcases hN : Td.sNum 300 x with ⟨np, x1⟩
  rw [hN] at hg hnp hl1
  dsimp only at *
  unfold RsOut at hg
  have HB : Hid (b < w.heap.size) := h.lt
  have HL : Hid (∀ k, (Td.sIds k x1).2.1.length ≤ 1048576) := fun k => by have := Td.sIds_len x1 k; omega
  have HSt : Hid (∀ k, Td.sIds (k + 1) x1 = ((Td.sIds k x1).1 ++ [Td.eight (Td.sByt 8 (Td.sIds k x1).2).1], (Td.sByt 8 (Td.sIds k x1).2).2)) := fun k => rfl
  have HLn : Hid (∀ k, (Td.sIds k x1).1.length = k) := fun k => (Td.sIds_bd x1 k).1
  have H0 : Hid (Td.sIds 0 x1 = ([], x1)) := rfl
  clear h hS hN hx hl1
  go_enter Tryd.func66, Tryd.ntmps66
  go_wp2_with fail
  refine hg.mono ?_
  rintro e w1 ⟨rfl, r1, k1⟩
  have HR1 : Hid (Rs w1 b x1) := r1
  have HK1 : Hid (Kept (fun j => j ≠ b) w w1) := k1
  clear hg r1 k1
  go_wp2_with fail
  go_loopw [3, 7] (fun vo i wr => ∃ k : Nat, k ≤ np ∧ i = .int .i64 k ∧ Hid (Rs wr b (Td.sIds k x1).2) ∧ Hid (wr.ownsRow w.heap.size 24 8 vo k (rowR idC (Td.sIds k x1).1)) ∧ Hid (Kept (fun j => j ≠ b) w wr)) (fun _ i _ => np - (intOf i).toNat)
  case atStart => exact ⟨0, by omega, rfl, HR1, World.ownsRow_nil _ _ _ _, HK1⟩
  case round =>
    clear HR1 HK1
    obtain ⟨k, hk, rfl, HR, HO, HK⟩ := hrel
    obtain ⟨so, co, hvo⟩ := own_len HO.out
    subst hvo
    by_cases hlt : k < np
    · have hst := HSt.out k
      have hlk := HL.out k
      have HLk : Hid ((Td.sIds k x1).1.length = k) := HLn.out k
      have hy8 := Td.sByt_bd 8 (Td.sIds k x1).2
      have hyf := sByt_form (Td.sIds k x1).2 8
      obtain ⟨W1, hW1⟩ : ∃ W1, W1 = wr.alloc (.cells Tz8 24) := ⟨_, rfl⟩
      have hB1 : Below wr.heap.size wr W1 := by rw [hW1]; exact (Below.refl _ wr).alloc (Nat.le_refl _) _
      have HM1 : Hid (W1.heap[wr.heap.size]? = some (.cells Tz8 24 (0, 0))) := by rw [hW1]; exact heap_alloc_new wr _
      have hby := fun W (hW : Rs W b (Td.sIds k x1).2) => rdbytes_any b 8 (Td.sIds k x1).2 W hW (by omega) hlk
      unfold RsOut at hby
      have HR1 : Hid (Rs W1 b (Td.sIds k x1).2) := HR.out.past hB1
      generalize Td.sByt 8 (Td.sIds k x1).2 = Y at *
      obtain ⟨y, x2⟩ := Y
      dsimp only at *
      obtain ⟨M, hM⟩ : ∃ M, M = wr.heap.size := ⟨_, rfl⟩
      go_upto_region 5 with fail
      rw [← hW1, ← hM]
      clear hW1
      have HB1 : Hid (Below wr.heap.size wr W1) := hB1
      have HMe : Hid (M = wr.heap.size) := hM
      rw [← hM] at HM1
      have HMb : Hid (M ≠ b) := by have h1 := HB.out; have h2 := HK.out.size; show _ ≠ _; omega
      clear hM hB1 HR
      have hcp := fun (W : World) (hW : W.heap[M]? = some (.cells Tz8 24 (0, 0))) => cpW_run (y := y) hW hy8
      have hby1 := hby W1.drew (show Rs W1.drew b (Td.sIds k x1).2 from HR1.out)
      clear hby
      go_region_with (go_at_call 85; refine hby1.mono ?_; rintro e w2 ⟨rfl, r2, k2⟩; have HK2 : Hid (Kept (fun j => j ≠ b) W1 w2) := ⟨k2.os, k2.tape, k2.output, k2.size, k2.block⟩; have HR2 : Hid (Rs w2 b x2) := r2; have hcp2 := hcp w2 (HK2.out.obj HMb.out HM1.out); clear r2 k2)
      obtain ⟨W3, hW3⟩ : ∃ W3, W3 = cpW w2 M y := ⟨_, rfl⟩
      have hB3 : Below M w2 W3 := by rw [hW3]; exact cpW_below hyf
      have HM3 : Hid (W3.heap[M]? = some (.cells (idC (Td.eight y)).toArray 24 (0, 0))) := by rw [hW3]; exact cpW_cells (HK2.out.obj HMb.out HM1.out) hyf
      have hbM : b < M := by have h1 := HB.out; have h2 := HK.out.size; have h3 := HMe.out; omega
      have HR3 : Hid (Rs W3 b (Td.sIds (k + 1) x1).2) := by rw [hst]; exact (hB3.block b hbM).trans HR2.out
      have o2 : w2.ownsRow w.heap.size 24 8 (.slice so k co) k (rowR idC (Td.sIds k x1).1) := own_kept (own_below HO.out HB1.out) HK2.out fun g hg => by have := (own_block HO.out hg).choose_spec.2.1; have := HB.out; omega
      have o3 : W3.ownsRow w.heap.size 24 8 (.slice so k co) k (rowR idC (Td.sIds k x1).1) := own_kept o2 (Kept.of_below_at (p := fun j => j < M) hB3 fun _ q => q) fun g hg => by have := (own_block HO.out hg).choose_spec.2.2; rw [HMe.out]; exact this
      have HK3 : Hid (Kept (fun j => j ≠ b) w W3) := ((HK.out.trans (Kept.of_below HB1.out)).trans HK2.out).then hB3 (by rw [HMe.out]; exact HK.out.size)
      have hsz3 : w.heap.size ≤ W3.heap.size := HK3.out.size
      obtain ⟨b0, b1, b2, b3, b4, b5, b6, b7, hE8⟩ : ∃ b0 b1 b2 b3 b4 b5 b6 b7, Td.eight y = [b0, b1, b2, b3, b4, b5, b6, b7] := by
        have h8 := Td.eight_len hy8
        match Td.eight y, h8 with
        | [b0, b1, b2, b3, b4, b5, b6, b7], _ => exact ⟨b0, b1, b2, b3, b4, b5, b6, b7, rfl⟩
      have HId : Hid ((Td.sIds (k + 1) x1).1 = (Td.sIds k x1).1 ++ [[b0, b1, b2, b3, b4, b5, b6, b7]]) := by show _ = _; rw [hst, hE8]
      rw [hE8] at HM3
      have z0 : W3.cell? ⟨M, 0, none⟩ = some (.int .u8 (b0.toNat : Int)) := by rw [cell_of_row _ M 0 _ _ _ HM3.out]; rfl
      have z1 : W3.cell? ⟨M, 1, none⟩ = some (.int .u8 (b1.toNat : Int)) := by rw [cell_of_row _ M 1 _ _ _ HM3.out]; rfl
      have z2 : W3.cell? ⟨M, 2, none⟩ = some (.int .u8 (b2.toNat : Int)) := by rw [cell_of_row _ M 2 _ _ _ HM3.out]; rfl
      have z3 : W3.cell? ⟨M, 3, none⟩ = some (.int .u8 (b3.toNat : Int)) := by rw [cell_of_row _ M 3 _ _ _ HM3.out]; rfl
      have z4 : W3.cell? ⟨M, 4, none⟩ = some (.int .u8 (b4.toNat : Int)) := by rw [cell_of_row _ M 4 _ _ _ HM3.out]; rfl
      have z5 : W3.cell? ⟨M, 5, none⟩ = some (.int .u8 (b5.toNat : Int)) := by rw [cell_of_row _ M 5 _ _ _ HM3.out]; rfl
      have z6 : W3.cell? ⟨M, 6, none⟩ = some (.int .u8 (b6.toNat : Int)) := by rw [cell_of_row _ M 6 _ _ _ HM3.out]; rfl
      have z7 : W3.cell? ⟨M, 7, none⟩ = some (.int .u8 (b7.toNat : Int)) := by rw [cell_of_row _ M 7 _ _ _ HM3.out]; rfl
      rw [← hW3]
      clear hW3 hB3 HM3 HR2 o2 hcp2 HK2 hby1 hcp hst hlk hy8 hyf hE8 HR1 HM1 HB1 HO HK HMe HMb hbM
      obtain ⟨RW, hr⟩ : ∃ RW, rowR idC (Td.sIds k x1).1 = RW := ⟨_, rfl⟩
      have HRW : Hid (rowR idC (Td.sIds k x1).1 = RW) := hr
      rw [hr] at o3
      clear hr
      go_wp2_with (at_builtin; refine wpList_append_own _ rfl (.tmp 13) (.tmp 15) 35 rfl w.heap.size 24 i0 (.agg Tz8) 8 8 Tryd.underlying35 hi hz0 hz1 hz2 rfl (by decide) _ _ _ rfl (o3.alloc _) ⟨W3.heap.size, 0, none⟩ 1 1 [.int .u8 (b0.toNat : Int), .int .u8 (b1.toNat : Int), .int .u8 (b2.toNat : Int), .int .u8 (b3.toNat : Int), .int .u8 (b4.toNat : Int), .int .u8 (b5.toNat : Int), .int .u8 (b6.toNat : Int), .int .u8 (b7.toNat : Int)] rfl rfl (tg_new8 W3 _ _ _ _ _ _ _ _) ?c2 ?c3 ?c4 ?c5 ?_)
      case c2 => simp [Value.oneCell']
      case c3 => unfold maxLen; omega
      case c4 => omega
      case c5 => first | omega | (simp; omega)
      intro v6 w5 o5 hgrow _
      have hb3 : Below W3.heap.size W3 (W3.alloc (.cells #[.int .u8 (b0.toNat : Int), .int .u8 (b1.toNat : Int), .int .u8 (b2.toNat : Int), .int .u8 (b3.toNat : Int), .int .u8 (b4.toNat : Int), .int .u8 (b5.toNat : Int), .int .u8 (b6.toNat : Int), .int .u8 (b7.toNat : Int)] 24)) := (Below.refl _ W3).alloc (Nat.le_refl _) _
      have hlt3 : ∀ g, (Value.slice so k co).ownBlock = some g → w.heap.size ≤ g := fun g hg => (own_block o3 hg).choose_spec.2.1
      have HO5 : Hid (w5.ownsRow w.heap.size 24 8 v6 (k + 1) (rowR idC (Td.sIds (k + 1) x1).1)) := by
        show World.ownsRow _ _ _ _ _ _ _
        rw [HId.out, rowR_more, HRW.out]
        exact o5
      have HR5 : Hid (Rs w5 b (Td.sIds (k + 1) x1).2) := by
        refine (hgrow.block b (Nat.lt_of_lt_of_le HR3.out.lt hb3.size) fun e => ?_).trans (HR3.out.past hb3)
        have := hlt3 b e.symm
        have := HB.out
        omega
      have HK5 : Hid (Kept (fun j => j ≠ b) w w5) := by
        have hz : Kept (fun j => j ≠ b) w (W3.alloc (.cells #[.int .u8 (b0.toNat : Int), .int .u8 (b1.toNat : Int), .int .u8 (b2.toNat : Int), .int .u8 (b3.toNat : Int), .int .u8 (b4.toNat : Int), .int .u8 (b5.toNat : Int), .int .u8 (b6.toNat : Int), .int .u8 (b7.toNat : Int)] 24)) := HK3.out.alloc _
        exact ⟨hgrow.os.trans hz.os, hgrow.tape.trans hz.tape, hgrow.output.trans hz.output, Nat.le_trans hz.size hgrow.size, fun j hj hp => (hgrow.block j (Nat.lt_of_lt_of_le hj hz.size) fun e => by have := hlt3 j e.symm; omega).trans (hz.block j hj hp)⟩
      clear o5 hgrow o3 hb3 hlt3 HR3 HK3 HId HRW z0 z1 z2 z3 z4 z5 z6 z7
      go_wp2_with fail
      go_roundw
      case measure => simp only [intOf]; omega
      case rel => exact ⟨k + 1, by omega, by go_num, HR5, HO5, HK5⟩
    · obtain rfl : k = np := by omega
      have HLk : Hid ((Td.sIds k x1).1.length = k) := HLn.out k
      go_wp2_with fail
      go_ret
      exact ⟨_, rfl, by rw [HLk.out]; exact HO.out, HR.out, HK.out⟩

end Go.Proofs.YtimdioacmojkeaaDoor

namespace Go.Proofs.YtimdioacmojkeaaDoor
open Go.RowKit
set_option maxRecDepth 4000

/-- two nodes in blocks of their own: the answer, and the one that is filled; a reader in block br -/
structure R3 (w W : World) (br b : Nat) (x0 x1 x2 x3 x4 x5 x6 : Value) : Prop where
  res : W.heap[b]? = some (.cells #[.string ⟨#[]⟩, .int .i64 0, .int .i64 0, .int .i64 0, .int .i64 0, .slice none 0 0, .string ⟨#[]⟩] 54 (0, 0))
  str : W.heap[b + 1]? = some (.cells #[x0, x1, x2, x3, x4, x5, x6] 54 (0, 0))
  kept : Kept (fun j => j ≠ br) w W
  at_ : w.heap.size = b
  lt : br < b

section
variable {w W W' : World} {br b : Nat} {x0 x1 x2 x3 x4 x5 x6 y : Value} {x : Td.St}
theorem R3.past (h : R3 w W br b x0 x1 x2 x3 x4 x5 x6) (hk : Kept (fun j => j ≠ br) W W') : R3 w W' br b x0 x1 x2 x3 x4 x5 x6 :=
  ⟨hk.obj (by have := h.lt; omega) h.res, hk.obj (by have := h.lt; omega) h.str, h.kept.trans hk, h.at_, h.lt⟩

theorem R3.setAt (h : R3 w W br b x0 x1 x2 x3 x4 x5 x6) (j : Nat) (y : Value) {y0 y1 y2 y3 y4 y5 y6 : Value} (e : (#[x0, x1, x2, x3, x4, x5, x6] : Array Value).setIfInBounds j y = #[y0, y1, y2, y3, y4, y5, y6]) :
    R3 w (W.setCell ⟨b + 1, j, none⟩ y) br b y0 y1 y2 y3 y4 y5 y6 := by
  refine ⟨?_, ?_, h.kept.then ((Below.refl (b + 1) W).setCell (p := ⟨b + 1, j, none⟩) (Nat.le_refl _) _) (by have := h.at_; omega), h.at_, h.lt⟩
  · rw [Below.heap_setCell _ _ _ _ (by simp)]; exact h.res
  · rw [← e]
    simp [World.setCell, Array.getElem?_modify, h.str]

theorem R3.rs (h : R3 w W br b x0 x1 x2 x3 x4 x5 x6) (hr : Rs W br x) (j : Nat) (y : Value) : Rs (W.setCell ⟨b + 1, j, none⟩ y) br x := by
  unfold Rs
  rw [Below.heap_setCell _ _ _ _ (by have := h.lt; simp; omega)]
  exact hr

end

/-- what node answers -/
def NoOut (br : Nat) (w : World) (x : Td.St) (e : Ending) (w' : World) : Prop :=
  ∃ (n : Nod) (v : Value), e = .returned (ndV n v) ∧ n.nd = (Td.sNode x).1 ∧ w'.ownsRow w.heap.size 24 8 v n.parts.length (rowR idC n.parts) ∧ n.Ok ∧ Rs w' br (Td.sNode x).2 ∧ Kept (fun j => j ≠ br) w w'

set_option maxHeartbeats 8000000 in
set_option maxRecDepth 10000 in
theorem rdnode_any (br : Nat) (x : Td.St) (w : World) (h : Rs w br x) (hx : x.1.length ≤ 1048576) :
    Calls Tryd.prog 45 #[.pointer (some ⟨br, 0, none⟩)] w (NoOut br w x) := by
  unfold NoOut
  obtain ⟨R, hR⟩ : ∃ R, Td.sNode x = R := ⟨_, rfl⟩
  have HR : Hid (Td.sNode x = R) := hR
  rw [hR]
  clear hR
  obtain ⟨W0, hW0⟩ : ∃ W0, W0 = (w.alloc (.cells #[.string ⟨#[]⟩, .int .i64 0, .int .i64 0, .int .i64 0, .int .i64 0, .slice none 0 0, .string ⟨#[]⟩] 54)).alloc (.cells #[.string ⟨#[]⟩, .int .i64 0, .int .i64 0, .int .i64 0, .int .i64 0, .slice none 0 0, .string ⟨#[]⟩] 54) := ⟨_, rfl⟩
  have hB0 : Below w.heap.size w W0 := by rw [hW0]; exact ((Below.refl _ w).alloc (Nat.le_refl _) _).alloc (by simp) _
  have HA : Hid (R3 w W0 br w.heap.size (.string ⟨#[]⟩) (.int .i64 0) (.int .i64 0) (.int .i64 0) (.int .i64 0) (.slice none 0 0) (.string ⟨#[]⟩)) := by
    refine ⟨?_, ?_, Kept.of_below hB0, rfl, h.lt⟩
    · rw [hW0]
      exact ((Below.refl _ (w.alloc (.cells #[.string ⟨#[]⟩, .int .i64 0, .int .i64 0, .int .i64 0, .int .i64 0, .slice none 0 0, .string ⟨#[]⟩] 54))).alloc (Nat.le_refl _) _).block w.heap.size (by simp) ▸ heap_alloc_new w _
    · rw [hW0]
      have := heap_alloc_new (w.alloc (.cells #[.string ⟨#[]⟩, .int .i64 0, .int .i64 0, .int .i64 0, .int .i64 0, .slice none 0 0, .string ⟨#[]⟩] 54)) (.cells #[.string ⟨#[]⟩, .int .i64 0, .int .i64 0, .int .i64 0, .int .i64 0, .slice none 0 0, .string ⟨#[]⟩] 54)
      simpa using this
  have HRs : Hid (Rs W0 br x) := h.past hB0
  clear hB0 h
  obtain ⟨b, hb⟩ : ∃ b, b = w.heap.size := ⟨_, rfl⟩
  have HWb : Hid (b = w.heap.size) := hb
  rw [← hb] at HA
  go_enter Tryd.func45, Tryd.ntmps45
  go_upto_region 2 with fail
  rw [← hW0, ← hb]
  clear hW0 hb
  have hcall := rdtext_any br x W0 HRs.out hx
  have hbd0 := Td.sTxt_bd x
  have hln := Td.sTxt_len x
  unfold RsOut at hcall
  rcases hE : Td.sTxt x with ⟨t0, x1⟩
  rw [hE] at hcall hbd0 hln
  have HE0 : Hid (Td.sTxt x = (t0, x1)) := hE
  replace hx : x1.1.length ≤ 1048576 := Nat.le_trans hln hx
  dsimp only at hcall hbd0
  clear hE hln
  go_wp2_with fail
  refine hcall.mono ?_
  rintro e w1 ⟨rfl, r0, k0⟩
  have HP := HA.out.past k0
  obtain ⟨c_0, c_1, c_2, c_3, c_4, c_5, c_6⟩ := seven_at HP.str
  obtain ⟨z_0, z_1, z_2, z_3, z_4, z_5, z_6⟩ := seven_fz HP.str
  obtain ⟨WN, hWN⟩ : ∃ WN, WN = w1.setCell ⟨b + 1, 0, none⟩ (.string ⟨t0.toArray⟩) := ⟨_, rfl⟩
  have HA' : Hid (R3 w WN br b (.string ⟨t0.toArray⟩) (.int .i64 0) (.int .i64 0) (.int .i64 0) (.int .i64 0) (.slice none 0 0) (.string ⟨#[]⟩)) := by rw [hWN]; exact HP.setAt 0 _ rfl
  have HRs' : Hid (Rs WN br x1) := by rw [hWN]; exact HP.rs r0 0 _
  clear HP hcall HA HRs r0 k0
  go_upto_region 3 with fail
  rw [← hWN]
  clear hWN c_0 c_1 c_2 c_3 c_4 c_5 c_6 z_0 z_1 z_2 z_3 z_4 z_5 z_6 w1
  have HA := HA'
  have HRs := HRs'
  clear HA' HRs'
  generalize WN = V1 at *
  have hcall := rdkind_any br x1 V1 HRs.out hx
  have hbd1 := Td.sKind_bd x1
  have hln := Td.sKind_len x1
  unfold RsOut at hcall
  rcases hE : Td.sKind x1 with ⟨t1, x2⟩
  rw [hE] at hcall hbd1 hln
  have HE1 : Hid (Td.sKind x1 = (t1, x2)) := hE
  replace hx : x2.1.length ≤ 1048576 := Nat.le_trans hln hx
  dsimp only at hcall hbd1
  clear hE hln
  go_wp2_with fail
  refine hcall.mono ?_
  rintro e w2 ⟨rfl, r1, k1⟩
  have HP := HA.out.past k1
  obtain ⟨c_0, c_1, c_2, c_3, c_4, c_5, c_6⟩ := seven_at HP.str
  obtain ⟨z_0, z_1, z_2, z_3, z_4, z_5, z_6⟩ := seven_fz HP.str
  obtain ⟨WN, hWN⟩ : ∃ WN, WN = w2.setCell ⟨b + 1, 1, none⟩ (.int .i64 (t1 : Nat)) := ⟨_, rfl⟩
  have HA' : Hid (R3 w WN br b (.string ⟨t0.toArray⟩) (.int .i64 (t1 : Nat)) (.int .i64 0) (.int .i64 0) (.int .i64 0) (.slice none 0 0) (.string ⟨#[]⟩)) := by rw [hWN]; exact HP.setAt 1 _ rfl
  have HRs' : Hid (Rs WN br x2) := by rw [hWN]; exact HP.rs r1 1 _
  clear HP hcall HA HRs r1 k1
  go_upto_region 4 with fail
  rw [← hWN]
  clear hWN c_0 c_1 c_2 c_3 c_4 c_5 c_6 z_0 z_1 z_2 z_3 z_4 z_5 z_6 w2
  have HA := HA'
  have HRs := HRs'
  clear HA' HRs'
  generalize WN = V2 at *
  have hcall := rdnumber_any br 511 x2 V2 HRs.out (by omega) hx
  have hbd2 := Td.sNum_most 511 x2
  have hln := Td.sNum_len 511 x2
  unfold RsOut at hcall
  rcases hE : Td.sNum 511 x2 with ⟨t2, x3⟩
  rw [hE] at hcall hbd2 hln
  have HE2 : Hid (Td.sNum 511 x2 = (t2, x3)) := hE
  replace hx : x3.1.length ≤ 1048576 := Nat.le_trans hln hx
  dsimp only at hcall hbd2
  clear hE hln
  go_wp2_with fail
  refine hcall.mono ?_
  rintro e w3 ⟨rfl, r2, k2⟩
  have HP := HA.out.past k2
  obtain ⟨c_0, c_1, c_2, c_3, c_4, c_5, c_6⟩ := seven_at HP.str
  obtain ⟨z_0, z_1, z_2, z_3, z_4, z_5, z_6⟩ := seven_fz HP.str
  obtain ⟨WN, hWN⟩ : ∃ WN, WN = w3.setCell ⟨b + 1, 2, none⟩ (.int .i64 (t2 : Nat)) := ⟨_, rfl⟩
  have HA' : Hid (R3 w WN br b (.string ⟨t0.toArray⟩) (.int .i64 (t1 : Nat)) (.int .i64 (t2 : Nat)) (.int .i64 0) (.int .i64 0) (.slice none 0 0) (.string ⟨#[]⟩)) := by rw [hWN]; exact HP.setAt 2 _ rfl
  have HRs' : Hid (Rs WN br x3) := by rw [hWN]; exact HP.rs r2 2 _
  clear HP hcall HA HRs r2 k2
  go_upto_region 5 with fail
  rw [← hWN]
  clear hWN c_0 c_1 c_2 c_3 c_4 c_5 c_6 z_0 z_1 z_2 z_3 z_4 z_5 z_6 w3
  have HA := HA'
  have HRs := HRs'
  clear HA' HRs'
  generalize WN = V3 at *
  have hcall := rdsigned_any br x3 V3 HRs.out hx
  have hbd3 := Td.sInt_bd x3
  have hln := Td.sInt_len x3
  unfold RsOut at hcall
  rcases hE : Td.sInt x3 with ⟨t3, x4⟩
  rw [hE] at hcall hbd3 hln
  have HE3 : Hid (Td.sInt x3 = (t3, x4)) := hE
  replace hx : x4.1.length ≤ 1048576 := Nat.le_trans hln hx
  dsimp only at hcall hbd3
  clear hE hln
  go_wp2_with fail
  refine hcall.mono ?_
  rintro e w4 ⟨rfl, r3, k3⟩
  have HP := HA.out.past k3
  obtain ⟨c_0, c_1, c_2, c_3, c_4, c_5, c_6⟩ := seven_at HP.str
  obtain ⟨z_0, z_1, z_2, z_3, z_4, z_5, z_6⟩ := seven_fz HP.str
  obtain ⟨WN, hWN⟩ : ∃ WN, WN = w4.setCell ⟨b + 1, 3, none⟩ (.int .i64 t3) := ⟨_, rfl⟩
  have HA' : Hid (R3 w WN br b (.string ⟨t0.toArray⟩) (.int .i64 (t1 : Nat)) (.int .i64 (t2 : Nat)) (.int .i64 t3) (.int .i64 0) (.slice none 0 0) (.string ⟨#[]⟩)) := by rw [hWN]; exact HP.setAt 3 _ rfl
  have HRs' : Hid (Rs WN br x4) := by rw [hWN]; exact HP.rs r3 3 _
  clear HP hcall HA HRs r3 k3
  go_upto_region 6 with fail
  rw [← hWN]
  clear hWN c_0 c_1 c_2 c_3 c_4 c_5 c_6 z_0 z_1 z_2 z_3 z_4 z_5 z_6 w4
  have HA := HA'
  have HRs := HRs'
  clear HA' HRs'
  generalize WN = V4 at *
  have hcall := rdnumber_any br 4096 x4 V4 HRs.out (by omega) hx
  have hbd4 := Td.sNum_most 4096 x4
  have hln := Td.sNum_len 4096 x4
  unfold RsOut at hcall
  rcases hE : Td.sNum 4096 x4 with ⟨t4, x5⟩
  rw [hE] at hcall hbd4 hln
  have HE4 : Hid (Td.sNum 4096 x4 = (t4, x5)) := hE
  replace hx : x5.1.length ≤ 1048576 := Nat.le_trans hln hx
  dsimp only at hcall hbd4
  clear hE hln
  go_wp2_with fail
  refine hcall.mono ?_
  rintro e w5 ⟨rfl, r4, k4⟩
  have HP := HA.out.past k4
  obtain ⟨c_0, c_1, c_2, c_3, c_4, c_5, c_6⟩ := seven_at HP.str
  obtain ⟨z_0, z_1, z_2, z_3, z_4, z_5, z_6⟩ := seven_fz HP.str
  obtain ⟨WN, hWN⟩ : ∃ WN, WN = w5.setCell ⟨b + 1, 4, none⟩ (.int .i64 (t4 : Nat)) := ⟨_, rfl⟩
  have HA' : Hid (R3 w WN br b (.string ⟨t0.toArray⟩) (.int .i64 (t1 : Nat)) (.int .i64 (t2 : Nat)) (.int .i64 t3) (.int .i64 (t4 : Nat)) (.slice none 0 0) (.string ⟨#[]⟩)) := by rw [hWN]; exact HP.setAt 4 _ rfl
  have HRs' : Hid (Rs WN br x5) := by rw [hWN]; exact HP.rs r4 4 _
  clear HP hcall HA HRs r4 k4
  go_upto_region 7 with fail
  rw [← hWN]
  clear hWN c_0 c_1 c_2 c_3 c_4 c_5 c_6 z_0 z_1 z_2 z_3 z_4 z_5 z_6 w5
  have HA := HA'
  have HRs := HRs'
  clear HA' HRs'
  generalize WN = V5 at *
  have hcall := rdparts_any br x5 V5 HRs.out hx
  have hbd5 := Td.sParts_bd x5
  have hln := Td.sParts_len x5
  unfold PtOut at hcall
  rcases hE : Td.sParts x5 with ⟨t5, x6⟩
  rw [hE] at hcall hbd5 hln
  have HE5 : Hid (Td.sParts x5 = (t5, x6)) := hE
  replace hx : x6.1.length ≤ 1048576 := Nat.le_trans hln hx
  dsimp only at hcall hbd5
  clear hE hln
  go_wp2_with fail
  refine hcall.mono ?_
  rintro e w6 ⟨v5, rfl, o5, r5, k5⟩
  obtain ⟨a5, c5, rfl⟩ := own_len o5
  have HO : Hid (w6.ownsRow (b + 2) 24 8 (.slice a5 t5.length c5) t5.length (rowR idC t5)) := own_lower o5 (Array.getElem?_eq_some_iff.1 HA.out.str).1
  have HP := HA.out.past k5
  obtain ⟨c_0, c_1, c_2, c_3, c_4, c_5, c_6⟩ := seven_at HP.str
  obtain ⟨z_0, z_1, z_2, z_3, z_4, z_5, z_6⟩ := seven_fz HP.str
  obtain ⟨WN, hWN⟩ : ∃ WN, WN = w6.setCell ⟨b + 1, 5, none⟩ (.slice a5 t5.length c5) := ⟨_, rfl⟩
  have HA' : Hid (R3 w WN br b (.string ⟨t0.toArray⟩) (.int .i64 (t1 : Nat)) (.int .i64 (t2 : Nat)) (.int .i64 t3) (.int .i64 (t4 : Nat)) (.slice a5 t5.length c5) (.string ⟨#[]⟩)) := by rw [hWN]; exact HP.setAt 5 _ rfl
  have HRs' : Hid (Rs WN br x6) := by rw [hWN]; exact HP.rs r5 5 _
  have HO' : Hid (WN.ownsRow (b + 2) 24 8 (.slice a5 t5.length c5) t5.length (rowR idC t5)) := by rw [hWN]; exact own_kept HO.out ((Kept.refl (fun k => k ≠ b + 1) _).setCell (by simp) _) fun g hg => by have := own_ge HO.out hg; omega
  clear HP hcall HA HRs r5 k5 HO o5
  go_upto_region 8 with fail
  rw [← hWN]
  clear hWN c_0 c_1 c_2 c_3 c_4 c_5 c_6 z_0 z_1 z_2 z_3 z_4 z_5 z_6 w6
  have HA := HA'
  have HRs := HRs'
  clear HA' HRs'
  have HO := HO'
  clear HO'
  generalize WN = V6 at *
  have hcall := rdtext_any br x6 V6 HRs.out hx
  have hbd6 := Td.sTxt_bd x6
  have hln := Td.sTxt_len x6
  unfold RsOut at hcall
  rcases hE : Td.sTxt x6 with ⟨t6, x7⟩
  rw [hE] at hcall hbd6 hln
  have HE6 : Hid (Td.sTxt x6 = (t6, x7)) := hE
  replace hx : x7.1.length ≤ 1048576 := Nat.le_trans hln hx
  dsimp only at hcall hbd6
  clear hE hln
  go_wp2_with fail
  refine hcall.mono ?_
  rintro e w7 ⟨rfl, r6, k6⟩
  have HO6 : Hid (w7.ownsRow (b + 2) 24 8 (.slice a5 t5.length c5) t5.length (rowR idC t5)) := own_kept HO.out k6 fun g hg => by have := own_ge HO.out hg; have := HA.out.lt; omega
  have HP := HA.out.past k6
  obtain ⟨c_0, c_1, c_2, c_3, c_4, c_5, c_6⟩ := seven_at HP.str
  obtain ⟨z_0, z_1, z_2, z_3, z_4, z_5, z_6⟩ := seven_fz HP.str
  obtain ⟨WN, hWN⟩ : ∃ WN, WN = w7.setCell ⟨b + 1, 6, none⟩ (.string ⟨t6.toArray⟩) := ⟨_, rfl⟩
  have HA' : Hid (R3 w WN br b (.string ⟨t0.toArray⟩) (.int .i64 (t1 : Nat)) (.int .i64 (t2 : Nat)) (.int .i64 t3) (.int .i64 (t4 : Nat)) (.slice a5 t5.length c5) (.string ⟨t6.toArray⟩)) := by rw [hWN]; exact HP.setAt 6 _ rfl
  have HRs' : Hid (Rs WN br x7) := by rw [hWN]; exact HP.rs r6 6 _
  have HO' : Hid (WN.ownsRow (b + 2) 24 8 (.slice a5 t5.length c5) t5.length (rowR idC t5)) := by rw [hWN]; exact own_kept HO6.out ((Kept.refl (fun k => k ≠ b + 1) _).setCell (by simp) _) fun g hg => by have := own_ge HO6.out hg; omega
  clear HP hcall HA HRs r6 k6 HO HO6
  go_upto_region 9 with fail
  rw [← hWN]
  clear hWN c_0 c_1 c_2 c_3 c_4 c_5 c_6 z_0 z_1 z_2 z_3 z_4 z_5 z_6 w7
  have HA := HA'
  have HRs := HRs'
  clear HA' HRs'
  have HO := HO'
  clear HO'
  generalize WN = V7 at *
  obtain ⟨m0, m1, m2, m3, m4, m5, m6⟩ := seven_at HA.out.str
  obtain ⟨r0, r1, r2, r3, r4, r5, r6⟩ := seven_at HA.out.res
  obtain ⟨f0, f1, f2, f3, f4, f5, f6⟩ := seven_fz HA.out.res
  have HSv : Hid ((((((((V7.setCell ⟨b, 0, none⟩ (.string ⟨t0.toArray⟩)).setCell ⟨b, 1, none⟩ (.int .i64 (t1 : Nat))).setCell ⟨b, 2, none⟩ (.int .i64 (t2 : Nat))).setCell ⟨b, 3, none⟩ (.int .i64 t3)).setCell ⟨b, 4, none⟩ (.int .i64 (t4 : Nat))).setCell ⟨b, 5, none⟩ (.slice a5 t5.length c5)).setCell ⟨b, 6, none⟩ (.string ⟨t6.toArray⟩)).heap[b]? = some (.cells #[.string ⟨t0.toArray⟩, .int .i64 (t1 : Nat), .int .i64 (t2 : Nat), .int .i64 t3, .int .i64 (t4 : Nat), .slice a5 t5.length c5, .string ⟨t6.toArray⟩] 54 (0, 0))) := set_seven HA.out.res _ _ _ _ _ _ _
  have HKf : Hid (Kept (fun j => j ≠ b) V7 (((((((V7.setCell ⟨b, 0, none⟩ (.string ⟨t0.toArray⟩)).setCell ⟨b, 1, none⟩ (.int .i64 (t1 : Nat))).setCell ⟨b, 2, none⟩ (.int .i64 (t2 : Nat))).setCell ⟨b, 3, none⟩ (.int .i64 t3)).setCell ⟨b, 4, none⟩ (.int .i64 (t4 : Nat))).setCell ⟨b, 5, none⟩ (.slice a5 t5.length c5)).setCell ⟨b, 6, none⟩ (.string ⟨t6.toArray⟩))) := kept7 V7 b _ _ _ _ _ _ _
  have hlt := HA.out.lt
  have HFin : Hid (((((((((V7.setCell ⟨b, 0, none⟩ (.string ⟨t0.toArray⟩)).setCell ⟨b, 1, none⟩ (.int .i64 (t1 : Nat))).setCell ⟨b, 2, none⟩ (.int .i64 (t2 : Nat))).setCell ⟨b, 3, none⟩ (.int .i64 t3)).setCell ⟨b, 4, none⟩ (.int .i64 (t4 : Nat))).setCell ⟨b, 5, none⟩ (.slice a5 t5.length c5)).setCell ⟨b, 6, none⟩ (.string ⟨t6.toArray⟩)).ownsRow w.heap.size 24 8 (.slice a5 t5.length c5) t5.length (rowR idC t5)) ∧ Rs (((((((V7.setCell ⟨b, 0, none⟩ (.string ⟨t0.toArray⟩)).setCell ⟨b, 1, none⟩ (.int .i64 (t1 : Nat))).setCell ⟨b, 2, none⟩ (.int .i64 (t2 : Nat))).setCell ⟨b, 3, none⟩ (.int .i64 t3)).setCell ⟨b, 4, none⟩ (.int .i64 (t4 : Nat))).setCell ⟨b, 5, none⟩ (.slice a5 t5.length c5)).setCell ⟨b, 6, none⟩ (.string ⟨t6.toArray⟩)) br x7 ∧ Kept (fun j => j ≠ br) w (((((((V7.setCell ⟨b, 0, none⟩ (.string ⟨t0.toArray⟩)).setCell ⟨b, 1, none⟩ (.int .i64 (t1 : Nat))).setCell ⟨b, 2, none⟩ (.int .i64 (t2 : Nat))).setCell ⟨b, 3, none⟩ (.int .i64 t3)).setCell ⟨b, 4, none⟩ (.int .i64 (t4 : Nat))).setCell ⟨b, 5, none⟩ (.slice a5 t5.length c5)).setCell ⟨b, 6, none⟩ (.string ⟨t6.toArray⟩))) := by
    refine ⟨own_lower (own_kept HO.out HKf.out fun g hg => by have := own_ge HO.out hg; omega) (by rw [← HWb.out]; omega), HKf.out.obj (by omega) HRs.out, ?_⟩
    exact ⟨HKf.out.os.trans HA.out.kept.os, HKf.out.tape.trans HA.out.kept.tape, HKf.out.output.trans HA.out.kept.output, Nat.le_trans HA.out.kept.size HKf.out.size, fun j hj hp => (HKf.out.block j (Nat.lt_of_lt_of_le hj HA.out.kept.size) (by have := HWb.out; omega)).trans (HA.out.kept.block j hj hp)⟩
  have HNd : Hid (R = (⟨t0, (t1 : Nat), (t2 : Nat), t3, (t4 : Nat), t5, t6⟩, x7)) := by
    show _ = _
    rw [← HR.out, Td.sNode, HE0.out]
    simp only [HE1.out, HE2.out, HE3.out, HE4.out, HE5.out, HE6.out]
  have HOk : Hid (Nod.Ok ⟨⟨t0.toArray⟩, (t1 : Nat), (t2 : Nat), t3, (t4 : Nat), t5, ⟨t6.toArray⟩⟩) := ⟨wf_i (n := (t1 : Nat)) (by omega) (by omega), wf_i (n := (t2 : Nat)) (by omega) (by omega), wf_i hbd3.1 hbd3.2, wf_i (n := (t4 : Nat)) (by omega) (by omega), by show ByteArray.size _ ≤ _; rw [tg_size]; omega, by show ByteArray.size _ ≤ _; rw [tg_size]; omega, hbd5.2⟩
  clear HKf HA HRs HO HE0 HE1 HE2 HE3 HE4 HE5 HE6 HR hbd0 hbd1 hbd2 hbd3 hbd4 hbd5 hbd6 hx
  go_wp2_with fail
  obtain ⟨WF, hWF⟩ : ∃ WF, WF = (((((((V7.setCell ⟨b, 0, none⟩ (.string ⟨t0.toArray⟩)).setCell ⟨b, 1, none⟩ (.int .i64 (t1 : Nat))).setCell ⟨b, 2, none⟩ (.int .i64 (t2 : Nat))).setCell ⟨b, 3, none⟩ (.int .i64 t3)).setCell ⟨b, 4, none⟩ (.int .i64 (t4 : Nat))).setCell ⟨b, 5, none⟩ (.slice a5 t5.length c5)).setCell ⟨b, 6, none⟩ (.string ⟨t6.toArray⟩)) := ⟨_, rfl⟩
  rw [← hWF] at HFin HSv ⊢
  obtain ⟨q0, q1, q2, q3, q4, q5, q6⟩ := seven_at HSv.out
  refine bodyPost_ret (v := .agg #[.string ⟨t0.toArray⟩, .int .i64 (t1 : Nat), .int .i64 (t2 : Nat), .int .i64 t3, .int .i64 (t4 : Nat), .slice a5 t5.length c5, .string ⟨t6.toArray⟩]) ?_ rfl ⟨⟨⟨t0.toArray⟩, (t1 : Nat), (t2 : Nat), t3, (t4 : Nat), t5, ⟨t6.toArray⟩⟩, .slice a5 t5.length c5, rfl, by rw [HNd.out]; rfl, HFin.out.1, HOk.out, by rw [HNd.out]; exact HFin.out.2.1, HFin.out.2.2⟩
  simp [results, asAddr, go_sem, q0, q1, q2, q3, q4, q5, q6]

end Go.Proofs.YtimdioacmojkeaaDoor

namespace Go.Proofs.YtimdioacmojkeaaDoor
open Go.RowKit
end Go.Proofs.YtimdioacmojkeaaDoor

namespace Go.Proofs.YtimdioacmojkeaaDoor
open Go.RowKit
end Go.Proofs.YtimdioacmojkeaaDoor

namespace Go.Proofs.YtimdioacmojkeaaDoor
open Go.RowKit

theorem tput9 (n : Nat) : (Nm.put n).length ≤ 9 := Nm.put_length n

/-- a block of another type is not that of a row of bytes -/
theorem tg_apart {base n G : Nat} {v : Value} {xs : List Value} {W : World} {cs : Array Value} {T : TypeId} {fr : Nat × Nat} (h : W.ownsRow base 5 1 v n xs) (hG : W.heap[G]? = some (.cells cs T fr)) (hT : T ≠ 5) : v.ownBlock ≠ some G := by
  intro e
  obtain ⟨cur, hh, _⟩ := own_block h e
  rw [hG, Option.some.injEq, Obj.cells.injEq] at hh
  exact hT hh.2.1

/-- what an appending answers: ys behind xs -/
def ApOut (base : Nat) (v : Value) (xs ys : List UInt8) (w : World) (e : Ending) (w' : World) : Prop :=
  ∃ v', e = .returned v' ∧ w'.ownsRow base 5 1 v' (xs ++ ys).length ((xs ++ ys).map B) ∧ Below base w w' ∧ Kept (fun k => v.ownBlock ≠ some k) w w'

/-- a node's cells in block b, bytes S of one's own, older blocks as they were -/
structure Tw (w0 w W : World) (b : Nat) (cs : Array Value) (v : Value) (S : List UInt8) : Prop where
  node : W.heap[b]? = some (.cells cs 54 (0, 0))
  own : W.ownsRow w0.heap.size 5 1 v S.length (S.map B)
  bel : Below w0.heap.size w W
  size : w0.heap.size ≤ W.heap.size

section
variable {w0 w W W' : World} {b : Nat} {cs : Array Value} {v v' : Value} {S Y : List UInt8} {e : Ending}
theorem Tw.ap (h : Tw w0 w W b cs v S) (ho : W'.ownsRow w0.heap.size 5 1 v' (S ++ Y).length ((S ++ Y).map B)) (hb : Below w0.heap.size W W') (hk : Kept (fun k => v.ownBlock ≠ some k) W W') : Tw w0 w W' b cs v' (S ++ Y) :=
  ⟨hk.obj (tg_apart h.own h.node (by decide)) h.node, ho, h.bel.trans hb, Nat.le_trans h.size hb.size⟩

theorem Tw.past (h : Tw w0 w W b cs v S) (hb : Below W.heap.size W W') : Tw w0 w W' b cs v S :=
  ⟨(hb.block _ (Array.getElem?_eq_some_iff.1 h.node).1).trans h.node, own_below h.own hb, h.bel.trans (hb.mono h.size), Nat.le_trans h.size hb.size⟩

theorem Tw.grow {xs : List Value} {n : Nat} (h : Tw w0 w W b cs v S) (hg : W.grownBy W' v.ownBlock) (ho : W'.ownsRow w0.heap.size 5 1 v' n xs) (hn : n = (S ++ Y).length) (hx : xs = (S ++ Y).map B) : Tw w0 w W' b cs v' (S ++ Y) := by
  subst hn hx
  exact ⟨(hg.block _ (Array.getElem?_eq_some_iff.1 h.node).1 (fun e => tg_apart h.own h.node (by decide) e.symm)).trans h.node, ho, h.bel.grown hg h.size fun j hj => (h.own.lt j hj).1, Nat.le_trans h.size hg.size⟩

end

theorem flat_more {l : List (List UInt8)} {k : Nat} (h : k < l.length) : (l.take (k + 1)).flatten = (l.take k).flatten ++ l[k] := by
  rw [List.take_succ_eq_append_getElem h, List.flatten_append, List.flatten_cons, List.flatten_nil, List.append_nil]

theorem tg_eight {t : List UInt8} (h : t.length = 8) : ∃ b0 b1 b2 b3 b4 b5 b6 b7, t = [b0, b1, b2, b3, b4, b5, b6, b7] := by
  match t, h with
  | [b0, b1, b2, b3, b4, b5, b6, b7], _ => exact ⟨b0, b1, b2, b3, b4, b5, b6, b7, rfl⟩

/-- what appendNode answers -/
def AnOut (w0 w : World) (S : List UInt8) (e : Ending) (w' : World) : Prop := ∃ v', e = .returned v' ∧ w'.ownsRow w0.heap.size 5 1 v' S.length (S.map B) ∧ Below w0.heap.size w w'

theorem trows_more (l : List Nod) (k : Nat) (h : k < l.length) : Td.rowsT (nds (l.take (k + 1))) = Td.rowsT (nds (l.take k)) ++ Td.rowT l[k].nd := by
  rw [List.take_succ_eq_append_getElem h]
  simp only [nds, Td.rowsT, List.map_append, List.map_cons, List.map_nil, List.flatten_append, List.flatten_cons, List.flatten_nil, List.append_nil]

theorem trow_len {n : Nod} (h : Td.nErr n.nd = 0) (h8 : ∀ p ∈ n.parts, p.length = 8) : (Td.rowT n.nd).length ≤ 6600 := by
  obtain ⟨q0, q1, q2, q3, q4, q5, q6, q7, q8⟩ := Td.nErr_ok h
  have a1 := Nm.putT_length n.nd.name
  have a2 := Nn.nm_long q0
  have a3 := Nm.putT_length n.nd.link
  have a4 := tput9 n.nd.mode.toNat
  have a5 := tput9 n.nd.size.toNat
  have a6 := tput9 n.nd.parts.length
  have a7 := Nm.putI_length n.nd.time
  have a8 : n.nd.parts.flatten.length = 8 * n.nd.parts.length := Td.flat8 h8
  unfold Td.rowT
  simp only [List.length_append, List.length_cons]
  omega
end Go.Proofs.YtimdioacmojkeaaDoor
