/-
  What PutInt of package num answers.
  What appendNumber, appendText, appendNode and Write of package tree answer.
  What the reader of package tree answers: all nodes; what Read answers.
  As OwG, without places: appending within the capacity; a block that may be written; a list with two more things behind it.
  What Read of package tree answers, each node's parts in a row of their own.
  When two IDs are equal.
  An ID by its eight bytes.
  slices.Equal over IDs.
  lumref.SameNode, slices.EqualFunc and slices.IndexFunc over nodes.
  What ample, stays and spoil of package lumkeep do to IDs.
  Rows of things of k cells each, and an ID, handed in and read as data: opened, and shut.
  Nodes cloned; a row of nodes of one's own, cell by cell; a node's parts set.
  TreeOwn: nodes whose parts are made ample one after another; nodes whose parts are spoilt.
  Plain facts (no Go in here) on the digest's step: it can be undone.
  Plain facts (no Go in here): the digest of a text, block by block.
  Plain facts (no Go in here): the steps of a text, and: two unlike texts of one narrow sum have unlike steps that end alike.
  Plain facts (no Go in here): texts of one length that are unlike within one block only have unlike sums.
  P27 to P30 (no Go in it): blobs, what a pack of them is, what is read of whatever bytes, and that what is packed is read as it was.
  P28 to P30 (no Go in it): what is packed is listed, found and split as it was; a changed byte is told; what is told has its digest.
  Rows of blobs and of a pack's list as they lie in memory.
  Blobs, and a row of a pack's list, handed in and read as data: opened, and shut.
  A map whose keys are IDs: what is there, what is not.
  P37 to P39 (no Go in it): names and their path, what is clean, what comes ahead of what.
  P39 (no Go in it): paths have an order, in which all that is in a directory comes at once behind it.
  P46 to P48 (no Go in it): things with paths, in the order of paths, each in a directory that is there: to go down directory by directory tells them all, in that order.
  P46 (no Go in it): worlds, and what is wrong with them; a right world is a tree.
  P47, P48 (no Go in it): how a world is planted, and how it is reaped; what was planted is reaped as it was.
  A map of blobs by their IDs: what put leaves, whatever was there.
  What product and Step of the document's answer (package lumref) answer.
  What Step and Undo of package mix answer.
  Nothing is laid here: this program has none of it.
  What wide of the document's answer (package lumref) answers: the eight digits of a number.
  What Narrow of the document's answer (package lumref) answers.
  What readBlock, digest, Sum and Narrow of package mix answer.
  What ID of the document's answer (package lumref) answers.
  What ID of package mix answers.
  When two blobs, two rows of a pack's list, two IDs are equal.
-/
import Derived.Test.YtimdioacmojkeabDoorXTreeOwn0
import Derived.Lib.AppendStr
import Derived.Deep.Cut
import Derived.Deep.MidRow
import Derived.BigQuiet
import Derived.Deep.RegionHeld3
import Derived.Lib.SliceRun
import Derived.Maps.AppendAt
import Derived.Laws.AppendOwnNone
import Derived.Stop.BytesEq
import Derived.Deep.CutBlock
import Derived.Deep.DeepCutAuto
import Derived.Deep.RegionWith
import Derived.OpenShut
import Derived.DataShut
import Derived.WideShapes
import Derived.Deep.Strs
import Derived.Lib.SmallJoins
import Derived.Deep.Slices
import Derived.SizedLaws
import Derived.WalkKit
import Derived.Laws.BitsAllLaws
import Derived.Lib.Strings
import Derived.WideKeyArr2
import Derived.DeepKeys4
import Derived.Maps.OwnSet
import Derived.WalkSpells
import Derived.WalkLawsBesides
import Derived.WalkSmall
import Derived.Shelf.Strings.Repeat
import Derived.Test.YtimdioacmojkeabDoorProg
import Derived.Laws.Cover3
import Derived.Laws.StructEq

namespace Go.Proofs.YtimdioacmojkeabDoor
open Go.RowKit
set_option maxRecDepth 4000

set_option maxHeartbeats 400000 in
theorem putI_any (n : Int) (w : World) (n0 : -9223372036854775808 ≤ n) (n1 : n ≤ 9223372036854775807) :
    Calls Tryd.prog 23 #[.int .i64 n] w fun e w' => e = .returned (.string ⟨(Nm.putI n).toArray⟩) ∧ Below w.heap.size w w' := by
  by_cases h : n < 0
  · have hl := Nm.dig_length_le (-1 - n).toNat
    have hp : Hid (Nm.putI n = [UInt8.ofNat (127 - ((Nm.dig (-1 - n).toNat).length : Int)).toNat] ++ Nm.tn (255 : Int).toNat (Nm.low ((Nm.dig (-1 - n).toNat).length : Int).toNat (-1 - n).toNat)) := by
      show _ = _
      rw [Nm.putI, if_pos h, Int.toNat_natCast, Nm.dig_low, show (127 - ((Nm.dig (-1 - n).toNat).length : Int)).toNat = 127 - (Nm.dig (-1 - n).toNat).length from by omega]
      rfl
    go_enter Tryd.func23, Tryd.ntmps23
    go_wp2_with (go_at_call 33; refine (count_any (-1 - n) _ (by omega) (by omega)).mono ?_; rintro e w' ⟨rfl, rfl⟩)
    refine (digits_app w'.heap.size _ [UInt8.ofNat (127 - ((Nm.dig (-1 - n).toNat).length : Int)).toNat] _ _ 255 _ (owns_one _ _ (by omega) (by omega)) (by simp) (by simp) (by omega) (by omega) (by omega) (by omega) (by omega) (by omega)).mono ?_
    rintro e w2 ⟨v, rfl, hown, hbel⟩
    rw [← hp.out] at hown
    have hcv := run_str hown
    have hb : Below w'.heap.size w' w2 := ((Below.refl _ _).alloc (Nat.le_refl _) _).trans hbel
    clear hown hbel
    go_wp2
    go_ret
    exact ⟨rfl, hb⟩
  · have hl := Nm.dig_length_le n.toNat
    have hp : Hid (Nm.putI n = [UInt8.ofNat (128 + ((Nm.dig n.toNat).length : Int)).toNat] ++ Nm.tn (0 : Int).toNat (Nm.low ((Nm.dig n.toNat).length : Int).toNat n.toNat)) := by
      show _ = _
      rw [Nm.putI, if_neg h, Int.toNat_natCast, Nm.dig_low, show (128 + ((Nm.dig n.toNat).length : Int)).toNat = 128 + (Nm.dig n.toNat).length from by omega]
      rw [show (0 : Int).toNat = 0 from rfl, Nm.tn_zero]
      rfl
    go_enter Tryd.func23, Tryd.ntmps23
    go_wp2_with (go_at_call 33; refine (count_any n _ (by omega) (by omega)).mono ?_; rintro e w' ⟨rfl, rfl⟩)
    refine (digits_app w'.heap.size _ [UInt8.ofNat (128 + ((Nm.dig n.toNat).length : Int)).toNat] _ _ 0 _ (owns_one _ _ (by omega) (by omega)) (by simp) (by simp) (by omega) (by omega) (by omega) (by omega) (by omega) (by omega)).mono ?_
    rintro e w2 ⟨v, rfl, hown, hbel⟩
    rw [← hp.out] at hown
    have hcv := run_str hown
    have hb : Below w'.heap.size w' w2 := ((Below.refl _ _).alloc (Nat.le_refl _) _).trans hbel
    clear hown hbel
    go_wp2
    go_ret
    exact ⟨rfl, hb⟩
end Go.Proofs.YtimdioacmojkeabDoor

namespace Go.Proofs.YtimdioacmojkeabDoor
open Go.RowKit
set_option maxRecDepth 4000

theorem tput9 (n : Nat) : (Nm.put n).length ≤ 9 := Nm.put_length n

/-- a block of another type is not that of a row of bytes -/
theorem tg_apart {base n G : Nat} {v : Value} {xs : List Value} {W : World} {cs : Array Value} {T : TypeId} {fr : Nat × Nat} (h : W.ownsRow base 5 1 v n xs) (hG : W.heap[G]? = some (.cells cs T fr)) (hT : T ≠ 5) : v.ownBlock ≠ some G := by
  intro e
  obtain ⟨cur, hh, _⟩ := own_block h e
  rw [hG, Option.some.injEq, Obj.cells.injEq] at hh
  exact hT hh.2.1

/-- what an appending answers: ys behind xs -/
def ApOut (base : Nat) (v : Value) (xs ys : List UInt8) (w : World) (e : Ending) (w' : World) : Prop :=
  ∃ v', e = .returned v' ∧ w'.ownsRow base 5 1 v' (xs ++ ys).length ((xs ++ ys).map B) ∧ Below base w w' ∧ Kept (fun k => v.ownBlock ≠ some k) w w'

set_option maxHeartbeats 1000000 in
theorem tnum_any (base : Nat) (v : Value) (xs : List UInt8) (n : Nat) (w : World) (hown : w.ownsRow base 5 1 v xs.length (xs.map B)) (hb : base ≤ w.heap.size) (hx : xs.length ≤ 1048576) (hn : n ≤ 1099511627776) :
    Calls Tryd.prog 14 #[v, .int .i64 n] w (ApOut base v xs (Nm.put n) w) := by
  unfold ApOut
  obtain ⟨i0, hi, hz0, hz1, hz2⟩ := info_of' info_u8
  obtain ⟨a, c, rfl⟩ := own_len hown
  have hp := num_put n w (by omega) (by omega)
  rw [Int.toNat_natCast] at hp
  have hl := Nm.dig_length_le n
  go_enter Tryd.func14, Tryd.ntmps14
  go_wp2_with fail
  refine hp.mono ?_
  rintro e w1 ⟨rfl, hb1⟩
  have hown1 := own_below hown hb1
  have hB1 : Below base w w1 := hb1.mono hb
  have hs1 := hB1.size
  have hpl : (Nm.put n).length ≤ 9 := tput9 n
  have HPS : Hid ((⟨(Nm.put n).toArray⟩ : ByteArray).size = (Nm.put n).length) := by show (Nm.put n).toArray.size = _; rw [List.size_toArray]
  have HK1 : Hid (Kept (fun k => (Value.slice a xs.length c).ownBlock ≠ some k) w w1) := Kept.of_below hb1
  clear hp hb1 hown
  obtain ⟨S, hS⟩ : ∃ S : ByteArray, (⟨(Nm.put n).toArray⟩ : ByteArray) = S := ⟨_, rfl⟩
  have HS : Hid (Lib.strCells S = (Nm.put n).map B ∧ S.size = (Nm.put n).length) := by rw [← hS]; exact ⟨rfl, HPS.out⟩
  have hSz : S.size ≤ 9 := by rw [HS.out.2]; exact hpl
  rw [hS]
  clear hS HPS hpl
  go_wp2_with (at_builtin; refine Lib.wpList_append_own_string _ rfl (.tmp 5) (.tmp 8) 45 9 rfl base 5 i0 Tryd.underlying45 Tryd.underlying9 hi hz0 hz1 hz2 _ _ _ rfl hown1 S rfl ?c3 ?c4 ?c5 ?_)
  case c3 => unfold maxLen; omega
  case c4 => omega
  case c5 => omega
  intro v1 w3 hown3 hgrow _
  have HO : Hid (w3.ownsRow base 5 1 v1 (xs ++ Nm.put n).length ((xs ++ Nm.put n).map B)) := by
    rw [HS.out.1, HS.out.2] at hown3
    rw [List.length_append, List.map_append]
    exact hown3
  have HB3 : Hid (Below base w w3) := hB1.grown hgrow (by omega) fun j hj => (hown1.lt j hj).1
  have HK3 : Hid (Kept (fun k => (Value.slice a xs.length c).ownBlock ≠ some k) w w3) := HK1.out.grown hgrow fun k hk hp => hp hk
  clear hown3 hgrow hown1 hB1
  go_wp2_with fail
  go_ret
  exact ⟨_, rfl, HO.out, HB3.out, HK3.out⟩

set_option maxHeartbeats 1000000 in
theorem ttext_any (base : Nat) (v : Value) (xs : List UInt8) (s : ByteArray) (w : World) (hown : w.ownsRow base 5 1 v xs.length (xs.map B)) (hb : base ≤ w.heap.size) (hx : xs.length ≤ 1048576) (hn : s.size ≤ 1024) :
    Calls Tryd.prog 22 #[v, .string s] w (ApOut base v xs (Nm.putT s.data.toList) w) := by
  unfold ApOut
  obtain ⟨i0, hi, hz0, hz1, hz2⟩ := info_of' info_u8
  obtain ⟨a, c, rfl⟩ := own_len hown
  have hp := putT_any s w hn
  have hpl : (Nm.putT s.data.toList).length ≤ 2050 := by have := Nm.putT_length s.data.toList; rw [← Lib.size_eq] at this; omega
  obtain ⟨S, hS⟩ : ∃ S : ByteArray, (⟨(Nm.putT s.data.toList).toArray⟩ : ByteArray) = S := ⟨_, rfl⟩
  have HS : Hid (Lib.strCells S = (Nm.putT s.data.toList).map B ∧ S.size = (Nm.putT s.data.toList).length) := by rw [← hS]; exact ⟨rfl, by show (Nm.putT s.data.toList).toArray.size = _; rw [List.size_toArray]⟩
  have hSz : S.size ≤ 2050 := by rw [HS.out.2]; exact hpl
  rw [hS] at hp
  clear hS hpl
  generalize Nm.putT s.data.toList = Y at *
  go_enter Tryd.func22, Tryd.ntmps22
  go_wp2_with fail
  refine hp.mono ?_
  rintro e w1 ⟨rfl, hb1⟩
  have hown1 := own_below hown hb1
  have hB1 : Below base w w1 := hb1.mono hb
  have hs1 := hB1.size
  have HK1 : Hid (Kept (fun k => (Value.slice a xs.length c).ownBlock ≠ some k) w w1) := Kept.of_below hb1
  clear hp hb1 hown
  go_wp2_with (at_builtin; refine Lib.wpList_append_own_string _ rfl (.tmp 12) (.tmp 13) 45 9 rfl base 5 i0 Tryd.underlying45 Tryd.underlying9 hi hz0 hz1 hz2 _ _ _ rfl hown1 S rfl ?c3 ?c4 ?c5 ?_)
  case c3 => unfold maxLen; omega
  case c4 => omega
  case c5 => omega
  intro v1 w3 hown3 hgrow _
  have HO : Hid (w3.ownsRow base 5 1 v1 (xs ++ Y).length ((xs ++ Y).map B)) := by
    rw [HS.out.1, HS.out.2] at hown3
    rw [List.length_append, List.map_append]
    exact hown3
  have HB3 : Hid (Below base w w3) := hB1.grown hgrow (by omega) fun j hj => (hown1.lt j hj).1
  have HK3 : Hid (Kept (fun k => (Value.slice a xs.length c).ownBlock ≠ some k) w w3) := HK1.out.grown hgrow fun k hk hp => hp hk
  clear hown3 hgrow hown1 hB1
  go_wp2_with fail
  go_ret
  exact ⟨_, rfl, HO.out, HB3.out, HK3.out⟩

/-- a node's cells in block b, bytes S of one's own, older blocks as they were -/
structure Tw (w0 w W : World) (b : Nat) (cs : Array Value) (v : Value) (S : List UInt8) : Prop where
  node : W.heap[b]? = some (.cells cs 29 (0, 0))
  own : W.ownsRow w0.heap.size 5 1 v S.length (S.map B)
  bel : Below w0.heap.size w W
  size : w0.heap.size ≤ W.heap.size

section
variable {w0 w W W' : World} {b : Nat} {cs : Array Value} {v v' : Value} {S Y : List UInt8} {e : Ending}
theorem Tw.ap (h : Tw w0 w W b cs v S) (ho : W'.ownsRow w0.heap.size 5 1 v' (S ++ Y).length ((S ++ Y).map B)) (hb : Below w0.heap.size W W') (hk : Kept (fun k => v.ownBlock ≠ some k) W W') : Tw w0 w W' b cs v' (S ++ Y) :=
  ⟨hk.obj (tg_apart h.own h.node (by decide)) h.node, ho, h.bel.trans hb, Nat.le_trans h.size hb.size⟩

theorem Tw.past (h : Tw w0 w W b cs v S) (hb : Below W.heap.size W W') : Tw w0 w W' b cs v S :=
  ⟨(hb.block _ (Array.getElem?_eq_some_iff.1 h.node).1).trans h.node, own_below h.own hb, h.bel.trans (hb.mono h.size), Nat.le_trans h.size hb.size⟩

theorem Tw.grow {xs : List Value} {n : Nat} (h : Tw w0 w W b cs v S) (hg : W.grownBy W' v.ownBlock) (ho : W'.ownsRow w0.heap.size 5 1 v' n xs) (hn : n = (S ++ Y).length) (hx : xs = (S ++ Y).map B) : Tw w0 w W' b cs v' (S ++ Y) := by
  subst hn hx
  exact ⟨(hg.block _ (Array.getElem?_eq_some_iff.1 h.node).1 (fun e => tg_apart h.own h.node (by decide) e.symm)).trans h.node, ho, h.bel.grown hg h.size fun j hj => (h.own.lt j hj).1, Nat.le_trans h.size hg.size⟩

end

theorem flat_more {l : List (List UInt8)} {k : Nat} (h : k < l.length) : (l.take (k + 1)).flatten = (l.take k).flatten ++ l[k] := by
  rw [List.take_succ_eq_append_getElem h, List.flatten_append, List.flatten_cons, List.flatten_nil, List.append_nil]

theorem tg_eight {t : List UInt8} (h : t.length = 8) : ∃ b0 b1 b2 b3 b4 b5 b6 b7, t = [b0, b1, b2, b3, b4, b5, b6, b7] := by
  match t, h with
  | [b0, b1, b2, b3, b4, b5, b6, b7], _ => exact ⟨b0, b1, b2, b3, b4, b5, b6, b7, rfl⟩

/-- what appendNode answers -/
def AnOut (w0 w : World) (S : List UInt8) (e : Ending) (w' : World) : Prop := ∃ v', e = .returned v' ∧ w'.ownsRow w0.heap.size 5 1 v' S.length (S.map B) ∧ Below w0.heap.size w w'

set_option maxHeartbeats 8000000 in
set_option maxRecDepth 10000 in
theorem tnode_any (w0 w : World) (v : Value) (xs : List UInt8) (name link : ByteArray) (kd md sz : Nat) (time : Int) (parts : List (List UInt8)) (a : Option Addr) (c np : Nat)
    (hB : Below w0.heap.size w0 w) (hown : w.ownsRow w0.heap.size 5 1 v xs.length (xs.map B)) (hx : xs.length ≤ 524288) (hnp : np = parts.length)
    (hP : Rx 8 idC w0 (.slice a np c) parts) (h8 : ∀ p ∈ parts, p.length = 8) (hn : name.size ≤ 1024) (hl : link.size ≤ 1024) (hk : kd ≤ 3) (hm : md ≤ 511) (hz : sz ≤ 4096) (hp : np ≤ 300)
    (ht0 : -9223372036854775808 ≤ time) (ht1 : time ≤ 9223372036854775807) :
    Calls Tryd.prog 15 #[v, .agg #[.string name, .int .i64 (kd : Nat), .int .i64 (md : Nat), .int .i64 time, .int .i64 (sz : Nat), .slice a np c, .string link]] w
      (AnOut w0 w (xs ++ Td.rowT ⟨name.data.toList, (kd : Nat), (md : Nat), time, (sz : Nat), parts, link.data.toList⟩)) := by
  unfold AnOut
  obtain ⟨i0, hi, hz0, hz1, hz2⟩ := info_of' info_u8
  have HRow : Hid (xs ++ Td.rowT ⟨name.data.toList, (kd : Nat), (md : Nat), time, (sz : Nat), parts, link.data.toList⟩ = (((((((xs ++ Nm.putT name.data.toList) ++ [UInt8.ofNat kd]) ++ Nm.put md) ++ Nm.putI time) ++ Nm.put sz) ++ Nm.put np) ++ parts.flatten) ++ Nm.putT link.data.toList) := by
    show _ = _
    rw [hnp]
    simp [Td.rowT]
  generalize xs ++ Td.rowT ⟨name.data.toList, (kd : Nat), (md : Nat), time, (sz : Nat), parts, link.data.toList⟩ = RES at *
  have HPt : Hid (Rx 8 idC w0 (.slice a np c) parts ∧ (∀ p ∈ parts, p.length = 8) ∧ np = parts.length ∧ Below w0.heap.size w0 w) := ⟨hP, h8, hnp, hB⟩
  obtain ⟨av, cv, rfl⟩ := own_len hown
  obtain ⟨W1, hW1⟩ : ∃ W1, W1 = w.alloc (.cells #[.string name, .int .i64 (kd : Nat), .int .i64 (md : Nat), .int .i64 time, .int .i64 (sz : Nat), .slice a np c, .string link] 29) := ⟨_, rfl⟩
  have HW1 : Hid (Tw w0 w W1 w.heap.size #[.string name, .int .i64 (kd : Nat), .int .i64 (md : Nat), .int .i64 time, .int .i64 (sz : Nat), .slice a np c, .string link] (.slice av xs.length cv) xs) := by
    have hb1 : Below w.heap.size w W1 := by rw [hW1]; exact (Below.refl _ w).alloc (Nat.le_refl _) _
    exact ⟨by rw [hW1]; exact heap_alloc_new w _, own_below hown hb1, hb1.mono hB.size, Nat.le_trans hB.size hb1.size⟩
  have htx := fun V s Z W (h1 : W.ownsRow w0.heap.size 5 1 V Z.length (Z.map B)) h2 h3 h4 => ttext_any w0.heap.size V Z s W h1 h2 h3 h4
  have hnu := fun V n Z W (h1 : W.ownsRow w0.heap.size 5 1 V Z.length (Z.map B)) h2 h3 h4 => tnum_any w0.heap.size V Z n W h1 h2 h3 h4
  have hpi := fun W => putI_any time W ht0 ht1
  unfold ApOut at htx hnu
  have hy1 : (Nm.putT name.data.toList).length ≤ 2050 := by have := Nm.putT_length name.data.toList; rw [← Lib.size_eq] at this; omega
  have HY1 : Hid ((Nm.putT link.data.toList).length ≤ 2050) := by have := Nm.putT_length link.data.toList; rw [← Lib.size_eq] at this; show _ ≤ _; omega
  have hy3 := tput9 md
  have hy4 := Nm.putI_length time
  have hy5 := tput9 sz
  have hy6 := tput9 np
  clear hB hown hP h8 hnp
  go_enter Tryd.func15, Tryd.ntmps15
  go_upto_region 1 with fail
  rw [← hW1]
  obtain ⟨b, hb⟩ : ∃ b, b = w.heap.size := ⟨_, rfl⟩
  rw [← hb] at HW1 ⊢
  clear hW1 hb
  obtain ⟨m0, _⟩ := seven_at HW1.out.node
  go_upto_region 2 with (go_at_call 22; refine (htx _ name xs _ HW1.out.own HW1.out.size (by omega) hn).mono ?_; rintro e w2 ⟨v2, rfl, o2, b2, k2⟩)
  have HW2 : Hid (Tw w0 w w2 b #[.string name, .int .i64 (kd : Nat), .int .i64 (md : Nat), .int .i64 time, .int .i64 (sz : Nat), .slice a np c, .string link] v2 (xs ++ Nm.putT name.data.toList)) := HW1.out.ap o2 b2 k2
  clear o2 b2 k2 HW1 m0
  obtain ⟨S1, hS1⟩ : ∃ S1, xs ++ Nm.putT name.data.toList = S1 := ⟨_, rfl⟩
  have hl1 : S1.length ≤ 526400 := by rw [← hS1, List.length_append]; omega
  rw [hS1] at HW2 HRow
  clear hS1 hy1
  obtain ⟨s2, c2, rfl⟩ := own_len HW2.out.own
  -- the kind
  obtain ⟨_, m1, _⟩ := seven_at HW2.out.node
  have hwk : IntKind.u8.wrap (kd : Int) = (kd : Int) := by simp [IntKind.wrap, IntKind.bits, IntKind.signed]; omega
  obtain ⟨W3, hW3⟩ : ∃ W3, W3 = w2.alloc (.cells #[.int .u8 (kd : Int)] 5) := ⟨_, rfl⟩
  have HW3 : Hid (Tw w0 w W3 b #[.string name, .int .i64 (kd : Nat), .int .i64 (md : Nat), .int .i64 time, .int .i64 (sz : Nat), .slice a np c, .string link] (.slice s2 S1.length c2) S1) := by rw [hW3]; exact HW2.out.past ((Below.refl _ w2).alloc (Nat.le_refl _) _)
  have hnews : ∀ j u, ([.int .u8 (kd : Int)] : List Value)[j]? = some u → W3.cell? ((⟨w2.heap.size, 0, none⟩ : Addr).add j) = some u := fun j u hu => by
    rw [hW3, show ((⟨w2.heap.size, 0, none⟩ : Addr).add j) = ⟨w2.heap.size, 0 + j, none⟩ from Addr.add_mid _ _ _, Nat.zero_add, cell_of_row _ w2.heap.size j _ _ _ (heap_alloc_new w2 _)]
    simpa using hu
  have hown3 := HW3.out.own
  have hsz3 := HW3.out.size
  have HM3 : Hid (S1.map B ++ [.int .u8 (kd : Int)] = (S1 ++ [UInt8.ofNat kd]).map B) := by
    show _ = _
    rw [List.map_append]
    congr 1
    show _ = [B (UInt8.ofNat kd)]
    unfold B
    rw [UInt8.toNat_ofNat', Nat.mod_eq_of_lt (by omega)]
  clear HW2
  go_wp2_with (at_builtin; rw [← hW3]; refine wpList_append_own _ rfl (.tmp 11) (.tmp 15) 45 rfl w0.heap.size 5 i0 (.int .u8 0) 1 1 Tryd.underlying45 hi hz0 hz1 hz2 rfl (by decide) _ _ _ rfl hown3 ⟨w2.heap.size, 0, none⟩ 1 1 [.int .u8 (kd : Int)] rfl rfl hnews ?c2 ?c3 ?c4 ?c5 ?_)
  case c2 => intro u hu; rw [List.mem_singleton.1 hu]; rfl
  case c3 => unfold maxLen; omega
  case c4 => omega
  case c5 => exact hsz3
  intro v4 w4 o4 hgrow4 _
  rw [← hW3] at hgrow4
  have HW4 : Hid (Tw w0 w w4 b #[.string name, .int .i64 (kd : Nat), .int .i64 (md : Nat), .int .i64 time, .int .i64 (sz : Nat), .slice a np c, .string link] v4 (S1 ++ [UInt8.ofNat kd])) := HW3.out.grow hgrow4 o4 (by simp) HM3.out
  clear o4 hgrow4 hown3 HW3 hnews hsz3 hW3 m1 HM3 hwk
  obtain ⟨S2, hS2⟩ : ∃ S2, S1 ++ [UInt8.ofNat kd] = S2 := ⟨_, rfl⟩
  have hl2 : S2.length ≤ 526401 := by rw [← hS2, List.length_append, List.length_singleton]; omega
  rw [hS2] at HW4 HRow
  clear hS2
  obtain ⟨s4, c4, rfl⟩ := own_len HW4.out.own
  go_upto_region 3 with fail
  obtain ⟨_, _, m2, _⟩ := seven_at HW4.out.node
  go_upto_region 4 with (go_at_call 14; refine (hnu _ md S2 _ HW4.out.own HW4.out.size (by omega) (by omega)).mono ?_; rintro e w5 ⟨v5, rfl, o5, b5, k5⟩)
  have HW5 : Hid (Tw w0 w w5 b #[.string name, .int .i64 (kd : Nat), .int .i64 (md : Nat), .int .i64 time, .int .i64 (sz : Nat), .slice a np c, .string link] v5 (S2 ++ Nm.put md)) := HW4.out.ap o5 b5 k5
  clear o5 b5 k5 HW4 m2
  obtain ⟨S3, hS3⟩ : ∃ S3, S2 ++ Nm.put md = S3 := ⟨_, rfl⟩
  have hlS3 : S3.length ≤ 526410 := by rw [← hS3, List.length_append]; omega
  rw [hS3] at HW5 HRow
  clear hS3 hy3
  obtain ⟨s5, c5, rfl⟩ := own_len HW5.out.own
  obtain ⟨_, _, _, m3, _⟩ := seven_at HW5.out.node
  obtain ⟨S, hS⟩ : ∃ S : ByteArray, (⟨(Nm.putI time).toArray⟩ : ByteArray) = S := ⟨_, rfl⟩
  have HS : Hid (Lib.strCells S = (Nm.putI time).map B ∧ S.size = (Nm.putI time).length) := by rw [← hS]; exact ⟨rfl, by show (Nm.putI time).toArray.size = _; rw [List.size_toArray]⟩
  have hSz : S.size ≤ 9 := by rw [HS.out.2]; exact hy4
  rw [hS] at hpi
  clear hS
  go_wp2_with fail
  refine (hpi _).mono ?_
  rintro e w6 ⟨rfl, b6⟩
  have HW6 : Hid (Tw w0 w w6 b #[.string name, .int .i64 (kd : Nat), .int .i64 (md : Nat), .int .i64 time, .int .i64 (sz : Nat), .slice a np c, .string link] (.slice s5 S3.length c5) S3) := HW5.out.past b6
  have hown6 := HW6.out.own
  have hsz6 := HW6.out.size
  clear b6 HW5 hpi m3
  go_wp2_with (at_builtin; refine Lib.wpList_append_own_string _ rfl (.tmp 21) (.tmp 24) 45 9 rfl w0.heap.size 5 i0 Tryd.underlying45 Tryd.underlying9 hi hz0 hz1 hz2 _ _ _ rfl hown6 S rfl ?d3 ?d4 ?d5 ?_)
  case d3 => unfold maxLen; omega
  case d4 => omega
  case d5 => exact hsz6
  intro v7 w7 o7 hgrow7 _
  have HW7 : Hid (Tw w0 w w7 b #[.string name, .int .i64 (kd : Nat), .int .i64 (md : Nat), .int .i64 time, .int .i64 (sz : Nat), .slice a np c, .string link] v7 (S3 ++ Nm.putI time)) := HW6.out.grow hgrow7 o7 (by rw [List.length_append, HS.out.2]) (by rw [List.map_append, HS.out.1])
  clear o7 hgrow7 hown6 hsz6 HW6 HS hSz
  obtain ⟨S4, hS4⟩ : ∃ S4, S3 ++ Nm.putI time = S4 := ⟨_, rfl⟩
  have hl4 : S4.length ≤ 526420 := by rw [← hS4, List.length_append]; omega
  rw [hS4] at HW7 HRow
  clear hS4 hy4
  obtain ⟨s7, c7, rfl⟩ := own_len HW7.out.own
  go_upto_region 5 with fail
  obtain ⟨_, _, _, _, m4, _⟩ := seven_at HW7.out.node
  go_upto_region 6 with (go_at_call 14; refine (hnu _ sz S4 _ HW7.out.own HW7.out.size (by omega) (by omega)).mono ?_; rintro e w8 ⟨v8, rfl, o8, b8, k8⟩)
  have HW8 : Hid (Tw w0 w w8 b #[.string name, .int .i64 (kd : Nat), .int .i64 (md : Nat), .int .i64 time, .int .i64 (sz : Nat), .slice a np c, .string link] v8 (S4 ++ Nm.put sz)) := HW7.out.ap o8 b8 k8
  clear o8 b8 k8 HW7 m4
  obtain ⟨S5, hS5⟩ : ∃ S5, S4 ++ Nm.put sz = S5 := ⟨_, rfl⟩
  have hlS5 : S5.length ≤ 526430 := by rw [← hS5, List.length_append]; omega
  rw [hS5] at HW8 HRow
  clear hS5 hy5
  obtain ⟨s8, c8, rfl⟩ := own_len HW8.out.own
  obtain ⟨_, _, _, _, _, m5, _⟩ := seven_at HW8.out.node
  go_upto_region 7 with (go_at_call 14; refine (hnu _ np S5 _ HW8.out.own HW8.out.size (by omega) (by omega)).mono ?_; rintro e w9 ⟨v9, rfl, o9, b9, k9⟩)
  have HW9 : Hid (Tw w0 w w9 b #[.string name, .int .i64 (kd : Nat), .int .i64 (md : Nat), .int .i64 time, .int .i64 (sz : Nat), .slice a np c, .string link] v9 (S5 ++ Nm.put np)) := HW8.out.ap o9 b9 k9
  clear o9 b9 k9 HW8 m5
  obtain ⟨S6, hS6⟩ : ∃ S6, S5 ++ Nm.put np = S6 := ⟨_, rfl⟩
  have hlS6 : S6.length ≤ 526440 := by rw [← hS6, List.length_append]; omega
  rw [hS6] at HW9 HRow
  clear hS6 hy6
  obtain ⟨s9, c9, rfl⟩ := own_len HW9.out.own
  obtain ⟨_, _, _, _, _, m5, _⟩ := seven_at HW9.out.node
  have HW9' : Hid (Tw w0 w w9 b #[.string name, .int .i64 (kd : Nat), .int .i64 (md : Nat), .int .i64 time, .int .i64 (sz : Nat), .slice a np c, .string link] (.slice s9 S6.length c9) (S6 ++ (parts.take 0).flatten)) := by
    show Tw _ _ _ _ _ _ _
    rw [List.take_zero, List.flatten_nil, List.append_nil]
    exact HW9.out
  have HFl : Hid (∀ k, k ≤ np → (parts.take k).flatten.length = 8 * k) := fun k hk => by
    rw [Td.flat8 fun p hp => HPt.out.2.1 p (List.mem_of_mem_take hp), List.length_take]
    have := HPt.out.2.2.1
    omega
  clear hnu HW9
  go_wp2_with fail
  clear m5
  go_loopw [0, 38] (fun vo i wr => ∃ k : Nat, k ≤ np ∧ i = .int .i64 k ∧ Hid (Tw w0 w wr b #[.string name, .int .i64 (kd : Nat), .int .i64 (md : Nat), .int .i64 time, .int .i64 (sz : Nat), .slice a np c, .string link] vo (S6 ++ (parts.take k).flatten))) (fun _ i _ => np - (intOf i).toNat)
  case atStart => exact ⟨0, by omega, rfl, HW9'⟩
  case round =>
    clear HW9'
    obtain ⟨k, hk, rfl, HW⟩ := hrel
    have hfl := HFl.out k hk
    obtain ⟨S, hS⟩ : ∃ S, S6 ++ (parts.take k).flatten = S := ⟨_, rfl⟩
    have hSl : S.length ≤ 526440 + 8 * k := by rw [← hS, List.length_append, hfl]; omega
    have HSk : Hid (S6 ++ (parts.take k).flatten = S) := hS
    rw [hS] at HW
    clear hfl hS
    obtain ⟨so, co, hvo⟩ := own_len HW.out.own
    subst hvo
    by_cases hlt : k < np
    · have hkl : k < parts.length := by rw [← HPt.out.2.2.1]; exact hlt
      obtain ⟨bk, o, rfl, hbk, hcell⟩ := (HPt.out.1.below (HPt.out.2.2.2.trans HW.out.bel)).get k parts[k] (List.getElem?_eq_getElem hkl)
      obtain ⟨b0, b1, b2, b3, b4, b5, b6, b7, ht8⟩ := tg_eight (HPt.out.2.1 parts[k] (List.getElem_mem hkl))
      have HM : Hid (S6 ++ (parts.take (k + 1)).flatten = S ++ [b0, b1, b2, b3, b4, b5, b6, b7]) := by show _ = _; rw [flat_more hkl, ← List.append_assoc, HSk.out, ht8]
      rw [ht8] at hcell
      have x0 : wr.cell? ⟨bk, o + k * 8, none⟩ = some (.int .u8 (b0.toNat : Int)) := hcell 0 _ rfl
      have x1 : wr.cell? ⟨bk, o + k * 8 + 1, none⟩ = some (.int .u8 (b1.toNat : Int)) := hcell 1 _ rfl
      have x2 : wr.cell? ⟨bk, o + k * 8 + 2, none⟩ = some (.int .u8 (b2.toNat : Int)) := hcell 2 _ rfl
      have x3 : wr.cell? ⟨bk, o + k * 8 + 3, none⟩ = some (.int .u8 (b3.toNat : Int)) := hcell 3 _ rfl
      have x4 : wr.cell? ⟨bk, o + k * 8 + 4, none⟩ = some (.int .u8 (b4.toNat : Int)) := hcell 4 _ rfl
      have x5 : wr.cell? ⟨bk, o + k * 8 + 5, none⟩ = some (.int .u8 (b5.toNat : Int)) := hcell 5 _ rfl
      have x6 : wr.cell? ⟨bk, o + k * 8 + 6, none⟩ = some (.int .u8 (b6.toNat : Int)) := hcell 6 _ rfl
      have x7 : wr.cell? ⟨bk, o + k * 8 + 7, none⟩ = some (.int .u8 (b7.toNat : Int)) := hcell 7 _ rfl
      clear hcell ht8 HSk
      obtain ⟨W5, hW5⟩ : ∃ W5, W5 = wr.alloc (.cells #[.int .u8 (b0.toNat : Int), .int .u8 (b1.toNat : Int), .int .u8 (b2.toNat : Int), .int .u8 (b3.toNat : Int), .int .u8 (b4.toNat : Int), .int .u8 (b5.toNat : Int), .int .u8 (b6.toNat : Int), .int .u8 (b7.toNat : Int)] 32) := ⟨_, rfl⟩
      have HW5 : Hid (Tw w0 w W5 b #[.string name, .int .i64 (kd : Nat), .int .i64 (md : Nat), .int .i64 time, .int .i64 (sz : Nat), .slice (some ⟨bk, o, none⟩) np c, .string link] (.slice so S.length co) S) := by rw [hW5]; exact HW.out.past ((Below.refl _ wr).alloc (Nat.le_refl _) _)
      have hnews : ∀ j u, ([b0, b1, b2, b3, b4, b5, b6, b7].map B)[j]? = some u → W5.cell? ((⟨wr.heap.size, 0, none⟩ : Addr).add j) = some u := fun j u hu => by
        rw [hW5, show ((⟨wr.heap.size, 0, none⟩ : Addr).add j) = ⟨wr.heap.size, 0 + j, none⟩ from Addr.add_mid _ _ _, Nat.zero_add, cell_of_row _ wr.heap.size j _ _ _ (heap_alloc_new wr _)]
        match j, hu with
        | 0, hu => exact hu
        | 1, hu => exact hu
        | 2, hu => exact hu
        | 3, hu => exact hu
        | 4, hu => exact hu
        | 5, hu => exact hu
        | 6, hu => exact hu
        | 7, hu => exact hu
        | n + 8, hu => simp at hu
      have hown5 := HW5.out.own
      have hsz5 := HW5.out.size
      clear HW
      go_upto_region 10 with fail
      rw [← hW5]
      clear hW5 x0 x1 x2 x3 x4 x5 x6 x7
      go_wp2_with (at_builtin; refine wpList_append_own _ rfl (.tmp 42) (.tmp 43) 45 rfl w0.heap.size 5 i0 (.int .u8 0) 1 1 Tryd.underlying45 hi hz0 hz1 hz2 rfl (by decide) _ _ _ rfl hown5 ⟨wr.heap.size, 0, none⟩ 8 8 ([b0, b1, b2, b3, b4, b5, b6, b7].map B) rfl rfl hnews ?e2 ?e3 ?e4 ?e5 ?_)
      case e2 => intro u hu; obtain ⟨x, _, rfl⟩ := List.mem_map.1 hu; rfl
      case e3 => unfold maxLen; omega
      case e4 => omega
      case e5 => exact hsz5
      intro v8 w8 o8 hgrow8 _
      have HW8 : Hid (Tw w0 w w8 b #[.string name, .int .i64 (kd : Nat), .int .i64 (md : Nat), .int .i64 time, .int .i64 (sz : Nat), .slice (some ⟨bk, o, none⟩) np c, .string link] v8 (S6 ++ (parts.take (k + 1)).flatten)) := by
        rw [HM.out]
        exact HW5.out.grow hgrow8 o8 (by simp) (by rw [List.map_append]; rfl)
      clear o8 hgrow8 hown5 HW5 hnews hsz5 HM
      go_wp2_with fail
      go_roundw
      case rel => exact ⟨k + 1, by omega, by go_num, HW8⟩
      case measure => simp only [intOf]; omega
    · have hke : parts.take k = parts := List.take_of_length_le (by have := HPt.out.2.2.1; omega)
      rw [hke] at HSk
      rw [HSk.out] at HRow
      obtain ⟨_, _, _, _, _, _, m6⟩ := seven_at HW.out.node
      have hb6 : S.length ≤ 1048576 := by omega
      clear hke HSk
      go_wp2_with (go_at_call 22; refine (htx _ link S _ HW.out.own HW.out.size hb6 hl).mono ?_; rintro e w12 ⟨v12, rfl, o12, b12, k12⟩)
      have HO : Hid (w12.ownsRow w0.heap.size 5 1 v12 RES.length (RES.map B)) := by rw [HRow.out]; exact o12
      have HB : Hid (Below w0.heap.size w w12) := HW.out.bel.trans b12
      go_ret
      exact ⟨_, rfl, HO.out, HB.out⟩

theorem trows_more (l : List Nod) (k : Nat) (h : k < l.length) : Td.rowsT (nds (l.take (k + 1))) = Td.rowsT (nds (l.take k)) ++ Td.rowT l[k].nd := by
  rw [List.take_succ_eq_append_getElem h]
  simp only [nds, Td.rowsT, List.map_append, List.map_cons, List.map_nil, List.flatten_append, List.flatten_cons, List.flatten_nil, List.append_nil]

theorem trow_len {n : Nod} (h : Td.nErr n.nd = 0) (h8 : ∀ p ∈ n.parts, p.length = 8) : (Td.rowT n.nd).length ≤ 6600 := by
  obtain ⟨q0, q1, q2, q3, q4, q5, q6, q7, q8⟩ := Td.nErr_ok h
  have a1 := Nm.putT_length n.nd.name
  have a2 := Nn.nm_long q0
  have a3 := Nm.putT_length n.nd.link
  have a4 := tput9 n.nd.mode.toNat
  have a5 := tput9 n.nd.size.toNat
  have a6 := tput9 n.nd.parts.length
  have a7 := Nm.putI_length n.nd.time
  have a8 : n.nd.parts.flatten.length = 8 * n.nd.parts.length := Td.flat8 h8
  unfold Td.rowT
  simp only [List.length_append, List.length_cons]
  omega

set_option maxHeartbeats 4000000 in
set_option maxRecDepth 10000 in
theorem twrite_any (v : Value) (l : List Nod) (w : World) (h : Nds w v l) (hl : l.length ≤ 9223372036854775807) (hT : Tabs w) :
    Calls Tryd.prog 4 #[v] w fun e w' => e = .returned (.tuple #[.string ⟨(Td.write (nds l)).1.toArray⟩, .int .i64 (Td.write (nds l)).2]) ∧ Below w.heap.size w w' := by
  obtain ⟨a, c, rfl⟩ := h.slice
  have hno := tcheck_any _ l w h hl hT
  have HX : Hid (Nds w (.slice a l.length c) l) := h
  have HZ : Hid (Td.write (nds l) = if Td.check (nds l) ≠ 0 then ([], Td.check (nds l)) else if 4096 < (Td.textB (nds l)).length then ([], 2) else (Td.textB (nds l), 0)) := rfl
  have HC : Hid (Td.check (nds l) = 0 → l.length ≤ 64 ∧ ∀ n ∈ l, Td.nErr n.nd = 0) := fun q => by
    obtain ⟨c1, c2⟩ := Td.check_ok q
    rw [nds_length] at c1
    exact ⟨c1, fun n hn => c2 _ (List.mem_map_of_mem hn)⟩
  have HTx : Hid (Td.textB (nds l) = Nm.put l.length ++ Td.rowsT (nds l)) := by show _ = _; rw [Td.textB, nds_length]
  generalize Td.write (nds l) = Z at *
  generalize Td.check (nds l) = E at *
  generalize Td.textB (nds l) = TX at *
  obtain ⟨N, hN⟩ : ∃ N, N = l.length := ⟨_, rfl⟩
  have HN : Hid (N = l.length) := hN
  rw [← hN] at HX HC HTx hl hno ⊢
  clear h hT hN
  go_enter Tryd.func4, Tryd.ntmps4
  go_wp2_with fail
  refine hno.mono ?_
  rintro e w1 ⟨rfl, b1⟩
  have HB1 : Hid (Below w.heap.size w w1) := b1
  clear hno b1
  by_cases hE : E ≠ 0
  · have hqn : (E != 0) = true := by rw [bne_iff_ne]; exact hE
    have HR : Hid (Z = ([], E)) := by
      have := HZ.out
      rwa [if_pos hE] at this
    clear HZ HC HTx
    go_wp2_with fail
    go_ret2
    exact ⟨by rw [HR.out]; rfl, HB1.out⟩
  obtain rfl := Decidable.not_not.mp hE
  clear hE
  obtain ⟨h64, hok⟩ := HC.out rfl
  have HOk : Hid (∀ n ∈ l, Td.nErr n.nd = 0) := hok
  have HZ1 : Hid (Z = if 4096 < TX.length then ([], 2) else (TX, 0)) := by
    have := HZ.out
    rwa [if_neg (by simp)] at this
  have hpn := tnum_any w.heap.size (.slice none 0 0) [] N w1 (World.ownsRow_nil _ _ _ _) HB1.out.size (by simp) (by omega)
  unfold ApOut at hpn
  rw [List.nil_append] at hpn
  obtain ⟨P0, hP0⟩ : ∃ P0, P0 = Nm.put N := ⟨_, rfl⟩
  have HP9 : Hid (P0.length ≤ 9) := by show _ ≤ _; rw [hP0]; exact tput9 _
  rw [← hP0] at hpn HTx
  clear hok HC HZ hP0
  go_wp2_with fail
  refine hpn.mono ?_
  rintro e w2 ⟨v2, rfl, o2, b2, _⟩
  have HB2 : Hid (Below w.heap.size w w2) := HB1.out.trans b2
  have HO2 : Hid (w2.ownsRow w.heap.size 5 1 v2 P0.length (P0.map B)) := o2
  clear hpn b2 HB1 o2
  go_wp2_with fail
  go_loopw [5, 18] (fun x i wr => ∃ (k : Nat) (L : List UInt8), k ≤ N ∧ i = .int .i64 k ∧ L.length ≤ 9 + 6600 * k ∧ Hid (wr.ownsRow w.heap.size 5 1 x L.length (L.map B)) ∧ Hid (P0 ++ Td.rowsT (nds (l.take k)) = L) ∧ Hid (Below w.heap.size w wr)) (fun _ i _ => N - (intOf i).toNat)
  case atStart => exact ⟨0, P0, by omega, rfl, by have := HP9.out; omega, HO2, List.append_nil _, HB2⟩
  case round =>
    clear HB2 HO2
    obtain ⟨k, L, hk, rfl, hLl, HO, HL, HB⟩ := hrel
    obtain ⟨so, co, hvo⟩ := own_len HO.out
    subst hvo
    by_cases hlt : k < N
    · have hkl : k < l.length := by rw [← HN.out]; exact hlt
      obtain ⟨bk, o, cs, rfl, hbk, hcl, ⟨v, rfl, hPs, hnk⟩, hcell⟩ := (HX.out.below HB.out).get k l[k] (List.getElem?_eq_getElem hkl)
      have HPw : Hid (Rx 8 idC w v l[k].parts) := by
        obtain ⟨bk', o', cs', e', _, _, ⟨v', rfl, q, _⟩, hc'⟩ := HX.out.get k l[k] (List.getElem?_eq_getElem hkl)
        cases e'
        have e1 := hcell 5 _ rfl
        have e2 := (Below.cell HB.out (p := ⟨bk, o + k * 7 + 5, none⟩) (World.block_lt_of_cell? w _ (hc' 5 _ rfl))).trans (hc' 5 _ rfl)
        rw [e1, Option.some.injEq] at e2
        rw [e2]
        exact q
      have HRw : Hid (Td.rowsT (nds (l.take (k + 1))) = Td.rowsT (nds (l.take k)) ++ Td.rowT l[k].nd) := trows_more l k hkl
      have HRl : Hid ((Td.rowT l[k].nd).length ≤ 6600) := trow_len (HOk.out _ (List.getElem_mem hkl)) hnk.ids
      obtain ⟨q0, q1, q2, q3, q4, q5, q6, q7, q8⟩ := Td.nErr_ok (HOk.out _ (List.getElem_mem hkl))
      have q9 := Nn.nm_long q0
      obtain ⟨av, cv, rfl, _⟩ := hPs.slice
      have htm := hnk.time
      have h8 := hnk.ids
      have c0 : wr.cell? ⟨bk, o + k * 7, none⟩ = some (.string l[k].name) := hcell 0 _ rfl
      have c1 := hcell 1 _ rfl
      have c2 := hcell 2 _ rfl
      have c3 := hcell 3 _ rfl
      have c4 := hcell 4 _ rfl
      have c5 := hcell 5 _ rfl
      have c6 := hcell 6 _ rfl
      generalize l[k] = n at *
      obtain ⟨name, kind, mode, time, size, parts, link⟩ := n
      dsimp only [Nod.nd] at *
      obtain ⟨kd, rfl⟩ := Int.eq_ofNat_of_zero_le (a := kind) (by omega)
      obtain ⟨md, rfl⟩ := Int.eq_ofNat_of_zero_le q1
      obtain ⟨sz, rfl⟩ := Int.eq_ofNat_of_zero_le q3
      obtain ⟨np, hnp⟩ : ∃ np, np = parts.length := ⟨_, rfl⟩
      rw [← hnp] at HPw q5 c5
      simp [Lit.wf, IntKind.min, IntKind.max, IntKind.signed, IntKind.bits] at htm
      obtain ⟨W1, hW1⟩ : ∃ W1, W1 = wr.alloc (.cells #[.string name, .int .i64 (kd : Nat), .int .i64 (md : Nat), .int .i64 time, .int .i64 (sz : Nat), .slice av np cv, .string link] 29) := ⟨_, rfl⟩
      have hB1 : Below wr.heap.size wr W1 := by rw [hW1]; exact (Below.refl _ wr).alloc (Nat.le_refl _) _
      have HM1 : Hid (W1.heap[wr.heap.size]? = some (.cells #[.string name, .int .i64 (kd : Nat), .int .i64 (md : Nat), .int .i64 time, .int .i64 (sz : Nat), .slice av np cv, .string link] 29 (0, 0))) := by rw [hW1]; exact heap_alloc_new wr _
      have HB1 : Hid (Below w.heap.size w W1) := HB.out.trans (hB1.mono HB.out.size)
      have han := tnode_any w W1 (.slice so L.length co) L name link kd md sz time parts av cv np HB1.out (own_below HO.out hB1) (by omega) hnp HPw.out h8 (by rw [Lib.size_eq]; omega) (by rw [Lib.size_eq]; exact q8) (by omega) (by omega) (by omega) q5 htm.1 htm.2
      unfold AnOut at han
      obtain ⟨L2, hL2⟩ : ∃ L2, L ++ Td.rowT ⟨name.data.toList, (kd : Nat), (md : Nat), time, (sz : Nat), parts, link.data.toList⟩ = L2 := ⟨_, rfl⟩
      have hL2l : L2.length ≤ 9 + 6600 * (k + 1) := by have := HRl.out; rw [← hL2, List.length_append]; omega
      have HL2 : Hid (P0 ++ Td.rowsT (nds (l.take (k + 1))) = L2) := by show _ = _; rw [HRw.out, ← List.append_assoc, HL.out, hL2]
      rw [hL2] at han
      clear hcell hPs hnk hcl hB1 hnp q0 q6 hL2 HRl HRw HPw h8 HL HO
      go_upto_region 8 with fail
      rw [← hW1]
      obtain ⟨b7, hb7⟩ : ∃ b7, b7 = wr.heap.size := ⟨_, rfl⟩
      rw [← hb7] at HM1 ⊢
      obtain ⟨m0, m1, m2, m3, m4, m5, m6⟩ := seven_at HM1.out
      clear hW1 c0 c1 c2 c3 c4 c5 c6 hb7
      go_wp2_with fail
      refine han.mono ?_
      rintro e w3 ⟨v3, rfl, o3, b3⟩
      have HO3 : Hid (w3.ownsRow w.heap.size 5 1 v3 L2.length (L2.map B)) := o3
      have HB3 : Hid (Below w.heap.size w w3) := HB1.out.trans b3
      clear han o3 b3 m0 m1 m2 m3 m4 m5 m6
      go_wp2_with fail
      go_roundw
      case measure => simp only [intOf]; omega
      case rel => exact ⟨k + 1, L2, by omega, by go_num, hL2l, HO3, HL2, HB3⟩
    · obtain rfl : k = N := by omega
      have HTT : Hid (TX = L) := by
        show _ = _
        rw [HTx.out, ← HL.out, List.take_of_length_le (by rw [HN.out]; exact Nat.le_refl _)]
      have hcv := run_str HO.out
      clear HL HO
      by_cases h4 : 4096 < L.length
      · have g4 : (4096 : Int) < (L.length : Int) := by omega
        have HR : Hid (Z = ([], 2)) := by
          have := HZ1.out
          rwa [HTT.out, if_pos h4] at this
        clear HZ1 hcv
        go_wp2_with fail
        go_ret2
        exact ⟨by rw [HR.out]; rfl, HB.out⟩
      · have g4 : ¬ (4096 : Int) < (L.length : Int) := by omega
        have HR : Hid (Z = (L, 0)) := by
          have := HZ1.out
          rwa [HTT.out, if_neg h4] at this
        clear HZ1
        go_wp2_with fail
        go_ret2
        exact ⟨by rw [HR.out]; rfl, HB.out⟩

end Go.Proofs.YtimdioacmojkeabDoor

namespace Go.Proofs.YtimdioacmojkeabDoor
open Go.RowKit
set_option maxRecDepth 4000

theorem Kt.of_rs {A B : World} {br : Nat} {x : Td.St} (hk : Kept (fun j => j ≠ br) A B) (hr : Rs A br x) : Kt 50 A B :=
  ⟨hk.os, hk.tape, hk.output, hk.size, fun k o ho hn => by
    by_cases e : k = br
    · subst e
      unfold Rs at hr
      rw [hr, Option.some.injEq] at ho
      exact absurd ⟨_, _, ho.symm⟩ hn
    · exact (hk.block k (Array.getElem?_eq_some_iff.1 ho).1 e).trans ho⟩

theorem NdG.kr {w W : World} {n : Nod} {c : List Value} (hk : Kt 50 w W) (h : NdG w n c) : NdG W n c := by
  obtain ⟨v, e, hr, ht, ho⟩ := h
  refine ⟨v, e, ⟨?_, hr.room⟩, fun a m c hv => ?_, ho⟩
  · rcases hr.at_ with h1 | ⟨bk, o, cap, h1, h2, h3⟩
    · exact .inl h1
    · obtain ⟨cur, fr, hb⟩ := ht _ _ _ h1
      have hb' := hk.cell hb (by decide)
      refine .inr ⟨bk, o, cap, h1, Nat.lt_of_lt_of_le h2 hk.size, fun j t hj r u hu => ?_⟩
      rw [← h3 j t hj r u hu]
      simp only [World.cell?] at hb hb' ⊢
      rw [hb, hb']
  · obtain ⟨cur, fr, hb⟩ := ht a m c hv
    exact ⟨cur, fr, hk.cell hb (by decide)⟩

theorem NdG.keep {w W : World} {n : Nod} {c : List Value} (hs : w.heap.size ≤ W.heap.size) (hk : ∀ (k : Nat) cur fr, w.heap[k]? = some (.cells cur 32 fr) → W.heap[k]? = some (.cells cur 32 fr)) (h : NdG w n c) : NdG W n c := by
  obtain ⟨v, e, hr, ht, ho⟩ := h
  refine ⟨v, e, ⟨?_, hr.room⟩, fun a m c hv => ?_, ho⟩
  · rcases hr.at_ with h1 | ⟨bk, o, cap, h1, h2, h3⟩
    · exact .inl h1
    · obtain ⟨cur, fr, hb⟩ := ht _ _ _ h1
      have hb' := hk _ _ _ hb
      refine .inr ⟨bk, o, cap, h1, Nat.lt_of_lt_of_le h2 hs, fun j t hj r u hu => ?_⟩
      rw [← h3 j t hj r u hu]
      simp only [World.cell?] at hb hb' ⊢
      rw [hb, hb']
  · obtain ⟨cur, fr, hb⟩ := ht a m c hv
    exact ⟨cur, fr, hk _ _ _ hb⟩

/-- a row of nodes stays where the rows of nodes and of IDs stay -/
theorem Oy.keep {base : Nat} {w W : World} {v : Value} {l : List Nod} (h : Oy 7 29 NdG base w v l) (hs : w.heap.size ≤ W.heap.size) (hk : ∀ (k : Nat) cur t fr, (t = 32 ∨ t = 29) → w.heap[k]? = some (.cells cur t fr) → W.heap[k]? = some (.cells cur t fr)) : Oy 7 29 NdG base W v l :=
  h.obj (fun _ _ q => q.keep hs fun k cur fr ho => hk k cur _ fr (.inl rfl) ho) fun g cur fr ho => hk g cur _ fr (.inr rfl) ho

theorem Oy.belowN {base : Nat} {w W : World} {v : Value} {l : List Nod} (h : Oy 7 29 NdG base w v l) (hb : Below w.heap.size w W) : Oy 7 29 NdG base W v l :=
  h.keep hb.size fun k _ _ _ _ ho => (hb.block k (Array.getElem?_eq_some_iff.1 ho).1).trans ho

/-- what nodes answers -/
def NsOut (br : Nat) (w : World) (x : Td.St) (e : Ending) (w' : World) : Prop :=
  ∃ v l, e = .returned v ∧ nds l = (Td.sAll (Td.sNum 64 x).1 (Td.sNum 64 x).2).1 ∧ l.length ≤ 64 ∧ Oy 7 29 NdG w.heap.size w' v l ∧ Rs w' br (Td.sAll (Td.sNum 64 x).1 (Td.sNum 64 x).2).2 ∧ Kept (fun j => j ≠ br) w w'

set_option maxHeartbeats 4000000 in
set_option maxRecDepth 10000 in
theorem rdnodes_any (br : Nat) (x : Td.St) (w : World) (h : Rs w br x) (hx : x.1.length ≤ 1048576) :
    Calls Tryd.prog 17 #[.pointer (some ⟨br, 0, none⟩)] w (NsOut br w x) := by
  unfold NsOut
  obtain ⟨i0, hi, hz0, hz1, hz2⟩ := info_of' info_nd
  have hg := rdnumber_any br 64 x w h (by omega) hx
  have hnp := Td.sNum_most 64 x
  have hl1 := Td.sNum_len 64 x
  rcases hN : Td.sNum 64 x with ⟨np, x1⟩
  rw [hN] at hg hnp hl1
  dsimp only at *
  unfold RsOut at hg
  have HB : Hid (br < w.heap.size) := h.lt
  have HL : Hid (∀ k, (Td.sAll k x1).2.1.length ≤ 1048576) := fun k => by have := (Td.sAll_len x1 k).1; omega
  have HSt : Hid (∀ k, Td.sAll (k + 1) x1 = ((Td.sAll k x1).1 ++ [(Td.sNode (Td.sAll k x1).2).1], (Td.sNode (Td.sAll k x1).2).2)) := fun k => rfl
  clear h hN hx hl1
  go_enter Tryd.func17, Tryd.ntmps17
  go_wp2_with fail
  refine hg.mono ?_
  rintro e w1 ⟨rfl, r1, k1⟩
  have HR1 : Hid (Rs w1 br x1) := r1
  have HK1 : Hid (Kept (fun j => j ≠ br) w w1) := k1
  clear hg r1 k1
  go_wp2_with fail
  go_loopw [3, 6] (fun v i wr => ∃ (k : Nat) (l : List Nod), k ≤ np ∧ i = .int .i64 k ∧ l.length = k ∧ Hid (nds l = (Td.sAll k x1).1) ∧ Hid (Oy 7 29 NdG w.heap.size wr v l) ∧ Hid (Rs wr br (Td.sAll k x1).2) ∧ Hid (Kept (fun j => j ≠ br) w wr)) (fun _ i _ => np - (intOf i).toNat)
  case atStart => exact ⟨0, [], by omega, rfl, rfl, rfl, Oy.nil, HR1, HK1⟩
  case round =>
    clear HR1 HK1
    obtain ⟨k, l, hk, rfl, hlk, HD, HO, HR, HK⟩ := hrel
    by_cases hlt : k < np
    · have hst := HSt.out k
      have hnr := rdnode_any br (Td.sAll k x1).2 wr HR.out (HL.out k)
      unfold NoOut at hnr
      have HST : Hid (Td.sAll (k + 1) x1 = ((Td.sAll k x1).1 ++ [(Td.sNode (Td.sAll k x1).2).1], (Td.sNode (Td.sAll k x1).2).2)) := hst
      generalize Td.sNode (Td.sAll k x1).2 = NN at *
      clear hst
      go_wp2_with fail
      refine hnr.mono ?_
      rintro e w3 ⟨n, v, rfl, hnd, o3, hok, r3, k3⟩
      obtain ⟨av, cv, rfl⟩ := own_len o3
      have HG3 : Hid (NdG w3 n (ndC n (.slice av n.parts.length cv))) := ⟨_, rfl, rx_own o3 rfl hok.ids, own_type o3, hok⟩
      have hKr : Kt 50 wr w3 := Kt.of_rs k3 HR.out
      obtain ⟨cc, o1, o2, o2l, o4⟩ := HO.out
      have o1' : w3.ownsRow w.heap.size 29 7 u3 l.length cc.flatten := own_kept o1 k3 fun g hg => by have := own_ge o1 hg; have := HB.out; omega
      have HO2 : Hid ((∀ c ∈ cc, c.length = 7) ∧ cc.length = l.length ∧ ∀ (j : Nat) t c, l[j]? = some t → cc[j]? = some c → NdG w3 t c) := ⟨o2, o2l, fun j t c a b => NdG.kr hKr (o4 j t c a b)⟩
      have HD2 : Hid (nds (l ++ [n]) = (Td.sAll (k + 1) x1).1) := by show _ = _; rw [HST.out, ← HD.out, ← hnd]; simp [nds]
      have HR3 : Hid (Rs w3 br (Td.sAll (k + 1) x1).2) := by rw [HST.out]; exact r3
      have HK3 : Hid (Kept (fun j => j ≠ br) w w3) := HK.out.trans k3
      have HLe : Hid (l.length = k ∧ (l ++ [n]).length = k + 1) := ⟨hlk, by rw [List.length_append, hlk]; rfl⟩
      have hl4 : l.length ≤ 64 := by omega
      have hsw := HK3.out.size
      obtain ⟨np', hnp'⟩ : ∃ np', np' = n.parts.length := ⟨_, rfl⟩
      rw [← hnp'] at HG3 ⊢
      clear hnr o3 hok r3 k3 hKr o1 o2 o2l o4 hnd hnp' HST HO HR HK HD
      obtain ⟨name, kind, mode, time, size, parts, link⟩ := n
      dsimp only at *
      go_wp2_with (at_builtin; refine wpList_append_own _ rfl (.tmp 8) (.tmp 11) 22 rfl w.heap.size 29 i0 (.agg #[.string ⟨#[]⟩, .int .i64 0, .int .i64 0, .int .i64 0, .int .i64 0, .slice none 0 0, .string ⟨#[]⟩]) 7 88 Tryd.underlying22 hi hz0 hz1 hz2 rfl (by decide) _ _ _ rfl (o1'.alloc _) ⟨w3.heap.size, 0, none⟩ 1 1 [.string name, .int .i64 kind, .int .i64 mode, .int .i64 time, .int .i64 size, .slice av np' cv, .string link] rfl rfl (seven_new w3 _ _ _ _ _ _ _) ?c2 ?c3 ?c4 ?c5 ?_)
      case c2 => simp [Value.oneCell']
      case c3 => unfold maxLen; omega
      case c4 => omega
      case c5 => first | omega | (simp; omega)
      intro v6 w5 hown5 hgrow _
      rw [← HLe.out.1] at hown5
      have hk5 : Kt 29 w3 w5 := ((Kt.refl _ w3).alloc _).trans (Kt.of_grown hgrow fun g hg => by
        obtain ⟨cur, q, _⟩ := own_block (o1'.alloc _) hg
        exact ⟨cur, _, q⟩)
      have hge : ∀ g, u3.ownBlock = some g → w.heap.size ≤ g := fun g hg => own_ge o1' hg
      have HR5 : Hid (Rs w5 br (Td.sAll (k + 1) x1).2) := hk5.cell HR3.out (by decide)
      have HK5 : Hid (Kept (fun j => j ≠ br) w w5) := by
        have hz := HK3.out.alloc (.cells #[.string name, .int .i64 kind, .int .i64 mode, .int .i64 time, .int .i64 size, .slice av np' cv, .string link] 29)
        exact ⟨hgrow.os.trans hz.os, hgrow.tape.trans hz.tape, hgrow.output.trans hz.output, Nat.le_trans hz.size hgrow.size, fun j hj hp => (hgrow.block j (Nat.lt_of_lt_of_le hj hz.size) fun e => by have := hge j e.symm; omega).trans (hz.block j hj hp)⟩
      have HOn : Hid (Oy 7 29 NdG w.heap.size w5 v6 (l ++ [⟨name, kind, mode, time, size, parts, link⟩])) := Oy.more HO2.out.1 HO2.out.2.1 (fun j t c a b => NdG.kt hk5 (HO2.out.2.2 j t c a b)) hown5 rfl (NdG.kt hk5 HG3.out)
      clear hown5 hgrow hk5 o1' HO2 HG3 HK3 HR3 hge
      go_wp2_with fail
      go_roundw
      case measure => simp only [intOf]; omega
      case rel => exact ⟨k + 1, _, by omega, by go_num, HLe.out.2, HD2, HOn, HR5, HK5⟩
    · obtain rfl : k = np := by omega
      have hl64 : l.length ≤ 64 := by omega
      go_wp2_with fail
      go_ret
      exact ⟨_, l, rfl, HD.out, hl64, HO.out, HR.out, HK.out⟩

/-- what Read answers -/
def TgOut (s : ByteArray) (w : World) (e : Ending) (w' : World) : Prop :=
  ∃ v l, e = .returned (.tuple #[v, .int .i64 (Td.read s.data.toList).2]) ∧ nds l = (Td.read s.data.toList).1 ∧ Nds w' v l ∧ l.length ≤ 64 ∧ Below w.heap.size w w'

/-- the same, the rows by their blocks' types -/
def TgOy (s : ByteArray) (w : World) (e : Ending) (w' : World) : Prop :=
  ∃ v l B, e = .returned (.tuple #[v, .int .i64 (Td.read s.data.toList).2]) ∧ nds l = (Td.read s.data.toList).1 ∧ Oy 7 29 NdG B w' v l ∧ l.length ≤ 64 ∧ Below w.heap.size w w'

theorem write_size (l : List Nod) : (⟨(Td.write (nds l)).1.toArray⟩ : ByteArray).size ≤ 9223372036854775807 := by
  rw [tg_size]
  unfold Td.write
  split
  · simp
  · split
    · simp
    · show (Td.textB (nds l)).length ≤ _; omega

set_option maxHeartbeats 4000000 in
set_option maxRecDepth 10000 in
theorem tread_oy (s : ByteArray) (w : World) (hs : s.size ≤ 9223372036854775807) (hT : Tabs w) : Calls Tryd.prog 8 #[.string s] w (TgOy s w) := by
  unfold TgOy
  by_cases h4 : 4096 < s.size
  · have HR : Hid (Td.read s.data.toList = ([], 2)) := by show _ = _; unfold Td.read; rw [if_pos (by rw [← Lib.size_eq]; exact h4)]
    generalize Td.read s.data.toList = RES at *
    have g4 : (4096 : Int) < (s.size : Int) := by omega
    clear hT
    go_enter Tryd.func8, Tryd.ntmps8
    go_wp2_with fail
    go_ret2
    exact ⟨_, [], 0, by rw [HR.out]; rfl, by rw [HR.out]; rfl, Oy.nil, by simp, Below.refl _ _⟩
  have g4 : ¬ (4096 : Int) < (s.size : Int) := by omega
  rcases hA : Td.sAll (Td.sNum 64 (s.data.toList, 0)).1 (Td.sNum 64 (s.data.toList, 0)).2 with ⟨L, r, er⟩
  have HRd : Hid (Td.read s.data.toList = if er ≠ 0 then ([], er) else if r ≠ [] then ([], 4) else if Td.check L ≠ 0 then ([], Td.check L) else (L, 0)) := Td.read_st (by rw [← Lib.size_eq]; exact h4) hA
  generalize Td.read s.data.toList = RES at *
  obtain ⟨W1, hW1⟩ : ∃ W1, W1 = w.alloc (.cells #[.string s, .int .i64 0] 50) := ⟨_, rfl⟩
  have HB1 : Hid (Below w.heap.size w W1) := by rw [hW1]; exact (Below.refl _ w).alloc (Nat.le_refl _) _
  have HR1 : Hid (Rs W1 w.heap.size (s.data.toList, 0)) := by rw [hW1]; exact heap_alloc_new w _
  have hns := rdnodes_any w.heap.size (s.data.toList, 0) W1 HR1.out (by show List.length _ ≤ _; rw [← Lib.size_eq]; omega)
  unfold NsOut at hns
  rw [hA] at hns
  dsimp only at hns
  have HT : Hid (Tabs w) := hT
  have hrl : r.length ≤ 4096 := by
    have q1 := (Td.sAll_len (Td.sNum 64 (s.data.toList, 0)).2 (Td.sNum 64 (s.data.toList, 0)).1).1
    have q2 := Td.sNum_len 64 (s.data.toList, 0)
    rw [hA] at q1
    have q3 : s.data.toList.length = s.size := (Lib.size_eq s).symm
    simp only at q1 q2
    omega
  obtain ⟨br, hbr⟩ : ∃ br, br = w.heap.size := ⟨_, rfl⟩
  have HBr : Hid (br = w.heap.size) := hbr
  rw [← hbr] at hns
  clear hT hA HR1
  go_enter Tryd.func8, Tryd.ntmps8
  go_upto_region 4 with fail
  rw [← hW1, ← hbr]
  clear hW1 hbr
  go_wp2_with fail
  refine hns.mono ?_
  rintro e w2 ⟨v, l, rfl, hd, hl, hn, r2, k2⟩
  have hb2 : Below w.heap.size w w2 := HB1.out.trans (k2.below HB1.out.size fun j hj => by have := HBr.out; omega)
  have HB2 : Hid (Below w.heap.size w w2) := hb2
  have HN2 : Hid (Oy 7 29 NdG W1.heap.size w2 v l) := hn
  have hck := tcheck_any v l w2 (Nds.of_oy hn) (by omega) (HT.out.below hb2)
  rw [hd] at hck
  have HD : Hid (nds l = L) := hd
  obtain ⟨c0, c1, f0, f1⟩ := r2.cells
  dsimp only at c0 c1
  obtain ⟨t, ht⟩ : ∃ t : ByteArray, t = ⟨r.toArray⟩ := ⟨_, rfl⟩
  have hts : t.size = r.length := by rw [ht]; exact tg_size r
  rw [← ht] at c0
  clear hns hb2 hn hd r2 k2 HB1 ht f0 f1
  by_cases he : er ≠ 0
  · have hqn : (er != 0) = true := by rw [bne_iff_ne]; exact he
    have HRE : Hid (RES = ([], er)) := by
      have := HRd.out
      rwa [if_pos he] at this
    clear HRd hck
    go_wp2_with fail
    go_quiet (fail)
    go_wp2_with fail
    go_ret2
    exact ⟨_, [], 0, by rw [HRE.out]; rfl, by rw [HRE.out]; rfl, Oy.nil, by simp, Go.below_drewN HB2.out _⟩
  obtain rfl := Decidable.not_not.mp he
  have HRd1 : Hid (RES = if r ≠ [] then ([], 4) else if Td.check L ≠ 0 then ([], Td.check L) else (L, 0)) := by
    have := HRd.out
    rwa [if_neg (by simp)] at this
  clear HRd he
  by_cases hr : r ≠ []
  · have HRE : Hid (RES = ([], 4)) := by
      have := HRd1.out
      rwa [if_pos hr] at this
    have hp : (0 : Int) < (t.size : Int) := by have := List.length_pos_iff.2 hr; omega
    clear HRd1 hck
    go_wp2_with fail
    go_ret2
    exact ⟨_, [], 0, by rw [HRE.out]; rfl, by rw [HRE.out]; rfl, Oy.nil, by simp, HB2.out⟩
  obtain rfl := Decidable.not_not.mp hr
  have HRd2 : Hid (RES = if Td.check L ≠ 0 then ([], Td.check L) else (L, 0)) := by
    have := HRd1.out
    rwa [if_neg (by simp)] at this
  have hp : ¬ (0 : Int) < (t.size : Int) := by rw [hts]; simp
  generalize Td.check L = E at *
  clear HRd1 hr hrl hts
  go_wp2_with fail
  refine hck.mono ?_
  rintro e w3 ⟨rfl, b3⟩
  have HB3 : Hid (Below w.heap.size w w3) := HB2.out.trans (b3.mono HB2.out.size)
  have HN3 : Hid (Oy 7 29 NdG W1.heap.size w3 v l) := HN2.out.belowN b3
  clear hck b3
  by_cases hE : E ≠ 0
  · have hqn : (E != 0) = true := by rw [bne_iff_ne]; exact hE
    have HRE : Hid (RES = ([], E)) := by
      have := HRd2.out
      rwa [if_pos hE] at this
    clear HRd2
    go_wp2_with fail
    go_ret2
    exact ⟨_, [], 0, by rw [HRE.out]; rfl, by rw [HRE.out]; rfl, Oy.nil, by simp, HB3.out⟩
  obtain rfl := Decidable.not_not.mp hE
  have HRE : Hid (RES = (L, 0)) := by
    have := HRd2.out
    rwa [if_neg (by simp)] at this
  clear HRd2 hE
  go_wp2_with fail
  go_ret2
  exact ⟨_, l, _, by rw [HRE.out]; rfl, by rw [HRE.out]; exact HD.out, HN3.out, hl, HB3.out⟩

theorem tread_any (s : ByteArray) (w : World) (hs : s.size ≤ 9223372036854775807) (hT : Tabs w) : Calls Tryd.prog 8 #[.string s] w (TgOut s w) :=
  (tread_oy s w hs hT).mono fun _ _ ⟨v, l, _, h1, h2, h3, h4, h5⟩ => ⟨v, l, h1, h2, Nds.of_oy h3, h4, h5⟩

end Go.Proofs.YtimdioacmojkeabDoor

namespace Go.Proofs.YtimdioacmojkeabDoor
open Go.RowKit

theorem info_three {P : Program} {e : TypeId} {z : Option Value} {s b : Nat} (h : (P.info? e).map (fun i => (i.zero, i.size, i.bytes)) = some (z, s, b)) : ∃ i, P.info? e = some i ∧ i.zero = z ∧ i.size = s ∧ i.bytes = b := by
  cases hi : P.info? e with
  | none => rw [hi] at h; cases h
  | some i =>
    rw [hi] at h
    simp only [Option.map_some, Option.some.injEq, Prod.mk.injEq] at h
    exact ⟨i, rfl, h.1, h.2.1, h.2.2⟩

theorem Rx.src {α : Type} {k : Nat} {C : α → List Value} {w : World} {a : Option Addr} {n c : Nat} {l : List α} (hC : ∀ t, (C t).length = k) (hk : 0 < k) (h : Rx k C w (.slice a n c) l) : (a = none → l.length = 0) ∧ ∀ ad, a = some ad → ∀ j u, (rowR C l)[j]? = some u → w.cell? (ad.add j) = some u := by
  rcases h.at_ with ⟨_, rfl⟩ | ⟨bk, o, cap, h1, h3, h4⟩
  · exact ⟨fun _ => rfl, fun ad _ j u hj => by simp [rowR] at hj⟩
  · rw [Value.slice.injEq] at h1
    obtain ⟨rfl, rfl, rfl⟩ := h1
    refine ⟨fun e => by simp at e, fun ad e j u hj => ?_⟩
    obtain rfl := Option.some.inj e
    have hjl : j < l.length * k := by
      have := (List.getElem?_eq_some_iff.1 hj).1
      rwa [rowR_length hC] at this
    have hr : j % k < k := Nat.mod_lt _ hk
    have hq : j / k < l.length := (Nat.div_lt_iff_lt_mul hk).2 hjl
    have ej : j / k * k + j % k = j := by have := Nat.div_add_mod j k; rw [Nat.mul_comm] at this; exact this
    rw [← ej, rowR_get hC l (j / k) (j % k) l[j / k] (List.getElem?_eq_getElem hq) hr] at hj
    have := h4 (j / k) _ (List.getElem?_eq_getElem hq) (j % k) u hj
    rw [Nat.add_assoc, ej] at this
    rw [show ((⟨bk, o, none⟩ : Addr).add j) = ⟨bk, o + j, none⟩ from Addr.add_mid _ _ _]
    exact this

set_option maxHeartbeats 2000000 in
theorem Kept.setCells {p : Nat → Prop} {A B : World} (h : Kept p A B) {g : Nat} (hg : ¬ p g) (o : Nat) (vs : List Value) : Kept p A (B.setCells g o vs) := by
  induction vs generalizing B o with
  | nil => exact h
  | cons v vs ih => exact ih (h.setCell (a := ⟨g, o, none⟩) hg v) (o + 1)

theorem append_none_c {P : Program} (w : World) (base : Nat) (t ty e : TypeId) (i : TypeInfo) (size : Nat) (ht : P.underlying t = some (.slice e)) (hi : P.info? e = some i) (v : Value) (n : Nat) (xs : List Value) (hown : w.ownsRow base e size v n xs) (c : Nat) :
    (Builtin.append_ #[t, t] ty #[v, .slice none 0 c]).run P w = .ok v w := by
  rcases hown.2 with ⟨rfl, rfl⟩ | ⟨g, cap, cur, rfl, _, _, hnc, _⟩
  · simp [Builtin.append_, run_underlying ht, sizeOf, typeInfo, hi, Builtin.lenOf, Builtin.firstCells]
  · simp [Builtin.append_, run_underlying ht, sizeOf, typeInfo, hi, Builtin.lenOf, Builtin.firstCells, hnc, storeCells]

theorem run_fits_all {P : Program} (w : World) (base : Nat) (t ty e : TypeId) (i : TypeInfo) (size : Nat) (ht : P.underlying t = some (.slice e)) (hi : P.info? e = some i) (hsize : i.size = size)
    (g n cap : Nat) (xs : List Value) (hown : w.ownsRow base e size (.slice (some ⟨g, 0, none⟩) n cap) n xs) (ao : Option Addr) (m c : Nat) (news : List Value) (hl : news.length = m * size) (hnone : ao = none → m = 0)
    (hnews : ∀ ad, ao = some ad → ∀ j u, news[j]? = some u → w.cell? (ad.add j) = some u) (h1 : ∀ u ∈ news, u.oneCell' = true) (hroom : n + m ≤ cap) :
    ∃ w', (Builtin.append_ #[t, t] ty #[.slice (some ⟨g, 0, none⟩) n cap, .slice ao m c]).run P w = .ok (.slice (some ⟨g, 0, none⟩) (n + m) cap) w' ∧
      w'.ownsRow base e size (.slice (some ⟨g, 0, none⟩) (n + m) cap) (n + m) (xs ++ news) ∧ w.grownBy w' (some g) := by
  cases ao with
  | some ad => exact run_append_fits w base t ty e i size ht hi hsize g n cap xs hown ad m c news hl (hnews ad rfl) h1 hroom
  | none =>
    obtain rfl := hnone rfl
    have hnews : news = [] := List.eq_nil_of_length_eq_zero (by simpa using hl)
    subst hnews
    exact ⟨w, append_none_c w base t ty e i size ht hi _ n xs hown c, by simpa using hown, ⟨rfl, rfl, rfl, Nat.le_refl _, fun _ _ _ => rfl⟩⟩

/-- 'append' within the capacity, whatever is appended -/
theorem wpList_fits_all {P : Program} (w : World) {ops : Array Oper} {rest : List Oper} {o : Oper} {a : Act} {Q : Exit → Act → World → Prop}
    (hg : o.guard = none) (s x : Operand) (t : TypeId) (hop : o.op = Op.call { callee := Callee.builtin Builtin.append, args := #[s, x], argTypes := #[t, t] })
    (base : Nat) (e : TypeId) (i : TypeInfo) (size : Nat) (h1 : P.underlying t = some (.slice e)) (h2 : P.info? e = some i) (h4 : i.size = size)
    (g k cap : Nat) (xs : List Value) (hs : a.eval s = .slice (some ⟨g, 0, none⟩) k cap) (hown : w.ownsRow base e size (.slice (some ⟨g, 0, none⟩) k cap) k xs) (ao : Option Addr) (m c : Nat) (news : List Value) (hx : a.eval x = .slice ao m c) (hn : news.length = m * size)
    (hnone : ao = none → m = 0) (hc : ∀ ad, ao = some ad → ∀ j u, news[j]? = some u → w.cell? (ad.add j) = some u) (h1c : ∀ u ∈ news, u.oneCell' = true) (b1 : k + m ≤ cap)
    (hK : ∀ w', w'.ownsRow base e size (.slice (some ⟨g, 0, none⟩) (k + m) cap) (k + m) (xs ++ news) → w.grownBy w' (some g) → wpList P ops Q rest (a.put o.dst (.slice (some ⟨g, 0, none⟩) (k + m) cap)) w') :
    wpList P ops Q (o :: rest) a w := by
  refine wpList_plain hg fun K hK' => ?_
  obtain ⟨w', hrun, r1, r2⟩ := run_fits_all (P := P) w base t o.type e i size h1 h2 h4 g k cap xs hown ao m c news hn hnone hc h1c b1
  unfold Oper.wp
  simp [execOp, hop, resolve, invoke, builtin, hs, hx, hrun, Result.andThen]
  exact hK' _ _ (hK w' r1 r2)

theorem step_of_wp {P : Program} {ops : Array Oper} {o : Oper} {a : Act} {w : World} {K : Act → World → Prop} {Q : Exit → Act → World → Prop} {E : Prop} (hg : o.guard = none) (h : Oper.wp P o a w K Q) : if Region.wanted o (yielded ops a.tmps) = true then Oper.wp P o a w K Q else E := by
  rw [if_pos (by simp [Region.wanted, hg])]
  exact h

theorem step_make_own {P : Program} (w : World) {ops : Array Oper} {o : Oper} {a : Act} {K : Act → World → Prop} {Q : Exit → Act → World → Prop} {E : Prop}
    (hg : o.guard = none) (l c : Operand) (t : TypeId) (hop : o.op = Op.makeSlice t l c)
    (base : Nat) (e : TypeId) (i : TypeInfo) (z : Value) (size : Nat) (h1 : P.underlying t = some (.slice e)) (h2 : P.info? e = some i) (h3 : i.zero = some z) (h4 : i.size = size)
    (kl kc : IntKind) (C : Int) (n : Nat) (hl : a.eval l = .int kl 0) (hc : a.eval c = .int kc C) (hC : C = (n : Int)) (b2 : i.bytes * n ≤ 281474976710656) (b3 : n ≤ maxLen) (b4 : base ≤ w.heap.size)
    (hK : ∀ w' g, w'.ownsRow base e size (.slice (some ⟨g, 0, none⟩) 0 n) 0 [] → w.grownBy w' none → K (a.put o.dst (.slice (some ⟨g, 0, none⟩) 0 n)) w') :
    if Region.wanted o (yielded ops a.tmps) = true then Oper.wp P o a w K Q else E := by
  refine step_of_wp hg ?_
  obtain ⟨w', hrun, r1, r2⟩ := run_make_own (P := P) w base t e i z size h1 h2 h3 h4 kl kc n b2 b3 b4
  subst hC
  unfold Oper.wp
  simp [execOp, hop, hl, hc, hrun, Result.andThen]
  exact hK w' _ r1 r2

theorem step_fits_all {P : Program} (w : World) {ops : Array Oper} {o : Oper} {a : Act} {K : Act → World → Prop} {Q : Exit → Act → World → Prop} {E : Prop}
    (hg : o.guard = none) (s x : Operand) (t : TypeId) (hop : o.op = Op.call { callee := Callee.builtin Builtin.append, args := #[s, x], argTypes := #[t, t] })
    (base : Nat) (e : TypeId) (i : TypeInfo) (size : Nat) (h1 : P.underlying t = some (.slice e)) (h2 : P.info? e = some i) (h4 : i.size = size)
    (g k cap : Nat) (xs : List Value) (hs : a.eval s = .slice (some ⟨g, 0, none⟩) k cap) (hown : w.ownsRow base e size (.slice (some ⟨g, 0, none⟩) k cap) k xs) (ao : Option Addr) (m c : Nat) (news : List Value) (hx : a.eval x = .slice ao m c) (hn : news.length = m * size)
    (hnone : ao = none → m = 0) (hc : ∀ ad, ao = some ad → ∀ j u, news[j]? = some u → w.cell? (ad.add j) = some u) (h1c : ∀ u ∈ news, u.oneCell' = true) (b1 : k + m ≤ cap) (km : Nat) (hkm : km = k + m)
    (hK : ∀ w', w'.ownsRow base e size (.slice (some ⟨g, 0, none⟩) km cap) km (xs ++ news) → w.grownBy w' (some g) → K (a.put o.dst (.slice (some ⟨g, 0, none⟩) km cap)) w') :
    if Region.wanted o (yielded ops a.tmps) = true then Oper.wp P o a w K Q else E := by
  refine step_of_wp hg ?_
  obtain ⟨w', hrun, r1, r2⟩ := run_fits_all (P := P) w base t o.type e i size h1 h2 h4 g k cap xs hown ao m c news hn hnone hc h1c b1
  subst hkm
  unfold Oper.wp
  simp [execOp, hop, resolve, invoke, builtin, hs, hx, hrun, Result.andThen]
  exact hK w' r1 r2

/-- a block of cells that may be written, of n and no other one -/
structure Room (W : World) (g n : Nat) (e : TypeId) : Prop where
  at_ : ∃ cur, W.heap[g]? = some (.cells cur e (0, 0)) ∧ cur.size = n

theorem Room.cell {W : World} {g n : Nat} {e : TypeId} (h : Room W g n e) (j : Nat) (hj : j < n) : (∃ x, W.cell? ⟨g, j, none⟩ = some x) ∧ W.frozen? ⟨g, j, none⟩ = false := by
  obtain ⟨cur, h1, h2⟩ := h.at_
  refine ⟨⟨cur[j]'(by omega), ?_⟩, frozen_of_row W g j cur e h1⟩
  rw [cell_of_row W g j cur e (0, 0) h1]
  simp [h2, hj]

theorem Room.set {W : World} {g n : Nat} {e : TypeId} (h : Room W g n e) (j : Nat) (u : Value) : Room (W.setCell ⟨g, j, none⟩ u) g n e := by
  obtain ⟨cur, h1, h2⟩ := h.at_
  exact ⟨_, heap_setCell_same W g j cur e u h1, by simpa using h2⟩

theorem Room.of_own {W : World} {base g n cap k : Nat} {e : TypeId} {xs : List Value} (h : W.ownsRow base e k (.slice (some ⟨g, 0, none⟩) n cap) n xs) : Room W g (cap * k) e := by
  rcases h.2 with ⟨e, _⟩ | ⟨g', cap', cur, e, _, hh, _, _, hs, _⟩
  · simp at e
  · simp at e
    obtain ⟨rfl, rfl⟩ := e
    exact ⟨cur, hh, hs⟩

theorem Room.kept {p : Nat → Prop} {W W' : World} {g n : Nat} {e : TypeId} (h : Room W g n e) (hk : Kept p W W') (hp : p g) : Room W' g n e := by
  obtain ⟨cur, h1, h2⟩ := h.at_
  exact ⟨cur, hk.obj hp h1, h2⟩

theorem rown_low {base base' : Nat} {e : TypeId} {k : Nat} {v : Value} {n : Nat} {xs : List Value} {w : World} (h : w.ownsRow base e k v n xs) (hb : base' ≤ base) : w.ownsRow base' e k v n xs := by
  refine ⟨h.1, ?_⟩
  rcases h.2 with h' | ⟨g, cap, cur, h1, h2, r⟩
  · exact .inl h'
  · exact .inr ⟨g, cap, cur, h1, Nat.le_trans hb h2, r⟩

theorem addp_at (g o j : Nat) : (⟨g, o, none⟩ : Addr).add j = ⟨g, o + j, none⟩ := Addr.add_mid _ _ _

theorem Room.setCells {g n : Nat} {e : TypeId} : ∀ (vs : List Value) (o : Nat) {W : World}, Room W g n e → Room (W.setCells g o vs) g n e
  | [], _, _, h => h
  | v :: r, o, _, h => Room.setCells r (o + 1) (h.set o v)

theorem Room.there {W : World} {g n o k : Nat} {e : TypeId} (h : Room W g n e) (ho : o + k ≤ n) : W.there g o k := fun j hj => by
  obtain ⟨⟨x, hx⟩, hf⟩ := h.cell (o + j) (by omega)
  exact ⟨by rw [hx]; rfl, hf⟩

theorem range_block {W : World} {g : Nat} {cs : List Value} {e : TypeId} {fr : Nat × Nat} (h : W.heap[g]? = some (.cells cs.toArray e fr)) : W.rangeAt g 0 cs := fun j v hv => by
  rw [Nat.zero_add, cell_of_row W g j _ _ _ h]
  simpa using hv

section
variable {α : Type} {k : Nat} {C : α → List Value}
theorem rowR_two (l : List α) (f : α) : rowR C (l ++ [f, f]) = rowR C l ++ rowR C [f, f] := by simp [rowR]

theorem amp_cell (hC : ∀ t, (C t).length = k) {base g : Nat} {T : TypeId} {w : World} {l : List α} {f : α} (h : w.ownsRow base T k (.slice (some ⟨g, 0, none⟩) (l.length + 2) (l.length + 3)) (l.length + 2) (rowR C (l ++ [f, f]))) (i : Nat) (t : α) (hi : (l ++ [f, f])[i]? = some t) (r : Nat) (u : Value) (hu : (C t)[r]? = some u) : w.cell? ⟨g, i * k + r, none⟩ = some u := by
  have hr : r < k := by
    have := (List.getElem?_eq_some_iff.1 hu).1
    rwa [hC] at this
  have := World.ownsRow.cells h (g := g) rfl (i * k + r) u (by rw [rowR_get hC _ i r t hi hr]; exact hu)
  rwa [addp_at, Nat.zero_add] at this

theorem amp_rx (hC : ∀ t, (C t).length = k) {base g : Nat} {T : TypeId} {w : World} {l : List α} {f : α} (h : w.ownsRow base T k (.slice (some ⟨g, 0, none⟩) (l.length + 2) (l.length + 3)) (l.length + 2) (rowR C (l ++ [f, f]))) (hl : l.length ≤ 140737488351232) : Rx k C w (.slice (some ⟨g, 0, none⟩) l.length (l.length + 3)) l := by
  refine ⟨.inr ⟨g, 0, l.length + 3, rfl, (h.lt g rfl).2, fun j t hj r u hu => ?_⟩, _, _, _, rfl, by omega, by omega⟩
  rw [Nat.zero_add]
  exact amp_cell hC h j t (by rw [List.getElem?_append_left (List.getElem?_eq_some_iff.1 hj).1]; exact hj) r u hu

theorem amp_fill (hC : ∀ t, (C t).length = k) {base g : Nat} {T : TypeId} {w : World} {l : List α} {f : α} (h : w.ownsRow base T k (.slice (some ⟨g, 0, none⟩) (l.length + 2) (l.length + 3)) (l.length + 2) (rowR C (l ++ [f, f]))) (i : Nat) (hi : i = l.length ∨ i = l.length + 1) (r : Nat) (u : Value) (hu : (C f)[r]? = some u) : w.cell? ⟨g, i * k + r, none⟩ = some u := by
  refine amp_cell hC h i f ?_ r u hu
  rcases hi with rfl | rfl <;> simp

theorem two_rows {W : World} {B : Nat} {T : TypeId} {f : α} (h : W.heap[B]? = some (.cells (rowR C [f, f]).toArray T (0, 0))) : ∀ ad, some (⟨B, 0, none⟩ : Addr) = some ad → ∀ j u, (rowR C [f, f])[j]? = some u → W.cell? (ad.add j) = some u := by
  intro ad e j u hj
  obtain rfl := Option.some.inj e
  rw [addp_at, Nat.zero_add, cell_of_row W B j _ _ _ h]
  simpa using hj

end

end Go.Proofs.YtimdioacmojkeabDoor

namespace Go.Proofs.YtimdioacmojkeabDoor
open Go.RowKit
set_option maxRecDepth 4000

/-- a node whose parts are a row of one's own -/
def NdO (B : Nat) (w : World) (n : Nod) (c : List Value) : Prop := ∃ v, c = ndC n v ∧ w.ownsRow B 32 8 v n.parts.length (rowR idC n.parts) ∧ n.Ok

theorem own_stay {B k : Nat} {e : TypeId} {v : Value} {n : Nat} {xs : List Value} {w W : World} (h : w.ownsRow B e k v n xs) (hk : ∀ (q : Nat) cur fr, w.heap[q]? = some (.cells cur e fr) → W.heap[q]? = some (.cells cur e fr)) : W.ownsRow B e k v n xs := by
  refine ⟨h.1, ?_⟩
  rcases h.2 with h2 | ⟨g, cap, cur, hv, hg, hh, r⟩
  · exact .inl h2
  · exact .inr ⟨g, cap, cur, hv, hg, hk g _ _ hh, r⟩

theorem NdO.kt {T : TypeId} {B : Nat} {w W : World} {n : Nod} {c : List Value} (hk : Kt T w W) (hne : 32 ≠ T) (h : NdO B w n c) : NdO B W n c := by
  obtain ⟨v, e, ho, hok⟩ := h
  exact ⟨v, e, own_stay ho fun q cur fr hq => hk.cell hq hne, hok⟩

theorem NdO.below {B : Nat} {w W : World} {n : Nod} {c : List Value} (h : NdO B w n c) (hb : Below w.heap.size w W) : NdO B W n c := by
  obtain ⟨v, e, ho, hok⟩ := h
  exact ⟨v, e, own_stay ho fun q cur fr hq => (hb.block q (Array.getElem?_eq_some_iff.1 hq).1).trans hq, hok⟩

theorem NdO.ndg {B : Nat} {w : World} {n : Nod} {c : List Value} (h : NdO B w n c) : NdG w n c := by
  obtain ⟨v, e, ho, hok⟩ := h
  obtain ⟨av, cv, rfl⟩ := own_len ho
  exact ⟨_, e, rx_own ho rfl hok.ids, own_type ho, hok⟩

theorem Oy.imp {α : Type} {k : Nat} {T : TypeId} {R R' : World → α → List Value → Prop} {base : Nat} {w : World} {v : Value} {l : List α} (hR : ∀ t c, R w t c → R' w t c) (h : Oy k T R base w v l) : Oy k T R' base w v l := by
  obtain ⟨cs, h1, h2, h3, h4⟩ := h
  exact ⟨cs, h1, h2, h3, fun j t c a b => hR t c (h4 j t c a b)⟩

/-- what nodes answers -/
def NsOw (br : Nat) (w : World) (x : Td.St) (e : Ending) (w' : World) : Prop :=
  ∃ v l, e = .returned v ∧ nds l = (Td.sAll (Td.sNum 64 x).1 (Td.sNum 64 x).2).1 ∧ l.length ≤ 64 ∧ Oy 7 29 (NdO w.heap.size) w.heap.size w' v l ∧ Rs w' br (Td.sAll (Td.sNum 64 x).1 (Td.sNum 64 x).2).2 ∧ Kept (fun j => j ≠ br) w w'

set_option maxHeartbeats 4000000 in
set_option maxRecDepth 10000 in
theorem rdnodes_ow (br : Nat) (x : Td.St) (w : World) (h : Rs w br x) (hx : x.1.length ≤ 1048576) :
    Calls Tryd.prog 17 #[.pointer (some ⟨br, 0, none⟩)] w (NsOw br w x) := by
  unfold NsOw
  obtain ⟨i0, hi, hz0, hz1, hz2⟩ := info_of' info_nd
  have hg := rdnumber_any br 64 x w h (by omega) hx
  have hnp := Td.sNum_most 64 x
  have hl1 := Td.sNum_len 64 x
  rcases hN : Td.sNum 64 x with ⟨np, x1⟩
  rw [hN] at hg hnp hl1
  dsimp only at *
  unfold RsOut at hg
  have HB : Hid (br < w.heap.size) := h.lt
  have HL : Hid (∀ k, (Td.sAll k x1).2.1.length ≤ 1048576) := fun k => by have := (Td.sAll_len x1 k).1; omega
  have HSt : Hid (∀ k, Td.sAll (k + 1) x1 = ((Td.sAll k x1).1 ++ [(Td.sNode (Td.sAll k x1).2).1], (Td.sNode (Td.sAll k x1).2).2)) := fun k => rfl
  clear h hN hx hl1
  go_enter Tryd.func17, Tryd.ntmps17
  go_wp2_with fail
  refine hg.mono ?_
  rintro e w1 ⟨rfl, r1, k1⟩
  have HR1 : Hid (Rs w1 br x1) := r1
  have HK1 : Hid (Kept (fun j => j ≠ br) w w1) := k1
  clear hg r1 k1
  go_wp2_with fail
  go_loopw [3, 6] (fun v i wr => ∃ (k : Nat) (l : List Nod), k ≤ np ∧ i = .int .i64 k ∧ l.length = k ∧ Hid (nds l = (Td.sAll k x1).1) ∧ Hid (Oy 7 29 (NdO w.heap.size) w.heap.size wr v l) ∧ Hid (Rs wr br (Td.sAll k x1).2) ∧ Hid (Kept (fun j => j ≠ br) w wr)) (fun _ i _ => np - (intOf i).toNat)
  case atStart => exact ⟨0, [], by omega, rfl, rfl, rfl, Oy.nil, HR1, HK1⟩
  case round =>
    clear HR1 HK1
    obtain ⟨k, l, hk, rfl, hlk, HD, HO, HR, HK⟩ := hrel
    by_cases hlt : k < np
    · have hst := HSt.out k
      have hnr := rdnode_any br (Td.sAll k x1).2 wr HR.out (HL.out k)
      unfold NoOut at hnr
      have HST : Hid (Td.sAll (k + 1) x1 = ((Td.sAll k x1).1 ++ [(Td.sNode (Td.sAll k x1).2).1], (Td.sNode (Td.sAll k x1).2).2)) := hst
      generalize Td.sNode (Td.sAll k x1).2 = NN at *
      clear hst
      go_wp2_with fail
      refine hnr.mono ?_
      rintro e w3 ⟨n, v, rfl, hnd, o3, hok, r3, k3⟩
      obtain ⟨av, cv, rfl⟩ := own_len o3
      have HG3 : Hid (NdO w.heap.size w3 n (ndC n (.slice av n.parts.length cv))) := ⟨_, rfl, rown_low o3 HK.out.size, hok⟩
      have hKr : Kt 50 wr w3 := Kt.of_rs k3 HR.out
      obtain ⟨cc, o1, o2, o2l, o4⟩ := HO.out
      have o1' : w3.ownsRow w.heap.size 29 7 u3 l.length cc.flatten := own_kept o1 k3 fun g hg => by have := own_ge o1 hg; have := HB.out; omega
      have HO2 : Hid ((∀ c ∈ cc, c.length = 7) ∧ cc.length = l.length ∧ ∀ (j : Nat) t c, l[j]? = some t → cc[j]? = some c → NdO w.heap.size w3 t c) := ⟨o2, o2l, fun j t c a b => NdO.kt hKr (by decide) (o4 j t c a b)⟩
      have HD2 : Hid (nds (l ++ [n]) = (Td.sAll (k + 1) x1).1) := by show _ = _; rw [HST.out, ← HD.out, ← hnd]; simp [nds]
      have HR3 : Hid (Rs w3 br (Td.sAll (k + 1) x1).2) := by rw [HST.out]; exact r3
      have HK3 : Hid (Kept (fun j => j ≠ br) w w3) := HK.out.trans k3
      have HLe : Hid (l.length = k ∧ (l ++ [n]).length = k + 1) := ⟨hlk, by rw [List.length_append, hlk]; rfl⟩
      have hl4 : l.length ≤ 64 := by omega
      have hsw := HK3.out.size
      obtain ⟨np', hnp'⟩ : ∃ np', np' = n.parts.length := ⟨_, rfl⟩
      rw [← hnp'] at HG3 ⊢
      clear hnr o3 hok r3 k3 hKr o1 o2 o2l o4 hnd hnp' HST HO HR HK HD
      obtain ⟨name, kind, mode, time, size, parts, link⟩ := n
      dsimp only at *
      go_wp2_with (at_builtin; refine wpList_append_own _ rfl (.tmp 8) (.tmp 11) 22 rfl w.heap.size 29 i0 (.agg #[.string ⟨#[]⟩, .int .i64 0, .int .i64 0, .int .i64 0, .int .i64 0, .slice none 0 0, .string ⟨#[]⟩]) 7 88 Tryd.underlying22 hi hz0 hz1 hz2 rfl (by decide) _ _ _ rfl (o1'.alloc _) ⟨w3.heap.size, 0, none⟩ 1 1 [.string name, .int .i64 kind, .int .i64 mode, .int .i64 time, .int .i64 size, .slice av np' cv, .string link] rfl rfl (seven_new w3 _ _ _ _ _ _ _) ?c2 ?c3 ?c4 ?c5 ?_)
      case c2 => simp [Value.oneCell']
      case c3 => unfold maxLen; omega
      case c4 => omega
      case c5 => first | omega | (simp; omega)
      intro v6 w5 hown5 hgrow _
      rw [← HLe.out.1] at hown5
      have hk5 : Kt 29 w3 w5 := ((Kt.refl _ w3).alloc _).trans (Kt.of_grown hgrow fun g hg => by
        obtain ⟨cur, q, _⟩ := own_block (o1'.alloc _) hg
        exact ⟨cur, _, q⟩)
      have hge : ∀ g, u3.ownBlock = some g → w.heap.size ≤ g := fun g hg => own_ge o1' hg
      have HR5 : Hid (Rs w5 br (Td.sAll (k + 1) x1).2) := hk5.cell HR3.out (by decide)
      have HK5 : Hid (Kept (fun j => j ≠ br) w w5) := by
        have hz := HK3.out.alloc (.cells #[.string name, .int .i64 kind, .int .i64 mode, .int .i64 time, .int .i64 size, .slice av np' cv, .string link] 29)
        exact ⟨hgrow.os.trans hz.os, hgrow.tape.trans hz.tape, hgrow.output.trans hz.output, Nat.le_trans hz.size hgrow.size, fun j hj hp => (hgrow.block j (Nat.lt_of_lt_of_le hj hz.size) fun e => by have := hge j e.symm; omega).trans (hz.block j hj hp)⟩
      have HOn : Hid (Oy 7 29 (NdO w.heap.size) w.heap.size w5 v6 (l ++ [⟨name, kind, mode, time, size, parts, link⟩])) := Oy.more HO2.out.1 HO2.out.2.1 (fun j t c a b => NdO.kt hk5 (by decide) (HO2.out.2.2 j t c a b)) hown5 rfl (NdO.kt hk5 (by decide) HG3.out)
      clear hown5 hgrow hk5 o1' HO2 HG3 HK3 HR3 hge
      go_wp2_with fail
      go_roundw
      case measure => simp only [intOf]; omega
      case rel => exact ⟨k + 1, _, by omega, by go_num, HLe.out.2, HD2, HOn, HR5, HK5⟩
    · obtain rfl : k = np := by omega
      have hl64 : l.length ≤ 64 := by omega
      go_wp2_with fail
      go_ret
      exact ⟨_, l, rfl, HD.out, hl64, HO.out, HR.out, HK.out⟩

/-- the same, the rows by their blocks' types -/
def TgOw (s : ByteArray) (w : World) (e : Ending) (w' : World) : Prop :=
  ∃ v l B, e = .returned (.tuple #[v, .int .i64 (Td.read s.data.toList).2]) ∧ nds l = (Td.read s.data.toList).1 ∧ w.heap.size ≤ B ∧ Oy 7 29 (NdO B) B w' v l ∧ l.length ≤ 64 ∧ Below w.heap.size w w'

set_option maxHeartbeats 4000000 in
set_option maxRecDepth 10000 in
theorem tread_ow (s : ByteArray) (w : World) (hs : s.size ≤ 9223372036854775807) (hT : Tabs w) : Calls Tryd.prog 8 #[.string s] w (TgOw s w) := by
  unfold TgOw
  by_cases h4 : 4096 < s.size
  · have HR : Hid (Td.read s.data.toList = ([], 2)) := by show _ = _; unfold Td.read; rw [if_pos (by rw [← Lib.size_eq]; exact h4)]
    generalize Td.read s.data.toList = RES at *
    have g4 : (4096 : Int) < (s.size : Int) := by omega
    clear hT
    go_enter Tryd.func8, Tryd.ntmps8
    go_wp2_with fail
    go_ret2
    exact ⟨_, [], w.heap.size, by rw [HR.out]; rfl, by rw [HR.out]; rfl, Nat.le_refl _, Oy.nil, by simp, Below.refl _ _⟩
  have g4 : ¬ (4096 : Int) < (s.size : Int) := by omega
  rcases hA : Td.sAll (Td.sNum 64 (s.data.toList, 0)).1 (Td.sNum 64 (s.data.toList, 0)).2 with ⟨L, r, er⟩
  have HRd : Hid (Td.read s.data.toList = if er ≠ 0 then ([], er) else if r ≠ [] then ([], 4) else if Td.check L ≠ 0 then ([], Td.check L) else (L, 0)) := Td.read_st (by rw [← Lib.size_eq]; exact h4) hA
  generalize Td.read s.data.toList = RES at *
  obtain ⟨W1, hW1⟩ : ∃ W1, W1 = w.alloc (.cells #[.string s, .int .i64 0] 50) := ⟨_, rfl⟩
  have HB1 : Hid (Below w.heap.size w W1) := by rw [hW1]; exact (Below.refl _ w).alloc (Nat.le_refl _) _
  have HZ1 : Hid (w.heap.size ≤ W1.heap.size) := HB1.out.size
  have HR1 : Hid (Rs W1 w.heap.size (s.data.toList, 0)) := by rw [hW1]; exact heap_alloc_new w _
  have hns := rdnodes_ow w.heap.size (s.data.toList, 0) W1 HR1.out (by show List.length _ ≤ _; rw [← Lib.size_eq]; omega)
  unfold NsOw at hns
  rw [hA] at hns
  dsimp only at hns
  have HT : Hid (Tabs w) := hT
  have hrl : r.length ≤ 4096 := by
    have q1 := (Td.sAll_len (Td.sNum 64 (s.data.toList, 0)).2 (Td.sNum 64 (s.data.toList, 0)).1).1
    have q2 := Td.sNum_len 64 (s.data.toList, 0)
    rw [hA] at q1
    have q3 : s.data.toList.length = s.size := (Lib.size_eq s).symm
    simp only at q1 q2
    omega
  obtain ⟨br, hbr⟩ : ∃ br, br = w.heap.size := ⟨_, rfl⟩
  have HBr : Hid (br = w.heap.size) := hbr
  rw [← hbr] at hns
  clear hT hA HR1
  go_enter Tryd.func8, Tryd.ntmps8
  go_upto_region 4 with fail
  rw [← hW1, ← hbr]
  clear hW1 hbr
  go_wp2_with fail
  refine hns.mono ?_
  rintro e w2 ⟨v, l, rfl, hd, hl, hn, r2, k2⟩
  have hb2 : Below w.heap.size w w2 := HB1.out.trans (k2.below HB1.out.size fun j hj => by have := HBr.out; omega)
  have HB2 : Hid (Below w.heap.size w w2) := hb2
  have HN2 : Hid (Oy 7 29 (NdO W1.heap.size) W1.heap.size w2 v l) := hn
  have hck := tcheck_any v l w2 (Nds.of_oy (Oy.imp (fun _ _ q => q.ndg) hn)) (by omega) (HT.out.below hb2)
  rw [hd] at hck
  have HD : Hid (nds l = L) := hd
  obtain ⟨c0, c1, f0, f1⟩ := r2.cells
  dsimp only at c0 c1
  obtain ⟨t, ht⟩ : ∃ t : ByteArray, t = ⟨r.toArray⟩ := ⟨_, rfl⟩
  have hts : t.size = r.length := by rw [ht]; exact tg_size r
  rw [← ht] at c0
  clear hns hb2 hn hd r2 k2 HB1 ht f0 f1
  by_cases he : er ≠ 0
  · have hqn : (er != 0) = true := by rw [bne_iff_ne]; exact he
    have HRE : Hid (RES = ([], er)) := by
      have := HRd.out
      rwa [if_pos he] at this
    clear HRd hck
    go_wp2_with fail
    go_quiet (fail)
    go_wp2_with fail
    go_ret2
    exact ⟨_, [], w.heap.size, by rw [HRE.out]; rfl, by rw [HRE.out]; rfl, Nat.le_refl _, Oy.nil, by simp, Go.below_drewN HB2.out _⟩
  obtain rfl := Decidable.not_not.mp he
  have HRd1 : Hid (RES = if r ≠ [] then ([], 4) else if Td.check L ≠ 0 then ([], Td.check L) else (L, 0)) := by
    have := HRd.out
    rwa [if_neg (by simp)] at this
  clear HRd he
  by_cases hr : r ≠ []
  · have HRE : Hid (RES = ([], 4)) := by
      have := HRd1.out
      rwa [if_pos hr] at this
    have hp : (0 : Int) < (t.size : Int) := by have := List.length_pos_iff.2 hr; omega
    clear HRd1 hck
    go_wp2_with fail
    go_ret2
    exact ⟨_, [], w.heap.size, by rw [HRE.out]; rfl, by rw [HRE.out]; rfl, Nat.le_refl _, Oy.nil, by simp, HB2.out⟩
  obtain rfl := Decidable.not_not.mp hr
  have HRd2 : Hid (RES = if Td.check L ≠ 0 then ([], Td.check L) else (L, 0)) := by
    have := HRd1.out
    rwa [if_neg (by simp)] at this
  have hp : ¬ (0 : Int) < (t.size : Int) := by rw [hts]; simp
  generalize Td.check L = E at *
  clear HRd1 hr hrl hts
  go_wp2_with fail
  refine hck.mono ?_
  rintro e w3 ⟨rfl, b3⟩
  have HB3 : Hid (Below w.heap.size w w3) := HB2.out.trans (b3.mono HB2.out.size)
  have HN3 : Hid (Oy 7 29 (NdO W1.heap.size) W1.heap.size w3 v l) := Oy.below HN2.out b3 (fun _ _ q => q.below b3)
  clear hck b3
  by_cases hE : E ≠ 0
  · have hqn : (E != 0) = true := by rw [bne_iff_ne]; exact hE
    have HRE : Hid (RES = ([], E)) := by
      have := HRd2.out
      rwa [if_pos hE] at this
    clear HRd2
    go_wp2_with fail
    go_ret2
    exact ⟨_, [], w.heap.size, by rw [HRE.out]; rfl, by rw [HRE.out]; rfl, Nat.le_refl _, Oy.nil, by simp, HB3.out⟩
  obtain rfl := Decidable.not_not.mp hE
  have HRE : Hid (RES = (L, 0)) := by
    have := HRd2.out
    rwa [if_neg (by simp)] at this
  clear HRd2 hE
  go_wp2_with fail
  go_ret2
  exact ⟨_, l, _, by rw [HRE.out]; rfl, by rw [HRE.out]; exact HD.out, HZ1.out, HN3.out, hl, HB3.out⟩

end Go.Proofs.YtimdioacmojkeabDoor

namespace Go.Proofs.YtimdioacmojkeabDoor
open Go.RowKit

theorem id_eq (W : World) (xs ys : List UInt8) (hx : xs.length = 8) (hy : ys.length = 8) :
    (Op.equalIn 10000 32 (.agg (xs.map B).toArray) (.agg (ys.map B).toArray)).run Tryd.prog W = .ok (xs == ys) W :=
  run_equalIn_bytes (P := Tryd.prog) W 9998 32 5 8 (by kernel_rfl) (by kernel_rfl) (fun w => by go_simp) xs ys hx hy
end Go.Proofs.YtimdioacmojkeabDoor

namespace Go.Proofs.YtimdioacmojkeabDoor
open Go.RowKit

theorem oct8 {t : List UInt8} (h : t.length = 8) : ∃ b0 b1 b2 b3 b4 b5 b6 b7, t = [b0, b1, b2, b3, b4, b5, b6, b7] := by
  match t, h with
  | [b0, b1, b2, b3, b4, b5, b6, b7], _ => exact ⟨b0, b1, b2, b3, b4, b5, b6, b7, rfl⟩

end Go.Proofs.YtimdioacmojkeabDoor

namespace Go.Proofs.YtimdioacmojkeabDoor
open Go.RowKit
set_option maxRecDepth 4000

set_option maxHeartbeats 4000000 in
set_option maxRecDepth 10000 in
theorem equal_ids (v1 v2 : Value) (l : List (List UInt8)) (w : World) (h1 : Rx 8 idC w v1 l) (h2 : Rx 8 idC w v2 l) (h8 : ∀ t ∈ l, t.length = 8) :
    Calls Tryd.prog 16 #[v1, v2] w fun e w' => e = .returned (.bool true) ∧ Below w.heap.size w w' := by
  obtain ⟨a1, c1, rfl, j1, j2⟩ := h1.slice
  obtain ⟨a2, c2, rfl, j3, j4⟩ := h2.slice
  have HX : Hid (Rx 8 idC w (.slice a1 l.length c1) l ∧ Rx 8 idC w (.slice a2 l.length c2) l ∧ ∀ t ∈ l, t.length = 8) := ⟨h1, h2, h8⟩
  obtain ⟨N, hN⟩ : ∃ N, N = l.length := ⟨_, rfl⟩
  have HN : Hid (N = l.length) := hN
  rw [← hN] at HX j1 ⊢
  clear j3 j4 h1 h2 h8 hN
  go_enter Tryd.func16, Tryd.ntmps16
  go_wp2_with fail
  go_loopw [13] (fun i wr => ∃ k : Nat, k ≤ N ∧ i = .int .i64 k ∧ Hid (Below w.heap.size w wr)) (fun i _ => N - (intOf i).toNat)
  case atStart => exact ⟨0, by omega, rfl, Below.refl _ _⟩
  case round =>
    obtain ⟨k, hk, rfl, HB⟩ := hrel
    by_cases hlt : k < N
    · have hkl : k < l.length := by rw [← HN.out]; exact hlt
      obtain ⟨bk, o, rfl, hbk, hc⟩ := (HX.out.1.below HB.out).get k l[k] (List.getElem?_eq_getElem hkl)
      obtain ⟨bk', o', rfl, hbk', hd⟩ := (HX.out.2.1.below HB.out).get k l[k] (List.getElem?_eq_getElem hkl)
      obtain ⟨b0, b1, b2, b3, b4, b5, b6, b7, ht8⟩ := oct8 (HX.out.2.2 l[k] (List.getElem_mem hkl))
      rw [ht8] at hc hd
      have x0 : wr.cell? ⟨bk, o + k * 8, none⟩ = some (.int .u8 (b0.toNat : Int)) := hc 0 _ rfl
      have x1 : wr.cell? ⟨bk, o + k * 8 + 1, none⟩ = some (.int .u8 (b1.toNat : Int)) := hc 1 _ rfl
      have x2 : wr.cell? ⟨bk, o + k * 8 + 2, none⟩ = some (.int .u8 (b2.toNat : Int)) := hc 2 _ rfl
      have x3 : wr.cell? ⟨bk, o + k * 8 + 3, none⟩ = some (.int .u8 (b3.toNat : Int)) := hc 3 _ rfl
      have x4 : wr.cell? ⟨bk, o + k * 8 + 4, none⟩ = some (.int .u8 (b4.toNat : Int)) := hc 4 _ rfl
      have x5 : wr.cell? ⟨bk, o + k * 8 + 5, none⟩ = some (.int .u8 (b5.toNat : Int)) := hc 5 _ rfl
      have x6 : wr.cell? ⟨bk, o + k * 8 + 6, none⟩ = some (.int .u8 (b6.toNat : Int)) := hc 6 _ rfl
      have x7 : wr.cell? ⟨bk, o + k * 8 + 7, none⟩ = some (.int .u8 (b7.toNat : Int)) := hc 7 _ rfl
      have y0 : wr.cell? ⟨bk', o' + k * 8, none⟩ = some (.int .u8 (b0.toNat : Int)) := hd 0 _ rfl
      have y1 : wr.cell? ⟨bk', o' + k * 8 + 1, none⟩ = some (.int .u8 (b1.toNat : Int)) := hd 1 _ rfl
      have y2 : wr.cell? ⟨bk', o' + k * 8 + 2, none⟩ = some (.int .u8 (b2.toNat : Int)) := hd 2 _ rfl
      have y3 : wr.cell? ⟨bk', o' + k * 8 + 3, none⟩ = some (.int .u8 (b3.toNat : Int)) := hd 3 _ rfl
      have y4 : wr.cell? ⟨bk', o' + k * 8 + 4, none⟩ = some (.int .u8 (b4.toNat : Int)) := hd 4 _ rfl
      have y5 : wr.cell? ⟨bk', o' + k * 8 + 5, none⟩ = some (.int .u8 (b5.toNat : Int)) := hd 5 _ rfl
      have y6 : wr.cell? ⟨bk', o' + k * 8 + 6, none⟩ = some (.int .u8 (b6.toNat : Int)) := hd 6 _ rfl
      have y7 : wr.cell? ⟨bk', o' + k * 8 + 7, none⟩ = some (.int .u8 (b7.toNat : Int)) := hd 7 _ rfl
      have heq : ∀ W, (Op.equalIn 10000 32 (.agg #[.int .u8 (b0.toNat : Int), .int .u8 (b1.toNat : Int), .int .u8 (b2.toNat : Int), .int .u8 (b3.toNat : Int), .int .u8 (b4.toNat : Int), .int .u8 (b5.toNat : Int), .int .u8 (b6.toNat : Int), .int .u8 (b7.toNat : Int)]) (.agg #[.int .u8 (b0.toNat : Int), .int .u8 (b1.toNat : Int), .int .u8 (b2.toNat : Int), .int .u8 (b3.toNat : Int), .int .u8 (b4.toNat : Int), .int .u8 (b5.toNat : Int), .int .u8 (b6.toNat : Int), .int .u8 (b7.toNat : Int)])).run Tryd.prog W = .ok true W := fun W => by
        have := id_eq W [b0, b1, b2, b3, b4, b5, b6, b7] [b0, b1, b2, b3, b4, b5, b6, b7] rfl rfl
        rw [beq_self_eq_true] at this
        exact this
      clear hc hd ht8 hbk hbk'
      go_wp2_with fail
      go_quiet (fail)
      clear x0 x1 x2 x3 x4 x5 x6 x7 y0 y1 y2 y3 y4 y5 y6 y7 heq
      go_wp2_with fail
      go_roundw
      case rel => exact ⟨k + 1, by omega, by go_num, Go.below_drewN HB.out _⟩
      case measure => simp only [intOf]; omega
    · go_wp2_with fail
      go_ret
      exact ⟨rfl, HB.out⟩

end Go.Proofs.YtimdioacmojkeabDoor

namespace Go.Proofs.YtimdioacmojkeabDoor
open Go.RowKit
set_option maxRecDepth 4000

set_option maxHeartbeats 4000000 in
set_option maxRecDepth 10000 in
theorem sameNode_any (n : Nod) (v1 v2 : Value) (w : World) (h1 : Rx 8 idC w v1 n.parts) (h2 : Rx 8 idC w v2 n.parts) (h8 : ∀ t ∈ n.parts, t.length = 8) :
    Calls Tryd.prog 12 #[ndV n v1, ndV n v2] w fun e w' => e = .returned (.bool true) ∧ Below w.heap.size w w' := by
  obtain ⟨W2, hW2⟩ : ∃ W2, W2 = (w.alloc (.cells (ndC n v1).toArray 29)).alloc (.cells (ndC n v2).toArray 29) := ⟨_, rfl⟩
  have HB2 : Hid (Below w.heap.size w W2) := by rw [hW2]; exact ((Below.refl _ w).alloc (Nat.le_refl _) _).alloc (by simp) _
  have hM2 : W2.heap[w.heap.size]? = some (.cells (ndC n v1).toArray 29 (0, 0)) ∧ W2.heap[w.heap.size + 1]? = some (.cells (ndC n v2).toArray 29 (0, 0)) := by
    rw [hW2]
    exact ⟨((Below.refl _ (w.alloc (.cells (ndC n v1).toArray 29))).alloc (Nat.le_refl _) _).block w.heap.size (by simp) ▸ heap_alloc_new w _, by
      have := heap_alloc_new (w.alloc (.cells (ndC n v1).toArray 29)) (.cells (ndC n v2).toArray 29)
      simpa using this⟩
  have heq := equal_ids v1 v2 n.parts W2 (h1.below HB2.out) (h2.below HB2.out) h8
  obtain ⟨a1, c1, rfl, _⟩ := h1.slice
  obtain ⟨a2, c2, rfl, _⟩ := h2.slice
  generalize n.parts.length = np at *
  clear h1 h2 h8
  obtain ⟨name, kind, mode, time, size, parts, link⟩ := n
  obtain ⟨m0, m1, m2, m3, m4, m5, m6⟩ := seven_at hM2.1
  obtain ⟨n0, n1, n2, n3, n4, n5, n6⟩ := seven_at hM2.2
  clear hM2
  go_enter Tryd.func12, Tryd.ntmps12
  go_upto_region 1 with fail
  rw [← hW2]
  obtain ⟨bk, hbk⟩ : ∃ bk, bk = w.heap.size := ⟨_, rfl⟩
  rw [← hbk] at m0 m1 m2 m3 m4 m5 m6 n0 n1 n2 n3 n4 n5 n6 ⊢
  clear hW2 hbk
  go_wp2_with fail
  refine heq.mono ?_
  rintro e w3 ⟨rfl, b3⟩
  have HB3 : Hid (Below w.heap.size w w3) := HB2.out.trans (b3.mono HB2.out.size)
  clear heq b3
  go_wp2_with fail
  go_ret
  exact ⟨rfl, HB3.out⟩

set_option maxHeartbeats 4000000 in
set_option maxRecDepth 10000 in
theorem equal_nodes (v1 v2 : Value) (l : List Nod) (w : World) (h1 : Nds w v1 l) (h2 : Nds w v2 l) (hl : l.length ≤ 9223372036854775807) :
    Calls Tryd.prog 11 #[v1, v2, .func (.func 12) #[] #[]] w fun e w' => e = .returned (.bool true) ∧ Below w.heap.size w w' := by
  obtain ⟨a1, c1, rfl⟩ := h1.slice
  obtain ⟨a2, c2, rfl⟩ := h2.slice
  have HX : Hid (Nds w (.slice a1 l.length c1) l ∧ Nds w (.slice a2 l.length c2) l) := ⟨h1, h2⟩
  obtain ⟨N, hN⟩ : ∃ N, N = l.length := ⟨_, rfl⟩
  have HN : Hid (N = l.length) := hN
  rw [← hN] at HX hl ⊢
  clear h1 h2 hN
  go_enter Tryd.func11, Tryd.ntmps11
  go_wp2_with fail
  go_loopw [17] (fun i wr => ∃ k : Nat, k ≤ N ∧ i = .int .i64 k ∧ Hid (Below w.heap.size w wr)) (fun i _ => N - (intOf i).toNat)
  case atStart => exact ⟨0, by omega, rfl, Below.refl _ _⟩
  case round =>
    obtain ⟨k, hk, rfl, HB⟩ := hrel
    by_cases hlt : k < N
    · have hkl : k < l.length := by rw [← HN.out]; exact hlt
      obtain ⟨bk, o, cs, rfl, hbk, hcl, ⟨v, rfl, hPs, hok⟩, hcell⟩ := (HX.out.1.below HB.out).get k l[k] (List.getElem?_eq_getElem hkl)
      obtain ⟨bk', o', cs', rfl, hbk', hcl', ⟨v', rfl, hPs', _⟩, hcell'⟩ := (HX.out.2.below HB.out).get k l[k] (List.getElem?_eq_getElem hkl)
      obtain ⟨W2, hW2⟩ : ∃ W2, W2 = (wr.alloc (.cells (ndC l[k] v).toArray 29)).alloc (.cells (ndC l[k] v').toArray 29) := ⟨_, rfl⟩
      have hB2 : Below wr.heap.size wr W2 := by rw [hW2]; exact ((Below.refl _ wr).alloc (Nat.le_refl _) _).alloc (by simp) _
      have HB2 : Hid (Below w.heap.size w W2) := HB.out.trans (hB2.mono HB.out.size)
      have hM2 : W2.heap[wr.heap.size]? = some (.cells (ndC l[k] v).toArray 29 (0, 0)) ∧ W2.heap[wr.heap.size + 1]? = some (.cells (ndC l[k] v').toArray 29 (0, 0)) := by
        rw [hW2]
        exact ⟨((Below.refl _ (wr.alloc (.cells (ndC l[k] v).toArray 29))).alloc (Nat.le_refl _) _).block wr.heap.size (by simp) ▸ heap_alloc_new wr _, by
          have := heap_alloc_new (wr.alloc (.cells (ndC l[k] v).toArray 29)) (.cells (ndC l[k] v').toArray 29)
          simpa using this⟩
      have hsn := sameNode_any l[k] v v' W2 (hPs.below hB2) (hPs'.below hB2) hok.ids
      obtain ⟨av, cv, rfl, _⟩ := hPs.slice
      obtain ⟨av', cv', rfl, _⟩ := hPs'.slice
      have c0 : wr.cell? ⟨bk, o + k * 7, none⟩ = some (.string l[k].name) := hcell 0 _ rfl
      have d0 : wr.cell? ⟨bk', o' + k * 7, none⟩ = some (.string l[k].name) := hcell' 0 _ rfl
      have c1 := hcell 1 _ rfl
      have c2 := hcell 2 _ rfl
      have c3 := hcell 3 _ rfl
      have c4 := hcell 4 _ rfl
      have c5 := hcell 5 _ rfl
      have c6 := hcell 6 _ rfl
      have d1 := hcell' 1 _ rfl
      have d2 := hcell' 2 _ rfl
      have d3 := hcell' 3 _ rfl
      have d4 := hcell' 4 _ rfl
      have d5 := hcell' 5 _ rfl
      have d6 := hcell' 6 _ rfl
      obtain ⟨m0, m1, m2, m3, m4, m5, m6⟩ := seven_at hM2.1
      obtain ⟨n0, n1, n2, n3, n4, n5, n6⟩ := seven_at hM2.2
      generalize l[k] = n at *
      generalize n.parts.length = np at *
      clear hcell hcell' hPs hPs' hok hcl hcl' hM2 hB2
      obtain ⟨name, kind, mode, time, size, parts, link⟩ := n
      dsimp only at *
      have hlt1 : bk' < wr.heap.size := hbk'
      have hne1 : ¬ wr.heap.size = bk' := by omega
      go_upto_region 7 with fail
      rw [← hW2]
      obtain ⟨b7, hb7⟩ : ∃ b7, b7 = wr.heap.size := ⟨_, rfl⟩
      rw [← hb7] at m0 m1 m2 m3 m4 m5 m6 n0 n1 n2 n3 n4 n5 n6 ⊢
      clear hW2 c0 c1 c2 c3 c4 c5 c6 d0 d1 d2 d3 d4 d5 d6 hb7 hne1 hlt1
      go_wp2_with fail
      refine hsn.mono ?_
      rintro e w3 ⟨rfl, b3⟩
      have HB3 : Hid (Below w.heap.size w w3) := HB2.out.trans (b3.mono HB2.out.size)
      clear hsn b3 m0 m1 m2 m3 m4 m5 m6 n0 n1 n2 n3 n4 n5 n6
      go_wp2_with fail
      go_roundw
      case rel => exact ⟨k + 1, by omega, by go_num, HB3⟩
      case measure => simp only [intOf]; omega
    · go_wp2_with fail
      go_ret
      exact ⟨rfl, HB.out⟩
end Go.Proofs.YtimdioacmojkeabDoor

namespace Go.Proofs.YtimdioacmojkeabDoor
open Go.RowKit
set_option maxRecDepth 4000

/-- an ID of eight bytes -/
abbrev Id8 := { x : List UInt8 // x.length = 8 }

def id8C (t : Id8) : List Value := idC t.1

theorem id8C_length (t : Id8) : (id8C t).length = 8 := by rw [id8C, idC, List.length_map, t.2]

theorem id8C_one (t : Id8) : ∀ u ∈ id8C t, u.oneCell' = true := by
  intro u hu
  obtain ⟨c, _, rfl⟩ := List.mem_map.1 hu
  rfl

theorem rx_sub8 {w : World} {v : Value} {L : List { x : List UInt8 // x.length = 8 }} (hr : Rx 8 (fun x : { x : List UInt8 // x.length = 8 } => idC x.1) w v L) : Rx 8 idC w v (L.map (·.1)) := by
  refine ⟨?_, hr.room⟩
  rcases hr.at_ with ⟨h1, rfl⟩ | ⟨bk, o, cp, h1, h2, h3⟩
  · exact .inl ⟨h1, rfl⟩
  · refine .inr ⟨bk, o, cp, by rw [List.length_map]; exact h1, h2, fun j t hj r u hu => ?_⟩
    rw [List.getElem?_map] at hj
    cases e : L[j]? with
    | none => rw [e] at hj; simp at hj
    | some q =>
      rw [e] at hj
      obtain rfl : q.1 = t := by simpa using hj
      exact h3 j q e r u hu

theorem info_id8 : (Tryd.prog.info? 32).map (fun i => (i.zero, i.size, i.bytes)) = some (some (.agg #[.int .u8 0, .int .u8 0, .int .u8 0, .int .u8 0, .int .u8 0, .int .u8 0, .int .u8 0, .int .u8 0]), 8, 8) := by kernel_rfl

theorem equal_id8 (v1 v2 : Value) (l : List Id8) (w : World) (h1 : Rx 8 id8C w v1 l) (h2 : Rx 8 id8C w v2 l) (_ : l.length ≤ 9223372036854775807) :
    Calls Tryd.prog 16 #[v1, v2] w fun e w' => e = .returned (.bool true) ∧ Below w.heap.size w w' :=
  equal_ids v1 v2 (l.map (·.1)) w (rx_sub8 h1) (rx_sub8 h2) fun t ht => by
    obtain ⟨x, _, rfl⟩ := List.mem_map.1 ht
    exact x.2

set_option maxHeartbeats 16000000 in
theorem ample_ids (v : Value) (l : List Id8) (b0 b1 b2 b3 b4 b5 b6 b7 : UInt8) (w : World) (h : Rx 8 id8C w v l) (hl : l.length * 8 ≤ 140737488351232) :
    Calls Tryd.prog 6 #[v, .agg #[.int .u8 (b0.toNat : Int), .int .u8 (b1.toNat : Int), .int .u8 (b2.toNat : Int), .int .u8 (b3.toNat : Int), .int .u8 (b4.toNat : Int), .int .u8 (b5.toNat : Int), .int .u8 (b6.toNat : Int), .int .u8 (b7.toNat : Int)]] w fun e w' => ∃ g, e = .returned (.slice (some ⟨g, 0, none⟩) l.length (l.length + 3)) ∧ w'.ownsRow w.heap.size 32 8 (.slice (some ⟨g, 0, none⟩) (l.length + 2) (l.length + 3)) (l.length + 2) (rowR id8C (l ++ [(⟨[b0, b1, b2, b3, b4, b5, b6, b7], rfl⟩ : Id8), (⟨[b0, b1, b2, b3, b4, b5, b6, b7], rfl⟩ : Id8)])) ∧ Below w.heap.size w w' := by
  obtain ⟨i0, hi, hz0, hz1, hz2⟩ := info_three info_id8
  obtain ⟨a, c, rfl, hcc1, hcc2⟩ := h.slice
  obtain ⟨W1, hW1⟩ : ∃ W1, W1 = w.alloc (.cells #[.int .u8 (b0.toNat : Int), .int .u8 (b1.toNat : Int), .int .u8 (b2.toNat : Int), .int .u8 (b3.toNat : Int), .int .u8 (b4.toNat : Int), .int .u8 (b5.toNat : Int), .int .u8 (b6.toNat : Int), .int .u8 (b7.toNat : Int)] 32) := ⟨_, rfl⟩
  have hB1 : Below w.heap.size w W1 := by rw [hW1]; exact (Below.refl _ w).alloc (Nat.le_refl _) _
  have hs1 : w.heap.size < W1.heap.size := by rw [hW1]; show _ < (w.heap.push _).size; simp
  have hbk1 : W1.heap[w.heap.size]? = some (.cells #[.int .u8 (b0.toNat : Int), .int .u8 (b1.toNat : Int), .int .u8 (b2.toNat : Int), .int .u8 (b3.toNat : Int), .int .u8 (b4.toNat : Int), .int .u8 (b5.toNat : Int), .int .u8 (b6.toNat : Int), .int .u8 (b7.toNat : Int)] 32 (0, 0)) := by rw [hW1]; exact heap_alloc_new w _
  have HSX : Hid (∀ W, Below W1.heap.size W1 W → W.cell? ⟨w.heap.size, 0, none⟩ = some (.int .u8 (b0.toNat : Int)) ∧ W.cell? ⟨w.heap.size, 1, none⟩ = some (.int .u8 (b1.toNat : Int)) ∧ W.cell? ⟨w.heap.size, 2, none⟩ = some (.int .u8 (b2.toNat : Int)) ∧ W.cell? ⟨w.heap.size, 3, none⟩ = some (.int .u8 (b3.toNat : Int)) ∧ W.cell? ⟨w.heap.size, 4, none⟩ = some (.int .u8 (b4.toNat : Int)) ∧ W.cell? ⟨w.heap.size, 5, none⟩ = some (.int .u8 (b5.toNat : Int)) ∧ W.cell? ⟨w.heap.size, 6, none⟩ = some (.int .u8 (b6.toNat : Int)) ∧ W.cell? ⟨w.heap.size, 7, none⟩ = some (.int .u8 (b7.toNat : Int))) := fun W hW => by
    have e : W.heap[w.heap.size]? = _ := (hW.block _ hs1).trans hbk1
    have key := fun j => cell_of_row W w.heap.size j _ _ _ e
    exact ⟨key 0, key 1, key 2, key 3, key 4, key 5, key 6, key 7⟩
  have HSR : Hid (∀ W, Below W1.heap.size W1 W → (a = none → l.length = 0) ∧ ∀ ad, a = some ad → ∀ j u, (rowR id8C l)[j]? = some u → W.cell? (ad.add j) = some u) := fun W hW =>
    (h.below (hB1.trans (hW.mono (by omega)))).src id8C_length (by omega)
  have HB1 : Hid (Below w.heap.size w W1) := hB1
  have B0 : Hid (Below W1.heap.size W1 W1.drew) := (Below.refl _ W1).drew
  have BX : Hid (∀ o, Below W1.heap.size W1 (W1.alloc o).drew) := fun o => ((Below.refl _ W1).alloc (Nat.le_refl _) o).drew
  have HTW : Hid ((#[.int .u8 (b0.toNat : Int), .int .u8 (b1.toNat : Int), .int .u8 (b2.toNat : Int), .int .u8 (b3.toNat : Int), .int .u8 (b4.toNat : Int), .int .u8 (b5.toNat : Int), .int .u8 (b6.toNat : Int), .int .u8 (b7.toNat : Int), .int .u8 (b0.toNat : Int), .int .u8 (b1.toNat : Int), .int .u8 (b2.toNat : Int), .int .u8 (b3.toNat : Int), .int .u8 (b4.toNat : Int), .int .u8 (b5.toNat : Int), .int .u8 (b6.toNat : Int), .int .u8 (b7.toNat : Int)] : Array Value) = (rowR id8C [(⟨[b0, b1, b2, b3, b4, b5, b6, b7], rfl⟩ : Id8), (⟨[b0, b1, b2, b3, b4, b5, b6, b7], rfl⟩ : Id8)]).toArray) := rfl
  clear h hB1 hcc1 hcc2 hbk1
  go_enter Tryd.func6, Tryd.ntmps6
  go_wp2_with fail
  rw [← hW1]
  clear hW1
  go_cut [5] from 6 (fun x wx => ∃ g, x = .slice (some ⟨g, 0, none⟩) (l.length + 2) (l.length + 3) ∧ Hid (wx.ownsRow W1.heap.size 32 8 (.slice (some ⟨g, 0, none⟩) (l.length + 2) (l.length + 3)) (l.length + 2) (rowR id8C (l ++ [(⟨[b0, b1, b2, b3, b4, b5, b6, b7], rfl⟩ : Id8), (⟨[b0, b1, b2, b3, b4, b5, b6, b7], rfl⟩ : Id8)])) ∧ Below W1.heap.size W1 wx))
  case first =>
    have hwr : IntKind.i64.wrap ((l.length : Int) + 3) = ((l.length + 3 : Nat) : Int) := by rw [IntKind.wrap_i64]; omega
    obtain ⟨w1, hr1, o1, g1⟩ := run_make_own (P := Tryd.prog) W1.drew W1.heap.size 27 32 i0 ((.agg #[.int .u8 0, .int .u8 0, .int .u8 0, .int .u8 0, .int .u8 0, .int .u8 0, .int .u8 0, .int .u8 0])) 8 Tryd.underlying27 hi hz0 hz1 .i64 .i64 (l.length + 3) (by rw [hz2]; omega) (by unfold maxLen; omega) (by simp)
    obtain ⟨w1x, hr1x, o1x, g1x⟩ := run_make_own (P := Tryd.prog) (W1.alloc (.cells #[.int .u8 (b0.toNat : Int), .int .u8 (b1.toNat : Int), .int .u8 (b2.toNat : Int), .int .u8 (b3.toNat : Int), .int .u8 (b4.toNat : Int), .int .u8 (b5.toNat : Int), .int .u8 (b6.toNat : Int), .int .u8 (b7.toNat : Int), .int .u8 (b0.toNat : Int), .int .u8 (b1.toNat : Int), .int .u8 (b2.toNat : Int), .int .u8 (b3.toNat : Int), .int .u8 (b4.toNat : Int), .int .u8 (b5.toNat : Int), .int .u8 (b6.toNat : Int), .int .u8 (b7.toNat : Int)] 32)).drew W1.heap.size 27 32 i0 ((.agg #[.int .u8 0, .int .u8 0, .int .u8 0, .int .u8 0, .int .u8 0, .int .u8 0, .int .u8 0, .int .u8 0])) 8 Tryd.underlying27 hi hz0 hz1 .i64 .i64 (l.length + 3) (by rw [hz2]; omega) (by unfold maxLen; omega) (by simp)
    rw [← hwr] at hr1 hr1x
    have hb1 : Below W1.heap.size W1 w1 := B0.out.grown g1 (by simp) (fun k hk => by cases hk)
    have hb1x : Below W1.heap.size W1 w1x := (BX.out _).grown g1x (by simp) (fun k hk => by cases hk)
    have HX1 : Hid (w1x.heap[W1.heap.size]? = some (.cells (rowR id8C [(⟨[b0, b1, b2, b3, b4, b5, b6, b7], rfl⟩ : Id8), (⟨[b0, b1, b2, b3, b4, b5, b6, b7], rfl⟩ : Id8)]).toArray 32 (0, 0))) := by show _ = _; rw [← HTW.out]; exact (g1x.block _ (by simp) (by simp)).trans (heap_alloc_new W1 _)
    have hz1' := hb1.size
    have hz1x := hb1x.size
    have O1 : w1.ownsRow W1.heap.size 32 8 (.slice (some ⟨W1.heap.size, 0, none⟩) 0 (l.length + 3)) 0 [] := o1
    have O1x : w1x.ownsRow W1.heap.size 32 8 (.slice (some ⟨W1.heap.size + 1, 0, none⟩) 0 (l.length + 3)) 0 [] := by simpa using o1x
    have hx1 : W1.heap.size + 1 < w1x.heap.size := (O1x.lt _ rfl).2
    have hx2 : W1.heap.size < w1.heap.size := (O1.lt _ rfl).2
    have hr1' : (Instr.makeSlice 27 (.int .i64 0) (.int .i64 (IntKind.i64.wrap ((l.length : Int) + 3)))).run Tryd.prog W1.drew = .ok (.slice (some ⟨W1.heap.size, 0, none⟩) 0 (l.length + 3)) w1 := hr1
    have hr2' : (Instr.makeSlice 27 (.int .i64 0) (.int .i64 (IntKind.i64.wrap ((l.length : Int) + 3)))).run Tryd.prog (W1.alloc (.cells #[.int .u8 (b0.toNat : Int), .int .u8 (b1.toNat : Int), .int .u8 (b2.toNat : Int), .int .u8 (b3.toNat : Int), .int .u8 (b4.toNat : Int), .int .u8 (b5.toNat : Int), .int .u8 (b6.toNat : Int), .int .u8 (b7.toNat : Int), .int .u8 (b0.toNat : Int), .int .u8 (b1.toNat : Int), .int .u8 (b2.toNat : Int), .int .u8 (b3.toNat : Int), .int .u8 (b4.toNat : Int), .int .u8 (b5.toNat : Int), .int .u8 (b6.toNat : Int), .int .u8 (b7.toNat : Int)] 32)).drew = .ok (.slice (some ⟨W1.heap.size + 1, 0, none⟩) 0 (l.length + 3)) w1x := by simpa using hr1x
    clear o1 o1x g1 g1x hr1 hr1x hwr
    go_region_held3 (fun w' => w'.cell? ⟨w.heap.size, 0, none⟩ = some (.int .u8 (b0.toNat : Int)) ∧ w'.cell? ⟨w.heap.size, 1, none⟩ = some (.int .u8 (b1.toNat : Int)) ∧ w'.cell? ⟨w.heap.size, 2, none⟩ = some (.int .u8 (b2.toNat : Int)) ∧ w'.cell? ⟨w.heap.size, 3, none⟩ = some (.int .u8 (b3.toNat : Int)) ∧ w'.cell? ⟨w.heap.size, 4, none⟩ = some (.int .u8 (b4.toNat : Int)) ∧ w'.cell? ⟨w.heap.size, 5, none⟩ = some (.int .u8 (b5.toNat : Int)) ∧ w'.cell? ⟨w.heap.size, 6, none⟩ = some (.int .u8 (b6.toNat : Int)) ∧ w'.cell? ⟨w.heap.size, 7, none⟩ = some (.int .u8 (b7.toNat : Int)))
      (first | with_reducible exact HSX.out _ hb3 | with_reducible exact HSX.out _ (hb2.alloc hb2.size _) | with_reducible exact HSX.out _ hb2 | with_reducible exact HSX.out _ (hb1.alloc hz1' _) | with_reducible exact HSX.out _ hb1 | with_reducible exact HSX.out _ hb1x | with_reducible exact HSX.out _ (BX.out _) | with_reducible exact HSX.out _ B0.out | go_keep)
      (first
        | (refine step_fits_all _ (by rfl) (.tmp 9) (.tmp 10) 27 (by rfl) W1.heap.size 32 i0 8 Tryd.underlying27 hi hz1 _ _ _ _ (by rfl) O1 _ _ _ (rowR id8C l) (by rfl) (by rw [rowR_length id8C_length]) (HSR.out _ hb1).1 (HSR.out _ hb1).2 (rowR_one id8C_one _) (by omega) l.length (by omega) ?_; intro w2 o2 g2; rw [List.nil_append] at o2; have hb2 : Below W1.heap.size W1 w2 := hb1.grown g2 hz1' (fun k hk => by cases hk; omega))
        | (refine step_fits_all _ (by rfl) (.tmp 9) (.tmp 10) 27 (by rfl) W1.heap.size 32 i0 8 Tryd.underlying27 hi hz1 _ _ _ _ (by rfl) (O1.alloc _) _ _ _ (rowR id8C l) (by rfl) (by rw [rowR_length id8C_length]) (HSR.out _ hb1).1 (HSR.out _ (hb1.alloc hz1' _)).2 (rowR_one id8C_one _) (by omega) l.length (by omega) ?_; intro w2 o2 g2; rw [List.nil_append] at o2; have hb2 : Below W1.heap.size W1 w2 := (hb1.alloc hz1' _).grown g2 (by simp; omega) (fun k hk => by cases hk; omega); have HX2 : Hid (w2.heap[w1.heap.size]? = some (.cells (rowR id8C [(⟨[b0, b1, b2, b3, b4, b5, b6, b7], rfl⟩ : Id8), (⟨[b0, b1, b2, b3, b4, b5, b6, b7], rfl⟩ : Id8)]).toArray 32 (0, 0))) := (by show _ = _; rw [← HTW.out]; exact (g2.block _ (by simp) (by simp; omega)).trans (heap_alloc_new w1 _)))
        | (refine step_fits_all _ (by rfl) (.tmp 9) (.tmp 10) 27 (by rfl) W1.heap.size 32 i0 8 Tryd.underlying27 hi hz1 _ _ _ _ (by rfl) O1x _ _ _ (rowR id8C l) (by rfl) (by rw [rowR_length id8C_length]) (HSR.out _ hb1x).1 (HSR.out _ hb1x).2 (rowR_one id8C_one _) (by omega) l.length (by omega) ?_; intro w2 o2 g2; rw [List.nil_append] at o2; have hb2 : Below W1.heap.size W1 w2 := hb1x.grown g2 hz1x (fun k hk => by cases hk; omega); have HX2 : Hid (w2.heap[W1.heap.size]? = some (.cells (rowR id8C [(⟨[b0, b1, b2, b3, b4, b5, b6, b7], rfl⟩ : Id8), (⟨[b0, b1, b2, b3, b4, b5, b6, b7], rfl⟩ : Id8)]).toArray 32 (0, 0))) := (g2.block _ (by omega) (by simp)).trans HX1.out)
        | (refine step_fits_all _ (by rfl) (.tmp 11) (.tmp 14) 27 (by rfl) W1.heap.size 32 i0 8 Tryd.underlying27 hi hz1 _ _ _ _ (by rfl) (o2.alloc _) _ _ _ (rowR id8C [(⟨[b0, b1, b2, b3, b4, b5, b6, b7], rfl⟩ : Id8), (⟨[b0, b1, b2, b3, b4, b5, b6, b7], rfl⟩ : Id8)]) (by rfl) (by rfl) (by simp) (two_rows (by rw [← HTW.out]; exact heap_alloc_new w2 _)) (rowR_one id8C_one _) (by omega) (l.length + 2) (by omega) ?_; intro w3 o3 g3; have hb3 : Below W1.heap.size W1 w3 := (hb2.alloc hb2.size _).grown g3 (Nat.le_trans hb2.size (by simp)) (fun k hk => by cases hk; omega))
        | (refine step_fits_all _ (by rfl) (.tmp 11) (.tmp 14) 27 (by rfl) W1.heap.size 32 i0 8 Tryd.underlying27 hi hz1 _ _ _ _ (by rfl) o2 _ _ _ (rowR id8C [(⟨[b0, b1, b2, b3, b4, b5, b6, b7], rfl⟩ : Id8), (⟨[b0, b1, b2, b3, b4, b5, b6, b7], rfl⟩ : Id8)]) (by rfl) (by rfl) (by simp) (two_rows HX2.out) (rowR_one id8C_one _) (by omega) (l.length + 2) (by omega) ?_; intro w3 o3 g3; have hb3 : Below W1.heap.size W1 w3 := hb2.grown g3 hb2.size (fun k hk => by cases hk; omega)))
    all_goals
      go_wp2_with fail
      go_meet
      exact ⟨_, rfl, by rw [rowR_two]; exact o3, hb3⟩
  case rest =>
  obtain ⟨g, rfl, ho⟩ := hcut
  have HO := ho.out.1
  have HB := HB1.out.trans (ho.out.2.mono (by omega))
  have HO' : Hid (wc.ownsRow w.heap.size 32 8 (.slice (some ⟨g, 0, none⟩) (l.length + 2) (l.length + 3)) (l.length + 2) (rowR id8C (l ++ [(⟨[b0, b1, b2, b3, b4, b5, b6, b7], rfl⟩ : Id8), (⟨[b0, b1, b2, b3, b4, b5, b6, b7], rfl⟩ : Id8)]))) := rown_low HO (by omega)
  have HB' : Hid (Below w.heap.size w wc) := HB
  clear HO HB ho
  go_wp2_with fail
  go_ret
  exact ⟨_, rfl, HO'.out, HB'.out⟩

set_option maxHeartbeats 8000000 in
theorem stays_ids (g : Nat) (u : Value) (l : List Id8) (b0 b1 b2 b3 b4 b5 b6 b7 : UInt8) (w : World) (base : Nat) (h : w.ownsRow base 32 8 (.slice (some ⟨g, 0, none⟩) (l.length + 2) (l.length + 3)) (l.length + 2) (rowR id8C (l ++ [(⟨[b0, b1, b2, b3, b4, b5, b6, b7], rfl⟩ : Id8), (⟨[b0, b1, b2, b3, b4, b5, b6, b7], rfl⟩ : Id8)]))) (k : Rx 8 id8C w u l) (hl : l.length * 8 ≤ 140737488351232) :
    Calls Tryd.prog 7 #[.slice (some ⟨g, 0, none⟩) l.length (l.length + 3), u, .agg #[.int .u8 (b0.toNat : Int), .int .u8 (b1.toNat : Int), .int .u8 (b2.toNat : Int), .int .u8 (b3.toNat : Int), .int .u8 (b4.toNat : Int), .int .u8 (b5.toNat : Int), .int .u8 (b6.toNat : Int), .int .u8 (b7.toNat : Int)]] w fun e w' => e = .returned (.bool true) ∧ Below w.heap.size w w' := by
  have hlt : g < w.heap.size := (h.lt g rfl).2
  have cx := amp_fill id8C_length h l.length (.inl rfl)
  have cy := amp_fill id8C_length h (l.length + 1) (.inr rfl)
  obtain ⟨W1, hW1⟩ : ∃ W1, W1 = w.alloc (.cells #[.int .u8 (b0.toNat : Int), .int .u8 (b1.toNat : Int), .int .u8 (b2.toNat : Int), .int .u8 (b3.toNat : Int), .int .u8 (b4.toNat : Int), .int .u8 (b5.toNat : Int), .int .u8 (b6.toNat : Int), .int .u8 (b7.toNat : Int)] 32) := ⟨_, rfl⟩
  have hb1 : Below w.heap.size w W1 := by rw [hW1]; exact (Below.refl _ w).alloc (Nat.le_refl _) _
  have hz1 : w.heap.size < W1.heap.size := by rw [hW1]; show _ < (w.heap.push _).size; simp
  have hbk1 : W1.heap[w.heap.size]? = some (.cells #[.int .u8 (b0.toNat : Int), .int .u8 (b1.toNat : Int), .int .u8 (b2.toNat : Int), .int .u8 (b3.toNat : Int), .int .u8 (b4.toNat : Int), .int .u8 (b5.toNat : Int), .int .u8 (b6.toNat : Int), .int .u8 (b7.toNat : Int)] 32 (0, 0)) := by rw [hW1]; exact heap_alloc_new w _
  have heq : ∀ X : Since W1.heap.size W1, Calls Tryd.prog 16 #[.slice (some ⟨g, 0, none⟩) l.length (l.length + 3), u] X.val fun e w' => e = .returned (.bool true) ∧ Below X.val.heap.size X.val w' := fun X =>
    equal_id8 _ _ l X.val ((amp_rx id8C_length h (by omega)).below (hb1.trans (X.property.mono (by omega)))) (k.below (hb1.trans (X.property.mono (by omega)))) (by omega)
  have hcell : ∀ (X : Since W1.heap.size W1) (o : Nat), X.val.cell? ⟨g, o, none⟩ = w.cell? ⟨g, o, none⟩ := fun X o => (X.property.cell (p := ⟨g, o, none⟩) (by show g < _; omega)).trans (hb1.cell (p := ⟨g, o, none⟩) hlt)
  have x0 : ∀ X : Since W1.heap.size W1, X.val.cell? ⟨g, l.length * 8, none⟩ = some (.int .u8 (b0.toNat : Int)) := fun X => (hcell X _).trans (cx 0 _ rfl)
  have y0 : ∀ X : Since W1.heap.size W1, X.val.cell? ⟨g, (l.length + 1) * 8, none⟩ = some (.int .u8 (b0.toNat : Int)) := fun X => (hcell X _).trans (cy 0 _ rfl)
  have b0b : ∀ X : Since W1.heap.size W1, X.val.cell? ⟨w.heap.size, 0, none⟩ = some (.int .u8 (b0.toNat : Int)) := fun X => (X.property.cell (p := ⟨w.heap.size, 0, none⟩) hz1).trans (cell_of_row _ _ 0 _ _ _ hbk1)
  have x1 : ∀ X : Since W1.heap.size W1, X.val.cell? ⟨g, l.length * 8 + 1, none⟩ = some (.int .u8 (b1.toNat : Int)) := fun X => (hcell X _).trans (cx 1 _ rfl)
  have y1 : ∀ X : Since W1.heap.size W1, X.val.cell? ⟨g, (l.length + 1) * 8 + 1, none⟩ = some (.int .u8 (b1.toNat : Int)) := fun X => (hcell X _).trans (cy 1 _ rfl)
  have b1b : ∀ X : Since W1.heap.size W1, X.val.cell? ⟨w.heap.size, 1, none⟩ = some (.int .u8 (b1.toNat : Int)) := fun X => (X.property.cell (p := ⟨w.heap.size, 1, none⟩) hz1).trans (cell_of_row _ _ 1 _ _ _ hbk1)
  have x2 : ∀ X : Since W1.heap.size W1, X.val.cell? ⟨g, l.length * 8 + 2, none⟩ = some (.int .u8 (b2.toNat : Int)) := fun X => (hcell X _).trans (cx 2 _ rfl)
  have y2 : ∀ X : Since W1.heap.size W1, X.val.cell? ⟨g, (l.length + 1) * 8 + 2, none⟩ = some (.int .u8 (b2.toNat : Int)) := fun X => (hcell X _).trans (cy 2 _ rfl)
  have b2b : ∀ X : Since W1.heap.size W1, X.val.cell? ⟨w.heap.size, 2, none⟩ = some (.int .u8 (b2.toNat : Int)) := fun X => (X.property.cell (p := ⟨w.heap.size, 2, none⟩) hz1).trans (cell_of_row _ _ 2 _ _ _ hbk1)
  have x3 : ∀ X : Since W1.heap.size W1, X.val.cell? ⟨g, l.length * 8 + 3, none⟩ = some (.int .u8 (b3.toNat : Int)) := fun X => (hcell X _).trans (cx 3 _ rfl)
  have y3 : ∀ X : Since W1.heap.size W1, X.val.cell? ⟨g, (l.length + 1) * 8 + 3, none⟩ = some (.int .u8 (b3.toNat : Int)) := fun X => (hcell X _).trans (cy 3 _ rfl)
  have b3b : ∀ X : Since W1.heap.size W1, X.val.cell? ⟨w.heap.size, 3, none⟩ = some (.int .u8 (b3.toNat : Int)) := fun X => (X.property.cell (p := ⟨w.heap.size, 3, none⟩) hz1).trans (cell_of_row _ _ 3 _ _ _ hbk1)
  have x4 : ∀ X : Since W1.heap.size W1, X.val.cell? ⟨g, l.length * 8 + 4, none⟩ = some (.int .u8 (b4.toNat : Int)) := fun X => (hcell X _).trans (cx 4 _ rfl)
  have y4 : ∀ X : Since W1.heap.size W1, X.val.cell? ⟨g, (l.length + 1) * 8 + 4, none⟩ = some (.int .u8 (b4.toNat : Int)) := fun X => (hcell X _).trans (cy 4 _ rfl)
  have b4b : ∀ X : Since W1.heap.size W1, X.val.cell? ⟨w.heap.size, 4, none⟩ = some (.int .u8 (b4.toNat : Int)) := fun X => (X.property.cell (p := ⟨w.heap.size, 4, none⟩) hz1).trans (cell_of_row _ _ 4 _ _ _ hbk1)
  have x5 : ∀ X : Since W1.heap.size W1, X.val.cell? ⟨g, l.length * 8 + 5, none⟩ = some (.int .u8 (b5.toNat : Int)) := fun X => (hcell X _).trans (cx 5 _ rfl)
  have y5 : ∀ X : Since W1.heap.size W1, X.val.cell? ⟨g, (l.length + 1) * 8 + 5, none⟩ = some (.int .u8 (b5.toNat : Int)) := fun X => (hcell X _).trans (cy 5 _ rfl)
  have b5b : ∀ X : Since W1.heap.size W1, X.val.cell? ⟨w.heap.size, 5, none⟩ = some (.int .u8 (b5.toNat : Int)) := fun X => (X.property.cell (p := ⟨w.heap.size, 5, none⟩) hz1).trans (cell_of_row _ _ 5 _ _ _ hbk1)
  have x6 : ∀ X : Since W1.heap.size W1, X.val.cell? ⟨g, l.length * 8 + 6, none⟩ = some (.int .u8 (b6.toNat : Int)) := fun X => (hcell X _).trans (cx 6 _ rfl)
  have y6 : ∀ X : Since W1.heap.size W1, X.val.cell? ⟨g, (l.length + 1) * 8 + 6, none⟩ = some (.int .u8 (b6.toNat : Int)) := fun X => (hcell X _).trans (cy 6 _ rfl)
  have b6b : ∀ X : Since W1.heap.size W1, X.val.cell? ⟨w.heap.size, 6, none⟩ = some (.int .u8 (b6.toNat : Int)) := fun X => (X.property.cell (p := ⟨w.heap.size, 6, none⟩) hz1).trans (cell_of_row _ _ 6 _ _ _ hbk1)
  have x7 : ∀ X : Since W1.heap.size W1, X.val.cell? ⟨g, l.length * 8 + 7, none⟩ = some (.int .u8 (b7.toNat : Int)) := fun X => (hcell X _).trans (cx 7 _ rfl)
  have y7 : ∀ X : Since W1.heap.size W1, X.val.cell? ⟨g, (l.length + 1) * 8 + 7, none⟩ = some (.int .u8 (b7.toNat : Int)) := fun X => (hcell X _).trans (cy 7 _ rfl)
  have b7b : ∀ X : Since W1.heap.size W1, X.val.cell? ⟨w.heap.size, 7, none⟩ = some (.int .u8 (b7.toNat : Int)) := fun X => (X.property.cell (p := ⟨w.heap.size, 7, none⟩) hz1).trans (cell_of_row _ _ 7 _ _ _ hbk1)
  have hte : ∀ W, (Op.equalIn 10000 32 (.agg #[.int .u8 (b0.toNat : Int), .int .u8 (b1.toNat : Int), .int .u8 (b2.toNat : Int), .int .u8 (b3.toNat : Int), .int .u8 (b4.toNat : Int), .int .u8 (b5.toNat : Int), .int .u8 (b6.toNat : Int), .int .u8 (b7.toNat : Int)]) (.agg #[.int .u8 (b0.toNat : Int), .int .u8 (b1.toNat : Int), .int .u8 (b2.toNat : Int), .int .u8 (b3.toNat : Int), .int .u8 (b4.toNat : Int), .int .u8 (b5.toNat : Int), .int .u8 (b6.toNat : Int), .int .u8 (b7.toNat : Int)])).run Tryd.prog W = .ok true W := fun W => (by have := id_eq W (⟨[b0, b1, b2, b3, b4, b5, b6, b7], rfl⟩ : Id8).1 (⟨[b0, b1, b2, b3, b4, b5, b6, b7], rfl⟩ : Id8).1 rfl rfl; rw [beq_self_eq_true] at this; exact this)
  have hne : Nonempty (Since W1.heap.size W1) := ⟨⟨W1, Below.refl _ _⟩⟩
  have HB1 : Hid (Below w.heap.size w W1) := hb1
  obtain ⟨ua, uc, rfl, hcc1, hcc2⟩ := k.slice
  clear hcc1 hcc2
  clear h k cx cy hcell hb1 hbk1
  go_enter Tryd.func7, Tryd.ntmps7
  go_wp2_with fail
  rw [← hW1]
  clear hW1
  refine wp_region_since (B := W1.heap.size) (W0 := W1) (by kernel_rfl) (by kernel_rfl) (Below.refl _ _) ?_
  repeat (go_big_quiet_step (fail))
  go_big_quiet_step (exact quiet_since _ (heq _))
  repeat (go_big_quiet_step (fail))
  refine wpQuiet_nil ?_
  rintro w7 ⟨U, rfl⟩
  have HB3 : Hid (Below w.heap.size w U.val) := HB1.out.trans (U.property.mono HB1.out.size)
  generalize U.val = w7 at *
  clear x0 y0 b0b x1 y1 b1b x2 y2 b2b x3 y3 b3b x4 y4 b4b x5 y5 b5b x6 y6 b6b x7 y7 b7b hte hne heq
  go_wp2_with fail
  go_ret
  exact ⟨rfl, HB3.out⟩

set_option maxHeartbeats 4000000 in
theorem spoil_ids (g n c : Nat) (b0 b1 b2 b3 b4 b5 b6 b7 : UInt8) (w : World) (h : Room w g (c * 8) 32) (hc : c ≤ 9223372036854775807) (hg : g < w.heap.size) :
    Calls Tryd.prog 10 #[.slice (some ⟨g, 0, none⟩) n c, .agg #[.int .u8 (b0.toNat : Int), .int .u8 (b1.toNat : Int), .int .u8 (b2.toNat : Int), .int .u8 (b3.toNat : Int), .int .u8 (b4.toNat : Int), .int .u8 (b5.toNat : Int), .int .u8 (b6.toNat : Int), .int .u8 (b7.toNat : Int)]] w fun e w' => e = .returned (.tuple #[]) ∧ Kept (fun q => q ≠ g) w w' ∧ Room w' g (c * 8) 32 := by
  obtain ⟨W1, hW1⟩ : ∃ W1, W1 = w.alloc (.cells #[.int .u8 (b0.toNat : Int), .int .u8 (b1.toNat : Int), .int .u8 (b2.toNat : Int), .int .u8 (b3.toNat : Int), .int .u8 (b4.toNat : Int), .int .u8 (b5.toNat : Int), .int .u8 (b6.toNat : Int), .int .u8 (b7.toNat : Int)] 32) := ⟨_, rfl⟩
  have HK1 : Hid (Kept (fun q => q ≠ g) w W1) := by rw [hW1]; exact (Kept.refl _ w).alloc _
  have HR1 : Hid (Room W1 g (c * 8) 32) := by
    rw [hW1]
    exact h.kept (p := fun _ => True) ((Kept.refl _ w).alloc _) trivial
  have HZ : Hid (W1.heap[w.heap.size]? = some (.cells (id8C (⟨[b0, b1, b2, b3, b4, b5, b6, b7], rfl⟩ : Id8)).toArray 32 (0, 0))) := by rw [hW1]; exact heap_alloc_new w _
  have hgn : w.heap.size ≠ g := by omega
  have hinf : (Tryd.prog.info? 32).map (·.size) = some 8 := by kernel_rfl
  clear h
  go_enter Tryd.func10, Tryd.ntmps10
  go_wp2_with fail
  rw [← hW1]
  clear hW1
  go_loopw [11] (fun i wr => ∃ k : Nat, k ≤ c ∧ i = .int .i64 k ∧ Hid (Room wr g (c * 8) 32) ∧ Hid (Kept (fun q => q ≠ g) w wr) ∧ Hid (wr.heap[w.heap.size]? = some (.cells (id8C (⟨[b0, b1, b2, b3, b4, b5, b6, b7], rfl⟩ : Id8)).toArray 32 (0, 0)))) (fun i _ => c - (intOf i).toNat)
  case atStart => exact ⟨0, by omega, rfl, HR1, HK1, HZ⟩
  case round =>
    obtain ⟨k, hk, rfl, hr, hkp, hz⟩ := hrel
    by_cases hlt : k < c
    · have hrng := range_block hz.out
      have hth : wr.there g (k * 8) 8 := hr.out.there (by omega)
      have HR : Hid (Room (wr.setCells g (k * 8) (id8C (⟨[b0, b1, b2, b3, b4, b5, b6, b7], rfl⟩ : Id8))) g (c * 8) 32) := hr.out.setCells _ _
      have HK : Hid (Kept (fun q => q ≠ g) w (wr.setCells g (k * 8) (id8C (⟨[b0, b1, b2, b3, b4, b5, b6, b7], rfl⟩ : Id8)))) := hkp.out.setCells (fun e => e rfl) _ _
      have HZ2 : Hid ((wr.setCells g (k * 8) (id8C (⟨[b0, b1, b2, b3, b4, b5, b6, b7], rfl⟩ : Id8))).heap[w.heap.size]? = some (.cells (id8C (⟨[b0, b1, b2, b3, b4, b5, b6, b7], rfl⟩ : Id8)).toArray 32 (0, 0))) := ((Kept.refl (fun q => q ≠ g) wr).setCells (fun e => e rfl) _ _).obj hgn hz.out
      clear hr hkp hz
      go_upto_region 5 with fail
      refine wp_region_lit ?_
      refine wpList_plain rfl fun C hC => ?_
      go_simp
      refine hC _ _ ?_
      clear hC C
      refine wpList_plain rfl fun C hC => ?_
      go_simp
      refine hC _ _ ?_
      clear hC C
      refine wpList_load_mid rfl 32 (.tmp 3) rfl w.heap.size 0 rfl (id8C (⟨[b0, b1, b2, b3, b4, b5, b6, b7], rfl⟩ : Id8)) _ hrng Tryd.underlying32 rfl (by rw [hinf, id8C_length]) ?_
      refine wpList_plain rfl fun C hC => ?_
      go_simp
      refine hC _ _ ?_
      clear hC C
      refine wpList_store_mid rfl 32 (.tmp 17) (.tmp 16) rfl g (k * 8) (id8C (⟨[b0, b1, b2, b3, b4, b5, b6, b7], rfl⟩ : Id8)).toArray rfl rfl hth hinf (all_oneCell_toArray (id8C_one _)) ?_
      rw [show (id8C (⟨[b0, b1, b2, b3, b4, b5, b6, b7], rfl⟩ : Id8)).toArray.toList = id8C (⟨[b0, b1, b2, b3, b4, b5, b6, b7], rfl⟩ : Id8) from rfl]
      generalize wr.setCells g (k * 8) (id8C (⟨[b0, b1, b2, b3, b4, b5, b6, b7], rfl⟩ : Id8)) = w9 at *
      clear hrng hth
      go_wp2_with fail
      go_roundw
      case rel => exact ⟨k + 1, by omega, by go_num, HR, HK, HZ2⟩
      case measure => simp only [intOf]; omega
    · go_wp2_with fail
      go_end0
      exact ⟨rfl, hkp.out, hr.out⟩

set_option maxHeartbeats 1000000 in
theorem spoil_nil (b0 b1 b2 b3 b4 b5 b6 b7 : UInt8) (w : World) :
    Calls Tryd.prog 10 #[.slice none 0 0, .agg #[.int .u8 (b0.toNat : Int), .int .u8 (b1.toNat : Int), .int .u8 (b2.toNat : Int), .int .u8 (b3.toNat : Int), .int .u8 (b4.toNat : Int), .int .u8 (b5.toNat : Int), .int .u8 (b6.toNat : Int), .int .u8 (b7.toNat : Int)]] w fun e w' => e = .returned (.tuple #[]) ∧ Below w.heap.size w w' := by
  have HB : Hid (∀ o, Below w.heap.size w (w.alloc o)) := fun o => (Below.refl _ w).alloc (Nat.le_refl _) o
  go_enter Tryd.func10, Tryd.ntmps10
  go_wp2_with fail
  refine wp_loop_rounds 2 ?_
  rw [rounds_succ]
  go_wp2_with fail
  go_end0
  exact ⟨rfl, HB.out _⟩

end Go.Proofs.YtimdioacmojkeabDoor

namespace Go.Proofs.YtimdioacmojkeabDoor
open Go.RowKit Go.ChangeShapes Go.WideShapes Go.Deep Go.Joins
set_option maxRecDepth 20000

section
variable {H : Type} {enc : TypeId × Value → H} {w : World} {base : Nat} {spare : Nat → Bool} {held : Bool}

theorem choose_row {α : Type} {q : Nat → α → Prop} : ∀ (n : Nat), (∀ i, i < n → ∃ t, q i t) → ∃ l : List α, l.length = n ∧ ∀ i t, l[i]? = some t → q i t
  | 0, _ => ⟨[], rfl, fun i t h => by simp at h⟩
  | n + 1, h => by
    obtain ⟨l, hl, hq⟩ := choose_row n fun i hi => h i (by omega)
    obtain ⟨t, ht⟩ := h n (by omega)
    refine ⟨l ++ [t], by simp [hl], fun i u hu => ?_⟩
    by_cases hi : i < n
    · rw [List.getElem?_append_left (by omega)] at hu
      exact hq i u hu
    · have : i = n := by
        have := (List.getElem?_eq_some_iff.1 hu).1
        simp at this
        omega
      subst this
      rw [List.getElem?_append_right (by omega), hl] at hu
      obtain rfl : t = u := by simpa using hu
      exact ht

theorem trod_arr_mk {P : Program} {t e : TypeId} {n m : Nat} {cs : List Value} {xs : List (DataW H × List MemPlace)} (ht : P.underlying t = some (.array n e)) (hl : cs.length = P.cellsOf t) (hx : xs.length = n)
    (h : ∀ i, i < n → DataW.trod enc P w base spare held m e ((cs.drop (i * P.cellsOf e)).take (P.cellsOf e)) = xs[i]?) : DataW.trod enc P w base spare held (m + 1) t cs = some (.agg (xs.map (·.1)), xs.flatMap (·.2)) := by
  unfold DataW.trod
  rw [ht]
  simp only [hl, if_true]
  rw [mapM_some_of_get (List.range n) xs (by rw [List.length_range, hx]) (fun i x hix => by
    obtain ⟨hi, rfl⟩ := List.getElem?_eq_some_iff.1 hix
    rw [List.getElem_range]
    exact h i (by simpa using hi))]
  rfl

def byD (H : Type) (b : UInt8) : DataW H := .lit (.int .u8 (b.toNat : Int))

theorem ce_id : Tryd.prog.cellsOf 32 = 8 := by kernel_rfl

theorem ce_u8 : Tryd.prog.cellsOf 5 = 1 := by kernel_rfl

theorem ce_int : Tryd.prog.cellsOf 3 = 1 := by kernel_rfl

theorem wf_by {n : Int} (h : (Lit.int .u8 n).wf = true) : ∃ b : UInt8, n = (b.toNat : Int) := by
  simp [Lit.wf, IntKind.min, IntKind.max, IntKind.signed, IntKind.bits] at h
  refine ⟨UInt8.ofNat n.toNat, ?_⟩
  rw [UInt8.toNat_ofNat']
  omega

theorem by_opened : ∀ (cs : List Value) (xs : List (DataW H × List MemPlace)), xs.length = cs.length →
    (∀ j, j < cs.length → ∃ m, DataW.trod enc Tryd.prog w base spare held m 5 ((cs.drop j).take 1) = xs[j]?) → ∃ l : List UInt8, cs = l.map B ∧ xs = l.map (fun b => (byD H b, []))
  | [], [], _, _ => ⟨[], rfl, rfl⟩
  | c :: cs, x :: xs, hl, h => by
    obtain ⟨m, h0⟩ := h 0 (by simp)
    obtain ⟨n, hc, hx, hw⟩ := DataW.trod_int Tryd.underlying5 (show DataW.trod enc Tryd.prog w base spare held m 5 [c] = some x from by simpa using h0)
    obtain ⟨b, rfl⟩ := wf_by hw
    obtain ⟨l, hcs, hxs⟩ := by_opened cs xs (by simpa using hl) (fun j hj => by
      obtain ⟨m, hm⟩ := h (j + 1) (by simpa using hj)
      exact ⟨m, by simpa using hm⟩)
    refine ⟨b :: l, ?_, ?_⟩
    · rw [List.map_cons, ← hcs]
      have : c = .int .u8 (b.toNat : Int) := by simpa using hc
      rw [this]; rfl
    · rw [List.map_cons, ← hxs, hx]; rfl

theorem trod_id {l : List UInt8} (hl : l.length = 8) : DataW.trod enc Tryd.prog w base spare held 2 32 (l.map B) = some (.agg (l.map (byD H)), []) := by
  have hb : ∀ b : UInt8, (Lit.int .u8 (b.toNat : Int)).wf = true := fun b => by
    have := b.toNat_lt
    simp [Lit.wf, IntKind.min, IntKind.max, IntKind.signed, IntKind.bits]; omega
  have hlm : (l.map B).length = 8 := by rw [List.length_map, hl]
  have := trod_arr_mk (enc := enc) (w := w) (base := base) (spare := spare) (held := held) (m := 1) (xs := l.map (fun b => (byD H b, ([] : List MemPlace)))) (show Tryd.prog.underlying 32 = some (.array 8 5) from by kernel_rfl) (by rw [ce_id, hlm]) (by rw [List.length_map, hl]) (fun j hj => by
    rw [ce_u8, Nat.mul_one]
    have hjl : j < l.length := by omega
    rw [List.getElem?_map, List.getElem?_eq_getElem hjl]
    have hd : ((l.map B).drop j).take 1 = [B l[j]] := by
      rw [List.drop_eq_getElem_cons (by rw [List.length_map]; exact hjl), List.getElem_map]; rfl
    rw [hd]
    exact trod_int_mk 0 Tryd.underlying5 (hb l[j]))
  rw [this, List.map_map]
  simp [Function.comp_def]

/-- eight bytes of an ID -/
theorem open_id8 {n : Nat} {cs : List Value} {x : DataW H × List MemPlace} (hc : cs.length = 8) (h : DataW.trod enc Tryd.prog w base spare held n 32 cs = some x) :
    ∃ l : List UInt8, l.length = 8 ∧ cs = l.map B ∧ x = (.agg (l.map (byD H)), []) := by
  obtain ⟨xs, m, rfl, hx, _, hxl, hxs⟩ := DataW.trod_array (show Tryd.prog.underlying 32 = some (.array 8 5) from by kernel_rfl) h
  simp only [ce_u8, Nat.mul_one] at hxs
  obtain ⟨l, hl, hxl2⟩ := by_opened (enc := enc) (w := w) (base := base) (spare := spare) (held := held) cs xs (by rw [hxl, hc]) (fun j hj => ⟨m, hxs j (by omega)⟩)
  refine ⟨l, by rw [← List.length_map (f := B), ← hl]; exact hc, hl, ?_⟩
  rw [hx, hxl2]
  simp [List.map_map, Function.comp_def]

/-- rows of things of k cells each -/
theorem open_rows {α : Type} {k : Nat} {C : α → List Value} {q : α → Prop} {T E : TypeId} (hu : Tryd.prog.underlying T = some (.slice E)) (hk : Tryd.prog.cellsOf E = k) (hk0 : 0 < k) (hC : ∀ t, (C t).length = k)
    (ho : ∀ n cs (x : DataW H × List MemPlace), cs.length = k → DataW.trod enc Tryd.prog w base spare held n E cs = some x → ∃ t, cs = C t ∧ q t)
    {fuel : Nat} {sa : Option Addr} {len cap : Nat} {x : DataW H × List MemPlace} (h : DataW.trod enc Tryd.prog w base spare held fuel T [.slice sa len cap] = some x) (hlt : ∀ y ∈ x.2, y.block < w.heap.size) :
    ∃ l : List α, Rx k C w (.slice sa len cap) l ∧ (∀ b ∈ l, q b) ∧ (l.length = 0 ∨ ∃ elems sp, x.1 = .slice elems sp ∧ l.length = elems.length) := by
  rcases open_slice hu h with ⟨hcs, hx⟩ | ⟨a, len', cap', m, n, D, Pl, hcs, _, hl, hm, hmm, hx, hall⟩
  · simp at hcs
    obtain ⟨rfl, rfl, rfl⟩ := hcs
    exact ⟨[], ⟨.inl ⟨⟨_, _, rfl⟩, rfl⟩, _, _, _, rfl, Nat.le_refl _, by omega⟩, (fun b hb => by simp at hb), .inl rfl⟩
  · simp at hcs
    obtain ⟨rfl, rfl, rfl⟩ := hcs
    have hlm : len ≤ m := by rw [hmm]; split <;> omega
    rw [hk] at hall
    obtain ⟨L, hL, hT⟩ := choose_row (q := fun i t => w.cells? base (a.add (i * k)) k = some (C t) ∧ q t) len (fun i hi => by
      obtain ⟨cs', h1, h2⟩ := hall i (by omega)
      obtain ⟨_, hlen, _⟩ := World.cells?_some h1
      obtain ⟨t, rfl, h3⟩ := ho _ _ _ hlen h2
      exact ⟨t, h1, h3⟩)
    subst hx
    have hm' : cap ≤ 9223372036854775807 := by unfold maxLen at hm; omega
    have hok : ∀ b ∈ L, q b := fun b hb => by
      obtain ⟨i, hi, rfl⟩ := List.getElem_of_mem hb
      exact (hT i _ (List.getElem?_eq_getElem hi)).2
    refine ⟨L, ?_, hok, .inr ⟨_, _, rfl, by simp [hL]⟩⟩
    by_cases hc0 : len = 0
    · subst hc0
      exact ⟨.inl ⟨⟨_, _, rfl⟩, List.length_eq_zero_iff.1 hL⟩, _, _, _, rfl, hl, hm'⟩
    · have hcell : ∀ j t, L[j]? = some t → ∀ r v, (C t)[r]? = some v → w.cell? (a.add (j * k + r)) = some v := fun j t hj r v hv => by
        obtain ⟨_, hlen, hc⟩ := World.cells?_some (hT j t hj).1
        have hr : r < k := by
          have := (List.getElem?_eq_some_iff.1 hv).1
          rwa [hC] at this
        have := hc r hr
        rw [add_add, hv] at this
        exact this
      obtain ⟨b, off, spot⟩ := a
      have hspot : spot = none := by
        have h0 : ((C (L[0]'(by omega)))[0]?) = some ((C (L[0]'(by omega)))[0]'(by rw [hC]; exact hk0)) := List.getElem?_eq_getElem _
        simpa [Addr.add] using World.cell?_spot (hcell 0 _ (List.getElem?_eq_getElem (by omega)) 0 _ h0)
      subst hspot
      have hpos : 0 < m * k := Nat.mul_pos (by omega) hk0
      have hbW : b < w.heap.size := hlt (.cell b off) (List.mem_append_left _ (MemPlace.mem_row.2 ⟨0, by rw [hk]; exact hpos, by simp⟩))
      refine ⟨.inr ⟨b, off, cap, by rw [hL], hbW, fun j t hj r u hu => ?_⟩, _, _, _, rfl, hl, hm'⟩
      have e := hcell j t hj r u hu
      rw [add_plain] at e
      rw [Nat.add_assoc]
      exact e

theorem okWide_arr {P : Program} {r : Reach} {b0 : Nat} {t e : TypeId} {n : Nat} {v : Value} (ht : P.underlying t = some (.array n e)) (h : Value.okWide P w r b0 t v) : ∃ cs, v = .agg cs ∧ cs.size = P.cellsOf t := by
  simp only [Value.okWide, ht] at h
  obtain ⟨cs, h1, h2, _⟩ := h
  exact ⟨cs, h1, h2⟩

theorem open_idv {r : Reach} {b0 : Nat} {v : Value} {d : DataW H} {p : List MemPlace} (hv : Value.okWide Tryd.prog w r b0 32 v) (h : DataW.Trod enc Tryd.prog w base spare held 32 v d p) :
    ∃ l : List UInt8, v = idV l ∧ d = .agg (l.map (byD H)) ∧ p = [] ∧ l.length = 8 := by
  obtain ⟨cs, rfl, hsz⟩ := okWide_arr (show Tryd.prog.underlying 32 = some (.array 8 5) from by kernel_rfl) hv
  rw [ce_id] at hsz
  obtain ⟨fuel, hf⟩ := h
  obtain ⟨l, hl, hcs, hx⟩ := open_id8 (cs := cs.toList) (by simpa using hsz) hf
  obtain ⟨rfl, rfl⟩ := Prod.mk.inj hx
  refine ⟨l, ?_, rfl, rfl, hl⟩
  have : cs.toList = l.map B := hcs
  rw [idV, ← this]

theorem shut_idv {l : List UInt8} (hl : l.length = 8) : DataW.Trod enc Tryd.prog w base spare held 32 (idV l) (.agg (l.map (byD H))) [] :=
  ⟨2, trod_id hl⟩

end

end Go.Proofs.YtimdioacmojkeabDoor

namespace Go.Proofs.YtimdioacmojkeabDoor
open Go.RowKit
set_option maxRecDepth 4000

theorem Rw.rows {α : Type} {k : Nat} {R : World → α → List Value → Prop} {w : World} {a : Option Addr} {n c : Nat} {l : List α} (hk : 0 < k) (h : Rw k R w (.slice a n c) l) :
    ∃ cs : List (List Value), cs.length = l.length ∧ (∀ c ∈ cs, c.length = k) ∧ (∀ (j : Nat) t c, l[j]? = some t → cs[j]? = some c → R w t c) ∧ (a = none → l.length = 0) ∧
      ∀ W, Below w.heap.size w W → ∀ ad, a = some ad → ∀ j u, cs.flatten[j]? = some u → W.cell? (ad.add j) = some u := by
  rcases h.at_ with ⟨_, rfl⟩ | ⟨bk, o, cap, h1, h2, h3, h4⟩
  · exact ⟨[], rfl, by simp, fun j t c h => by simp at h, fun _ => rfl, fun _ _ ad _ j u hj => by simp at hj⟩
  · rw [Value.slice.injEq] at h1
    obtain ⟨rfl, rfl, rfl⟩ := h1
    obtain ⟨cs, hcl, hc⟩ := choose_row (q := fun j (c : List Value) => c.length = k ∧ (∀ t, l[j]? = some t → R w t c) ∧ ∀ r u, c[r]? = some u → w.cell? ⟨bk, o + j * k + r, none⟩ = some u) l.length (fun i hi => by
      obtain ⟨c, c1, c2, c3⟩ := h4 i l[i] (List.getElem?_eq_getElem hi)
      exact ⟨c, c1, fun t ht => by rw [List.getElem?_eq_getElem hi] at ht; cases ht; exact c2, c3⟩)
    have hlen : ∀ c ∈ cs, c.length = k := fun c hm => by
      obtain ⟨i, hi, rfl⟩ := List.getElem_of_mem hm
      exact (hc i _ (List.getElem?_eq_getElem hi)).1
    refine ⟨cs, hcl, hlen, fun j t c hj hcj => (hc j c hcj).2.1 t hj, fun e => by simp at e, fun W hW ad e j u hj => ?_⟩
    obtain rfl := Option.some.inj e
    have hjl : j < cs.length * k := by
      have := (List.getElem?_eq_some_iff.1 hj).1
      rwa [List.length_flatten, show cs.map List.length = List.replicate cs.length k from List.eq_replicate_iff.2 ⟨by simp, fun b hb => by
        obtain ⟨c, hcm, rfl⟩ := List.mem_map.1 hb
        exact hlen c hcm⟩, List.sum_replicate_nat] at this
    have hr : j % k < k := Nat.mod_lt _ hk
    have hq : j / k < cs.length := (Nat.div_lt_iff_lt_mul hk).2 hjl
    have ej : j / k * k + j % k = j := by have := Nat.div_add_mod j k; rw [Nat.mul_comm] at this; exact this
    rw [← ej, flat_get cs hlen (j / k) (j % k) cs[j / k] (List.getElem?_eq_getElem hq) hr] at hj
    have := (hc (j / k) _ (List.getElem?_eq_getElem hq)).2.2 (j % k) u hj
    rw [Nat.add_assoc, ej] at this
    rw [show ((⟨bk, o, none⟩ : Addr).add j) = ⟨bk, o + j, none⟩ from Addr.add_mid _ _ _]
    exact (Below.cell hW (p := ⟨bk, o + j, none⟩) h3).trans this

/-- cells of a node: one value each -/
theorem NdR.one {w : World} {n : Nod} {c : List Value} (h : NdR w n c) : ∀ u ∈ c, u.oneCell' = true := by
  obtain ⟨v, rfl, hr, _⟩ := h
  obtain ⟨a, cp, rfl, _⟩ := hr.slice
  intro u hu
  simp [ndC] at hu
  rcases hu with rfl | rfl | rfl | rfl | rfl | rfl | rfl <;> rfl

theorem info_ndo : (Tryd.prog.info? 29).map (fun i => (i.zero, i.size, i.bytes)) = some (some (.agg #[.string ⟨#[]⟩, .int .i64 0, .int .i64 0, .int .i64 0, .int .i64 0, .slice none 0 0, .string ⟨#[]⟩]), 7, 88) := by kernel_rfl

set_option maxHeartbeats 2000000 in
theorem clone_nodes (v : Value) (l : List Nod) (w : World) (h : Nds w v l) (hl : l.length * 88 ≤ 140737488351232) :
    Calls Tryd.prog 5 #[v] w fun e w' => ∃ v', e = .returned v' ∧ Oy 7 29 (fun _ => NdR w) w.heap.size w' v' l ∧ Below w.heap.size w w' := by
  obtain ⟨i0, hi, hz0, hz1, hz2⟩ := info_three info_ndo
  obtain ⟨a, c, rfl⟩ := h.slice
  have qn : ∀ (w : World) (a : Option Addr) (n c n' c' : Nat), (binOp .eql 22 (.slice a n c) (.slice none n' c')).run Tryd.prog w = .ok (.bool a.isNone) w := fun w a n c n' c' => Lib.run_eql_slice_nil w _ _ a n c n' c' Tryd.underlying22
  obtain ⟨cs, k1, k2, k3, hs1, hs2⟩ := h.rows (by omega)
  have K1 : Hid (cs.length = l.length) := k1
  have K2 : Hid (∀ c ∈ cs, c.length = 7) := k2
  have K3 : Hid (∀ (j : Nat) t c, l[j]? = some t → cs[j]? = some c → NdR w t c) := k3
  have k4 : ∀ u ∈ cs.flatten, u.oneCell' = true := fun u hu => by
    obtain ⟨c, hc, hu⟩ := List.mem_flatten.1 hu
    obtain ⟨j, hj, rfl⟩ := List.getElem_of_mem hc
    exact (k3 j l[j] _ (List.getElem?_eq_getElem (by omega)) (List.getElem?_eq_getElem hj)).one u hu
  have k5 : cs.flatten.length = l.length * 7 := by
    rw [List.length_flatten, show cs.map List.length = List.replicate cs.length 7 from List.eq_replicate_iff.2 ⟨by simp, fun b hb => by
      obtain ⟨c, hcm, rfl⟩ := List.mem_map.1 hb
      exact k2 c hcm⟩, List.sum_replicate_nat, k1]
  cases a with
  | none =>
    have hln : l = [] := List.length_eq_zero_iff.1 (hs1 rfl)
    subst hln
    clear hs1 hs2 h k1 k2 k3 k4 k5
    go_enter Tryd.func5, Tryd.ntmps5
    go_wp2_with fail
    go_ret
    exact ⟨.slice none 0 0, rfl, Oy.nil, Below.refl _ _⟩
  | some ad =>
    have hcell2 := hs2 (w.alloc (.cells #[] 29)) ((Below.refl w.heap.size w).alloc (Nat.le_refl _) _) ad rfl
    have hown0 : (w.alloc (.cells #[] 29)).ownsRow w.heap.size 29 7 (.slice (some ⟨w.heap.size, 0, none⟩) 0 0) 0 [] := World.ownsRow_lit w #[] 0 (Nat.le_refl _) (by unfold maxLen; omega) rfl
    clear h hs1 hs2 k1 k2 k3
    go_enter Tryd.func5, Tryd.ntmps5
    go_wp2_with (at_builtin; refine wpList_append_own _ rfl (.tmp 5) (.tmp 6) 22 rfl w.heap.size 29 i0 (.agg #[.string ⟨#[]⟩, .int .i64 0, .int .i64 0, .int .i64 0, .int .i64 0, .slice none 0 0, .string ⟨#[]⟩]) 7 88 Tryd.underlying22 hi hz0 hz1 hz2 (by kernel_rfl) (by decide) _ _ _ rfl hown0 ad l.length _ cs.flatten rfl k5 hcell2 k4 (by unfold maxLen; omega) (by omega) (by simp) ?_; intro v1 w3 o3 g3 _)
    simp only [Nat.zero_add, List.nil_append] at o3
    have HB : Hid (Below w.heap.size w w3) := ((Below.refl _ w).alloc (Nat.le_refl _) _).grown g3 (by simp) (fun k hk => by cases hk; exact Nat.le_refl _)
    have HO : Hid (Oy 7 29 (fun _ => NdR w) w.heap.size w3 v1 l) := ⟨cs, o3, K2.out, K1.out, K3.out⟩
    clear o3 g3
    go_ret
    exact ⟨v1, rfl, HO.out, HB.out⟩

end Go.Proofs.YtimdioacmojkeabDoor

namespace Go.Proofs.YtimdioacmojkeabDoor
open Go.RowKit

/-- the ID that lies behind -/
def nine : Id8 := ⟨[9, 0, 0, 0, 0, 0, 0, 0], rfl⟩

theorem id8_of : ∀ (p : List (List UInt8)), (∀ t ∈ p, t.length = 8) → ∃ L : List Id8, L.map (·.1) = p
  | [], _ => ⟨[], rfl⟩
  | t :: p, h => by
    obtain ⟨L, hL⟩ := id8_of p fun x hx => h x (List.mem_cons_of_mem _ hx)
    exact ⟨⟨t, h t List.mem_cons_self⟩ :: L, by rw [List.map_cons, hL]⟩

theorem rx_up8 {w : World} {v : Value} {L : List Id8} (hr : Rx 8 idC w v (L.map (·.1))) : Rx 8 id8C w v L := by
  refine ⟨?_, hr.room⟩
  rcases hr.at_ with ⟨h1, h0⟩ | ⟨bk, o, cp, h1, h2, h3⟩
  · exact .inl ⟨h1, List.map_eq_nil_iff.1 h0⟩
  · refine .inr ⟨bk, o, cp, by rw [h1, List.length_map], h2, fun j t hj r u hu => ?_⟩
    exact h3 j t.1 (by rw [List.getElem?_map, hj]; rfl) r u hu

/-- a node's cells: its parts ample, or as they were -/
def Amp1 (w : World) (k j : Nat) (W : World) (t : Nod) (c : List Value) : Prop :=
  (j < k ∧ t.Ok ∧ ∃ (g : Nat) (L : List Id8), c = ndC t (.slice (some ⟨g, 0, none⟩) L.length (L.length + 3)) ∧ L.map (·.1) = t.parts ∧ W.ownsRow w.heap.size 32 8 (.slice (some ⟨g, 0, none⟩) (L.length + 2) (L.length + 3)) (L.length + 2) (rowR id8C (L ++ [nine, nine]))) ∨
  (k ≤ j ∧ NdR w t c)

/-- the nodes, the first k of them with ample parts -/
structure InR (w : World) (k : Nat) (W : World) (v : Value) (l : List Nod) : Prop where
  bel : Below w.heap.size w W
  at_ : ((∃ a c, v = .slice a 0 c) ∧ l = []) ∨ ∃ G cap, v = .slice (some ⟨G, 0, none⟩) l.length cap ∧ l.length ≤ cap ∧ Room W G (cap * 7) 29 ∧ w.heap.size ≤ G ∧
    ∀ j t, l[j]? = some t → ∃ c : List Value, c.length = 7 ∧ Amp1 w k j W t c ∧ ∀ r u, c[r]? = some u → W.cell? ⟨G, j * 7 + r, none⟩ = some u

theorem InR.slice {w W : World} {k : Nat} {v : Value} {l : List Nod} (h : InR w k W v l) : ∃ a c, v = .slice a l.length c := by
  rcases h.at_ with ⟨⟨a, c, rfl⟩, rfl⟩ | ⟨G, cap, rfl, _⟩
  · exact ⟨_, _, rfl⟩
  · exact ⟨_, _, rfl⟩

theorem InR.start {w W : World} {v : Value} {l : List Nod} (h : Oy 7 29 (fun _ => NdR w) w.heap.size W v l) (hb : Below w.heap.size w W) : InR w 0 W v l := by
  refine ⟨hb, ?_⟩
  obtain ⟨cs, h1, h2, h3, h4⟩ := h
  rcases h1.2 with ⟨rfl, h0⟩ | ⟨g, cap, cur, rfl, hg, hh, hle, _⟩
  · exact .inl ⟨⟨_, _, rfl⟩, List.length_eq_zero_iff.1 h0⟩
  · refine .inr ⟨g, cap, rfl, hle, Room.of_own h1, hg, fun j t hj => ?_⟩
    have hjl := (List.getElem?_eq_some_iff.1 hj).1
    have hc : cs[j]? = some (cs[j]'(by omega)) := List.getElem?_eq_getElem (by omega)
    generalize cs[j]'(by omega) = c at hc
    have hck := h2 c (List.mem_of_getElem? hc)
    refine ⟨c, hck, .inr ⟨Nat.zero_le _, h4 j t c hj hc⟩, fun r u hu => ?_⟩
    have hr : r < 7 := by
      have := (List.getElem?_eq_some_iff.1 hu).1
      omega
    have := World.ownsRow.cells h1 (g := g) rfl (j * 7 + r) u (by rw [flat_get cs h2 j r c hc hr]; exact hu)
    rwa [show ((⟨g, 0, none⟩ : Addr).add (j * 7 + r)) = ⟨g, j * 7 + r, none⟩ from by rw [addp_at, Nat.zero_add]] at this

theorem Amp1.below {w W W' : World} {k j : Nat} {t : Nod} {c : List Value} (h : Amp1 w k j W t c) (hb : Below W.heap.size W W') : Amp1 w k j W' t c := by
  rcases h with ⟨h1, h2, g, L, h3, h4, h5⟩ | h
  · exact .inl ⟨h1, h2, g, L, h3, h4, own_stay h5 fun q cur fr hq => (hb.block q (Array.getElem?_eq_some_iff.1 hq).1).trans hq⟩
  · exact .inr h

theorem InR.below {w W W' : World} {k : Nat} {v : Value} {l : List Nod} (h : InR w k W v l) (hb : Below W.heap.size W W') : InR w k W' v l := by
  refine ⟨h.bel.trans (hb.mono h.bel.size), ?_⟩
  rcases h.at_ with h1 | ⟨G, cap, h1, h2, h3, h4, h5⟩
  · exact .inl h1
  · obtain ⟨cur, hc, _⟩ := h3.at_
    have hG : G < W.heap.size := (Array.getElem?_eq_some_iff.1 hc).1
    refine .inr ⟨G, cap, h1, h2, h3.kept (p := fun q => q < W.heap.size) (Kept.of_below_at hb fun _ q => q) hG, h4, fun j t hj => ?_⟩
    obtain ⟨c, c1, c2, c3⟩ := h5 j t hj
    exact ⟨c, c1, c2.below hb, fun r u hu => (Below.cell hb (p := ⟨G, j * 7 + r, none⟩) hG).trans (c3 r u hu)⟩

theorem Amp1.ndr {w W : World} {k j : Nat} {t : Nod} {c : List Value} (h : Amp1 w k j W t c) (hb : Below w.heap.size w W) (hz : t.parts.length * 8 ≤ 140737488351232) : NdR W t c := by
  rcases h with ⟨_, hok, g, L, rfl, hL, ho⟩ | ⟨_, h⟩
  · have hl : L.length = t.parts.length := by rw [← hL, List.length_map]
    refine ⟨_, rfl, ?_, hok⟩
    rw [← hL]
    exact rx_sub8 (amp_rx id8C_length ho (by omega))
  · exact h.below hb

theorem InR.nds {w W : World} {k : Nat} {v : Value} {l : List Nod} (h : InR w k W v l) (hz : ∀ n ∈ l, n.parts.length * 8 ≤ 140737488351232) : Nds W v l := by
  rcases h.at_ with ⟨⟨a, c, rfl⟩, rfl⟩ | ⟨G, cap, rfl, h2, h3, h4, h5⟩
  · exact Rw.nil _ _
  · obtain ⟨cur, hc, _⟩ := h3.at_
    refine ⟨.inr ⟨G, 0, cap, rfl, h2, (Array.getElem?_eq_some_iff.1 hc).1, fun j t hj => ?_⟩⟩
    obtain ⟨c, c1, c2, c3⟩ := h5 j t hj
    exact ⟨c, c1, c2.ndr h.bel (hz t (List.mem_of_getElem? hj)), fun r u hu => by rw [Nat.zero_add]; exact c3 r u hu⟩

/-- what stands at a node -/
theorem InR.get {w W : World} {k : Nat} {a : Option Addr} {n c : Nat} {l : List Nod} (h : InR w k W (.slice a n c) l) {j : Nat} {t : Nod} (hj : l[j]? = some t) :
    ∃ G cs, a = some ⟨G, 0, none⟩ ∧ l.length ≤ c ∧ G < W.heap.size ∧ w.heap.size ≤ G ∧ cs.length = 7 ∧ Amp1 w k j W t cs ∧ (∀ r u, cs[r]? = some u → W.cell? ⟨G, j * 7 + r, none⟩ = some u) ∧ W.frozen? ⟨G, j * 7 + 5, none⟩ = false := by
  rcases h.at_ with ⟨_, rfl⟩ | ⟨G, cap, e, h2, h3, h4, h5⟩
  · simp at hj
  · rw [Value.slice.injEq] at e
    obtain ⟨rfl, rfl, rfl⟩ := e
    have hjl := (List.getElem?_eq_some_iff.1 hj).1
    obtain ⟨cs, c1, c2, c3⟩ := h5 j t hj
    obtain ⟨cur, hc, _⟩ := h3.at_
    exact ⟨G, cs, rfl, h2, (Array.getElem?_eq_some_iff.1 hc).1, h4, c1, c2, c3, (h3.cell (j * 7 + 5) (by omega)).2⟩

/-- a node's parts made ample -/
theorem InR.step {w W : World} {k : Nat} {G n c : Nat} {l : List Nod} (h : InR w k W (.slice (some ⟨G, 0, none⟩) n c) l) {t : Nod} (hj : l[k]? = some t) {g : Nat} {L : List Id8} (hL : L.map (·.1) = t.parts)
    (ho : W.ownsRow w.heap.size 32 8 (.slice (some ⟨g, 0, none⟩) (L.length + 2) (L.length + 3)) (L.length + 2) (rowR id8C (L ++ [nine, nine]))) :
    InR w (k + 1) (W.setCell ⟨G, k * 7 + 5, none⟩ (.slice (some ⟨g, 0, none⟩) L.length (L.length + 3))) (.slice (some ⟨G, 0, none⟩) n c) l := by
  rcases h.at_ with ⟨_, rfl⟩ | ⟨G', cap, e, h2, h3, h4, h5⟩
  · simp at hj
  · rw [Value.slice.injEq] at e
    obtain ⟨e1, rfl, rfl⟩ := e
    cases e1
    have hjl := (List.getElem?_eq_some_iff.1 hj).1
    obtain ⟨cur, hc, _⟩ := h3.at_
    have hstay : ∀ (q : Nat) cur' fr, W.heap[q]? = some (.cells cur' 32 fr) → (W.setCell ⟨G, k * 7 + 5, none⟩ (.slice (some ⟨g, 0, none⟩) L.length (L.length + 3))).heap[q]? = some (.cells cur' 32 fr) := fun q cur' fr hq => by
      rw [Below.heap_setCell _ _ _ _ (by
        show q ≠ G
        rintro rfl
        rw [hc] at hq
        cases hq)]
      exact hq
    refine ⟨h.bel.setCell (p := ⟨G, k * 7 + 5, none⟩) h4 _, .inr ⟨G, c, rfl, h2, h3.set _ _, h4, fun j u hju => ?_⟩⟩
    obtain ⟨cs, c1, c2, c3⟩ := h5 j u hju
    by_cases e : j = k
    · subst e
      rw [hj] at hju
      cases hju
      have hok : t.Ok := by
        rcases c2 with ⟨_, hok, _⟩ | ⟨_, _, _, _, hok⟩
        · exact hok
        · exact hok
      have hcs : ∃ pv, cs = ndC t pv := by
        rcases c2 with ⟨_, _, g', L', hx, _⟩ | ⟨_, pv, hx, _⟩
        · exact ⟨_, hx⟩
        · exact ⟨_, hx⟩
      obtain ⟨pv, rfl⟩ := hcs
      refine ⟨ndC t (.slice (some ⟨g, 0, none⟩) L.length (L.length + 3)), rfl, .inl ⟨by omega, hok, g, L, rfl, hL, own_stay ho hstay⟩, fun r x hx => ?_⟩
      by_cases h5' : r = 5
      · subst h5'
        have hx' : some (Value.slice (some ⟨g, 0, none⟩) L.length (L.length + 3)) = some x := hx
        cases hx'
        exact World.cell?_setCell_same _ _ _ (c3 5 _ rfl)
      · rw [World.cell?_setCell_other _ _ _ _ (by intro q; simp only [Addr.mk.injEq] at q; omega)]
        refine c3 r x ?_
        match r, h5', hx with
        | 0, _, hx => exact hx
        | 1, _, hx => exact hx
        | 2, _, hx => exact hx
        | 3, _, hx => exact hx
        | 4, _, hx => exact hx
        | 6, _, hx => exact hx
        | r + 7, _, hx => simp [ndC] at hx
    · refine ⟨cs, c1, ?_, fun r x hx => ?_⟩
      · rcases c2 with ⟨q1, q2, g', L', q3, q4, q5⟩ | ⟨q1, q2⟩
        · exact .inl ⟨by omega, q2, g', L', q3, q4, own_stay q5 hstay⟩
        · exact .inr ⟨by omega, q2⟩
      · have hr : r < 7 := by have := (List.getElem?_eq_some_iff.1 hx).1; omega
        rw [World.cell?_setCell_other _ _ _ _ (by intro q; simp only [Addr.mk.injEq] at q; omega)]
        exact c3 r x hx

/-- a row that may be spoilt -/
def Sp (B : Nat) (W : World) (v : Value) : Prop := v = .slice none 0 0 ∨ ∃ g n c, v = .slice (some ⟨g, 0, none⟩) n c ∧ Room W g (c * 8) 32 ∧ B ≤ g ∧ c ≤ 9223372036854775807

theorem Sp.of_own {B n k : Nat} {W : World} {v : Value} {xs : List Value} (h : W.ownsRow B 32 8 v n xs) (_ : k = 0) : Sp B W v := by
  have h' := h
  rcases h.2 with ⟨rfl, _⟩ | ⟨g, cap, cur, rfl, hg, hh, hle, hz, hs, hm⟩
  · exact .inl rfl
  · refine .inr ⟨g, n, cap, rfl, Room.of_own h', hg, ?_⟩
    first | (unfold maxLen at hz; omega) | (unfold maxLen at hm; omega) | omega

theorem Room.same {W : World} {g m n : Nat} {e e' : TypeId} (h : Room W g m e) (k : Room W g n e') : m = n := by
  obtain ⟨cur, h1, h2⟩ := h.at_
  obtain ⟨cur', k1, k2⟩ := k.at_
  rw [h1] at k1
  cases k1
  omega

theorem Sp.below {B : Nat} {W W' : World} {v : Value} (h : Sp B W v) (hb : Below W.heap.size W W') : Sp B W' v := by
  rcases h with h | ⟨g, n, c, h1, h2, h3⟩
  · exact .inl h
  · obtain ⟨cur, hc, _⟩ := h2.at_
    exact .inr ⟨g, n, c, h1, h2.kept (p := fun q => q < W.heap.size) (Kept.of_below_at hb fun _ q => q) (Array.getElem?_eq_some_iff.1 hc).1, h3⟩

/-- nodes whose parts may be spoilt -/
def SpC (B : Nat) (W : World) (t : Nod) (c : List Value) : Prop := ∃ v, c = ndC t v ∧ Sp B W v

/-- what spoiling leaves -/
structure Spd (B : Nat) (W W' : World) : Prop where
  low : Below B W W'
  sp : ∀ v, Sp B W v → Sp B W' v
  row : ∀ v m, Ry 7 29 (SpC B) W v m → Ry 7 29 (SpC B) W' v m

theorem spoil_sp {B : Nat} {v : Value} (b0 b1 b2 b3 b4 b5 b6 b7 : UInt8) {W : World} (h : Sp B W v) (hB : B ≤ W.heap.size) :
    Calls Tryd.prog 10 #[v, .agg #[.int .u8 (b0.toNat : Int), .int .u8 (b1.toNat : Int), .int .u8 (b2.toNat : Int), .int .u8 (b3.toNat : Int), .int .u8 (b4.toNat : Int), .int .u8 (b5.toNat : Int), .int .u8 (b6.toNat : Int), .int .u8 (b7.toNat : Int)]] W fun e w' => e = .returned (.tuple #[]) ∧ Spd B W w' := by
  rcases h with rfl | ⟨g, n, c, rfl, hr, hg, hc⟩
  · refine (spoil_nil b0 b1 b2 b3 b4 b5 b6 b7 W).mono ?_
    rintro e w' ⟨rfl, hb⟩
    exact ⟨rfl, hb.mono hB, fun v h => h.below hb, fun v m h => h.below hb fun t c ⟨u, e, q⟩ => ⟨u, e, q.below hb⟩⟩
  · obtain ⟨cur, hcur, hcs⟩ := hr.at_
    refine (spoil_ids g n c b0 b1 b2 b3 b4 b5 b6 b7 W hr hc (Array.getElem?_eq_some_iff.1 hcur).1).mono ?_
    rintro e w' ⟨rfl, hk, hr'⟩
    have hsp : ∀ v, Sp B W v → Sp B w' v := fun v h => by
      rcases h with h | ⟨g', n', c', h1, h2, h3⟩
      · exact .inl h
      · by_cases e : g' = g
        · subst e
          refine .inr ⟨g', n', c', h1, ?_, h3⟩
          rw [h2.same hr]
          exact hr'
        · exact .inr ⟨g', n', c', h1, h2.kept hk e, h3⟩
    refine ⟨rfl, hk.below hB fun q hq => by omega, hsp, fun v m h => h.obj (fun t c' ⟨u, e, q⟩ => ⟨u, e, hsp u q⟩) fun q cur' fr hq => hk.obj ?_ hq⟩
    rintro rfl
    rw [hcur] at hq
    cases hq

theorem SpC.of_ndo {B : Nat} {W : World} {t : Nod} {c : List Value} (h : NdO B W t c) : SpC B W t c := by
  obtain ⟨v, e, ho, _⟩ := h
  exact ⟨v, e, Sp.of_own ho (k := 0) rfl⟩

end Go.Proofs.YtimdioacmojkeabDoor

namespace Go.Proofs.YtimdioacmojkeabDoor
namespace Mx

/-- the exclusive or with itself shifted down -/
def xs (k z : Nat) : Nat := z ^^^ (z >>> k)
/-- the product of 64 bits -/
def prod (a b : Nat) : Nat := a * b % 18446744073709551616
def step (x b : Nat) : Nat := xs 32 (prod (xs 29 (prod (x ^^^ b) 11400714819323198485)) 13787848793156543929)
def undo (y b : Nat) : Nat := prod (xs 29 (prod (xs 32 y) 10871156337175269513) ^^^ (prod (xs 32 y) 10871156337175269513) >>> 58) 17428512612931826493 ^^^ b

theorem xor_lt {a b : Nat} (ha : a < 18446744073709551616) (hb : b < 18446744073709551616) : a ^^^ b < 18446744073709551616 :=
  Nat.xor_lt_two_pow (n := 64) ha hb
theorem shr_lt {a : Nat} (k : Nat) (ha : a < 18446744073709551616) : a >>> k < 18446744073709551616 := by
  rw [Nat.shiftRight_eq_div_pow]
  exact Nat.lt_of_le_of_lt (Nat.div_le_self _ _) ha
theorem xs_lt {k z : Nat} (h : z < 18446744073709551616) : xs k z < 18446744073709551616 := xor_lt h (shr_lt k h)
theorem shr_zero {z k : Nat} (h : z < 18446744073709551616) (hk : 64 ≤ k) : z >>> k = 0 := by
  rw [Nat.shiftRight_eq_div_pow]
  exact Nat.div_eq_of_lt (Nat.lt_of_lt_of_le h (Nat.pow_le_pow_right (n := 2) (by omega) hk))
theorem xs_xs32 {z : Nat} (h : z < 18446744073709551616) : xs 32 (xs 32 z) = z := by
  unfold xs
  rw [Nat.shiftRight_xor_distrib, ← Nat.shiftRight_add, shr_zero (k := 32 + 32) h (by omega), Nat.xor_zero, Nat.xor_assoc, Nat.xor_self, Nat.xor_zero]
theorem xs_back29 {z : Nat} (h : z < 18446744073709551616) : xs 29 (xs 29 z) ^^^ (xs 29 z) >>> 58 = z := by
  unfold xs
  rw [Nat.shiftRight_xor_distrib, Nat.shiftRight_xor_distrib, ← Nat.shiftRight_add, ← Nat.shiftRight_add, shr_zero (k := 29 + 58) h (by omega), Nat.xor_zero]
  rw [show z ^^^ z >>> 29 ^^^ (z >>> 29 ^^^ z >>> (29 + 29)) = z ^^^ z >>> 58 from by
    rw [Nat.xor_assoc, ← Nat.xor_assoc (z >>> 29), Nat.xor_self, Nat.zero_xor]]
  rw [Nat.xor_assoc, Nat.xor_self, Nat.xor_zero]
/-- .. and the other way round -/
theorem xs_fore29 {y : Nat} (h : y < 18446744073709551616) : xs 29 (xs 29 y ^^^ y >>> 58) = y := by
  unfold xs
  rw [Nat.shiftRight_xor_distrib, Nat.shiftRight_xor_distrib, ← Nat.shiftRight_add, ← Nat.shiftRight_add, shr_zero (k := 58 + 29) h (by omega), Nat.xor_zero]
  show y ^^^ y >>> 29 ^^^ y >>> 58 ^^^ (y >>> 29 ^^^ y >>> 58) = y
  rw [Nat.xor_assoc y, Nat.xor_assoc y, Nat.xor_self, Nat.xor_zero]
theorem mul_back {a b z : Nat} (hab : a * b % 18446744073709551616 = 1) (h : z < 18446744073709551616) : z * a % 18446744073709551616 * b % 18446744073709551616 = z := by
  rw [Nat.mod_mul_mod, Nat.mul_assoc, ← Nat.mul_mod_mod, hab, Nat.mul_one, Nat.mod_eq_of_lt h]
theorem xor_back (x b : Nat) : x ^^^ b ^^^ b = x := by rw [Nat.xor_assoc, Nat.xor_self, Nat.xor_zero]
theorem mod_lt' (a : Nat) : a % 18446744073709551616 < 18446744073709551616 := Nat.mod_lt _ (by omega)
theorem prod_lt (a b : Nat) : prod a b < 18446744073709551616 := mod_lt' _
theorem step_lt (x b : Nat) : step x b < 18446744073709551616 := xs_lt (mod_lt' _)
theorem undo_step {x b : Nat} (hx : x < 18446744073709551616) (hb : b < 18446744073709551616) : undo (step x b) b = x := by
  unfold undo step prod
  rw [xs_xs32 (mod_lt' _), mul_back (by decide) (xs_lt (mod_lt' _)), xs_back29 (mod_lt' _), mul_back (by decide) (xor_lt hx hb), xor_back]
theorem step_undo {y b : Nat} (hy : y < 18446744073709551616) : step (undo y b) b = y := by
  unfold undo step prod
  rw [xor_back, mul_back (by decide) (xor_lt (xs_lt (mod_lt' _)) (shr_lt _ (mod_lt' _))), xs_fore29 (mod_lt' _), mul_back (by decide) (xs_lt hy), xs_xs32 hy]
theorem undo_lt {y b : Nat} (hb : b < 18446744073709551616) : undo y b < 18446744073709551616 := xor_lt (mod_lt' _) hb
theorem step_inj {x x' b : Nat} (hx : x < 18446744073709551616) (hx' : x' < 18446744073709551616) (hb : b < 18446744073709551616) (h : step x b = step x' b) : x = x' := by
  have := congrArg (fun y => undo y b) h
  simpa only [undo_step hx hb, undo_step hx' hb] using this
theorem step_comm (x b : Nat) : step x b = step b x := by unfold step; rw [Nat.xor_comm]
theorem step_inj_block {x b b' : Nat} (hx : x < 18446744073709551616) (hb : b < 18446744073709551616) (hb' : b' < 18446744073709551616) (h : step x b = step x b') : b = b' := by
  rw [step_comm x b, step_comm x b'] at h
  exact step_inj hb hb' hx h
end Mx
end Go.Proofs.YtimdioacmojkeabDoor

namespace Go.Proofs.YtimdioacmojkeabDoor
namespace Mx

def byteAt (l : List UInt8) (k : Nat) : Nat := (l.getD k 0).toNat
/-- the highest c bytes of block i -/
def hi (l : List UInt8) (i : Nat) : Nat → Nat
  | 0 => 0
  | c + 1 => 256 * hi l i c + byteAt l (8 * i + (7 - c))
/-- block i of a text, the lowest byte first; behind the text there are noughts -/
def blk (l : List UInt8) (i : Nat) : Nat := hi l i 8
/-- the lowest w bits -/
def cut (w y : Nat) : Nat := y % 2 ^ w
/-- behind i blocks -/
def chain (w : Nat) (l : List UInt8) : Nat → Nat
  | 0 => 0
  | i + 1 => cut w (step (chain w l i) (blk l i))
def narrow (w : Nat) (l : List UInt8) : Nat := cut w (step (chain w l ((l.length + 7) / 8)) l.length)

theorem byteAt_lt (l : List UInt8) (k : Nat) : byteAt l k < 256 := UInt8.toNat_lt _
theorem hi_lt (l : List UInt8) (i : Nat) : ∀ c, hi l i c < 256 ^ c
  | 0 => by simp [hi]
  | c + 1 => by
    have h1 := hi_lt l i c
    have h2 := byteAt_lt l (8 * i + (7 - c))
    rw [hi, Nat.pow_succ]
    omega
theorem blk_lt (l : List UInt8) (i : Nat) : blk l i < 18446744073709551616 := hi_lt l i 8
theorem cut_le (w y : Nat) : cut w y ≤ y := Nat.mod_le _ _
theorem cut_lt {w y : Nat} (h : y < 18446744073709551616) : cut w y < 18446744073709551616 := Nat.lt_of_le_of_lt (cut_le w y) h
theorem cut_64 {y : Nat} (h : y < 18446744073709551616) : cut 64 y = y := Nat.mod_eq_of_lt h
theorem chain_lt (w : Nat) (l : List UInt8) (i : Nat) : chain w l i < 18446744073709551616 := by
  cases i with
  | zero => simp [chain]
  | succ i => exact cut_lt (step_lt _ _)
theorem narrow_lt (w : Nat) (l : List UInt8) : narrow w l < 18446744073709551616 := cut_lt (step_lt _ _)
/-- noughts behind make no difference -/
theorem byteAt_pad (l : List UInt8) (n k : Nat) : byteAt (l ++ List.replicate n 0) k = byteAt l k := by
  unfold byteAt
  rw [List.getD_eq_getElem?_getD, List.getD_eq_getElem?_getD]
  by_cases h : k < l.length
  · rw [List.getElem?_append_left h]
  · rw [List.getElem?_append_right (by omega), List.getElem?_eq_none (l := l) (by omega), List.getElem?_replicate]
    split <;> rfl
theorem byteAt_drop (l : List UInt8) (m k : Nat) : byteAt (l.drop m) k = byteAt l (m + k) := by
  unfold byteAt
  rw [List.getD_eq_getElem?_getD, List.getD_eq_getElem?_getD, List.getElem?_drop]
/-- the lowest c bytes of block i -/
def lo (l : List UInt8) (i : Nat) : Nat → Nat
  | 0 => 0
  | c + 1 => lo l i c + byteAt l (8 * i + c) * 256 ^ c
theorem lo_lt (l : List UInt8) (i : Nat) : ∀ c, lo l i c < 256 ^ c
  | 0 => by simp [lo]
  | c + 1 => by
    have h1 := lo_lt l i c
    have h2 := byteAt_lt l (8 * i + c)
    have h3 : byteAt l (8 * i + c) * 256 ^ c ≤ 255 * 256 ^ c := Nat.mul_le_mul_right _ (by omega)
    rw [lo, Nat.pow_succ]
    omega
theorem lo_blk (l : List UInt8) (i : Nat) : lo l i 8 = blk l i := by
  simp only [blk, lo, hi, Nat.reducePow, Nat.reduceSub, Nat.add_zero, Nat.zero_add]
  omega
/-- one byte more, put in by 'or' -/
theorem lo_or (l : List UInt8) (i c : Nat) : lo l i c ||| byteAt l (8 * i + c) * 256 ^ c = lo l i (c + 1) := by
  have h1 : lo l i c < 2 ^ (8 * c) := by rw [Nat.pow_mul]; exact lo_lt l i c
  rw [lo, show (256 : Nat) ^ c = 2 ^ (8 * c) from by rw [Nat.pow_mul], Nat.mul_comm (byteAt _ _), Nat.or_comm, Nat.add_comm (lo l i c), Nat.two_pow_add_eq_or_of_lt h1]
/-- behind the text there is nothing more -/
theorem byteAt_past {l : List UInt8} {k : Nat} (h : l.length ≤ k) : byteAt l k = 0 := by
  unfold byteAt
  rw [List.getD_eq_getElem?_getD, List.getElem?_eq_none h]; rfl
/-- up and down again: the lowest bits -/
theorem cut_shift {w : Nat} (y : Nat) (hw : w ≤ 64) : y * 2 ^ (64 - w) % 18446744073709551616 / 2 ^ (64 - w) = cut w y := by
  have h : (18446744073709551616 : Nat) = 2 ^ w * 2 ^ (64 - w) := by rw [← Nat.pow_add, show w + (64 - w) = 64 from by omega]
  rw [h, Nat.mul_mod_mul_right, Nat.mul_div_cancel _ (Nat.two_pow_pos _), cut]
end Mx
end Go.Proofs.YtimdioacmojkeabDoor

namespace Go.Proofs.YtimdioacmojkeabDoor
open Go.RowKit

namespace Mx
/-- what goes in at step i of a text -/
def blkAt (l : List UInt8) (i : Nat) : Nat := if i < (l.length + 7) / 8 then blk l i else l.length
/-- what stands ahead of step i -/
def along (w : Nat) (l : List UInt8) : Nat → Nat
  | 0 => 0
  | i + 1 => cut w (step (along w l i) (blkAt l i))
theorem along_lt (w : Nat) (l : List UInt8) (i : Nat) : along w l i < 18446744073709551616 := by
  cases i with
  | zero => simp [along]
  | succ i => exact cut_lt (step_lt _ _)
theorem along_chain (w : Nat) (l : List UInt8) (i : Nat) (h : i ≤ (l.length + 7) / 8) : along w l i = chain w l i := by
  induction i with
  | zero => rfl
  | succ i ih => rw [along, chain, ih (by omega), blkAt, if_pos (by omega)]
theorem along_narrow (w : Nat) (l : List UInt8) : along w l ((l.length + 7) / 8 + 1) = narrow w l := by
  rw [along, narrow, along_chain w l _ (Nat.le_refl _), blkAt, if_neg (by omega)]
/-- the cells of step i -/
def tri (w : Nat) (l : List UInt8) (i : Nat) : List Value := [.int .u64 (along w l i : Nat), .int .u64 (blkAt l i : Nat), .int .u64 (along w l (i + 1) : Nat)]
/-- the cells of the first m steps -/
def tris (w : Nat) (l : List UInt8) : Nat → List Value
  | 0 => []
  | m + 1 => tris w l m ++ tri w l m
theorem byte_of_blk (l l' : List UInt8) (i : Nat) (h : blk l i = blk l' i) : ∀ j, j < 8 → byteAt l (8 * i + j) = byteAt l' (8 * i + j) := by
  have key : ∀ c, c ≤ 8 → hi l i c = hi l' i c → ∀ j, 8 - c ≤ j → j < 8 → byteAt l (8 * i + j) = byteAt l' (8 * i + j) := by
    intro c
    induction c with
    | zero => intro _ _ j h1 h2; omega
    | succ c ih =>
      intro hc he j h1 h2
      rw [hi, hi] at he
      have b1 := byteAt_lt l (8 * i + (7 - c))
      have b2 := byteAt_lt l' (8 * i + (7 - c))
      by_cases hj : j = 7 - c
      · subst hj; omega
      · exact ih (by omega) (by omega) j (by omega) h2
  intro j hj
  exact key 8 (Nat.le_refl _) h j (by omega) hj
theorem same_of_bytes (l l' : List UInt8) (hl : l.length = l'.length) (h : ∀ k, byteAt l k = byteAt l' k) : l = l' := by
  apply List.ext_getElem hl
  intro k h1 h2
  have := h k
  rw [byteAt, byteAt, List.getD_eq_getElem?_getD, List.getD_eq_getElem?_getD, List.getElem?_eq_getElem h1, List.getElem?_eq_getElem h2] at this
  exact UInt8.toNat_inj.1 this
/-- MERKLE, DAMGARD -/
theorem md (w : Nat) (a b : List UInt8) (hs : narrow w a = narrow w b) (hne : a ≠ b) :
    ∃ i j, i < (a.length + 7) / 8 + 1 ∧ j < (b.length + 7) / 8 + 1 ∧ along w a (i + 1) = along w b (j + 1) ∧ (along w a i ≠ along w b j ∨ blkAt a i ≠ blkAt b j) := by
  refine Classical.byContradiction fun hno => hne ?_
  have key : ∀ i j, i < (a.length + 7) / 8 + 1 → j < (b.length + 7) / 8 + 1 → along w a (i + 1) = along w b (j + 1) → along w a i = along w b j ∧ blkAt a i = blkAt b j := by
    intro i j hi hj he
    refine Classical.byContradiction fun hc => hno ⟨i, j, hi, hj, he, ?_⟩
    by_cases h : along w a i = along w b j
    · exact .inr fun h' => hc ⟨h, h'⟩
    · exact .inl h
  have top := key ((a.length + 7) / 8) ((b.length + 7) / 8) (by omega) (by omega) (by rw [along_narrow, along_narrow, hs])
  have hlen : a.length = b.length := by
    have := top.2
    rwa [blkAt, blkAt, if_neg (by omega), if_neg (by omega)] at this
  have down : ∀ d, d ≤ (a.length + 7) / 8 → along w a ((a.length + 7) / 8 - d) = along w b ((a.length + 7) / 8 - d) ∧ (0 < d → blkAt a ((a.length + 7) / 8 - d) = blkAt b ((a.length + 7) / 8 - d)) := by
    intro d
    induction d with
    | zero => intro _; exact ⟨by have := top.1; rw [← hlen] at this; exact this, fun h => by omega⟩
    | succ d ih =>
      intro hd
      have h1 := (ih (by omega)).1
      have h2 := key ((a.length + 7) / 8 - (d + 1)) ((a.length + 7) / 8 - (d + 1)) (by omega) (by rw [← hlen]; omega) (by rw [show (a.length + 7) / 8 - (d + 1) + 1 = (a.length + 7) / 8 - d from by omega]; exact h1)
      exact ⟨h2.1, fun _ => h2.2⟩
  apply same_of_bytes a b hlen
  intro k
  by_cases hk : k < a.length
  · have hq := (down ((a.length + 7) / 8 - k / 8) (by omega)).2 (by omega)
    rw [show (a.length + 7) / 8 - ((a.length + 7) / 8 - k / 8) = k / 8 from by omega, blkAt, blkAt, if_pos (by omega), if_pos (by rw [← hlen]; omega)] at hq
    have := byte_of_blk a b (k / 8) hq (k % 8) (by omega)
    rwa [show 8 * (k / 8) + k % 8 = k from by omega] at this
  · rw [byteAt_past (by omega), byteAt_past (by omega)]
end Mx
end Go.Proofs.YtimdioacmojkeabDoor

namespace Go.Proofs.YtimdioacmojkeabDoor
namespace Mx

theorem blk_same {l l' : List UInt8} {i : Nat} (h : ∀ j, j < 8 → byteAt l (8 * i + j) = byteAt l' (8 * i + j)) : blk l i = blk l' i := by
  have key : ∀ c, c ≤ 8 → hi l i c = hi l' i c := by
    intro c
    induction c with
    | zero => intro _; rfl
    | succ c ih => intro hc; rw [hi, hi, ih (by omega), h (7 - c) (by omega)]
  exact key 8 (Nat.le_refl _)
theorem chain_same {l l' : List UInt8} (w i : Nat) (h : ∀ j, j < i → blk l j = blk l' j) : chain w l i = chain w l' i := by
  induction i with
  | zero => rfl
  | succ i ih => rw [chain, chain, ih (fun j hj => h j (by omega)), h i (by omega)]
/-- MixApart's own: the sums are alike just if the texts are -/
theorem apart (l l' : List UInt8) (b : Nat) (hl : l.length = l'.length) (hsz : l.length < 18446744073709551616) (h : ∀ k, k / 8 ≠ b → byteAt l k = byteAt l' k) (hs : narrow 64 l = narrow 64 l') : l = l' := by
  have hblk : ∀ j, j ≠ b → blk l j = blk l' j := fun j hj => blk_same fun k hk => h _ (by omega)
  have hpre : chain 64 l b = chain 64 l' b := chain_same 64 b fun j hj => hblk j (by omega)
  rw [narrow, narrow, cut_64 (step_lt _ _), cut_64 (step_lt _ _), ← hl] at hs
  have htop := step_inj (chain_lt _ _ _) (chain_lt _ _ _) hsz hs
  have hb : blk l b = blk l' b := by
    by_cases hbn : b < (l.length + 7) / 8
    · have down : ∀ d, d + (b + 1) ≤ (l.length + 7) / 8 → chain 64 l ((l.length + 7) / 8 - d) = chain 64 l' ((l.length + 7) / 8 - d) := by
        intro d
        induction d with
        | zero => intro _; exact htop
        | succ d ih =>
          intro hd
          have h1 := ih (by omega)
          rw [show (l.length + 7) / 8 - d = (l.length + 7) / 8 - (d + 1) + 1 from by omega, chain, chain, cut_64 (step_lt _ _), cut_64 (step_lt _ _), hblk _ (by omega)] at h1
          exact step_inj (chain_lt _ _ _) (chain_lt _ _ _) (blk_lt _ _) h1
      have h1 := down ((l.length + 7) / 8 - (b + 1)) (by omega)
      rw [show (l.length + 7) / 8 - ((l.length + 7) / 8 - (b + 1)) = b + 1 from by omega, chain, chain, cut_64 (step_lt _ _), cut_64 (step_lt _ _), hpre] at h1
      exact step_inj_block (chain_lt _ _ _) (blk_lt _ _) (blk_lt _ _) h1
    · exact blk_same fun j hj => by rw [byteAt_past (by omega), byteAt_past (by omega)]
  apply same_of_bytes l l' hl
  intro k
  by_cases hk : k / 8 = b
  · have := byte_of_blk l l' b hb (k % 8) (by omega)
    rwa [show 8 * b + k % 8 = k from by omega] at this
  · exact h k hk
end Mx

theorem low8_inj {m n : Nat} (hm : m < 18446744073709551616) (hn : n < 18446744073709551616) (h : Nm.low 8 m = Nm.low 8 n) : m = n := by
  have := congrArg Nm.val h
  rw [Nm.val_low, Nm.val_low, Nat.mod_eq_of_lt (by simpa using hm), Nat.mod_eq_of_lt (by simpa using hn)] at this
  exact this
end Go.Proofs.YtimdioacmojkeabDoor

namespace Go.Proofs.YtimdioacmojkeabDoor
namespace Pk

abbrev Bs := List UInt8
/-- the eight bytes of a digest -/
def dg (s : Bs) : Bs := Nm.low 8 (Mx.narrow 64 s)
theorem dg_length (s : Bs) : (dg s).length = 8 := Nm.low_length 8 _
/-- a blob: its kind, its bytes -/
abbrev Bl := Int × Bs
/-- a row of a pack's list -/
structure En where
  id : Bs
  kind : Int
  at_ : Int
  len : Int
def kOK (k : Int) : Prop := k = 1 ∨ k = 2 ∨ k = 3
def idB (k : Int) (s : Bs) : Bs := dg (UInt8.ofNat k.toNat :: s)
def bid (b : Bl) : Bs := idB b.1 b.2
theorem bid_length (b : Bl) : (bid b).length = 8 := dg_length _
/-- what is wrong with a blob -/
def bErr (b : Bl) : Int := if b.1 = 1 ∨ b.1 = 2 ∨ b.1 = 3 then (if 4096 < b.2.length then 2 else 0) else 5
theorem bErr_ok {b : Bl} (h : bErr b = 0) : kOK b.1 ∧ b.2.length ≤ 4096 := by
  unfold bErr at h
  split at h
  · rename_i hk
    split at h
    · omega
    · exact ⟨hk, by omega⟩
  · omega
/-- what is wrong with blobs, behind those that were -/
def mErr (was : List Bl) : List Bl → Int
  | [] => 0
  | b :: r => if bErr b ≠ 0 then bErr b else if b ∈ was then 10 else if (bid b) ∈ was.map bid then 11 else mErr (was ++ [b]) r
def makeErr (l : List Bl) : Int := if 40 < l.length then 2 else mErr [] l
/-- a row of the list as bytes: the kind, the digest, how many bytes it has in the body -/
def rowB (b : Bl) (p : Bs) : Bs := UInt8.ofNat b.1.toNat :: ((bid b) ++ Nm.put p.length)
def rowsB : List Bl → List Bs → Bs
  | b :: l, p :: ps => rowB b p ++ rowsB l ps
  | _, _ => []
def listB (l : List Bl) (ps : List Bs) : Bs := Nm.put l.length ++ rowsB l ps
def two (n : Nat) : Bs := [UInt8.ofNat (n % 256), UInt8.ofNat (n / 256)]
/-- a pack but for its digest -/
def allB (l : List Bl) (ps : List Bs) : Bs := ps.flatten ++ (listB l ps ++ two (listB l ps).length)
def packB (l : List Bl) (ps : List Bs) : Bs := allB l ps ++ dg (allB l ps)

/-- the rows that are left of a list (body: how long it is; at_: where the next one begins) -/
def ents (body : Nat) : Nat → Bs → Nat → List En → List En × Int
  | 0, l, at_, out => if l ≠ [] ∨ at_ < body then ([], 4) else (out, 0)
  | m + 1, l, at_, out =>
    if l.length < 9 then ([], 3) else
    let k := (l.headD 0).toNat
    if ¬ (k = 1 ∨ k = 2 ∨ k = 3) then ([], 5) else
    let g := Nm.getN (l.drop 9)
    if g.2.2 ≠ 0 then ([], g.2.2) else
    if 4097 < g.1 then ([], 2) else
    if (l.drop 1).take 8 ∈ out.map En.id then ([], 4) else
    if body < at_ + g.1 then ([], 4) else
    ents body m (l.drop (9 + g.2.1)) (at_ + g.1) (out ++ [⟨(l.drop 1).take 8, k, at_, g.1⟩])
/-- the list, of a body that long -/
def lst (body : Nat) (l : Bs) : List En × Int :=
  let g := Nm.getN l
  if g.2.2 ≠ 0 then ([], g.2.2) else if 40 < g.1 then ([], 2) else ents body g.1 (l.drop g.2.1) 0 []
/-- how long the list says it is -/
def lenL (s : Bs) : Nat := (s.getD (s.length - 10) 0).toNat + 256 * (s.getD (s.length - 9) 0).toNat
/-- what List says -/
def ls (s : Bs) : List En × Int :=
  if s.length < 10 then ([], 3) else
  if dg (s.take (s.length - 8)) ≠ s.drop (s.length - 8) then ([], 6) else
  if s.length - 10 < lenL s then ([], 4) else
  lst (s.length - 10 - lenL s) ((s.take (s.length - 10)).drop (s.length - 10 - lenL s))
/-- what One says (op: what Open says) -/
def one (op : Bs → Bs × Int) (s : Bs) (x : En) : Bl × Int :=
  if x.at_ < 0 ∨ x.len < 0 ∨ (s.length : Int) < x.len ∨ (s.length : Int) - x.len < x.at_ then ((0, []), 1) else
  if ¬ (x.kind = 1 ∨ x.kind = 2 ∨ x.kind = 3) then ((0, []), 5) else
  let o := op ((s.drop x.at_.toNat).take x.len.toNat)
  if o.2 ≠ 0 then ((0, []), o.2) else
  if idB x.kind o.1 ≠ x.id then ((0, []), 6) else ((x.kind, o.1), 0)
/-- one by one -/
def ones (op : Bs → Bs × Int) (s : Bs) : List En → List Bl → List Bl × Int
  | [], out => (out, 0)
  | x :: r, out => if (one op s x).2 ≠ 0 then ([], (one op s x).2) else ones op s r (out ++ [(one op s x).1])
/-- what Split says -/
def split (op : Bs → Bs × Int) (s : Bs) : List Bl × Int := if (ls s).2 ≠ 0 then ([], (ls s).2) else ones op s (ls s).1 []

/-- the rows that a pack's list has -/
def entsOf : List Bl → List Bs → Nat → List En
  | b :: l, p :: ps, at_ => ⟨(bid b), b.1, at_, p.length⟩ :: entsOf l ps (at_ + p.length)
  | _, _, _ => []
theorem entsOf_length : ∀ (l : List Bl) (ps : List Bs) (n : Nat), l.length = ps.length → (entsOf l ps n).length = l.length
  | [], _, _, _ => by simp [entsOf]
  | _ :: l, [], _, h => by simp at h
  | b :: l, p :: ps, n, h => by
    simp only [entsOf, List.length_cons]
    rw [entsOf_length l ps _ (by simpa using h)]
theorem kind_byte {k : Int} (h : kOK k) : (UInt8.ofNat k.toNat).toNat = k.toNat ∧ (k.toNat = 1 ∨ k.toNat = 2 ∨ k.toNat = 3) ∧ (k.toNat : Int) = k := by
  rcases h with rfl | rfl | rfl <;> exact ⟨rfl, by decide, rfl⟩

/-- rows that are written are read -/
theorem ents_rows (body : Nat) : ∀ (l was : List Bl) (ps : List Bs) (at_ : Nat) (out : List En), l.length = ps.length → mErr was l = 0 →
    out.map En.id = was.map bid → (∀ p ∈ ps, p.length ≤ 4097) → at_ + ps.flatten.length = body →
    ents body l.length (rowsB l ps) at_ out = (out ++ entsOf l ps at_, 0)
  | [], _, ps, at_, out, hl, _, _, _, hb => by
    have : ps = [] := List.length_eq_zero_iff.1 hl.symm
    subst this
    simp only [List.length_nil, ents, rowsB, entsOf, List.append_nil]
    rw [if_neg]
    simp only [List.flatten_nil, List.length_nil] at hb
    intro h
    rcases h with h | h
    · exact h rfl
    · omega
  | _ :: _, _, [], _, _, hl, _, _, _, _ => by simp at hl
  | b :: l, was, p :: ps, at_, out, hl, he, ho, hp, hb => by
    rw [mErr] at he
    by_cases e0 : bErr b ≠ 0
    · rw [if_pos e0] at he; exact absurd he e0
    rw [if_neg e0] at he
    have e0' : bErr b = 0 := Classical.not_not.1 e0
    obtain ⟨hk, hlen⟩ := bErr_ok e0'
    by_cases e1 : b ∈ was
    · rw [if_pos e1] at he; omega
    rw [if_neg e1] at he
    by_cases e2 : (bid b) ∈ was.map bid
    · rw [if_pos e2] at he; omega
    rw [if_neg e2] at he
    obtain ⟨k0, k1, k2⟩ := kind_byte hk
    have hpl := hp p (List.mem_cons_self ..)
    have hid := bid_length b
    have hdrop9 : (rowsB (b :: l) (p :: ps)).drop 9 = Nm.put p.length ++ rowsB l ps := by
      rw [rowsB, rowB, List.cons_append, List.append_assoc, List.drop_succ_cons, List.drop_append_of_le_length (by omega), List.drop_of_length_le (by omega), List.nil_append]
    have htake : ((rowsB (b :: l) (p :: ps)).drop 1).take 8 = (bid b) := by
      rw [rowsB, rowB, List.cons_append, List.append_assoc, List.drop_succ_cons, List.drop_zero, List.take_append_of_le_length (by omega), List.take_of_length_le (by omega)]
    have hg := Nm.get_put p.length (rowsB l ps) (by omega)
    have hlong : ¬ (rowsB (b :: l) (p :: ps)).length < 9 := by
      rw [rowsB, rowB, List.cons_append, List.length_cons, List.append_assoc, List.length_append]
      omega
    have hhd : ((rowsB (b :: l) (p :: ps)).headD 0).toNat = b.1.toNat := k0
    have hdrop : (rowsB (b :: l) (p :: ps)).drop (9 + (Nm.put p.length).length) = rowsB l ps := by
      rw [← List.drop_drop, hdrop9, List.drop_append_of_le_length (Nat.le_refl _), List.drop_of_length_le (Nat.le_refl _), List.nil_append]
    have hfl : (p :: ps).flatten.length = p.length + ps.flatten.length := by simp
    rw [hfl] at hb
    rw [List.length_cons, ents, if_neg hlong]
    simp only [hhd, hdrop9, htake, hg]
    rw [if_neg (fun h => h k1), if_neg (fun h => h rfl), if_neg (by omega), if_neg (by rw [ho]; exact e2), if_neg (by omega), hdrop]
    rw [ents_rows body l (was ++ [b]) ps (at_ + p.length) _ (by simpa using hl) he (by rw [List.map_append, List.map_append, ho]; rfl) (fun q hq => hp q (List.mem_cons_of_mem _ hq)) (by omega)]
    rw [entsOf, List.append_assoc, k2]
    rfl
end Pk
end Go.Proofs.YtimdioacmojkeabDoor

namespace Go.Proofs.YtimdioacmojkeabDoor
namespace Pk

theorem two_back (n : Nat) (h : n < 65536) : (UInt8.ofNat (n % 256)).toNat + 256 * (UInt8.ofNat (n / 256)).toNat = n := by
  rw [UInt8.toNat_ofNat', UInt8.toNat_ofNat']
  omega
theorem two_length (n : Nat) : (two n).length = 2 := rfl
theorem rowB_length (b : Bl) (p : Bs) : (rowB b p).length ≤ 18 := by
  have h1 := bid_length b
  have h2 := Nm.put_length p.length
  rw [rowB, List.length_cons, List.length_append]
  omega
theorem rowsB_length : ∀ (l : List Bl) (ps : List Bs), (rowsB l ps).length ≤ 18 * l.length
  | [], _ => by simp [rowsB]
  | _ :: _, [] => by simp [rowsB]
  | b :: l, p :: ps => by
    have h1 := rowB_length b p
    have h2 := rowsB_length l ps
    rw [rowsB, List.length_append, List.length_cons]
    omega
theorem listB_length (l : List Bl) (ps : List Bs) (h : l.length ≤ 40) : (listB l ps).length ≤ 729 := by
  have h1 := rowsB_length l ps
  have h2 := Nm.put_length l.length
  rw [listB, List.length_append]
  omega
theorem packB_length (l : List Bl) (ps : List Bs) : (packB l ps).length = ps.flatten.length + (listB l ps).length + 10 := by
  rw [packB, List.length_append, dg_length, allB, List.length_append, List.length_append, two_length]
  omega
theorem flatten_le : ∀ (ps : List Bs), (∀ p ∈ ps, p.length ≤ 4097) → ps.flatten.length ≤ 4097 * ps.length
  | [], _ => by simp
  | p :: ps, h => by
    have h1 := h p (List.mem_cons_self ..)
    have h2 := flatten_le ps fun q hq => h q (List.mem_cons_of_mem _ hq)
    rw [List.flatten_cons, List.length_append, List.length_cons]
    omega

/-- what is packed is listed -/
theorem ls_pack (l : List Bl) (ps : List Bs) (hl : l.length = ps.length) (he : makeErr l = 0) (hp : ∀ p ∈ ps, p.length ≤ 4097) : ls (packB l ps) = (entsOf l ps 0, 0) := by
  unfold makeErr at he
  by_cases h40 : 40 < l.length
  · rw [if_pos h40] at he; omega
  rw [if_neg h40] at he
  have hL := listB_length l ps (by omega)
  have hN := packB_length l ps
  have hA : (allB l ps).length = ps.flatten.length + (listB l ps).length + 2 := by
    rw [allB, List.length_append, List.length_append, two_length]; omega
  have htk : (packB l ps).take ((packB l ps).length - 8) = allB l ps := by
    rw [packB, List.take_append_of_le_length (by rw [← packB]; omega), List.take_of_length_le (by rw [← packB]; omega)]
  have hdr : (packB l ps).drop ((packB l ps).length - 8) = dg (allB l ps) := by
    rw [packB, List.drop_append_of_le_length (by rw [← packB]; omega), List.drop_of_length_le (by rw [← packB]; omega), List.nil_append]
  have hform : packB l ps = (ps.flatten ++ listB l ps) ++ (two (listB l ps).length ++ dg (allB l ps)) := by
    rw [packB]
    generalize dg (allB l ps) = d
    rw [allB]; simp only [List.append_assoc]
  have hpre : (ps.flatten ++ listB l ps).length = (packB l ps).length - 10 := by rw [List.length_append]; omega
  have hb0 : (packB l ps).getD ((packB l ps).length - 10) 0 = UInt8.ofNat ((listB l ps).length % 256) := by
    rw [← hpre, hform, List.getD_eq_getElem?_getD, List.getElem?_append_right (Nat.le_refl _), Nat.sub_self]; rfl
  have hb1 : (packB l ps).getD ((packB l ps).length - 9) 0 = UInt8.ofNat ((listB l ps).length / 256) := by
    rw [show (packB l ps).length - 9 = (ps.flatten ++ listB l ps).length + 1 from by omega, hform, List.getD_eq_getElem?_getD, List.getElem?_append_right (by omega), Nat.add_sub_cancel_left]; rfl
  have hlen : lenL (packB l ps) = (listB l ps).length := by
    unfold lenL
    rw [hb0, hb1]
    exact two_back _ (by omega)
  have hmid : ((packB l ps).take ((packB l ps).length - 10)).drop ((packB l ps).length - 10 - (listB l ps).length) = listB l ps := by
    rw [← hpre, hform, List.take_append_of_le_length (Nat.le_refl _), List.take_of_length_le (Nat.le_refl _), List.length_append, Nat.add_sub_cancel, List.drop_append_of_le_length (Nat.le_refl _), List.drop_of_length_le (Nat.le_refl _), List.nil_append]
  unfold ls
  rw [if_neg (by omega), htk, hdr, if_neg (fun h => h rfl), hlen, if_neg (by omega), hmid, show (packB l ps).length - 10 - (listB l ps).length = ps.flatten.length from by omega]
  have hg := Nm.get_put l.length (rowsB l ps) (by omega)
  have hd : (listB l ps).drop (Nm.put l.length).length = rowsB l ps := by
    rw [listB, List.drop_append_of_le_length (Nat.le_refl _), List.drop_of_length_le (Nat.le_refl _), List.nil_append]
  unfold lst
  rw [show Nm.getN (listB l ps) = (l.length, (Nm.put l.length).length, 0) from hg]
  simp only [hd]
  rw [if_neg (fun h => h rfl), if_neg h40, ents_rows _ l [] ps 0 [] hl he rfl hp (by omega), List.nil_append]

/-- each blob at its place -/
theorem one_of (op : Bs → Bs × Int) (b : Bl) (p pre post : Bs) (hb : bErr b = 0) (hop : op p = (b.2, 0)) :
    one op (pre ++ (p ++ post)) ⟨bid b, b.1, (pre.length : Nat), (p.length : Nat)⟩ = (b, 0) := by
  obtain ⟨hk, _⟩ := bErr_ok hb
  have e : ((pre ++ (p ++ post)).drop pre.length).take p.length = p := by
    rw [List.drop_append_of_le_length (Nat.le_refl _), List.drop_of_length_le (Nat.le_refl _), List.nil_append, List.take_append_of_le_length (Nat.le_refl _), List.take_of_length_le (Nat.le_refl _)]
  unfold one
  rw [if_neg (by simp only [List.length_append]; omega), if_neg (fun h => h hk)]
  simp only [Int.toNat_natCast, e, hop]
  rw [if_neg (fun h => h rfl), if_neg (fun h => h rfl)]
theorem mErr_each : ∀ (l was : List Bl), mErr was l = 0 → ∀ b ∈ l, bErr b = 0
  | [], _, _, _, hb => by simp at hb
  | a :: l, was, h, b, hb => by
    rw [mErr] at h
    by_cases e0 : bErr a ≠ 0
    · rw [if_pos e0] at h; exact absurd h e0
    rw [if_neg e0] at h
    split at h
    · omega
    split at h
    · omega
    rcases List.mem_cons.1 hb with rfl | hb
    · exact Classical.not_not.1 e0
    · exact mErr_each l _ h b hb
/-- blobs and what they are pressed to -/
def Prs (op : Bs → Bs × Int) : List Bl → List Bs → Prop
  | [], [] => True
  | b :: l, p :: ps => op p = (b.2, 0) ∧ p.length ≤ 4097 ∧ Prs op l ps
  | _, _ => False
theorem Prs.length {op : Bs → Bs × Int} : ∀ {l : List Bl} {ps : List Bs}, Prs op l ps → l.length = ps.length
  | [], [], _ => rfl
  | [], _ :: _, h => h.elim
  | _ :: _, [], h => h.elim
  | _ :: l, _ :: ps, h => by rw [List.length_cons, List.length_cons, Prs.length h.2.2]
theorem Prs.le {op : Bs → Bs × Int} : ∀ {l : List Bl} {ps : List Bs}, Prs op l ps → ∀ p ∈ ps, p.length ≤ 4097
  | [], [], _, _, hp => by simp at hp
  | [], _ :: _, h, _, _ => h.elim
  | _ :: _, [], h, _, _ => h.elim
  | _ :: l, q :: ps, h, p, hp => by
    rcases List.mem_cons.1 hp with rfl | hp
    · exact h.2.1
    · exact Prs.le h.2.2 p hp
/-- every row of the list tells its blob -/
theorem one_each (op : Bs → Bs × Int) (s post : Bs) : ∀ (l : List Bl) (ps : List Bs) (pre : Bs), Prs op l ps → (∀ b ∈ l, bErr b = 0) → s = pre ++ (ps.flatten ++ post) →
    ∀ (i : Nat) (h : i < l.length), ∃ x, (entsOf l ps pre.length)[i]? = some x ∧ one op s x = (l[i], 0) ∧ x.id = bid l[i] ∧ x.kind = l[i].1
  | [], _, _, _, _, _, i, h => by simp at h
  | _ :: _, [], _, h, _, _, _, _ => h.elim
  | b :: l, p :: ps, pre, hP, hb, hs, i, h => by
    cases i with
    | zero =>
      refine ⟨_, rfl, ?_, rfl, rfl⟩
      rw [hs, List.flatten_cons, List.append_assoc]
      exact one_of op b p pre _ (hb b (List.mem_cons_self ..)) hP.1
    | succ i =>
      have := one_each op s post l ps (pre ++ p) hP.2.2 (fun a ha => hb a (List.mem_cons_of_mem _ ha)) (by rw [hs, List.flatten_cons]; simp only [List.append_assoc]) i (by simpa using h)
      rw [List.length_append] at this
      exact this
theorem ones_all (op : Bs → Bs × Int) (s post : Bs) : ∀ (l : List Bl) (ps : List Bs) (pre : Bs) (out : List Bl), Prs op l ps → (∀ b ∈ l, bErr b = 0) → s = pre ++ (ps.flatten ++ post) →
    ones op s (entsOf l ps pre.length) out = (out ++ l, 0)
  | [], [], _, out, _, _, _ => by simp [entsOf, ones]
  | [], _ :: _, _, _, h, _, _ => h.elim
  | _ :: _, [], _, _, h, _, _ => h.elim
  | b :: l, p :: ps, pre, out, hP, hb, hs => by
    have h1 : one op s ⟨bid b, b.1, (pre.length : Nat), (p.length : Nat)⟩ = (b, 0) := by
      rw [hs, List.flatten_cons, List.append_assoc]
      exact one_of op b p pre _ (hb b (List.mem_cons_self ..)) hP.1
    have h2 := ones_all op s post l ps (pre ++ p) (out ++ [b]) hP.2.2 (fun a ha => hb a (List.mem_cons_of_mem _ ha)) (by rw [hs, List.flatten_cons]; simp only [List.append_assoc])
    rw [List.length_append] at h2
    rw [entsOf, ones, h1, if_neg (fun h => h rfl), h2, List.append_assoc]
    rfl
theorem packB_form (l : List Bl) (ps : List Bs) : packB l ps = [] ++ (ps.flatten ++ (listB l ps ++ two (listB l ps).length ++ dg (allB l ps))) := by
  rw [packB]
  generalize dg (allB l ps) = d
  rw [allB, List.nil_append, List.append_assoc, List.append_assoc]
theorem makeErr_each {l : List Bl} (h : makeErr l = 0) : ∀ b ∈ l, bErr b = 0 := by
  unfold makeErr at h
  split at h
  · omega
  · exact mErr_each l [] h
/-- PackBack's own -/
theorem split_pack (op : Bs → Bs × Int) (l : List Bl) (ps : List Bs) (he : makeErr l = 0) (hP : Prs op l ps) : split op (packB l ps) = (l, 0) := by
  rw [split, ls_pack l ps hP.length he hP.le, if_neg (fun h => h rfl)]
  exact ones_all op _ _ l ps [] [] hP (makeErr_each he) (packB_form l ps)
theorem one_pack (op : Bs → Bs × Int) (l : List Bl) (ps : List Bs) (he : makeErr l = 0) (hP : Prs op l ps) (i : Nat) (h : i < l.length) :
    ∃ x, (entsOf l ps 0)[i]? = some x ∧ one op (packB l ps) x = (l[i], 0) ∧ x.id = bid l[i] ∧ x.kind = l[i].1 :=
  one_each op _ _ l ps [] hP (makeErr_each he) (packB_form l ps) i h

theorem dg_inj (s t : Bs) (h : dg s = dg t) : Mx.narrow 64 s = Mx.narrow 64 t := by
  unfold dg at h
  exact low8_inj (Mx.narrow_lt 64 s) (Mx.narrow_lt 64 t) h
theorem byte_take (u : Bs) (n j : Nat) : Mx.byteAt (u.take n) j = if j < n then (u.getD j 0).toNat else 0 := by
  unfold Mx.byteAt
  rw [List.getD_eq_getElem?_getD, List.getElem?_take]
  split
  · rw [List.getD_eq_getElem?_getD]
  · rfl
/-- texts of one length that are unlike in one byte have unlike digests -/
theorem dg_other (s t : Bs) (k n : Nat) (hl : s.length = t.length) (hsz : s.length < 18446744073709551616) (hkn : k < n) (hne : s.getD k 0 ≠ t.getD k 0) (hsame : ∀ j, j ≠ k → s.getD j 0 = t.getD j 0) : dg (s.take n) ≠ dg (t.take n) := by
  intro h
  have heq := Mx.apart (s.take n) (t.take n) (k / 8) (by rw [List.length_take, List.length_take, hl]) (by rw [List.length_take]; exact Nat.lt_of_le_of_lt (Nat.min_le_right _ _) hsz) (fun j hj => by
    rw [byte_take, byte_take, hsame j (fun e => hj (by rw [e]))]) (dg_inj _ _ h)
  have h1 := byte_take s n k
  have h2 := byte_take t n k
  rw [if_pos hkn] at h1 h2
  rw [heq] at h1
  exact hne (UInt8.toNat_inj.1 (h1.symm.trans h2))
/-- PackTells' own: of a pack in which one byte was changed nothing is told -/
theorem ls_other (s t : Bs) (k : Nat) (hl : s.length = t.length) (hsz : s.length < 18446744073709551616) (hs : (ls s).2 = 0) (hk : k < s.length) (hne : s.getD k 0 ≠ t.getD k 0) (hsame : ∀ j, j ≠ k → s.getD j 0 = t.getD j 0) : ls t = ([], 6) := by
  unfold ls at hs
  by_cases h10 : s.length < 10
  · rw [if_pos h10] at hs; simp at hs
  rw [if_neg h10] at hs
  by_cases hsum : dg (s.take (s.length - 8)) ≠ s.drop (s.length - 8)
  · rw [if_pos hsum] at hs; simp at hs
  clear hs
  have hsum := Classical.not_not.1 hsum
  unfold ls
  rw [← hl, if_neg h10, if_pos]
  intro ht
  by_cases hlt : k < s.length - 8
  · have hd : s.drop (s.length - 8) = t.drop (s.length - 8) := by
      apply List.ext_getElem?
      intro i
      rw [List.getElem?_drop, List.getElem?_drop]
      by_cases hi : s.length - 8 + i < s.length
      · have := hsame (s.length - 8 + i) (by omega)
        rw [List.getD_eq_getElem?_getD, List.getD_eq_getElem?_getD, List.getElem?_eq_getElem hi, List.getElem?_eq_getElem (by omega)] at this
        rw [List.getElem?_eq_getElem hi, List.getElem?_eq_getElem (by omega)]
        exact congrArg some this
      · rw [List.getElem?_eq_none (by omega), List.getElem?_eq_none (by omega)]
    exact dg_other s t k _ hl hsz hlt hne hsame (by rw [hsum, hd, ht])
  · have htk : s.take (s.length - 8) = t.take (s.length - 8) := by
      apply List.ext_getElem?
      intro i
      rw [List.getElem?_take, List.getElem?_take]
      by_cases hi : i < s.length - 8
      · rw [if_pos hi, if_pos hi]
        have := hsame i (by omega)
        rw [List.getD_eq_getElem?_getD, List.getD_eq_getElem?_getD, List.getElem?_eq_getElem (by omega), List.getElem?_eq_getElem (by omega)] at this
        rw [List.getElem?_eq_getElem (by omega), List.getElem?_eq_getElem (by omega)]
        exact congrArg some this
      · rw [if_neg hi, if_neg hi]
    have hd : s.drop (s.length - 8) = t.drop (s.length - 8) := by rw [← hsum, htk, ht]
    have := congrArg (fun u => u[k - (s.length - 8)]?) hd
    simp only [List.getElem?_drop] at this
    rw [show s.length - 8 + (k - (s.length - 8)) = k from by omega] at this
    apply hne
    rw [List.getD_eq_getElem?_getD, List.getD_eq_getElem?_getD, this]
theorem split_other (op : Bs → Bs × Int) (t : Bs) (h : ls t = ([], 6)) : split op t = ([], 6) := by
  rw [split, h, if_pos (by decide)]

/-- PackTrue's own: a blob that is told has the digest that it was looked for by -/
theorem one_true (op : Bs → Bs × Int) (s : Bs) (x : En) (hop : ∀ u, (op u).2 = 0 → (op u).1.length ≤ 4096) :
    ((one op s x).2 ≠ 0 → (one op s x).1 = (0, [])) ∧ ((one op s x).2 = 0 → bErr (one op s x).1 = 0 ∧ bid (one op s x).1 = x.id ∧ (one op s x).1.1 = x.kind) := by
  unfold one
  split
  · exact ⟨fun _ => rfl, fun h => by simp at h⟩
  split
  · exact ⟨fun _ => rfl, fun h => by simp at h⟩
  rename_i hk
  simp only
  split
  · rename_i h0
    exact ⟨fun _ => rfl, fun h => absurd h h0⟩
  rename_i h0
  split
  · exact ⟨fun _ => rfl, fun h => by simp at h⟩
  rename_i h1
  refine ⟨fun h => absurd rfl h, fun _ => ⟨?_, Classical.not_not.1 h1, rfl⟩⟩
  unfold bErr
  have := hop _ (Classical.not_not.1 h0)
  rw [if_pos (Classical.not_not.1 hk), if_neg (by show ¬ 4096 < (op _).1.length; omega)]
end Pk
end Go.Proofs.YtimdioacmojkeabDoor

namespace Go.Proofs.YtimdioacmojkeabDoor
open Go.RowKit

/-- a blob as it is handed in -/
structure Blb where
  kind : Int
  bytes : ByteArray

def Blb.p (b : Blb) : Pk.Bl := (b.kind, b.bytes.data.toList)

theorem Blb.p_inj {a b : Blb} (h : a.p = b.p) : a = b := by
  obtain ⟨k, ⟨⟨s⟩⟩⟩ := a
  obtain ⟨k', ⟨⟨s'⟩⟩⟩ := b
  simp only [Blb.p, Prod.mk.injEq] at h
  obtain ⟨rfl, rfl⟩ := h
  rfl

def blC (b : Blb) : List Value := [.int .i64 b.kind, .string b.bytes]

def blV (b : Blb) : Value := .agg #[.int .i64 b.kind, .string b.bytes]

theorem blC_length (b : Blb) : (blC b).length = 2 := rfl

theorem blC_one (b : Blb) : ∀ u ∈ blC b, u.oneCell' = true := by
  intro u hu
  simp [blC] at hu
  rcases hu with rfl | rfl <;> rfl

/-- a row of a pack's list as it is handed in -/
structure Ent where
  id : List UInt8
  hid : id.length = 8
  kind : Int
  at_ : Int
  len : Int

def Ent.p (e : Ent) : Pk.En := ⟨e.id, e.kind, e.at_, e.len⟩

def enC (e : Ent) : List Value := e.id.map B ++ [.int .i64 e.kind, .int .i64 e.at_, .int .i64 e.len]

def enV (e : Ent) : Value := .agg (enC e).toArray

theorem enC_length (e : Ent) : (enC e).length = 11 := by rw [enC, List.length_append, List.length_map, e.hid]; rfl

theorem enC_one (e : Ent) : ∀ u ∈ enC e, u.oneCell' = true := by
  intro u hu
  rw [enC, List.mem_append] at hu
  rcases hu with hu | hu
  · obtain ⟨b, _, rfl⟩ := List.mem_map.1 hu; rfl
  · simp only [List.mem_cons, List.not_mem_nil, or_false] at hu
    rcases hu with rfl | rfl | rfl <;> rfl

abbrev Bx := Rx 2 blC

abbrev Ex := Rx 11 enC

theorem Rx.blob {w : World} {a : Option Addr} {n c : Nat} {l : List Blb} (h : Bx w (.slice a n c) l) (j : Nat) (t : Blb) (hj : l[j]? = some t) : ∃ bk o, a = some ⟨bk, o, none⟩ ∧ bk < w.heap.size ∧
    w.cell? ⟨bk, o + j * 2, none⟩ = some (.int .i64 t.kind) ∧ w.cell? ⟨bk, o + j * 2 + 1, none⟩ = some (.string t.bytes) := by
  obtain ⟨bk, o, h1, h2, h3⟩ := h.get j t hj
  exact ⟨bk, o, h1, h2, h3 0 _ rfl, h3 1 _ rfl⟩

end Go.Proofs.YtimdioacmojkeabDoor

namespace Go.Proofs.YtimdioacmojkeabDoor
open Go.RowKit Go.ChangeShapes Go.WideShapes Go.Deep Go.Joins
set_option maxRecDepth 20000

/-- what is sure of blobs that come in -/
def BOk (l : List Blb) : Prop := ∀ b ∈ l, (Lit.int .i64 b.kind).wf = true ∧ b.bytes.size ≤ 9223372036854775807

def EOk (e : Ent) : Prop := (Lit.int .i64 e.kind).wf = true ∧ (Lit.int .i64 e.at_).wf = true ∧ (Lit.int .i64 e.len).wf = true

section
variable {H : Type} {enc : TypeId × Value → H} {w : World} {base : Nat} {spare : Nat → Bool} {held : Bool}

theorem bl_fields : ∃ f0 f1, Tryd.prog.underlying 39 = some (.struct #[f0, f1]) ∧ f0.type = 3 ∧ f0.offset = 0 ∧ f1.type = 9 ∧ f1.offset = 1 :=
  ⟨_, _, Tryd.underlying39, rfl, rfl, rfl, rfl⟩

theorem open_blob {n : Nat} {cs : List Value} {x : DataW H × List MemPlace} (hc : cs.length = 2) (h : DataW.trod enc Tryd.prog w base spare held n 39 cs = some x) : ∃ t : Blb, cs = blC t ∧ (Lit.int .i64 t.kind).wf = true ∧ t.bytes.size ≤ 9223372036854775807 := by
  obtain ⟨f0, f1, hu, t0, o0, t1, o1⟩ := bl_fields
  have k0 : Tryd.prog.cellsOf 3 = 1 := by kernel_rfl
  have k1 : Tryd.prog.cellsOf 9 = 1 := by kernel_rfl
  obtain ⟨y0, y1, m, _, _, g0, g1⟩ := trod_struct2 hu h
  match cs, hc with
  | [v0, v1], _ =>
    simp only [t0, o0, k0, t1, o1, k1] at g0 g1
    obtain ⟨a, ha, _, hw⟩ := DataW.trod_int Tryd.underlying3 g0
    obtain ⟨b, hb, _, hs⟩ := DataW.trod_string Tryd.underlying9 g1
    obtain rfl : v0 = .int .i64 a := by simpa using ha
    obtain rfl : v1 = .string b := by simpa using hb
    exact ⟨⟨a, b⟩, rfl, hw, by unfold maxLen at hs; exact hs⟩

def entD (H : Type) (e : Ent) : DataW H := .agg [.agg (e.id.map (byD H)), .lit (.int .i64 e.kind), .lit (.int .i64 e.at_), .lit (.int .i64 e.len)]

end

end Go.Proofs.YtimdioacmojkeabDoor

namespace Go.Proofs.YtimdioacmojkeabDoor
open Go.RowKit Go.WideMaps
open Go.Maps (Keyed IsMap)
set_option maxRecDepth 20000

theorem laid_out : laidOutB Tryd.prog = true := by kernel_rfl

theorem id_row : (32 : TypeId) < Tryd.prog.types.size := of_decide_eq_true (by kernel_rfl)

theorem id_under : Tryd.prog.underlying 32 = some (.array 8 5) := by kernel_rfl

theorem id_wide : (match Tryd.prog.underlying 32 with | some (.array _ _) | some (.struct _) => true | _ => false) = true := by rw [id_under]

theorem id_law : KeyLaw Tryd.prog 32 := deep_law_laid laid_out (m := 2) (by omega) id_row (by kernel_rfl) id_wide

theorem id_keyed : Keyed Tryd.prog 32 := Keyed.of_law id_law

theorem id_arr : ArrKey Tryd.prog 32 5 8 := ⟨id_under, by kernel_rfl, by kernel_rfl, ce_id⟩

theorem some_types : ∃ m, Tryd.prog.types.size = m + 1 := ⟨_, (Nat.succ_pred_eq_of_pos (Nat.lt_of_le_of_lt (Nat.zero_le _) id_row)).symm⟩

theorem key_there {x : List UInt8} (hx : x.length = 8) : ∃ l, keyOf Tryd.prog 32 (.agg (x.map B).toArray) = some l := by
  obtain ⟨ls, _, _, h⟩ := open_arr (H := Unit) (enc := fun _ => ()) (W := World.settled Tryd.prog default) (base := 0) (sp := fun _ => true) (held := true) id_arr Tryd.underlying5 some_types (xs := (x.map B).toArray) (by simp [hx]) ⟨2, by
    have := trod_id (H := Unit) (enc := fun _ => ()) (w := World.settled Tryd.prog default) (base := 0) (spare := fun _ => true) (held := true) hx
    simpa [Value.cells] using this⟩
  exact ⟨_, h⟩

def kl (P : Program) (x : List UInt8) : Lit := (keyOf P 32 (.agg (x.map B).toArray)).getD (.bool false)

theorem kl_key {x : List UInt8} (hx : x.length = 8) : keyOf Tryd.prog 32 (.agg (x.map B).toArray) = some (kl Tryd.prog x) := by
  obtain ⟨l, h⟩ := key_there hx
  rw [kl, h]; rfl

theorem B_inj {a b : UInt8} (h : B a = B b) : a = b := by
  simp only [B, Value.int.injEq, true_and] at h
  exact UInt8.toNat_inj.1 (by exact_mod_cast h)

theorem idV_inj {x y : List UInt8} (h : (Value.agg (x.map B).toArray) = .agg (y.map B).toArray) : x = y := by
  have h := congrArg Array.toList (Value.agg.inj h)
  have h : x.map B = y.map B := h
  exact (List.map_inj_right fun _ _ => B_inj).1 h

theorem kl_inj {x y : List UInt8} (hx : x.length = 8) (hy : y.length = 8) (h : kl Tryd.prog x = kl Tryd.prog y) : x = y := by
  have h1 := kl_key hx
  have h2 := kl_key hy
  rw [h] at h1
  exact idV_inj (id_keyed.inj h1 h2)

/-- an element as it is -/
def heldE (v : Value) : Option (DataW Value × List MemPlace) := some (.held v, [])

theorem heldE_inv {v z : Value} {ps : List MemPlace} (h : heldE v = some (.held z, ps)) : v = z := by
  simp only [heldE, Option.some.injEq, Prod.mk.injEq, DataW.held.injEq] at h
  exact h.1

/-- block b is a map of at most n entries: these keys and what stands at them -/
def Mp (w : World) (b n : Nat) (l : List (List UInt8 × Value)) : Prop :=
  ∃ D, w.ownsMap Tryd.prog 32 heldE b n D ∧ (∀ x, x.length = 8 → x ∉ l.map (·.1) → Maps.has D (kl Tryd.prog x) = false) ∧ ∀ p ∈ l, p.1.length = 8 ∧ Maps.has D (kl Tryd.prog p.1) = true ∧ ∀ z, D.atKey (kl Tryd.prog p.1) z = .held p.2

theorem Mp.new (w : World) : Mp (w.alloc (.map #[] 0)) w.heap.size 0 [] :=
  ⟨_, World.ownsMap_made w Tryd.prog 32 heldE, fun _ _ _ => rfl, fun p hp => by simp at hp⟩

theorem Mp.lt {w : World} {b n : Nat} {l : List (List UInt8 × Value)} (h : Mp w b n l) : b < w.heap.size := by
  obtain ⟨D, h, _⟩ := h
  exact h.lt

theorem Mp.kept {p : Nat → Prop} {w w' : World} {b n : Nat} {l : List (List UInt8 × Value)} (h : Mp w b n l) (hk : Kept p w w') (hp : p b) : Mp w' b n l := by
  obtain ⟨D, h, h2⟩ := h
  have hlt := h.lt
  obtain ⟨es, clock, hb, F, hs, hD⟩ := h
  exact ⟨D, ⟨es, clock, (hk.block b hlt hp).trans hb, F, hs, hD⟩, h2⟩

theorem Mp.below {w w' : World} {b n : Nat} {l : List (List UInt8 × Value)} (h : Mp w b n l) (hb : Below w.heap.size w w') : Mp w' b n l := h.kept (Kept.of_below (p := fun _ => True) hb) trivial

theorem Mp.miss {w : World} {b n : Nat} {l : List (List UInt8 × Value)} (h : Mp w b n l) {t e : TypeId} (ht : Tryd.prog.underlying t = some (.map 32 e)) {z : Value} (hz : (zeroValue e).run Tryd.prog w = .ok z w) {x : List UInt8} (hx : x.length = 8) (hn : x ∉ l.map (·.1)) :
    (Instr.lookup t (.map (some b)) (.agg (x.map B).toArray) true).run Tryd.prog w = .ok (.tuple #[z, .bool false]) w := by
  obtain ⟨D, h, h1, h2⟩ := h
  obtain ⟨v, ps, hr, hv⟩ := h.look_ok id_keyed ht hz (zd := .held z) (zp := []) rfl (kl_key hx)
  rw [h1 x hx hn] at hr
  rw [Maps.atKey_of_not_has (h1 x hx hn)] at hv
  rw [hr, heldE_inv hv]

theorem Mp.hit {w : World} {b n : Nat} {l : List (List UInt8 × Value)} (h : Mp w b n l) {t e : TypeId} (ht : Tryd.prog.underlying t = some (.map 32 e)) {z : Value} (hz : (zeroValue e).run Tryd.prog w = .ok z w) {p : List UInt8 × Value} (hp : p ∈ l) :
    (Instr.lookup t (.map (some b)) (.agg (p.1.map B).toArray) true).run Tryd.prog w = .ok (.tuple #[p.2, .bool true]) w := by
  obtain ⟨D, h, h1, h2⟩ := h
  obtain ⟨hx, h3, h4⟩ := h2 p hp
  obtain ⟨v, ps, hr, hv⟩ := h.look_ok id_keyed ht hz (zd := .held z) (zp := []) rfl (kl_key hx)
  rw [h3] at hr
  rw [h4] at hv
  rw [hr, heldE_inv hv]

theorem Mp.put {w : World} {b n : Nat} {l : List (List UInt8 × Value)} (h : Mp w b n l) {t e : TypeId} (ht : Tryd.prog.underlying t = some (.map 32 e)) {x : List UInt8} (hx : x.length = 8) (hn : x ∉ l.map (·.1)) (hm : n < 1000) (v : Value) :
    ∃ w', (Instr.mapUpdate t (.map (some b)) (.agg (x.map B).toArray) v).run Tryd.prog w = .ok () w' ∧ Mp w' b (n + 1) (l ++ [(x, v)]) ∧ w.grownBy w' (some b) := by
  obtain ⟨D, h, h1, h2⟩ := h
  have hI := h.isMap
  obtain ⟨w', hr, ho, hg⟩ := h.update id_keyed ht (by unfold maxLen; omega) (d := .held v) (ps := []) (kl_key hx) rfl
  refine ⟨w', hr, ⟨_, ho, fun y hy hny => ?_, fun p hp => ?_⟩, hg⟩
  · rw [List.map_append, List.mem_append, not_or] at hny
    have hne : y ≠ x := fun e => hny.2 (by simp [e])
    rw [Maps.has_put_other (fun e => hne (kl_inj hy hx e))]
    exact h1 y hy hny.1
  · rcases List.mem_append.1 hp with hp | hp
    · obtain ⟨q1, q2, q3⟩ := h2 p hp
      have hne : p.1 ≠ x := fun e => hn (by rw [← e]; exact List.mem_map_of_mem hp)
      have hk : kl Tryd.prog p.1 ≠ kl Tryd.prog x := fun e => hne (kl_inj q1 hx e)
      exact ⟨q1, by rw [Maps.has_put_other hk]; exact q2, fun z => by rw [Maps.atKey_put_other hk]; exact q3 z⟩
    · obtain rfl : p = (x, v) := by simpa using hp
      exact ⟨hx, Maps.has_put_same hI (id_keyed.key (kl_key hx)) _, fun z => Maps.atKey_put_same hI (id_keyed.key (kl_key hx)) _ z⟩

end Go.Proofs.YtimdioacmojkeabDoor

namespace Go.Proofs.YtimdioacmojkeabDoor
namespace Nn

abbrev Name := List UInt8
/-- cut at each slash -/
def cut : List UInt8 → List Name
  | [] => [[]]
  | b :: l => if b = 47 then [] :: cut l else (b :: (cut l).headD []) :: (cut l).tail
theorem cut_ne (l : List UInt8) : cut l ≠ [] := by
  cases l with
  | nil => simp [cut]
  | cons b l => rw [cut]; split <;> simp
theorem cut_slash (a b : List UInt8) : cut (a ++ 47 :: b) = cut a ++ cut b := by
  induction a with
  | nil => simp [cut]
  | cons c a ih =>
    rw [List.cons_append, cut, cut, ih]
    by_cases h : c = 47
    · rw [if_pos h, if_pos h, List.cons_append]
    · rw [if_neg h, if_neg h]
      obtain ⟨x, r, e⟩ : ∃ x r, cut a = x :: r := by
        cases q : cut a with
        | nil => exact absurd q (cut_ne a)
        | cons x r => exact ⟨x, r, rfl⟩
      rw [e]
      rfl
theorem cut_plain {a : List UInt8} (h : (47 : UInt8) ∉ a) : cut a = [a] := by
  induction a with
  | nil => rfl
  | cons c a ih =>
    have h1 : c ≠ 47 := fun e => h (by rw [e]; exact List.mem_cons_self)
    rw [cut, if_neg h1, ih fun q => h (List.mem_cons_of_mem _ q)]
    rfl
/-- the names behind their slashes -/
def tails (l : List Name) : List UInt8 := l.flatMap (47 :: ·)
theorem tails_cut : ∀ (p : List UInt8), tails (cut p) = 47 :: p
  | [] => rfl
  | b :: l => by
    have ih := tails_cut l
    rw [cut]
    by_cases h : b = 47
    · rw [if_pos h, tails, List.flatMap_cons, ← tails, ih, h]; rfl
    · rw [if_neg h]
      obtain ⟨x, r, e⟩ : ∃ x r, cut l = x :: r := by
        cases q : cut l with
        | nil => exact absurd q (cut_ne l)
        | cons x r => exact ⟨x, r, rfl⟩
      rw [e] at ih ⊢
      rw [tails, List.flatMap_cons, ← tails] at ih ⊢
      have : x ++ tails r = l := by simpa using ih
      rw [← this]
      rfl
theorem cut_tails {l : List Name} (h : ∀ s ∈ l, (47 : UInt8) ∉ s) : cut (tails l) = [] :: l := by
  induction l with
  | nil => rfl
  | cons s l ih =>
    have h1 := h s List.mem_cons_self
    have h2 := ih fun x hx => h x (List.mem_cons_of_mem _ hx)
    cases l with
    | nil =>
      show cut (47 :: (s ++ [])) = _
      rw [List.append_nil, cut, if_pos rfl, cut_plain h1]
    | cons t l =>
      have e : tails (s :: t :: l) = 47 :: (s ++ tails (t :: l)) := rfl
      have e2 : tails (t :: l) = 47 :: (t ++ tails l) := rfl
      rw [e, e2, cut, if_pos rfl, cut_slash, cut_plain h1]
      rw [e2, cut, if_pos rfl] at h2
      rw [(List.cons.inj h2).2]
      rfl
/-- the first error of names, behind i others -/
def errsF : Nat → List Name → Int
  | _, [] => 0
  | i, s :: l => if 8 ≤ i then 14 else if nm s ≠ 0 then nm s else errsF (i + 1) l
def errs (l : List Name) : Int := errsF 0 l
theorem errsF_ok : ∀ (l : List Name) (i : Nat), errsF i l = 0 → ∀ s ∈ l, nm s = 0
  | [], _, _, s, h => by simp at h
  | t :: l, i, h, s, hs => by
    rw [errsF] at h
    split at h
    · simp at h
    · split at h
      · rename_i q; exact absurd h q
      · rename_i q
        rcases List.mem_cons.1 hs with e | e
        · rw [e]; simpa using q
        · exact errsF_ok l (i + 1) h s e
theorem errs_ok {l : List Name} (h : errs l = 0) : ∀ s ∈ l, nm s = 0 := errsF_ok l 0 h
/-- P37 -/
def joinB (l : List Name) : List UInt8 := if l = [] then [47] else tails l
def join (l : List Name) : List UInt8 × Int := if errs l ≠ 0 then ([], errs l) else (joinB l, 0)
def split (p : List UInt8) : List Name × Int :=
  if p.head? ≠ some 47 then ([], 8) else if p = [47] then ([], 0) else if errs (cut p.tail) ≠ 0 then ([], errs (cut p.tail)) else (cut p.tail, 0)
theorem split_join {p : List UInt8} {m : List Name} (h : split p = (m, 0)) : join m = (p, 0) := by
  unfold split at h
  split at h
  · cases h
  rename_i q
  simp only [ne_eq, Classical.not_not] at q
  split at h
  · rename_i e
    obtain ⟨rfl, _⟩ := Prod.mk.inj h
    rw [e]; rfl
  rename_i e
  split at h
  · rename_i f
    obtain ⟨_, h2⟩ := Prod.mk.inj h
    exact absurd h2 f
  rename_i f
  obtain ⟨rfl, _⟩ := Prod.mk.inj h
  have f' : errs (cut p.tail) = 0 := by simpa using f
  unfold join
  rw [if_neg (by rw [f']; simp), joinB, if_neg (cut_ne _), tails_cut]
  congr 1
  cases p with
  | nil => simp at q
  | cons b r =>
    obtain rfl : b = 47 := by simpa using q
    rfl
theorem noslash {l : List Name} (h : errs l = 0) : ∀ s ∈ l, (47 : UInt8) ∉ s := fun s hs => (nm_ok (errs_ok h s hs)).2.2.2
theorem join_ok {l : List Name} {q : List UInt8} (h : join l = (q, 0)) : errs l = 0 ∧ q = joinB l := by
  unfold join at h
  split at h
  · rename_i e
    obtain ⟨_, h2⟩ := Prod.mk.inj h
    exact absurd h2 e
  · rename_i e
    exact ⟨by simpa using e, (Prod.mk.inj h).1.symm⟩
theorem join_bad {l : List Name} {q : List UInt8} {e : Int} (h : join l = (q, e)) (he : e ≠ 0) : q = [] := by
  unfold join at h
  split at h
  · exact (Prod.mk.inj h).1.symm
  · exact absurd (Prod.mk.inj h).2.symm he
theorem join_split {l : List Name} {q : List UInt8} (h : join l = (q, 0)) : split q = (l, 0) := by
  obtain ⟨he, rfl⟩ := join_ok h
  cases l with
  | nil => rfl
  | cons s l =>
    have hc : cut (joinB (s :: l)) = [] :: s :: l := by
      rw [joinB, if_neg (by simp)]
      exact cut_tails (noslash he)
    have e : joinB (s :: l) = 47 :: (s ++ tails l) := by rw [joinB, if_neg (by simp)]; rfl
    rw [e, cut, if_pos rfl] at hc
    have hs := (nm_ok (errs_ok he s List.mem_cons_self)).1
    unfold split
    rw [e, if_neg (by simp), if_neg (by intro q; have := (List.cons.inj q).2; exact hs (List.append_eq_nil_iff.1 this).1), List.tail_cons, (List.cons.inj hc).2, if_neg (by rw [he]; simp)]
/-- two paths of the same names are one -/
theorem split_inj {p q : List UInt8} {m : List Name} (h : split p = (m, 0)) (k : split q = (m, 0)) : p = q := by
  have := (split_join h).symm.trans (split_join k)
  exact (Prod.mk.inj this).1

/-- P38: what is kept -/
def stk : List Name → List Name → Option (List Name)
  | st, [] => some st
  | st, s :: r => if s = [46, 46] then (if st = [] then none else stk st.dropLast r) else if s = [] ∨ s = [46] then stk st r else stk (st ++ [s]) r
def clean (p : List UInt8) : List UInt8 × Int :=
  match stk [] (cut p) with
  | none => ([], 8)
  | some l => join l
theorem stk_app : ∀ (r r' st : List Name), stk st (r ++ r') = (stk st r).bind fun st' => stk st' r'
  | [], r', st => rfl
  | s :: r, r', st => by
    rw [List.cons_append, stk, stk]
    by_cases h : s = [46, 46]
    · rw [if_pos h, if_pos h]
      by_cases q : st = []
      · rw [if_pos q, if_pos q]; rfl
      · rw [if_neg q, if_neg q]; exact stk_app r r' _
    · rw [if_neg h, if_neg h]
      by_cases q : s = [] ∨ s = [46]
      · rw [if_pos q, if_pos q]; exact stk_app r r' st
      · rw [if_neg q, if_neg q]; exact stk_app r r' _
theorem stk_names : ∀ (l st : List Name), (∀ s ∈ l, nm s = 0) → stk st l = some (st ++ l)
  | [], st, _ => by simp [stk]
  | s :: l, st, h => by
    obtain ⟨h1, h2, h3, _⟩ := nm_ok (h s List.mem_cons_self)
    rw [stk, if_neg h3, if_neg (by simp [h1, h2]), stk_names l _ fun x hx => h x (List.mem_cons_of_mem _ hx), List.append_assoc]
    rfl
theorem clean_ok {p q : List UInt8} (h : clean p = (q, 0)) : ∃ l, stk [] (cut p) = some l ∧ errs l = 0 ∧ q = joinB l := by
  unfold clean at h
  cases hs : stk [] (cut p) with
  | none => rw [hs] at h; cases h
  | some l =>
    rw [hs] at h
    obtain ⟨h1, h2⟩ := join_ok h
    exact ⟨l, rfl, h1, h2⟩
theorem clean_bad {p q : List UInt8} {e : Int} (h : clean p = (q, e)) (he : e ≠ 0) : q = [] := by
  unfold clean at h
  split at h
  · exact (Prod.mk.inj h).1.symm
  · exact join_bad h he
theorem clean_of {p : List UInt8} {l : List Name} (hs : stk [] (cut p) = some l) (he : errs l = 0) : clean p = (joinB l, 0) := by
  unfold clean
  rw [hs]
  show join l = _
  unfold join
  rw [if_neg (by rw [he]; simp)]
/-- what is clean stays so -/
theorem clean_again {p q : List UInt8} (h : clean p = (q, 0)) : clean q = (q, 0) := by
  obtain ⟨l, _, he, rfl⟩ := clean_ok h
  refine clean_of ?_ he
  cases l with
  | nil => rfl
  | cons s l =>
    rw [joinB, if_neg (by simp), cut_tails (noslash he)]
    show stk [] ([[]] ++ (s :: l)) = _
    rw [stk_app]
    show stk [] (s :: l) = _
    rw [stk_names _ _ (errs_ok he)]
    rfl
/-- a dot, a slash more -/
theorem clean_dots {p q : List UInt8} (hp : p.head? = some 47) (h : clean p = (q, 0)) : clean ([47, 46] ++ p ++ [47, 47, 46]) = (q, 0) := by
  obtain ⟨l, hs, he, rfl⟩ := clean_ok h
  refine clean_of ?_ he
  obtain ⟨r, rfl⟩ : ∃ r, p = 47 :: r := by
    cases p with
    | nil => simp at hp
    | cons b r => obtain rfl : b = 47 := by simpa using hp
                  exact ⟨r, rfl⟩
  have e : [47, 46] ++ 47 :: r ++ [47, 47, 46] = [] ++ 47 :: ([46] ++ 47 :: (r ++ 47 :: ([] ++ 47 :: [46]))) := by simp
  rw [e, cut_slash, cut_slash, cut_slash, cut_slash, cut_plain (a := []) (by simp), cut_plain (a := [46]) (by decide)]
  have hs' : stk [] ([[]] ++ cut r) = some l := by
    rw [show 47 :: r = [] ++ 47 :: r from rfl, cut_slash] at hs
    exact hs
  rw [stk_app] at hs' ⊢
  have hs2 : stk [] (cut r) = some l := hs'
  show ((stk [] [[]]).bind fun st' => stk st' ([[46]] ++ (cut r ++ ([[]] ++ [[46]])))) = _
  show stk [] ([[46]] ++ (cut r ++ ([[]] ++ [[46]]))) = _
  rw [stk_app]
  show stk [] (cut r ++ ([[]] ++ [[46]])) = _
  rw [stk_app, hs2]
  rfl
/-- a name that is taken back -/
theorem clean_back {p q s : List UInt8} (hn : nm s = 0) (h : clean p = (q, 0)) : clean (p ++ [47] ++ s ++ [47, 46, 46]) = (q, 0) := by
  obtain ⟨l, hs, he, rfl⟩ := clean_ok h
  refine clean_of ?_ he
  obtain ⟨h1, h2, h3, h4⟩ := nm_ok hn
  have e : p ++ [47] ++ s ++ [47, 46, 46] = p ++ 47 :: (s ++ 47 :: [46, 46]) := by simp
  rw [e, cut_slash, cut_slash, cut_plain h4, cut_plain (a := [46, 46]) (by decide), stk_app, hs]
  show stk l ([s] ++ [[46, 46]]) = _
  show stk l (s :: [[46, 46]]) = _
  rw [stk, if_neg h3, if_neg (by simp [h1, h2]), stk, if_pos rfl, if_neg (by simp), List.dropLast_concat]
  rfl
end Nn
end Go.Proofs.YtimdioacmojkeabDoor

namespace Go.Proofs.YtimdioacmojkeabDoor
namespace Nn

theorem bl_nil (x : List UInt8) : Op.bytesLess x [] = false := by cases x <;> rfl
theorem bl_cons (a b : UInt8) (x y : List UInt8) : Op.bytesLess (a :: x) (b :: y) = (decide (a < b) || (a == b && Op.bytesLess x y)) := rfl
theorem bl_irr : ∀ x : List UInt8, Op.bytesLess x x = false
  | [] => rfl
  | a :: x => by
    rw [bl_cons, bl_irr x, decide_eq_false (by rw [UInt8.lt_iff_toNat_lt]; omega)]
    simp
theorem bl_tri : ∀ x y : List UInt8, x ≠ y → Op.bytesLess x y = !Op.bytesLess y x
  | [], [], h => absurd rfl h
  | [], b :: y, _ => by rw [bl_nil]; rfl
  | a :: x, [], _ => by rw [bl_nil]; rfl
  | a :: x, b :: y, h => by
    rw [bl_cons, bl_cons]
    by_cases e : a = b
    · subst e
      have hne : x ≠ y := fun q => h (by rw [q])
      rw [decide_eq_false (by rw [UInt8.lt_iff_toNat_lt]; omega), bl_tri x y hne]
      simp
    · have hn : a.toNat ≠ b.toNat := fun q => e (UInt8.toNat_inj.1 q)
      rw [show (a == b) = false from beq_eq_false_iff_ne.2 e, show (b == a) = false from beq_eq_false_iff_ne.2 (Ne.symm e)]
      simp only [Bool.false_and, Bool.or_false]
      by_cases c : a < b
      · have : ¬ b < a := by rw [UInt8.lt_iff_toNat_lt] at *; omega
        rw [decide_eq_true c, decide_eq_false this]; rfl
      · have : b < a := by rw [UInt8.lt_iff_toNat_lt] at *; omega
        rw [decide_eq_false c, decide_eq_true this]; rfl
theorem bl_trans : ∀ x y z : List UInt8, Op.bytesLess x y = true → Op.bytesLess y z = true → Op.bytesLess x z = true
  | _, [], _, h, _ => by rw [bl_nil] at h; cases h
  | _, _ :: _, [], _, h => by rw [bl_nil] at h; cases h
  | [], _ :: _, _ :: _, _, _ => rfl
  | a :: x, b :: y, c :: z, h1, h2 => by
    rw [bl_cons, Bool.or_eq_true, decide_eq_true_eq, Bool.and_eq_true, beq_iff_eq] at *
    rcases h1 with h1 | ⟨rfl, h1⟩
    · rcases h2 with h2 | ⟨rfl, _⟩
      · left; rw [UInt8.lt_iff_toNat_lt] at *; omega
      · exact .inl h1
    · rcases h2 with h2 | ⟨rfl, h2⟩
      · exact .inl h2
      · exact .inr ⟨rfl, bl_trans x y z h1 h2⟩
/-- do names come ahead of others? -/
def ahead : List Name → List Name → Bool
  | _, [] => false
  | [], _ :: _ => true
  | s :: l, t :: m => if s = t then ahead l m else Op.bytesLess s t
theorem ahead_irr : ∀ l : List Name, ahead l l = false
  | [] => rfl
  | s :: l => by rw [ahead, if_pos rfl]; exact ahead_irr l
theorem ahead_tri : ∀ l m : List Name, l ≠ m → ahead l m = !ahead m l
  | [], [], h => absurd rfl h
  | [], _ :: _, _ => rfl
  | _ :: _, [], _ => rfl
  | s :: l, t :: m, h => by
    rw [ahead, ahead]
    by_cases e : s = t
    · subst e
      rw [if_pos rfl, if_pos rfl]
      exact ahead_tri l m fun q => h (by rw [q])
    · rw [if_neg e, if_neg (Ne.symm e)]
      exact bl_tri s t e
theorem ahead_trans : ∀ l m n : List Name, ahead l m = true → ahead m n = true → ahead l n = true
  | l, [], _, h, _ => by cases l <;> cases h
  | _, m, [], _, h => by cases m <;> cases h
  | [], _ :: _, _ :: _, _, _ => rfl
  | s :: l, t :: m, u :: n, h1, h2 => by
    rw [ahead] at *
    by_cases e : s = t
    · subst e
      rw [if_pos rfl] at h1
      by_cases f : s = u
      · subst f
        rw [if_pos rfl] at h2 ⊢
        exact ahead_trans l m n h1 h2
      · rw [if_neg f] at h2 ⊢; exact h2
    · rw [if_neg e] at h1
      by_cases f : t = u
      · subst f
        rw [if_neg e]; exact h1
      · rw [if_neg f] at h2
        have h3 := bl_trans _ _ _ h1 h2
        by_cases g : s = u
        · subst g; rw [bl_irr] at h3; cases h3
        · rw [if_neg g]; exact h3
/-- a beginning comes ahead -/
theorem ahead_front : ∀ (l r : List Name), r ≠ [] → ahead l (l ++ r) = true
  | [], r, h => by
    cases r with
    | nil => exact absurd rfl h
    | cons _ _ => rfl
  | s :: l, r, h => by rw [List.cons_append, ahead, if_pos rfl]; exact ahead_front l r h
/-- between a directory and what is in it there is only what is in it -/
theorem ahead_mid : ∀ (l m r : List Name), ahead l m = true → ahead m (l ++ r) = true → ∃ r', m = l ++ r'
  | [], m, _, _, _ => ⟨m, rfl⟩
  | s :: l, [], _, h, _ => by cases h
  | s :: l, t :: m, r, h1, h2 => by
    rw [List.cons_append, ahead] at h2
    rw [ahead] at h1
    by_cases e : s = t
    · subst e
      rw [if_pos rfl] at h1 h2
      obtain ⟨r', e⟩ := ahead_mid l m r h1 h2
      exact ⟨r', by rw [e]; rfl⟩
    · rw [if_neg e] at h1
      rw [if_neg (Ne.symm e)] at h2
      rw [bl_tri s t e, h2] at h1
      cases h1
/-- P39 -/
def less (a b : List UInt8) : Bool × Int :=
  if (split a).2 ≠ 0 then (false, (split a).2) else if (split b).2 ≠ 0 then (false, (split b).2) else (ahead (split a).1 (split b).1, 0)
/-- a path of names begins with another one and a slash just if the names begin so -/
theorem tails_front {l m : List Name} (hl : ∀ s ∈ l, (47 : UInt8) ∉ s) (hm : ∀ s ∈ m, (47 : UInt8) ∉ s) : (∃ x, tails m = tails l ++ 47 :: x) ↔ ∃ r, r ≠ [] ∧ m = l ++ r := by
  constructor
  · rintro ⟨x, e⟩
    have h1 := cut_tails hm
    rw [e, cut_slash, cut_tails hl] at h1
    refine ⟨cut x, cut_ne x, ?_⟩
    exact (List.cons.inj h1).2.symm
  · rintro ⟨r, hr, rfl⟩
    cases r with
    | nil => exact absurd rfl hr
    | cons t r => exact ⟨t ++ tails r, by simp [tails]⟩
/-- is a path another one's, or in it? -/
theorem beneath_iff {p d : List UInt8} {m l : List Name} (hp : split p = (m, 0)) (hd : split d = (l, 0)) : (p = d ∨ d = [47] ∨ ∃ x, p = d ++ 47 :: x) ↔ ∃ r, m = l ++ r := by
  obtain ⟨ep, jp⟩ := join_ok (split_join hp)
  obtain ⟨ed, jd⟩ := join_ok (split_join hd)
  by_cases hl : l = []
  · subst hl
    have : d = [47] := jd
    exact ⟨fun _ => ⟨m, rfl⟩, fun _ => .inr (.inl this)⟩
  rw [joinB, if_neg hl] at jd
  constructor
  · rintro (e | e | ⟨x, e⟩)
    · refine ⟨[], ?_⟩
      rw [List.append_nil]
      subst e
      rw [hp] at hd
      exact (Prod.mk.inj hd).1
    · exfalso
      rw [e] at hd
      have : ([] : List Name) = l := (Prod.mk.inj (show (([] : List Name), (0 : Int)) = (l, 0) from hd)).1
      exact hl this.symm
    · by_cases hm : m = []
      · exfalso
        subst hm
        rw [jp, jd] at e
        have h2 := congrArg List.length e
        have hpos : 0 < (tails l).length := by
          cases l with
          | nil => exact absurd rfl hl
          | cons s l => simp [tails]
        simp [joinB] at h2
        omega
      · rw [joinB, if_neg hm] at jp
        rw [jp, jd] at e
        obtain ⟨r, _, q⟩ := (tails_front (noslash ed) (noslash ep)).1 ⟨x, e⟩
        exact ⟨r, q⟩
  · rintro ⟨r, rfl⟩
    by_cases hr : r = []
    · subst hr
      rw [List.append_nil] at hp
      exact .inl (split_inj hp hd)
    · have hm : l ++ r ≠ [] := fun q => hr (List.append_eq_nil_iff.1 q).2
      rw [joinB, if_neg hm] at jp
      obtain ⟨x, e⟩ := (tails_front (noslash ed) (noslash ep)).2 ⟨r, hr, rfl⟩
      exact .inr (.inr ⟨x, by rw [jp, jd]; exact e⟩)
end Nn
end Go.Proofs.YtimdioacmojkeabDoor

namespace Go.Proofs.YtimdioacmojkeabDoor
namespace Wk
open Nn (Name)

theorem ahead_app : ∀ (p a b : List Name), Nn.ahead (p ++ a) (p ++ b) = Nn.ahead a b
  | [], _, _ => rfl
  | s :: p, a, b => by rw [List.cons_append, List.cons_append, Nn.ahead, if_pos rfl]; exact ahead_app p a b

theorem ahead_other {s t : Name} (a b : List Name) (h : s ≠ t) : Nn.ahead (s :: a) (t :: b) = Op.bytesLess s t := by rw [Nn.ahead, if_neg h]

/-- two lists of one order with the same things are one -/
theorem sorted_eq {α : Type} {R : α → α → Prop} (hR : ∀ a b, R a b → ¬ R b a) : ∀ {x y : List α}, x.Pairwise R → y.Pairwise R → (∀ a, a ∈ x ↔ a ∈ y) → x = y
  | [], [], _, _, _ => rfl
  | [], b :: y, _, _, h => absurd ((h b).2 List.mem_cons_self) List.not_mem_nil
  | a :: x, [], _, _, h => absurd ((h a).1 List.mem_cons_self) List.not_mem_nil
  | a :: x, b :: y, hx, hy, h => by
    obtain ⟨hx1, hx2⟩ := List.pairwise_cons.1 hx
    obtain ⟨hy1, hy2⟩ := List.pairwise_cons.1 hy
    have irr : ∀ c, ¬ R c c := fun c q => hR c c q q
    have e : a = b := by
      rcases List.mem_cons.1 ((h a).1 List.mem_cons_self) with q | q
      · exact q
      · rcases List.mem_cons.1 ((h b).2 List.mem_cons_self) with r | r
        · exact r.symm
        · exact absurd (hx1 b r) (hR b a (hy1 a q))
    subst e
    congr 1
    refine sorted_eq hR hx2 hy2 fun c => ⟨fun hc => ?_, fun hc => ?_⟩
    · rcases List.mem_cons.1 ((h c).1 (List.mem_cons_of_mem _ hc)) with q | q
      · subst q; exact absurd (hx1 c hc) (irr c)
      · exact q
    · rcases List.mem_cons.1 ((h c).2 (List.mem_cons_of_mem _ hc)) with q | q
      · subst q; exact absurd (hy1 c hc) (irr c)
      · exact q

section
variable {α : Type} (pt : α → List Name) (dir : α → Bool) (W : List α)
/-- what lies in a directory, at once -/
def kids (p : List Name) : List α := W.filter fun x => decide (pt x ≠ [] ∧ (pt x).dropLast = p)

/-- all that lies in a directory, directory by directory -/
def dfs : Nat → List Name → List α
  | 0, _ => []
  | k + 1, p => (kids pt W p).flatMap fun x => x :: (if dir x then dfs k (pt x) else [])

/-- each comes behind the one ahead -/
def Sorted : Prop := W.Pairwise fun a b => Nn.ahead (pt a) (pt b) = true

/-- each lies in a directory that is there (the root is) -/
def Closed : Prop := ∀ x ∈ W, pt x ≠ [] ∧ ((pt x).dropLast = [] ∨ ∃ y ∈ W, pt y = (pt x).dropLast ∧ dir y = true)

variable {pt dir W}
theorem mem_kids {p : List Name} {x : α} : x ∈ kids pt W p ↔ x ∈ W ∧ ∃ s, pt x = p ++ [s] := by
  unfold kids
  rw [List.mem_filter, decide_eq_true_eq]
  refine and_congr_right fun _ => ⟨fun ⟨h1, h2⟩ => ⟨(pt x).getLast h1, ?_⟩, fun ⟨s, e⟩ => ?_⟩
  · rw [← h2, List.dropLast_concat_getLast]
  · rw [e]; simp

theorem asym (a b : α) (h : Nn.ahead (pt a) (pt b) = true) : ¬ Nn.ahead (pt b) (pt a) = true := fun q => by
  have := Nn.ahead_trans _ _ _ h q
  rw [Nn.ahead_irr] at this
  cases this

/-- an ancestor is there -/
theorem Closed.anc (h : Closed pt dir W) : ∀ (n : Nat) (r q : List Name) (x : α), r.length = n → x ∈ W → pt x = q ++ r → q ≠ [] → r ≠ [] → ∃ y ∈ W, pt y = q ∧ dir y = true
  | 0, r, q, x, hn, _, _, _, hr => absurd (List.length_eq_zero_iff.1 hn) hr
  | n + 1, r, q, x, hn, hx, e, hq, hr => by
    obtain ⟨_, h2⟩ := h x hx
    have hd : (pt x).dropLast = q ++ r.dropLast := by rw [e, List.dropLast_append_of_ne_nil hr]
    rcases h2 with h2 | ⟨y, hy, ey, hdir⟩
    · rw [hd] at h2
      exact absurd (List.append_eq_nil_iff.1 h2).1 hq
    · by_cases hr1 : r.dropLast = []
      · exact ⟨y, hy, by rw [ey, hd, hr1, List.append_nil], hdir⟩
      · exact Closed.anc h n r.dropLast q y (by rw [List.length_dropLast]; omega) hy (by rw [ey, hd]) hq hr1

theorem mem_dfs (hc : Closed pt dir W) : ∀ (k : Nat) (p : List Name), (∀ x ∈ W, (pt x).length ≤ p.length + k) → ∀ x, x ∈ dfs pt dir W k p ↔ x ∈ W ∧ ∃ r, r ≠ [] ∧ pt x = p ++ r
  | 0, p, hk, x => by
    refine ⟨fun h => absurd h List.not_mem_nil, fun ⟨hx, r, hr, e⟩ => ?_⟩
    have := hk x hx
    rw [e, List.length_append] at this
    exact absurd (List.length_eq_zero_iff.1 (by omega)) hr
  | k + 1, p, hk, x => by
    rw [dfs, List.mem_flatMap]
    constructor
    · rintro ⟨y, hy, hx⟩
      obtain ⟨hyW, s, es⟩ := mem_kids.1 hy
      rcases List.mem_cons.1 hx with rfl | hx
      · exact ⟨hyW, [s], by simp, es⟩
      · split at hx
        · obtain ⟨hxW, r, hr, er⟩ := (mem_dfs hc k (pt y) (fun z hz => by have := hk z hz; rw [es, List.length_append, List.length_singleton]; omega) x).1 hx
          exact ⟨hxW, s :: r, by simp, by rw [er, es, List.append_assoc]; rfl⟩
        · exact absurd hx List.not_mem_nil
    · rintro ⟨hxW, r, hr, er⟩
      cases r with
      | nil => exact absurd rfl hr
      | cons s r =>
        by_cases hr2 : r = []
        · subst hr2
          exact ⟨x, mem_kids.2 ⟨hxW, s, er⟩, List.mem_cons_self⟩
        · obtain ⟨y, hyW, ey, hdy⟩ := hc.anc r.length r (p ++ [s]) x rfl hxW (by rw [er, List.append_assoc]; rfl) (by simp) hr2
          refine ⟨y, mem_kids.2 ⟨hyW, s, ey⟩, List.mem_cons_of_mem _ ?_⟩
          rw [if_pos hdy]
          exact (mem_dfs hc k (pt y) (fun z hz => by have := hk z hz; rw [ey, List.length_append, List.length_singleton]; omega) x).2 ⟨hxW, r, hr2, by rw [er, ey, List.append_assoc]; rfl⟩

theorem kids_sorted (hs : Sorted pt W) (p : List Name) : Sorted pt (kids pt W p) := List.Pairwise.filter _ hs

theorem dfs_beneath : ∀ (k : Nat) (p : List Name) (x : α), x ∈ dfs pt dir W k p → ∃ r, r ≠ [] ∧ pt x = p ++ r
  | 0, _, _, h => absurd h List.not_mem_nil
  | k + 1, p, x, h => by
    rw [dfs, List.mem_flatMap] at h
    obtain ⟨y, hy, hx⟩ := h
    obtain ⟨_, s, es⟩ := mem_kids.1 hy
    rcases List.mem_cons.1 hx with rfl | hx
    · exact ⟨[s], by simp, es⟩
    · split at hx
      · obtain ⟨r, _, er⟩ := dfs_beneath k (pt y) x hx
        exact ⟨s :: r, by simp, by rw [er, es, List.append_assoc]; rfl⟩
      · exact absurd hx List.not_mem_nil

theorem dfs_sorted (hs : Sorted pt W) : ∀ (k : Nat) (p : List Name), Sorted pt (dfs pt dir W k p)
  | 0, _ => List.Pairwise.nil
  | k + 1, p => by
    unfold Sorted
    rw [dfs, List.pairwise_flatMap]
    refine ⟨fun x hx => ?_, ?_⟩
    · refine List.pairwise_cons.2 ⟨fun y hy => ?_, ?_⟩
      · split at hy
        · obtain ⟨r, hr, er⟩ := dfs_beneath k (pt x) y hy
          rw [er]; exact Nn.ahead_front _ _ hr
        · exact absurd hy List.not_mem_nil
      · split
        · exact dfs_sorted hs k (pt x)
        · exact List.Pairwise.nil
    · refine List.Pairwise.imp_of_mem ?_ (kids_sorted hs p)
      intro a b ha hb hab u hu v hv
      obtain ⟨_, s, es⟩ := mem_kids.1 ha
      obtain ⟨_, t, et⟩ := mem_kids.1 hb
      have hst : s ≠ t := fun q => by
        rw [es, et, q, Nn.ahead_irr] at hab
        cases hab
      have hl : Op.bytesLess s t = true := by
        rw [es, et, ahead_app, ahead_other _ _ hst] at hab
        exact hab
      have block : ∀ {c w : α}, w ∈ c :: (if dir c then dfs pt dir W k (pt c) else []) → ∃ r, pt w = pt c ++ r := fun {c w} h => by
        rcases List.mem_cons.1 h with rfl | h
        · exact ⟨[], by simp⟩
        · split at h
          · obtain ⟨r, _, er⟩ := dfs_beneath k (pt c) w h
            exact ⟨r, er⟩
          · exact absurd h List.not_mem_nil
      obtain ⟨ru, eu⟩ := block hu
      obtain ⟨rv, ev⟩ := block hv
      rw [eu, ev, es, et, List.append_assoc, List.append_assoc, ahead_app]
      show Nn.ahead (s :: ru) (t :: rv) = true
      rw [ahead_other _ _ hst]
      exact hl

/-- directory by directory all are told, in their order -/
theorem dfs_all (hs : Sorted pt W) (hc : Closed pt dir W) (k : Nat) (hk : ∀ x ∈ W, (pt x).length ≤ k) : dfs pt dir W k [] = W := by
  refine sorted_eq (R := fun a b => Nn.ahead (pt a) (pt b) = true) asym (dfs_sorted hs k []) hs fun x => ?_
  rw [mem_dfs hc k [] (fun z hz => by have := hk z hz; simpa using this)]
  exact ⟨fun h => h.1, fun h => ⟨h, pt x, (hc x h).1, by simp⟩⟩

end

end Wk

end Go.Proofs.YtimdioacmojkeabDoor

namespace Go.Proofs.YtimdioacmojkeabDoor
namespace Wk
open Nn (Name)

abbrev Bs := List UInt8

structure It where
  path : Bs
  kind : Int
  mode : Int
  time : Int
  bytes : Bs

def It.nms (x : It) : List Name := (Nn.split x.path).1

def It.dir (x : It) : Bool := decide (x.kind = 2)

/-- the error of one item -/
def iErr (x : It) : Int :=
  if (Nn.split x.path).2 ≠ 0 then (Nn.split x.path).2
  else if x.nms = [] then 8
  else if x.kind ≠ 1 ∧ x.kind ≠ 2 ∧ x.kind ≠ 3 then 5
  else if x.mode < 0 ∨ 511 < x.mode then 1
  else if (x.kind = 1 ∧ 4096 < x.bytes.length) ∨ (x.kind = 2 ∧ x.bytes ≠ []) ∨ (x.kind = 3 ∧ 1024 < x.bytes.length) then 2
  else if x.kind = 3 ∧ x.bytes = [] then 4 else 0

structure Ok1 (x : It) : Prop where
  spl : (Nn.split x.path).2 = 0
  ne : x.nms ≠ []
  kind : x.kind = 1 ∨ x.kind = 2 ∨ x.kind = 3
  mode : 0 ≤ x.mode ∧ x.mode ≤ 511
  file : x.kind = 1 → x.bytes.length ≤ 4096
  nodir : x.kind = 2 → x.bytes = []
  link : x.kind = 3 → x.bytes.length ≤ 1024 ∧ x.bytes ≠ []

theorem iErr_ok {x : It} (h : iErr x = 0) : Ok1 x := by
  unfold iErr at h
  split at h
  · rename_i q; exact absurd h q
  rename_i q0
  split at h
  · cases h
  rename_i q1
  split at h
  · cases h
  rename_i q2
  split at h
  · cases h
  rename_i q3
  split at h
  · cases h
  rename_i q4
  split at h
  · cases h
  rename_i q5
  refine ⟨Decidable.not_not.mp q0, q1, by omega, by omega, fun k => ?_, fun k => ?_, fun k => ⟨?_, fun e => q5 ⟨k, e⟩⟩⟩
  · exact Nat.le_of_not_lt fun l => q4 (.inl ⟨k, l⟩)
  · exact Decidable.not_not.mp fun l => q4 (.inr (.inl ⟨k, l⟩))
  · exact Nat.le_of_not_lt fun l => q4 (.inr (.inr ⟨k, l⟩))

/-- the path of the directory it lies in -/
def up (x : It) : Bs := Nn.joinB x.nms.dropLast

/-- does it not come behind the one ahead? -/
def late (done : List It) (x : It) : Bool := match done.getLast? with | none => false | some y => !(Nn.less y.path x.path).1

/-- is its directory there? -/
def lies (done : List It) (x : It) : Bool := decide (up x = [47]) || done.any fun y => decide (y.path = up x) && y.dir

def wErrF : List It → List It → Int
  | _, [] => 0
  | done, x :: r => if iErr x ≠ 0 then iErr x else if late done x = true then 4 else if lies done x = false then 9 else wErrF (done ++ [x]) r

/-- P46 -/
def world (w : List It) : Int := if 100 < w.length then 2 else wErrF [] w

theorem split_eq {x : It} (h : Ok1 x) : Nn.split x.path = (x.nms, 0) := Prod.ext rfl h.spl

theorem errs_nms {x : It} (h : Ok1 x) : Nn.errs x.nms = 0 := (Nn.join_ok (Nn.split_join (split_eq h))).1

theorem path_eq {x : It} (h : Ok1 x) : x.path = Nn.joinB x.nms := (Nn.join_ok (Nn.split_join (split_eq h))).2

theorem errsF_front : ∀ (l r : List Name) (i : Nat), Nn.errsF i (l ++ r) = 0 → Nn.errsF i l = 0
  | [], _, _, _ => rfl
  | s :: l, r, i, h => by
    rw [List.cons_append, Nn.errsF] at h
    rw [Nn.errsF]
    split at h
    · rename_i q; rw [if_pos q]; exact h
    · rename_i q
      rw [if_neg q]
      split at h
      · rename_i p; rw [if_pos p]; exact h
      · rename_i p
        rw [if_neg p]
        exact errsF_front l r (i + 1) h

theorem errs_up {x : It} (h : Ok1 x) : Nn.errs x.nms.dropLast = 0 := by
  have := errs_nms h
  rw [← List.dropLast_concat_getLast h.ne] at this
  exact errsF_front _ _ 0 this

theorem joinB_root {l : List Name} (h : Nn.errs l = 0) (e : Nn.joinB l = [47]) : l = [] := by
  have hs : Nn.split (Nn.joinB l) = (l, 0) := Nn.join_split (by unfold Nn.join; rw [if_neg (by simpa using h)])
  rw [e] at hs
  have : Nn.split [47] = ([], 0) := rfl
  rw [this] at hs
  exact (congrArg Prod.fst hs).symm

theorem split_joinB {l : List Name} (h : Nn.errs l = 0) : Nn.split (Nn.joinB l) = (l, 0) := Nn.join_split (by unfold Nn.join; rw [if_neg (by simpa using h)])

/-- what a right world is -/
structure Right (w : List It) : Prop where
  each : ∀ x ∈ w, iErr x = 0
  sorted : Sorted It.nms w
  closed : Closed It.nms It.dir w

theorem right_more : ∀ (r done : List It), Right done → wErrF done r = 0 → Right (done ++ r)
  | [], done, h, _ => by rw [List.append_nil]; exact h
  | x :: r, done, h, he => by
    rw [wErrF] at he
    split at he
    · rename_i q; exact absurd he q
    rename_i q0
    split at he
    · cases he
    rename_i q1
    split at he
    · cases he
    rename_i q2
    have hx := iErr_ok (Decidable.not_not.mp q0)
    have hlast : ∀ y ∈ done, Nn.ahead y.nms x.nms = true := by
      cases hd : done.getLast? with
      | none =>
        rw [List.getLast?_eq_none_iff.1 hd]
        exact fun y hy => absurd hy List.not_mem_nil
      | some z =>
        have hz : Nn.ahead z.nms x.nms = true := by
          have hzl : z ∈ done := List.mem_of_getLast? hd
          have hzo := iErr_ok (h.each z hzl)
          rw [late, hd] at q1
          have q1 : (Nn.less z.path x.path).1 = true := by simpa using q1
          rw [Nn.less, if_neg (by simpa using hzo.spl), if_neg (by simpa using hx.spl)] at q1
          exact q1
        intro y hy
        obtain ⟨pre, rfl⟩ := List.getLast?_eq_some_iff.1 hd
        rcases List.mem_append.1 hy with k | k
        · exact Nn.ahead_trans _ _ _ ((List.pairwise_append.1 h.sorted).2.2 y k z List.mem_cons_self) hz
        · rw [List.mem_singleton.1 k]; exact hz
    have h1 : Right (done ++ [x]) := by
      refine ⟨fun y hy => ?_, ?_, fun y hy => ?_⟩
      · rcases List.mem_append.1 hy with k | k
        · exact h.each y k
        · rw [List.mem_singleton.1 k]; exact Decidable.not_not.mp q0
      · unfold Sorted
        rw [List.pairwise_append]
        exact ⟨h.sorted, List.pairwise_singleton _ _, fun a ha b hb => by rw [List.mem_singleton.1 hb]; exact hlast a ha⟩
      · rcases List.mem_append.1 hy with k | k
        · obtain ⟨c1, c2⟩ := h.closed y k
          refine ⟨c1, c2.imp id fun ⟨z, hz, e⟩ => ⟨z, List.mem_append_left _ hz, e⟩⟩
        · rw [List.mem_singleton.1 k]
          refine ⟨hx.ne, ?_⟩
          have hl : lies done x = true := by simpa using q2
          rw [lies, Bool.or_eq_true, decide_eq_true_eq, List.any_eq_true] at hl
          rcases hl with hl | ⟨z, hz, e⟩
          · exact .inl (joinB_root (errs_up hx) hl)
          · rw [Bool.and_eq_true, decide_eq_true_eq] at e
            refine .inr ⟨z, List.mem_append_left _ hz, ?_, e.2⟩
            unfold It.nms
            rw [e.1, up, split_joinB (errs_up hx)]
            rfl
    have := right_more r (done ++ [x]) h1 he
    rwa [List.append_assoc] at this

theorem world_ok {w : List It} (h : world w = 0) : w.length ≤ 100 ∧ Right w := by
  unfold world at h
  split at h
  · cases h
  · exact ⟨by omega, right_more w [] ⟨fun x hx => absurd hx List.not_mem_nil, List.Pairwise.nil, fun x hx => absurd hx List.not_mem_nil⟩ h⟩

theorem errsF_few : ∀ (l : List Name) (i : Nat), Nn.errsF i l = 0 → i ≤ 8 → i + l.length ≤ 8
  | [], i, _, h => by simpa using h
  | s :: l, i, h, hi => by
    rw [Nn.errsF] at h
    split at h
    · rename_i q; first | (cases h) | exact absurd h q
    · rename_i q
      split at h
      · rename_i p; first | (cases h) | exact absurd h p
      · have := errsF_few l (i + 1) h (by omega)
        rw [List.length_cons]
        omega

/-- directory by directory all items are told, in their order -/
theorem dfs_world {w : List It} (h : world w = 0) : dfs It.nms It.dir w 8 [] = w := by
  obtain ⟨_, hr⟩ := world_ok h
  refine dfs_all hr.sorted hr.closed 8 fun x hx => ?_
  have := errsF_few _ 0 (errs_nms (iErr_ok (hr.each x hx))) (by omega)
  omega

end Wk

end Go.Proofs.YtimdioacmojkeabDoor

namespace Go.Proofs.YtimdioacmojkeabDoor
namespace Wk
open Nn (Name)
open Pk (Bl)

/-- a blob into a list, unless it is there -/
def into (l : List Bl) (b : Bl) : List Bl × Bs × Int :=
  if Pk.bErr b ≠ 0 then (l, [], Pk.bErr b) else match l.find? (fun x => Pk.bid x == Pk.bid b) with
  | none => (l ++ [b], Pk.bid b, 0)
  | some x => if x = b then (l, Pk.bid b, 0) else (l, Pk.bid b, 11)

/-- pieces into a list -/
def pieces : List Bs → List Bl → List Bl × List Bs × Int
  | [], l => (l, [], 0)
  | p :: ps, l => let r := into l (1, p); if r.2.2 ≠ 0 then ([], [], r.2.2) else
    let q := pieces ps r.1; (q.1, r.2.1 :: q.2.1, q.2.2)

/-- the node of an item -/
def node (x : It) (ids : List Bs) : Td.Nd := ⟨x.nms.getLastD [], x.kind, x.mode, x.time, if x.kind = 1 then x.bytes.length else 0, ids, if x.kind = 3 then x.bytes else []⟩

/-- what one item makes -/
def thing (cutf : Bs → List Bs) (sub : List Name → List Bl → List Bl × Bs × Int) (x : It) (l : List Bl) : List Bl × List Bs × Int :=
  if x.kind = 1 then pieces (cutf x.bytes) l else if x.kind = 2 then (let s := sub x.nms l; (s.1, [s.2.1], s.2.2)) else (l, [], 0)

def things (cutf : Bs → List Bs) (sub : List Name → List Bl → List Bl × Bs × Int) : List It → List Bl → List Bl × List Td.Nd × Int
  | [], l => (l, [], 0)
  | x :: r, l => let t := thing cutf sub x l; if t.2.2 ≠ 0 then ([], [], t.2.2) else
    let q := things cutf sub r t.1; (q.1, node x t.2.1 :: q.2.1, q.2.2)

/-- the blobs of a directory, behind others -/
def plantDir (cutf : Bs → List Bs) (w : List It) : Nat → List Name → List Bl → List Bl × Bs × Int
  | 0, _, l => (l, [], 3)
  | k + 1, p, l => let t := things cutf (plantDir cutf w k) (kids It.nms w p) l; if t.2.2 ≠ 0 then ([], [], t.2.2) else
    let s := Td.write t.2.1; if s.2 ≠ 0 then ([], [], s.2) else into t.1 (2, s.1)

/-- a blob by its ID -/
def blobOf (l : List Bl) (id : Bs) (kind : Int) : Bs × Int := match l.find? (fun b => Pk.bid b == id) with
  | none => ([], 9)
  | some b => if b.1 ≠ kind then ([], 5) else (b.2, 0)

def reapFile (l : List Bl) (size : Int) : List Bs → Bs → Bs × Int
  | [], out => if (out.length : Int) ≠ size then ([], 4) else (out, 0)
  | id :: r, out => let s := blobOf l id 1; if s.2 ≠ 0 then ([], s.2) else if size < ((out ++ s.1).length : Int) then ([], 4) else reapFile l size r (out ++ s.1)

/-- the item of a node -/
def item (path : List Name) (n : Td.Nd) (bytes : Bs) : It := ⟨Nn.joinB (path ++ [n.name]), n.kind, n.mode, n.time, bytes⟩

def reapNodes (l : List Bl) (sub : Bs → List Name → List It → List It × Int) (path : List Name) : List Td.Nd → List It → List It × Int
  | [], w => (w, 0)
  | n :: r, w =>
    if 8 ≤ path.length then ([], 14) else if 100 ≤ w.length then ([], 2) else
    let f := if n.kind = 1 then reapFile l n.size n.parts [] else (n.link, 0)
    if f.2 ≠ 0 then ([], f.2) else
    let w1 := w ++ [item path n f.1]
    let s := if n.kind = 2 then sub (n.parts.headD []) (path ++ [n.name]) w1 else (w1, 0)
    if s.2 ≠ 0 then ([], s.2) else reapNodes l sub path r s.1

def reapDir (l : List Bl) : Nat → Bs → List Name → List It → List It × Int
  | 0, _, _, _ => ([], 3)
  | k + 1, id, path, w => let s := blobOf l id 2; if s.2 ≠ 0 then ([], s.2) else
    let n := Td.read s.1; if n.2 ≠ 0 then ([], n.2) else reapNodes l (reapDir l k) path n.1 w

/-- blobs that are right, no two unlike ones with one ID -/
structure Fine (l : List Bl) : Prop where
  ok : ∀ b ∈ l, Pk.bErr b = 0
  one : ∀ a ∈ l, ∀ b ∈ l, Pk.bid a = Pk.bid b → a = b

theorem into_ok {l l' : List Bl} {b : Bl} {id : Bs} (h : into l b = (l', id, 0)) : Pk.bErr b = 0 ∧ id = Pk.bid b ∧ b ∈ l' ∧ (∀ x ∈ l, x ∈ l') ∧ (Fine l → Fine l') ∧ (l' = l ∨ l' = l ++ [b]) := by
  unfold into at h
  split at h
  · rename_i q; exact absurd (congrArg (fun z => z.2.2) h) q
  rename_i q
  have hb := Decidable.not_not.mp q
  cases hf : l.find? (fun x => Pk.bid x == Pk.bid b) with
  | none =>
    rw [hf] at h
    obtain rfl : l ++ [b] = l' := congrArg (fun z => z.1) h
    obtain rfl : Pk.bid b = id := congrArg (fun z => z.2.1) h
    refine ⟨hb, rfl, by simp, fun x hx => List.mem_append_left _ hx, fun hF => ⟨fun x hx => ?_, fun x hx y hy e => ?_⟩, .inr rfl⟩
    · rcases List.mem_append.1 hx with k | k
      · exact hF.ok x k
      · rw [List.mem_singleton.1 k]; exact hb
    · have hno : ∀ z ∈ l, Pk.bid z ≠ Pk.bid b := fun z hz e => by
        have := List.find?_eq_none.1 hf z hz
        simp [e] at this
      rcases List.mem_append.1 hx with k | k
      · rcases List.mem_append.1 hy with j | j
        · exact hF.one x k y j e
        · rw [List.mem_singleton.1 j] at e; exact absurd e (hno x k)
      · rw [List.mem_singleton.1 k] at e ⊢
        rcases List.mem_append.1 hy with j | j
        · exact absurd e.symm (hno y j)
        · exact (List.mem_singleton.1 j).symm
  | some x =>
    rw [hf] at h
    simp only at h
    split at h
    · rename_i e
      subst e
      obtain rfl : l = l' := congrArg (fun z => z.1) h
      obtain rfl : Pk.bid x = id := congrArg (fun z => z.2.1) h
      exact ⟨hb, rfl, List.mem_of_find?_eq_some hf, fun _ k => k, fun k => k, .inl rfl⟩
    · exact absurd (congrArg (fun z => z.2.2) h) (by simp)

theorem blobOf_in {l : List Bl} (hF : Fine l) {b : Bl} (hb : b ∈ l) : blobOf l (Pk.bid b) b.1 = (b.2, 0) := by
  unfold blobOf
  cases hf : l.find? (fun x => Pk.bid x == Pk.bid b) with
  | none =>
    have := List.find?_eq_none.1 hf b hb
    simp at this
  | some x =>
    have hx : Pk.bid x = Pk.bid b := by simpa using List.find?_some hf
    obtain rfl := hF.one x (List.mem_of_find?_eq_some hf) b hb hx
    simp

/-- what pieces leave: their IDs, in order -/
theorem pieces_ok : ∀ (ps : List Bs) (l l' : List Bl) (ids : List Bs), pieces ps l = (l', ids, 0) → ids = ps.map (fun p => Pk.bid (1, p)) ∧ (∀ p ∈ ps, ((1, p) : Bl) ∈ l') ∧ (∀ x ∈ l, x ∈ l') ∧ (Fine l → Fine l')
  | [], l, l', ids, h => by
    cases h
    exact ⟨rfl, fun _ k => absurd k List.not_mem_nil, fun _ k => k, fun k => k⟩
  | p :: ps, l, l', ids, h => by
    rw [pieces] at h
    rcases hi : into l (1, p) with ⟨l1, id, e⟩
    rw [hi] at h
    simp only at h
    split at h
    · rename_i q; exact absurd (congrArg (fun z => z.2.2) h) q
    rename_i q
    obtain rfl := Decidable.not_not.mp q
    obtain ⟨_, rfl, h3, h4, h5, _⟩ := into_ok hi
    rcases hp : pieces ps l1 with ⟨l2, ids2, e2⟩
    rw [hp] at h
    obtain rfl : l2 = l' := congrArg (fun z => z.1) h
    obtain rfl : Pk.bid (1, p) :: ids2 = ids := congrArg (fun z => z.2.1) h
    obtain rfl : e2 = 0 := congrArg (fun z => z.2.2) h
    obtain ⟨r1, r2, r3, r4⟩ := pieces_ok ps l1 l2 ids2 hp
    refine ⟨by rw [r1]; rfl, fun x hx => ?_, fun x hx => r3 x (h4 x hx), fun k => r4 (h5 k)⟩
    rcases List.mem_cons.1 hx with e | hx
    · rw [e]; exact r3 _ h3
    · exact r2 x hx

theorem reapFile_ok {L : List Bl} (hF : Fine L) : ∀ (ps : List Bs) (out : Bs) (size : Int), (∀ p ∈ ps, ((1, p) : Bl) ∈ L) → ((out ++ ps.flatten).length : Int) = size → reapFile L size (ps.map fun p => Pk.bid (1, p)) out = (out ++ ps.flatten, 0)
  | [], out, size, _, hs => by
    rw [List.flatten_nil, List.append_nil] at hs ⊢
    rw [List.map_nil, reapFile, if_neg (fun q => q hs)]
  | p :: ps, out, size, hp, hs => by
    have hb := blobOf_in hF (hp p List.mem_cons_self)
    rw [List.flatten_cons, ← List.append_assoc] at hs ⊢
    rw [List.map_cons, reapFile, hb]
    simp only [ne_eq, not_true, if_false]
    rw [if_neg (by rw [List.length_append] at hs; omega)]
    exact reapFile_ok hF ps (out ++ p) size (fun x hx => hp x (List.mem_cons_of_mem _ hx)) hs

end Wk

end Go.Proofs.YtimdioacmojkeabDoor

namespace Go.Proofs.YtimdioacmojkeabDoor
open Go.RowKit Go.WideMaps
open Go.Maps (Keyed IsMap)
set_option maxRecDepth 20000

/-- set, be it there already (as it is) or not -/
theorem Mp.set {w : World} {b n : Nat} {l l' : List (List UInt8 × Value)} (h : Mp w b n l) {t e : TypeId} (ht : Tryd.prog.underlying t = some (.map 32 e)) {x : List UInt8} (hx : x.length = 8) (hm : n < 1000000000) (v : Value)
    (hl : (x ∉ l.map (·.1) ∧ l' = l ++ [(x, v)]) ∨ ((x, v) ∈ l ∧ l' = l)) :
    ∃ w', (Instr.mapUpdate t (.map (some b)) (.agg (x.map B).toArray) v).run Tryd.prog w = .ok () w' ∧ Mp w' b (n + 1) l' ∧ w.grownBy w' (some b) := by
  obtain ⟨D, h, h1, h2⟩ := h
  have hI := h.isMap
  obtain ⟨w', hr, ho, hg⟩ := h.update id_keyed ht (by unfold maxLen; omega) (d := .held v) (ps := []) (kl_key hx) rfl
  refine ⟨w', hr, ⟨_, ho, fun y hy hny => ?_, fun p hp => ?_⟩, hg⟩
  · have hne : y ≠ x := by
      rintro rfl
      rcases hl with ⟨_, rfl⟩ | ⟨hm, rfl⟩
      · exact hny (by simp)
      · exact hny (List.mem_map_of_mem hm)
    rw [Maps.has_put_other (fun e => hne (kl_inj hy hx e))]
    refine h1 y hy ?_
    rcases hl with ⟨_, rfl⟩ | ⟨hm, rfl⟩
    · intro hm
      exact hny (by rw [List.map_append]; exact List.mem_append_left _ hm)
    · exact hny
  · by_cases e : p.1 = x
    · have hpv : p.2 = v := by
        rcases hl with ⟨hn, rfl⟩ | ⟨hm, rfl⟩
        · rcases List.mem_append.1 hp with hp | hp
          · exact absurd (by rw [← e]; exact List.mem_map_of_mem hp) hn
          · rw [List.mem_singleton.1 hp]
        · have a1 := (h2 p hp).2.2 (.held v)
          have a2 := (h2 _ hm).2.2 (.held v)
          rw [e] at a1
          have := a1.symm.trans a2
          exact DataW.held.inj this
      rw [e, hpv]
      exact ⟨hx, Maps.has_put_same hI (id_keyed.key (kl_key hx)) _, fun z => Maps.atKey_put_same hI (id_keyed.key (kl_key hx)) _ z⟩
    · have hp' : p ∈ l := by
        rcases hl with ⟨hn, rfl⟩ | ⟨hm, rfl⟩
        · rcases List.mem_append.1 hp with hp | hp
          · exact hp
          · exact absurd (congrArg Prod.fst (List.mem_singleton.1 hp)) e
        · exact hp
      obtain ⟨q1, q2, q3⟩ := h2 p hp'
      have hk : kl Tryd.prog p.1 ≠ kl Tryd.prog x := fun f => e (kl_inj q1 hx f)
      exact ⟨q1, by rw [Maps.has_put_other hk]; exact q2, fun z => by rw [Maps.atKey_put_other hk]; exact q3 z⟩

theorem Mp.obj {w W : World} {b n : Nat} {l : List (List UInt8 × Value)} (h : Mp w b n l) (ho : ∀ es c, w.heap[b]? = some (.map es c) → W.heap[b]? = some (.map es c)) : Mp W b n l := by
  obtain ⟨D, h, h2⟩ := h
  obtain ⟨es, clock, hb, F, hs, hD⟩ := h
  exact ⟨D, ⟨es, clock, ho es clock hb, F, hs, hD⟩, h2⟩

theorem Mp.isMap {w : World} {b n : Nat} {l : List (List UInt8 × Value)} (h : Mp w b n l) : ∃ es c, w.heap[b]? = some (.map es c) := by
  obtain ⟨D, ⟨es, clock, hb, F, hs, hD⟩, h2⟩ := h
  exact ⟨es, clock, hb⟩

/-- blobs by their IDs -/
def mpB (bs : List Blb) : List (List UInt8 × Value) := bs.map fun x => (Pk.bid x.p, blV x)

theorem mpB_keys (bs : List Blb) : (mpB bs).map (·.1) = (bs.map Blb.p).map Pk.bid := by simp [mpB]

def pl (bs : List Blb) : List Pk.Bl := bs.map Blb.p

theorem pl_snoc (bs : List Blb) (b : Blb) : pl (bs ++ [b]) = pl bs ++ [b.p] := by simp [pl]

theorem mpB_snoc (bs : List Blb) (b : Blb) : mpB (bs ++ [b]) = mpB bs ++ [(Pk.bid b.p, blV b)] := by simp [mpB]

/-- what stands at an ID -/
theorem find_bid (bs : List Blb) (id : List UInt8) :
    ((pl bs).find? (fun x => Pk.bid x == id) = none ∧ id ∉ (mpB bs).map (·.1)) ∨ ∃ o ∈ bs, (pl bs).find? (fun x => Pk.bid x == id) = some o.p ∧ (id, blV o) ∈ mpB bs := by
  cases h : (pl bs).find? (fun x => Pk.bid x == id) with
  | none =>
    refine .inl ⟨rfl, fun hm => ?_⟩
    rw [mpB_keys] at hm
    obtain ⟨x, hx, e⟩ := List.mem_map.1 hm
    have := List.find?_eq_none.1 h x hx
    simp [e] at this
  | some x =>
    have hx := List.mem_of_find?_eq_some h
    have he : Pk.bid x = id := by simpa using List.find?_some h
    obtain ⟨o, ho, rfl⟩ := List.mem_map.1 hx
    refine .inr ⟨o, ho, rfl, ?_⟩
    rw [← he]
    exact List.mem_map_of_mem ho

end Go.Proofs.YtimdioacmojkeabDoor

namespace Go.Proofs.YtimdioacmojkeabDoor
open Go.RowKit

theorem wrap_u64_mod (n : Nat) : IntKind.u64.wrap (n : Int) = ((n % 18446744073709551616 : Nat) : Int) := by
  simp only [IntKind.wrap, IntKind.bits, IntKind.signed]
  simp

/-- a times the lowest i bits of b -/
def refPart (a b i : Nat) : Nat := a * (b % 2 ^ i) % 18446744073709551616
theorem part_succ (a b i : Nat) : refPart a b (i + 1) = (refPart a b i + (if b / 2 ^ i % 2 = 1 then a * 2 ^ i % 18446744073709551616 else 0)) % 18446744073709551616 := by
  unfold refPart
  rw [Nat.pow_succ, Nat.mod_mul, Nat.mul_add]
  split
  · rename_i h
    rw [h, Nat.mul_one, Nat.add_mod]
  · rename_i h
    have : b / 2 ^ i % 2 = 0 := by omega
    rw [this, Nat.mul_zero, Nat.mul_zero, Nat.add_zero, Nat.add_zero, Nat.mod_mod]
theorem part_all (a b : Nat) (hb : b < 18446744073709551616) : refPart a b 64 = a * b % 18446744073709551616 := by
  unfold refPart
  rw [Nat.mod_eq_of_lt (a := b) (b := 2 ^ 64) (by omega)]

theorem part_mod (a b i : Nat) : refPart a b i % 18446744073709551616 = refPart a b i := by unfold refPart; rw [Nat.mod_mod]
theorem shr_int (C k : Nat) : (C : Int) / 2 ^ k = ((C / 2 ^ k : Nat) : Int) := by simp
theorem bit_of (C k : Nat) (h : C < 18446744073709551616) : bits BinOp.and IntKind.u64 ((C : Int) / 2 ^ k) 1 = ((C / 2 ^ k % 2 : Nat) : Int) := by
  have hl := Nat.div_le_self C (2 ^ k)
  rw [shr_int]
  generalize C / 2 ^ k = q at *
  rw [and_one_u64 _ (by omega) (by omega)]
  omega
theorem sum_wrap (p A k : Nat) : IntKind.u64.wrap ((p : Int) + IntKind.u64.wrap ((A : Int) * 2 ^ k)) = (((p + A * 2 ^ k % 18446744073709551616) % 18446744073709551616 : Nat) : Int) := by
  rw [show (A : Int) * 2 ^ k = ((A * 2 ^ k : Nat) : Int) from by simp, wrap_u64_mod, ← Int.natCast_add, wrap_u64_mod]

theorem xs_int29 (z : Nat) (h : z < 18446744073709551616) : bits .xor .u64 (z : Int) ((z : Int) / 536870912) = (Mx.xs 29 z : Int) := by
  rw [show (z : Int) / 536870912 = ((z / 536870912 : Nat) : Int) from by omega, u64_xor_nat _ _ h (by omega), Mx.xs, Nat.shiftRight_eq_div_pow]
theorem xs_int32 (z : Nat) (h : z < 18446744073709551616) : bits .xor .u64 (z : Int) ((z : Int) / 4294967296) = (Mx.xs 32 z : Int) := by
  rw [show (z : Int) / 4294967296 = ((z / 4294967296 : Nat) : Int) from by omega, u64_xor_nat _ _ h (by omega), Mx.xs, Nat.shiftRight_eq_div_pow]
theorem xor_int (a b : Nat) (ha : a < 18446744073709551616) (hb : b < 18446744073709551616) : bits .xor .u64 (a : Int) (b : Int) = ((a ^^^ b : Nat) : Int) := u64_xor_nat a b ha hb
end Go.Proofs.YtimdioacmojkeabDoor

namespace Go.Proofs.YtimdioacmojkeabDoor
open Go.RowKit
set_option maxRecDepth 4000

theorem mul_wrap (a b : Nat) : IntKind.u64.wrap ((a : Int) * (b : Int)) = (Mx.prod a b : Nat) := by
  rw [← Int.natCast_mul, wrap_u64_mod]; rfl
theorem mul_a (a : Nat) : IntKind.u64.wrap ((a : Int) * 11400714819323198485) = (Mx.prod a 11400714819323198485 : Nat) := mul_wrap a 11400714819323198485
theorem mul_b (a : Nat) : IntKind.u64.wrap ((a : Int) * 13787848793156543929) = (Mx.prod a 13787848793156543929 : Nat) := mul_wrap a 13787848793156543929
theorem mul_ia (a : Nat) : IntKind.u64.wrap ((a : Int) * 17428512612931826493) = (Mx.prod a 17428512612931826493 : Nat) := mul_wrap a 17428512612931826493
theorem mul_ib (a : Nat) : IntKind.u64.wrap ((a : Int) * 10871156337175269513) = (Mx.prod a 10871156337175269513 : Nat) := mul_wrap a 10871156337175269513

theorem shr29_int (z : Nat) : (z : Int) / (536870912 : Int) = ((z >>> 29 : Nat) : Int) := by rw [Nat.shiftRight_eq_div_pow]; omega

set_option maxHeartbeats 400000 in
theorem step_any (x b : Nat) (w : World) (hx : x < 18446744073709551616) (hb : b < 18446744073709551616) :
    Calls Tryd.prog 54 #[.int .u64 x, .int .u64 b] w fun e w' => e = .returned (.int .u64 (Mx.step x b : Nat)) ∧ Below w.heap.size w w' := by
  have h1 := u64_xor_nat x b hx hb
  go_enter Tryd.func54, Tryd.ntmps54
  go_wp2
  go_ret
  refine ⟨ret_int ?_, Below.refl _ _⟩
  rw [mul_a, xs_int29 _ (Mx.prod_lt _ _), mul_b, xs_int32 _ (Mx.prod_lt _ _), Mx.step]
end Go.Proofs.YtimdioacmojkeabDoor

namespace Go.Proofs
end Go.Proofs

namespace Go.Proofs.YtimdioacmojkeabDoor
open Go.RowKit

theorem repeat_nought (c : Nat) : Lib.repeatL [0] c = List.replicate c 0 := by
  induction c with
  | zero => rfl
  | succ c ih => rw [Lib.repeatL, ih, List.replicate_succ]; rfl
end Go.Proofs.YtimdioacmojkeabDoor

namespace Go.Proofs.YtimdioacmojkeabDoor
open Go.RowKit

theorem pow_lt_64 {w : Nat} (h : w < 64) : 2 ^ w < 18446744073709551616 :=
  Nat.lt_of_lt_of_le (Nat.pow_lt_pow_right (a := 2) (by omega) h) (by decide)

theorem hi_wrap (l : List UInt8) (i d b : Nat) (hd : d < 8) (hb : b = Mx.byteAt l (8 * i + (7 - d))) :
    IntKind.u64.wrap (IntKind.u64.wrap (256 * (Mx.hi l i d : Int)) + IntKind.u64.wrap (b : Int)) = (Mx.hi l i (d + 1) : Nat) := by
  have h1 := Mx.hi_lt l i (d + 1)
  have h2 : 256 ^ (d + 1) ≤ 256 ^ 8 := Nat.pow_le_pow_right (by omega) (by omega)
  rw [Mx.hi] at *
  rw [← hb] at *
  have h3 : (256 : Nat) ^ 8 = 18446744073709551616 := by decide
  rw [wrap_u64 (256 * (Mx.hi l i d : Int)) (by omega) (by omega), wrap_u64 (b : Int) (by omega) (by omega), wrap_u64 _ (by omega) (by omega)]
  omega

def textSize : Value → Nat | .string t => t.size | _ => 0
end Go.Proofs.YtimdioacmojkeabDoor

namespace Go.Proofs.YtimdioacmojkeabDoor
open Go.RowKit
set_option maxRecDepth 4000

theorem or_hi (a b : Nat) (hb : b < 256) : 256 * a ||| b = 256 * a + b := by
  have h := Nat.two_pow_add_eq_or_of_lt (i := 8) (b := b) (by simpa using hb) a
  simpa using h.symm
theorem hi_or (l : List UInt8) (i c b : Nat) (hc : c < 8) (hb : b = Mx.byteAt l (8 * i + (7 - c))) :
    bits .or .u64 (IntKind.u64.wrap ((Mx.hi l i c : Int) * 256)) (IntKind.u64.wrap (b : Int)) = (Mx.hi l i (c + 1) : Nat) := by
  have h1 := Mx.hi_lt l i (c + 1)
  have h2 : 256 ^ (c + 1) ≤ 256 ^ 8 := Nat.pow_le_pow_right (by omega) (by omega)
  have h3 : (256 : Nat) ^ 8 = 18446744073709551616 := by decide
  have h4 := Mx.byteAt_lt l (8 * i + (7 - c))
  rw [Mx.hi] at *
  rw [← hb] at *
  rw [show (Mx.hi l i c : Int) * 256 = ((256 * Mx.hi l i c : Nat) : Int) from by omega, wrap_u64 _ (by omega) (by omega), wrap_u64 _ (by omega) (by omega), u64_or_nat _ _ (by omega) (by omega), or_hi _ _ (by omega)]
theorem hi_past (l : List UInt8) : ∀ c, c + l.length ≤ 8 → Mx.hi l 0 c = 0
  | 0, _ => rfl
  | c + 1, h => by rw [Mx.hi, hi_past l c (by omega), Mx.byteAt_past (by omega)]
theorem mx_byte_get (t : ByteArray) (k : Nat) (h : k < t.size) : t[k].toNat = Mx.byteAt t.data.toList k := by
  rw [Mx.byteAt, List.getD_eq_getElem?_getD, List.getElem?_eq_getElem (by simpa using h)]
  rfl

set_option maxHeartbeats 400000 in
theorem mx_read_any (t : ByteArray) (w : World) (ht : t.size ≤ 8) :
    Calls Tryd.prog 55 #[.string t] w fun e w' => e = .returned (.int .u64 (Mx.blk t.data.toList 0 : Nat)) ∧ w' = w := by
  have hl : t.data.toList.length = t.size := by rw [← Lib.size_eq]
  have H0 : Hid (Mx.hi t.data.toList 0 (8 - t.size) = 0) := hi_past _ _ (by omega)
  have HB : Hid (∀ k (h : k < t.size), t[k].toNat = Mx.byteAt t.data.toList k) := mx_byte_get t
  clear hl
  go_enter Tryd.func55, Tryd.ntmps55
  go_wp2
  go_loop [3, 4] (fun b i => ∃ d : Nat, d ≤ t.size ∧ i = .int .i64 ((t.size : Int) - 1 - (d : Int)) ∧ b = .int .u64 (Mx.hi t.data.toList 0 (8 - t.size + d) : Nat)) (fun _ i => (intOf i + 1).toNat)
  case atStart => exact ⟨0, by omega, int_eq (by omega), by rw [Nat.add_zero, H0.out]; rfl⟩
  case round =>
    obtain ⟨d, hd, rfl, rfl⟩ := hrel
    by_cases hlt : d < t.size
    · obtain ⟨k, hk⟩ : ∃ k, k = t.size - 1 - d := ⟨_, rfl⟩
      have hkI : (t.size : Int) - 1 - (d : Int) = (k : Int) := by omega
      have hkl : k < t.size := by omega
      have HO : Hid (bits .or .u64 (IntKind.u64.wrap ((Mx.hi t.data.toList 0 (8 - t.size + d) : Int) * 256)) (IntKind.u64.wrap (t[k].toNat : Int)) = (Mx.hi t.data.toList 0 (8 - t.size + d + 1) : Nat)) :=
        hi_or _ 0 _ _ (by omega) (by rw [HB.out k hkl, show 8 * 0 + (7 - (8 - t.size + d)) = k from by omega])
      go_wp2
      go_round
      case rel => subst hk; exact ⟨d + 1, by omega, int_eq (by omega), int_eq HO.out⟩
      case measure => simp only [intOf]; omega
    · obtain rfl : d = t.size := by omega
      go_wp2
      go_ret
      exact ⟨rfl, rfl⟩

theorem blk_of {l l' : List UInt8} {i i' : Nat} (h : ∀ j, j < 8 → Mx.byteAt l (8 * i + j) = Mx.byteAt l' (8 * i' + j)) : Mx.blk l i = Mx.blk l' i' := by
  have key : ∀ c, c ≤ 8 → Mx.hi l i c = Mx.hi l' i' c := by
    intro c
    induction c with
    | zero => intro _; rfl
    | succ c ih => intro hc; rw [Mx.hi, Mx.hi, ih (by omega), h (7 - c) (by omega)]
  exact key 8 (Nat.le_refl _)
theorem blk_extract (s : ByteArray) (i e : Nat) (he : e = min (8 * i + 8) s.size) : Mx.blk (s.extract (8 * i) e).data.toList 0 = Mx.blk s.data.toList i := by
  apply blk_of
  intro j hj
  have hl : s.data.toList.length = s.size := by rw [← Lib.size_eq]
  rw [Lib.extract_data, Nat.mul_zero, Nat.zero_add]
  unfold Mx.byteAt
  rw [List.getD_eq_getElem?_getD, List.getD_eq_getElem?_getD]
  by_cases h : 8 * i + j < s.size
  · rw [List.getElem?_take_of_lt (by omega), List.getElem?_drop]
  · rw [List.getElem?_eq_none (l := s.data.toList) (by omega), List.getElem?_eq_none (by rw [List.length_take]; omega)]
theorem kept_nat (W : Nat) (hW : W ≤ 64) : (18446744073709551615 : Int) / 2 ^ (64 - W) = ((2 ^ W - 1 : Nat) : Int) := by
  have h : (18446744073709551616 : Nat) = 2 ^ W * 2 ^ (64 - W) := by rw [← Nat.pow_add, show W + (64 - W) = 64 from by omega]
  have hp := Nat.two_pow_pos (64 - W)
  have hq := Nat.two_pow_pos W
  rw [show (2 : Int) ^ (64 - W) = ((2 ^ (64 - W) : Nat) : Int) from by simp, show (18446744073709551615 : Int) = ((18446744073709551615 : Nat) : Int) from rfl, ← Int.natCast_ediv]
  congr 1
  generalize 2 ^ (64 - W) = p at *
  generalize 2 ^ W = q at *
  apply Nat.div_eq_of_lt_le
  · rw [Nat.sub_mul, ← h, Nat.one_mul]; omega
  · rw [show q - 1 + 1 = q from by omega, ← h]; omega
theorem and_cut (W y : Nat) (hW : W ≤ 64) (hy : y < 18446744073709551616) : bits .and .u64 (y : Int) ((2 ^ W - 1 : Nat) : Int) = (Mx.cut W y : Nat) := by
  have hq : 2 ^ W ≤ 2 ^ 64 := Nat.pow_le_pow_right (by omega) hW
  have h64 : (2 : Nat) ^ 64 = 18446744073709551616 := by decide
  have hp := Nat.two_pow_pos W
  rw [u64_and_nat _ _ hy (by omega), Nat.and_two_pow_sub_one_eq_mod, Mx.cut]

set_option maxHeartbeats 1000000 in
theorem digest_any (W : Nat) (s : ByteArray) (w : World) (h1 : 1 ≤ W) (hW : W ≤ 64) (hs : s.size ≤ 140737488351232) :
    Calls Tryd.prog 50 #[.string s, .int .i64 W] w fun e w' => e = .returned (.int .u64 (Mx.narrow W s.data.toList : Nat)) ∧ Below w.heap.size w w' := by
  obtain ⟨n, hn⟩ : ∃ n, n = (s.size + 7) / 8 := ⟨_, rfl⟩
  have HN : Hid (Mx.narrow W s.data.toList = Mx.cut W (Mx.step (Mx.chain W s.data.toList n) s.size)) := by show _ = _; rw [Mx.narrow, hn, ← Lib.size_eq]
  have hk := kept_nat W hW
  have HAC : Hid (∀ y : Nat, y < 18446744073709551616 → bits .and .u64 (y : Int) ((2 ^ W - 1 : Nat) : Int) = (Mx.cut W y : Nat)) := fun y hy => and_cut W y hW hy
  generalize hK : 2 ^ W - 1 = K at *
  clear hK
  go_enter Tryd.func50, Tryd.ntmps50
  go_wp2_with fail
  go_loopw [6, 7] (fun x a wr => ∃ i : Nat, i ≤ n ∧ a = .int .i64 (8 * (i : Int)) ∧ x = .int .u64 (Mx.chain W s.data.toList i : Nat) ∧ Below w.heap.size w wr) (fun _ a _ => 8 * n - (intOf a).toNat)
  case atStart => exact ⟨0, by omega, rfl, rfl, Below.refl _ _⟩
  case round =>
    obtain ⟨i, hi, rfl, rfl, hbel⟩ := hrel
    have hX := Mx.chain_lt W s.data.toList i
    by_cases hlt : i < n
    · have hlI : 8 * (i : Int) < (s.size : Int) := by omega
      have hex : (s.extract (8 * i) (min (8 * (i : Int) + 8) (s.size : Int)).toNat).size ≤ 8 := by rw [ByteArray.size_extract]; omega
      have hbk := blk_extract s i (min (8 * (i : Int) + 8) (s.size : Int)).toNat (by omega)
      have hbl := Mx.blk_lt s.data.toList i
      have hac := HAC.out _ (Mx.step_lt (Mx.chain W s.data.toList i) (Mx.blk s.data.toList i))
      rw [← Mx.chain] at hac
      go_wp2_with fail
      refine (mx_read_any _ _ hex).mono ?_
      rintro e w1 ⟨rfl, rfl⟩
      rw [hbk]
      go_wp2_with fail
      refine (step_any _ _ _ hX hbl).mono ?_
      rintro e w2 ⟨rfl, hb2⟩
      have hB2 := hbel.trans (hb2.mono hbel.size)
      clear hb2 hbel
      go_wp2_with fail
      go_round
      case rel => exact ⟨i + 1, by omega, int_eq (by omega), rfl, hB2⟩
      case measure => simp only [intOf]; omega
    · have hac := HAC.out _ (Mx.step_lt (Mx.chain W s.data.toList i) s.size)
      rw [← show Mx.narrow W s.data.toList = Mx.cut W (Mx.step (Mx.chain W s.data.toList i) s.size) from by rw [HN.out, show n = i from by omega]] at hac
      have h8 : (s.size : Int) ≤ 8 * (i : Int) := by omega
      clear hn hlt hi
      have hsl : s.size < 18446744073709551616 := by omega
      go_wp2_with fail
      refine (step_any (Mx.chain W s.data.toList i) s.size wr hX hsl).mono ?_
      rintro e w2 ⟨rfl, hb2⟩
      have hB2 := hbel.trans (hb2.mono hbel.size)
      clear hb2 hbel
      go_wp2_with fail
      go_ret
      exact ⟨rfl, hB2⟩

set_option maxHeartbeats 400000 in
theorem sum_any (s : ByteArray) (w : World) (hs : s.size ≤ 140737488351232) :
    Calls Tryd.prog 42 #[.string s] w fun e w' => e = .returned (.int .u64 (Mx.narrow 64 s.data.toList : Nat)) ∧ Below w.heap.size w w' := by
  go_enter Tryd.func42, Tryd.ntmps42
  go_wp2_with fail
  refine (digest_any 64 s _ (by omega) (by omega) hs).mono ?_
  rintro e w2 ⟨rfl, hb2⟩
  go_wp2_with fail
  go_ret
  exact ⟨rfl, hb2⟩
end Go.Proofs.YtimdioacmojkeabDoor

namespace Go.Proofs.YtimdioacmojkeabDoor
open Go.RowKit

theorem eight {α : Type} (l : List α) (h : l.length = 8) : ∃ a b c d e f g k, l = [a, b, c, d, e, f, g, k] := by
  match l, h with
  | [a, b, c, d, e, f, g, k], _ => exact ⟨a, b, c, d, e, f, g, k, rfl⟩

/-- '[]byte(s)' of eight bytes -/
theorem bytes8 (b0 b1 b2 b3 b4 b5 b6 b7 : UInt8) (w : World) : ∃ cap W,
    (convert 9 45 (.string ⟨#[b0, b1, b2, b3, b4, b5, b6, b7]⟩)).run Tryd.prog w = .ok (.slice (some ⟨w.heap.size, 0, none⟩) 8 cap) W ∧
    (∀ j (h : j < 8), W.cell? ⟨w.heap.size, j, none⟩ = some (.int .u8 ([b0, b1, b2, b3, b4, b5, b6, b7][j].toNat : Int))) ∧ Below w.heap.size w W := by
  refine ⟨_, _, run_bytes_of_string (P := Tryd.prog) w 9 45 5 ⟨#[b0, b1, b2, b3, b4, b5, b6, b7]⟩ (by kernel_rfl) (by kernel_rfl) (by kernel_rfl), ?_, ?_⟩
  · intro j h
    exact bytes_cell w ⟨#[b0, b1, b2, b3, b4, b5, b6, b7]⟩ _ _ j h
  · exact (Below.refl _ w).drew.alloc (Nat.le_refl _) _
end Go.Proofs.YtimdioacmojkeabDoor

namespace Go.Proofs.YtimdioacmojkeabDoor
open Go.RowKit
set_option maxRecDepth 4000

/-- what lies in cell j when d bytes, the last ones first, have been written -/
def idAt (l : List UInt8) (d j : Nat) : Int := if 8 - d ≤ j then ((l.getD j 0).toNat : Int) else 0
theorem low8_get (N d : Nat) (hd : d < 8) : (Nm.low 8 N).getD (7 - d) 0 = UInt8.ofNat (N / 256 ^ d % 256) := by
  match d, hd with
  | 0, _ => rfl
  | 1, _ => rfl
  | 2, _ => rfl
  | 3, _ => rfl
  | 4, _ => rfl
  | 5, _ => rfl
  | 6, _ => rfl
  | 7, _ => rfl
theorem idAt_new (N d : Nat) (hd : d < 8) : ((N / 256 ^ d : Nat) : Int) % 256 = idAt (Nm.low 8 N) (d + 1) (7 - d) := by
  rw [idAt, if_pos (by omega), low8_get N d hd, UInt8.toNat_ofNat']
  omega
theorem id_step {l : List UInt8} {d G : Nat} {w : World} {c : Int} (hd : d < 8) (hc : c = idAt l (d + 1) (7 - d)) (h : ∀ j, j < 8 → w.cell? ⟨G, j, none⟩ = some (.int .u8 (idAt l d j))) :
    ∀ j, j < 8 → (w.setCell ⟨G, 7 - d, none⟩ (.int .u8 c)).cell? ⟨G, j, none⟩ = some (.int .u8 (idAt l (d + 1) j)) := by
  intro j hj
  by_cases e : j = 7 - d
  · subst e
    rw [World.cell?_setCell_same _ _ _ (h _ hj), hc]
  · rw [World.cell?_setCell_other _ _ _ _ (by intro h; exact e (congrArg Addr.off h).symm), h j hj, idAt, idAt]
    by_cases hjk : 8 - d ≤ j
    · rw [if_pos hjk, if_pos (by omega)]
    · rw [if_neg hjk, if_neg (by omega)]

set_option maxHeartbeats 1000000 in
theorem id_of (N : Nat) (b0 b1 b2 b3 b4 b5 b6 b7 : UInt8) (s : ByteArray) (w : World) (hL : Nm.low 8 N = [b0, b1, b2, b3, b4, b5, b6, b7])
    (hn : ∀ W, Calls Tryd.prog 42 #[.string s] W fun e w' => e = .returned (.int .u64 N) ∧ Below W.heap.size W w') :
    Calls Tryd.prog 27 #[.string s] w fun e w' => e = .returned (.agg #[B b0, B b1, B b2, B b3, B b4, B b5, B b6, B b7]) ∧ Below w.heap.size w w' := by
  have HW : Hid (∀ d, d < 8 → ((N / 256 ^ d : Nat) : Int) % 256 = idAt (Nm.low 8 N) (d + 1) (7 - d)) := idAt_new N
  rw [hL] at HW
  clear hL
  go_enter Tryd.func27, Tryd.ntmps27
  go_wp2_with fail
  refine (hn _).mono ?_
  rintro e w1 ⟨rfl, hb1⟩
  have HB1 : Hid (Below w.heap.size w w1) := ((((Below.refl _ w).alloc (Nat.le_refl _) _).alloc (by simp) _)).trans (hb1.mono (by simp; omega))
  have HC : Hid (∀ j, j < 8 → w1.cell? ⟨w.heap.size + 1, j, none⟩ = some (.int .u8 (idAt [b0, b1, b2, b3, b4, b5, b6, b7] 0 j))) := fun j hj => by
    rw [idAt, if_neg (by omega)]
    refine (hb1.cell (p := ⟨w.heap.size + 1, j, none⟩) (by simp)).trans ?_
    match j, hj with
    | 0, _ => simp
    | 1, _ => simp
    | 2, _ => simp
    | 3, _ => simp
    | 4, _ => simp
    | 5, _ => simp
    | 6, _ => simp
    | 7, _ => simp
  have HF : Hid (∀ j, j < 8 → w1.frozen? ⟨w.heap.size + 1, j, none⟩ = false) := fun j hj =>
    (hb1.frozen (p := ⟨w.heap.size + 1, j, none⟩) (by simp)).trans (by simp)
  have HC0 : Hid (∀ j, j < 8 → w1.cell? ⟨w.heap.size, j, none⟩ = some (.int .u8 0)) := fun j hj => by
    refine (hb1.cell (p := ⟨w.heap.size, j, none⟩) (by simp; omega)).trans ?_
    match j, hj with
    | 0, _ => simp
    | 1, _ => simp
    | 2, _ => simp
    | 3, _ => simp
    | 4, _ => simp
    | 5, _ => simp
    | 6, _ => simp
    | 7, _ => simp
  have HF0 : Hid (∀ j, j < 8 → w1.frozen? ⟨w.heap.size, j, none⟩ = false) := fun j hj =>
    (hb1.frozen (p := ⟨w.heap.size, j, none⟩) (by simp; omega)).trans (by simp)
  clear hb1 hn
  go_wp2_with fail
  go_loopw [4, 5] (fun n i wr => ∃ d : Nat, d ≤ 8 ∧ n = .int .u64 ((N / 256 ^ d : Nat) : Int) ∧ i = .int .i64 (7 - (d : Int)) ∧ Hid (∀ j, j < 8 → wr.cell? ⟨w.heap.size + 1, j, none⟩ = some (.int .u8 (idAt [b0, b1, b2, b3, b4, b5, b6, b7] d j))) ∧
      Hid (∀ j, j < 8 → wr.frozen? ⟨w.heap.size + 1, j, none⟩ = false) ∧ Hid (∀ j, j < 8 → wr.cell? ⟨w.heap.size, j, none⟩ = some (.int .u8 0)) ∧ Hid (∀ j, j < 8 → wr.frozen? ⟨w.heap.size, j, none⟩ = false) ∧ Hid (Below w.heap.size w wr)) (fun _ i _ => (intOf i + 1).toNat)
  case atStart => exact ⟨0, by omega, by simp, rfl, HC, HF, HC0, HF0, HB1⟩
  case round =>
    obtain ⟨d, hd, rfl, rfl, hc, hf, hc0, hf0, hb⟩ := hrel
    clear HC HF HC0 HF0 HB1
    by_cases hlt : d < 8
    · have hst := id_step (G := w.heap.size + 1) (w := wr) hlt (HW.out d hlt) hc.out
      have HS : Hid (∀ j, j < 8 → (wr.setCell ⟨w.heap.size + 1, 7 - d, none⟩ (.int .u8 (((N / 256 ^ d : Nat) : Int) % 256))).cell? ⟨w.heap.size + 1, j, none⟩ = some (.int .u8 (idAt [b0, b1, b2, b3, b4, b5, b6, b7] (d + 1) j))) := hst
      clear hst
      have hq : ((N / 256 ^ d : Nat) : Int) / 256 = ((N / 256 ^ (d + 1) : Nat) : Int) := by
        rw [Nat.pow_succ, ← Nat.div_div_eq_div_mul]; omega
      have HQ : Hid (((N / 256 ^ d : Nat) : Int) / 256 = ((N / 256 ^ (d + 1) : Nat) : Int)) := hq
      clear hq
      have hkI : 7 - (d : Int) = ((7 - d : Nat) : Int) := by omega
      have hck := hc.out (7 - d) (by omega)
      have hfk := hf.out (7 - d) (by omega)
      generalize N / 256 ^ d = M at *
      go_wp2_with fail
      go_round
      case rel =>
        refine ⟨d + 1, by omega, int_eq HQ.out, int_eq (by omega), HS, ?_, ?_, ?_, ?_⟩
        · intro j hj
          simpa using hf.out j hj
        · intro j hj
          rw [World.cell?_setCell_other _ _ _ _ (by intro h; have := congrArg Addr.block h; simp at this)]
          exact hc0.out j hj
        · intro j hj
          simpa using hf0.out j hj
        · exact hb.out.setCell (by simp) _
      case measure => simp only [intOf]; omega
    · obtain rfl : d = 8 := by omega
      have c0 : wr.cell? ⟨w.heap.size + 1, 0, none⟩ = some (.int .u8 (b0.toNat : Int)) := hc.out 0 (by omega)
      have d0 := hc0.out 0 (by omega)
      have f0 := hf0.out 0 (by omega)
      have c1 : wr.cell? ⟨w.heap.size + 1, 1, none⟩ = some (.int .u8 (b1.toNat : Int)) := hc.out 1 (by omega)
      have d1 := hc0.out 1 (by omega)
      have f1 := hf0.out 1 (by omega)
      have c2 : wr.cell? ⟨w.heap.size + 1, 2, none⟩ = some (.int .u8 (b2.toNat : Int)) := hc.out 2 (by omega)
      have d2 := hc0.out 2 (by omega)
      have f2 := hf0.out 2 (by omega)
      have c3 : wr.cell? ⟨w.heap.size + 1, 3, none⟩ = some (.int .u8 (b3.toNat : Int)) := hc.out 3 (by omega)
      have d3 := hc0.out 3 (by omega)
      have f3 := hf0.out 3 (by omega)
      have c4 : wr.cell? ⟨w.heap.size + 1, 4, none⟩ = some (.int .u8 (b4.toNat : Int)) := hc.out 4 (by omega)
      have d4 := hc0.out 4 (by omega)
      have f4 := hf0.out 4 (by omega)
      have c5 : wr.cell? ⟨w.heap.size + 1, 5, none⟩ = some (.int .u8 (b5.toNat : Int)) := hc.out 5 (by omega)
      have d5 := hc0.out 5 (by omega)
      have f5 := hf0.out 5 (by omega)
      have c6 : wr.cell? ⟨w.heap.size + 1, 6, none⟩ = some (.int .u8 (b6.toNat : Int)) := hc.out 6 (by omega)
      have d6 := hc0.out 6 (by omega)
      have f6 := hf0.out 6 (by omega)
      have c7 : wr.cell? ⟨w.heap.size + 1, 7, none⟩ = some (.int .u8 (b7.toNat : Int)) := hc.out 7 (by omega)
      have d7 := hc0.out 7 (by omega)
      have f7 := hf0.out 7 (by omega)
      generalize N / 256 ^ 8 = M at *
      clear hc hf hc0 hf0 hd hlt HW
      go_wp2_with fail
      refine bodyPost_ret (v := .agg #[B b0, B b1, B b2, B b3, B b4, B b5, B b6, B b7]) ?_ rfl ⟨rfl, ?_⟩
      · have hres : Tryd.f27.results = #[.cell 2 32] := by kernel_rfl
        simp only [results, hres]
        go_simp
        exact ⟨rfl, rfl, rfl, rfl, rfl, rfl, rfl, rfl⟩
      · have hk : w.heap.size ≤ w.heap.size := Nat.le_refl _
        exact (((((((hb.out.setCell hk _).setCell hk _).setCell hk _).setCell hk _).setCell hk _).setCell hk _).setCell hk _).setCell hk _

theorem id_any (s : ByteArray) (w : World) (hs : s.size ≤ 140737488351232) :
    Calls Tryd.prog 27 #[.string s] w fun e w' => e = .returned (.agg ((Nm.low 8 (Mx.narrow 64 s.data.toList)).map B).toArray) ∧ Below w.heap.size w w' := by
  obtain ⟨b0, b1, b2, b3, b4, b5, b6, b7, hL⟩ := eight _ (Nm.low_length 8 (Mx.narrow 64 s.data.toList))
  rw [hL]
  exact id_of _ b0 b1 b2 b3 b4 b5 b6 b7 s w hL fun W => sum_any s W hs
end Go.Proofs.YtimdioacmojkeabDoor

namespace Go.Proofs.YtimdioacmojkeabDoor
open Go.RowKit

theorem eq_fields2 {P : Program} (W : World) (d : Nat) (xs ys : Array Value) (f0 f1 : Field) (v0 v1 u0 u1 : Value) (a b : Bool) (n0 : f0.name ≠ "_") (n1 : f1.name ≠ "_")
    (p0 : (part f0.type xs f0.offset).run P W = .ok v0 W) (p1 : (part f1.type xs f1.offset).run P W = .ok v1 W) (q0 : (part f0.type ys f0.offset).run P W = .ok u0 W) (q1 : (part f1.type ys f1.offset).run P W = .ok u1 W)
    (e0 : (Op.equalIn d f0.type v0 u0).run P W = .ok a W) (e1 : (Op.equalIn d f1.type v1 u1).run P W = .ok b W) :
    (Op.eqFields d xs ys [f0, f1]).run P W = .ok (a && b) W := by
  cases a <;> cases b <;> simp only [Op.eqFields, if_pos n0, if_pos n1, Sem.run_bind, p0, p1, q0, q1, Result.andThen_ok, e0, e1, Bool.not_true, Bool.not_false, Bool.false_eq_true, if_false, if_true, Sem.run_pure, Bool.and_true, Bool.and_false, Bool.and_self]

theorem eq_fields4 {P : Program} (W : World) (d : Nat) (xs : Array Value) (f0 f1 f2 f3 : Field) (v0 v1 v2 v3 : Value) (n0 : f0.name ≠ "_") (n1 : f1.name ≠ "_") (n2 : f2.name ≠ "_") (n3 : f3.name ≠ "_")
    (p0 : (part f0.type xs f0.offset).run P W = .ok v0 W) (p1 : (part f1.type xs f1.offset).run P W = .ok v1 W) (p2 : (part f2.type xs f2.offset).run P W = .ok v2 W) (p3 : (part f3.type xs f3.offset).run P W = .ok v3 W)
    (e0 : (Op.equalIn d f0.type v0 v0).run P W = .ok true W) (e1 : (Op.equalIn d f1.type v1 v1).run P W = .ok true W) (e2 : (Op.equalIn d f2.type v2 v2).run P W = .ok true W) (e3 : (Op.equalIn d f3.type v3 v3).run P W = .ok true W) :
    (Op.eqFields d xs xs [f0, f1, f2, f3]).run P W = .ok true W := by
  simp only [Op.eqFields, if_pos n0, if_pos n1, if_pos n2, if_pos n3, Sem.run_bind, p0, p1, p2, p3, Result.andThen_ok, e0, e1, e2, e3, Bool.not_true, Bool.false_eq_true, if_false, Sem.run_pure]

theorem fields_bl : ∃ f0 f1, (Tryd.prog.fieldsOf 39).toList = [f0, f1] ∧ f0.type = 3 ∧ f0.offset = 0 ∧ f0.name ≠ "_" ∧ f1.type = 9 ∧ f1.offset = 1 ∧ f1.name ≠ "_" := by
  rw [show (Tryd.prog.fieldsOf 39) = _ from by unfold Program.fieldsOf; rw [Tryd.underlying39]]
  exact ⟨_, _, rfl, rfl, rfl, by decide, rfl, rfl, by decide⟩

/-- are two blobs the same? -/
def blSame (a b : Blb) : Bool := (a.kind == b.kind) && (a.bytes.toList == b.bytes.toList)

theorem blSame_self (a : Blb) : blSame a a = true := by simp [blSame]

theorem blSame_iff {a b : Blb} : blSame a b = true ↔ a = b := by
  constructor
  · intro h
    simp only [blSame, Bool.and_eq_true, beq_iff_eq, Lib.toList_data] at h
    exact Blb.p_inj (Prod.ext h.1 h.2)
  · rintro rfl
    exact blSame_self a

theorem bl_cmp_at (d : Nat) (W : World) (a b : Blb) :
    (Op.equalIn (d + 1 + 1) 39 (.agg #[.int .i64 a.kind, .string a.bytes]) (.agg #[.int .i64 b.kind, .string b.bytes])).run Tryd.prog W = .ok (blSame a b) W := by
  have hp : Tryd.prog.stoodInHeld 39 = false := by kernel_rfl
  have hf : Tryd.prog.underlying 39 = some (.struct (Tryd.prog.fieldsOf 39)) := by kernel_rfl
  obtain ⟨f0, f1, hfs, t0, o0, n0, t1, o1, n1⟩ := fields_bl
  have h0 : (Op.equalIn (d + 1) 3 (.int .i64 a.kind) (.int .i64 b.kind)).run Tryd.prog W = .ok (a.kind == b.kind) W := run_equalIn_int W d 3 .i64 .i64 a.kind b.kind (by kernel_rfl)
  have h1 : (Op.equalIn (d + 1) 9 (.string a.bytes) (.string b.bytes)).run Tryd.prog W = .ok (a.bytes.toList == b.bytes.toList) W := run_equalIn_string (P := Tryd.prog) W d 9 a.bytes b.bytes (by kernel_rfl)
  rw [run_equalIn_struct W (d + 1) 39 _ _ hf hp, hfs]
  exact eq_fields2 W (d + 1) _ _ f0 f1 (.int .i64 a.kind) (.string a.bytes) (.int .i64 b.kind) (.string b.bytes) _ _ n0 n1 (by rw [t0, o0]; simp [part, go_sem]) (by rw [t1, o1]; simp [part, go_sem]) (by rw [t0, o0]; simp [part, go_sem]) (by rw [t1, o1]; simp [part, go_sem]) (by rw [t0]; exact h0) (by rw [t1]; exact h1)

theorem bl_cmp (W : World) (a b : Blb) :
    (Op.equalIn 10000 39 (.agg #[.int .i64 a.kind, .string a.bytes]) (.agg #[.int .i64 b.kind, .string b.bytes])).run Tryd.prog W = .ok (blSame a b) W := bl_cmp_at 9998 W a b

theorem part_id (W : World) (e : Ent) : (part 32 (enC e).toArray 0).run Tryd.prog W = .ok (.agg (e.id.map B).toArray) W := by
  have h : List.take 8 (enC e) = List.map B e.id := by
    rw [enC, List.take_append_of_le_length (by rw [List.length_map, e.hid]; omega), List.take_of_length_le (by rw [List.length_map, e.hid]; omega)]
  simp [part, go_sem, h]

theorem enC_8 (e : Ent) : (enC e)[8]? = some (.int .i64 e.kind) := by
  rw [enC, List.getElem?_append_right (by simp [e.hid]), List.length_map, e.hid]; rfl

theorem enC_9 (e : Ent) : (enC e)[9]? = some (.int .i64 e.at_) := by
  rw [enC, List.getElem?_append_right (by simp [e.hid]), List.length_map, e.hid]; rfl

theorem enC_10 (e : Ent) : (enC e)[10]? = some (.int .i64 e.len) := by
  rw [enC, List.getElem?_append_right (by simp [e.hid]), List.length_map, e.hid]; rfl

theorem part_kind (W : World) (e : Ent) : (part 3 (enC e).toArray 8).run Tryd.prog W = .ok (.int .i64 e.kind) W := by
  have h := enC_8 e
  simp [part, go_sem, h]

theorem part_at_ (W : World) (e : Ent) : (part 3 (enC e).toArray 9).run Tryd.prog W = .ok (.int .i64 e.at_) W := by
  have h := enC_9 e
  simp [part, go_sem, h]

theorem part_len (W : World) (e : Ent) : (part 3 (enC e).toArray 10).run Tryd.prog W = .ok (.int .i64 e.len) W := by
  have h := enC_10 e
  simp [part, go_sem, h]

theorem id_eq_at (W : World) (d : Nat) (xs ys : List UInt8) (hx : xs.length = 8) (hy : ys.length = 8) :
    (Op.equalIn (d + 2) 32 (.agg (xs.map B).toArray) (.agg (ys.map B).toArray)).run Tryd.prog W = .ok (xs == ys) W :=
  run_equalIn_bytes (P := Tryd.prog) W d 32 5 8 (by kernel_rfl) (by kernel_rfl) (fun w => by go_simp) xs ys hx hy
end Go.Proofs.YtimdioacmojkeabDoor
